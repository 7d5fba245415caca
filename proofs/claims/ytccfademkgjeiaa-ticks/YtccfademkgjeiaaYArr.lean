import Derived.Test.YtccfademkgjeiaaTkQ
/-
  ARRIVALS: a bid has arrived by now, or its job says when it does.
-/
namespace Go.Proofs.Ytccfademkgjeiaa

def ArrOk (m : MkG) : Prop := ∀ b ∈ m.bids, b.arrival = b.job.arr ∨ b.arrival ≤ m.time
theorem ArrOk.open (c : CfgG) : ArrOk (openM c) := fun b hb => by simp [openM] at hb
theorem ArrOk.logs {m : MkG} (h : ArrOk m) (c : CallG) : ArrOk (m.logs c) := h
theorem ArrOk.submit {m : MkG} (h : ArrOk m) (ten ref : Int) (j : JobG) : ArrOk (submitM m ten ref j) := by
  unfold submitM
  simp only
  split
  · intro b hb
    rcases List.mem_append.1 hb with hb | hb
    · exact h b hb
    · simp at hb
      subst hb
      simp only [newBid, atOf]
      show (if j.arr < m.time then m.time else j.arr) = j.arr ∨ (if j.arr < m.time then m.time else j.arr) ≤ m.time
      split
      · exact .inr (Int.le_refl _)
      · exact .inl rfl
  · exact h
theorem ArrOk.cancel {m : MkG} (h : ArrOk m) (ten ref : Int) : ArrOk (cancelM m ten ref) := by
  unfold cancelM
  simp only
  split
  · intro b hb
    have hb' : b ∈ setState m.bids (findZ m.bids ten ref).toNat 3 := hb
    unfold setState at hb'
    split at hb'
    · rename_i b0 hb0
      rcases List.mem_or_eq_of_mem_set hb' with hb2 | rfl
      · exact h b hb2
      · exact h b0 (List.mem_of_getElem? hb0)
    · exact h b hb'
  · exact h
theorem ArrOk.suspend {m : MkG} (h : ArrOk m) (ten : Int) (on : Bool) : ArrOk (suspendM m ten on) := by
  unfold suspendM
  simp only
  split
  · exact h
  · exact h
theorem ArrOk.cap {m m' : MkG} {f t u z : Int} (h : ArrOk m) (hr : CapRes m f t u z m') : ArrOk m' := by
  rcases hr with ⟨_, _, rfl⟩ | ⟨_, _, _, rfl⟩ | ⟨_, _, _, rfl⟩ <;> exact h
theorem ArrOk.start {m : MkG} (h : ArrOk m) (i : Nat) (t : Int) : ArrOk (startM m i t) := by
  unfold startM
  split
  · rename_i b0 hb0
    intro b hb
    rcases List.mem_or_eq_of_mem_set hb with hb2 | rfl
    · exact h b hb2
    · exact h b0 (List.mem_of_getElem? hb0)
  · exact h
theorem ArrOk.fold (t : Int) : ∀ (l : List Nat) (s : TkS), ArrOk s.1 → ArrOk (l.foldl (tickOne t none) s).1
  | [], _, h => h
  | i :: l, s, h => ArrOk.fold t l (tickOne t none s i) (by
    unfold tickOne
    split
    · exact h
    · split
      · exact h.start i t
      · exact h)
theorem ArrOk.tickEnd {m : MkG} (h : ArrOk m) {t : Int} (ht : m.time ≤ t) : ArrOk (tickEnd t m) := by
  intro b hb
  simp only [Go.Proofs.Ytccfademkgjeiaa.tickEnd, List.mem_map] at hb
  obtain ⟨b', hb', rfl⟩ := hb
  have e : (b'.expire (t + 1)).arrival = b'.arrival ∧ (b'.expire (t + 1)).job = b'.job := by
    unfold BidG.expire
    split <;> exact ⟨rfl, rfl⟩
  rw [e.1, e.2]
  rcases h b' hb' with h1 | h1
  · exact .inl h1
  · exact .inr (by simp only [Go.Proofs.Ytccfademkgjeiaa.tickEnd]; omega)
end Go.Proofs.Ytccfademkgjeiaa
