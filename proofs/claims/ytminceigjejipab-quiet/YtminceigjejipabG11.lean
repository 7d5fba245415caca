import Derived.Test.YtminceigjejipabG4
import Derived.Test.YtminceigjejipabG10
import Derived.Test.YtminceigjejipabG6
import Derived.Test.YtminceigjejipabG9
/-
  ARRIVALS: a bid has arrived by now, or its job says when it does.
-/
namespace Go.Proofs.Ytminceigjejipab

def ArrOk (m : MkG) : Prop := ∀ b ∈ m.bids, b.arrival = b.job.arr ∨ b.arrival ≤ m.time
theorem ArrOk.open (c : CfgG) : ArrOk (openM c) := fun b hb => by simp [openM] at hb
theorem ArrOk.logs {m : MkG} (h : ArrOk m) (c : CallG) : ArrOk (m.logs c) := h
theorem ArrOk.submit {m : MkG} (h : ArrOk m) (ten ref : Int) (j : JobG) : ArrOk (submitM m ten ref j) := by
  unfold submitM
  simp only
  split
  · intro b hb
    rcases List.mem_append.1 hb with hb | hb
    · exact h b hb
    · simp at hb
      subst hb
      simp only [newBid, atOf]
      show (if j.arr < m.time then m.time else j.arr) = j.arr ∨ (if j.arr < m.time then m.time else j.arr) ≤ m.time
      split
      · exact .inr (Int.le_refl _)
      · exact .inl rfl
  · exact h
theorem ArrOk.cancel {m : MkG} (h : ArrOk m) (ten ref : Int) : ArrOk (cancelM m ten ref) := by
  unfold cancelM
  simp only
  split
  · intro b hb
    have hb' : b ∈ setState m.bids (findZ m.bids ten ref).toNat 3 := hb
    unfold setState at hb'
    split at hb'
    · rename_i b0 hb0
      rcases List.mem_or_eq_of_mem_set hb' with hb2 | rfl
      · exact h b hb2
      · exact h b0 (List.mem_of_getElem? hb0)
    · exact h b hb'
  · exact h
theorem ArrOk.suspend {m : MkG} (h : ArrOk m) (ten : Int) (on : Bool) : ArrOk (suspendM m ten on) := by
  unfold suspendM
  simp only
  split
  · exact h
  · exact h
theorem ArrOk.cap {m m' : MkG} {f t u z : Int} (h : ArrOk m) (hr : CapRes m f t u z m') : ArrOk m' := by
  rcases hr with ⟨_, _, rfl⟩ | ⟨_, _, _, rfl⟩ | ⟨_, _, _, rfl⟩ <;> exact h
theorem ArrOk.start {m : MkG} (h : ArrOk m) (i : Nat) (t : Int) : ArrOk (startM m i t) := by
  unfold startM
  split
  · rename_i b0 hb0
    intro b hb
    rcases List.mem_or_eq_of_mem_set hb with hb2 | rfl
    · exact h b hb2
    · exact h b0 (List.mem_of_getElem? hb0)
  · exact h
theorem ArrOk.fold (t : Int) : ∀ (l : List Nat) (s : TkS), ArrOk s.1 → ArrOk (l.foldl (tickOne t none) s).1
  | [], _, h => h
  | i :: l, s, h => ArrOk.fold t l (tickOne t none s i) (by
    unfold tickOne
    split
    · exact h
    · split
      · exact h.start i t
      · exact h)
theorem ArrOk.tickEnd {m : MkG} (h : ArrOk m) {t : Int} (ht : m.time ≤ t) : ArrOk (tickEnd t m) := by
  intro b hb
  simp only [Go.Proofs.Ytminceigjejipab.tickEnd, List.mem_map] at hb
  obtain ⟨b', hb', rfl⟩ := hb
  have e : (b'.expire (t + 1)).arrival = b'.arrival ∧ (b'.expire (t + 1)).job = b'.job := by
    unfold BidG.expire
    split <;> exact ⟨rfl, rfl⟩
  rw [e.1, e.2]
  rcases h b' hb' with h1 | h1
  · exact .inl h1
  · exact .inr (by simp only [Go.Proofs.Ytminceigjejipab.tickEnd]; omega)
end Go.Proofs.Ytminceigjejipab

/-
  THE PROGRAM's LOG AND ACCOUNTS, the pure part: an entry of its log; what is charged, by name. Nothing of the program.
-/
namespace Go.Proofs.Ytminceigjejipab
open Go.RowKit

structure YCG where
  kind : Int
  ten : Int
  ref : Int
  job : JobG
  fr : Int
  to : Int
  un : Int
  on : Bool
def ycgCells (x : YCG) : List Value := [.int .i64 x.kind, .int .i64 x.ten, .int .i64 x.ref, .int .i64 x.job.arr, .int .i64 x.job.dl, .int .i64 x.job.len, .int .i64 x.job.units, .int .i64 x.job.val, .int .i64 x.fr, .int .i64 x.to, .int .i64 x.un, .bool x.on]
def ycgV (x : YCG) : Value := .agg #[.int .i64 x.kind, .int .i64 x.ten, .int .i64 x.ref, .int .i64 x.job.arr, .int .i64 x.job.dl, .int .i64 x.job.len, .int .i64 x.job.units, .int .i64 x.job.val, .int .i64 x.fr, .int .i64 x.to, .int .i64 x.un, .bool x.on]
/-- an entry, as the program keeps it -/
def ycallOf (c : CallG) : YCG :=
  if c.kind = 1 then ⟨1, c.a, c.b, c.job, 0, 0, 0, false⟩
  else if c.kind = 2 then ⟨2, c.a, c.b, noJob, 0, 0, 0, false⟩
  else if c.kind = 3 then ⟨3, 0, 0, noJob, c.a, c.b, c.c, false⟩
  else if c.kind = 4 then ⟨4, c.a, 0, noJob, 0, 0, 0, c.on⟩
  else if c.kind = 5 then ⟨5, 0, 0, noJob, 0, 0, 0, false⟩
  else ⟨0, 0, 0, noJob, 0, 0, 0, false⟩
def ycallCells (c : CallG) : List Value := ycgCells (ycallOf c)
theorem ycallCells_len (c : CallG) : (ycallCells c).length = 12 := rfl
theorem ycall_withV {c : CallG} (h : c.kind = 1) (v : Int) : ycallOf (withV c v) = { ycallOf c with job := { (ycallOf c).job with val := v } } := by
  simp [ycallOf, withV, h]

/-- a bid is charged just if an invoice has its name -/
structure ChdOk (m : MkG) : Prop where
  uniq : ∀ (i k : Nat) (b b' : BidG), m.bids[i]? = some b → m.bids[k]? = some b' → b.ten = b'.ten → b.ref = b'.ref → i = k
  to : ∀ (k : Nat) (b : BidG), m.bids[k]? = some b → b.charged = true → ∃ c ∈ m.charges, c.ten = b.ten ∧ c.ref = b.ref
  fro : ∀ c ∈ m.charges, ∃ (k : Nat) (b : BidG), m.bids[k]? = some b ∧ b.charged = true ∧ c.ten = b.ten ∧ c.ref = b.ref

theorem key_back {l l' : List BidG} (hk : ∀ k : Nat, (l'[k]?).map keyB = (l[k]?).map keyB) {k : Nat} {b' : BidG} (hb : l'[k]? = some b') : ∃ b, l[k]? = some b ∧ keyB b' = keyB b := by
  have := hk k
  rw [hb] at this
  cases h : l[k]? with
  | none => rw [h] at this; cases this
  | some b => rw [h] at this; exact ⟨b, rfl, Option.some.inj this⟩
theorem keyB_ten {b b' : BidG} (h : keyB b' = keyB b) : b'.ten = b.ten := congrArg (·.1) h
theorem keyB_ref {b b' : BidG} (h : keyB b' = keyB b) : b'.ref = b.ref := congrArg (·.2.1) h
theorem keyB_entry {b b' : BidG} (h : keyB b' = keyB b) : b'.entry = b.entry := congrArg (·.2.2.2.2.1) h
theorem keyB_charged {b b' : BidG} (h : keyB b' = keyB b) : b'.charged = b.charged := congrArg (·.2.2.2.2.2) h

theorem ChdOk.of_key {m m' : MkG} (h : ChdOk m) (hk : ∀ k : Nat, (m'.bids[k]?).map keyB = (m.bids[k]?).map keyB) (hc : m'.charges = m.charges) : ChdOk m' := by
  refine ⟨fun i k b b' hb hb' h1 h2 => ?_, fun k b hb hch => ?_, fun c hcm => ?_⟩
  · obtain ⟨b0, hb0, e0⟩ := key_back hk hb
    obtain ⟨b1, hb1, e1⟩ := key_back hk hb'
    exact h.uniq i k b0 b1 hb0 hb1 (by rw [← keyB_ten e0, ← keyB_ten e1]; exact h1) (by rw [← keyB_ref e0, ← keyB_ref e1]; exact h2)
  · obtain ⟨b0, hb0, e0⟩ := key_back hk hb
    obtain ⟨c, h1, h2, h3⟩ := h.to k b0 hb0 (by rw [← keyB_charged e0]; exact hch)
    exact ⟨c, by rw [hc]; exact h1, by rw [keyB_ten e0]; exact h2, by rw [keyB_ref e0]; exact h3⟩
  · rw [hc] at hcm
    obtain ⟨k, b0, h1, h2, h3, h4⟩ := h.fro c hcm
    obtain ⟨b1, hb1, e1⟩ := key_back (fun k => (hk k).symm) h1
    exact ⟨k, b1, hb1, by rw [← keyB_charged e1]; exact h2, by rw [← keyB_ten e1]; exact h3, by rw [← keyB_ref e1]; exact h4⟩
theorem ChdOk.open (c : CfgG) : ChdOk (openM c) := ⟨fun i k b b' hb => by simp [openM] at hb, fun k b hb => by simp [openM] at hb, fun c hc => by simp [openM] at hc⟩
theorem ChdOk.logs {m : MkG} (h : ChdOk m) (c : CallG) : ChdOk (m.logs c) := ⟨h.uniq, h.to, h.fro⟩

theorem yfindZ_none {l : List BidG} {ten ref : Int} (h : findZ l ten ref < 0) : ∀ b ∈ l, ¬ (b.ten = ten ∧ b.ref = ref) := by
  intro b hb ⟨h1, h2⟩
  unfold findZ findL at h
  cases hf : l.findIdx? fun b => b.is ten ref with
  | none =>
    have := List.findIdx?_eq_none_iff.1 hf b hb
    simp [BidG.is, h1, h2] at this
  | some i => rw [hf] at h; simp at h; omega

theorem ChdOk.submit {m : MkG} (h : ChdOk m) (ten ref : Int) (j : JobG) : ChdOk (submitM m ten ref j) := by
  unfold submitM
  simp only
  split
  · rename_i he
    have hR : refB m ten ref = false := by
      cases hT : m.tenB ten
      · simp [submitE, hT] at he
      cases hS : suspAt m ten
      · cases hR : refB m ten ref
        · rfl
        · simp [submitE, hT, hS, hR] at he
      · simp [submitE, hT, hS] at he
    have hno := yfindZ_none (l := m.bids) (ten := ten) (ref := ref) (by simp [refB] at hR; omega)
    have hget : ∀ (k : Nat) (b : BidG), (m.bids ++ [newBid m ten ref j])[k]? = some b → (m.bids[k]? = some b ∧ k < m.bids.length) ∨ (k = m.bids.length ∧ b = newBid m ten ref j) := by
      intro k b hb
      rcases Nat.lt_or_ge k m.bids.length with hk | hk
      · rw [List.getElem?_append_left hk] at hb
        exact .inl ⟨hb, hk⟩
      · rw [List.getElem?_append_right hk] at hb
        have hk0 : k - m.bids.length = 0 := by
          have := (List.getElem?_eq_some_iff.1 hb).1
          simp at this
          omega
        rw [hk0] at hb
        exact .inr ⟨by omega, (Option.some.inj hb).symm⟩
    refine ⟨fun i k b b' hb hb' h1 h2 => ?_, fun k b hb hch => ?_, fun c hc => ?_⟩
    · rcases hget i b hb with ⟨g1, _⟩ | ⟨e1, f1⟩ <;> rcases hget k b' hb' with ⟨g2, _⟩ | ⟨e2, f2⟩
      · exact h.uniq i k b b' g1 g2 h1 h2
      · subst f2
        exact absurd ⟨h1, h2⟩ (hno b (List.mem_of_getElem? g1))
      · subst f1
        exact absurd ⟨h1.symm, h2.symm⟩ (hno b' (List.mem_of_getElem? g2))
      · omega
    · rcases hget k b hb with ⟨g1, _⟩ | ⟨_, f1⟩
      · exact h.to k b g1 hch
      · subst f1
        simp [newBid] at hch
    · obtain ⟨k, b, h1, h2, h3, h4⟩ := h.fro c hc
      exact ⟨k, b, by show (m.bids ++ [newBid m ten ref j])[k]? = some b; rw [List.getElem?_append_left (List.getElem?_eq_some_iff.1 h1).1]; exact h1, h2, h3, h4⟩
  · exact h.logs _
theorem ChdOk.cancel {m : MkG} (h : ChdOk m) (ten ref : Int) : ChdOk (cancelM m ten ref) :=
  h.of_key (key_cancel m ten ref) (by unfold cancelM; simp only; split <;> rfl)
theorem ChdOk.suspend {m : MkG} (h : ChdOk m) (ten : Int) (on : Bool) : ChdOk (suspendM m ten on) :=
  h.of_key (fun k => by unfold suspendM; simp only; split <;> rfl) (by unfold suspendM; simp only; split <;> rfl)
theorem ChdOk.cap {m m' : MkG} {f t u z : Int} (h : ChdOk m) (hr : CapRes m f t u z m') : ChdOk m' := by
  rcases hr with ⟨_, _, rfl⟩ | ⟨_, _, _, rfl⟩ | ⟨_, _, _, rfl⟩ <;> exact ⟨h.uniq, h.to, h.fro⟩
theorem tickF_charges {m : MkG} (hok : MkOk m) (hg : m.ghost = -1) (hl : m.log.length < 300) : (tickF m).charges = m.charges ∧ (tickF m).paid = m.paid := by
  unfold tickF
  split
  · exact ⟨rfl, rfl⟩
  · have g1 : ghostI (m.logs callTick) m.time = none := ghostI_none (hok.logs hl callTick) hg m.time
    unfold tickM
    simp only [g1, wantEnd]
    have := AlikeM.fold m.time none (orderL m m.time) (m.logs callTick, [])
    exact ⟨this.charges, this.paid⟩
theorem ChdOk.tick {m : MkG} (h : ChdOk m) (hok : MkOk m) (hg : m.ghost = -1) (hl : m.log.length < 300) : ChdOk (tickF m) :=
  h.of_key (key_tick m) (tickF_charges hok hg hl).1
theorem ChdOk.pay {m : MkG} (h : ChdOk m) (ten cents : Int) : ChdOk (payM m ten cents) :=
  h.of_key (fun k => by unfold payM; simp only; split <;> rfl) (by unfold payM; simp only; split <;> rfl)

theorem bill_ten (b : BidG) (t : Int) : (b.bill t).ten = b.ten ∧ (b.bill t).ref = b.ref ∧ (b.bill t).entry = b.entry ∧ (b.charged = true → (b.bill t).charged = true) ∧ (b.dueB t = true → (b.bill t).charged = true) ∧ ((b.bill t).charged = true → b.charged = true ∨ b.dueB t = true) := by
  unfold BidG.bill
  split
  · rename_i hd
    exact ⟨rfl, rfl, rfl, fun _ => rfl, fun _ => rfl, fun _ => .inr hd⟩
  · rename_i hd
    exact ⟨rfl, rfl, rfl, fun h => h, fun h => absurd h hd, fun h => .inl h⟩
theorem ChdOk.bill {m : MkG} (h : ChdOk m) : ChdOk (billM m) := by
  have hget : ∀ (k : Nat) (b : BidG), (m.bids.map fun b => b.bill m.time)[k]? = some b → ∃ b0, m.bids[k]? = some b0 ∧ b = b0.bill m.time := by
    intro k b hb
    rw [List.getElem?_map] at hb
    cases h0 : m.bids[k]? with
    | none => rw [h0] at hb; cases hb
    | some b0 => rw [h0] at hb; exact ⟨b0, rfl, (Option.some.inj hb).symm⟩
  have hput : ∀ (k : Nat) (b : BidG), m.bids[k]? = some b → (billM m).bids[k]? = some (b.bill m.time) := by
    intro k b hb
    show (m.bids.map fun b => b.bill m.time)[k]? = _
    rw [List.getElem?_map, hb]
    rfl
  refine ⟨fun i k b b' hb hb' h1 h2 => ?_, fun k b hb hch => ?_, fun c hc => ?_⟩
  · obtain ⟨b0, g0, rfl⟩ := hget i b hb
    obtain ⟨b1, g1, rfl⟩ := hget k b' hb'
    exact h.uniq i k b0 b1 g0 g1 (by rw [← (bill_ten b0 m.time).1, ← (bill_ten b1 m.time).1]; exact h1) (by rw [← (bill_ten b0 m.time).2.1, ← (bill_ten b1 m.time).2.1]; exact h2)
  · obtain ⟨b0, g0, rfl⟩ := hget k b hb
    obtain ⟨e1, e2, _, _, _, e6⟩ := bill_ten b0 m.time
    rw [e1, e2]
    rcases e6 hch with e | e
    · obtain ⟨c, c1, c2⟩ := h.to k b0 g0 e
      exact ⟨c, List.mem_append_left _ c1, c2⟩
    · refine ⟨invOf (m.logs callBill) b0, List.mem_append_right _ ?_, rfl, rfl⟩
      exact List.mem_map.2 ⟨b0, List.mem_filter.2 ⟨List.mem_of_getElem? g0, e⟩, rfl⟩
  · rcases List.mem_append.1 hc with hc | hc
    · obtain ⟨k, b, h1, h2, h3, h4⟩ := h.fro c hc
      obtain ⟨e1, e2, _, e4, _, _⟩ := bill_ten b m.time
      exact ⟨k, b.bill m.time, hput k b h1, e4 h2, by rw [e1]; exact h3, by rw [e2]; exact h4⟩
    · obtain ⟨b, hb, rfl⟩ := List.mem_map.1 hc
      obtain ⟨hb1, hb2⟩ := List.mem_filter.1 hb
      obtain ⟨k, hk⟩ := List.getElem?_of_mem hb1
      obtain ⟨e1, e2, _, _, e5, _⟩ := bill_ten b m.time
      exact ⟨k, b.bill m.time, hput k b hk, e5 hb2, by rw [e1]; rfl, by rw [e2]; rfl⟩

/-- an invoice of that name -/
def hasInv (l : List InvG) (ten ref : Int) : Bool := l.any fun c => (c.ten == ten) && (c.ref == ref)
/-- as the bids before it have been charged, a bid is charged just if it was -/
theorem ChdOk.any {m : MkG} (h : ChdOk m) {k : Nat} {b : BidG} (hb : m.bids[k]? = some b) (m1 : MkG) : hasInv (m.charges ++ dueL m1 (m.bids.take k)) b.ten b.ref = b.charged := by
  rw [Bool.eq_iff_iff]
  simp only [hasInv, List.any_eq_true, Bool.and_eq_true, beq_iff_eq]
  constructor
  · rintro ⟨c, hc, h1, h2⟩
    rcases List.mem_append.1 hc with hc | hc
    · obtain ⟨k', b', g1, g2, g3, g4⟩ := h.fro c hc
      have := h.uniq k' k b' b g1 hb (by rw [← g3]; exact h1) (by rw [← g4]; exact h2)
      subst this
      rw [hb] at g1
      rw [Option.some.inj g1]
      exact g2
    · obtain ⟨b', hb', rfl⟩ := List.mem_map.1 hc
      obtain ⟨hb1, _⟩ := List.mem_filter.1 hb'
      obtain ⟨i, hi⟩ := List.getElem?_of_mem hb1
      have hik : i < k := by
        have := (List.getElem?_eq_some_iff.1 hi).1
        rw [List.length_take] at this
        omega
      rw [List.getElem?_take_of_lt hik] at hi
      have := h.uniq i k b' b hi hb h1 h2
      omega
  · intro hch
    obtain ⟨c, c1, c2, c3⟩ := h.to k b hb hch
    exact ⟨c, List.mem_append_left _ c1, c2, c3⟩
end Go.Proofs.Ytminceigjejipab

/-
  THE REPLAY, as the program makes it: what its market keeps; the bid that is asked for is found there under its name. Nothing of the program.
-/
namespace Go.Proofs.Ytminceigjejipab
open Go.RowKit

structure RepOk (X : MkG) : Prop where
  ok : MkOk X
  arr : ArrOk X
  chd : ChdOk X
  ent : EntOk X
  gh : X.ghost = -1

theorem ArrOk.tickF {m : MkG} (h : ArrOk m) (hok : MkOk m) (hg : m.ghost = -1) (hl : m.log.length < 300) : ArrOk (tickF m) := by
  unfold Go.Proofs.Ytminceigjejipab.tickF
  split
  · exact h
  · have g1 : ghostI (m.logs callTick) m.time = none := ghostI_none (hok.logs hl callTick) hg m.time
    unfold tickM
    simp only [g1, wantEnd]
    refine (ArrOk.fold m.time (orderL m m.time) (m.logs callTick, []) h).tickEnd ?_
    have := (AlikeM.fold m.time none (orderL m m.time) (m.logs callTick, [])).time
    show ((orderL m m.time).foldl (tickOne m.time none) (m.logs callTick, [])).1.time ≤ _
    rw [this]
    exact Int.le_refl _
theorem tickF_ghost {m : MkG} (hok : MkOk m) (hg : m.ghost = -1) (hl : m.log.length < 300) : (tickF m).ghost = -1 := by
  unfold tickF
  split
  · exact hg
  · have g1 : ghostI (m.logs callTick) m.time = none := ghostI_none (hok.logs hl callTick) hg m.time
    unfold tickM
    simp only [g1, wantEnd]
    have := (AlikeM.fold m.time none (orderL m m.time) (m.logs callTick, [])).ghost
    exact this.trans hg

theorem RepOk.open {c : CfgG} (hc : cfgOk c = true) : RepOk (openM c) :=
  ⟨MkOk.open hc, ArrOk.open c, ChdOk.open c, ⟨fun i k b b' hb => by simp [openM] at hb, fun b hb => by simp [openM] at hb⟩, rfl⟩
theorem RepOk.again {X : MkG} (h : RepOk X) (hl : X.log.length < 300) (c : CallG) : RepOk (againM X c) := by
  have h1 := h.ok.again c
  have h2 := h.ent.again hl c
  refine ⟨h1, ?_, ?_, h2, ?_⟩
  · unfold againM
    split
    · exact h.arr
    · split
      · exact h.arr.submit _ _ _
      · split
        · exact h.arr.cancel _ _
        · split
          · obtain ⟨z, hz⟩ := capM_res X c.a c.b c.c
            exact h.arr.cap hz
          · split
            · exact h.arr.suspend _ _
            · split
              · exact h.arr.tickF h.ok h.gh hl
              · exact h.arr.logs c
  · unfold againM
    split
    · exact h.chd
    · split
      · exact h.chd.submit _ _ _
      · split
        · exact h.chd.cancel _ _
        · split
          · obtain ⟨z, hz⟩ := capM_res X c.a c.b c.c
            exact h.chd.cap hz
          · split
            · exact h.chd.suspend _ _
            · split
              · exact h.chd.tick h.ok h.gh hl
              · exact h.chd.logs c
  · unfold againM
    split
    · exact h.gh
    · split
      · unfold submitM; simp only; split <;> exact h.gh
      · split
        · unfold cancelM; simp only; split <;> exact h.gh
        · split
          · unfold capM
            split
            · exact h.gh
            · split <;> exact h.gh
          · split
            · unfold suspendM; simp only; split <;> exact h.gh
            · split
              · exact tickF_ghost h.ok h.gh hl
              · exact h.gh
theorem fold_log : ∀ (l : List CallG) (X : MkG), X.log.length + l.length ≤ 300 → (l.foldl againM X).log.length = X.log.length + l.length
  | [], _, _ => rfl
  | c :: l, X, h => by
    simp only [List.length_cons] at h
    have h1 := again_log (m := X) (by omega) c
    have := fold_log l (againM X c) (by omega)
    simp only [List.foldl_cons, List.length_cons]
    omega
theorem RepOk.fold : ∀ (l : List CallG) {X : MkG}, RepOk X → X.log.length + l.length ≤ 300 → RepOk (l.foldl againM X)
  | [], _, h, _ => h
  | c :: l, X, h, hl => by
    simp only [List.length_cons] at hl
    have h1 := again_log (m := X) (by omega) c
    exact RepOk.fold l (h.again (by omega) c) (by omega)

/-- the bids behind a call of the log: those before it, with one more or none -/
theorem again_shape {X : MkG} (c : CallG) : (∀ k : Nat, ((againM X c).bids[k]?).map keyB = (X.bids[k]?).map keyB) ∨ (againM X c).bids = X.bids ++ [newBid X c.a c.b c.job] := by
  unfold againM
  split
  · exact .inl fun _ => rfl
  · split
    · unfold submitM
      simp only
      split
      · exact .inr rfl
      · exact .inl fun _ => rfl
    · split
      · exact .inl (key_cancel X _ _)
      · split
        · refine .inl (fun k => ?_)
          unfold capM
          split
          · rfl
          · split <;> rfl
        · split
          · exact .inl (fun k => by unfold suspendM; simp only; split <;> rfl)
          · split
            · exact .inl (key_tick X)
            · exact .inl fun _ => rfl

def OwnE (e ten ref : Int) (X : MkG) : Prop := ∃ (k : Nat) (b : BidG), X.bids[k]? = some b ∧ b.ten = ten ∧ b.ref = ref ∧ b.entry = e
theorem OwnE.again {e ten ref : Int} {X : MkG} (h : OwnE e ten ref X) (c : CallG) : OwnE e ten ref (againM X c) := by
  obtain ⟨k, b, hb, h1, h2, h3⟩ := h
  rcases again_shape (X := X) c with hs | hs
  · obtain ⟨b', hb', hk⟩ := key_back (fun k => (hs k).symm) hb
    exact ⟨k, b', hb', by rw [← keyB_ten hk]; exact h1, by rw [← keyB_ref hk]; exact h2, by rw [← keyB_entry hk]; exact h3⟩
  · exact ⟨k, b, by rw [hs, List.getElem?_append_left (List.getElem?_eq_some_iff.1 hb).1]; exact hb, h1, h2, h3⟩
theorem OwnE.fold {e ten ref : Int} : ∀ (l : List CallG) {X : MkG}, OwnE e ten ref X → OwnE e ten ref (l.foldl againM X)
  | [], _, h => h
  | c :: l, _, h => OwnE.fold l (h.again c)
def NoE (e : Int) (X : MkG) : Prop := ∀ b ∈ X.bids, b.entry ≠ e
theorem NoE.again {e : Int} {X : MkG} (h : NoE e X) (hl : e < X.log.length) (c : CallG) : NoE e (againM X c) := by
  intro b hb
  rcases again_shape (X := X) c with hs | hs
  · obtain ⟨k, hk⟩ := List.getElem?_of_mem hb
    obtain ⟨b', hb', hk'⟩ := key_back hs hk
    rw [keyB_entry hk']
    exact h b' (List.mem_of_getElem? hb')
  · rw [hs] at hb
    rcases List.mem_append.1 hb with hb | hb
    · exact h b hb
    · simp at hb
      subst hb
      simp only [newBid]
      omega
theorem NoE.fold {e : Int} : ∀ (l : List CallG) {X : MkG}, NoE e X → e < X.log.length → X.log.length + l.length ≤ 300 → NoE e (l.foldl againM X)
  | [], _, h, _, _ => h
  | c :: l, X, h, he, hl => by
    simp only [List.length_cons] at hl
    have h1 := again_log (m := X) (by omega) c
    exact NoE.fold l (h.again he c) (by omega) (by omega)

theorem jobB_val {m : MkG} {j : JobG} {v : Int} (h : m.jobB j = true) (h1 : 1 ≤ v) (h2 : v ≤ 1048576) : m.jobB { j with val := v } = true := by
  unfold MkG.jobB at h ⊢
  rw [Bool.and_eq_true] at h ⊢
  refine ⟨?_, h.2⟩
  have hj := h.1
  simp only [jobIn, Bool.and_eq_true, decide_eq_true_eq] at hj ⊢
  omega
theorem submitE_val {m : MkG} {ten ref : Int} {j : JobG} {v : Int} (h : submitE m ten ref j = 0) (h1 : 1 ≤ v) (h2 : v ≤ 1048576) : submitE m ten ref { j with val := v } = 0 := by
  cases hT : m.tenB ten
  · simp [submitE, hT] at h
  cases hS : suspAt m ten
  · cases hR : refB m ten ref
    · cases hJ : m.jobB j
      · simp [submitE, hT, hS, hR, hJ] at h
      · have hJ' := jobB_val hJ h1 h2
        simp [submitE, hT, hS, hR, hJ] at h
        simp [submitE, hT, hS, hR, hJ']
        omega
    · simp [submitE, hT, hS, hR] at h
  · simp [submitE, hT, hS] at h

/-- the calls of the log, with the value v at entry e -/
def logV (e : Nat) (v : Int) (log : List CallG) : List CallG := log.mapIdx fun i x => if i = e then withV x v else x
theorem logV_get (e : Nat) (v : Int) (log : List CallG) (k : Nat) : (logV e v log)[k]? = (log[k]?).map fun x => if k = e then withV x v else x := by
  simp [logV, List.getElem?_mapIdx]
theorem logV_len (e : Nat) (v : Int) (log : List CallG) : (logV e v log).length = log.length := by simp [logV]
theorem replayV_eq (c : CfgG) (e : Nat) (v : Int) (log : List CallG) : replayV c e v log = (logV e v log).foldl againM (openM c) := rfl

theorem fold_split (l : List CallG) (X : MkG) (e : Nat) (x : CallG) (h : l[e]? = some x) : l.foldl againM X = (l.drop (e + 1)).foldl againM (againM ((l.take e).foldl againM X) x) := by
  have hl := (List.getElem?_eq_some_iff.1 h).1
  have hx : l[e] = x := (List.getElem?_eq_some_iff.1 h).2
  conv => lhs; rw [← List.take_append_drop e l]
  rw [List.foldl_append, List.drop_eq_getElem_cons hl, List.foldl_cons, hx]

theorem own_replayV {c : CfgG} {log : List CallG} {e : Nat} {ten ref : Int} {j : JobG} {v : Int} (hlen : log.length ≤ 300) (he : log[e]? = some (callSubmit ten ref j)) (hown : ∃ b ∈ (replay c log).bids, b.entry = (e : Int)) (h1 : 1 ≤ v) (h2 : v ≤ 1048576) : OwnE e ten ref (replayV c e v log) := by
  have hel := (List.getElem?_eq_some_iff.1 he).1
  have hP : ((log.take e).foldl againM (openM c)).log.length = e := by
    rw [fold_log _ _ (by simp [openM]; omega)]
    simp [openM]
    omega
  obtain ⟨P, hPd⟩ : ∃ P, P = (log.take e).foldl againM (openM c) := ⟨_, rfl⟩
  rw [← hPd] at hP
  have hacc : submitE P ten ref j = 0 := by
    by_cases hz : submitE P ten ref j = 0
    · exact hz
    exfalso
    obtain ⟨b, hb, hbe⟩ := hown
    have hR : replay c log = (log.drop (e + 1)).foldl againM (againM P (callSubmit ten ref j)) := by
      unfold replay
      rw [fold_split log (openM c) e _ he, hPd]
    have hb1 : (againM P (callSubmit ten ref j)).bids = P.bids := by
      rw [again_submit (by omega)]
      unfold submitM
      simp only
      rw [if_neg hz]
      rfl
    have hent : ∀ (l : List CallG) (X : MkG), EntOk X → X.log.length + l.length ≤ 300 → EntOk (l.foldl againM X) := by
      intro l
      induction l with
      | nil => exact fun X h _ => h
      | cons y l ih =>
        intro X h hl
        simp only [List.length_cons] at hl
        have := again_log (m := X) (by omega) y
        exact ih _ (h.again (by omega) y) (by omega)
    have hPe : EntOk P := by
      rw [hPd]
      exact hent _ _ ⟨fun i k b b' hb => by simp [openM] at hb, fun b hb => by simp [openM] at hb⟩ (by simp [openM]; omega)
    have hno : NoE e (againM P (callSubmit ten ref j)) := by
      intro b hb
      rw [hb1] at hb
      have := (hPe.in' b hb).2
      omega
    have hlg := again_log (m := P) (by omega) (callSubmit ten ref j)
    have := NoE.fold (log.drop (e + 1)) hno (by omega) (by rw [List.length_drop]; omega)
    rw [hR] at hb
    exact this b hb hbe
  have hLe : (logV e v log)[e]? = some (withV (callSubmit ten ref j) v) := by rw [logV_get, he]; simp
  have hLt : (logV e v log).take e = log.take e := by
    apply List.ext_getElem?
    intro i
    by_cases hi : i < e
    · rw [List.getElem?_take_of_lt hi, List.getElem?_take_of_lt hi, logV_get]
      cases log[i]? with
      | none => rfl
      | some x => simp [show i ≠ e by omega]
    · rw [List.getElem?_eq_none (by rw [List.length_take]; omega), List.getElem?_eq_none (by rw [List.length_take]; omega)]
  rw [replayV_eq, fold_split (logV e v log) (openM c) e _ hLe, hLt, ← hPd]
  refine OwnE.fold _ ?_
  have hw : againM P (withV (callSubmit ten ref j) v) = submitM P ten ref { j with val := v } := again_submit (R := P) (by omega) ten ref { j with val := v }
  rw [hw]
  unfold submitM
  simp only
  rw [if_pos (submitE_val hacc h1 h2)]
  refine ⟨P.bids.length, newBid P ten ref { j with val := v }, ?_, rfl, rfl, ?_⟩
  · show (P.bids ++ [newBid P ten ref { j with val := v }])[P.bids.length]? = _
    simp
  · simp [newBid, hP]

theorem RepOk.replayV {c : CfgG} (hc : cfgOk c = true) {log : List CallG} (hlen : log.length ≤ 300) (e : Nat) (v : Int) : RepOk (replayV c e v log) := by
  rw [replayV_eq]
  exact RepOk.fold _ (RepOk.open hc) (by rw [logV_len]; simp [openM]; omega)

/-- in the replay the bid is found under its name: it has won just if its price is no more -/
theorem Hist.wins {m : MkG} (h : Hist m) (hok : MkOk m) {i : Nat} {b : BidG} (hb : m.bids[i]? = some b) (hw : b.state = 2) : ∃ e : Nat, b.entry = e ∧ m.log[e]? = some (callSubmit b.ten b.ref b.job) ∧ ∀ v : Int, 1 ≤ v → v ≤ 1048576 → (lookS (replayV m.c e v m.log) b.ten b.ref = 2 ↔ priceM m b.entry ≤ v) := by
  have hsub : SubOk (replay m.c m.log) := SubOk.fold m.log (SubOk.open m.c)
  have hR : (replay m.c m.log).bids[i]? = some (unc b) := by rw [HistM.get h, hb]; rfl
  obtain ⟨e, he, hle⟩ := hsub i (unc b) hR
  rw [HistM.log h] at hle
  have he' : b.entry = e := he
  have hle' : m.log[e]? = some (callSubmit b.ten b.ref b.job) := hle
  have hj := jobIn_true (hok.bid b (List.mem_of_getElem? hb)).job
  refine ⟨e, he', hle', fun v h1 h2 => ?_⟩
  have hrep : RepOk (replayV m.c e v m.log) := RepOk.replayV hok.ck hok.nl e v
  obtain ⟨k, b2, hb2, g1, g2, g3⟩ := own_replayV (c := m.c) hok.nl hle' ⟨unc b, List.mem_of_getElem? hR, he⟩ h1 h2
  have hbo := hrep.ok.bid b2 (List.mem_of_getElem? hb2)
  have hfz : findZ (replayV m.c e v m.log).bids b.ten b.ref = k := findZ_some hb2 (by simp [BidG.is, g1, g2]) (fun k' x hk hx => by
    cases hi : x.is b.ten b.ref
    · rfl
    · simp [BidG.is] at hi
      have := hrep.chd.uniq k' k x b2 hx hb2 (by rw [hi.1, g1]) (by rw [hi.2, g2])
      omega)
  have hT : (replayV m.c e v m.log).tenB b.ten = true := by
    have := hbo.t0
    have := hbo.t1
    simp only [MkG.tenB, Bool.and_eq_true, decide_eq_true_eq]
    omega
  have hE : lookE (replayV m.c e v m.log) b.ten b.ref = 0 := by simp [lookE, hT, hfz]
  have hS : lookS (replayV m.c e v m.log) b.ten b.ref = b2.state := by
    rw [lookS, hE, if_pos rfl, hfz]
    simp [stateAt, hb2]
  have hth := replay_threshold (c := m.c) hok.ck h1 h2 hok.nl (log := m.log) (e := e) (fun x hx => by
    rw [hle'] at hx
    obtain rfl := Option.some.inj hx
    exact ⟨rfl, by show 1 ≤ b.job.val; omega, by show b.job.val ≤ 1048576; omega⟩)
  have hpr := h.price hok hb hw
  have hpe : priceM m b.entry = (replayG m.c e m.log).need := by rw [he']; rfl
  rw [hS]
  constructor
  · intro hs
    have := (hth.1 ⟨k, b2, hb2, g3, hs⟩).2
    omega
  · intro hp
    obtain ⟨i2, b3, hb3, e3, s3⟩ := hth.2 ⟨by omega, by omega⟩
    have := hrep.ent.uniq hb3 hb2 (by rw [e3, g3])
    subst this
    rw [hb2] at hb3
    rw [Option.some.inj hb3]
    exact s3
end Go.Proofs.Ytminceigjejipab

/-
  THE PROGRAM's YARD IN MEMORY (stage 4's landed code): the market, its log and its accounts.
-/
namespace Go.Proofs.Ytminceigjejipab
open Go.RowKit

/-- the log, the bids' entries, the invoices, what is paid -/
structure LV where
  cv : Value
  nv : Value
  iv : Value
  pv : Value
def LV.foot (L : LV) (p k : Nat) : Prop := k = p ∨ L.cv.ownBlock = some k ∨ L.nv.ownBlock = some k ∨ L.iv.ownBlock = some k ∨ L.pv.ownBlock = some k
def ybBox (q : Nat) (L : LV) : Array Value := #[.pointer (some ⟨q, 0, none⟩), L.cv, L.nv, L.iv, L.pv]
structure YbAt (w : World) (p q : Nat) (L : LV) (lg : List CallG) (es : List Int) (ch : List InvG) (pd : List Int) : Prop where
  box : w.heap[p]? = some (.cells (ybBox q L) 71 (0, 0))
  calls : w.ownsRow 0 88 12 L.cv lg.length (lg.flatMap ycallCells)
  subs : w.ownsRow 0 3 1 L.nv es.length (es.map (Value.int .i64))
  invs : w.ownsRow 0 91 3 L.iv ch.length (ch.flatMap invCells)
  paid : w.ownsRow 0 3 1 L.pv pd.length (pd.map (Value.int .i64))
  ne : ∀ k, L.nv.ownBlock = some k → L.pv.ownBlock ≠ some k

section
variable {w : World} {p q : Nat} {L : LV} {lg : List CallG} {es : List Int} {ch : List InvG} {pd : List Int}
theorem YbAt.lt (h : YbAt w p q L lg es ch pd) : p < w.heap.size := (Array.getElem?_eq_some_iff.1 h.box).1
theorem YbAt.foot_lt (h : YbAt w p q L lg es ch pd) (k : Nat) (hk : L.foot p k) : k < w.heap.size := by
  rcases hk with rfl | hk | hk | hk | hk
  · exact h.lt
  · exact (h.calls.lt k hk).2
  · exact (h.subs.lt k hk).2
  · exact (h.invs.lt k hk).2
  · exact (h.paid.lt k hk).2
theorem YbAt.frame {w' : World} (h : YbAt w p q L lg es ch pd) (hf : ∀ k, L.foot p k → w'.heap[k]? = w.heap[k]?) : YbAt w' p q L lg es ch pd :=
  ⟨(hf _ (.inl rfl)).trans h.box, ownsRow_keep h.calls (fun k hk => hf k (.inr (.inl hk))), ownsRow_keep h.subs (fun k hk => hf k (.inr (.inr (.inl hk)))), ownsRow_keep h.invs (fun k hk => hf k (.inr (.inr (.inr (.inl hk))))), ownsRow_keep h.paid (fun k hk => hf k (.inr (.inr (.inr (.inr hk))))), h.ne⟩
theorem YbAt.chg {O : Nat → Prop} {w' : World} (h : YbAt w p q L lg es ch pd) (hc : Chg O w w') (hO : ∀ k, L.foot p k → ¬ O k) : YbAt w' p q L lg es ch pd := h.frame (fun k hk => hc.block k (h.foot_lt k hk) (hO k hk))
theorem YbAt.chg0 {w' : World} (h : YbAt w p q L lg es ch pd) (hc : Chg (fun _ => False) w w') : YbAt w' p q L lg es ch pd := h.chg hc (fun _ _ h => h)
theorem YbAt.cell (h : YbAt w p q L lg es ch pd) (f : Nat) : w.cell? ⟨p, f, none⟩ = (ybBox q L)[f]? := by
  unfold World.cell?
  rw [h.box]
  rfl
theorem YbAt.free (h : YbAt w p q L lg es ch pd) (f : Nat) : w.frozen? ⟨p, f, none⟩ = false := by
  unfold World.frozen?
  rw [h.box]
  simp
end

/-- a yard's own part that has become another -/
def YbTo (w : World) (p q : Nat) (L : LV) (lg : List CallG) (es : List Int) (ch : List InvG) (pd : List Int) (w' : World) : Prop :=
  ∃ L', YbAt w' p q L' lg es ch pd ∧ Chg (L.foot p) w w' ∧ ∀ k, L'.foot p k → L.foot p k ∨ w.heap.size ≤ k

section
variable {w w1 w2 : World} {p q : Nat} {L : LV} {lg : List CallG} {es : List Int} {ch : List InvG} {pd : List Int} {g cap : Nat}
theorem YbTo.chg0 (h : YbTo w p q L lg es ch pd w1) (hc : Chg (fun _ => False) w1 w2) : YbTo w p q L lg es ch pd w2 := by
  obtain ⟨L', h1, h2, h3⟩ := h
  exact ⟨L', h1.chg0 hc, h2.trans hc (fun _ _ h => h.elim), h3⟩
theorem YbTo.start (hc : Chg (fun _ => False) w w1) (h : YbTo w1 p q L lg es ch pd w2) : YbTo w p q L lg es ch pd w2 := by
  obtain ⟨L', h1, h2, h3⟩ := h
  exact ⟨L', h1, (hc.mono (fun _ _ h => h.elim)).trans h2 (fun _ _ h => h), fun k hk => by
    rcases h3 k hk with h | h
    · exact .inl h
    · exact .inr (Nat.le_trans hc.size h)⟩

/-- an entry of the log more -/
theorem YbAt.callMore {c : CallG} (h : YbAt w p q L lg es ch pd) (hc1 : Chg (fun _ => False) w w1)
    (hown : w2.ownsRow 0 88 12 (.slice (some ⟨g, 0, none⟩) (lg.length + 1) cap) (lg.length + 1) (lg.flatMap ycallCells ++ ycallCells c)) (hgrow : w1.grownBy w2 L.cv.ownBlock) (hat : L.cv.ownBlock = some g ∨ w.heap.size ≤ g) :
    w2.cell? ⟨p, 1, none⟩ = some L.cv ∧ w2.frozen? ⟨p, 1, none⟩ = false ∧ YbTo w p q L (lg ++ [c]) es ch pd (w2.setCell ⟨p, 1, none⟩ (.slice (some ⟨g, 0, none⟩) (lg.length + 1) cap)) := by
  have h1 := h.chg0 hc1
  have nl : L.cv.ownBlock ≠ some p := ownsRow_box h1.calls h1.box (by decide)
  have keep : ∀ k, L.foot p k → L.cv.ownBlock ≠ some k → w2.heap[k]? = w1.heap[k]? := fun k hk hn => hgrow.block k (h1.foot_lt k hk) (fun e => hn e.symm)
  have hb2 : w2.heap[p]? = some (.cells (ybBox q L) 71 (0, 0)) := (keep _ (.inl rfl) nl).trans h1.box
  refine ⟨by unfold World.cell?; rw [hb2]; rfl, by unfold World.frozen?; rw [hb2]; simp, ?_⟩
  have far : ∀ k, k ≠ p → (w2.setCell ⟨p, 1, none⟩ (.slice (some ⟨g, 0, none⟩) (lg.length + 1) cap)).heap[k]? = w2.heap[k]? := fun k hk => Below.heap_setCell _ _ _ _ hk
  have ex : (ybBox q L).setIfInBounds 1 (.slice (some ⟨g, 0, none⟩) (lg.length + 1) cap) = ybBox q { L with cv := .slice (some ⟨g, 0, none⟩) (lg.length + 1) cap } := rfl
  have hgp : g ≠ p := by
    rintro rfl
    obtain ⟨cu, hc⟩ := ownsRow_block hown (k := g) rfl
    rw [hb2] at hc
    simp at hc
  have old : ∀ {e : TypeId} {size n : Nat} {v : Value} {xs : List Value}, w1.ownsRow 0 e size v n xs → e ≠ 88 → e ≠ 71 → (∀ k, v.ownBlock = some k → L.foot p k) → (w2.setCell ⟨p, 1, none⟩ (.slice (some ⟨g, 0, none⟩) (lg.length + 1) cap)).ownsRow 0 e size v n xs := by
    intro e size n v xs ho he he' hf
    refine ownsRow_keep ho (fun k hk => ?_)
    rw [far k (fun e => ownsRow_box ho h1.box he' (e ▸ hk))]
    exact keep k (hf k hk) (ownsRow_apart ho h1.calls he hk)
  refine ⟨{ L with cv := .slice (some ⟨g, 0, none⟩) (lg.length + 1) cap }, ⟨by rw [box_set hb2, ex], ?_, old h1.subs (by decide) (by decide) (fun k hk => .inr (.inr (.inl hk))), old h1.invs (by decide) (by decide) (fun k hk => .inr (.inr (.inr (.inl hk)))), old h1.paid (by decide) (by decide) (fun k hk => .inr (.inr (.inr (.inr hk)))), h.ne⟩, ?_, ?_⟩
  · rw [List.length_append, List.flatMap_append]
    simp only [List.flatMap_cons, List.flatMap_nil, List.append_nil, List.length_cons, List.length_nil, Nat.zero_add]
    exact ownsRow_keep hown (fun k hk => far k (fun e => by simp [Value.ownBlock] at hk; exact hgp (hk.trans e)))
  · exact (((hc1.mono (O' := L.foot p) (fun _ _ h => h.elim)).grown hgrow (fun k hk => .inl (.inr (.inl hk))))).setCell (.inl (.inl rfl)) _
  · intro k hk
    rcases hk with rfl | hk | hk | hk | hk
    · exact .inl (.inl rfl)
    · simp [Value.ownBlock] at hk
      subst hk
      rcases hat with h | h
      · exact .inl (.inr (.inl h))
      · exact .inr h
    · exact .inl (.inr (.inr (.inl hk)))
    · exact .inl (.inr (.inr (.inr (.inl hk))))
    · exact .inl (.inr (.inr (.inr (.inr hk))))

/-- a bid's entry more -/
theorem YbAt.subMore {x : Int} (h : YbAt w p q L lg es ch pd) (hc1 : Chg (fun _ => False) w w1)
    (hown : w2.ownsRow 0 3 1 (.slice (some ⟨g, 0, none⟩) (es.length + 1) cap) (es.length + 1) (es.map (Value.int .i64) ++ [.int .i64 x])) (hgrow : w1.grownBy w2 L.nv.ownBlock) (hat : L.nv.ownBlock = some g ∨ w.heap.size ≤ g) :
    w2.cell? ⟨p, 2, none⟩ = some L.nv ∧ w2.frozen? ⟨p, 2, none⟩ = false ∧ YbTo w p q L lg (es ++ [x]) ch pd (w2.setCell ⟨p, 2, none⟩ (.slice (some ⟨g, 0, none⟩) (es.length + 1) cap)) := by
  have h1 := h.chg0 hc1
  have nl : L.nv.ownBlock ≠ some p := ownsRow_box h1.subs h1.box (by decide)
  have keep : ∀ k, L.foot p k → L.nv.ownBlock ≠ some k → w2.heap[k]? = w1.heap[k]? := fun k hk hn => hgrow.block k (h1.foot_lt k hk) (fun e => hn e.symm)
  have hb2 : w2.heap[p]? = some (.cells (ybBox q L) 71 (0, 0)) := (keep _ (.inl rfl) nl).trans h1.box
  refine ⟨by unfold World.cell?; rw [hb2]; rfl, by unfold World.frozen?; rw [hb2]; simp, ?_⟩
  have far : ∀ k, k ≠ p → (w2.setCell ⟨p, 2, none⟩ (.slice (some ⟨g, 0, none⟩) (es.length + 1) cap)).heap[k]? = w2.heap[k]? := fun k hk => Below.heap_setCell _ _ _ _ hk
  have ex : (ybBox q L).setIfInBounds 2 (.slice (some ⟨g, 0, none⟩) (es.length + 1) cap) = ybBox q { L with nv := .slice (some ⟨g, 0, none⟩) (es.length + 1) cap } := rfl
  have hgp : g ≠ p := by
    rintro rfl
    obtain ⟨cu, hc⟩ := ownsRow_block hown (k := g) rfl
    rw [hb2] at hc
    simp at hc
  have old : ∀ {e : TypeId} {size n : Nat} {v : Value} {xs : List Value}, w1.ownsRow 0 e size v n xs → e ≠ 71 → (∀ k, v.ownBlock = some k → L.foot p k ∧ L.nv.ownBlock ≠ some k) → (w2.setCell ⟨p, 2, none⟩ (.slice (some ⟨g, 0, none⟩) (es.length + 1) cap)).ownsRow 0 e size v n xs := by
    intro e size n v xs ho he' hf
    refine ownsRow_keep ho (fun k hk => ?_)
    rw [far k (fun e => ownsRow_box ho h1.box he' (e ▸ hk))]
    exact keep k (hf k hk).1 (hf k hk).2
  refine ⟨{ L with nv := .slice (some ⟨g, 0, none⟩) (es.length + 1) cap }, ⟨by rw [box_set hb2, ex], old h1.calls (by decide) (fun k hk => ⟨.inr (.inl hk), ownsRow_apart h1.calls h1.subs (by decide) hk⟩), ?_, old h1.invs (by decide) (fun k hk => ⟨.inr (.inr (.inr (.inl hk))), ownsRow_apart h1.invs h1.subs (by decide) hk⟩), old h1.paid (by decide) (fun k hk => ⟨.inr (.inr (.inr (.inr hk))), fun e => h.ne k e hk⟩), ?_⟩, ?_, ?_⟩
  · rw [List.length_append, List.map_append]
    simp only [List.map_cons, List.map_nil, List.length_cons, List.length_nil, Nat.zero_add]
    exact ownsRow_keep hown (fun k hk => far k (fun e => by simp [Value.ownBlock] at hk; exact hgp (hk.trans e)))
  · intro k hk
    simp [Value.ownBlock] at hk
    subst hk
    rcases hat with hh | hh
    · exact h.ne g hh
    · intro e
      have := (h.paid.lt g e).2
      omega
  · exact (((hc1.mono (O' := L.foot p) (fun _ _ h => h.elim)).grown hgrow (fun k hk => .inl (.inr (.inr (.inl hk)))))).setCell (.inl (.inl rfl)) _
  · intro k hk
    rcases hk with rfl | hk | hk | hk | hk
    · exact .inl (.inl rfl)
    · exact .inl (.inr (.inl hk))
    · simp [Value.ownBlock] at hk
      subst hk
      rcases hat with h | h
      · exact .inl (.inr (.inr (.inl h)))
      · exact .inr h
    · exact .inl (.inr (.inr (.inr (.inl hk))))
    · exact .inl (.inr (.inr (.inr (.inr hk))))

/-- an invoice more -/
theorem YbAt.invMore {x : InvG} (h : YbAt w p q L lg es ch pd) (hc1 : Chg (fun _ => False) w w1)
    (hown : w2.ownsRow 0 91 3 (.slice (some ⟨g, 0, none⟩) (ch.length + 1) cap) (ch.length + 1) (ch.flatMap invCells ++ invCells x)) (hgrow : w1.grownBy w2 L.iv.ownBlock) (hat : L.iv.ownBlock = some g ∨ w.heap.size ≤ g) :
    w2.cell? ⟨p, 3, none⟩ = some L.iv ∧ w2.frozen? ⟨p, 3, none⟩ = false ∧ YbTo w p q L lg es (ch ++ [x]) pd (w2.setCell ⟨p, 3, none⟩ (.slice (some ⟨g, 0, none⟩) (ch.length + 1) cap)) := by
  have h1 := h.chg0 hc1
  have nl : L.iv.ownBlock ≠ some p := ownsRow_box h1.invs h1.box (by decide)
  have keep : ∀ k, L.foot p k → L.iv.ownBlock ≠ some k → w2.heap[k]? = w1.heap[k]? := fun k hk hn => hgrow.block k (h1.foot_lt k hk) (fun e => hn e.symm)
  have hb2 : w2.heap[p]? = some (.cells (ybBox q L) 71 (0, 0)) := (keep _ (.inl rfl) nl).trans h1.box
  refine ⟨by unfold World.cell?; rw [hb2]; rfl, by unfold World.frozen?; rw [hb2]; simp, ?_⟩
  have far : ∀ k, k ≠ p → (w2.setCell ⟨p, 3, none⟩ (.slice (some ⟨g, 0, none⟩) (ch.length + 1) cap)).heap[k]? = w2.heap[k]? := fun k hk => Below.heap_setCell _ _ _ _ hk
  have ex : (ybBox q L).setIfInBounds 3 (.slice (some ⟨g, 0, none⟩) (ch.length + 1) cap) = ybBox q { L with iv := .slice (some ⟨g, 0, none⟩) (ch.length + 1) cap } := rfl
  have hgp : g ≠ p := by
    rintro rfl
    obtain ⟨cu, hc⟩ := ownsRow_block hown (k := g) rfl
    rw [hb2] at hc
    simp at hc
  have old : ∀ {e : TypeId} {size n : Nat} {v : Value} {xs : List Value}, w1.ownsRow 0 e size v n xs → e ≠ 91 → e ≠ 71 → (∀ k, v.ownBlock = some k → L.foot p k) → (w2.setCell ⟨p, 3, none⟩ (.slice (some ⟨g, 0, none⟩) (ch.length + 1) cap)).ownsRow 0 e size v n xs := by
    intro e size n v xs ho he he' hf
    refine ownsRow_keep ho (fun k hk => ?_)
    rw [far k (fun e => ownsRow_box ho h1.box he' (e ▸ hk))]
    exact keep k (hf k hk) (ownsRow_apart ho h1.invs he hk)
  refine ⟨{ L with iv := .slice (some ⟨g, 0, none⟩) (ch.length + 1) cap }, ⟨by rw [box_set hb2, ex], old h1.calls (by decide) (by decide) (fun k hk => .inr (.inl hk)), old h1.subs (by decide) (by decide) (fun k hk => .inr (.inr (.inl hk))), ?_, old h1.paid (by decide) (by decide) (fun k hk => .inr (.inr (.inr (.inr hk)))), h.ne⟩, ?_, ?_⟩
  · rw [List.length_append, List.flatMap_append]
    simp only [List.flatMap_cons, List.flatMap_nil, List.append_nil, List.length_cons, List.length_nil, Nat.zero_add]
    exact ownsRow_keep hown (fun k hk => far k (fun e => by simp [Value.ownBlock] at hk; exact hgp (hk.trans e)))
  · exact (((hc1.mono (O' := L.foot p) (fun _ _ h => h.elim)).grown hgrow (fun k hk => .inl (.inr (.inr (.inr (.inl hk))))))).setCell (.inl (.inl rfl)) _
  · intro k hk
    rcases hk with rfl | hk | hk | hk | hk
    · exact .inl (.inl rfl)
    · exact .inl (.inr (.inl hk))
    · exact .inl (.inr (.inr (.inl hk)))
    · simp [Value.ownBlock] at hk
      subst hk
      rcases hat with h | h
      · exact .inl (.inr (.inr (.inr (.inl h))))
      · exact .inr h
    · exact .inl (.inr (.inr (.inr (.inr hk))))

/-- a payment -/
theorem YbAt.setPaid {i : Nat} {u : Int} (h : YbAt w p q L lg es ch pd) (hi : i < pd.length) (hg : L.pv.ownBlock = some g) : YbAt (w.setCell ⟨g, i, none⟩ (.int .i64 u)) p q L lg es ch (pd.set i u) := by
  have hgp : g ≠ p := fun e => ownsRow_box h.paid h.box (by decide) (e ▸ hg)
  have far : ∀ k, k ≠ g → (w.setCell ⟨g, i, none⟩ (.int .i64 u)).heap[k]? = w.heap[k]? := fun k hk => Below.heap_setCell _ _ _ _ hk
  have old : ∀ {e : TypeId} {size n : Nat} {v : Value} {xs : List Value}, w.ownsRow 0 e size v n xs → e ≠ 3 → (w.setCell ⟨g, i, none⟩ (.int .i64 u)).ownsRow 0 e size v n xs := by
    intro e size n v xs ho he
    exact ownsRow_keep ho (fun k hk => far k (fun e => ownsRow_apart ho h.paid he hk (e ▸ hg)))
  refine ⟨(far p (Ne.symm hgp)).trans h.box, old h.calls (by decide), ownsRow_keep h.subs (fun k hk => far k (fun e => h.ne k hk (e ▸ hg))), old h.invs (by decide), ?_, h.ne⟩
  rw [List.length_set, List.map_set]
  exact ownsRow_set h.paid hi hg _
theorem YbAt.paid_form (h : YbAt w p q L lg es ch pd) : ∃ ao cap, L.pv = .slice ao pd.length cap ∧ ∀ i, i < pd.length → ∃ g, ao = some ⟨g, 0, none⟩ ∧ L.pv.ownBlock = some g ∧ w.cell? ⟨g, i, none⟩ = some (.int .i64 (pd.getD i 0)) ∧ w.frozen? ⟨g, i, none⟩ = false := by
  rcases h.paid.2 with ⟨hv, h0⟩ | ⟨g, cap, cur, hv, hg, hh, r⟩
  · exact ⟨none, 0, by rw [hv, h0], fun i hi => by omega⟩
  · refine ⟨some ⟨g, 0, none⟩, cap, hv, fun i hi => ⟨g, rfl, by rw [hv]; rfl, ?_, by unfold World.frozen?; rw [hh]; simp⟩⟩
    have := h.paid.cells (g := g) (by rw [hv]; rfl) i (.int .i64 (pd.getD i 0)) (by simp [List.getD, List.getElem?_eq_getElem hi])
    rwa [Addr.add_lit, Nat.zero_add] at this
theorem YbAt.subs_form (h : YbAt w p q L lg es ch pd) : ∃ ao cap, L.nv = .slice ao es.length cap ∧ ∀ (i : Nat) (x : Int), es[i]? = some x → ∃ g, ao = some ⟨g, 0, none⟩ ∧ w.cell? ⟨g, i, none⟩ = some (.int .i64 x) := by
  rcases h.subs.2 with ⟨hv, h0⟩ | ⟨g, cap, cur, hv, hg, hh, r⟩
  · exact ⟨none, 0, by rw [hv, h0], fun i x hi => by have := (List.getElem?_eq_some_iff.1 hi).1; omega⟩
  · refine ⟨some ⟨g, 0, none⟩, cap, hv, fun i x hi => ⟨g, rfl, ?_⟩⟩
    have := h.subs.cells (g := g) (by rw [hv]; rfl) i (.int .i64 x) (by simp [List.getElem?_map, hi])
    rwa [Addr.add_lit, Nat.zero_add] at this
theorem YbAt.calls_form (h : YbAt w p q L lg es ch pd) : ∃ ao cap, L.cv = .slice ao lg.length cap ∧ ∀ (i : Nat) (c : CallG), lg[i]? = some c → ∃ g, ao = some ⟨g, 0, none⟩ ∧ ∀ r u, (ycallCells c)[r]? = some u → w.cell? ⟨g, i * 12 + r, none⟩ = some u := by
  rcases h.calls.2 with ⟨hv, h0⟩ | ⟨g, cap, cur, hv, hg, hh, r⟩
  · exact ⟨none, 0, by rw [hv, h0], fun i x hi => by have := (List.getElem?_eq_some_iff.1 hi).1; omega⟩
  · refine ⟨some ⟨g, 0, none⟩, cap, hv, fun i c hc => ⟨g, rfl, fun r u hu => ?_⟩⟩
    have hr : r < 12 := by
      have := (List.getElem?_eq_some_iff.1 hu).1
      rwa [ycallCells_len] at this
    have := h.calls.cells (g := g) (by rw [hv]; rfl) (i * 12 + r) u (by rw [flat_get ycallCells 12 (fun _ => rfl) lg i c r hc hr]; exact hu)
    rwa [Addr.add_lit, Nat.zero_add] at this
theorem YbAt.invs_form (h : YbAt w p q L lg es ch pd) : ∃ ao cap, L.iv = .slice ao ch.length cap ∧ ∀ (i : Nat) (c : InvG), ch[i]? = some c → ∃ g, ao = some ⟨g, 0, none⟩ ∧ ∀ r u, (invCells c)[r]? = some u → w.cell? ⟨g, i * 3 + r, none⟩ = some u := by
  rcases h.invs.2 with ⟨hv, h0⟩ | ⟨g, cap, cur, hv, hg, hh, r⟩
  · exact ⟨none, 0, by rw [hv, h0], fun i x hi => by have := (List.getElem?_eq_some_iff.1 hi).1; omega⟩
  · refine ⟨some ⟨g, 0, none⟩, cap, hv, fun i c hc => ⟨g, rfl, fun r u hu => ?_⟩⟩
    have hr : r < 3 := by
      have := (List.getElem?_eq_some_iff.1 hu).1
      simpa [invCells] using this
    have := h.invs.cells (g := g) (by rw [hv]; rfl) (i * 3 + r) u (by rw [flat_get invCells 3 (fun _ => rfl) ch i c r hc hr]; exact hu)
    rwa [Addr.add_lit, Nat.zero_add] at this
end

/-! ### the whole -/
structure YAtV (w : World) (p : Nat) (V : YV) (L : LV) (m : MkG) : Prop where
  yb : YbAt w p V.q L m.log (m.bids.map (·.entry)) m.charges m.paid
  mkt : YmAt w V m
  out : ∀ k, L.foot p k → ¬ V.foot k
def yfoot (p : Nat) (V : YV) (L : LV) (k : Nat) : Prop := L.foot p k ∨ V.foot k
def YAt (w : World) (p : Nat) (F : Nat → Prop) (m : MkG) : Prop := ∃ (V : YV) (L : LV), (∀ k, F k ↔ yfoot p V L k) ∧ YAtV w p V L m ∧ ArrOk m ∧ ChdOk m

section
variable {w : World} {p : Nat} {V : YV} {L : LV} {m : MkG}
theorem YAtV.foot_lt (h : YAtV w p V L m) (k : Nat) (hk : yfoot p V L k) : k < w.heap.size := by
  rcases hk with hk | hk
  · exact h.yb.foot_lt k hk
  · exact h.mkt.foot_lt k hk
theorem YAtV.lt (h : YAtV w p V L m) : p < w.heap.size := h.yb.lt
theorem YAtV.frame {w' : World} (h : YAtV w p V L m) (hf : ∀ k, yfoot p V L k → w'.heap[k]? = w.heap[k]?) : YAtV w' p V L m :=
  ⟨h.yb.frame (fun k hk => hf k (.inl hk)), h.mkt.frame (fun k hk => hf k (.inr hk)), h.out⟩
theorem YAtV.chg0 {w' : World} (h : YAtV w p V L m) (hc : Chg (fun _ => False) w w') : YAtV w' p V L m := h.frame (fun k hk => hc.block k (h.foot_lt k hk) (fun h => h))
theorem YAtV.cq (h : YAtV w p V L m) : w.cell? ⟨p, 0, none⟩ = some (.pointer (some ⟨V.q, 0, none⟩)) := h.yb.cell 0
end

/-- a yard that has become another -/
def YvTo (w : World) (p : Nat) (V : YV) (L : LV) (m' : MkG) (w' : World) : Prop :=
  ∃ V' L', YAtV w' p V' L' m' ∧ Chg (yfoot p V L) w w' ∧ ∀ k, yfoot p V' L' k → yfoot p V L k ∨ w.heap.size ≤ k

section
variable {w w1 w2 : World} {p : Nat} {V : YV} {L : LV} {m m' : MkG}
theorem YvTo.refl (h : YAtV w p V L m) : YvTo w p V L m w := ⟨V, L, h, Chg.refl _ _, fun _ hk => .inl hk⟩
theorem YvTo.chg0 (h : YvTo w p V L m w1) (hc : Chg (fun _ => False) w1 w2) : YvTo w p V L m w2 := by
  obtain ⟨V', L', h1, h2, h3⟩ := h
  exact ⟨V', L', h1.chg0 hc, h2.trans hc (fun _ _ h => h.elim), h3⟩
theorem YvTo.same (h : YAtV w p V L m) (hc : Chg (fun _ => False) w w1) : YvTo w p V L m w1 := (YvTo.refl h).chg0 hc
theorem YvTo.start (hc : Chg (fun _ => False) w w1) (h : YvTo w1 p V L m w2) : YvTo w p V L m w2 := by
  obtain ⟨V', L', h1, h2, h3⟩ := h
  exact ⟨V', L', h1, (hc.mono (fun _ _ h => h.elim)).trans h2 (fun _ _ h => h), fun k hk => by
    rcases h3 k hk with h | h
    · exact .inl h
    · exact .inr (Nat.le_trans hc.size h)⟩
theorem YvTo.after {V1 : YV} {L1 : LV} (hc : Chg (yfoot p V L) w w1) (hf : ∀ k, yfoot p V1 L1 k → yfoot p V L k ∨ w.heap.size ≤ k) (h : YvTo w1 p V1 L1 m' w2) : YvTo w p V L m' w2 := by
  obtain ⟨V2, L2, b1, b2, b3⟩ := h
  refine ⟨V2, L2, b1, hc.trans b2 (fun x hx hxf => ?_), fun k hk => ?_⟩
  · rcases hf x hxf with h | h
    · exact h
    · omega
  · rcases b3 k hk with h | h
    · exact hf k h
    · exact .inr (Nat.le_trans hc.size h)
/-- its own part has turned -/
theorem YAtV.own {lg : List CallG} {es : List Int} {ch : List InvG} {pd : List Int} (h : YAtV w p V L m) (ht : YbTo w p V.q L lg es ch pd w1) (hm : YmAt w V m → YmAt w V m') (h1 : m'.log = lg) (h2 : m'.bids.map (·.entry) = es) (h3 : m'.charges = ch) (h4 : m'.paid = pd) : YvTo w p V L m' w1 := by
  subst h1 h2 h3 h4
  obtain ⟨L', a1, a2, a3⟩ := ht
  have hmk : YmAt w1 V m' := (hm h.mkt).chg a2 (fun k hk e => h.out k e hk)
  refine ⟨V, L', ⟨a1, hmk, fun k hk hv => ?_⟩, a2.mono (fun k _ hk => .inl hk), fun k hk => ?_⟩
  · rcases a3 k hk with e | e
    · exact h.out k e hv
    · have := h.mkt.foot_lt k hv
      omega
  · rcases hk with hk | hk
    · rcases a3 k hk with e | e
      · exact .inl (.inl e)
      · exact .inr e
    · exact .inl (.inr hk)
/-- its market has turned: what there is of it -/
theorem YAtV.market (h : YAtV w p V L m) (ht : YmTo w V m' w1) : ∃ V', V'.q = V.q ∧ YmAt w1 V' m' ∧ YbAt w1 p V'.q L m.log (m.bids.map (·.entry)) m.charges m.paid ∧ (∀ k, L.foot p k → ¬ V'.foot k) ∧ Chg (yfoot p V L) w w1 ∧ ∀ k, yfoot p V' L k → yfoot p V L k ∨ w.heap.size ≤ k := by
  obtain ⟨V', a0, a1, a2, a3⟩ := ht
  refine ⟨V', a0, a1, ?_, fun k hk hv => ?_, a2.mono (fun k _ hk => .inr hk), fun k hk => ?_⟩
  · rw [a0]
    exact h.yb.chg a2 (fun k hk e => h.out k hk e)
  · rcases a3 k hv with e | e
    · exact h.out k hk e
    · have := h.yb.foot_lt k hk
      omega
  · rcases hk with hk | hk
    · exact .inl (.inl hk)
    · rcases a3 k hk with e | e
      · exact .inl (.inr e)
      · exact .inr e
theorem YAtV.marketTo (h : YAtV w p V L m) (ht : YmTo w V m' w1) (h1 : m'.log = m.log) (h2 : m'.bids.map (·.entry) = m.bids.map (·.entry)) (h3 : m'.charges = m.charges) (h4 : m'.paid = m.paid) : YvTo w p V L m' w1 := by
  obtain ⟨V', a0, a1, a2, a3, a4, a5⟩ := h.market ht
  exact ⟨V', L, ⟨by rw [h1, h2, h3, h4]; exact a2, a1, a3⟩, a4, a5⟩
theorem YvTo.yto {F : Nat → Prop} (hF : ∀ k, F k ↔ yfoot p V L k) (h : YvTo w p V L m' w1) (ha : ArrOk m') (hch : ChdOk m') : ∃ F', YAt w1 p F' m' ∧ Chg F w w1 ∧ ∀ k, F' k → F k ∨ w.heap.size ≤ k := by
  obtain ⟨V', L', a1, a2, a3⟩ := h
  refine ⟨yfoot p V' L', ⟨V', L', fun _ => Iff.rfl, a1, ha, hch⟩, a2.mono (fun k _ hk => (hF k).2 hk), fun k hk => ?_⟩
  rcases a3 k hk with e | e
  · exact .inl ((hF k).2 e)
  · exact .inr e
end
end Go.Proofs.Ytminceigjejipab
