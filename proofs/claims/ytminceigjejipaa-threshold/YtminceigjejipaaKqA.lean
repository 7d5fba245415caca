import Derived.Test.YtminceigjejipaaG19
/-
  A TICK AS Packed LOOKS AT IT: which bids start, in which order; what is left pending. Nothing of the program.
-/
namespace Go.Proofs.Ytminceigjejipaa
open Go.RowKit

def nameAt (l : List BidG) (i : Nat) : Int × Int := match l[i]? with | some b => (b.ten, b.ref) | none => (0, 0)
def setWon (t : Int) (b : BidG) : BidG := { b with state := 2, start := t }

theorem fits_mono {m m' : MkG} (h : ∀ x, freeV m' x ≤ freeV m x) {b : BidG} {t : Int} (hf : fitsB m b t = false) : fitsB m' b t = false := by
  cases hf' : fitsB m' b t
  · rfl
  · exfalso
    have : fitsB m b t = true := by
      simp only [fitsB, List.all_eq_true, List.mem_range, decide_eq_true_eq] at hf' ⊢
      intro s hs
      have := hf' s hs
      have := h (t + s)
      omega
    rw [this] at hf
    cases hf
theorem free_start {m : MkG} {i : Nat} {b : BidG} (hb : m.bids[i]? = some b) (h1 : b.state ≠ 2) (hu : 0 ≤ b.job.units) (t x : Int) : freeV (startM m i t) x ≤ freeV m x := by
  rw [startM_eq hb]
  unfold freeV
  simp only
  split
  · exact Int.le_refl _
  · rw [kused_start hb h1]
    split <;> omega

/-- the ticks' fold: those that start, out of those that are looked at -/
structure Pk (t : Int) (l : List Nat) (s s' : TkS) (js : List Nat) : Prop where
  sub : js.Sublist l
  names : s'.2 = s.2 ++ js.map (nameAt s.1.bids)
  bids : ∀ (k : Nat) (b : BidG), s.1.bids[k]? = some b → s'.1.bids[k]? = some (if k ∈ js then setWon t b else b)
  win : ∀ i ∈ js, ∀ b, s.1.bids[i]? = some b → b.winB s.1.c.res = true
  free : ∀ x, freeV s'.1 x ≤ freeV s.1 x
  fit : ∀ i ∈ l, i ∉ js → ∀ b, s.1.bids[i]? = some b → b.winB s.1.c.res = true → fitsB s'.1 b t = false

theorem pk_fold (t : Int) : ∀ (l : List Nat) (s : TkS), l.Nodup → (∀ i ∈ l, ∃ b, s.1.bids[i]? = some b ∧ b.openB s.1 t = true) → (∀ b ∈ s.1.bids, 0 ≤ b.job.units) → ∃ js, Pk t l s (l.foldl (tickOne t none) s) js
  | [], s, _, _, _ => ⟨[], List.Sublist.refl _, by simp, fun k b hb => by simpa using hb, fun i hi => by simp at hi, fun _ => Int.le_refl _, fun i hi => by simp at hi⟩
  | i :: l, s, hn, hc, hu => by
    obtain ⟨b, hb, ho⟩ := hc i List.mem_cons_self
    rw [List.nodup_cons] at hn
    have hst : b.state = 1 := by
      simp only [BidG.openB, Bool.and_eq_true, beq_iff_eq] at ho
      exact ho.1.1.1
    have hub := hu b (List.mem_of_getElem? hb)
    have hal := AlikeM.one t none s i
    have hnext : ∀ k ∈ l, ∃ x, (tickOne t none s i).1.bids[k]? = some x ∧ x.openB (tickOne t none s i).1 t = true := fun k hk => by
      obtain ⟨x, hx, hxo⟩ := hc k (List.mem_cons_of_mem _ hk)
      refine ⟨x, (hal.bid k (by simp; rintro rfl; exact hn.1 hk)).trans hx, ?_⟩
      unfold BidG.openB suspAt at hxo ⊢
      rw [hal.susp]
      exact hxo
    have hjob : ∀ x ∈ (tickOne t none s i).1.bids, 0 ≤ x.job.units := fun x hx => by
      obtain ⟨k, hk⟩ := List.getElem?_of_mem hx
      have := hal.job k
      rw [hk] at this
      cases hx0 : s.1.bids[k]? with
      | none => rw [hx0] at this; cases this
      | some x0 =>
        rw [hx0] at this
        simp only [Option.map_some, Option.some.injEq] at this
        rw [this]
        exact hu x0 (List.mem_of_getElem? hx0)
    obtain ⟨js, hp⟩ := pk_fold t l (tickOne t none s i) hn.2 hnext hjob
    have hij : i ∉ js := fun h => hn.1 (hp.sub.mem h)
    have e1 : tickOne t none s i = if fitsB s.1 b t && b.winB s.1.c.res then (startM s.1 i t, s.2 ++ [(b.ten, b.ref)]) else s := by
      unfold tickOne
      rw [hb]
    have hres : (tickOne t none s i).1.c = s.1.c := hal.c
    cases hw : fitsB s.1 b t && b.winB s.1.c.res
    · rw [hw] at e1
      simp only [Bool.false_eq_true, if_false] at e1
      rw [List.foldl_cons]
      rw [e1] at hp ⊢
      refine ⟨js, hp.sub.cons _, hp.names, hp.bids, hp.win, hp.free, fun k hk hkj x hx hxw => ?_⟩
      rcases List.mem_cons.1 hk with rfl | hk
      · rw [hb] at hx
        obtain rfl := Option.some.inj hx
        refine fits_mono hp.free ?_
        rw [hxw, Bool.and_true] at hw
        exact hw
      · exact hp.fit k hk hkj x hx hxw
    · rw [hw] at e1
      simp only [if_true] at e1
      rw [Bool.and_eq_true] at hw
      have hset : (startM s.1 i t).bids = s.1.bids.set i (setWon t b) := by rw [startM_eq hb]; rfl
      have hil := (List.getElem?_eq_some_iff.1 hb).1
      have hget : ∀ (k : Nat) (x : BidG), s.1.bids[k]? = some x → (startM s.1 i t).bids[k]? = some (if k = i then setWon t x else x) := fun k x hx => by
        rw [hset, List.getElem?_set]
        by_cases e : i = k
        · subst e
          rw [hb] at hx
          obtain rfl := Option.some.inj hx
          simp [hil]
        · rw [if_neg e, if_neg (Ne.symm e)]
          exact hx
      have hname : ∀ k, nameAt (startM s.1 i t).bids k = nameAt s.1.bids k := fun k => by
        unfold nameAt
        cases hx : s.1.bids[k]? with
        | none =>
          have : (startM s.1 i t).bids[k]? = none := by
            rw [hset, List.getElem?_eq_none (by rw [List.length_set]; exact List.getElem?_eq_none_iff.1 hx)]
          rw [this]
        | some x =>
          rw [hget k x hx]
          simp only
          split <;> rfl
      rw [List.foldl_cons]
      rw [e1] at hp hres ⊢
      refine ⟨i :: js, hp.sub.cons_cons _, ?_, fun k x hx => ?_, fun k hk x hx => ?_, fun x => Int.le_trans (hp.free x) (free_start hb (by omega) hub t x), fun k hk hkj x hx hxw => ?_⟩
      · rw [hp.names]
        have : nameAt s.1.bids i = (b.ten, b.ref) := by unfold nameAt; rw [hb]
        simp only [List.map_cons, this, List.append_assoc, List.singleton_append]
        congr 2
        exact List.map_congr_left (fun k _ => hname k)
      · rw [hp.bids k _ (hget k x hx)]
        congr 1
        by_cases e : k = i
        · subst e
          rw [if_neg hij, if_pos rfl, if_pos List.mem_cons_self]
        · rw [if_neg e]
          by_cases e2 : k ∈ js
          · rw [if_pos e2, if_pos (List.mem_cons_of_mem _ e2)]
          · rw [if_neg e2, if_neg (fun h => by rcases List.mem_cons.1 h with h | h; exact e h; exact e2 h)]
      · rcases List.mem_cons.1 hk with rfl | hk
        · rw [hb] at hx
          obtain rfl := Option.some.inj hx
          exact hw.2
        · have e : k ≠ i := fun e => hij (e ▸ hk)
          have := hp.win k hk x (by rw [hget k x hx, if_neg e])
          rw [hres] at this
          exact this
      · have hkj' : k ∉ js := fun h => hkj (List.mem_cons_of_mem _ h)
        have e : k ≠ i := fun e => hkj (e ▸ List.mem_cons_self)
        rcases List.mem_cons.1 hk with h | h
        · exact absurd h e
        · exact hp.fit k h hkj' x (by rw [hget k x hx, if_neg e]) (by rw [hres]; exact hxw)

/-- a tick that has gone by -/
structure TkdK (m m' : MkG) (names : List (Int × Int)) (js : List Nat) : Prop where
  lt : m.time < m.c.ticks
  time : m'.time = m.time + 1
  len : m'.bids.length = m.bids.length
  names : names = js.map (nameAt m.bids)
  ahead : js.Pairwise (fun i k => aheadI m.bids i k = true)
  cand : ∀ i ∈ js, ∃ b, m.bids[i]? = some b ∧ b.openB m m.time = true ∧ b.winB m.c.res = true
  bids : ∀ (k : Nat) (b : BidG), m.bids[k]? = some b → m'.bids[k]? = some (if k ∈ js then setWon m.time b else b.expire (m.time + 1))
  fit : ∀ (k : Nat) (b : BidG), k ∉ js → m.bids[k]? = some b → b.openB m m.time = true → b.winB m.c.res = true → fitsB m' b m.time = false
theorem TkdK.nodup {m m' : MkG} {names : List (Int × Int)} {js : List Nat} (h : TkdK m m' names js) : js.Nodup := by
  refine h.ahead.imp (fun {a b} hab e => ?_)
  subst e
  rw [aheadI_irrefl] at hab
  cases hab
theorem free_tickEnd (t : Int) (m : MkG) (x : Int) : freeV (tickEnd t m) x = freeV m x := by
  unfold freeV
  show (if x < 0 ∨ m.c.ticks ≤ x then 0 else m.units.getD x.toNat 0 - usedL (m.bids.map fun b => b.expire (t + 1)) x) = _
  rw [kused_map _ x m.bids (fun b _ => ⟨?_, by unfold BidG.expire; split <;> rfl⟩)]
  unfold BidG.runs BidG.expire
  split
  · rename_i hw; simp at hw; simp [hw.1]
  · rfl

theorem TickRes.ticked {m m' : MkG} {names : List (Int × Int)} (hr : TickRes m 0 names m') (hg : GoodM m) : ∃ js, TkdK m m' names js := by
  rcases hr with ⟨_, h, _⟩ | ⟨_, _, h, _⟩ | ⟨hl, ht, _, l, hord, rfl, rfl⟩
  · cases h
  · cases h
  · have hok := hg.ok
    have hok1 := hok.logs hl callTick
    have hopen : ∀ (i : Nat) (b : BidG), m.bids[i]? = some b → candB m m.time b = b.openB m m.time := fun i b hb => by
      have h0 := (hok.bid b (List.mem_of_getElem? hb)).e0
      have hgh := hg.ghost
      unfold candB
      rw [hgh]
      have : (b.entry != -1) = true := by simp; omega
      rw [this, Bool.and_true]
    obtain ⟨js, hp⟩ := pk_fold m.time l (m.logs callTick, []) hord.nodup (fun i hi => by
      obtain ⟨b, hb, hc⟩ := (hord.mem i).1 hi
      exact ⟨b, hb, by rw [hopen i b hb] at hc; exact hc⟩) (fun b hb => by
        have := jobIn_true (hok.bid b hb).job
        omega)
    unfold tickM
    simp only
    rw [ghostI_none hok1 hg.ghost]
    simp only [wantEnd, tickFold]
    have hal := AlikeM.fold m.time none l (m.logs callTick, [])
    refine ⟨js, ht, rfl, ?_, ?_, hord.sorted.sublist hp.sub, fun i hi => ?_, fun k b hb => ?_, fun k b hk hb ho hw => ?_⟩
    · show ((l.foldl (tickOne m.time none) (m.logs callTick, [])).1.bids.map _).length = _
      rw [List.length_map, hal.len]
      rfl
    · rw [hp.names]
      rfl
    · obtain ⟨b, hb, hc⟩ := (hord.mem i).1 (hp.sub.mem hi)
      exact ⟨b, hb, by rw [hopen i b hb] at hc; exact hc, hp.win i hi b hb⟩
    · show ((l.foldl (tickOne m.time none) (m.logs callTick, [])).1.bids.map fun b => b.expire (m.time + 1))[k]? = _
      rw [List.getElem?_map, hp.bids k b hb, Option.map_some]
      congr 1
      by_cases e : k ∈ js
      · rw [if_pos e, if_pos e]
        unfold BidG.expire setWon
        simp
      · rw [if_neg e, if_neg e]
    · have hkl : k ∈ l := (hord.mem k).2 ⟨b, hb, by rw [hopen k b hb]; exact ho⟩
      exact fits_mono (fun x => Int.le_of_eq (free_tickEnd m.time _ x)) (hp.fit k hkl hk b hb hw)

/-- what has won has started by now -/
def StartLt (m : MkG) : Prop := ∀ b ∈ m.bids, b.state = 2 → b.start < m.time
theorem StartLt.open (c : CfgG) : StartLt (openM c) := fun b hb => by simp [openM] at hb
theorem StartLt.of_bids {m m' : MkG} (h : StartLt m) (hb : m'.bids = m.bids) (ht : m'.time = m.time) : StartLt m' := fun b hm => by
  rw [hb] at hm
  rw [ht]
  exact h b hm
theorem StartLt.does {m m' : MkG} (h : StartLt m) (hg : GoodM m) {s : StepG} {z : Int} {names : List (Int × Int)} {bills : List InvG} (hr : DoesRes m s z names bills m') : StartLt m' := by
  rcases hr with ⟨_, hr, _⟩ | ⟨_, hr, _⟩ | ⟨_, hr, _⟩ | ⟨_, hr, _⟩ | ⟨_, hr, _⟩ | ⟨_, hr, _⟩ | ⟨_, hr, _⟩ | ⟨_, _, rfl, _⟩
  · rcases hr with ⟨_, _, rfl⟩ | ⟨_, _, rfl⟩
    · exact h
    · unfold submitM
      simp only
      split
      · intro b hb
        rcases List.mem_append.1 hb with hb | hb
        · exact h b hb
        · simp at hb
          subst hb
          intro hs
          simp [newBid] at hs
      · exact h.of_bids rfl rfl
  · rcases hr with ⟨_, _, rfl⟩ | ⟨_, _, rfl⟩
    · exact h
    · unfold cancelM
      simp only
      split
      · intro b hb
        have hb' : b ∈ setState m.bids (findZ m.bids s.a s.b).toNat 3 := hb
        unfold setState at hb'
        split at hb'
        · rcases List.mem_or_eq_of_mem_set hb' with hb2 | rfl
          · exact h b hb2
          · intro hs
            simp at hs
        · exact h b hb'
      · exact h.of_bids rfl rfl
  · rcases hr with ⟨_, _, rfl⟩ | ⟨_, _, rfl⟩
    · exact h
    · unfold suspendM
      simp only
      split <;> exact h.of_bids rfl rfl
  · rcases hr with ⟨_, _, rfl⟩ | ⟨_, hr⟩
    · exact h
    · rcases hr with ⟨_, _, rfl⟩ | ⟨_, _, _, rfl⟩ | ⟨_, _, _, rfl⟩ <;> exact h.of_bids rfl rfl
  · by_cases hz : z = 0
    · subst hz
      obtain ⟨js, ht⟩ := TickRes.ticked hr hg
      intro b' hb' hs
      obtain ⟨k, hk⟩ := List.getElem?_of_mem hb'
      have hkl : k < m.bids.length := by rw [← ht.len]; exact (List.getElem?_eq_some_iff.1 hk).1
      have hb := List.getElem?_eq_getElem hkl
      have := ht.bids k _ hb
      rw [hk] at this
      have e := Option.some.inj this
      rw [ht.time]
      by_cases ej : k ∈ js
      · rw [if_pos ej] at e
        rw [e]
        show m.time < m.time + 1
        omega
      · rw [if_neg ej] at e
        have hb0 := h _ (List.mem_of_getElem? hb)
        have hx : (m.bids[k].expire (m.time + 1)).state = 2 → m.bids[k].state = 2 ∧ (m.bids[k].expire (m.time + 1)).start = m.bids[k].start := by
          unfold BidG.expire
          split
          · intro h; simp at h
          · intro h; exact ⟨h, rfl⟩
        rw [e] at hs ⊢
        obtain ⟨h1, h2⟩ := hx hs
        have := hb0 h1
        rw [h2]
        omega
    · rcases hr with ⟨_, _, _, rfl⟩ | ⟨_, _, _, _, rfl⟩ | ⟨_, _, e, _⟩
      · exact h
      · exact h.of_bids rfl rfl
      · exact absurd e hz
  · rcases hr with ⟨_, _, _, rfl⟩ | ⟨_, _, _, rfl⟩
    · exact h
    · intro b hb
      obtain ⟨b0, hb0, rfl⟩ := List.mem_map.1 hb
      have := h b0 hb0
      unfold BidG.bill
      split <;> exact this
  · rcases hr with ⟨_, _, rfl⟩ | ⟨_, _, rfl⟩
    · exact h
    · unfold payM
      simp only
      split <;> exact h.of_bids rfl rfl
  · exact h
end Go.Proofs.Ytminceigjejipaa
