import Derived.Test.YtminceigjejipaaG7
/-
  THE LEAST VALUE WITH WHICH A BID STARTS AT A TICK. Nothing of the program.
-/
namespace Go.Proofs.Ytminceigjejipaa

/-! ### what a tick's loop leaves alone -/
theorem ent_start (m : MkG) (i : Nat) (t : Int) (k : Nat) : ((startM m i t).bids[k]?).map BidG.entry = (m.bids[k]?).map BidG.entry := by
  unfold startM
  cases hb : m.bids[i]? with
  | none => rfl
  | some b =>
    simp only [List.getElem?_set]
    by_cases e : i = k
    · subst e
      have hl := (List.getElem?_eq_some_iff.1 hb).1
      rw [if_pos rfl, if_pos hl, hb]
      rfl
    · rw [if_neg e]
theorem ent_want (m : MkG) (g : Nat) (x : Int) : (wantM m g x).bids = m.bids := by
  unfold wantM
  split <;> rfl
theorem ent_one (t : Int) (g : Option Nat) (s : TkS) (i k : Nat) : ((tickOne t g s i).1.bids[k]?).map BidG.entry = (s.1.bids[k]?).map BidG.entry := by
  unfold tickOne
  split
  · rfl
  · split
    · cases g with
      | none => exact ent_start _ _ _ _
      | some gi =>
        simp only
        split
        · rw [ent_want]; exact ent_start _ _ _ _
        · exact ent_start _ _ _ _
    · rfl
def NotE (e : Int) (m : MkG) (l : List Nat) : Prop := ∀ i ∈ l, ∀ b, m.bids[i]? = some b → b.entry ≠ e
theorem NotE.step {e : Int} {m m' : MkG} {l : List Nat} (h : NotE e m l) (hm : ∀ k : Nat, (m'.bids[k]?).map BidG.entry = (m.bids[k]?).map BidG.entry) : NotE e m' l := by
  intro i hi b hb
  have := hm i
  rw [hb] at this
  cases hb' : m.bids[i]? with
  | none => rw [hb'] at this; cases this
  | some b' =>
    rw [hb'] at this
    simp only [Option.map_some, Option.some.injEq] at this
    rw [this]
    exact h i hi b' hb'
theorem MAl.fold {e v : Int} (t : Int) (g : Option Nat) : ∀ (l : List Nat) {G R : MkG} (o o' : List (Int × Int)), MAl e v G R → NotE e G l → MAl e v (l.foldl (tickOne t g) (G, o)).1 (l.foldl (tickOne t none) (R, o')).1
  | [], _, _, _, _, h, _ => h
  | i :: l, G, R, o, o', h, hn => by
    have h1 := h.one t g o o' i (fun b hb => hn i List.mem_cons_self b hb)
    have hn1 : NotE e (tickOne t g (G, o) i).1 l := NotE.step (m := G) (fun k hk => hn k (List.mem_cons_of_mem _ hk)) (fun k => ent_one t g (G, o) i k)
    exact MAl.fold t g l (tickOne t g (G, o) i).2 (tickOne t none (R, o') i).2 h1 hn1

/-! ### the order with the bid in it -/
theorem split_sorted {S : Nat → Nat → Prop} {A : Nat → Bool} {P : Nat → Prop} : ∀ l : List Nat, l.Pairwise S → (∀ x ∈ l, A x = false → P x) → (∀ x y, P x → S x y → P y) → ∃ l1 l2, l = l1 ++ l2 ∧ (∀ x ∈ l1, A x = true) ∧ ∀ y ∈ l2, P y
  | [], _, _, _ => ⟨[], [], rfl, fun _ h => by simp at h, fun _ h => by simp at h⟩
  | x :: l, hp, hA, hS => by
    rw [List.pairwise_cons] at hp
    cases hx : A x
    · refine ⟨[], x :: l, rfl, fun _ h => by simp at h, fun y hy => ?_⟩
      have hPx := hA x List.mem_cons_self hx
      rcases List.mem_cons.1 hy with rfl | hy
      · exact hPx
      · exact hS x y hPx (hp.1 y hy)
    · obtain ⟨l1, l2, h1, h2, h3⟩ := split_sorted l hp.2 (fun y hy => hA y (List.mem_cons_of_mem _ hy)) hS
      refine ⟨x :: l1, l2, by rw [h1]; rfl, fun y hy => ?_, h3⟩
      rcases List.mem_cons.1 hy with rfl | hy
      · exact hx
      · exact h2 y hy

theorem MAl.sizes {e v : Int} {G R : MkG} (h : MAl e v G R) (hs : SizesOk G.bids) : SizesOk R.bids := by
  intro b hb
  rw [h.bids, List.mem_map] at hb
  obtain ⟨b', hb', rfl⟩ := hb
  rw [al_size]
  exact hs b' hb'
/-- among bids of other entries the order is the same -/
theorem MAl.ahead {e v : Int} {G R : MkG} (h : MAl e v G R) {i k : Nat} (hi : ∀ b, G.bids[i]? = some b → b.entry ≠ e) (hk : ∀ b, G.bids[k]? = some b → b.entry ≠ e) : aheadI R.bids i k = aheadI G.bids i k := by
  unfold aheadI
  rw [h.get, h.get]
  cases h1 : G.bids[i]? with
  | none => rfl
  | some a =>
    cases h2 : G.bids[k]? with
    | none => rfl
    | some b => simp only [Option.map_some, al_ne (hi a h1), al_ne (hk b h2)]
theorem MAl.cand {e v : Int} {G R : MkG} (h : MAl e v G R) (t : Int) {b : BidG} (h0 : 0 ≤ b.entry) : candB R t (al e v b) = b.openB G t := by
  unfold candB
  rw [h.openB, al_entry, h.rg]
  have : (b.entry != -1) = true := by simp; omega
  rw [this, Bool.and_true]

theorem order_insert {e v : Int} {G R : MkG} (h : MAl e v G R) (hs : SizesOk G.bids) (h0 : ∀ b ∈ G.bids, 0 ≤ b.entry) {t : Int} {gi : Nat} {bg : BidG} (hbg : G.bids[gi]? = some bg) (he : bg.entry = e) (ho : bg.openB G t = true) (hu : ∀ (i : Nat) b, G.bids[i]? = some b → b.entry = e → i = gi) {l : List Nat} (hl : IsOrder G t l) :
    ∃ l1 l2, l = l1 ++ l2 ∧ IsOrder R t (l1 ++ gi :: l2) ∧ (∀ x ∈ l1, aheadI R.bids x gi = true) ∧ ∀ y ∈ l2, aheadI R.bids gi y = true := by
  have hne : ∀ x ∈ l, x ≠ gi ∧ ∃ b, G.bids[x]? = some b ∧ b.entry ≠ e ∧ b.openB G t = true := fun x hx => by
    obtain ⟨b, hb, hc⟩ := (hl.mem x).1 hx
    unfold candB at hc
    rw [Bool.and_eq_true, h.gh] at hc
    have h2 : b.entry ≠ e := by simpa using hc.2
    exact ⟨fun hxg => by subst hxg; rw [hbg] at hb; obtain rfl := Option.some.inj hb; exact h2 he, b, hb, h2, hc.1⟩
  have hnE : ∀ x ∈ l, ∀ b, G.bids[x]? = some b → b.entry ≠ e := fun x hx b hb => by
    obtain ⟨_, b', hb', h2, _⟩ := hne x hx
    rw [hb] at hb'
    obtain rfl := Option.some.inj hb'
    exact h2
  have hsR := h.sizes hs
  have hgR : R.bids[gi]? = some (al e v bg) := by rw [h.get, hbg]; rfl
  have hpR : l.Pairwise (fun i k => aheadI R.bids i k = true) := List.Pairwise.imp_of_mem (fun {a b} ha hb hab => by rw [h.ahead (hnE a ha) (hnE b hb)]; exact hab) hl.sorted
  obtain ⟨l1, l2, h1, h2, h3⟩ := split_sorted (A := fun x => aheadI R.bids x gi) (P := fun y => aheadI R.bids gi y = true) l hpR (fun x hx hA => by
    obtain ⟨hxg, b, hb, _⟩ := hne x hx
    rcases aheadI_total (l := R.bids) (i := x) (k := gi) (a := al e v b) (by rw [h.get, hb]; rfl) hgR hxg with h' | h'
    · rw [hA] at h'; cases h'
    · exact h') (fun x y h1 h2 => aheadI_trans hsR h1 h2)
  refine ⟨l1, l2, h1, ⟨fun i => ?_, ?_⟩, h2, h3⟩
  · have hmem : i ∈ l1 ++ gi :: l2 ↔ i ∈ l ∨ i = gi := by
      rw [h1]
      simp only [List.mem_append, List.mem_cons]
      constructor
      · rintro (a | a | a)
        · exact .inl (.inl a)
        · exact .inr a
        · exact .inl (.inr a)
      · rintro ((a | a) | a)
        · exact .inl a
        · exact .inr (.inr a)
        · exact .inr (.inl a)
    rw [hmem]
    constructor
    · rintro (hi | rfl)
      · obtain ⟨_, b, hb, _, hob⟩ := hne i hi
        exact ⟨al e v b, by rw [h.get, hb]; rfl, by rw [h.cand t (h0 b (List.mem_of_getElem? hb))]; exact hob⟩
      · exact ⟨al e v bg, hgR, by rw [h.cand t (h0 bg (List.mem_of_getElem? hbg))]; exact ho⟩
    · rintro ⟨b', hb', hc⟩
      rw [h.get] at hb'
      cases hb : G.bids[i]? with
      | none => rw [hb] at hb'; cases hb'
      | some b =>
        rw [hb] at hb'
        obtain rfl := Option.some.inj hb'
        rw [h.cand t (h0 b (List.mem_of_getElem? hb))] at hc
        by_cases hbe : b.entry = e
        · exact .inr (hu i b hb hbe)
        · refine .inl ((hl.mem i).2 ⟨b, hb, ?_⟩)
          unfold candB
          rw [hc, h.gh]
          simpa using hbe
  · rw [h1, List.pairwise_append] at hpR
    rw [List.pairwise_append]
    refine ⟨hpR.1, List.pairwise_cons.2 ⟨h3, hpR.2.1⟩, fun a ha b hb => ?_⟩
    rcases List.mem_cons.1 hb with rfl | hb
    · exact h2 a ha
    · exact hpR.2.2 a ha b hb
theorem order_same {e v : Int} {G R : MkG} (h : MAl e v G R) (h0 : ∀ b ∈ G.bids, 0 ≤ b.entry) {t : Int} (hno : ∀ b ∈ G.bids, b.entry = e → b.openB G t = false) {l : List Nat} (hl : IsOrder G t l) : IsOrder R t l := by
  have hnE : ∀ x ∈ l, ∀ b, G.bids[x]? = some b → b.entry ≠ e := fun x hx b hb hbe => by
    obtain ⟨b', hb', hc⟩ := (hl.mem x).1 hx
    rw [hb] at hb'
    obtain rfl := Option.some.inj hb'
    unfold candB at hc
    rw [hno b (List.mem_of_getElem? hb) hbe] at hc
    cases hc
  refine ⟨fun i => ?_, List.Pairwise.imp_of_mem (fun {a b} ha hb hab => by rw [h.ahead (hnE a ha) (hnE b hb)]; exact hab) hl.sorted⟩
  rw [hl.mem i]
  constructor
  · rintro ⟨b, hb, hc⟩
    unfold candB at hc
    rw [Bool.and_eq_true] at hc
    exact ⟨al e v b, by rw [h.get, hb]; rfl, by rw [h.cand t (h0 b (List.mem_of_getElem? hb))]; exact hc.1⟩
  · rintro ⟨b', hb', hc⟩
    rw [h.get] at hb'
    cases hb : G.bids[i]? with
    | none => rw [hb] at hb'; cases hb'
    | some b =>
      rw [hb] at hb'
      obtain rfl := Option.some.inj hb'
      rw [h.cand t (h0 b (List.mem_of_getElem? hb))] at hc
      refine ⟨b, rfl, ?_⟩
      unfold candB
      rw [hc, h.gh, Bool.true_and]
      by_cases hbe : b.entry = e
      · rw [hno b (List.mem_of_getElem? hb) hbe] at hc
        cases hc
      · simpa using hbe

/-! ### the least value -/
def lq (gi k : Nat) (jg jk : JobG) : Int :=
  let n := jk.val * sizeJ jg
  let d := sizeJ jk
  if n.tmod d = 0 ∧ gi < k then n.tdiv d else n.tdiv d + 1
theorem least_iff {gi k : Nat} {jg jk : JobG} {v : Int} (hg : 0 < sizeJ jg) (hk : 0 < sizeJ jk) (hv : 0 ≤ jk.val) : aheadJ { jg with val := v } jk gi k = true ↔ lq gi k jg jk ≤ v := by
  rw [aheadJ_iff]
  have es : sizeJ { jg with val := v } = sizeJ jg := rfl
  simp only [es]
  unfold lq
  simp only
  have hn : 0 ≤ jk.val * sizeJ jg := Int.mul_nonneg hv (by omega)
  generalize jk.val * sizeJ jg = n at *
  generalize sizeJ jk = d at *
  rw [Int.tmod_eq_emod_of_nonneg hn, Int.tdiv_eq_ediv_of_nonneg hn]
  have h1 := Int.emod_add_mul_ediv n d
  have h2 := Int.emod_nonneg n (show d ≠ 0 by omega)
  have h3 := Int.emod_lt_of_pos n hk
  generalize n / d = q at *
  generalize n % d = r at *
  have key : n < v * d ↔ q + 1 ≤ v := by
    constructor
    · intro h
      rcases Int.lt_or_le v (q + 1) with h' | h'
      · exfalso
        have : d * v ≤ d * q := Int.mul_le_mul_of_nonneg_left (by omega) (by omega)
        rw [Int.mul_comm v d] at h
        omega
      · exact h'
    · intro h
      have : d * (q + 1) ≤ d * v := Int.mul_le_mul_of_nonneg_left h (by omega)
      rw [Int.mul_add, Int.mul_one] at this
      rw [Int.mul_comm v d]
      omega
  have key2 : v * d = n → r = 0 ∧ v = q := by
    intro h
    have hq : ¬ q + 1 ≤ v := fun hx => by have := key.2 hx; omega
    have : v ≤ q := by omega
    rcases Int.lt_or_le v q with h' | h'
    · exfalso
      have : d * (v + 1) ≤ d * q := Int.mul_le_mul_of_nonneg_left (by omega) (by omega)
      rw [Int.mul_add, Int.mul_one] at this
      rw [Int.mul_comm v d] at h
      omega
    · have hvq : v = q := by omega
      subst hvq
      rw [Int.mul_comm] at h
      exact ⟨by omega, rfl⟩
  have key3 : r = 0 → q * d = n := fun h => by rw [Int.mul_comm]; omega
  by_cases hc : r = 0 ∧ gi < k
  · rw [if_pos hc, key]
    constructor
    · rintro (h | ⟨h, _⟩)
      · omega
      · have := key2 h; omega
    · intro h
      rcases Int.lt_or_le q v with h' | h'
      · exact .inl (by omega)
      · have : v = q := by omega
        subst this
        exact .inr ⟨key3 hc.1, hc.2⟩
  · rw [if_neg hc, key]
    constructor
    · rintro (h | ⟨h, h'⟩)
      · exact h
      · exact absurd ⟨(key2 h).1, h'⟩ hc
    · exact fun h => .inl h
end Go.Proofs.Ytminceigjejipaa

/-
  WHAT THE GHOST WANTS AT A TICK, AND WHAT THE BID DOES THERE. Nothing of the program.
-/
namespace Go.Proofs.Ytminceigjejipaa

/-! ### free units go down as bids start -/
theorem usedL_start (l : List BidG) (i : Nat) (b : BidG) (hb : l[i]? = some b) (t : Int) (h1 : b.state ≠ 2) (h2 : 0 ≤ b.job.units) (s : Int) : usedL l s ≤ usedL (l.set i { b with state := 2, start := t }) s := by
  induction l generalizing i with
  | nil => simp at hb
  | cons y l ih =>
    cases i with
    | zero =>
      simp at hb
      subst hb
      have hr : y.runs s = false := by simp [BidG.runs, h1]
      simp only [usedL, List.set_cons_zero, List.map_cons, List.sum_cons, hr]
      simp only [Bool.false_eq_true, if_false]
      split <;> omega
    | succ i =>
      simp only [List.getElem?_cons_succ] at hb
      have := ih i hb
      simp only [usedL, List.set_cons_succ, List.map_cons, List.sum_cons] at this ⊢
      omega
theorem startM_set {m : MkG} {i : Nat} {b : BidG} {t : Int} (h : m.bids[i]? = some b) : startM m i t = { m with bids := m.bids.set i { b with state := 2, start := t } } := by
  unfold startM
  rw [h]
theorem fits_start {m : MkG} {i : Nat} {b bg : BidG} {t : Int} (hb : m.bids[i]? = some b) (h1 : b.state ≠ 2) (h2 : 0 ≤ b.job.units) (h : fitsB (startM m i t) bg t = true) : fitsB m bg t = true := by
  rw [fitsB_iff] at h ⊢
  intro s hs
  have := h s hs
  unfold freeV at this ⊢
  rw [startM_set hb] at this
  simp only at this
  have hu := usedL_start m.bids i b hb t h1 h2 (t + s)
  split at this
  · rename_i hx
    rw [if_pos hx]
    exact this
  · rename_i hx
    rw [if_neg hx]
    omega
theorem fits_want (m : MkG) (g : Nat) (x : Int) (b : BidG) (t : Int) : fitsB (wantM m g x) b t = fitsB m b t := by
  unfold wantM
  split <;> rfl

/-! ### the ghost's need -/
def minN (N x : Int) : Int := if N = 0 ∨ x < N then x else N
def wq (res : Int) (jg : JobG) (x : Int) : Int :=
  let r := res * sizeJ jg
  let v1 := if x < r then r else x
  if v1 < 1 then 1 else v1
theorem wq_le {res : Int} {jg : JobG} {x v : Int} : wq res jg x ≤ v ↔ x ≤ v ∧ res * sizeJ jg ≤ v ∧ 1 ≤ v := by
  unfold wq
  simp only
  split <;> split <;> omega
theorem wq_pos (res : Int) (jg : JobG) (x : Int) : 1 ≤ wq res jg x := by
  unfold wq
  simp only
  split <;> split <;> omega
theorem want_need {m : MkG} {g : Nat} {x : Int} : (wantM m g x).need = minN m.need (wantV m g x) := by
  unfold wantM minN
  split <;> rfl
theorem wantV_eq {m : MkG} {g : Nat} {bg : BidG} (h : m.bids[g]? = some bg) (x : Int) : wantV m g x = wq m.c.res bg.job x := by
  unfold wantV wq
  rw [jobAt_eq h]
theorem leastV_eq {m : MkG} {g k : Nat} {bg bk : BidG} (h : m.bids[g]? = some bg) (hk : m.bids[k]? = some bk) : leastV m g k = lq g k bg.job bk.job := by
  unfold leastV lq
  rw [jobAt_eq h, jobAt_eq hk]

/-- a bid of the order, in the midst of a tick: it is pending still -/
def Fresh (m : MkG) (l : List Nat) : Prop := ∀ i ∈ l, ∀ b, m.bids[i]? = some b → b.state ≠ 2 ∧ 0 ≤ b.job.units

/-- one step of the ghost's tick -/
theorem ghost_one {m : MkG} {o : List (Int × Int)} {t : Int} {gi i : Nat} {bg : BidG} (hg : m.bids[gi]? = some bg) (hne : gi ≠ i) (hf : Fresh m [i]) :
    (fitsB (tickOne t (some gi) (m, o) i).1 bg t = fitsB m bg t ∧ (tickOne t (some gi) (m, o) i).1.need = m.need) ∨
    (fitsB m bg t = true ∧ fitsB (tickOne t (some gi) (m, o) i).1 bg t = false ∧ ∃ b, m.bids[i]? = some b ∧ (tickOne t (some gi) (m, o) i).1.need = minN m.need (wq m.c.res bg.job (lq gi i bg.job b.job))) := by
  unfold tickOne
  simp only
  cases hb : m.bids[i]? with
  | none => exact .inl ⟨rfl, rfl⟩
  | some b =>
    simp only
    obtain ⟨f1, f2⟩ := hf i (by simp) b hb
    have hgs : (startM m i t).bids[gi]? = some bg := ((AlikeM.start m i t).bid gi (by simp [hne])).trans hg
    have hl := (List.getElem?_eq_some_iff.1 hb).1
    have hbs : (startM m i t).bids[i]? = some { b with state := 2, start := t } := by
      unfold startM
      rw [hb]
      simp [hl]
    have hneed : (startM m i t).need = m.need := by unfold startM; rw [hb]
    have hc : (startM m i t).c = m.c := (AlikeM.start m i t).c
    split
    · have hr1 : roomB m (some gi) t = fitsB m bg t := by simp only [roomB, hg]
      have hr2 : roomB (startM m i t) (some gi) t = fitsB (startM m i t) bg t := by simp only [roomB, hgs]
      rw [hr1, hr2]
      by_cases hcd : (fitsB m bg t && !fitsB (startM m i t) bg t) = true
      · rw [if_pos hcd]
        simp only [Bool.and_eq_true, Bool.not_eq_true'] at hcd
        refine .inr ⟨hcd.1, by rw [fits_want]; exact hcd.2, b, rfl, ?_⟩
        rw [want_need, hneed, wantV_eq hgs, hc, leastV_eq hgs hbs]
      · rw [if_neg hcd]
        refine .inl ⟨?_, hneed⟩
        cases r1 : fitsB m bg t
        · cases r2 : fitsB (startM m i t) bg t
          · rfl
          · rw [fits_start hb f1 f2 r2] at r1; cases r1
        · cases r2 : fitsB (startM m i t) bg t
          · rw [r1, r2] at hcd; exact absurd rfl hcd
          · rfl
    · exact .inl ⟨rfl, rfl⟩

theorem Fresh.one {t : Int} {g : Option Nat} {s : TkS} {i : Nat} {l : List Nat} (h : Fresh s.1 (i :: l)) (hi : i ∉ l) : Fresh (tickOne t g s i).1 l := fun k hk b hb => by
  have := (AlikeM.one t g s i).bid k (by simp; intro e; subst e; exact hi hk)
  rw [this] at hb
  exact h k (List.mem_cons_of_mem _ hk) b hb
/-- all steps of it -/
theorem ghost_fold {t : Int} {gi : Nat} {bg : BidG} : ∀ (l : List Nat) (m : MkG) (o : List (Int × Int)), m.bids[gi]? = some bg → gi ∉ l → l.Pairwise (fun i k => i ≠ k) → Fresh m l →
    (fitsB (l.foldl (tickOne t (some gi)) (m, o)).1 bg t = fitsB m bg t ∧ (l.foldl (tickOne t (some gi)) (m, o)).1.need = m.need) ∨
    (fitsB m bg t = true ∧ fitsB (l.foldl (tickOne t (some gi)) (m, o)).1 bg t = false ∧ ∃ q ∈ l, ∃ b, m.bids[q]? = some b ∧ (l.foldl (tickOne t (some gi)) (m, o)).1.need = minN m.need (wq m.c.res bg.job (lq gi q bg.job b.job)))
  | [], _, _, _, _, _, _ => .inl ⟨rfl, rfl⟩
  | i :: l, m, o, hg, hn, hp, hf => by
    rw [List.pairwise_cons] at hp
    have hil : i ∉ l := fun h => hp.1 i h rfl
    have hne : gi ≠ i := fun h => hn (by rw [h]; exact List.mem_cons_self)
    have h1 := ghost_one (o := o) (t := t) hg hne (fun k hk b hb => hf k (by simp at hk; subst hk; exact List.mem_cons_self) b hb)
    have hal := AlikeM.one t (some gi) (m, o) i
    have hg1 : (tickOne t (some gi) (m, o) i).1.bids[gi]? = some bg := (hal.bid gi (by simp [hne])).trans hg
    have h2 := ghost_fold (t := t) l (tickOne t (some gi) (m, o) i).1 (tickOne t (some gi) (m, o) i).2 hg1 (fun h => hn (List.mem_cons_of_mem _ h)) hp.2 (Fresh.one (s := (m, o)) hf hil)
    simp only [List.foldl_cons]
    rcases h1 with ⟨a1, a2⟩ | ⟨a1, a2, b, hb, a3⟩
    · rcases h2 with ⟨b1, b2⟩ | ⟨b1, b2, q, hq, bq, hbq, b3⟩
      · exact .inl ⟨b1.trans a1, b2.trans a2⟩
      · refine .inr ⟨a1 ▸ b1, b2, q, List.mem_cons_of_mem _ hq, bq, ?_, ?_⟩
        · have := hal.bid q (by simp; intro e; subst e; exact hil hq)
          rw [this] at hbq
          exact hbq
        · rw [a2, show (tickOne t (some gi) (m, o) i).1.c = m.c from hal.c] at b3
          exact b3
    · rcases h2 with ⟨b1, b2⟩ | ⟨b1, _⟩
      · exact .inr ⟨a1, b1.trans a2, i, List.mem_cons_self, b, hb, b2.trans a3⟩
      · rw [a2] at b1; cases b1
end Go.Proofs.Ytminceigjejipaa

/-
  A TICK, WITH THE GHOST AND WITH THE BID. Nothing of the program.
-/
namespace Go.Proofs.Ytminceigjejipaa

structure EntOk (m : MkG) : Prop where
  lt : ∀ (i k : Nat) b b', m.bids[i]? = some b → m.bids[k]? = some b' → i < k → b.entry < b'.entry
  in' : ∀ b ∈ m.bids, 0 ≤ b.entry ∧ b.entry < m.log.length
theorem EntOk.uniq {m : MkG} (h : EntOk m) {i k : Nat} {b b' : BidG} (hb : m.bids[i]? = some b) (hb' : m.bids[k]? = some b') (he : b.entry = b'.entry) : i = k := by
  rcases Nat.lt_trichotomy i k with h1 | h1 | h1
  · have := h.lt i k b b' hb hb' h1; omega
  · exact h1
  · have := h.lt k i b' b hb' hb h1; omega

theorem expire_al (e v : Int) (b : BidG) (now : Int) : (al e v b).expire now = al e v (b.expire now) := by
  unfold BidG.expire
  rw [al_state, al_dl, al_len]
  by_cases h : (b.state == 1 && decide (b.job.dl < now + b.job.len)) = true
  · rw [if_pos h, if_pos h]
    exact (al_setS e v b 4).symm
  · rw [if_neg h, if_neg h]
theorem MAl.tickEnd {e v : Int} {G R : MkG} (h : MAl e v G R) (t : Int) : MAl e v (tickEnd t G) (tickEnd t R) := by
  refine ⟨h.c, rfl, h.units, h.susp, h.log, ?_, h.gh, h.rg⟩
  show R.bids.map _ = (G.bids.map _).map _
  rw [h.bids, List.map_map, List.map_map]
  apply List.map_congr_left
  intro b _
  exact expire_al e v b _
theorem need_none (t : Int) : ∀ (l : List Nat) (s : TkS), (l.foldl (tickOne t none) s).1.need = s.1.need
  | [], _ => rfl
  | i :: l, s => by
    have : (tickOne t none s i).1.need = s.1.need := by
      unfold tickOne
      split
      · rfl
      · split
        · simp only
          unfold startM
          split <;> rfl
        · rfl
    exact (need_none t l _).trans this
theorem MAl.ghostI {e v : Int} {G R : MkG} (h : MAl e v G R) (h0 : ∀ b ∈ G.bids, 0 ≤ b.entry) (t : Int) : ghostI R t = none := by
  unfold Go.Proofs.Ytminceigjejipaa.ghostI
  rw [List.findIdx?_eq_none_iff]
  intro x hx
  rw [h.bids, List.mem_map] at hx
  obtain ⟨b, hb, rfl⟩ := hx
  have hne : ((al e v b).entry == R.ghost) = false := by rw [al_entry, h.rg]; have := h0 b hb; simp; omega
  rw [hne, Bool.and_false]
theorem minN_le {N x v : Int} (h : N = 0 ∨ v < N) (hx : x ≤ v) (h1 : 1 ≤ x) : 0 < minN N x ∧ minN N x ≤ v := by
  unfold minN
  split <;> omega
theorem minN_gt {N x v : Int} (h : N = 0 ∨ v < N) (hx : v < x) : minN N x = 0 ∨ v < minN N x := by
  unfold minN
  split <;> omega

/-- a tick of both, as long as the bid has not started -/
theorem tick_phase {e v : Int} {G R : MkG} (h : MAl e v G R) (hok : MkOk G) (hent : EntOk G) (hv : 1 ≤ v) (hN : G.need = 0 ∨ v < G.need) :
    (MAl e v (tickF G) (tickF R) ∧ ((tickF G).need = 0 ∨ v < (tickF G).need)) ∨ ((∃ (i : Nat) (b : BidG), (tickF R).bids[i]? = some b ∧ b.entry = e ∧ b.state = 2) ∧ 0 < (tickF G).need ∧ (tickF G).need ≤ v) := by
  have h0 : ∀ b ∈ G.bids, 0 ≤ b.entry := fun b hb => (hent.in' b hb).1
  unfold tickF
  rw [h.c, h.time]
  by_cases hov : G.c.ticks ≤ G.time
  · rw [if_pos hov, if_pos hov]
    exact .inl ⟨h.logs _ _, hN⟩
  rw [if_neg hov, if_neg hov]
  have hsG := hok.sizes
  have hsR := h.sizes hsG
  have hoG := orderL_is (t := G.time) hsG
  have hoR := orderL_is (m := R) (t := G.time) hsR
  generalize orderL G G.time = l at *
  generalize orderL R G.time = lR at *
  have h1 := h.logs callTick callTick
  have hnE : NotE e (G.logs callTick) l := fun i hi b hb => by
    obtain ⟨b', hb', hc⟩ := (hoG.mem i).1 hi
    rw [show G.bids[i]? = some b from hb] at hb'
    obtain rfl := Option.some.inj hb'
    unfold candB at hc
    rw [Bool.and_eq_true, h.gh] at hc
    simpa using hc.2
  have hfr : Fresh (G.logs callTick) l := fun i hi b hb => by
    obtain ⟨b', hb', hc⟩ := (hoG.mem i).1 hi
    rw [show G.bids[i]? = some b from hb] at hb'
    obtain rfl := Option.some.inj hb'
    unfold candB BidG.openB at hc
    simp only [Bool.and_eq_true] at hc
    have hs : b.state = 1 := by simpa using hc.1.1.1.1
    have := jobIn_true (hok.bid b (List.mem_of_getElem? hb)).job
    exact ⟨by omega, by omega⟩
  have hpw : l.Pairwise (fun i k => i ≠ k) := List.Pairwise.imp (fun {a b} hab => by rintro rfl; rw [aheadI_irrefl] at hab; cases hab) hoG.sorted
  have hR0 : ghostI (R.logs callTick) G.time = none := h1.ghostI h0 G.time
  unfold tickM
  simp only [h.time]
  rw [hR0]
  cases hgi : ghostI (G.logs callTick) G.time with
  | none =>
    have hno : ∀ b ∈ G.bids, b.entry = e → b.openB G G.time = false := fun b hb hbe => by
      unfold ghostI at hgi
      rw [List.findIdx?_eq_none_iff] at hgi
      have := hgi b hb
      rw [show (G.logs callTick).ghost = e from h.gh] at this
      have he2 : (b.entry == e) = true := by simpa using hbe
      rw [he2, Bool.and_true] at this
      exact this
    have hlR : lR = l := hoR.unique (order_same h h0 hno hoG)
    rw [hlR]
    refine .inl ⟨(MAl.fold G.time none l [] [] h1 hnE).tickEnd _, ?_⟩
    show (l.foldl (tickOne G.time none) (G.logs callTick, [])).1.need = 0 ∨ v < (l.foldl (tickOne G.time none) (G.logs callTick, [])).1.need
    rw [need_none]
    exact hN
  | some gi =>
    obtain ⟨bg, hbg, hbo, hbe⟩ : ∃ bg, G.bids[gi]? = some bg ∧ bg.openB G G.time = true ∧ bg.entry = e := by
      unfold ghostI at hgi
      obtain ⟨a1, a2, _⟩ := List.findIdx?_eq_some_iff_getElem.1 hgi
      simp only [Bool.and_eq_true] at a2
      refine ⟨_, List.getElem?_eq_getElem a1, a2.1, ?_⟩
      have := a2.2
      rw [show (G.logs callTick).ghost = e from h.gh] at this
      simpa using this
    obtain ⟨l1, l2, hl, hoI, hA1, hA2⟩ := order_insert h hsG h0 hbg hbe hbo (fun i b hb hbe' => hent.uniq hb hbg (by rw [hbe', hbe])) hoG
    have hlR : lR = l1 ++ gi :: l2 := hoR.unique hoI
    have hgl : gi ∉ l := fun hx => hnE gi hx bg hbg hbe
    rw [hl] at hnE hfr hpw hgl
    rw [hlR, hl]
    rw [List.pairwise_append] at hpw
    have hgl1 : gi ∉ l1 := fun hx => hgl (List.mem_append_left _ hx)
    have hgl2 : gi ∉ l2 := fun hx => hgl (List.mem_append_right _ hx)
    unfold tickFold
    rw [List.foldl_append, List.foldl_append, List.foldl_cons]
    have hM1 := MAl.fold G.time (some gi) l1 [] [] h1 (fun i hi => hnE i (List.mem_append_left _ hi))
    have hal1 := AlikeM.fold G.time (some gi) l1 (G.logs callTick, [])
    have hg1 := ghost_fold (t := G.time) l1 (G.logs callTick) [] (show (G.logs callTick).bids[gi]? = some bg from hbg) hgl1 hpw.1 (fun i hi => hfr i (List.mem_append_left _ hi))
    generalize hs1 : l1.foldl (tickOne G.time (some gi)) (G.logs callTick, []) = s1 at *
    generalize hr1 : l1.foldl (tickOne G.time none) (R.logs callTick, []) = r1 at *
    have hbs : s1.1.bids[gi]? = some bg := (hal1.bid gi hgl1).trans hbg
    have hbr : r1.1.bids[gi]? = some (al e v bg) := by rw [hM1.get, hbs]; rfl
    have hfr2 : Fresh s1.1 l2 := fun i hi b hb => by
      have := hal1.bid i (fun hx => (hpw.2.2 i hx i hi) rfl)
      rw [this] at hb
      exact hfr i (List.mem_append_right _ hi) b hb
    have hnE2 : NotE e s1.1 l2 := fun i hi b hb => by
      have := hal1.bid i (fun hx => (hpw.2.2 i hx i hi) rfl)
      rw [this] at hb
      exact hnE i (List.mem_append_right _ hi) b hb
    have hc1 : s1.1.c = G.c := hal1.c
    have hg2 := ghost_fold (t := G.time) l2 s1.1 s1.2 hbs hgl2 hpw.2.1 hfr2
    have hal2 := AlikeM.fold G.time (some gi) l2 s1
    have hjb := hok.bid bg (List.mem_of_getElem? hbg)
    have hsz : 0 < sizeJ bg.job := hsG bg (List.mem_of_getElem? hbg)
    have e1 : (s1.1, s1.2) = s1 := rfl
    rw [e1] at hg2
    -- who is ahead of the bid, in terms of the least value
    have ah2 : ∀ q ∈ l2, ∀ b, s1.1.bids[q]? = some b → lq gi q bg.job b.job ≤ v := fun q hq b hb => by
      have hq0 : G.bids[q]? = some b := by have := hal1.bid q (fun hx => (hpw.2.2 q hx q hq) rfl); rw [this] at hb; exact hb
      have := hA2 q hq
      unfold aheadI at this
      rw [h.get, h.get, hbg, hq0] at this
      simp only [Option.map_some, al_eq hbe, al_ne (hnE q (List.mem_append_right _ hq) b hq0)] at this
      exact (least_iff hsz (hsG b (List.mem_of_getElem? hq0)) (by have := jobIn_true (hok.bid b (List.mem_of_getElem? hq0)).job; omega)).1 this
    have ah1 : ∀ q ∈ l1, ∀ b, G.bids[q]? = some b → v < lq gi q bg.job b.job := fun q hq b hq0 => by
      have := hA1 q hq
      have h2 := aheadI_asymm this
      unfold aheadI at h2
      rw [h.get, h.get, hbg, hq0] at h2
      simp only [Option.map_some, al_eq hbe, al_ne (hnE q (List.mem_append_left _ hq) b hq0)] at h2
      rcases Int.lt_or_le v (lq gi q bg.job b.job) with h3 | h3
      · exact h3
      · have := (least_iff (gi := gi) (k := q) (v := v) hsz (hsG b (List.mem_of_getElem? hq0)) (by have := jobIn_true (hok.bid b (List.mem_of_getElem? hq0)).job; omega)).2 h3
        unfold setV at h2
        rw [this] at h2
        cases h2
    -- the last word on the need
    have hend : ∀ m : MkG, m.bids[gi]? = some bg → m.c = G.c → (wantEnd G.time (some gi) m).need = if fitsB m bg G.time = true then minN m.need (wq G.c.res bg.job 0) else m.need := fun m hm hc => by
      unfold wantEnd
      simp only [roomB, hm]
      by_cases hf : fitsB m bg G.time = true
      · rw [if_pos hf, if_pos hf, want_need, wantV_eq hm, hc]
      · rw [if_neg hf, if_neg hf]
    have hbe2 : (l2.foldl (tickOne G.time (some gi)) s1).1.bids[gi]? = some bg := (hal2.bid gi hgl2).trans hbs
    have hce : (l2.foldl (tickOne G.time (some gi)) s1).1.c = G.c := hal2.c.trans hc1
    have hneed := hend _ hbe2 hce
    have hwin : tickOne G.time none r1 gi = if fitsB s1.1 bg G.time = true ∧ G.c.res * sizeJ bg.job ≤ v then (startM r1.1 gi G.time, r1.2 ++ [((al e v bg).ten, (al e v bg).ref)]) else r1 := by
      unfold tickOne
      rw [hbr]
      simp only
      rw [hM1.fits, hM1.c, hc1]
      unfold BidG.winB
      rw [al_size, al_eq hbe]
      show (if (fitsB s1.1 bg G.time && decide (G.c.res * sizeJ bg.job ≤ v)) = true then _ else _) = _
      by_cases hw : fitsB s1.1 bg G.time = true ∧ G.c.res * sizeJ bg.job ≤ v
      · rw [if_pos hw, if_pos (by simp [hw])]
      · rw [if_neg hw, if_neg (by simp only [Bool.and_eq_true, decide_eq_true_eq]; exact hw)]
    rw [hwin]
    by_cases hw : fitsB s1.1 bg G.time = true ∧ G.c.res * sizeJ bg.job ≤ v
    · right
      rw [if_pos hw]
      obtain ⟨hw1, hw2⟩ := hw
      have hn1 : s1.1.need = G.need := by
        rcases hg1 with ⟨_, a⟩ | ⟨_, a, _⟩
        · exact a
        · rw [hw1] at a; cases a
      refine ⟨?_, ?_⟩
      · have hal3 := AlikeM.fold G.time none l2 (startM r1.1 gi G.time, r1.2 ++ [((al e v bg).ten, (al e v bg).ref)])
        have hst : (startM r1.1 gi G.time).bids[gi]? = some { al e v bg with state := 2, start := G.time } := by
          rw [startM_set hbr]
          simp [(List.getElem?_eq_some_iff.1 hbr).1]
        have hfin := (hal3.bid gi hgl2).trans hst
        refine ⟨gi, { al e v bg with state := 2, start := G.time }, ?_, ?_, rfl⟩
        · show ((l2.foldl (tickOne G.time none) (startM r1.1 gi G.time, r1.2 ++ [((al e v bg).ten, (al e v bg).ref)])).1.bids.map fun b => b.expire (G.time + 1))[gi]? = _
          rw [List.getElem?_map, hfin]
          rfl
        · show (al e v bg).entry = e
          rw [al_entry]
          exact hbe
      · show 0 < (wantEnd G.time (some gi) (l2.foldl (tickOne G.time (some gi)) s1).1).need ∧ (wantEnd G.time (some gi) (l2.foldl (tickOne G.time (some gi)) s1).1).need ≤ v
        rw [hneed]
        rcases hg2 with ⟨a1, a2⟩ | ⟨_, a2, q, hq, bq, hbq, a3⟩
        · rw [if_pos (by rw [a1]; exact hw1), a2, hn1]
          exact minN_le hN (wq_le.2 ⟨by omega, hw2, hv⟩) (wq_pos _ _ _)
        · rw [if_neg (by rw [a2]; simp), a3, hn1, hc1]
          exact minN_le hN (wq_le.2 ⟨ah2 q hq bq hbq, hw2, hv⟩) (wq_pos _ _ _)
    · left
      rw [if_neg hw]
      have hM2 := MAl.fold G.time (some gi) l2 s1.2 r1.2 hM1 hnE2
      refine ⟨(hM2.wantEnd G.time (some gi)).tickEnd _, ?_⟩
      show (wantEnd G.time (some gi) (l2.foldl (tickOne G.time (some gi)) s1).1).need = 0 ∨ v < (wantEnd G.time (some gi) (l2.foldl (tickOne G.time (some gi)) s1).1).need
      rw [hneed]
      cases hf : fitsB s1.1 bg G.time
      · -- no room any more
        rcases hg2 with ⟨a1, a2⟩ | ⟨a1, _⟩
        · rw [if_neg (by rw [a1, hf]; simp), a2]
          rcases hg1 with ⟨_, b2⟩ | ⟨_, _, q, hq, bq, hbq, b3⟩
          · rw [b2]; exact hN
          · rw [b3]
            refine minN_gt hN ?_
            have h3 := ah1 q hq bq hbq
            rcases Int.lt_or_le v (wq G.c.res bg.job (lq gi q bg.job bq.job)) with h4 | h4
            · exact h4
            · have := (wq_le.1 h4).1; omega
        · rw [hf] at a1; cases a1
      · -- room, but too low a value
        have hlow : v < G.c.res * sizeJ bg.job := by
          rcases Int.lt_or_le v (G.c.res * sizeJ bg.job) with h4 | h4
          · exact h4
          · exact absurd ⟨hf, h4⟩ hw
        have hwv : ∀ x, v < wq G.c.res bg.job x := fun x => by
          rcases Int.lt_or_le v (wq G.c.res bg.job x) with h4 | h4
          · exact h4
          · have := (wq_le.1 h4).2.1; omega
        have hn1 : s1.1.need = G.need := by
          rcases hg1 with ⟨_, a⟩ | ⟨_, a, _⟩
          · exact a
          · rw [hf] at a; cases a
        rcases hg2 with ⟨a1, a2⟩ | ⟨_, a2, q, hq, bq, hbq, a3⟩
        · rw [if_pos (by rw [a1]; exact hf), a2, hn1]
          exact minN_gt hN (hwv _)
        · rw [if_neg (by rw [a2]; simp), a3, hn1, hc1]
          exact minN_gt hN (hwv _)
end Go.Proofs.Ytminceigjejipaa

/-
  THE THRESHOLD: in the replay with the value v the bid wins just if the ghost's need is at most v. Nothing of the program.
-/
namespace Go.Proofs.Ytminceigjejipaa

/-! ### what has won stays so; the need goes down -/
def WonE (e : Int) (m : MkG) : Prop := ∃ (i : Nat) (b : BidG), m.bids[i]? = some b ∧ b.entry = e ∧ b.state = 2
theorem won_start {e : Int} {m : MkG} (h : WonE e m) (i : Nat) (t : Int) : WonE e (startM m i t) := by
  obtain ⟨k, b, hb, he, hs⟩ := h
  cases hi : m.bids[i]? with
  | none =>
    refine ⟨k, b, ?_, he, hs⟩
    unfold startM
    rw [hi]
    exact hb
  | some b' =>
    rw [startM_set hi]
    by_cases e1 : i = k
    · subst e1
      rw [hi] at hb
      obtain rfl := Option.some.inj hb
      exact ⟨i, { b' with state := 2, start := t }, by simp [(List.getElem?_eq_some_iff.1 hi).1], he, rfl⟩
    · exact ⟨k, b, by simp [e1, hb], he, hs⟩
theorem won_want {e : Int} {m : MkG} (h : WonE e m) (g : Nat) (x : Int) : WonE e (wantM m g x) := by
  unfold WonE
  rw [ent_want]
  exact h
theorem won_one {e : Int} {s : TkS} (h : WonE e s.1) (t : Int) (g : Option Nat) (i : Nat) : WonE e (tickOne t g s i).1 := by
  unfold tickOne
  split
  · exact h
  · split
    · cases g with
      | none => exact won_start h i t
      | some gi =>
        simp only
        split
        · exact won_want (won_start h i t) _ _
        · exact won_start h i t
    · exact h
theorem won_fold {e : Int} (t : Int) (g : Option Nat) : ∀ (l : List Nat) (s : TkS), WonE e s.1 → WonE e (l.foldl (tickOne t g) s).1
  | [], _, h => h
  | i :: l, _, h => won_fold t g l _ (won_one h t g i)
theorem won_end {e : Int} {m : MkG} (h : WonE e m) (t : Int) (g : Option Nat) : WonE e (wantEnd t g m) := by
  unfold wantEnd
  cases g with
  | none => exact h
  | some gi =>
    simp only
    split
    · exact won_want h _ _
    · exact h
theorem won_tick {e : Int} {m : MkG} (h : WonE e m) : WonE e (tickF m) := by
  unfold tickF
  split
  · exact h
  · have h1 := won_fold m.time (ghostI (m.logs callTick) m.time) (orderL m m.time) (m.logs callTick, []) h
    have h2 := won_end h1 m.time (ghostI (m.logs callTick) m.time)
    obtain ⟨k, b, hb, he, hs⟩ := h2
    refine ⟨k, b, ?_, he, hs⟩
    show (List.map _ _)[k]? = _
    rw [List.getElem?_map]
    have : b.expire (m.time + 1) = b := by unfold BidG.expire; rw [hs]; rfl
    unfold tickFold
    rw [hb]
    simp only [Option.map_some, this]
theorem won_again {e : Int} {m : MkG} (h : WonE e m) (c : CallG) : WonE e (againM m c) := by
  unfold againM
  split
  · exact h
  · split
    · unfold submitM
      simp only
      split
      · obtain ⟨k, b, hb, he, hs⟩ := h
        exact ⟨k, b, by show (m.bids ++ [newBid m c.a c.b c.job])[k]? = some b; rw [List.getElem?_append_left (List.getElem?_eq_some_iff.1 hb).1]; exact hb, he, hs⟩
      · exact h
    · split
      · unfold cancelM
        simp only
        split
        · rename_i hE
          obtain ⟨k, b, hb, he, hs⟩ := h
          show ∃ (i : Nat) (x : BidG), (setState m.bids (findZ m.bids c.a c.b).toNat 3)[i]? = some x ∧ x.entry = e ∧ x.state = 2
          unfold setState
          cases hi : m.bids[(findZ m.bids c.a c.b).toNat]? with
          | none => exact ⟨k, b, hb, he, hs⟩
          | some b' =>
            simp only
            have hst : stateAt m (findZ m.bids c.a c.b) = 1 := by
              unfold cancelE at hE
              split at hE
              · cases hE
              · split at hE
                · cases hE
                · split at hE
                  · assumption
                  · cases hE
            have hs' : b'.state = 1 := by
              unfold stateAt at hst
              rw [show m.bids[(findZ m.bids c.a c.b).toNat]? = some b' from hi] at hst
              simpa using hst
            refine ⟨k, b, ?_, he, hs⟩
            have hne : (findZ m.bids c.a c.b).toNat ≠ k := fun hx => by
              rw [hx] at hi
              rw [show m.bids[k]? = some b' from hi] at hb
              obtain rfl := Option.some.inj hb
              omega
            rw [List.getElem?_set, if_neg hne]
            exact hb
        · exact h
      · split
        · unfold capM
          split
          · exact h
          · split <;> exact h
        · split
          · unfold suspendM
            simp only
            split <;> exact h
          · split
            · exact won_tick h
            · exact h

theorem wantV_pos (m : MkG) (g : Nat) (x : Int) : 1 ≤ wantV m g x := by
  unfold wantV
  simp only
  split <;> split <;> omega
def NeedLe (m m' : MkG) : Prop := 0 < m.need → 0 < m'.need ∧ m'.need ≤ m.need
theorem NeedLe.trans {a b c : MkG} (h : NeedLe a b) (h' : NeedLe b c) : NeedLe a c := fun hx => by
  have h1 := h hx
  have h2 := h' h1.1
  omega
theorem NeedLe.same {m m' : MkG} (h : m'.need = m.need) : NeedLe m m' := fun hx => by omega
theorem need_want (m : MkG) (g : Nat) (x : Int) : NeedLe m (wantM m g x) := fun hx => by
  have := wantV_pos m g x
  rw [want_need]
  unfold minN
  split <;> omega
theorem need_start (m : MkG) (i : Nat) (t : Int) : (startM m i t).need = m.need := by
  unfold startM
  split <;> rfl
theorem need_one (t : Int) (g : Option Nat) (s : TkS) (i : Nat) : NeedLe s.1 (tickOne t g s i).1 := by
  unfold tickOne
  split
  · exact NeedLe.same rfl
  · split
    · cases g with
      | none => exact NeedLe.same (need_start _ _ _)
      | some gi =>
        simp only
        split
        · exact (NeedLe.same (need_start _ _ _)).trans (need_want _ _ _)
        · exact NeedLe.same (need_start _ _ _)
    · exact NeedLe.same rfl
theorem need_fold (t : Int) (g : Option Nat) : ∀ (l : List Nat) (s : TkS), NeedLe s.1 (l.foldl (tickOne t g) s).1
  | [], _ => NeedLe.same rfl
  | i :: l, s => (need_one t g s i).trans (need_fold t g l _)
theorem need_tick (m : MkG) : NeedLe m (tickF m) := by
  unfold tickF
  split
  · exact NeedLe.same rfl
  · refine NeedLe.trans (b := ((orderL m m.time).foldl (tickOne m.time (ghostI (m.logs callTick) m.time)) (m.logs callTick, [])).1) (need_fold _ _ _ (m.logs callTick, [])) ?_
    show NeedLe _ (wantEnd m.time (ghostI (m.logs callTick) m.time) (tickFold m.time (ghostI (m.logs callTick) m.time) (m.logs callTick) (orderL m m.time)).1)
    unfold tickFold wantEnd
    cases ghostI (m.logs callTick) m.time with
    | none => exact NeedLe.same rfl
    | some gi =>
      simp only
      split
      · exact need_want _ _ _
      · exact NeedLe.same rfl
theorem need_again (m : MkG) (c : CallG) : NeedLe m (againM m c) := by
  unfold againM
  split
  · exact NeedLe.same rfl
  · split
    · unfold submitM
      simp only
      split <;> exact NeedLe.same rfl
    · split
      · unfold cancelM
        simp only
        split <;> exact NeedLe.same rfl
      · split
        · unfold capM
          split
          · exact NeedLe.same rfl
          · split <;> exact NeedLe.same rfl
        · split
          · unfold suspendM
            simp only
            split <;> exact NeedLe.same rfl
          · split
            · exact need_tick m
            · exact NeedLe.same rfl

/-! ### entries -/
theorem EntOk.of_map {m m' : MkG} (h : EntOk m) (hm : ∀ k : Nat, (m'.bids[k]?).map BidG.entry = (m.bids[k]?).map BidG.entry) (hl : m.log.length ≤ m'.log.length) : EntOk m' := by
  have get : ∀ (k : Nat) b, m'.bids[k]? = some b → ∃ b', m.bids[k]? = some b' ∧ b'.entry = b.entry := fun k b hb => by
    have := hm k
    rw [hb] at this
    cases hk : m.bids[k]? with
    | none => rw [hk] at this; cases this
    | some b' =>
      rw [hk] at this
      simp only [Option.map_some, Option.some.injEq] at this
      exact ⟨b', rfl, this.symm⟩
  refine ⟨fun i k b b' hb hb' hik => ?_, fun b hb => ?_⟩
  · obtain ⟨x, hx, ex⟩ := get i b hb
    obtain ⟨y, hy, ey⟩ := get k b' hb'
    have := h.lt i k x y hx hy hik
    omega
  · obtain ⟨i, hi⟩ := List.getElem?_of_mem hb
    obtain ⟨x, hx, ex⟩ := get i b hi
    have := h.in' x (List.mem_of_getElem? hx)
    omega
theorem ent_fold (t : Int) (g : Option Nat) (k : Nat) : ∀ (l : List Nat) (s : TkS), ((l.foldl (tickOne t g) s).1.bids[k]?).map BidG.entry = (s.1.bids[k]?).map BidG.entry
  | [], _ => rfl
  | i :: l, s => (ent_fold t g k l _).trans (ent_one t g s i k)
theorem wantEnd_bids (t : Int) (g : Option Nat) (m : MkG) : (wantEnd t g m).bids = m.bids ∧ (wantEnd t g m).log = m.log := by
  unfold wantEnd
  cases g with
  | none => exact ⟨rfl, rfl⟩
  | some gi =>
    simp only
    split
    · exact ⟨ent_want _ _ _, (AlikeM.want _ _ _).log⟩
    · exact ⟨rfl, rfl⟩
theorem tickF_log (m : MkG) : (tickF m).log.length = m.log.length + 1 := by
  unfold tickF
  split
  · simp [MkG.logs]
  · show (wantEnd m.time _ (tickFold m.time _ _ _).1).log.length = _
    rw [(wantEnd_bids _ _ _).2]
    unfold tickFold
    rw [(AlikeM.fold m.time (ghostI (m.logs callTick) m.time) (orderL m m.time) (m.logs callTick, [])).log]
    simp [MkG.logs]
theorem tickF_ent (m : MkG) (k : Nat) : ((tickF m).bids[k]?).map BidG.entry = (m.bids[k]?).map BidG.entry := by
  unfold tickF
  split
  · rfl
  · show ((List.map (fun b => b.expire (m.time + 1)) (wantEnd m.time _ (tickFold m.time _ _ _).1).bids)[k]?).map BidG.entry = _
    rw [(wantEnd_bids _ _ _).1, List.getElem?_map, Option.map_map]
    have : (BidG.entry ∘ fun b => b.expire (m.time + 1)) = BidG.entry := by
      funext b
      simp only [Function.comp, BidG.expire]
      split <;> rfl
    rw [this]
    unfold tickFold
    exact ent_fold m.time (ghostI (m.logs callTick) m.time) k (orderL m m.time) (m.logs callTick, [])
theorem again_log {m : MkG} (hl : m.log.length < 300) (c : CallG) : (againM m c).log.length = m.log.length + 1 := by
  unfold againM
  rw [if_neg (by omega)]
  split
  · unfold submitM
    simp only
    split <;> simp [MkG.logs]
  · split
    · unfold cancelM
      simp only
      split <;> simp [MkG.logs]
    · split
      · unfold capM
        split
        · simp [MkG.logs]
        · split <;> simp [MkG.logs]
      · split
        · unfold suspendM
          simp only
          split <;> simp [MkG.logs]
        · split
          · exact tickF_log m
          · simp [MkG.logs]
theorem EntOk.again {m : MkG} (h : EntOk m) (hl : m.log.length < 300) (c : CallG) : EntOk (againM m c) := by
  have hlog := again_log hl c
  by_cases hsub : c.kind = 1 ∧ submitE m c.a c.b c.job = 0
  · have e1 : againM m c = { m.logs (callSubmit c.a c.b c.job) with bids := m.bids ++ [newBid m c.a c.b c.job] } := by
      unfold againM
      rw [if_neg (by omega), if_pos hsub.1]
      unfold submitM
      simp only
      rw [if_pos hsub.2]
      rfl
    rw [e1] at hlog ⊢
    have get : ∀ (i : Nat) b, (m.bids ++ [newBid m c.a c.b c.job])[i]? = some b → (m.bids[i]? = some b) ∨ (i = m.bids.length ∧ b = newBid m c.a c.b c.job) := fun i b hb => by
      rw [List.getElem?_append] at hb
      by_cases e : i < m.bids.length
      · rw [if_pos e] at hb
        exact .inl hb
      · rw [if_neg e] at hb
        by_cases e2 : i = m.bids.length
        · subst e2
          simp at hb
          exact .inr ⟨rfl, hb.symm⟩
        · rw [List.getElem?_eq_none (by simp; omega)] at hb
          cases hb
    refine ⟨fun i k b b' hb hb' hik => ?_, fun b hb => ?_⟩
    · rcases get i b hb with hb | ⟨hi, rfl⟩
      · rcases get k b' hb' with hb' | ⟨hk, rfl⟩
        · exact h.lt i k b b' hb hb' hik
        · have := h.in' b (List.mem_of_getElem? hb)
          exact this.2
      · rcases get k b' hb' with hb' | ⟨hk, rfl⟩
        · have := (List.getElem?_eq_some_iff.1 hb').1
          omega
        · omega
    · rcases List.mem_append.1 hb with hb | hb
      · have := h.in' b hb
        exact ⟨this.1, by rw [hlog]; have := this.2; omega⟩
      · simp at hb
        subst hb
        exact ⟨by simp [newBid], by rw [hlog]; simp [newBid]; omega⟩
  · refine h.of_map (fun k => ?_) (by omega)
    unfold againM
    rw [if_neg (by omega)]
    split
    · rename_i hk
      unfold submitM
      simp only
      rw [if_neg (fun hx => hsub ⟨hk, hx⟩)]
      rfl
    · split
      · unfold cancelM
        simp only
        split
        · show ((setState m.bids _ 3)[k]?).map BidG.entry = _
          unfold setState
          split
          · rename_i b hb
            rw [List.getElem?_set]
            by_cases e : (findZ m.bids c.a c.b).toNat = k
            · rw [if_pos e, if_pos (by have := (List.getElem?_eq_some_iff.1 hb).1; omega)]
              rw [e] at hb
              rw [hb]
              rfl
            · rw [if_neg e]
          · rfl
        · rfl
      · split
        · unfold capM
          split
          · rfl
          · split <;> rfl
        · split
          · unfold suspendM
            simp only
            split <;> rfl
          · split
            · exact tickF_ent m k
            · rfl
end Go.Proofs.Ytminceigjejipaa
