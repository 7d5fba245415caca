import Derived.Test.YtminceigjejipabGreatG10
import Derived.Test.YtminceigjejipabGreatG11
import Derived.Laws.AppendOwnNone
/-
  THE LEAST VALUE WITH WHICH A BID STARTS AT A TICK. Nothing of the program.
-/
namespace Go.Proofs.YtminceigjejipabGreat

/-! ### what a tick's loop leaves alone -/
theorem ent_start (m : MkG) (i : Nat) (t : Int) (k : Nat) : ((startM m i t).bids[k]?).map BidG.entry = (m.bids[k]?).map BidG.entry := by
  unfold startM
  cases hb : m.bids[i]? with
  | none => rfl
  | some b =>
    simp only [List.getElem?_set]
    by_cases e : i = k
    · subst e
      have hl := (List.getElem?_eq_some_iff.1 hb).1
      rw [if_pos rfl, if_pos hl, hb]
      rfl
    · rw [if_neg e]
theorem ent_want (m : MkG) (g : Nat) (x : Int) : (wantM m g x).bids = m.bids := by
  unfold wantM
  split <;> rfl
theorem ent_one (t : Int) (g : Option Nat) (s : TkS) (i k : Nat) : ((tickOne t g s i).1.bids[k]?).map BidG.entry = (s.1.bids[k]?).map BidG.entry := by
  unfold tickOne
  split
  · rfl
  · split
    · cases g with
      | none => exact ent_start _ _ _ _
      | some gi =>
        simp only
        split
        · rw [ent_want]; exact ent_start _ _ _ _
        · exact ent_start _ _ _ _
    · rfl
def NotE (e : Int) (m : MkG) (l : List Nat) : Prop := ∀ i ∈ l, ∀ b, m.bids[i]? = some b → b.entry ≠ e
theorem NotE.step {e : Int} {m m' : MkG} {l : List Nat} (h : NotE e m l) (hm : ∀ k : Nat, (m'.bids[k]?).map BidG.entry = (m.bids[k]?).map BidG.entry) : NotE e m' l := by
  intro i hi b hb
  have := hm i
  rw [hb] at this
  cases hb' : m.bids[i]? with
  | none => rw [hb'] at this; cases this
  | some b' =>
    rw [hb'] at this
    simp only [Option.map_some, Option.some.injEq] at this
    rw [this]
    exact h i hi b' hb'
theorem MAl.fold {e v : Int} (t : Int) (g : Option Nat) : ∀ (l : List Nat) {G R : MkG} (o o' : List (Int × Int)), MAl e v G R → NotE e G l → MAl e v (l.foldl (tickOne t g) (G, o)).1 (l.foldl (tickOne t none) (R, o')).1
  | [], _, _, _, _, h, _ => h
  | i :: l, G, R, o, o', h, hn => by
    have h1 := h.one t g o o' i (fun b hb => hn i List.mem_cons_self b hb)
    have hn1 : NotE e (tickOne t g (G, o) i).1 l := NotE.step (m := G) (fun k hk => hn k (List.mem_cons_of_mem _ hk)) (fun k => ent_one t g (G, o) i k)
    exact MAl.fold t g l (tickOne t g (G, o) i).2 (tickOne t none (R, o') i).2 h1 hn1

/-! ### the order with the bid in it -/
theorem split_sorted {S : Nat → Nat → Prop} {A : Nat → Bool} {P : Nat → Prop} : ∀ l : List Nat, l.Pairwise S → (∀ x ∈ l, A x = false → P x) → (∀ x y, P x → S x y → P y) → ∃ l1 l2, l = l1 ++ l2 ∧ (∀ x ∈ l1, A x = true) ∧ ∀ y ∈ l2, P y
  | [], _, _, _ => ⟨[], [], rfl, fun _ h => by simp at h, fun _ h => by simp at h⟩
  | x :: l, hp, hA, hS => by
    rw [List.pairwise_cons] at hp
    cases hx : A x
    · refine ⟨[], x :: l, rfl, fun _ h => by simp at h, fun y hy => ?_⟩
      have hPx := hA x List.mem_cons_self hx
      rcases List.mem_cons.1 hy with rfl | hy
      · exact hPx
      · exact hS x y hPx (hp.1 y hy)
    · obtain ⟨l1, l2, h1, h2, h3⟩ := split_sorted l hp.2 (fun y hy => hA y (List.mem_cons_of_mem _ hy)) hS
      refine ⟨x :: l1, l2, by rw [h1]; rfl, fun y hy => ?_, h3⟩
      rcases List.mem_cons.1 hy with rfl | hy
      · exact hx
      · exact h2 y hy

theorem MAl.sizes {e v : Int} {G R : MkG} (h : MAl e v G R) (hs : SizesOk G.bids) : SizesOk R.bids := by
  intro b hb
  rw [h.bids, List.mem_map] at hb
  obtain ⟨b', hb', rfl⟩ := hb
  rw [al_size]
  exact hs b' hb'
/-- among bids of other entries the order is the same -/
theorem MAl.ahead {e v : Int} {G R : MkG} (h : MAl e v G R) {i k : Nat} (hi : ∀ b, G.bids[i]? = some b → b.entry ≠ e) (hk : ∀ b, G.bids[k]? = some b → b.entry ≠ e) : aheadI R.bids i k = aheadI G.bids i k := by
  unfold aheadI
  rw [h.get, h.get]
  cases h1 : G.bids[i]? with
  | none => rfl
  | some a =>
    cases h2 : G.bids[k]? with
    | none => rfl
    | some b => simp only [Option.map_some, al_ne (hi a h1), al_ne (hk b h2)]
theorem MAl.cand {e v : Int} {G R : MkG} (h : MAl e v G R) (t : Int) {b : BidG} (h0 : 0 ≤ b.entry) : candB R t (al e v b) = b.openB G t := by
  unfold candB
  rw [h.openB, al_entry, h.rg]
  have : (b.entry != -1) = true := by simp; omega
  rw [this, Bool.and_true]

theorem order_insert {e v : Int} {G R : MkG} (h : MAl e v G R) (hs : SizesOk G.bids) (h0 : ∀ b ∈ G.bids, 0 ≤ b.entry) {t : Int} {gi : Nat} {bg : BidG} (hbg : G.bids[gi]? = some bg) (he : bg.entry = e) (ho : bg.openB G t = true) (hu : ∀ (i : Nat) b, G.bids[i]? = some b → b.entry = e → i = gi) {l : List Nat} (hl : IsOrder G t l) :
    ∃ l1 l2, l = l1 ++ l2 ∧ IsOrder R t (l1 ++ gi :: l2) ∧ (∀ x ∈ l1, aheadI R.bids x gi = true) ∧ ∀ y ∈ l2, aheadI R.bids gi y = true := by
  have hne : ∀ x ∈ l, x ≠ gi ∧ ∃ b, G.bids[x]? = some b ∧ b.entry ≠ e ∧ b.openB G t = true := fun x hx => by
    obtain ⟨b, hb, hc⟩ := (hl.mem x).1 hx
    unfold candB at hc
    rw [Bool.and_eq_true, h.gh] at hc
    have h2 : b.entry ≠ e := by simpa using hc.2
    exact ⟨fun hxg => by subst hxg; rw [hbg] at hb; obtain rfl := Option.some.inj hb; exact h2 he, b, hb, h2, hc.1⟩
  have hnE : ∀ x ∈ l, ∀ b, G.bids[x]? = some b → b.entry ≠ e := fun x hx b hb => by
    obtain ⟨_, b', hb', h2, _⟩ := hne x hx
    rw [hb] at hb'
    obtain rfl := Option.some.inj hb'
    exact h2
  have hsR := h.sizes hs
  have hgR : R.bids[gi]? = some (al e v bg) := by rw [h.get, hbg]; rfl
  have hpR : l.Pairwise (fun i k => aheadI R.bids i k = true) := List.Pairwise.imp_of_mem (fun {a b} ha hb hab => by rw [h.ahead (hnE a ha) (hnE b hb)]; exact hab) hl.sorted
  obtain ⟨l1, l2, h1, h2, h3⟩ := split_sorted (A := fun x => aheadI R.bids x gi) (P := fun y => aheadI R.bids gi y = true) l hpR (fun x hx hA => by
    obtain ⟨hxg, b, hb, _⟩ := hne x hx
    rcases aheadI_total (l := R.bids) (i := x) (k := gi) (a := al e v b) (by rw [h.get, hb]; rfl) hgR hxg with h' | h'
    · rw [hA] at h'; cases h'
    · exact h') (fun x y h1 h2 => aheadI_trans hsR h1 h2)
  refine ⟨l1, l2, h1, ⟨fun i => ?_, ?_⟩, h2, h3⟩
  · have hmem : i ∈ l1 ++ gi :: l2 ↔ i ∈ l ∨ i = gi := by
      rw [h1]
      simp only [List.mem_append, List.mem_cons]
      constructor
      · rintro (a | a | a)
        · exact .inl (.inl a)
        · exact .inr a
        · exact .inl (.inr a)
      · rintro ((a | a) | a)
        · exact .inl a
        · exact .inr (.inr a)
        · exact .inr (.inl a)
    rw [hmem]
    constructor
    · rintro (hi | rfl)
      · obtain ⟨_, b, hb, _, hob⟩ := hne i hi
        exact ⟨al e v b, by rw [h.get, hb]; rfl, by rw [h.cand t (h0 b (List.mem_of_getElem? hb))]; exact hob⟩
      · exact ⟨al e v bg, hgR, by rw [h.cand t (h0 bg (List.mem_of_getElem? hbg))]; exact ho⟩
    · rintro ⟨b', hb', hc⟩
      rw [h.get] at hb'
      cases hb : G.bids[i]? with
      | none => rw [hb] at hb'; cases hb'
      | some b =>
        rw [hb] at hb'
        obtain rfl := Option.some.inj hb'
        rw [h.cand t (h0 b (List.mem_of_getElem? hb))] at hc
        by_cases hbe : b.entry = e
        · exact .inr (hu i b hb hbe)
        · refine .inl ((hl.mem i).2 ⟨b, hb, ?_⟩)
          unfold candB
          rw [hc, h.gh]
          simpa using hbe
  · rw [h1, List.pairwise_append] at hpR
    rw [List.pairwise_append]
    refine ⟨hpR.1, List.pairwise_cons.2 ⟨h3, hpR.2.1⟩, fun a ha b hb => ?_⟩
    rcases List.mem_cons.1 hb with rfl | hb
    · exact h2 a ha
    · exact hpR.2.2 a ha b hb
theorem order_same {e v : Int} {G R : MkG} (h : MAl e v G R) (h0 : ∀ b ∈ G.bids, 0 ≤ b.entry) {t : Int} (hno : ∀ b ∈ G.bids, b.entry = e → b.openB G t = false) {l : List Nat} (hl : IsOrder G t l) : IsOrder R t l := by
  have hnE : ∀ x ∈ l, ∀ b, G.bids[x]? = some b → b.entry ≠ e := fun x hx b hb hbe => by
    obtain ⟨b', hb', hc⟩ := (hl.mem x).1 hx
    rw [hb] at hb'
    obtain rfl := Option.some.inj hb'
    unfold candB at hc
    rw [hno b (List.mem_of_getElem? hb) hbe] at hc
    cases hc
  refine ⟨fun i => ?_, List.Pairwise.imp_of_mem (fun {a b} ha hb hab => by rw [h.ahead (hnE a ha) (hnE b hb)]; exact hab) hl.sorted⟩
  rw [hl.mem i]
  constructor
  · rintro ⟨b, hb, hc⟩
    unfold candB at hc
    rw [Bool.and_eq_true] at hc
    exact ⟨al e v b, by rw [h.get, hb]; rfl, by rw [h.cand t (h0 b (List.mem_of_getElem? hb))]; exact hc.1⟩
  · rintro ⟨b', hb', hc⟩
    rw [h.get] at hb'
    cases hb : G.bids[i]? with
    | none => rw [hb] at hb'; cases hb'
    | some b =>
      rw [hb] at hb'
      obtain rfl := Option.some.inj hb'
      rw [h.cand t (h0 b (List.mem_of_getElem? hb))] at hc
      refine ⟨b, rfl, ?_⟩
      unfold candB
      rw [hc, h.gh, Bool.true_and]
      by_cases hbe : b.entry = e
      · rw [hno b (List.mem_of_getElem? hb) hbe] at hc
        cases hc
      · simpa using hbe

/-! ### the least value -/
def lq (gi k : Nat) (jg jk : JobG) : Int :=
  let n := jk.val * sizeJ jg
  let d := sizeJ jk
  if n.tmod d = 0 ∧ gi < k then n.tdiv d else n.tdiv d + 1
theorem least_iff {gi k : Nat} {jg jk : JobG} {v : Int} (hg : 0 < sizeJ jg) (hk : 0 < sizeJ jk) (hv : 0 ≤ jk.val) : aheadJ { jg with val := v } jk gi k = true ↔ lq gi k jg jk ≤ v := by
  rw [aheadJ_iff]
  have es : sizeJ { jg with val := v } = sizeJ jg := rfl
  simp only [es]
  unfold lq
  simp only
  have hn : 0 ≤ jk.val * sizeJ jg := Int.mul_nonneg hv (by omega)
  generalize jk.val * sizeJ jg = n at *
  generalize sizeJ jk = d at *
  rw [Int.tmod_eq_emod_of_nonneg hn, Int.tdiv_eq_ediv_of_nonneg hn]
  have h1 := Int.emod_add_mul_ediv n d
  have h2 := Int.emod_nonneg n (show d ≠ 0 by omega)
  have h3 := Int.emod_lt_of_pos n hk
  generalize n / d = q at *
  generalize n % d = r at *
  have key : n < v * d ↔ q + 1 ≤ v := by
    constructor
    · intro h
      rcases Int.lt_or_le v (q + 1) with h' | h'
      · exfalso
        have : d * v ≤ d * q := Int.mul_le_mul_of_nonneg_left (by omega) (by omega)
        rw [Int.mul_comm v d] at h
        omega
      · exact h'
    · intro h
      have : d * (q + 1) ≤ d * v := Int.mul_le_mul_of_nonneg_left h (by omega)
      rw [Int.mul_add, Int.mul_one] at this
      rw [Int.mul_comm v d]
      omega
  have key2 : v * d = n → r = 0 ∧ v = q := by
    intro h
    have hq : ¬ q + 1 ≤ v := fun hx => by have := key.2 hx; omega
    have : v ≤ q := by omega
    rcases Int.lt_or_le v q with h' | h'
    · exfalso
      have : d * (v + 1) ≤ d * q := Int.mul_le_mul_of_nonneg_left (by omega) (by omega)
      rw [Int.mul_add, Int.mul_one] at this
      rw [Int.mul_comm v d] at h
      omega
    · have hvq : v = q := by omega
      subst hvq
      rw [Int.mul_comm] at h
      exact ⟨by omega, rfl⟩
  have key3 : r = 0 → q * d = n := fun h => by rw [Int.mul_comm]; omega
  by_cases hc : r = 0 ∧ gi < k
  · rw [if_pos hc, key]
    constructor
    · rintro (h | ⟨h, _⟩)
      · omega
      · have := key2 h; omega
    · intro h
      rcases Int.lt_or_le q v with h' | h'
      · exact .inl (by omega)
      · have : v = q := by omega
        subst this
        exact .inr ⟨key3 hc.1, hc.2⟩
  · rw [if_neg hc, key]
    constructor
    · rintro (h | ⟨h, h'⟩)
      · exact h
      · exact absurd ⟨(key2 h).1, h'⟩ hc
    · exact fun h => .inl h
end Go.Proofs.YtminceigjejipabGreat

/-
  WHAT THE GHOST WANTS AT A TICK, AND WHAT THE BID DOES THERE. Nothing of the program.
-/
namespace Go.Proofs.YtminceigjejipabGreat

/-! ### free units go down as bids start -/
theorem usedL_start (l : List BidG) (i : Nat) (b : BidG) (hb : l[i]? = some b) (t : Int) (h1 : b.state ≠ 2) (h2 : 0 ≤ b.job.units) (s : Int) : usedL l s ≤ usedL (l.set i { b with state := 2, start := t }) s := by
  induction l generalizing i with
  | nil => simp at hb
  | cons y l ih =>
    cases i with
    | zero =>
      simp at hb
      subst hb
      have hr : y.runs s = false := by simp [BidG.runs, h1]
      simp only [usedL, List.set_cons_zero, List.map_cons, List.sum_cons, hr]
      simp only [Bool.false_eq_true, if_false]
      split <;> omega
    | succ i =>
      simp only [List.getElem?_cons_succ] at hb
      have := ih i hb
      simp only [usedL, List.set_cons_succ, List.map_cons, List.sum_cons] at this ⊢
      omega
theorem startM_set {m : MkG} {i : Nat} {b : BidG} {t : Int} (h : m.bids[i]? = some b) : startM m i t = { m with bids := m.bids.set i { b with state := 2, start := t } } := by
  unfold startM
  rw [h]
theorem fits_start {m : MkG} {i : Nat} {b bg : BidG} {t : Int} (hb : m.bids[i]? = some b) (h1 : b.state ≠ 2) (h2 : 0 ≤ b.job.units) (h : fitsB (startM m i t) bg t = true) : fitsB m bg t = true := by
  rw [fitsB_iff] at h ⊢
  intro s hs
  have := h s hs
  unfold freeV at this ⊢
  rw [startM_set hb] at this
  simp only at this
  have hu := usedL_start m.bids i b hb t h1 h2 (t + s)
  split at this
  · rename_i hx
    rw [if_pos hx]
    exact this
  · rename_i hx
    rw [if_neg hx]
    omega
theorem fits_want (m : MkG) (g : Nat) (x : Int) (b : BidG) (t : Int) : fitsB (wantM m g x) b t = fitsB m b t := by
  unfold wantM
  split <;> rfl

/-! ### the ghost's need -/
def minN (N x : Int) : Int := if N = 0 ∨ x < N then x else N
def wq (res : Int) (jg : JobG) (x : Int) : Int :=
  let r := res * sizeJ jg
  let v1 := if x < r then r else x
  if v1 < 1 then 1 else v1
theorem wq_le {res : Int} {jg : JobG} {x v : Int} : wq res jg x ≤ v ↔ x ≤ v ∧ res * sizeJ jg ≤ v ∧ 1 ≤ v := by
  unfold wq
  simp only
  split <;> split <;> omega
theorem wq_pos (res : Int) (jg : JobG) (x : Int) : 1 ≤ wq res jg x := by
  unfold wq
  simp only
  split <;> split <;> omega
theorem want_need {m : MkG} {g : Nat} {x : Int} : (wantM m g x).need = minN m.need (wantV m g x) := by
  unfold wantM minN
  split <;> rfl
theorem wantV_eq {m : MkG} {g : Nat} {bg : BidG} (h : m.bids[g]? = some bg) (x : Int) : wantV m g x = wq m.c.res bg.job x := by
  unfold wantV wq
  rw [jobAt_eq h]
theorem leastV_eq {m : MkG} {g k : Nat} {bg bk : BidG} (h : m.bids[g]? = some bg) (hk : m.bids[k]? = some bk) : leastV m g k = lq g k bg.job bk.job := by
  unfold leastV lq
  rw [jobAt_eq h, jobAt_eq hk]

/-- a bid of the order, in the midst of a tick: it is pending still -/
def Fresh (m : MkG) (l : List Nat) : Prop := ∀ i ∈ l, ∀ b, m.bids[i]? = some b → b.state ≠ 2 ∧ 0 ≤ b.job.units

/-- one step of the ghost's tick -/
theorem ghost_one {m : MkG} {o : List (Int × Int)} {t : Int} {gi i : Nat} {bg : BidG} (hg : m.bids[gi]? = some bg) (hne : gi ≠ i) (hf : Fresh m [i]) :
    (fitsB (tickOne t (some gi) (m, o) i).1 bg t = fitsB m bg t ∧ (tickOne t (some gi) (m, o) i).1.need = m.need) ∨
    (fitsB m bg t = true ∧ fitsB (tickOne t (some gi) (m, o) i).1 bg t = false ∧ ∃ b, m.bids[i]? = some b ∧ (tickOne t (some gi) (m, o) i).1.need = minN m.need (wq m.c.res bg.job (lq gi i bg.job b.job))) := by
  unfold tickOne
  simp only
  cases hb : m.bids[i]? with
  | none => exact .inl ⟨rfl, rfl⟩
  | some b =>
    simp only
    obtain ⟨f1, f2⟩ := hf i (by simp) b hb
    have hgs : (startM m i t).bids[gi]? = some bg := ((AlikeM.start m i t).bid gi (by simp [hne])).trans hg
    have hl := (List.getElem?_eq_some_iff.1 hb).1
    have hbs : (startM m i t).bids[i]? = some { b with state := 2, start := t } := by
      unfold startM
      rw [hb]
      simp [hl]
    have hneed : (startM m i t).need = m.need := by unfold startM; rw [hb]
    have hc : (startM m i t).c = m.c := (AlikeM.start m i t).c
    split
    · have hr1 : roomB m (some gi) t = fitsB m bg t := by simp only [roomB, hg]
      have hr2 : roomB (startM m i t) (some gi) t = fitsB (startM m i t) bg t := by simp only [roomB, hgs]
      rw [hr1, hr2]
      by_cases hcd : (fitsB m bg t && !fitsB (startM m i t) bg t) = true
      · rw [if_pos hcd]
        simp only [Bool.and_eq_true, Bool.not_eq_true'] at hcd
        refine .inr ⟨hcd.1, by rw [fits_want]; exact hcd.2, b, rfl, ?_⟩
        rw [want_need, hneed, wantV_eq hgs, hc, leastV_eq hgs hbs]
      · rw [if_neg hcd]
        refine .inl ⟨?_, hneed⟩
        cases r1 : fitsB m bg t
        · cases r2 : fitsB (startM m i t) bg t
          · rfl
          · rw [fits_start hb f1 f2 r2] at r1; cases r1
        · cases r2 : fitsB (startM m i t) bg t
          · rw [r1, r2] at hcd; exact absurd rfl hcd
          · rfl
    · exact .inl ⟨rfl, rfl⟩

theorem Fresh.one {t : Int} {g : Option Nat} {s : TkS} {i : Nat} {l : List Nat} (h : Fresh s.1 (i :: l)) (hi : i ∉ l) : Fresh (tickOne t g s i).1 l := fun k hk b hb => by
  have := (AlikeM.one t g s i).bid k (by simp; intro e; subst e; exact hi hk)
  rw [this] at hb
  exact h k (List.mem_cons_of_mem _ hk) b hb
/-- all steps of it -/
theorem ghost_fold {t : Int} {gi : Nat} {bg : BidG} : ∀ (l : List Nat) (m : MkG) (o : List (Int × Int)), m.bids[gi]? = some bg → gi ∉ l → l.Pairwise (fun i k => i ≠ k) → Fresh m l →
    (fitsB (l.foldl (tickOne t (some gi)) (m, o)).1 bg t = fitsB m bg t ∧ (l.foldl (tickOne t (some gi)) (m, o)).1.need = m.need) ∨
    (fitsB m bg t = true ∧ fitsB (l.foldl (tickOne t (some gi)) (m, o)).1 bg t = false ∧ ∃ q ∈ l, ∃ b, m.bids[q]? = some b ∧ (l.foldl (tickOne t (some gi)) (m, o)).1.need = minN m.need (wq m.c.res bg.job (lq gi q bg.job b.job)))
  | [], _, _, _, _, _, _ => .inl ⟨rfl, rfl⟩
  | i :: l, m, o, hg, hn, hp, hf => by
    rw [List.pairwise_cons] at hp
    have hil : i ∉ l := fun h => hp.1 i h rfl
    have hne : gi ≠ i := fun h => hn (by rw [h]; exact List.mem_cons_self)
    have h1 := ghost_one (o := o) (t := t) hg hne (fun k hk b hb => hf k (by simp at hk; subst hk; exact List.mem_cons_self) b hb)
    have hal := AlikeM.one t (some gi) (m, o) i
    have hg1 : (tickOne t (some gi) (m, o) i).1.bids[gi]? = some bg := (hal.bid gi (by simp [hne])).trans hg
    have h2 := ghost_fold (t := t) l (tickOne t (some gi) (m, o) i).1 (tickOne t (some gi) (m, o) i).2 hg1 (fun h => hn (List.mem_cons_of_mem _ h)) hp.2 (Fresh.one (s := (m, o)) hf hil)
    simp only [List.foldl_cons]
    rcases h1 with ⟨a1, a2⟩ | ⟨a1, a2, b, hb, a3⟩
    · rcases h2 with ⟨b1, b2⟩ | ⟨b1, b2, q, hq, bq, hbq, b3⟩
      · exact .inl ⟨b1.trans a1, b2.trans a2⟩
      · refine .inr ⟨a1 ▸ b1, b2, q, List.mem_cons_of_mem _ hq, bq, ?_, ?_⟩
        · have := hal.bid q (by simp; intro e; subst e; exact hil hq)
          rw [this] at hbq
          exact hbq
        · rw [a2, show (tickOne t (some gi) (m, o) i).1.c = m.c from hal.c] at b3
          exact b3
    · rcases h2 with ⟨b1, b2⟩ | ⟨b1, _⟩
      · exact .inr ⟨a1, b1.trans a2, i, List.mem_cons_self, b, hb, b2.trans a3⟩
      · rw [a2] at b1; cases b1
end Go.Proofs.YtminceigjejipabGreat

/-
  A TICK, WITH THE GHOST AND WITH THE BID. Nothing of the program.
-/
namespace Go.Proofs.YtminceigjejipabGreat

structure EntOk (m : MkG) : Prop where
  lt : ∀ (i k : Nat) b b', m.bids[i]? = some b → m.bids[k]? = some b' → i < k → b.entry < b'.entry
  in' : ∀ b ∈ m.bids, 0 ≤ b.entry ∧ b.entry < m.log.length
theorem EntOk.uniq {m : MkG} (h : EntOk m) {i k : Nat} {b b' : BidG} (hb : m.bids[i]? = some b) (hb' : m.bids[k]? = some b') (he : b.entry = b'.entry) : i = k := by
  rcases Nat.lt_trichotomy i k with h1 | h1 | h1
  · have := h.lt i k b b' hb hb' h1; omega
  · exact h1
  · have := h.lt k i b' b hb' hb h1; omega

theorem expire_al (e v : Int) (b : BidG) (now : Int) : (al e v b).expire now = al e v (b.expire now) := by
  unfold BidG.expire
  rw [al_state, al_dl, al_len]
  by_cases h : (b.state == 1 && decide (b.job.dl < now + b.job.len)) = true
  · rw [if_pos h, if_pos h]
    exact (al_setS e v b 4).symm
  · rw [if_neg h, if_neg h]
theorem MAl.tickEnd {e v : Int} {G R : MkG} (h : MAl e v G R) (t : Int) : MAl e v (tickEnd t G) (tickEnd t R) := by
  refine ⟨h.c, rfl, h.units, h.susp, h.log, ?_, h.gh, h.rg⟩
  show R.bids.map _ = (G.bids.map _).map _
  rw [h.bids, List.map_map, List.map_map]
  apply List.map_congr_left
  intro b _
  exact expire_al e v b _
theorem need_none (t : Int) : ∀ (l : List Nat) (s : TkS), (l.foldl (tickOne t none) s).1.need = s.1.need
  | [], _ => rfl
  | i :: l, s => by
    have : (tickOne t none s i).1.need = s.1.need := by
      unfold tickOne
      split
      · rfl
      · split
        · simp only
          unfold startM
          split <;> rfl
        · rfl
    exact (need_none t l _).trans this
theorem MAl.ghostI {e v : Int} {G R : MkG} (h : MAl e v G R) (h0 : ∀ b ∈ G.bids, 0 ≤ b.entry) (t : Int) : ghostI R t = none := by
  unfold Go.Proofs.YtminceigjejipabGreat.ghostI
  rw [List.findIdx?_eq_none_iff]
  intro x hx
  rw [h.bids, List.mem_map] at hx
  obtain ⟨b, hb, rfl⟩ := hx
  have hne : ((al e v b).entry == R.ghost) = false := by rw [al_entry, h.rg]; have := h0 b hb; simp; omega
  rw [hne, Bool.and_false]
theorem minN_le {N x v : Int} (h : N = 0 ∨ v < N) (hx : x ≤ v) (h1 : 1 ≤ x) : 0 < minN N x ∧ minN N x ≤ v := by
  unfold minN
  split <;> omega
theorem minN_gt {N x v : Int} (h : N = 0 ∨ v < N) (hx : v < x) : minN N x = 0 ∨ v < minN N x := by
  unfold minN
  split <;> omega

/-- a tick of both, as long as the bid has not started -/
theorem tick_phase {e v : Int} {G R : MkG} (h : MAl e v G R) (hok : MkOk G) (hent : EntOk G) (hv : 1 ≤ v) (hN : G.need = 0 ∨ v < G.need) :
    (MAl e v (tickF G) (tickF R) ∧ ((tickF G).need = 0 ∨ v < (tickF G).need)) ∨ ((∃ (i : Nat) (b : BidG), (tickF R).bids[i]? = some b ∧ b.entry = e ∧ b.state = 2) ∧ 0 < (tickF G).need ∧ (tickF G).need ≤ v) := by
  have h0 : ∀ b ∈ G.bids, 0 ≤ b.entry := fun b hb => (hent.in' b hb).1
  unfold tickF
  rw [h.c, h.time]
  by_cases hov : G.c.ticks ≤ G.time
  · rw [if_pos hov, if_pos hov]
    exact .inl ⟨h.logs _ _, hN⟩
  rw [if_neg hov, if_neg hov]
  have hsG := hok.sizes
  have hsR := h.sizes hsG
  have hoG := orderL_is (t := G.time) hsG
  have hoR := orderL_is (m := R) (t := G.time) hsR
  generalize orderL G G.time = l at *
  generalize orderL R G.time = lR at *
  have h1 := h.logs callTick callTick
  have hnE : NotE e (G.logs callTick) l := fun i hi b hb => by
    obtain ⟨b', hb', hc⟩ := (hoG.mem i).1 hi
    rw [show G.bids[i]? = some b from hb] at hb'
    obtain rfl := Option.some.inj hb'
    unfold candB at hc
    rw [Bool.and_eq_true, h.gh] at hc
    simpa using hc.2
  have hfr : Fresh (G.logs callTick) l := fun i hi b hb => by
    obtain ⟨b', hb', hc⟩ := (hoG.mem i).1 hi
    rw [show G.bids[i]? = some b from hb] at hb'
    obtain rfl := Option.some.inj hb'
    unfold candB BidG.openB at hc
    simp only [Bool.and_eq_true] at hc
    have hs : b.state = 1 := by simpa using hc.1.1.1.1
    have := jobIn_true (hok.bid b (List.mem_of_getElem? hb)).job
    exact ⟨by omega, by omega⟩
  have hpw : l.Pairwise (fun i k => i ≠ k) := List.Pairwise.imp (fun {a b} hab => by rintro rfl; rw [aheadI_irrefl] at hab; cases hab) hoG.sorted
  have hR0 : ghostI (R.logs callTick) G.time = none := h1.ghostI h0 G.time
  unfold tickM
  simp only [h.time]
  rw [hR0]
  cases hgi : ghostI (G.logs callTick) G.time with
  | none =>
    have hno : ∀ b ∈ G.bids, b.entry = e → b.openB G G.time = false := fun b hb hbe => by
      unfold ghostI at hgi
      rw [List.findIdx?_eq_none_iff] at hgi
      have := hgi b hb
      rw [show (G.logs callTick).ghost = e from h.gh] at this
      have he2 : (b.entry == e) = true := by simpa using hbe
      rw [he2, Bool.and_true] at this
      exact this
    have hlR : lR = l := hoR.unique (order_same h h0 hno hoG)
    rw [hlR]
    refine .inl ⟨(MAl.fold G.time none l [] [] h1 hnE).tickEnd _, ?_⟩
    show (l.foldl (tickOne G.time none) (G.logs callTick, [])).1.need = 0 ∨ v < (l.foldl (tickOne G.time none) (G.logs callTick, [])).1.need
    rw [need_none]
    exact hN
  | some gi =>
    obtain ⟨bg, hbg, hbo, hbe⟩ : ∃ bg, G.bids[gi]? = some bg ∧ bg.openB G G.time = true ∧ bg.entry = e := by
      unfold ghostI at hgi
      obtain ⟨a1, a2, _⟩ := List.findIdx?_eq_some_iff_getElem.1 hgi
      simp only [Bool.and_eq_true] at a2
      refine ⟨_, List.getElem?_eq_getElem a1, a2.1, ?_⟩
      have := a2.2
      rw [show (G.logs callTick).ghost = e from h.gh] at this
      simpa using this
    obtain ⟨l1, l2, hl, hoI, hA1, hA2⟩ := order_insert h hsG h0 hbg hbe hbo (fun i b hb hbe' => hent.uniq hb hbg (by rw [hbe', hbe])) hoG
    have hlR : lR = l1 ++ gi :: l2 := hoR.unique hoI
    have hgl : gi ∉ l := fun hx => hnE gi hx bg hbg hbe
    rw [hl] at hnE hfr hpw hgl
    rw [hlR, hl]
    rw [List.pairwise_append] at hpw
    have hgl1 : gi ∉ l1 := fun hx => hgl (List.mem_append_left _ hx)
    have hgl2 : gi ∉ l2 := fun hx => hgl (List.mem_append_right _ hx)
    unfold tickFold
    rw [List.foldl_append, List.foldl_append, List.foldl_cons]
    have hM1 := MAl.fold G.time (some gi) l1 [] [] h1 (fun i hi => hnE i (List.mem_append_left _ hi))
    have hal1 := AlikeM.fold G.time (some gi) l1 (G.logs callTick, [])
    have hg1 := ghost_fold (t := G.time) l1 (G.logs callTick) [] (show (G.logs callTick).bids[gi]? = some bg from hbg) hgl1 hpw.1 (fun i hi => hfr i (List.mem_append_left _ hi))
    generalize hs1 : l1.foldl (tickOne G.time (some gi)) (G.logs callTick, []) = s1 at *
    generalize hr1 : l1.foldl (tickOne G.time none) (R.logs callTick, []) = r1 at *
    have hbs : s1.1.bids[gi]? = some bg := (hal1.bid gi hgl1).trans hbg
    have hbr : r1.1.bids[gi]? = some (al e v bg) := by rw [hM1.get, hbs]; rfl
    have hfr2 : Fresh s1.1 l2 := fun i hi b hb => by
      have := hal1.bid i (fun hx => (hpw.2.2 i hx i hi) rfl)
      rw [this] at hb
      exact hfr i (List.mem_append_right _ hi) b hb
    have hnE2 : NotE e s1.1 l2 := fun i hi b hb => by
      have := hal1.bid i (fun hx => (hpw.2.2 i hx i hi) rfl)
      rw [this] at hb
      exact hnE i (List.mem_append_right _ hi) b hb
    have hc1 : s1.1.c = G.c := hal1.c
    have hg2 := ghost_fold (t := G.time) l2 s1.1 s1.2 hbs hgl2 hpw.2.1 hfr2
    have hal2 := AlikeM.fold G.time (some gi) l2 s1
    have hjb := hok.bid bg (List.mem_of_getElem? hbg)
    have hsz : 0 < sizeJ bg.job := hsG bg (List.mem_of_getElem? hbg)
    have e1 : (s1.1, s1.2) = s1 := rfl
    rw [e1] at hg2
    -- who is ahead of the bid, in terms of the least value
    have ah2 : ∀ q ∈ l2, ∀ b, s1.1.bids[q]? = some b → lq gi q bg.job b.job ≤ v := fun q hq b hb => by
      have hq0 : G.bids[q]? = some b := by have := hal1.bid q (fun hx => (hpw.2.2 q hx q hq) rfl); rw [this] at hb; exact hb
      have := hA2 q hq
      unfold aheadI at this
      rw [h.get, h.get, hbg, hq0] at this
      simp only [Option.map_some, al_eq hbe, al_ne (hnE q (List.mem_append_right _ hq) b hq0)] at this
      exact (least_iff hsz (hsG b (List.mem_of_getElem? hq0)) (by have := jobIn_true (hok.bid b (List.mem_of_getElem? hq0)).job; omega)).1 this
    have ah1 : ∀ q ∈ l1, ∀ b, G.bids[q]? = some b → v < lq gi q bg.job b.job := fun q hq b hq0 => by
      have := hA1 q hq
      have h2 := aheadI_asymm this
      unfold aheadI at h2
      rw [h.get, h.get, hbg, hq0] at h2
      simp only [Option.map_some, al_eq hbe, al_ne (hnE q (List.mem_append_left _ hq) b hq0)] at h2
      rcases Int.lt_or_le v (lq gi q bg.job b.job) with h3 | h3
      · exact h3
      · have := (least_iff (gi := gi) (k := q) (v := v) hsz (hsG b (List.mem_of_getElem? hq0)) (by have := jobIn_true (hok.bid b (List.mem_of_getElem? hq0)).job; omega)).2 h3
        unfold setV at h2
        rw [this] at h2
        cases h2
    -- the last word on the need
    have hend : ∀ m : MkG, m.bids[gi]? = some bg → m.c = G.c → (wantEnd G.time (some gi) m).need = if fitsB m bg G.time = true then minN m.need (wq G.c.res bg.job 0) else m.need := fun m hm hc => by
      unfold wantEnd
      simp only [roomB, hm]
      by_cases hf : fitsB m bg G.time = true
      · rw [if_pos hf, if_pos hf, want_need, wantV_eq hm, hc]
      · rw [if_neg hf, if_neg hf]
    have hbe2 : (l2.foldl (tickOne G.time (some gi)) s1).1.bids[gi]? = some bg := (hal2.bid gi hgl2).trans hbs
    have hce : (l2.foldl (tickOne G.time (some gi)) s1).1.c = G.c := hal2.c.trans hc1
    have hneed := hend _ hbe2 hce
    have hwin : tickOne G.time none r1 gi = if fitsB s1.1 bg G.time = true ∧ G.c.res * sizeJ bg.job ≤ v then (startM r1.1 gi G.time, r1.2 ++ [((al e v bg).ten, (al e v bg).ref)]) else r1 := by
      unfold tickOne
      rw [hbr]
      simp only
      rw [hM1.fits, hM1.c, hc1]
      unfold BidG.winB
      rw [al_size, al_eq hbe]
      show (if (fitsB s1.1 bg G.time && decide (G.c.res * sizeJ bg.job ≤ v)) = true then _ else _) = _
      by_cases hw : fitsB s1.1 bg G.time = true ∧ G.c.res * sizeJ bg.job ≤ v
      · rw [if_pos hw, if_pos (by simp [hw])]
      · rw [if_neg hw, if_neg (by simp only [Bool.and_eq_true, decide_eq_true_eq]; exact hw)]
    rw [hwin]
    by_cases hw : fitsB s1.1 bg G.time = true ∧ G.c.res * sizeJ bg.job ≤ v
    · right
      rw [if_pos hw]
      obtain ⟨hw1, hw2⟩ := hw
      have hn1 : s1.1.need = G.need := by
        rcases hg1 with ⟨_, a⟩ | ⟨_, a, _⟩
        · exact a
        · rw [hw1] at a; cases a
      refine ⟨?_, ?_⟩
      · have hal3 := AlikeM.fold G.time none l2 (startM r1.1 gi G.time, r1.2 ++ [((al e v bg).ten, (al e v bg).ref)])
        have hst : (startM r1.1 gi G.time).bids[gi]? = some { al e v bg with state := 2, start := G.time } := by
          rw [startM_set hbr]
          simp [(List.getElem?_eq_some_iff.1 hbr).1]
        have hfin := (hal3.bid gi hgl2).trans hst
        refine ⟨gi, { al e v bg with state := 2, start := G.time }, ?_, ?_, rfl⟩
        · show ((l2.foldl (tickOne G.time none) (startM r1.1 gi G.time, r1.2 ++ [((al e v bg).ten, (al e v bg).ref)])).1.bids.map fun b => b.expire (G.time + 1))[gi]? = _
          rw [List.getElem?_map, hfin]
          rfl
        · show (al e v bg).entry = e
          rw [al_entry]
          exact hbe
      · show 0 < (wantEnd G.time (some gi) (l2.foldl (tickOne G.time (some gi)) s1).1).need ∧ (wantEnd G.time (some gi) (l2.foldl (tickOne G.time (some gi)) s1).1).need ≤ v
        rw [hneed]
        rcases hg2 with ⟨a1, a2⟩ | ⟨_, a2, q, hq, bq, hbq, a3⟩
        · rw [if_pos (by rw [a1]; exact hw1), a2, hn1]
          exact minN_le hN (wq_le.2 ⟨by omega, hw2, hv⟩) (wq_pos _ _ _)
        · rw [if_neg (by rw [a2]; simp), a3, hn1, hc1]
          exact minN_le hN (wq_le.2 ⟨ah2 q hq bq hbq, hw2, hv⟩) (wq_pos _ _ _)
    · left
      rw [if_neg hw]
      have hM2 := MAl.fold G.time (some gi) l2 s1.2 r1.2 hM1 hnE2
      refine ⟨(hM2.wantEnd G.time (some gi)).tickEnd _, ?_⟩
      show (wantEnd G.time (some gi) (l2.foldl (tickOne G.time (some gi)) s1).1).need = 0 ∨ v < (wantEnd G.time (some gi) (l2.foldl (tickOne G.time (some gi)) s1).1).need
      rw [hneed]
      cases hf : fitsB s1.1 bg G.time
      · -- no room any more
        rcases hg2 with ⟨a1, a2⟩ | ⟨a1, _⟩
        · rw [if_neg (by rw [a1, hf]; simp), a2]
          rcases hg1 with ⟨_, b2⟩ | ⟨_, _, q, hq, bq, hbq, b3⟩
          · rw [b2]; exact hN
          · rw [b3]
            refine minN_gt hN ?_
            have h3 := ah1 q hq bq hbq
            rcases Int.lt_or_le v (wq G.c.res bg.job (lq gi q bg.job bq.job)) with h4 | h4
            · exact h4
            · have := (wq_le.1 h4).1; omega
        · rw [hf] at a1; cases a1
      · -- room, but too low a value
        have hlow : v < G.c.res * sizeJ bg.job := by
          rcases Int.lt_or_le v (G.c.res * sizeJ bg.job) with h4 | h4
          · exact h4
          · exact absurd ⟨hf, h4⟩ hw
        have hwv : ∀ x, v < wq G.c.res bg.job x := fun x => by
          rcases Int.lt_or_le v (wq G.c.res bg.job x) with h4 | h4
          · exact h4
          · have := (wq_le.1 h4).2.1; omega
        have hn1 : s1.1.need = G.need := by
          rcases hg1 with ⟨_, a⟩ | ⟨_, a, _⟩
          · exact a
          · rw [hf] at a; cases a
        rcases hg2 with ⟨a1, a2⟩ | ⟨_, a2, q, hq, bq, hbq, a3⟩
        · rw [if_pos (by rw [a1]; exact hf), a2, hn1]
          exact minN_gt hN (hwv _)
        · rw [if_neg (by rw [a2]; simp), a3, hn1, hc1]
          exact minN_gt hN (hwv _)
end Go.Proofs.YtminceigjejipabGreat

/-
  THE THRESHOLD: in the replay with the value v the bid wins just if the ghost's need is at most v. Nothing of the program.
-/
namespace Go.Proofs.YtminceigjejipabGreat

/-! ### what has won stays so; the need goes down -/
def WonE (e : Int) (m : MkG) : Prop := ∃ (i : Nat) (b : BidG), m.bids[i]? = some b ∧ b.entry = e ∧ b.state = 2
theorem won_start {e : Int} {m : MkG} (h : WonE e m) (i : Nat) (t : Int) : WonE e (startM m i t) := by
  obtain ⟨k, b, hb, he, hs⟩ := h
  cases hi : m.bids[i]? with
  | none =>
    refine ⟨k, b, ?_, he, hs⟩
    unfold startM
    rw [hi]
    exact hb
  | some b' =>
    rw [startM_set hi]
    by_cases e1 : i = k
    · subst e1
      rw [hi] at hb
      obtain rfl := Option.some.inj hb
      exact ⟨i, { b' with state := 2, start := t }, by simp [(List.getElem?_eq_some_iff.1 hi).1], he, rfl⟩
    · exact ⟨k, b, by simp [e1, hb], he, hs⟩
theorem won_want {e : Int} {m : MkG} (h : WonE e m) (g : Nat) (x : Int) : WonE e (wantM m g x) := by
  unfold WonE
  rw [ent_want]
  exact h
theorem won_one {e : Int} {s : TkS} (h : WonE e s.1) (t : Int) (g : Option Nat) (i : Nat) : WonE e (tickOne t g s i).1 := by
  unfold tickOne
  split
  · exact h
  · split
    · cases g with
      | none => exact won_start h i t
      | some gi =>
        simp only
        split
        · exact won_want (won_start h i t) _ _
        · exact won_start h i t
    · exact h
theorem won_fold {e : Int} (t : Int) (g : Option Nat) : ∀ (l : List Nat) (s : TkS), WonE e s.1 → WonE e (l.foldl (tickOne t g) s).1
  | [], _, h => h
  | i :: l, _, h => won_fold t g l _ (won_one h t g i)
theorem won_end {e : Int} {m : MkG} (h : WonE e m) (t : Int) (g : Option Nat) : WonE e (wantEnd t g m) := by
  unfold wantEnd
  cases g with
  | none => exact h
  | some gi =>
    simp only
    split
    · exact won_want h _ _
    · exact h
theorem won_tick {e : Int} {m : MkG} (h : WonE e m) : WonE e (tickF m) := by
  unfold tickF
  split
  · exact h
  · have h1 := won_fold m.time (ghostI (m.logs callTick) m.time) (orderL m m.time) (m.logs callTick, []) h
    have h2 := won_end h1 m.time (ghostI (m.logs callTick) m.time)
    obtain ⟨k, b, hb, he, hs⟩ := h2
    refine ⟨k, b, ?_, he, hs⟩
    show (List.map _ _)[k]? = _
    rw [List.getElem?_map]
    have : b.expire (m.time + 1) = b := by unfold BidG.expire; rw [hs]; rfl
    unfold tickFold
    rw [hb]
    simp only [Option.map_some, this]
theorem won_again {e : Int} {m : MkG} (h : WonE e m) (c : CallG) : WonE e (againM m c) := by
  unfold againM
  split
  · exact h
  · split
    · unfold submitM
      simp only
      split
      · obtain ⟨k, b, hb, he, hs⟩ := h
        exact ⟨k, b, by show (m.bids ++ [newBid m c.a c.b c.job])[k]? = some b; rw [List.getElem?_append_left (List.getElem?_eq_some_iff.1 hb).1]; exact hb, he, hs⟩
      · exact h
    · split
      · unfold cancelM
        simp only
        split
        · rename_i hE
          obtain ⟨k, b, hb, he, hs⟩ := h
          show ∃ (i : Nat) (x : BidG), (setState m.bids (findZ m.bids c.a c.b).toNat 3)[i]? = some x ∧ x.entry = e ∧ x.state = 2
          unfold setState
          cases hi : m.bids[(findZ m.bids c.a c.b).toNat]? with
          | none => exact ⟨k, b, hb, he, hs⟩
          | some b' =>
            simp only
            have hst : stateAt m (findZ m.bids c.a c.b) = 1 := by
              unfold cancelE at hE
              split at hE
              · cases hE
              · split at hE
                · cases hE
                · split at hE
                  · assumption
                  · cases hE
            have hs' : b'.state = 1 := by
              unfold stateAt at hst
              rw [show m.bids[(findZ m.bids c.a c.b).toNat]? = some b' from hi] at hst
              simpa using hst
            refine ⟨k, b, ?_, he, hs⟩
            have hne : (findZ m.bids c.a c.b).toNat ≠ k := fun hx => by
              rw [hx] at hi
              rw [show m.bids[k]? = some b' from hi] at hb
              obtain rfl := Option.some.inj hb
              omega
            rw [List.getElem?_set, if_neg hne]
            exact hb
        · exact h
      · split
        · unfold capM
          split
          · exact h
          · split <;> exact h
        · split
          · unfold suspendM
            simp only
            split <;> exact h
          · split
            · exact won_tick h
            · exact h

theorem wantV_pos (m : MkG) (g : Nat) (x : Int) : 1 ≤ wantV m g x := by
  unfold wantV
  simp only
  split <;> split <;> omega
def NeedLe (m m' : MkG) : Prop := 0 < m.need → 0 < m'.need ∧ m'.need ≤ m.need
theorem NeedLe.trans {a b c : MkG} (h : NeedLe a b) (h' : NeedLe b c) : NeedLe a c := fun hx => by
  have h1 := h hx
  have h2 := h' h1.1
  omega
theorem NeedLe.same {m m' : MkG} (h : m'.need = m.need) : NeedLe m m' := fun hx => by omega
theorem need_want (m : MkG) (g : Nat) (x : Int) : NeedLe m (wantM m g x) := fun hx => by
  have := wantV_pos m g x
  rw [want_need]
  unfold minN
  split <;> omega
theorem need_start (m : MkG) (i : Nat) (t : Int) : (startM m i t).need = m.need := by
  unfold startM
  split <;> rfl
theorem need_one (t : Int) (g : Option Nat) (s : TkS) (i : Nat) : NeedLe s.1 (tickOne t g s i).1 := by
  unfold tickOne
  split
  · exact NeedLe.same rfl
  · split
    · cases g with
      | none => exact NeedLe.same (need_start _ _ _)
      | some gi =>
        simp only
        split
        · exact (NeedLe.same (need_start _ _ _)).trans (need_want _ _ _)
        · exact NeedLe.same (need_start _ _ _)
    · exact NeedLe.same rfl
theorem need_fold (t : Int) (g : Option Nat) : ∀ (l : List Nat) (s : TkS), NeedLe s.1 (l.foldl (tickOne t g) s).1
  | [], _ => NeedLe.same rfl
  | i :: l, s => (need_one t g s i).trans (need_fold t g l _)
theorem need_tick (m : MkG) : NeedLe m (tickF m) := by
  unfold tickF
  split
  · exact NeedLe.same rfl
  · refine NeedLe.trans (b := ((orderL m m.time).foldl (tickOne m.time (ghostI (m.logs callTick) m.time)) (m.logs callTick, [])).1) (need_fold _ _ _ (m.logs callTick, [])) ?_
    show NeedLe _ (wantEnd m.time (ghostI (m.logs callTick) m.time) (tickFold m.time (ghostI (m.logs callTick) m.time) (m.logs callTick) (orderL m m.time)).1)
    unfold tickFold wantEnd
    cases ghostI (m.logs callTick) m.time with
    | none => exact NeedLe.same rfl
    | some gi =>
      simp only
      split
      · exact need_want _ _ _
      · exact NeedLe.same rfl
theorem need_again (m : MkG) (c : CallG) : NeedLe m (againM m c) := by
  unfold againM
  split
  · exact NeedLe.same rfl
  · split
    · unfold submitM
      simp only
      split <;> exact NeedLe.same rfl
    · split
      · unfold cancelM
        simp only
        split <;> exact NeedLe.same rfl
      · split
        · unfold capM
          split
          · exact NeedLe.same rfl
          · split <;> exact NeedLe.same rfl
        · split
          · unfold suspendM
            simp only
            split <;> exact NeedLe.same rfl
          · split
            · exact need_tick m
            · exact NeedLe.same rfl

/-! ### entries -/
theorem EntOk.of_map {m m' : MkG} (h : EntOk m) (hm : ∀ k : Nat, (m'.bids[k]?).map BidG.entry = (m.bids[k]?).map BidG.entry) (hl : m.log.length ≤ m'.log.length) : EntOk m' := by
  have get : ∀ (k : Nat) b, m'.bids[k]? = some b → ∃ b', m.bids[k]? = some b' ∧ b'.entry = b.entry := fun k b hb => by
    have := hm k
    rw [hb] at this
    cases hk : m.bids[k]? with
    | none => rw [hk] at this; cases this
    | some b' =>
      rw [hk] at this
      simp only [Option.map_some, Option.some.injEq] at this
      exact ⟨b', rfl, this.symm⟩
  refine ⟨fun i k b b' hb hb' hik => ?_, fun b hb => ?_⟩
  · obtain ⟨x, hx, ex⟩ := get i b hb
    obtain ⟨y, hy, ey⟩ := get k b' hb'
    have := h.lt i k x y hx hy hik
    omega
  · obtain ⟨i, hi⟩ := List.getElem?_of_mem hb
    obtain ⟨x, hx, ex⟩ := get i b hi
    have := h.in' x (List.mem_of_getElem? hx)
    omega
theorem ent_fold (t : Int) (g : Option Nat) (k : Nat) : ∀ (l : List Nat) (s : TkS), ((l.foldl (tickOne t g) s).1.bids[k]?).map BidG.entry = (s.1.bids[k]?).map BidG.entry
  | [], _ => rfl
  | i :: l, s => (ent_fold t g k l _).trans (ent_one t g s i k)
theorem wantEnd_bids (t : Int) (g : Option Nat) (m : MkG) : (wantEnd t g m).bids = m.bids ∧ (wantEnd t g m).log = m.log := by
  unfold wantEnd
  cases g with
  | none => exact ⟨rfl, rfl⟩
  | some gi =>
    simp only
    split
    · exact ⟨ent_want _ _ _, (AlikeM.want _ _ _).log⟩
    · exact ⟨rfl, rfl⟩
theorem tickF_log (m : MkG) : (tickF m).log.length = m.log.length + 1 := by
  unfold tickF
  split
  · simp [MkG.logs]
  · show (wantEnd m.time _ (tickFold m.time _ _ _).1).log.length = _
    rw [(wantEnd_bids _ _ _).2]
    unfold tickFold
    rw [(AlikeM.fold m.time (ghostI (m.logs callTick) m.time) (orderL m m.time) (m.logs callTick, [])).log]
    simp [MkG.logs]
theorem tickF_ent (m : MkG) (k : Nat) : ((tickF m).bids[k]?).map BidG.entry = (m.bids[k]?).map BidG.entry := by
  unfold tickF
  split
  · rfl
  · show ((List.map (fun b => b.expire (m.time + 1)) (wantEnd m.time _ (tickFold m.time _ _ _).1).bids)[k]?).map BidG.entry = _
    rw [(wantEnd_bids _ _ _).1, List.getElem?_map, Option.map_map]
    have : (BidG.entry ∘ fun b => b.expire (m.time + 1)) = BidG.entry := by
      funext b
      simp only [Function.comp, BidG.expire]
      split <;> rfl
    rw [this]
    unfold tickFold
    exact ent_fold m.time (ghostI (m.logs callTick) m.time) k (orderL m m.time) (m.logs callTick, [])
theorem again_log {m : MkG} (hl : m.log.length < 300) (c : CallG) : (againM m c).log.length = m.log.length + 1 := by
  unfold againM
  rw [if_neg (by omega)]
  split
  · unfold submitM
    simp only
    split <;> simp [MkG.logs]
  · split
    · unfold cancelM
      simp only
      split <;> simp [MkG.logs]
    · split
      · unfold capM
        split
        · simp [MkG.logs]
        · split <;> simp [MkG.logs]
      · split
        · unfold suspendM
          simp only
          split <;> simp [MkG.logs]
        · split
          · exact tickF_log m
          · simp [MkG.logs]
theorem EntOk.again {m : MkG} (h : EntOk m) (hl : m.log.length < 300) (c : CallG) : EntOk (againM m c) := by
  have hlog := again_log hl c
  by_cases hsub : c.kind = 1 ∧ submitE m c.a c.b c.job = 0
  · have e1 : againM m c = { m.logs (callSubmit c.a c.b c.job) with bids := m.bids ++ [newBid m c.a c.b c.job] } := by
      unfold againM
      rw [if_neg (by omega), if_pos hsub.1]
      unfold submitM
      simp only
      rw [if_pos hsub.2]
      rfl
    rw [e1] at hlog ⊢
    have get : ∀ (i : Nat) b, (m.bids ++ [newBid m c.a c.b c.job])[i]? = some b → (m.bids[i]? = some b) ∨ (i = m.bids.length ∧ b = newBid m c.a c.b c.job) := fun i b hb => by
      rw [List.getElem?_append] at hb
      by_cases e : i < m.bids.length
      · rw [if_pos e] at hb
        exact .inl hb
      · rw [if_neg e] at hb
        by_cases e2 : i = m.bids.length
        · subst e2
          simp at hb
          exact .inr ⟨rfl, hb.symm⟩
        · rw [List.getElem?_eq_none (by simp; omega)] at hb
          cases hb
    refine ⟨fun i k b b' hb hb' hik => ?_, fun b hb => ?_⟩
    · rcases get i b hb with hb | ⟨hi, rfl⟩
      · rcases get k b' hb' with hb' | ⟨hk, rfl⟩
        · exact h.lt i k b b' hb hb' hik
        · have := h.in' b (List.mem_of_getElem? hb)
          exact this.2
      · rcases get k b' hb' with hb' | ⟨hk, rfl⟩
        · have := (List.getElem?_eq_some_iff.1 hb').1
          omega
        · omega
    · rcases List.mem_append.1 hb with hb | hb
      · have := h.in' b hb
        exact ⟨this.1, by rw [hlog]; have := this.2; omega⟩
      · simp at hb
        subst hb
        exact ⟨by simp [newBid], by rw [hlog]; simp [newBid]; omega⟩
  · refine h.of_map (fun k => ?_) (by omega)
    unfold againM
    rw [if_neg (by omega)]
    split
    · rename_i hk
      unfold submitM
      simp only
      rw [if_neg (fun hx => hsub ⟨hk, hx⟩)]
      rfl
    · split
      · unfold cancelM
        simp only
        split
        · show ((setState m.bids _ 3)[k]?).map BidG.entry = _
          unfold setState
          split
          · rename_i b hb
            rw [List.getElem?_set]
            by_cases e : (findZ m.bids c.a c.b).toNat = k
            · rw [if_pos e, if_pos (by have := (List.getElem?_eq_some_iff.1 hb).1; omega)]
              rw [e] at hb
              rw [hb]
              rfl
            · rw [if_neg e]
          · rfl
        · rfl
      · split
        · unfold capM
          split
          · rfl
          · split <;> rfl
        · split
          · unfold suspendM
            simp only
            split <;> rfl
          · split
            · exact tickF_ent m k
            · rfl
end Go.Proofs.YtminceigjejipabGreat

/-
  THE THRESHOLD. Nothing of the program.
-/
namespace Go.Proofs.YtminceigjejipabGreat

/-- the ghost's bid never wins -/
def NotWon (e : Int) (m : MkG) : Prop := ∀ b ∈ m.bids, b.entry = e → b.state ≠ 2
theorem notwon_tick {e : Int} {m : MkG} (h : NotWon e m) (hok : MkOk m) (hg : m.ghost = e) : NotWon e (tickF m) := by
  unfold tickF
  split
  · exact h
  · intro b hb hbe
    have hord := orderL_is (t := m.time) hok.sizes
    generalize orderL m m.time = l at *
    have hb' : b ∈ (wantEnd m.time (ghostI (m.logs callTick) m.time) (tickFold m.time (ghostI (m.logs callTick) m.time) (m.logs callTick) l).1).bids.map fun b => b.expire (m.time + 1) := hb
    rw [(wantEnd_bids _ _ _).1, List.mem_map] at hb'
    obtain ⟨x, hx, rfl⟩ := hb'
    have hxe : x.entry = e := by
      have : (x.expire (m.time + 1)).entry = x.entry := by unfold BidG.expire; split <;> rfl
      rw [← this]
      exact hbe
    obtain ⟨k, hk⟩ := List.getElem?_of_mem hx
    have hal := AlikeM.fold m.time (ghostI (m.logs callTick) m.time) l (m.logs callTick, [])
    have hent := ent_fold m.time (ghostI (m.logs callTick) m.time) k l (m.logs callTick, [])
    have hk' : (l.foldl (tickOne m.time (ghostI (m.logs callTick) m.time)) (m.logs callTick, [])).1.bids[k]? = some x := hk
    rw [hk'] at hent
    have hkl : k ∉ l := fun hx' => by
      obtain ⟨b0, hb0, hc⟩ := (hord.mem k).1 hx'
      rw [show ((m.logs callTick, ([] : List (Int × Int))).1.bids[k]?) = some b0 from hb0] at hent
      simp only [Option.map_some, Option.some.injEq] at hent
      unfold candB at hc
      rw [Bool.and_eq_true, hg] at hc
      have h2 : b0.entry ≠ e := by simpa using hc.2
      exact h2 (by rw [← hent]; exact hxe)
    have := hal.bid k hkl
    rw [hk'] at this
    have hst := h x (List.mem_of_getElem? this.symm) hxe
    unfold BidG.expire
    split
    · simp
    · exact hst

structure Phi (e v : Int) (G R : MkG) : Prop where
  ent : EntOk G
  ok : MkOk G
  st : (MAl e v G R ∧ NotWon e G ∧ (G.need = 0 ∨ v < G.need)) ∨ (WonE e R ∧ 0 < G.need ∧ G.need ≤ v)

theorem againM_in {m : MkG} (hl : m.log.length < 300) (c : CallG) : againM m c = if c.kind = 1 then submitM m c.a c.b c.job
  else if c.kind = 2 then cancelM m c.a c.b
  else if c.kind = 3 then capM m c.a c.b c.c
  else if c.kind = 4 then suspendM m c.a c.on
  else if c.kind = 5 then tickF m
  else m.logs c := by
  unfold againM
  rw [if_neg (by omega)]
/-- the call at place n -/
def callV (e n : Nat) (v : Int) (x : CallG) : CallG := if n = e then withV x v else x
theorem Phi.step {e : Nat} {v : Int} {G R : MkG} (h : Phi e v G R) (hv1 : 1 ≤ v) (hv2 : v ≤ 1048576) {n : Nat} (hn : G.log.length = n) (hl : n < 300) {x : CallG} (hx : n = e → x.kind = 1 ∧ 1 ≤ x.job.val ∧ x.job.val ≤ 1048576) : Phi e v (againM G x) (againM R (callV e n v x)) := by
  refine ⟨h.ent.again (by omega) x, h.ok.again x, ?_⟩
  rcases h.st with ⟨hM, hnw, hN⟩ | ⟨hw, hn1, hn2⟩
  rotate_left
  · have := need_again G x hn1
    exact .inr ⟨won_again hw _, this.1, by omega⟩
  have hlR : R.log.length = n := by rw [hM.log]; exact hn
  have hk : (callV e n v x).kind = x.kind := by unfold callV; split <;> rfl
  have ha : (callV e n v x).a = x.a := by unfold callV; split <;> rfl
  have hb : (callV e n v x).b = x.b := by unfold callV; split <;> rfl
  have hc : (callV e n v x).c = x.c := by unfold callV; split <;> rfl
  have ho : (callV e n v x).on = x.on := by unfold callV; split <;> rfl
  rw [againM_in (m := G) (by omega), againM_in (m := R) (by omega), hk, ha, hb, hc, ho]
  by_cases k1 : x.kind = 1
  · rw [if_pos k1, if_pos k1]
    left
    refine ⟨hM.submit x.a x.b x.job _ ?_, ?_, ?_⟩
    · rw [hn]
      unfold callV
      by_cases e1 : n = e
      · obtain ⟨_, h2, h3⟩ := hx e1
        rw [if_pos e1]
        exact .inr ⟨by rw [e1], rfl, hv1, hv2, h2, h3⟩
      · rw [if_neg e1]
        exact .inl ⟨by omega, rfl⟩
    · unfold submitM
      simp only
      split
      · intro b hb hbe
        rcases List.mem_append.1 hb with hb | hb
        · exact hnw b hb hbe
        · simp at hb
          subst hb
          simp [newBid]
      · exact hnw
    · unfold submitM
      simp only
      split <;> exact hN
  rw [if_neg k1, if_neg k1]
  have hne : n ≠ e := fun e1 => k1 (hx e1).1
  by_cases k2 : x.kind = 2
  · rw [if_pos k2, if_pos k2]
    left
    refine ⟨hM.cancel x.a x.b, ?_, ?_⟩
    · unfold cancelM
      simp only
      split
      · intro b hb hbe
        have hb' : b ∈ setState G.bids (findZ G.bids x.a x.b).toNat 3 := hb
        unfold setState at hb'
        split at hb'
        · rcases List.mem_or_eq_of_mem_set hb' with hb2 | rfl
          · exact hnw b hb2 hbe
          · simp
        · exact hnw b hb' hbe
      · exact hnw
    · unfold cancelM
      simp only
      split <;> exact hN
  rw [if_neg k2, if_neg k2]
  by_cases k3 : x.kind = 3
  · rw [if_pos k3, if_pos k3]
    left
    refine ⟨hM.cap x.a x.b x.c, ?_, ?_⟩
    · unfold capM
      split
      · exact hnw
      · split <;> exact hnw
    · unfold capM
      split
      · exact hN
      · split <;> exact hN
  rw [if_neg k3, if_neg k3]
  by_cases k4 : x.kind = 4
  · rw [if_pos k4, if_pos k4]
    left
    refine ⟨hM.suspend x.a x.on, ?_, ?_⟩
    · unfold suspendM
      simp only
      split <;> exact hnw
    · unfold suspendM
      simp only
      split <;> exact hN
  rw [if_neg k4, if_neg k4]
  by_cases k5 : x.kind = 5
  · rw [if_pos k5, if_pos k5]
    rcases tick_phase hM h.ok h.ent hv1 hN with ⟨h1, h2⟩ | h1
    · exact .inl ⟨h1, notwon_tick hnw h.ok hM.gh, h2⟩
    · exact .inr h1
  · rw [if_neg k5, if_neg k5]
    exact .inl ⟨hM.logs _ _, hnw, hN⟩

def mapFrom (e : Nat) (v : Int) : Nat → List CallG → List CallG
  | _, [] => []
  | n, x :: l => callV e n v x :: mapFrom e v (n + 1) l
theorem mapFrom_eq (e : Nat) (v : Int) : ∀ (l : List CallG) (n : Nat), l.mapIdx (fun i x => if i + n = e then withV x v else x) = mapFrom e v n l
  | [], _ => rfl
  | x :: l, n => by
    rw [List.mapIdx_cons, mapFrom]
    congr 1
    · simp [callV]
    · rw [← mapFrom_eq e v l (n + 1)]
      congr 1
      funext i x
      rw [show i + 1 + n = i + (n + 1) by omega]

theorem phi_fold {e : Nat} {v : Int} (hv1 : 1 ≤ v) (hv2 : v ≤ 1048576) : ∀ (l : List CallG) (n : Nat) {G R : MkG}, Phi e v G R → G.log.length = n → n + l.length ≤ 300 → (∀ (i : Nat) x, l[i]? = some x → n + i = e → x.kind = 1 ∧ 1 ≤ x.job.val ∧ x.job.val ≤ 1048576) → Phi e v (l.foldl againM G) ((mapFrom e v n l).foldl againM R)
  | [], _, _, _, h, _, _, _ => h
  | x :: l, n, G, R, h, hn, hl, hx => by
    simp only [List.length_cons] at hl
    have h1 := h.step hv1 hv2 hn (by omega) (x := x) (fun e1 => hx 0 x rfl (by omega))
    have hlog := again_log (m := G) (by omega) x
    simp only [List.foldl_cons, mapFrom]
    exact phi_fold hv1 hv2 l (n + 1) h1 (by omega) (by omega) (fun i y hy e1 => hx (i + 1) y (by simpa using hy) (by omega))

/-- THE THRESHOLD: in the replay with the value v the bid of entry e wins just if what its ghost needs is at most v -/
theorem replay_threshold {c : CfgG} (hc : cfgOk c = true) {e : Nat} {v : Int} (hv1 : 1 ≤ v) (hv2 : v ≤ 1048576) {log : List CallG} (hlen : log.length ≤ 300) (hcall : ∀ x, log[e]? = some x → x.kind = 1 ∧ 1 ≤ x.job.val ∧ x.job.val ≤ 1048576) :
    WonE e (replayV c e v log) ↔ (0 < (replayG c e log).need ∧ (replayG c e log).need ≤ v) := by
  have h0 : Phi e v (ghostOpen c e) (openM c) := by
    refine ⟨⟨fun i k b b' hb => by simp [ghostOpen, openM] at hb, fun b hb => by simp [ghostOpen, openM] at hb⟩, MkOk.ghostOpen hc e, .inl ⟨⟨rfl, rfl, rfl, rfl, rfl, rfl, rfl, rfl⟩, fun b hb => by simp [ghostOpen, openM] at hb, .inl rfl⟩⟩
  have h1 := phi_fold hv1 hv2 log 0 h0 rfl (by omega) (fun i x hx e1 => hcall x (by rw [← e1, Nat.zero_add]; exact hx))
  have e1 : replayV c e v log = (mapFrom e v 0 log).foldl againM (openM c) := by
    unfold replayV
    rw [← mapFrom_eq e v log 0]
    rfl
  rw [e1]
  unfold replayG
  rcases h1.st with ⟨hM, hnw, hN⟩ | ⟨hw, hn1, hn2⟩
  · constructor
    · rintro ⟨i, b, hb, hbe, hbs⟩
      rw [hM.get] at hb
      cases hi : (log.foldl againM (ghostOpen c e)).bids[i]? with
      | none => rw [hi] at hb; cases hb
      | some b0 =>
        rw [hi] at hb
        obtain rfl := Option.some.inj hb
        rw [al_entry] at hbe
        rw [al_state] at hbs
        exact absurd hbs (hnw b0 (List.mem_of_getElem? hi) hbe)
    · rintro ⟨h2, h3⟩
      omega
  · exact ⟨fun _ => ⟨hn1, hn2⟩, fun _ => hw⟩
end Go.Proofs.YtminceigjejipabGreat

/-
  INVOICES AND BALANCE IN THE REFERENCE.
-/
namespace Go.Proofs.YtminceigjejipabGreat
open Go.RowKit

theorem infoInvoice : (Tryz.prog.info? 65).map (fun i => (i.zero, i.size, i.bytes)) = some (some (.agg #[.int .i64 0, .int .i64 0, .int .i64 0]), 3, 24) := by kernel_rfl

theorem MktAt.chargeForm {w : World} {p : Nat} {V : MV} {m : MkG} (h : MktAt w p V m) : ∃ ao cap, V.cv = .slice ao m.charges.length cap := by
  rcases h.charges.2 with ⟨hv, h0⟩ | ⟨g, cap, cur, hv, _⟩
  · exact ⟨none, 0, by rw [hv, h0]⟩
  · exact ⟨_, cap, hv⟩
theorem invRow_cell {w : World} {v : Value} {l : List InvG} {i : Nat} {c : InvG} (h : w.ownsRow 0 65 3 v l.length (l.flatMap invCells)) (hc : l[i]? = some c) :
    ∃ g cap, v = .slice (some ⟨g, 0, none⟩) l.length cap ∧ v.ownBlock = some g ∧ g < w.heap.size ∧ ∀ r u, (invCells c)[r]? = some u → w.cell? ⟨g, i * 3 + r, none⟩ = some u := by
  rcases h.2 with ⟨hv, h0⟩ | ⟨g, cap, cur, hv, hg, hh, r⟩
  · have := (List.getElem?_eq_some_iff.1 hc).1
    omega
  · refine ⟨g, cap, hv, by rw [hv]; rfl, (Array.getElem?_eq_some_iff.1 hh).1, fun r u hu => ?_⟩
    have hr : r < 3 := by
      have := (List.getElem?_eq_some_iff.1 hu).1
      simpa [invCells] using this
    have := h.cells (g := g) (by rw [hv]; rfl) (i * 3 + r) u (by rw [flat_get invCells 3 (fun _ => rfl) l i c r hc hr]; exact hu)
    rwa [Addr.add_lit, Nat.zero_add] at this

/-- a list of invoices that grows in a block of its own -/
structure InvSt (w : World) (l : List InvG) (lv : Value) (wr : World) : Prop where
  chg : Chg (fun _ => False) w wr
  own : wr.ownsRow 0 65 3 lv l.length (l.flatMap invCells)
  new : ∀ k, lv.ownBlock = some k → w.heap.size ≤ k
theorem InvSt.chg0 {w wr w' : World} {l : List InvG} {lv : Value} (h : InvSt w l lv wr) (hc : Chg (fun _ => False) wr w') : InvSt w l lv w' :=
  ⟨h.chg.trans hc (fun _ _ h => h), ownsRow_keep h.own (fun k hk => hc.block k (h.own.lt k hk).2 (fun h => h)), h.new⟩
theorem InvSt.nil {w wr : World} (hc : Chg (fun _ => False) w wr) : InvSt w [] (.slice none 0 0) wr := ⟨hc, World.ownsRow_nil _ _ _ _, fun k hk => by simp [Value.ownBlock] at hk⟩
theorem inv_arm {w wr wa w3 : World} {l : List InvG} {x : InvG} {ao : Option Addr} {cap cap' g H nn : Nat} (h : InvSt w l (.slice ao nn cap) wr) (hn : nn = l.length) (hc : Chg (fun _ => False) wr wa)
    (hown : w3.ownsRow 0 65 3 (.slice (some ⟨g, 0, none⟩) (nn + 1) cap') (nn + 1) (l.flatMap invCells ++ invCells x)) (hgrow : wa.grownBy w3 (Value.ownBlock (.slice ao nn cap))) (hat : Value.ownBlock (.slice ao nn cap) = some g ∨ g = H) (hH : wr.heap.size ≤ H) :
    Hid (InvSt w (l ++ [x]) (.slice (some ⟨g, 0, none⟩) (nn + 1) cap') w3) := by
  subst hn
  have hc3 : Chg (fun k => Value.ownBlock (.slice ao l.length cap) = some k) wr w3 := (hc.mono (fun _ _ h => h.elim)).grown hgrow (fun k hk => .inl hk)
  have hs := h.chg.size
  refine ⟨h.chg.trans hc3 (fun k hk e => by have := h.new k e; omega), ?_, ?_⟩
  · rw [List.length_append, List.flatMap_append]
    simp only [List.flatMap_cons, List.flatMap_nil, List.append_nil, List.length_cons, List.length_nil, Nat.zero_add]
    exact hown
  · intro k hk
    simp [Value.ownBlock] at hk
    subst hk
    rcases hat with e | e
    · exact h.new g e
    · omega

def invE (m : MkG) (ten : Int) : Int := if m.tenB ten = false then 3 else 0
def ofTen (l : List InvG) (ten : Int) : List InvG := l.filter fun c => c.ten == ten
def invL (m : MkG) (ten : Int) : List InvG := if m.tenB ten = false then [] else ofTen m.charges ten
theorem ofTen_snoc {l : List InvG} {k : Nat} {c : InvG} {ten : Int} (h : l[k]? = some c) : ofTen (l.take (k + 1)) ten = ofTen (l.take k) ten ++ if (c.ten == ten) = true then [c] else [] := by
  rw [take_snoc h, ofTen, List.filter_append]
  congr 1
  simp [List.filter_cons]

set_option maxRecDepth 100000 in
set_option maxHeartbeats 4000000 in
theorem invoices_any (p : Nat) (V : MV) (m : MkG) (ten : Int) (w : World) (hm : MktAt w p V m) (hcl : m.charges.length ≤ 300) :
    Calls Tryz.prog 57 #[.pointer (some ⟨p, 0, none⟩), .int .i64 ten] w fun e w' => ∃ lv, e = .returned (.tuple #[lv, .int .i64 (invE m ten)]) ∧ InvSt w (invL m ten) lv w' := by
  have HM := hide hm
  clear hm
  go_enter Tryz.func57, Tryz.ntmps57
  go_wp2_with fail
  refine (tenant_any p V m ten _ HM.out).mono ?_
  rintro e w2 ⟨rfl, hw⟩
  subst w2
  cases hT : m.tenB ten
  · have E1 := hide (show invE m ten = 3 by simp [invE, hT])
    have E2 := hide (show invL m ten = [] by simp [invL, hT])
    clear hT
    go_wp2
    go_ret2
    exact ⟨_, by rw [E1.out]; rfl, by rw [E2.out]; exact InvSt.nil (Chg.refl _ _)⟩
  · have E1 := hide (show invE m ten = 0 by simp [invE, hT])
    have E2 := hide (show invL m ten = ofTen m.charges ten by simp [invL, hT])
    clear hT
    obtain ⟨N, hN⟩ : ∃ N, N = m.charges.length := ⟨_, rfl⟩
    have HN := hide hN
    rw [← hN] at hcl
    clear hN
    go_wp2
    go_loopw [6, 7] (fun lv y wr => ∃ k : Nat, k ≤ N ∧ y = .int .i64 k ∧ InvSt w (ofTen (m.charges.take k) ten) lv wr) (fun _ y _ => N - (intOf y).toNat)
    case atStart => exact ⟨0, by omega, rfl, InvSt.nil (Chg.refl _ _)⟩
    case round =>
      obtain ⟨k, hk, rfl, hst⟩ := hrel
      have HST := hide hst
      have HMW := hide (HM.out.chg0 hst.chg)
      clear hst
      obtain ⟨ca, cc, hcv⟩ := HMW.out.chargeForm
      have c11 : wr.cell? ⟨p, 11, none⟩ = some (.slice ca N cc) := by rw [HN.out, ← hcv]; exact HMW.out.cell 11
      by_cases hlt : k < N
      · obtain ⟨c, hc⟩ : ∃ c, m.charges[k]? = some c := ⟨_, List.getElem?_eq_getElem (by rw [← HN.out]; exact hlt)⟩
        obtain ⟨gc, ccap, hv, _, hgl, hcel⟩ := invRow_cell HMW.out.charges hc
        have hla : ca = some ⟨gc, 0, none⟩ ∧ cc = ccap := by
          rw [hcv] at hv
          simp at hv
          exact hv
        obtain ⟨rfl, rfl⟩ := hla
        have hpl : p < wr.heap.size := HMW.out.lt
        have k0 : (0 : Int) ≤ (k : Int) := by omega
        have k1 : (k : Int) < (N : Int) := by omega
        have l0 : wr.cell? ⟨gc, k * 3, none⟩ = some (.int .i64 c.ten) := hcel 0 _ rfl
        have l1 : wr.cell? ⟨gc, k * 3 + 1, none⟩ = some (.int .i64 c.ref) := hcel 1 _ rfl
        have l2 : wr.cell? ⟨gc, k * 3 + 2, none⟩ = some (.int .i64 c.cents) := hcel 2 _ rfl
        have HS := hide (ofTen_snoc (ten := ten) hc)
        clear hcel hv hcv hc HMW
        cases hq : c.ten == ten
        · have HE := hide (show ofTen (m.charges.take (k + 1)) ten = ofTen (m.charges.take k) ten by rw [HS.out, hq]; simp)
          go_wp2
          go_roundw
          case rel => exact ⟨k + 1, by omega, by go_num, by rw [HE.out]; exact HST.out⟩
          case measure => simp [intOf]; omega
        · have HE := hide (show ofTen (m.charges.take (k + 1)) ten = ofTen (m.charges.take k) ten ++ [c] by rw [HS.out, hq]; simp)
          obtain ⟨oa, oc, hov⟩ := ownsRow_form HST.out.own
          subst hov
          obtain ⟨no, hno⟩ : ∃ no, no = (ofTen (m.charges.take k) ten).length := ⟨_, rfl⟩
          have HOUT : Hid (wr.ownsRow 0 65 3 (.slice oa no oc) no ((ofTen (m.charges.take k) ten).flatMap invCells)) := by rw [hno]; exact HST.out.own
          have hol : no ≤ k := by rw [hno]; have := List.length_filter_le (fun c : InvG => c.ten == ten) (m.charges.take k); simp at this; unfold ofTen; omega
          rw [← hno] at HST ⊢
          have HNO := hide hno
          clear hno
          obtain ⟨i0', hi, hz0', hz1, hz2⟩ := info_parts infoInvoice
          go_wp2_with (first | (at_builtin; refine wpList_append_lies _ rfl (.tmp 31) (.tmp 39) 63 rfl 0 65 i0' (.agg #[.int .i64 0, .int .i64 0, .int .i64 0]) 3 24 Tryz.underlying63 hi hz0' hz1 hz2 rfl (by decide) (.slice oa no oc) no ((ofTen (m.charges.take k) ten).flatMap invCells) rfl (HOUT.out.alloc _) ⟨wr.heap.size, 0, none⟩ 1 1 (invCells c) rfl rfl (World.news_of_block (heap_alloc_new wr _)) (by simp [invCells, Value.oneCell']) (by decide) (by unfold maxLen; omega) (by omega) (Nat.zero_le _) _ rfl ?_; intro g capn w7 hown hgrow hat2 hlt; have HST8 := inv_arm HST.out HNO.out ((Chg.refl _ _).alloc _) hown hgrow hat2 (by simp); clear hown hgrow hat2 hlt))
          all_goals
            clear c11 l0 l1 l2
            go_wp2
            go_roundw
            case rel => first | exact ⟨k + 1, by omega, by go_num, by rw [HE.out]; exact HST8.out⟩ | exact ⟨k + 1, by omega, by go_num, by rw [HE.out]; exact HST8.out.chg0 ((Chg.refl _ _).drew)⟩
            case measure => simp [intOf]; omega
      · have hkN : k = N := by omega
        have HE := hide (show invL m ten = ofTen (m.charges.take k) ten by rw [E2.out, hkN, HN.out, List.take_length])
        clear hkN hcv HMW
        go_wp2
        go_ret2
        exact ⟨_, by rw [E1.out]; rfl, by rw [HE.out]; exact HST.out⟩
end Go.Proofs.YtminceigjejipabGreat

/-
  BALANCE IN THE REFERENCE.
-/
namespace Go.Proofs.YtminceigjejipabGreat
open Go.RowKit

/-- what has been charged is bounded, bid by bid -/
structure ChgOk (m : MkG) : Prop where
  len : m.charges.length ≤ 300
  cents : ∀ c ∈ m.charges, 0 ≤ c.cents ∧ c.cents ≤ 1048576
def sumC (l : List InvG) : Int := (l.map (·.cents)).sum
theorem sumC_snoc (l : List InvG) (c : InvG) : sumC (l ++ [c]) = sumC l + c.cents := by simp [sumC]
theorem sumC_le : ∀ (l : List InvG), (∀ c ∈ l, 0 ≤ c.cents ∧ c.cents ≤ 1048576) → 0 ≤ sumC l ∧ sumC l ≤ l.length * 1048576
  | [], _ => by simp [sumC]
  | c :: l, h => by
    have h1 := h c (by simp)
    have h2 := sumC_le l (fun x hx => h x (by simp [hx]))
    have : sumC (c :: l) = c.cents + sumC l := by simp [sumC]
    rw [this, List.length_cons]
    omega
def balV (m : MkG) (ten : Int) : Int := if m.tenB ten = false then 0 else m.paid.getD ten.toNat 0 - sumC (ofTen m.charges ten)

set_option maxRecDepth 100000 in
set_option maxHeartbeats 4000000 in
theorem balance_any (p : Nat) (V : MV) (m : MkG) (ten : Int) (w : World) (hm : MktAt w p V m) (hok : MkOk m) (hpo : PaidOk m) (hco : ChgOk m) :
    Calls Tryz.prog 55 #[.pointer (some ⟨p, 0, none⟩), .int .i64 ten] w fun e w' => e = .returned (.tuple #[.int .i64 (balV m ten), .int .i64 (invE m ten)]) ∧ Chg (fun _ => False) w w' := by
  have HM := hide hm
  have HOK := hide hok
  have HPO := hide hpo
  have HCO := hide hco
  clear hm hok hpo hco
  go_enter Tryz.func55, Tryz.ntmps55
  go_wp2_with fail
  refine (invoices_any p V m ten _ HM.out HCO.out.len).mono ?_
  rintro e w1 ⟨lv, rfl, hst⟩
  have HST := hide hst
  clear hst
  cases hT : m.tenB ten
  · have E1 := hide (show invE m ten = 3 by simp [invE, hT])
    have E2 := hide (show balV m ten = 0 by simp [balV, hT])
    rw [E1.out]
    clear hT
    go_wp2
    go_ret2
    exact ⟨by rw [E1.out, E2.out]; rfl, HST.out.chg⟩
  · have E1 := hide (show invE m ten = 0 by simp [invE, hT])
    obtain ⟨l, hl⟩ : ∃ l, l = ofTen m.charges ten := ⟨_, rfl⟩
    have hil : invL m ten = l := by simp [invL, hT, hl]
    rw [hil] at HST
    have hlc : ∀ c ∈ l, 0 ≤ c.cents ∧ c.cents ≤ 1048576 := fun c hc => HCO.out.cents c (by rw [hl] at hc; exact (List.mem_filter.1 hc).1)
    have hll : l.length ≤ 300 := by
      have := HCO.out.len
      have := List.length_filter_le (fun c : InvG => c.ten == ten) m.charges
      rw [hl]; unfold ofTen; omega
    rw [E1.out]
    obtain ⟨t0, t1⟩ := tenB_true hT
    have hnp := HOK.out.np
    obtain ⟨i, rfl⟩ := Int.eq_ofNat_of_zero_le t0
    have E2 := hide (show balV m i = m.paid.getD i 0 - sumC l by simp [balV, hT, hl])
    have HM1 := hide (HM.out.chg0 HST.out.chg)
    obtain ⟨ao, cap, hv, hel⟩ := HM1.out.paid_form
    have hin : i < m.paid.length := by omega
    obtain ⟨g, hao, hown, hcl, _⟩ := hel i hin
    subst hao
    have hin2 : (i : Int) < (m.paid.length : Int) := by omega
    have i0 : (0 : Int) ≤ (i : Int) := by omega
    have c10 : w1.cell? ⟨p, 10, none⟩ = some (.slice (some ⟨g, 0, none⟩) m.paid.length cap) := by rw [← hv]; exact HM1.out.cell 10
    have hcl' : w1.cell? ⟨g, i, none⟩ = some (.int .i64 (m.paid.getD i 0)) := hcl
    have hx := HPO.out (m.paid.getD i 0) (by simp [List.getD, List.getElem?_eq_getElem hin])
    have hll2 := HOK.out.nl
    have hx' : 0 ≤ m.paid.getD i 0 ∧ m.paid.getD i 0 ≤ 322122547200 := by omega
    obtain ⟨la, lc, hlv⟩ := ownsRow_form HST.out.own
    subst hlv
    have HLC := hide hlc
    obtain ⟨N, hN⟩ : ∃ N, N = l.length := ⟨_, rfl⟩
    have HN := hide hN
    rw [← hN] at hll HST ⊢
    clear hT hel hv hown hnp t0 t1 hcl hin hx hll2 hl hil hlc hN
    obtain ⟨P0, hP0⟩ : ∃ P0, P0 = m.paid.getD i 0 := ⟨_, rfl⟩
    have HP0 := hide hP0
    rw [← hP0] at hcl' hx'
    clear hP0
    generalize m.paid.length = np at *
    go_wp2
    go_loopw [8, 9] (fun x y wr => ∃ k : Nat, k ≤ N ∧ y = .int .i64 k ∧ x = .int .i64 (P0 - sumC (l.take k)) ∧ Chg (fun _ => False) w1 wr) (fun _ y _ => N - (intOf y).toNat)
    case atStart => exact ⟨0, by omega, rfl, by simp [sumC], Chg.refl _ _⟩
    case round =>
      obtain ⟨k, hk, rfl, rfl, hcr⟩ := hrel
      have HCR := hide hcr
      clear hcr c10 hcl'
      by_cases hlt : k < N
      · obtain ⟨c, hc⟩ : ∃ c, l[k]? = some c := ⟨_, List.getElem?_eq_getElem (by rw [← HN.out]; exact hlt)⟩
        have hro : wr.ownsRow 0 65 3 (.slice la N lc) l.length (l.flatMap invCells) := (HST.out.chg0 HCR.out).own
        obtain ⟨gc, ccap, hv, _, _, hcel⟩ := invRow_cell hro hc
        have hla : la = some ⟨gc, 0, none⟩ := by
          simp at hv
          exact hv.1
        subst hla
        have k0 : (0 : Int) ≤ (k : Int) := by omega
        have k1 : (k : Int) < (N : Int) := by omega
        have l2 : wr.cell? ⟨gc, k * 3 + 2, none⟩ = some (.int .i64 c.cents) := hcel 2 _ rfl
        have hs := sumC_le (l.take k) (fun x hx => HLC.out x (List.mem_of_mem_take hx))
        have hcc := HLC.out c (List.mem_of_getElem? hc)
        have htk : (l.take k).length ≤ 300 := by rw [List.length_take]; omega
        have HE := hide (show sumC (l.take (k + 1)) = sumC (l.take k) + c.cents by rw [take_snoc hc, sumC_snoc])
        have hs2 : 0 ≤ sumC (l.take k) ∧ sumC (l.take k) ≤ 314572800 := by omega
        clear hs htk hcel hv hro
        generalize sumC (l.take k) = S at *
        have hww : IntKind.i64.wrap (P0 - S - c.cents) = P0 - S - c.cents := by rw [IntKind.wrap_i64]; omega
        go_wp2
        go_roundw
        case rel => exact ⟨k + 1, by omega, by go_num, by rw [HE.out]; congr 1; omega, HCR.out⟩
        case measure => simp [intOf]; omega
      · have hkN : k = N := by omega
        have HE := hide (show P0 - sumC (l.take k) = balV m i by rw [E2.out, hkN, HN.out, List.take_length, HP0.out])
        generalize P0 - sumC (l.take k) = X at *
        clear hkN
        go_wp2
        go_ret2
        exact ⟨by rw [← HE.out, E1.out]; rfl, HST.out.chg.trans HCR.out (fun _ _ h => h)⟩
end Go.Proofs.YtminceigjejipabGreat

/-
  A BILL AS PLAIN FUNCTIONS; the market in the midst of it.
-/
namespace Go.Proofs.YtminceigjejipabGreat
open Go.RowKit

def callBill : CallG := ⟨6, 0, 0, 0, noJob, false⟩
def BidG.dueB (b : BidG) (time : Int) : Bool := (b.state == 2) && !b.charged && decide (b.job.dl - b.job.len < time)
def BidG.bill (b : BidG) (time : Int) : BidG := if b.dueB time = true then { b with charged := true } else b
def invOf (m : MkG) (b : BidG) : InvG := ⟨b.ten, b.ref, priceM m b.entry⟩
def dueL (m : MkG) (l : List BidG) : List InvG := (l.filter fun b => b.dueB m.time).map (invOf m)
def billL (m : MkG) : List InvG := dueL (m.logs callBill) m.bids
def billM (m : MkG) : MkG := { m.logs callBill with bids := m.bids.map fun b => b.bill m.time, charges := m.charges ++ billL m }

def billTo (l : List BidG) (k : Nat) (time : Int) : List BidG := l.mapIdx fun i b => if i < k then b.bill time else b
theorem billTo_get (l : List BidG) (k : Nat) (time : Int) : (billTo l k time)[k]? = l[k]? := by
  simp [billTo, List.getElem?_mapIdx]
theorem billTo_len (l : List BidG) (k : Nat) (time : Int) : (billTo l k time).length = l.length := by simp [billTo]
theorem billTo_zero (l : List BidG) (time : Int) : billTo l 0 time = l := by
  apply List.ext_getElem?
  intro i
  simp [billTo, List.getElem?_mapIdx]
theorem billTo_all (l : List BidG) (time : Int) : billTo l l.length time = l.map fun b => b.bill time := by
  apply List.ext_getElem?
  intro i
  rw [billTo, List.getElem?_mapIdx, List.getElem?_map]
  by_cases hi : i < l.length
  · rw [List.getElem?_eq_getElem hi]
    simp [hi]
  · rw [List.getElem?_eq_none (by omega)]
    rfl
theorem billTo_succ {l : List BidG} {k : Nat} {time : Int} {b : BidG} (hb : l[k]? = some b) : billTo l (k + 1) time = (billTo l k time).set k (b.bill time) := by
  apply List.ext_getElem?
  intro i
  rw [List.getElem?_set, billTo_len]
  have hk := (List.getElem?_eq_some_iff.1 hb).1
  by_cases e : k = i
  · subst e
    rw [if_pos rfl, if_pos hk, billTo, List.getElem?_mapIdx, hb]
    simp
  · rw [if_neg e, billTo, billTo, List.getElem?_mapIdx, List.getElem?_mapIdx]
    by_cases h : i < k
    · simp [h, show i < k + 1 by omega]
    · simp [h, show ¬ i < k + 1 by omega]
theorem billTo_same {l : List BidG} {k : Nat} {time : Int} {b : BidG} (hb : l[k]? = some b) (he : b.bill time = b) : billTo l (k + 1) time = billTo l k time := by
  rw [billTo_succ hb, he]
  apply List.ext_getElem?
  intro i
  rw [List.getElem?_set, billTo_len]
  by_cases e : k = i
  · subst e
    rw [if_pos rfl, if_pos (List.getElem?_eq_some_iff.1 hb).1, billTo_get, hb]
  · rw [if_neg e]
theorem BidOk.bill {c : CfgG} {b : BidG} (h : BidOk c b) (time : Int) : BidOk c (b.bill time) := by
  unfold BidG.bill
  split
  · exact ⟨h.t0, h.t1, h.r0, h.r1, h.job, h.a0, h.a1, h.s0, h.s1, h.st0, h.st1, h.e0, h.e1⟩
  · exact h
theorem MkOk.billTo {m : MkG} (h : MkOk m) (k : Nat) (time : Int) : MkOk { m with bids := billTo m.bids k time } := by
  refine ⟨h.ck, h.nu, h.ns, h.np, h.nl, by rw [billTo_len]; exact h.nb, h.t0, h.t1, h.un, fun b hb => ?_⟩
  obtain ⟨i, hi⟩ := List.getElem?_of_mem hb
  rw [Go.Proofs.YtminceigjejipabGreat.billTo, List.getElem?_mapIdx] at hi
  cases hx : m.bids[i]? with
  | none => rw [hx] at hi; simp at hi
  | some b0 =>
    rw [hx] at hi
    simp at hi
    have h0 := h.bid b0 (List.mem_of_getElem? hx)
    split at hi
    · rw [← hi]; exact h0.bill time
    · rw [← hi]; exact h0
theorem dueL_snoc {m : MkG} {l : List BidG} {k : Nat} {b : BidG} (h : l[k]? = some b) : dueL m (l.take (k + 1)) = dueL m (l.take k) ++ if b.dueB m.time = true then [invOf m b] else [] := by
  rw [take_snoc h, dueL, List.filter_append, List.map_append]
  congr 1
  by_cases e : b.dueB m.time = true
  · simp [e]
  · simp [e]
theorem dueL_len (m : MkG) (l : List BidG) : (dueL m l).length ≤ l.length := by
  rw [dueL, List.length_map]
  exact List.length_filter_le _ _

/-- in the midst of a Bill -/
structure BillSt (w1 : World) (p : Nat) (V : MV) (m : MkG) (out : List InvG) (ov : Value) (wr : World) : Prop where
  mkt : MktAt wr p V m
  out : wr.ownsRow 0 65 3 ov out.length (out.flatMap invCells)
  chg : Chg (V.foot p) w1 wr
  fl : ∀ k, V.foot p k → k < w1.heap.size
  ov : ∀ k, ov.ownBlock = some k → w1.heap.size ≤ k
section
variable {w1 wr w' : World} {p : Nat} {V : MV} {m : MkG} {out : List InvG} {ov : Value}
theorem BillSt.chg0 (h : BillSt w1 p V m out ov wr) (hc : Chg (fun _ => False) wr w') : BillSt w1 p V m out ov w' :=
  ⟨h.mkt.chg0 hc, ownsRow_keep h.out (fun k hk => hc.block k (h.out.lt k hk).2 (fun h => h)), h.chg.trans hc (fun _ _ h => h.elim), h.fl, h.ov⟩
theorem BillSt.bid (h : BillSt w1 p V m out ov wr) {i g r : Nat} {b b' : BidG} {u : Value} (hb : m.bids[i]? = some b) (hr : r < 12) (hg : V.bv.ownBlock = some g) (hc : bidCells b' = (bidCells b).set r u) :
    BillSt w1 p V { m with bids := m.bids.set i b' } out ov (wr.setCell ⟨g, i * 12 + r, none⟩ u) := by
  have hgf : V.foot p g := .inr (.inr (.inl hg))
  have hgl := h.fl g hgf
  have far : ∀ k, k ≠ g → (wr.setCell ⟨g, i * 12 + r, none⟩ u).heap[k]? = wr.heap[k]? := fun k hk => Below.heap_setCell _ _ _ _ hk
  exact ⟨h.mkt.setBid hb hr hg hc, ownsRow_keep h.out (fun k hk => far k (by have := h.ov k hk; omega)), h.chg.setCell (.inl hgf) _, h.fl, h.ov⟩
end
theorem bill_arm {w1 wr wa w3 : World} {p : Nat} {V : MV} {nn : Nat} {m : MkG} {out : List InvG} {ao : Option Addr} {cap cap' g H : Nat} {x : InvG} (h : BillSt w1 p V m out (.slice ao nn cap) wr) (hn : nn = out.length) (hc : Chg (fun _ => False) wr wa)
    (hown : w3.ownsRow 0 65 3 (.slice (some ⟨g, 0, none⟩) (nn + 1) cap') (nn + 1) (out.flatMap invCells ++ invCells x)) (hgrow : wa.grownBy w3 (Value.ownBlock (.slice ao nn cap))) (hat : Value.ownBlock (.slice ao nn cap) = some g ∨ g = H) (hH : wr.heap.size ≤ H) :
    Hid (BillSt w1 p V m (out ++ [x]) (.slice (some ⟨g, 0, none⟩) (nn + 1) cap') w3) := by
  subst hn
  have hc3 : Chg (fun k => Value.ownBlock (.slice ao out.length cap) = some k) wr w3 := (hc.mono (fun _ _ h => h.elim)).grown hgrow (fun k hk => .inl hk)
  have hs := h.chg.size
  refine ⟨h.mkt.chg hc3 (fun k hk e => by have := h.ov k e; have := h.fl k hk; omega), ?_, h.chg.trans hc3 (fun k hk e => by have := h.ov k e; omega), h.fl, ?_⟩
  · rw [List.length_append, List.flatMap_append]
    simp only [List.flatMap_cons, List.flatMap_nil, List.append_nil, List.length_cons, List.length_nil, Nat.zero_add]
    exact hown
  · intro k hk
    simp [Value.ownBlock] at hk
    subst hk
    rcases hat with e | e
    · exact h.ov g e
    · omega

/-- the charges grow by a list -/
theorem MktAt.chargeMore {w w2 : World} {p : Nat} {V : MV} {m : MkG} {out : List InvG} {g cap : Nat} (h : MktAt w p V m)
    (hown : w2.ownsRow 0 65 3 (.slice (some ⟨g, 0, none⟩) (m.charges.length + out.length) cap) (m.charges.length + out.length) (m.charges.flatMap invCells ++ out.flatMap invCells)) (hgrow : w.grownBy w2 V.cv.ownBlock) :
    w2.cell? ⟨p, 11, none⟩ = some V.cv ∧ w2.frozen? ⟨p, 11, none⟩ = false ∧ MktAt (w2.setCell ⟨p, 11, none⟩ (.slice (some ⟨g, 0, none⟩) (m.charges.length + out.length) cap)) p { V with cv := .slice (some ⟨g, 0, none⟩) (m.charges.length + out.length) cap } { m with charges := m.charges ++ out } ∧ Chg (V.foot p) w (w2.setCell ⟨p, 11, none⟩ (.slice (some ⟨g, 0, none⟩) (m.charges.length + out.length) cap)) := by
  have nl : V.cv.ownBlock ≠ some p := ownsRow_box h.charges h.box (by decide)
  have keep : ∀ k, V.foot p k → V.cv.ownBlock ≠ some k → w2.heap[k]? = w.heap[k]? := fun k hk hn => hgrow.block k (h.foot_lt k hk) (fun e => hn e.symm)
  have hb2 : w2.heap[p]? = some (.cells (mktBox V m) 87 (0, 0)) := (keep p (.inl rfl) nl).trans h.box
  refine ⟨by unfold World.cell?; rw [hb2]; rfl, by unfold World.frozen?; rw [hb2]; simp, ?_⟩
  have far : ∀ k, k ≠ p → (w2.setCell ⟨p, 11, none⟩ (.slice (some ⟨g, 0, none⟩) (m.charges.length + out.length) cap)).heap[k]? = w2.heap[k]? := fun k hk => Below.heap_setCell _ _ _ _ hk
  have ex : (mktBox V m).setIfInBounds 11 (.slice (some ⟨g, 0, none⟩) (m.charges.length + out.length) cap) = mktBox { V with cv := .slice (some ⟨g, 0, none⟩) (m.charges.length + out.length) cap } { m with charges := m.charges ++ out } := rfl
  have hgp : g ≠ p := by
    rintro rfl
    obtain ⟨cu, hc⟩ := ownsRow_block hown (k := g) rfl
    rw [hb2] at hc
    simp at hc
  have old : ∀ {e : TypeId} {size n : Nat} {v : Value} {xs : List Value}, w.ownsRow 0 e size v n xs → e ≠ 65 → e ≠ 87 → (∀ k, v.ownBlock = some k → V.foot p k) → (w2.setCell ⟨p, 11, none⟩ (.slice (some ⟨g, 0, none⟩) (m.charges.length + out.length) cap)).ownsRow 0 e size v n xs := by
    intro e size n v xs ho he he' hf
    refine ownsRow_keep ho (fun k hk => ?_)
    rw [far k (fun e => ownsRow_box ho h.box he' (e ▸ hk))]
    exact keep k (hf k hk) (ownsRow_apart ho h.charges he hk)
  refine ⟨⟨by rw [box_set hb2, ex], old h.units (by decide) (by decide) (fun k hk => .inr (.inl hk)), old h.bids (by decide) (by decide) (fun k hk => .inr (.inr (.inl hk))), old h.susp (by decide) (by decide) (fun k hk => .inr (.inr (.inr (.inl hk)))), old h.log (by decide) (by decide) (fun k hk => .inr (.inr (.inr (.inr (.inl hk))))),
    old h.paid (by decide) (by decide) (fun k hk => .inr (.inr (.inr (.inr (.inr (.inl hk)))))), ?_, h.ne⟩, ?_⟩
  · show (w2.setCell _ _).ownsRow 0 _ 3 _ (m.charges ++ out).length ((m.charges ++ out).flatMap invCells)
    rw [List.length_append, List.flatMap_append]
    exact ownsRow_keep hown (fun k hk => far k (fun e => by simp [Value.ownBlock] at hk; exact hgp (hk.trans e)))
  · exact ((Chg.refl (V.foot p) w).grown hgrow (fun k hk => .inl (.inr (.inr (.inr (.inr (.inr (.inr hk)))))))).setCell (.inl (.inl rfl)) _

/-- what a Bill leaves -/
def BillTo (w : World) (p : Nat) (V : MV) (out : List InvG) (m' : MkG) (ov : Value) (w' : World) : Prop :=
  ∃ V', MktAt w' p V' m' ∧ Chg (V.foot p) w w' ∧ (∀ k, V'.foot p k → V.foot p k ∨ w.heap.size ≤ k) ∧ w'.ownsRow 0 65 3 ov out.length (out.flatMap invCells) ∧ ∀ k, ov.ownBlock = some k → w.heap.size ≤ k ∧ ¬ V'.foot p k
theorem BillTo.after {w w1 w2 : World} {p : Nat} {V V1 : MV} {out : List InvG} {m2 : MkG} {ov : Value} (hc : Chg (V.foot p) w w1) (hf : ∀ k, V1.foot p k → V.foot p k ∨ w.heap.size ≤ k) (h : BillTo w1 p V1 out m2 ov w2) : BillTo w p V out m2 ov w2 := by
  obtain ⟨V', a1, a2, a3, a4, a5⟩ := h
  have hs := hc.size
  refine ⟨V', a1, hc.trans a2 (fun k hk h => ?_), fun k hk => ?_, a4, fun k hk => ⟨Nat.le_trans hs (a5 k hk).1, (a5 k hk).2⟩⟩
  · rcases hf k h with h | h
    · exact h
    · omega
  · rcases a3 k hk with h | h
    · exact hf k h
    · exact .inr (by omega)
theorem BillTo.chg0 {w w' w2 : World} {p : Nat} {V : MV} {out : List InvG} {m2 : MkG} {ov : Value} (h : BillTo w p V out m2 ov w') (hc : Chg (fun _ => False) w' w2) : BillTo w p V out m2 ov w2 := by
  obtain ⟨V', a1, a2, a3, a4, a5⟩ := h
  exact ⟨V', a1.chg0 hc, a2.trans hc (fun _ _ h => h.elim), a3, ownsRow_keep a4 (fun k hk => hc.block k (a4.lt k hk).2 (fun h => h)), a5⟩
/-- nothing was due -/
theorem bill_none {w1 wr : World} {p : Nat} {V : MV} {m : MkG} (h : BillSt w1 p V m [] (.slice none 0 0) wr) :
    BillTo w1 p V [] { m with charges := m.charges ++ [] } (.slice none 0 0) (wr.setCell ⟨p, 11, none⟩ V.cv) := by
  refine ⟨V, ?_, h.chg.setCell (.inl (.inl rfl)) _, fun k hk => .inl hk, World.ownsRow_nil _ _ _ _, fun k hk => by simp [Value.ownBlock] at hk⟩
  exact h.mkt.setBoxV (f := 11) (m' := { m with charges := m.charges ++ [] }) rfl rfl rfl rfl rfl rfl (by simp)
/-- the list is charged -/
theorem bill_end {w1 wr w2 : World} {p : Nat} {V : MV} {m : MkG} {out : List InvG} {ao : Option Addr} {ov : Value} {nc nn cap cap' g H : Nat} (h : BillSt w1 p V m out ov wr) (hn : nn = out.length) (hnc : nc = m.charges.length) (hv : V.cv = .slice ao nc cap)
    (hown : w2.ownsRow 0 65 3 (.slice (some ⟨g, 0, none⟩) (nc + nn) cap') (nc + nn) (m.charges.flatMap invCells ++ out.flatMap invCells)) (hgrow : wr.grownBy w2 (Value.ownBlock (.slice ao nc cap))) (hat : Value.ownBlock (.slice ao nc cap) = some g ∨ g = H) (hH : wr.heap.size = H) :
    w2.cell? ⟨p, 11, none⟩ = some (.slice ao nc cap) ∧ w2.frozen? ⟨p, 11, none⟩ = false ∧ Hid (BillTo w1 p V out { m with charges := m.charges ++ out } ov (w2.setCell ⟨p, 11, none⟩ (.slice (some ⟨g, 0, none⟩) (nc + nn) cap'))) := by
  subst hn hnc
  rw [← hv] at hgrow hat ⊢
  obtain ⟨c1, c2, c3, c4⟩ := h.mkt.chargeMore hown hgrow
  have hs := h.chg.size
  have hovn : ∀ k, ov.ownBlock = some k → ¬ V.foot p k := fun k hk hf => by have := h.ov k hk; have := h.fl k hf; omega
  refine ⟨c1, c2, ⟨_, c3, h.chg.trans c4 (fun _ _ h => h), fun k hk => ?_, ?_, fun k hk => ⟨h.ov k hk, fun hf => ?_⟩⟩⟩
  · rcases hk with rfl | hk | hk | hk | hk | hk | hk
    · exact .inl (.inl rfl)
    · exact .inl (.inr (.inl hk))
    · exact .inl (.inr (.inr (.inl hk)))
    · exact .inl (.inr (.inr (.inr (.inl hk))))
    · exact .inl (.inr (.inr (.inr (.inr (.inl hk)))))
    · exact .inl (.inr (.inr (.inr (.inr (.inr (.inl hk))))))
    · simp [Value.ownBlock] at hk
      subst hk
      rcases hat with h | h
      · exact .inl (.inr (.inr (.inr (.inr (.inr (.inr h))))))
      · exact .inr (by omega)
  · exact ownsRow_keep h.out (fun k hk => c4.block k (h.out.lt k hk).2 (hovn k hk))
  · have hn := hovn k hk
    have hlt := (h.out.lt k hk).2
    rcases hf with rfl | hf | hf | hf | hf | hf | hf
    · exact hn (.inl rfl)
    · exact hn (.inr (.inl hf))
    · exact hn (.inr (.inr (.inl hf)))
    · exact hn (.inr (.inr (.inr (.inl hf))))
    · exact hn (.inr (.inr (.inr (.inr (.inl hf)))))
    · exact hn (.inr (.inr (.inr (.inr (.inr (.inl hf))))))
    · simp [Value.ownBlock] at hf
      subst hf
      rcases hat with h | h
      · exact hn (.inr (.inr (.inr (.inr (.inr (.inr h))))))
      · omega
end Go.Proofs.YtminceigjejipabGreat

/-
  A MARKET AND THE REPLAY OF ITS LOG: they are one but for what has been charged and paid; what has won is charged between 1 and its value. Nothing of the program.
-/
namespace Go.Proofs.YtminceigjejipabGreat

def unc (b : BidG) : BidG := { b with charged := false }
theorem unc_expire (b : BidG) (now : Int) : (unc b).expire now = unc (b.expire now) := by
  have e : ((unc b).state == 1 && decide ((unc b).job.dl < now + (unc b).job.len)) = (b.state == 1 && decide (b.job.dl < now + b.job.len)) := rfl
  unfold BidG.expire
  rw [e]
  split <;> rfl
theorem unc_bill (b : BidG) (time : Int) : unc (b.bill time) = unc b := by
  unfold BidG.bill
  split <;> rfl
/-- R is m with nothing charged and nothing paid -/
structure HistM (m R : MkG) : Prop where
  c : R.c = m.c
  time : R.time = m.time
  units : R.units = m.units
  susp : R.susp = m.susp
  log : R.log = m.log
  bids : R.bids = m.bids.map unc
  gm : m.ghost = -1
  rg : R.ghost = -1

section
variable {m R : MkG}
theorem HistM.get (h : HistM m R) (i : Nat) : R.bids[i]? = (m.bids[i]?).map unc := by rw [h.bids, List.getElem?_map]
theorem HistM.used (h : HistM m R) (t : Int) : usedL R.bids t = usedL m.bids t := by
  rw [h.bids]
  unfold usedL
  rw [List.map_map]
  rfl
theorem HistM.free (h : HistM m R) (t : Int) : freeV R t = freeV m t := by
  unfold freeV
  rw [h.c, h.units, h.used]
theorem HistM.fits (h : HistM m R) (b : BidG) (t : Int) : fitsB R (unc b) t = fitsB m b t := by
  unfold fitsB
  show (List.range b.job.len.toNat).all _ = _
  congr 1
  funext s
  rw [h.free]
  rfl
theorem HistM.cand (h : HistM m R) (b : BidG) (t : Int) : candB R t (unc b) = candB m t b := by
  unfold candB BidG.openB suspAt
  rw [h.susp, h.gm, h.rg]
  rfl
theorem HistM.find (h : HistM m R) (ten ref : Int) : findZ R.bids ten ref = findZ m.bids ten ref := by
  unfold findZ findL
  rw [h.bids, List.findIdx?_map]
  rfl
theorem HistM.pend (h : HistM m R) (ten : Int) : pendL R.bids ten = pendL m.bids ten := by
  unfold pendL
  rw [h.bids, List.countP_map]
  rfl
theorem HistM.tenB (h : HistM m R) (k : Int) : R.tenB k = m.tenB k := by unfold MkG.tenB; rw [h.c]
theorem HistM.state (h : HistM m R) (i : Int) : stateAt R i = stateAt m i := by
  unfold stateAt
  rw [h.get]
  cases m.bids[i.toNat]? <;> rfl
theorem HistM.logs (h : HistM m R) (c : CallG) : HistM (m.logs c) (R.logs c) :=
  ⟨h.c, h.time, h.units, h.susp, by simp [MkG.logs, h.log], h.bids, h.gm, h.rg⟩
theorem HistM.submit (h : HistM m R) (ten ref : Int) (j : JobG) : HistM (submitM m ten ref j) (submitM R ten ref j) := by
  have hE : submitE R ten ref j = submitE m ten ref j := by
    unfold submitE refB suspAt MkG.jobB
    rw [h.tenB, h.susp, h.find, h.pend, h.c, h.time]
  have hl := h.logs (callSubmit ten ref j)
  unfold submitM
  simp only [hE]
  split
  · refine ⟨hl.c, hl.time, hl.units, hl.susp, hl.log, ?_, hl.gm, hl.rg⟩
    show R.bids ++ [newBid R ten ref j] = (m.bids ++ [newBid m ten ref j]).map unc
    rw [List.map_append, ← h.bids]
    congr 1
    simp only [List.map_cons, List.map_nil, newBid, unc, h.time, h.log]
  · exact hl
theorem HistM.cancel (h : HistM m R) (ten ref : Int) : HistM (cancelM m ten ref) (cancelM R ten ref) := by
  have hE : cancelE R ten ref = cancelE m ten ref := by
    unfold cancelE
    rw [h.tenB, h.find, h.state]
  have hl := h.logs (callCancel ten ref)
  unfold cancelM
  simp only [hE, h.find]
  split
  · refine ⟨hl.c, hl.time, hl.units, hl.susp, hl.log, ?_, hl.gm, hl.rg⟩
    show setState R.bids _ 3 = (setState m.bids _ 3).map unc
    unfold setState
    rw [h.get]
    cases hb : m.bids[(findZ m.bids ten ref).toNat]? with
    | none => exact h.bids
    | some b =>
      simp only [Option.map_some]
      rw [List.map_set, h.bids]
      rfl
  · exact hl
theorem HistM.suspend (h : HistM m R) (ten : Int) (on : Bool) : HistM (suspendM m ten on) (suspendM R ten on) := by
  have hE : suspendE R ten = suspendE m ten := by
    unfold suspendE
    rw [h.tenB]
  have hl := h.logs (callSuspend ten on)
  unfold suspendM
  simp only [hE]
  split
  · exact ⟨hl.c, hl.time, hl.units, by show R.susp.set _ _ = m.susp.set _ _; rw [h.susp], hl.log, hl.bids, hl.gm, hl.rg⟩
  · exact hl
theorem HistM.cap (h : HistM m R) (f t u : Int) : HistM (capM m f t u) (capM R f t u) := by
  have hA : capArg R f t u = capArg m f t u := by
    unfold capArg
    rw [h.time, h.c]
  have hB : capB R f t u = capB m f t u := by
    unfold capB
    congr 1
    funext s
    rw [h.used]
  have hl := h.logs (callCapacity f t u)
  unfold capM
  rw [hA, hB]
  split
  · exact hl
  · split
    · exact ⟨hl.c, hl.time, by show (List.range R.units.length).map _ = (List.range m.units.length).map _; rw [h.units], hl.susp, hl.log, hl.bids, hl.gm, hl.rg⟩
    · exact hl
theorem HistM.start (h : HistM m R) (i : Nat) (t : Int) : HistM (startM m i t) (startM R i t) := by
  unfold startM
  rw [h.get]
  cases hb : m.bids[i]? with
  | none => exact h
  | some b =>
    refine ⟨h.c, h.time, h.units, h.susp, h.log, ?_, h.gm, h.rg⟩
    show R.bids.set i { unc b with state := 2, start := t } = (m.bids.set i { b with state := 2, start := t }).map unc
    rw [List.map_set, h.bids]
    rfl
theorem HistM.one (h : HistM m R) (t : Int) (o o' : List (Int × Int)) (i : Nat) : HistM (tickOne t none (m, o) i).1 (tickOne t none (R, o') i).1 := by
  unfold tickOne
  simp only
  rw [h.get]
  cases hb : m.bids[i]? with
  | none => exact h
  | some b =>
    simp only [Option.map_some]
    rw [h.fits, h.c, show (unc b).winB m.c.res = b.winB m.c.res from rfl]
    split
    · exact h.start i t
    · exact h
theorem HistM.fold (t : Int) : ∀ (l : List Nat) (s s' : TkS), HistM s.1 s'.1 → HistM (l.foldl (tickOne t none) s).1 (l.foldl (tickOne t none) s').1
  | [], _, _, h => h
  | i :: l, s, s', h => HistM.fold t l _ _ (h.one t s.2 s'.2 i)
theorem HistM.ahead (h : HistM m R) (i k : Nat) : aheadI R.bids i k = aheadI m.bids i k := by
  unfold aheadI
  rw [h.get, h.get]
  cases m.bids[i]? <;> cases m.bids[k]? <;> rfl
theorem HistM.order (h : HistM m R) (t : Int) {l : List Nat} (hl : IsOrder m t l) : IsOrder R t l := by
  refine ⟨fun i => ?_, ?_⟩
  · rw [hl.mem, h.get]
    constructor
    · rintro ⟨b, hb, hc⟩
      exact ⟨unc b, by rw [hb]; rfl, by rw [h.cand]; exact hc⟩
    · rintro ⟨b, hb, hc⟩
      cases hx : m.bids[i]? with
      | none => rw [hx] at hb; cases hb
      | some b0 =>
        rw [hx] at hb
        obtain rfl := Option.some.inj hb
        exact ⟨b0, rfl, by rw [← h.cand]; exact hc⟩
  · have : (fun i k => aheadI R.bids i k = true) = fun i k => aheadI m.bids i k = true := by
      funext i k
      rw [h.ahead]
    rw [this]
    exact hl.sorted
theorem HistM.tick (h : HistM m R) (hok : MkOk m) (hor : MkOk R) (hl : m.log.length < 300) : HistM (tickF m) (tickF R) := by
  unfold tickF
  rw [h.c, h.time]
  split
  · exact h.logs callTick
  · have ho := orderL_is (m := m) (t := m.time) hok.sizes
    have hoR := h.order m.time ho
    have e1 : orderL R m.time = orderL m m.time := (orderL_is (m := R) (t := m.time) hor.sizes).unique hoR
    have g1 : ghostI (m.logs callTick) m.time = none := ghostI_none (hok.logs hl callTick) h.gm m.time
    have g2 : ghostI (R.logs callTick) m.time = none := ghostI_none (hor.logs (by rw [h.log]; exact hl) callTick) h.rg m.time
    unfold tickM
    simp only [h.time, g1, g2, e1, wantEnd]
    have hf := HistM.fold m.time (orderL m m.time) (m.logs callTick, []) (R.logs callTick, []) (h.logs callTick)
    show HistM (tickEnd m.time (tickFold m.time none (m.logs callTick) (orderL m m.time)).1) (tickEnd m.time (tickFold m.time none (R.logs callTick) (orderL m m.time)).1)
    unfold tickFold
    refine ⟨hf.c, rfl, hf.units, hf.susp, hf.log, ?_, hf.gm, hf.rg⟩
    unfold tickEnd
    simp only
    rw [hf.bids, List.map_map, List.map_map]
    apply List.map_congr_left
    intro b _
    exact unc_expire b _
theorem HistM.bill (h : HistM m R) : HistM (billM m) (R.logs callBill) := by
  have hl := h.logs callBill
  refine ⟨hl.c, hl.time, hl.units, hl.susp, hl.log, ?_, hl.gm, hl.rg⟩
  show R.bids = (m.bids.map fun b => b.bill m.time).map unc
  rw [h.bids, List.map_map]
  apply List.map_congr_left
  intro b _
  exact (unc_bill b _).symm
theorem HistM.pay (h : HistM m R) (ten cents : Int) : HistM (payM m ten cents) (R.logs (callPay ten cents)) := by
  have hl := h.logs (callPay ten cents)
  unfold payM
  simp only
  split
  · exact ⟨hl.c, hl.time, hl.units, hl.susp, hl.log, hl.bids, hl.gm, hl.rg⟩
  · exact hl
end
end Go.Proofs.YtminceigjejipabGreat
