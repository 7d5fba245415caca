import Derived.Test.YtminceigjejipabG3
import Derived.Test.YtminceigjejipabG1
namespace Go.Proofs.Ytminceigjejipab
open Go.RowKit

theorem two_set {w : World} {q : Nat} {x y a b : Value} {T : TypeId} (h : w.heap[q]? = some (.cells #[x, y] T (0, 0))) :
    ((w.setCell ⟨q, 0, none⟩ a).setCell ⟨q, 1, none⟩ b).cell? ⟨q, 0, none⟩ = some a ∧ ((w.setCell ⟨q, 0, none⟩ a).setCell ⟨q, 1, none⟩ b).cell? ⟨q, 1, none⟩ = some b := by
  have h2 := box_set (f := 1) (box_set (f := 0) h a) b
  constructor
  · unfold World.cell?; rw [h2]; rfl
  · unfold World.cell?; rw [h2]; rfl

end Go.Proofs.Ytminceigjejipab

namespace Go.Proofs.Ytminceigjejipab
open Go.RowKit

theorem freeV_range {m : MkG} (hok : MkOk m) (t : Int) : -300000 ≤ freeV m t ∧ freeV m t ≤ 100000 := by
  unfold freeV
  split
  · omega
  · rename_i h
    have hnu := hok.nu
    have hcf := cfgOk_true hok.ck
    have hi : t.toNat < m.units.length := by omega
    have hu := hok.un (m.units.getD t.toNat 0) (by simp [List.getD, List.getElem?_eq_getElem hi])
    have hus := usedL_le m.c t m.bids hok.bid
    have hbl := hok.bl
    omega

theorem fitsB_iff {m : MkG} {b : BidG} {t : Int} : fitsB m b t = true ↔ ∀ s : Nat, (s : Int) < b.job.len → b.job.units ≤ freeV m (t + s) := by
  simp only [fitsB, List.all_eq_true, List.mem_range, decide_eq_true_eq]
  constructor
  · intro h s hs
    exact h s (by omega)
  · intro h s hs
    exact h s (by omega)

theorem nextGo_lt (m : MkG) (t : Int) (lk : Nat → Bool) : ∀ k, -1 ≤ nextGo m t lk k ∧ nextGo m t lk k < (k : Int)
  | 0 => by simp [nextGo]
  | k + 1 => by
    have ih := nextGo_lt m t lk k
    unfold nextGo
    simp only
    split
    · split
      · omega
      · omega
    · omega
theorem nextGo_succ {m : MkG} {t : Int} {lk : Nat → Bool} {k : Nat} {b : BidG} (hb : m.bids[k]? = some b) : nextGo m t lk (k + 1) = if candB m t b && !lk k && (decide (nextGo m t lk k < 0) || aheadI m.bids k (nextGo m t lk k).toNat) then (k : Int) else nextGo m t lk k := by
  rw [nextGo]
  simp only [hb]

/-- a list of marks in memory -/
def LkAt (w : World) (lv : Value) (n : Nat) (lk : Nat → Bool) : Prop := ∃ ao cap, lv = .slice ao n cap ∧ ∀ j, j < n → ∃ g, ao = some ⟨g, 0, none⟩ ∧ g < w.heap.size ∧ w.cell? ⟨g, j, none⟩ = some (.bool (lk j)) ∧ w.frozen? ⟨g, j, none⟩ = false

theorem LkAt.chg0 {w w' : World} {lv : Value} {n : Nat} {lk : Nat → Bool} (h : LkAt w lv n lk) (hc : Chg (fun _ => False) w w') : LkAt w' lv n lk := by
  obtain ⟨ao, cap, hv, h⟩ := h
  refine ⟨ao, cap, hv, fun j hj => ?_⟩
  obtain ⟨g, h1, h2, h3, h4⟩ := h j hj
  exact ⟨g, h1, Nat.lt_of_lt_of_le h2 hc.size, by rw [hc.cell (by exact h2) (fun h => h)]; exact h3, by rw [hc.frozen (by exact h2) (fun h => h)]; exact h4⟩
end Go.Proofs.Ytminceigjejipab

/-
  THE ORDER THAT 'next' TAKES IS THE ORDER. Nothing of the program.
-/
namespace Go.Proofs.Ytminceigjejipab

theorem cross_le {av sa bv sb cv sc : Int} (h1 : 0 < sa) (h2 : 0 < sb) (h3 : 0 < sc) (hab : bv * sa ≤ av * sb) (hbc : cv * sb ≤ bv * sc) : cv * sa ≤ av * sc := by
  have e1 : sa * (cv * sb) ≤ sa * (bv * sc) := Int.mul_le_mul_of_nonneg_left hbc (by omega)
  have e2 : sc * (bv * sa) ≤ sc * (av * sb) := Int.mul_le_mul_of_nonneg_left hab (by omega)
  have r1 : sa * (cv * sb) = sb * (cv * sa) := by simp only [Int.mul_comm, Int.mul_left_comm]
  have r2 : sa * (bv * sc) = sc * (bv * sa) := by simp only [Int.mul_comm, Int.mul_left_comm]
  have r3 : sc * (av * sb) = sb * (av * sc) := by simp only [Int.mul_comm, Int.mul_left_comm]
  have : sb * (cv * sa) ≤ sb * (av * sc) := by omega
  exact Int.le_of_mul_le_mul_left this h2
theorem cross_lt {av sa bv sb cv sc : Int} (h1 : 0 < sa) (h2 : 0 < sb) (h3 : 0 < sc) (hab : bv * sa ≤ av * sb) (hbc : cv * sb ≤ bv * sc) (hs : bv * sa < av * sb ∨ cv * sb < bv * sc) : cv * sa < av * sc := by
  have e1 : sa * (cv * sb) ≤ sa * (bv * sc) := Int.mul_le_mul_of_nonneg_left hbc (by omega)
  have e2 : sc * (bv * sa) ≤ sc * (av * sb) := Int.mul_le_mul_of_nonneg_left hab (by omega)
  have r1 : sa * (cv * sb) = sb * (cv * sa) := by simp only [Int.mul_comm, Int.mul_left_comm]
  have r2 : sa * (bv * sc) = sc * (bv * sa) := by simp only [Int.mul_comm, Int.mul_left_comm]
  have r3 : sc * (av * sb) = sb * (av * sc) := by simp only [Int.mul_comm, Int.mul_left_comm]
  have : sb * (cv * sa) < sb * (av * sc) := by
    rcases hs with h | h
    · have := Int.mul_lt_mul_of_pos_left h h3
      omega
    · have := Int.mul_lt_mul_of_pos_left h h1
      omega
  exact Int.lt_of_mul_lt_mul_left this (by omega)

theorem aheadJ_iff {a b : JobG} {i k : Nat} : aheadJ a b i k = true ↔ (b.val * sizeJ a < a.val * sizeJ b ∨ (a.val * sizeJ b = b.val * sizeJ a ∧ i < k)) := by
  simp [aheadJ]
theorem aheadJ_trans {a b c : JobG} {i k l : Nat} (h1 : 0 < sizeJ a) (h2 : 0 < sizeJ b) (h3 : 0 < sizeJ c) (hab : aheadJ a b i k = true) (hbc : aheadJ b c k l = true) : aheadJ a c i l = true := by
  rw [aheadJ_iff] at hab hbc ⊢
  rcases hab with hab | ⟨hab, hik⟩ <;> rcases hbc with hbc | ⟨hbc, hkl⟩
  · exact .inl (cross_lt h1 h2 h3 (by omega) (by omega) (.inl hab))
  · exact .inl (cross_lt h1 h2 h3 (by omega) (by omega) (.inl hab))
  · exact .inl (cross_lt h1 h2 h3 (by omega) (by omega) (.inr hbc))
  · have e1 := cross_le (av := a.val) (sa := sizeJ a) (bv := b.val) (sb := sizeJ b) (cv := c.val) (sc := sizeJ c) h1 h2 h3 (by omega) (by omega)
    have e2 := cross_le (av := c.val) (sa := sizeJ c) (bv := b.val) (sb := sizeJ b) (cv := a.val) (sc := sizeJ a) h3 h2 h1 (by omega) (by omega)
    exact .inr ⟨by omega, by omega⟩
theorem aheadJ_total {a b : JobG} {i k : Nat} (h : i ≠ k) : aheadJ a b i k = true ∨ aheadJ b a k i = true := by
  rw [aheadJ_iff, aheadJ_iff]
  omega

/-- every job has a size -/
def SizesOk (l : List BidG) : Prop := ∀ b ∈ l, 0 < sizeJ b.job
theorem MkOk.sizes {m : MkG} (h : MkOk m) : SizesOk m.bids := fun b hb => by
  have := sizeJ_pos (h.bid b hb).job (cfgOk_true h.ck).1.2
  omega
theorem aheadI_trans {l : List BidG} (hl : SizesOk l) {i k j : Nat} (h1 : aheadI l i k = true) (h2 : aheadI l k j = true) : aheadI l i j = true := by
  obtain ⟨a, b, ha, hb, hj⟩ := aheadI_some h1
  obtain ⟨b', c, hb', hc, hj'⟩ := aheadI_some h2
  rw [hb] at hb'
  obtain rfl := Option.some.inj hb'
  rw [aheadI_eq0 ha hc]
  exact aheadJ_trans (hl a (List.mem_of_getElem? ha)) (hl b (List.mem_of_getElem? hb)) (hl c (List.mem_of_getElem? hc)) hj hj'
where
  aheadI_eq0 {l : List BidG} {i k : Nat} {a b : BidG} (ha : l[i]? = some a) (hb : l[k]? = some b) : aheadI l i k = aheadJ a.job b.job i k := by
    unfold aheadI
    rw [ha, hb]
theorem aheadI_total {l : List BidG} {i k : Nat} {a b : BidG} (ha : l[i]? = some a) (hb : l[k]? = some b) (h : i ≠ k) : aheadI l i k = true ∨ aheadI l k i = true := by
  unfold aheadI
  rw [ha, hb]
  exact aheadJ_total h

/-- what nextGo tells -/
def IsBest (m : MkG) (t : Int) (lk : Nat → Bool) (n : Nat) (z : Int) : Prop :=
  (z = -1 ∧ ∀ k b, k < n → m.bids[k]? = some b → candB m t b = true → lk k = true) ∨
  (∃ i : Nat, z = i ∧ i < n ∧ (∃ b, m.bids[i]? = some b ∧ candB m t b = true) ∧ lk i = false ∧ ∀ k b, k < n → m.bids[k]? = some b → candB m t b = true → lk k = false → k ≠ i → aheadI m.bids i k = true)
theorem nextGo_best {m : MkG} {t : Int} {lk : Nat → Bool} (hs : SizesOk m.bids) : ∀ n, IsBest m t lk n (nextGo m t lk n)
  | 0 => .inl ⟨rfl, fun k b h => by omega⟩
  | n + 1 => by
    have ih := nextGo_best (t := t) (lk := lk) hs n
    cases hb : m.bids[n]? with
    | none =>
      have e : nextGo m t lk (n + 1) = nextGo m t lk n := by rw [nextGo]; simp only [hb]
      rw [e]
      rcases ih with ⟨h1, h2⟩ | ⟨i, h1, h2, h3, h4, h5⟩
      · exact .inl ⟨h1, fun k b hk hkb => h2 k b (by rcases Nat.lt_succ_iff_lt_or_eq.1 hk with h | h; exact h; subst h; rw [hb] at hkb; cases hkb) hkb⟩
      · exact .inr ⟨i, h1, by omega, h3, h4, fun k b hk hkb => h5 k b (by rcases Nat.lt_succ_iff_lt_or_eq.1 hk with h | h; exact h; subst h; rw [hb] at hkb; cases hkb) hkb⟩
    | some b =>
      rw [nextGo_succ hb]
      by_cases hc : (candB m t b && !lk n) = true
      · simp only [Bool.and_eq_true, Bool.not_eq_true'] at hc
        rcases ih with ⟨h1, h2⟩ | ⟨i, h1, h2, h3, h4, h5⟩
        · rw [if_pos (by simp [hc.1, hc.2, h1])]
          refine .inr ⟨n, rfl, by omega, ⟨b, hb, hc.1⟩, hc.2, fun k b' hk hkb hkc hkl hne => ?_⟩
          rw [h2 k b' (by omega) hkb hkc] at hkl
          cases hkl
        · rw [h1]
          have hin : ¬ ((i : Int) < 0) := by omega
          cases ha : aheadI m.bids n i
          · rw [if_neg (by simp [hin, ha])]
            refine .inr ⟨i, rfl, by omega, h3, h4, fun k b' hk hkb hkc hkl hne => ?_⟩
            by_cases e : k < n
            · exact h5 k b' e hkb hkc hkl hne
            · obtain rfl : k = n := by omega
              obtain ⟨bi, hbi, _⟩ := h3
              rcases aheadI_total hbi hkb (fun e => hne e.symm) with h | h
              · exact h
              · rw [ha] at h; cases h
          · rw [if_pos (by simp [hc.1, hc.2, ha])]
            refine .inr ⟨n, rfl, by omega, ⟨b, hb, hc.1⟩, hc.2, fun k b' hk hkb hkc hkl hne => ?_⟩
            by_cases e : k = i
            · subst e; exact ha
            · exact aheadI_trans hs ha (h5 k b' (by omega) hkb hkc hkl e)
      · have hc' : (candB m t b && !lk n) = false := by simpa using hc
        rw [if_neg (by simp only [Bool.and_eq_true, not_and]; intro h; rw [Bool.and_eq_true] at hc; exact absurd (by simpa using h) hc)]
        rcases ih with ⟨h1, h2⟩ | ⟨i, h1, h2, h3, h4, h5⟩
        · refine .inl ⟨h1, fun k b' hk hkb hkc => ?_⟩
          by_cases e : k < n
          · exact h2 k b' e hkb hkc
          · obtain rfl : k = n := by omega
            rw [hb] at hkb
            obtain rfl := Option.some.inj hkb
            rw [hkc] at hc'
            simpa using hc'
        · refine .inr ⟨i, h1, by omega, h3, h4, fun k b' hk hkb hkc hkl hne => ?_⟩
          by_cases e : k < n
          · exact h5 k b' e hkb hkc hkl hne
          · obtain rfl : k = n := by omega
            rw [hb] at hkb
            obtain rfl := Option.some.inj hkb
            rw [hkc, hkl] at hc'
            cases hc'

/-- markets that differ in what has become of the bids of 'done', and in 'need' -/
structure AlikeM (m m' : MkG) (done : List Nat) : Prop where
  c : m'.c = m.c
  time : m'.time = m.time
  units : m'.units = m.units
  susp : m'.susp = m.susp
  log : m'.log = m.log
  paid : m'.paid = m.paid
  charges : m'.charges = m.charges
  ghost : m'.ghost = m.ghost
  len : m'.bids.length = m.bids.length
  bid : ∀ k : Nat, k ∉ done → m'.bids[k]? = m.bids[k]?
  job : ∀ k : Nat, (m'.bids[k]?).map BidG.job = (m.bids[k]?).map BidG.job

theorem AlikeM.refl (m : MkG) (done : List Nat) : AlikeM m m done := ⟨rfl, rfl, rfl, rfl, rfl, rfl, rfl, rfl, rfl, fun _ _ => rfl, fun _ => rfl⟩
theorem AlikeM.mono {m m' : MkG} {d d' : List Nat} (h : AlikeM m m' d) (hd : ∀ i ∈ d, i ∈ d') : AlikeM m m' d' :=
  ⟨h.c, h.time, h.units, h.susp, h.log, h.paid, h.charges, h.ghost, h.len, fun k hk => h.bid k (fun hx => hk (hd k hx)), h.job⟩
theorem AlikeM.ahead {m m' : MkG} {d : List Nat} (h : AlikeM m m' d) (i k : Nat) : aheadI m'.bids i k = aheadI m.bids i k := by
  have hi := h.job i
  have hk := h.job k
  unfold aheadI
  cases h1 : m'.bids[i]? <;> cases h2 : m.bids[i]? <;> rw [h1, h2] at hi <;> try (simp at hi; done)
  simp only [Option.map_some, Option.some.injEq] at hi
  cases h3 : m'.bids[k]? <;> cases h4 : m.bids[k]? <;> rw [h3, h4] at hk <;> try (simp at hk; done)
  simp only [Option.map_some, Option.some.injEq] at hk
  simp [hi, hk]
theorem AlikeM.cand {m m' : MkG} {d : List Nat} (h : AlikeM m m' d) (t : Int) (b : BidG) : candB m' t b = candB m t b := by
  unfold candB BidG.openB suspAt
  rw [h.susp, h.ghost]
theorem AlikeM.next {m m' : MkG} {d : List Nat} (h : AlikeM m m' d) (t : Int) (lk : Nat → Bool) (hl : ∀ i ∈ d, lk i = true) : ∀ n, nextGo m' t lk n = nextGo m t lk n
  | 0 => rfl
  | n + 1 => by
    have ih := AlikeM.next h t lk hl n
    rw [nextGo, nextGo]
    simp only [ih]
    by_cases hn : n ∈ d
    · have := hl n hn
      cases h1 : m'.bids[n]? <;> cases h2 : m.bids[n]? <;> simp [this]
    · rw [h.bid n hn]
      cases h2 : m.bids[n]?
      · rfl
      · simp only [h.cand, h.ahead]
theorem AlikeM.trans {m m' m2 : MkG} {d : List Nat} (h : AlikeM m m' d) (h' : AlikeM m' m2 d) : AlikeM m m2 d :=
  ⟨h'.c.trans h.c, h'.time.trans h.time, h'.units.trans h.units, h'.susp.trans h.susp, h'.log.trans h.log, h'.paid.trans h.paid, h'.charges.trans h.charges, h'.ghost.trans h.ghost, h'.len.trans h.len, fun k hk => (h'.bid k hk).trans (h.bid k hk), fun k => (h'.job k).trans (h.job k)⟩
theorem AlikeM.start (m : MkG) (i : Nat) (t : Int) : AlikeM m (startM m i t) [i] := by
  unfold startM
  cases hb : m.bids[i]? with
  | none => exact AlikeM.refl _ _
  | some b =>
    refine ⟨rfl, rfl, rfl, rfl, rfl, rfl, rfl, rfl, by simp, fun k hk => ?_, fun k => ?_⟩
    · simp only [List.mem_singleton] at hk
      simp [Ne.symm hk]
    · by_cases e : i = k
      · subst e
        have hl := (List.getElem?_eq_some_iff.1 hb).1
        simp [hl]
        rw [List.getElem?_eq_getElem hl] at hb
        simpa using congrArg BidG.job (Option.some.inj hb).symm
      · simp [e]
theorem AlikeM.want (m : MkG) (i : Nat) (v : Int) : AlikeM m (wantM m i v) [] := by
  unfold wantM
  split
  · exact ⟨rfl, rfl, rfl, rfl, rfl, rfl, rfl, rfl, rfl, fun _ _ => rfl, fun _ => rfl⟩
  · exact AlikeM.refl _ _
theorem AlikeM.one (t : Int) (g : Option Nat) (s : TkS) (i : Nat) : AlikeM s.1 (tickOne t g s i).1 [i] := by
  unfold tickOne
  split
  · exact AlikeM.refl _ _
  · split
    · cases g with
      | none => exact AlikeM.start _ _ _
      | some gi =>
        simp only
        split
        · exact (AlikeM.start _ _ _).trans ((AlikeM.want _ _ _).mono (fun i hi => by simp at hi))
        · exact AlikeM.start _ _ _
    · exact AlikeM.refl _ _
theorem AlikeM.fold (t : Int) (g : Option Nat) : ∀ (l : List Nat) (s : TkS), AlikeM s.1 (l.foldl (tickOne t g) s).1 l
  | [], s => AlikeM.refl _ _
  | i :: l, s => ((AlikeM.one t g s i).mono (fun j hj => by simp at hj; subst hj; exact List.mem_cons_self)).trans ((AlikeM.fold t g l (tickOne t g s i)).mono (fun j hj => List.mem_cons_of_mem _ hj))

/-- bids that were looked at so far -/
structure Sel (m : MkG) (t : Int) (done : List Nat) : Prop where
  mem : ∀ i ∈ done, ∃ b, m.bids[i]? = some b ∧ candB m t b = true
  sorted : done.Pairwise (fun i k => aheadI m.bids i k = true)
  front : ∀ i ∈ done, ∀ k b, m.bids[k]? = some b → candB m t b = true → k ∉ done → aheadI m.bids i k = true
theorem Sel.nil (m : MkG) (t : Int) : Sel m t [] := ⟨fun i h => by simp at h, List.Pairwise.nil, fun i h => by simp at h⟩
def inL (l : List Nat) (i : Nat) : Bool := decide (i ∈ l)
theorem Sel.snoc {m : MkG} {t : Int} {done : List Nat} {n i : Nat} (hn : n = m.bids.length) (h : Sel m t done) (hb : IsBest m t (inL done) n (i : Int)) : Sel m t (done ++ [i]) ∧ i ∉ done ∧ ∃ b, m.bids[i]? = some b ∧ candB m t b = true := by
  rcases hb with ⟨h1, _⟩ | ⟨j, h1, h2, ⟨b, hb, hc⟩, h4, h5⟩
  · omega
  · obtain rfl : j = i := by omega
    have hni : j ∉ done := by simpa [inL] using h4
    refine ⟨⟨fun k hk => ?_, ?_, fun k hk k' b' hkb hkc hkn => ?_⟩, hni, b, hb, hc⟩
    · rcases List.mem_append.1 hk with hk | hk
      · exact h.mem k hk
      · simp at hk; subst hk; exact ⟨b, hb, hc⟩
    · rw [List.pairwise_append]
      refine ⟨h.sorted, by simp, fun a ha c hc' => ?_⟩
      simp at hc'
      subst hc'
      exact h.front a ha _ b hb hc hni
    · have hkd : k' ∉ done := fun hx => hkn (List.mem_append_left _ hx)
      have hkj : k' ≠ j := fun hx => hkn (by simp [hx])
      rcases List.mem_append.1 hk with hk | hk
      · exact h.front k hk k' b' hkb hkc hkd
      · simp at hk
        subst hk
        have hlt : k' < n := by have := (List.getElem?_eq_some_iff.1 hkb).1; omega
        exact h5 k' b' hlt hkb hkc (by simpa [inL] using hkd) hkj
theorem Sel.done {m : MkG} {t : Int} {done : List Nat} {n : Nat} {z : Int} (hn : n = m.bids.length) (h : Sel m t done) (hb : IsBest m t (inL done) n z) (hz : z < 0) : IsOrder m t done := by
  rcases hb with ⟨h1, h2⟩ | ⟨j, h1, _⟩
  · refine ⟨fun i => ⟨h.mem i, fun ⟨b, hb, hc⟩ => ?_⟩, h.sorted⟩
    have hlt : i < n := by have := (List.getElem?_eq_some_iff.1 hb).1; omega
    simpa [inL] using h2 i b hlt hb hc
  · omega

/-! ### all is well behind it -/
theorem MkOk.start {m : MkG} (h : MkOk m) (i : Nat) {t : Int} (h0 : 0 ≤ t) (h1 : t ≤ 64) : MkOk (startM m i t) := by
  unfold startM
  cases hb : m.bids[i]? with
  | none => exact h
  | some b =>
    refine ⟨h.ck, h.nu, h.ns, h.np, h.nl, by have := h.nb; simpa using this, h.t0, h.t1, h.un, fun x hx => ?_⟩
    rcases List.mem_or_eq_of_mem_set hx with hx | rfl
    · exact h.bid x hx
    · have ho := h.bid b (List.mem_of_getElem? hb)
      exact ⟨ho.t0, ho.t1, ho.r0, ho.r1, ho.job, ho.a0, ho.a1, by simp, by simp, by simp only; omega, by simp only; omega, ho.e0, ho.e1⟩
theorem MkOk.want {m : MkG} (h : MkOk m) (i : Nat) (v : Int) : MkOk (wantM m i v) := by
  unfold wantM
  split
  · exact ⟨h.ck, h.nu, h.ns, h.np, h.nl, h.nb, h.t0, h.t1, h.un, h.bid⟩
  · exact h
theorem MkOk.one {s : TkS} (h : MkOk s.1) (g : Option Nat) (i : Nat) {t : Int} (h0 : 0 ≤ t) (h1 : t ≤ 64) : MkOk (tickOne t g s i).1 := by
  unfold tickOne
  split
  · exact h
  · split
    · cases g with
      | none => exact h.start i h0 h1
      | some gi =>
        simp only
        split
        · exact (h.start i h0 h1).want _ _
        · exact h.start i h0 h1
    · exact h
theorem MkOk.fold (g : Option Nat) {t : Int} (h0 : 0 ≤ t) (h1 : t ≤ 64) : ∀ (l : List Nat) (s : TkS), MkOk s.1 → MkOk (l.foldl (tickOne t g) s).1
  | [], _, h => h
  | i :: l, s, h => MkOk.fold g h0 h1 l (tickOne t g s i) (h.one g i h0 h1)
theorem BidG.expire_ok {c : CfgG} {b : BidG} (h : BidOk c b) (now : Int) : BidOk c (b.expire now) := by
  unfold BidG.expire
  split
  · exact ⟨h.t0, h.t1, h.r0, h.r1, h.job, h.a0, h.a1, by simp, by simp, h.st0, h.st1, h.e0, h.e1⟩
  · exact h
theorem MkOk.tickEnd {m : MkG} (h : MkOk m) {t : Int} (h0 : 0 ≤ t) (h1 : t < m.c.ticks) : MkOk (tickEnd t m) := by
  refine ⟨h.ck, h.nu, h.ns, h.np, h.nl, by have := h.nb; simpa [Go.Proofs.Ytminceigjejipab.tickEnd] using this, by simp only [Go.Proofs.Ytminceigjejipab.tickEnd]; omega, by simp only [Go.Proofs.Ytminceigjejipab.tickEnd]; omega, h.un, fun b hb => ?_⟩
  simp only [Go.Proofs.Ytminceigjejipab.tickEnd, List.mem_map] at hb
  obtain ⟨b', hb', rfl⟩ := hb
  exact BidG.expire_ok (h.bid b' hb') _
theorem tickFold_snoc (t : Int) (g : Option Nat) (m : MkG) (l : List Nat) (i : Nat) : tickFold t g m (l ++ [i]) = tickOne t g (tickFold t g m l) i := by
  simp [tickFold]
end Go.Proofs.Ytminceigjejipab

namespace Go.Proofs.Ytminceigjejipab
open Go.RowKit

theorem aheadI_eq {l : List BidG} {i k : Nat} {a b : BidG} (ha : l[i]? = some a) (hb : l[k]? = some b) : aheadI l i k = aheadJ a.job b.job i k := by
  unfold aheadI
  rw [ha, hb]

end Go.Proofs.Ytminceigjejipab

namespace Go.Proofs.Ytminceigjejipab
open Go.RowKit

/-- the ghost's place, as a number -/
def ghostZ (m : MkG) (t : Int) : Int := match ghostI m t with | some i => i | none => -1
theorem ghostZ_none {m : MkG} {t : Int} (h : ∀ (i : Nat) (b : BidG), m.bids[i]? = some b → (b.openB m t && (b.entry == m.ghost)) = false) : ghostI m t = none := by
  unfold ghostI
  rw [List.findIdx?_eq_none_iff]
  intro x hx
  obtain ⟨i, hi⟩ := List.getElem?_of_mem hx
  exact h i x hi
theorem ghostZ_some {m : MkG} {t : Int} {k : Nat} {b : BidG} (hb : m.bids[k]? = some b) (hk : (b.openB m t && (b.entry == m.ghost)) = true) (h : ∀ (i : Nat) (b : BidG), i < k → m.bids[i]? = some b → (b.openB m t && (b.entry == m.ghost)) = false) : ghostI m t = some k := by
  have hkl := (List.getElem?_eq_some_iff.1 hb)
  unfold ghostI
  rw [List.findIdx?_eq_some_iff_getElem.2 ⟨hkl.1, by rw [hkl.2]; exact hk, fun j hj => by rw [h j _ hj (List.getElem?_eq_getElem (by have := hkl.1; omega))]; simp⟩]

end Go.Proofs.Ytminceigjejipab

namespace Go.Proofs.Ytminceigjejipab
open Go.RowKit

theorem jobAt_eq {m : MkG} {i : Nat} {b : BidG} (h : m.bids[i]? = some b) : jobAt m i = b.job := by
  unfold jobAt
  rw [h]

theorem wantM_need {m : MkG} {g : Nat} {v : Int} (h : m.need = 0 ∨ wantV m g v < m.need) : wantM m g v = { m with need := wantV m g v } := by rw [wantM, if_pos h]
theorem wantM_same {m : MkG} {g : Nat} {v : Int} (h : ¬ (m.need = 0 ∨ wantV m g v < m.need)) : wantM m g v = m := by rw [wantM, if_neg h]

end Go.Proofs.Ytminceigjejipab
