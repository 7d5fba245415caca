import Derived.Test.YtminceigjejipabGreatG8
import Derived.Test.YtminceigjejipabGreatTkF
import Derived.Test.YtminceigjejipabGreatMkJ
/-
  THE ORDER THAT 'next' TAKES IS THE ORDER. Nothing of the program.
-/
namespace Go.Proofs.YtminceigjejipabGreat

theorem cross_le {av sa bv sb cv sc : Int} (h1 : 0 < sa) (h2 : 0 < sb) (h3 : 0 < sc) (hab : bv * sa ≤ av * sb) (hbc : cv * sb ≤ bv * sc) : cv * sa ≤ av * sc := by
  have e1 : sa * (cv * sb) ≤ sa * (bv * sc) := Int.mul_le_mul_of_nonneg_left hbc (by omega)
  have e2 : sc * (bv * sa) ≤ sc * (av * sb) := Int.mul_le_mul_of_nonneg_left hab (by omega)
  have r1 : sa * (cv * sb) = sb * (cv * sa) := by simp only [Int.mul_comm, Int.mul_left_comm]
  have r2 : sa * (bv * sc) = sc * (bv * sa) := by simp only [Int.mul_comm, Int.mul_left_comm]
  have r3 : sc * (av * sb) = sb * (av * sc) := by simp only [Int.mul_comm, Int.mul_left_comm]
  have : sb * (cv * sa) ≤ sb * (av * sc) := by omega
  exact Int.le_of_mul_le_mul_left this h2
theorem cross_lt {av sa bv sb cv sc : Int} (h1 : 0 < sa) (h2 : 0 < sb) (h3 : 0 < sc) (hab : bv * sa ≤ av * sb) (hbc : cv * sb ≤ bv * sc) (hs : bv * sa < av * sb ∨ cv * sb < bv * sc) : cv * sa < av * sc := by
  have e1 : sa * (cv * sb) ≤ sa * (bv * sc) := Int.mul_le_mul_of_nonneg_left hbc (by omega)
  have e2 : sc * (bv * sa) ≤ sc * (av * sb) := Int.mul_le_mul_of_nonneg_left hab (by omega)
  have r1 : sa * (cv * sb) = sb * (cv * sa) := by simp only [Int.mul_comm, Int.mul_left_comm]
  have r2 : sa * (bv * sc) = sc * (bv * sa) := by simp only [Int.mul_comm, Int.mul_left_comm]
  have r3 : sc * (av * sb) = sb * (av * sc) := by simp only [Int.mul_comm, Int.mul_left_comm]
  have : sb * (cv * sa) < sb * (av * sc) := by
    rcases hs with h | h
    · have := Int.mul_lt_mul_of_pos_left h h3
      omega
    · have := Int.mul_lt_mul_of_pos_left h h1
      omega
  exact Int.lt_of_mul_lt_mul_left this (by omega)

theorem aheadJ_iff {a b : JobG} {i k : Nat} : aheadJ a b i k = true ↔ (b.val * sizeJ a < a.val * sizeJ b ∨ (a.val * sizeJ b = b.val * sizeJ a ∧ i < k)) := by
  simp [aheadJ]
theorem aheadJ_trans {a b c : JobG} {i k l : Nat} (h1 : 0 < sizeJ a) (h2 : 0 < sizeJ b) (h3 : 0 < sizeJ c) (hab : aheadJ a b i k = true) (hbc : aheadJ b c k l = true) : aheadJ a c i l = true := by
  rw [aheadJ_iff] at hab hbc ⊢
  rcases hab with hab | ⟨hab, hik⟩ <;> rcases hbc with hbc | ⟨hbc, hkl⟩
  · exact .inl (cross_lt h1 h2 h3 (by omega) (by omega) (.inl hab))
  · exact .inl (cross_lt h1 h2 h3 (by omega) (by omega) (.inl hab))
  · exact .inl (cross_lt h1 h2 h3 (by omega) (by omega) (.inr hbc))
  · have e1 := cross_le (av := a.val) (sa := sizeJ a) (bv := b.val) (sb := sizeJ b) (cv := c.val) (sc := sizeJ c) h1 h2 h3 (by omega) (by omega)
    have e2 := cross_le (av := c.val) (sa := sizeJ c) (bv := b.val) (sb := sizeJ b) (cv := a.val) (sc := sizeJ a) h3 h2 h1 (by omega) (by omega)
    exact .inr ⟨by omega, by omega⟩
theorem aheadJ_total {a b : JobG} {i k : Nat} (h : i ≠ k) : aheadJ a b i k = true ∨ aheadJ b a k i = true := by
  rw [aheadJ_iff, aheadJ_iff]
  omega

/-- every job has a size -/
def SizesOk (l : List BidG) : Prop := ∀ b ∈ l, 0 < sizeJ b.job
theorem MkOk.sizes {m : MkG} (h : MkOk m) : SizesOk m.bids := fun b hb => by
  have := sizeJ_pos (h.bid b hb).job (cfgOk_true h.ck).1.2
  omega
theorem aheadI_trans {l : List BidG} (hl : SizesOk l) {i k j : Nat} (h1 : aheadI l i k = true) (h2 : aheadI l k j = true) : aheadI l i j = true := by
  obtain ⟨a, b, ha, hb, hj⟩ := aheadI_some h1
  obtain ⟨b', c, hb', hc, hj'⟩ := aheadI_some h2
  rw [hb] at hb'
  obtain rfl := Option.some.inj hb'
  rw [aheadI_eq0 ha hc]
  exact aheadJ_trans (hl a (List.mem_of_getElem? ha)) (hl b (List.mem_of_getElem? hb)) (hl c (List.mem_of_getElem? hc)) hj hj'
where
  aheadI_eq0 {l : List BidG} {i k : Nat} {a b : BidG} (ha : l[i]? = some a) (hb : l[k]? = some b) : aheadI l i k = aheadJ a.job b.job i k := by
    unfold aheadI
    rw [ha, hb]
theorem aheadI_total {l : List BidG} {i k : Nat} {a b : BidG} (ha : l[i]? = some a) (hb : l[k]? = some b) (h : i ≠ k) : aheadI l i k = true ∨ aheadI l k i = true := by
  unfold aheadI
  rw [ha, hb]
  exact aheadJ_total h

/-- what nextGo tells -/
def IsBest (m : MkG) (t : Int) (lk : Nat → Bool) (n : Nat) (z : Int) : Prop :=
  (z = -1 ∧ ∀ k b, k < n → m.bids[k]? = some b → candB m t b = true → lk k = true) ∨
  (∃ i : Nat, z = i ∧ i < n ∧ (∃ b, m.bids[i]? = some b ∧ candB m t b = true) ∧ lk i = false ∧ ∀ k b, k < n → m.bids[k]? = some b → candB m t b = true → lk k = false → k ≠ i → aheadI m.bids i k = true)
theorem nextGo_best {m : MkG} {t : Int} {lk : Nat → Bool} (hs : SizesOk m.bids) : ∀ n, IsBest m t lk n (nextGo m t lk n)
  | 0 => .inl ⟨rfl, fun k b h => by omega⟩
  | n + 1 => by
    have ih := nextGo_best (t := t) (lk := lk) hs n
    cases hb : m.bids[n]? with
    | none =>
      have e : nextGo m t lk (n + 1) = nextGo m t lk n := by rw [nextGo]; simp only [hb]
      rw [e]
      rcases ih with ⟨h1, h2⟩ | ⟨i, h1, h2, h3, h4, h5⟩
      · exact .inl ⟨h1, fun k b hk hkb => h2 k b (by rcases Nat.lt_succ_iff_lt_or_eq.1 hk with h | h; exact h; subst h; rw [hb] at hkb; cases hkb) hkb⟩
      · exact .inr ⟨i, h1, by omega, h3, h4, fun k b hk hkb => h5 k b (by rcases Nat.lt_succ_iff_lt_or_eq.1 hk with h | h; exact h; subst h; rw [hb] at hkb; cases hkb) hkb⟩
    | some b =>
      rw [nextGo_succ hb]
      by_cases hc : (candB m t b && !lk n) = true
      · simp only [Bool.and_eq_true, Bool.not_eq_true'] at hc
        rcases ih with ⟨h1, h2⟩ | ⟨i, h1, h2, h3, h4, h5⟩
        · rw [if_pos (by simp [hc.1, hc.2, h1])]
          refine .inr ⟨n, rfl, by omega, ⟨b, hb, hc.1⟩, hc.2, fun k b' hk hkb hkc hkl hne => ?_⟩
          rw [h2 k b' (by omega) hkb hkc] at hkl
          cases hkl
        · rw [h1]
          have hin : ¬ ((i : Int) < 0) := by omega
          cases ha : aheadI m.bids n i
          · rw [if_neg (by simp [hin, ha])]
            refine .inr ⟨i, rfl, by omega, h3, h4, fun k b' hk hkb hkc hkl hne => ?_⟩
            by_cases e : k < n
            · exact h5 k b' e hkb hkc hkl hne
            · obtain rfl : k = n := by omega
              obtain ⟨bi, hbi, _⟩ := h3
              rcases aheadI_total hbi hkb (fun e => hne e.symm) with h | h
              · exact h
              · rw [ha] at h; cases h
          · rw [if_pos (by simp [hc.1, hc.2, ha])]
            refine .inr ⟨n, rfl, by omega, ⟨b, hb, hc.1⟩, hc.2, fun k b' hk hkb hkc hkl hne => ?_⟩
            by_cases e : k = i
            · subst e; exact ha
            · exact aheadI_trans hs ha (h5 k b' (by omega) hkb hkc hkl e)
      · have hc' : (candB m t b && !lk n) = false := by simpa using hc
        rw [if_neg (by simp only [Bool.and_eq_true, not_and]; intro h; rw [Bool.and_eq_true] at hc; exact absurd (by simpa using h) hc)]
        rcases ih with ⟨h1, h2⟩ | ⟨i, h1, h2, h3, h4, h5⟩
        · refine .inl ⟨h1, fun k b' hk hkb hkc => ?_⟩
          by_cases e : k < n
          · exact h2 k b' e hkb hkc
          · obtain rfl : k = n := by omega
            rw [hb] at hkb
            obtain rfl := Option.some.inj hkb
            rw [hkc] at hc'
            simpa using hc'
        · refine .inr ⟨i, h1, by omega, h3, h4, fun k b' hk hkb hkc hkl hne => ?_⟩
          by_cases e : k < n
          · exact h5 k b' e hkb hkc hkl hne
          · obtain rfl : k = n := by omega
            rw [hb] at hkb
            obtain rfl := Option.some.inj hkb
            rw [hkc, hkl] at hc'
            cases hc'

/-- markets that differ in what has become of the bids of 'done', and in 'need' -/
structure AlikeM (m m' : MkG) (done : List Nat) : Prop where
  c : m'.c = m.c
  time : m'.time = m.time
  units : m'.units = m.units
  susp : m'.susp = m.susp
  log : m'.log = m.log
  paid : m'.paid = m.paid
  charges : m'.charges = m.charges
  ghost : m'.ghost = m.ghost
  len : m'.bids.length = m.bids.length
  bid : ∀ k : Nat, k ∉ done → m'.bids[k]? = m.bids[k]?
  job : ∀ k : Nat, (m'.bids[k]?).map BidG.job = (m.bids[k]?).map BidG.job

theorem AlikeM.refl (m : MkG) (done : List Nat) : AlikeM m m done := ⟨rfl, rfl, rfl, rfl, rfl, rfl, rfl, rfl, rfl, fun _ _ => rfl, fun _ => rfl⟩
theorem AlikeM.mono {m m' : MkG} {d d' : List Nat} (h : AlikeM m m' d) (hd : ∀ i ∈ d, i ∈ d') : AlikeM m m' d' :=
  ⟨h.c, h.time, h.units, h.susp, h.log, h.paid, h.charges, h.ghost, h.len, fun k hk => h.bid k (fun hx => hk (hd k hx)), h.job⟩
theorem AlikeM.ahead {m m' : MkG} {d : List Nat} (h : AlikeM m m' d) (i k : Nat) : aheadI m'.bids i k = aheadI m.bids i k := by
  have hi := h.job i
  have hk := h.job k
  unfold aheadI
  cases h1 : m'.bids[i]? <;> cases h2 : m.bids[i]? <;> rw [h1, h2] at hi <;> try (simp at hi; done)
  simp only [Option.map_some, Option.some.injEq] at hi
  cases h3 : m'.bids[k]? <;> cases h4 : m.bids[k]? <;> rw [h3, h4] at hk <;> try (simp at hk; done)
  simp only [Option.map_some, Option.some.injEq] at hk
  simp [hi, hk]
theorem AlikeM.cand {m m' : MkG} {d : List Nat} (h : AlikeM m m' d) (t : Int) (b : BidG) : candB m' t b = candB m t b := by
  unfold candB BidG.openB suspAt
  rw [h.susp, h.ghost]
theorem AlikeM.next {m m' : MkG} {d : List Nat} (h : AlikeM m m' d) (t : Int) (lk : Nat → Bool) (hl : ∀ i ∈ d, lk i = true) : ∀ n, nextGo m' t lk n = nextGo m t lk n
  | 0 => rfl
  | n + 1 => by
    have ih := AlikeM.next h t lk hl n
    rw [nextGo, nextGo]
    simp only [ih]
    by_cases hn : n ∈ d
    · have := hl n hn
      cases h1 : m'.bids[n]? <;> cases h2 : m.bids[n]? <;> simp [this]
    · rw [h.bid n hn]
      cases h2 : m.bids[n]?
      · rfl
      · simp only [h.cand, h.ahead]
theorem AlikeM.trans {m m' m2 : MkG} {d : List Nat} (h : AlikeM m m' d) (h' : AlikeM m' m2 d) : AlikeM m m2 d :=
  ⟨h'.c.trans h.c, h'.time.trans h.time, h'.units.trans h.units, h'.susp.trans h.susp, h'.log.trans h.log, h'.paid.trans h.paid, h'.charges.trans h.charges, h'.ghost.trans h.ghost, h'.len.trans h.len, fun k hk => (h'.bid k hk).trans (h.bid k hk), fun k => (h'.job k).trans (h.job k)⟩
theorem AlikeM.start (m : MkG) (i : Nat) (t : Int) : AlikeM m (startM m i t) [i] := by
  unfold startM
  cases hb : m.bids[i]? with
  | none => exact AlikeM.refl _ _
  | some b =>
    refine ⟨rfl, rfl, rfl, rfl, rfl, rfl, rfl, rfl, by simp, fun k hk => ?_, fun k => ?_⟩
    · simp only [List.mem_singleton] at hk
      simp [Ne.symm hk]
    · by_cases e : i = k
      · subst e
        have hl := (List.getElem?_eq_some_iff.1 hb).1
        simp [hl]
        rw [List.getElem?_eq_getElem hl] at hb
        simpa using congrArg BidG.job (Option.some.inj hb).symm
      · simp [e]
theorem AlikeM.want (m : MkG) (i : Nat) (v : Int) : AlikeM m (wantM m i v) [] := by
  unfold wantM
  split
  · exact ⟨rfl, rfl, rfl, rfl, rfl, rfl, rfl, rfl, rfl, fun _ _ => rfl, fun _ => rfl⟩
  · exact AlikeM.refl _ _
theorem AlikeM.one (t : Int) (g : Option Nat) (s : TkS) (i : Nat) : AlikeM s.1 (tickOne t g s i).1 [i] := by
  unfold tickOne
  split
  · exact AlikeM.refl _ _
  · split
    · cases g with
      | none => exact AlikeM.start _ _ _
      | some gi =>
        simp only
        split
        · exact (AlikeM.start _ _ _).trans ((AlikeM.want _ _ _).mono (fun i hi => by simp at hi))
        · exact AlikeM.start _ _ _
    · exact AlikeM.refl _ _
theorem AlikeM.fold (t : Int) (g : Option Nat) : ∀ (l : List Nat) (s : TkS), AlikeM s.1 (l.foldl (tickOne t g) s).1 l
  | [], s => AlikeM.refl _ _
  | i :: l, s => ((AlikeM.one t g s i).mono (fun j hj => by simp at hj; subst hj; exact List.mem_cons_self)).trans ((AlikeM.fold t g l (tickOne t g s i)).mono (fun j hj => List.mem_cons_of_mem _ hj))

/-- bids that were looked at so far -/
structure Sel (m : MkG) (t : Int) (done : List Nat) : Prop where
  mem : ∀ i ∈ done, ∃ b, m.bids[i]? = some b ∧ candB m t b = true
  sorted : done.Pairwise (fun i k => aheadI m.bids i k = true)
  front : ∀ i ∈ done, ∀ k b, m.bids[k]? = some b → candB m t b = true → k ∉ done → aheadI m.bids i k = true
theorem Sel.nil (m : MkG) (t : Int) : Sel m t [] := ⟨fun i h => by simp at h, List.Pairwise.nil, fun i h => by simp at h⟩
def inL (l : List Nat) (i : Nat) : Bool := decide (i ∈ l)
theorem Sel.snoc {m : MkG} {t : Int} {done : List Nat} {n i : Nat} (hn : n = m.bids.length) (h : Sel m t done) (hb : IsBest m t (inL done) n (i : Int)) : Sel m t (done ++ [i]) ∧ i ∉ done ∧ ∃ b, m.bids[i]? = some b ∧ candB m t b = true := by
  rcases hb with ⟨h1, _⟩ | ⟨j, h1, h2, ⟨b, hb, hc⟩, h4, h5⟩
  · omega
  · obtain rfl : j = i := by omega
    have hni : j ∉ done := by simpa [inL] using h4
    refine ⟨⟨fun k hk => ?_, ?_, fun k hk k' b' hkb hkc hkn => ?_⟩, hni, b, hb, hc⟩
    · rcases List.mem_append.1 hk with hk | hk
      · exact h.mem k hk
      · simp at hk; subst hk; exact ⟨b, hb, hc⟩
    · rw [List.pairwise_append]
      refine ⟨h.sorted, by simp, fun a ha c hc' => ?_⟩
      simp at hc'
      subst hc'
      exact h.front a ha _ b hb hc hni
    · have hkd : k' ∉ done := fun hx => hkn (List.mem_append_left _ hx)
      have hkj : k' ≠ j := fun hx => hkn (by simp [hx])
      rcases List.mem_append.1 hk with hk | hk
      · exact h.front k hk k' b' hkb hkc hkd
      · simp at hk
        subst hk
        have hlt : k' < n := by have := (List.getElem?_eq_some_iff.1 hkb).1; omega
        exact h5 k' b' hlt hkb hkc (by simpa [inL] using hkd) hkj
theorem Sel.done {m : MkG} {t : Int} {done : List Nat} {n : Nat} {z : Int} (hn : n = m.bids.length) (h : Sel m t done) (hb : IsBest m t (inL done) n z) (hz : z < 0) : IsOrder m t done := by
  rcases hb with ⟨h1, h2⟩ | ⟨j, h1, _⟩
  · refine ⟨fun i => ⟨h.mem i, fun ⟨b, hb, hc⟩ => ?_⟩, h.sorted⟩
    have hlt : i < n := by have := (List.getElem?_eq_some_iff.1 hb).1; omega
    simpa [inL] using h2 i b hlt hb hc
  · omega

/-! ### all is well behind it -/
theorem MkOk.start {m : MkG} (h : MkOk m) (i : Nat) {t : Int} (h0 : 0 ≤ t) (h1 : t ≤ 64) : MkOk (startM m i t) := by
  unfold startM
  cases hb : m.bids[i]? with
  | none => exact h
  | some b =>
    refine ⟨h.ck, h.nu, h.ns, h.np, h.nl, by have := h.nb; simpa using this, h.t0, h.t1, h.un, fun x hx => ?_⟩
    rcases List.mem_or_eq_of_mem_set hx with hx | rfl
    · exact h.bid x hx
    · have ho := h.bid b (List.mem_of_getElem? hb)
      exact ⟨ho.t0, ho.t1, ho.r0, ho.r1, ho.job, ho.a0, ho.a1, by simp, by simp, by simp only; omega, by simp only; omega, ho.e0, ho.e1⟩
theorem MkOk.want {m : MkG} (h : MkOk m) (i : Nat) (v : Int) : MkOk (wantM m i v) := by
  unfold wantM
  split
  · exact ⟨h.ck, h.nu, h.ns, h.np, h.nl, h.nb, h.t0, h.t1, h.un, h.bid⟩
  · exact h
theorem MkOk.one {s : TkS} (h : MkOk s.1) (g : Option Nat) (i : Nat) {t : Int} (h0 : 0 ≤ t) (h1 : t ≤ 64) : MkOk (tickOne t g s i).1 := by
  unfold tickOne
  split
  · exact h
  · split
    · cases g with
      | none => exact h.start i h0 h1
      | some gi =>
        simp only
        split
        · exact (h.start i h0 h1).want _ _
        · exact h.start i h0 h1
    · exact h
theorem MkOk.fold (g : Option Nat) {t : Int} (h0 : 0 ≤ t) (h1 : t ≤ 64) : ∀ (l : List Nat) (s : TkS), MkOk s.1 → MkOk (l.foldl (tickOne t g) s).1
  | [], _, h => h
  | i :: l, s, h => MkOk.fold g h0 h1 l (tickOne t g s i) (h.one g i h0 h1)
theorem BidG.expire_ok {c : CfgG} {b : BidG} (h : BidOk c b) (now : Int) : BidOk c (b.expire now) := by
  unfold BidG.expire
  split
  · exact ⟨h.t0, h.t1, h.r0, h.r1, h.job, h.a0, h.a1, by simp, by simp, h.st0, h.st1, h.e0, h.e1⟩
  · exact h
theorem MkOk.tickEnd {m : MkG} (h : MkOk m) {t : Int} (h0 : 0 ≤ t) (h1 : t < m.c.ticks) : MkOk (tickEnd t m) := by
  refine ⟨h.ck, h.nu, h.ns, h.np, h.nl, by have := h.nb; simpa [Go.Proofs.YtminceigjejipabGreat.tickEnd] using this, by simp only [Go.Proofs.YtminceigjejipabGreat.tickEnd]; omega, by simp only [Go.Proofs.YtminceigjejipabGreat.tickEnd]; omega, h.un, fun b hb => ?_⟩
  simp only [Go.Proofs.YtminceigjejipabGreat.tickEnd, List.mem_map] at hb
  obtain ⟨b', hb', rfl⟩ := hb
  exact BidG.expire_ok (h.bid b' hb') _
theorem tickFold_snoc (t : Int) (g : Option Nat) (m : MkG) (l : List Nat) (i : Nat) : tickFold t g m (l ++ [i]) = tickOne t g (tickFold t g m l) i := by
  simp [tickFold]
end Go.Proofs.YtminceigjejipabGreat

namespace Go.Proofs.YtminceigjejipabGreat
open Go.RowKit

def nameCells (x : Int × Int) : List Value := [.int .i64 x.1, .int .i64 x.2]
theorem infoName : (Tryz.prog.info? 61).map (fun i => (i.zero, i.size, i.bytes)) = some (some (.agg #[.int .i64 0, .int .i64 0]), 2, 16) := by kernel_rfl

/-- a cell of a bid, written -/
theorem MktAt.setBid {w : World} {p : Nat} {V : MV} {m : MkG} {i g r : Nat} {b b' : BidG} {u : Value} (h : MktAt w p V m) (hb : m.bids[i]? = some b) (hr : r < 12) (hg : V.bv.ownBlock = some g) (hc : bidCells b' = (bidCells b).set r u) :
    MktAt (w.setCell ⟨g, i * 12 + r, none⟩ u) p V { m with bids := m.bids.set i b' } := by
  have hil : i < m.bids.length := (List.getElem?_eq_some_iff.1 hb).1
  have hgp : g ≠ p := fun e => ownsRow_box h.bids h.box (by decide) (e ▸ hg)
  have far : ∀ k, k ≠ g → (w.setCell ⟨g, i * 12 + r, none⟩ u).heap[k]? = w.heap[k]? := fun k hk => Below.heap_setCell _ _ _ _ hk
  have old : ∀ {e : TypeId} {size n : Nat} {v : Value} {xs : List Value}, w.ownsRow 0 e size v n xs → e ≠ 118 → (w.setCell ⟨g, i * 12 + r, none⟩ u).ownsRow 0 e size v n xs := by
    intro e size n v xs ho he
    exact ownsRow_keep ho (fun k hk => far k (fun e => ownsRow_apart ho h.bids he hk (e ▸ hg)))
  refine ⟨(far p (Ne.symm hgp)).trans h.box, old h.units (by decide), ?_, old h.susp (by decide), old h.log (by decide), old h.paid (by decide), old h.charges (by decide), h.ne⟩
  show (w.setCell _ _).ownsRow 0 _ 12 _ (m.bids.set i b').length ((m.bids.set i b').flatMap bidCells)
  rw [List.length_set]
  have key : ∀ (l : List BidG) (i : Nat), l[i]? = some b → (l.set i b').flatMap bidCells = (l.flatMap bidCells).set (i * 12 + r) u := by
    intro l
    induction l with
    | nil => intro i hb; simp at hb
    | cons y l ih =>
      intro i hb
      cases i with
      | zero =>
        simp at hb
        subst hb
        simp only [List.set_cons_zero, List.flatMap_cons, hc, Nat.zero_mul, Nat.zero_add]
        rw [List.set_append_left _ _ (by simpa [bidCells] using hr)]
      | succ i =>
        simp only [List.getElem?_cons_succ] at hb
        simp only [List.set_cons_succ, List.flatMap_cons, ih i hb]
        rw [show (i + 1) * 12 + r = (bidCells y).length + (i * 12 + r) by simp [bidCells]; omega]
        rw [List.set_append_right _ _ (by omega)]
        simp
  rw [key m.bids i hb]
  rcases h.bids.2 with ⟨hv, h0⟩ | ⟨g', cap, cur, hv, hb0, hh, hc', hmx, hsz, htake⟩
  · omega
  · have hgg : g' = g := by rw [hv] at hg; simpa [Value.ownBlock] using hg
    subst hgg
    refine ⟨by simp [h.bids.1], .inr ⟨g', cap, cur.setIfInBounds (i * 12 + r) u, hv, hb0, box_set hh _, hc', hmx, by simpa using hsz, ?_⟩⟩
    rw [Array.toList_setIfInBounds, List.take_set, htake]

/-- in the midst of a tick: the market, the marks, the list that will come out -/
structure TickSt (w1 : World) (p : Nat) (V : MV) (L n : Nat) (m : MkG) (out : List (Int × Int)) (done : List Nat) (ov : Value) (wr : World) : Prop where
  mkt : MktAt wr p V m
  lk : ∃ cur, wr.heap[L]? = some (.cells cur 4 (0, 0)) ∧ n ≤ cur.size ∧ ∀ j, j < n → cur[j]? = some (.bool (inL done j))
  out : wr.ownsRow 0 61 2 ov out.length (out.flatMap nameCells)
  chg : Chg (V.foot p) w1 wr
  fl : ∀ k, V.foot p k → k < w1.heap.size
  nl : w1.heap.size ≤ L
  ov : ∀ k, ov.ownBlock = some k → w1.heap.size ≤ k

section
variable {w1 wr w' : World} {p : Nat} {V : MV} {L n : Nat} {m : MkG} {out : List (Int × Int)} {done : List Nat} {ov : Value}
theorem TickSt.lkAt (h : TickSt w1 p V L n m out done ov wr) (cap : Nat) : LkAt wr (.slice (some ⟨L, 0, none⟩) n cap) n (inL done) := by
  obtain ⟨cur, h1, h2, h3⟩ := h.lk
  exact ⟨_, _, rfl, fun j hj => ⟨L, rfl, (Array.getElem?_eq_some_iff.1 h1).1, by unfold World.cell?; rw [h1]; exact h3 j hj, by unfold World.frozen?; rw [h1]; simp⟩⟩
theorem TickSt.ltL (h : TickSt w1 p V L n m out done ov wr) : L < wr.heap.size := by
  obtain ⟨cur, h1, _⟩ := h.lk
  exact (Array.getElem?_eq_some_iff.1 h1).1
theorem TickSt.chg0 (h : TickSt w1 p V L n m out done ov wr) (hc : Chg (fun _ => False) wr w') : TickSt w1 p V L n m out done ov w' :=
  ⟨h.mkt.chg0 hc, by obtain ⟨cur, h1, h2⟩ := h.lk; exact ⟨cur, (hc.block _ h.ltL (fun h => h)).trans h1, h2⟩, ownsRow_keep h.out (fun k hk => hc.block k (h.out.lt k hk).2 (fun h => h)), h.chg.trans hc (fun _ _ h => h.elim), h.fl, h.nl, h.ov⟩
theorem TickSt.ovL (h : TickSt w1 p V L n m out done ov wr) : ov.ownBlock ≠ some L := by
  obtain ⟨cur, h1, _⟩ := h.lk
  exact ownsRow_box h.out h1 (by decide)
/-- a mark is set -/
theorem TickSt.look (h : TickSt w1 p V L n m out done ov wr) (i : Nat) : TickSt w1 p V L n m out (done ++ [i]) ov (wr.setCell ⟨L, i, none⟩ (.bool true)) := by
  have far : ∀ k, k ≠ L → (wr.setCell ⟨L, i, none⟩ (.bool true)).heap[k]? = wr.heap[k]? := fun k hk => Below.heap_setCell _ _ _ _ hk
  refine ⟨h.mkt.frame (fun k hk => far k (by have := h.fl k hk; have := h.nl; omega)), ?_, ownsRow_keep h.out (fun k hk => far k (fun e => h.ovL (e ▸ hk))), h.chg.setCell (.inr h.nl) _, h.fl, h.nl, h.ov⟩
  obtain ⟨cur, h1, h2, h3⟩ := h.lk
  refine ⟨cur.setIfInBounds i (.bool true), box_set h1 _, by simpa using h2, fun j hj => ?_⟩
  rw [Array.getElem?_setIfInBounds]
  by_cases e : i = j
  · subst e
    rw [if_pos rfl, if_pos (by omega)]
    simp [inL]
  · rw [if_neg e, h3 j hj]
    simp [inL, Ne.symm e]
/-- a bid starts -/
theorem TickSt.bid (h : TickSt w1 p V L n m out done ov wr) {i g r : Nat} {b b' : BidG} {u : Value} (hb : m.bids[i]? = some b) (hr : r < 12) (hg : V.bv.ownBlock = some g) (hc : bidCells b' = (bidCells b).set r u) :
    TickSt w1 p V L n { m with bids := m.bids.set i b' } out done ov (wr.setCell ⟨g, i * 12 + r, none⟩ u) := by
  have hgf : V.foot p g := .inr (.inr (.inl hg))
  have hgl := h.fl g hgf
  have far : ∀ k, k ≠ g → (wr.setCell ⟨g, i * 12 + r, none⟩ u).heap[k]? = wr.heap[k]? := fun k hk => Below.heap_setCell _ _ _ _ hk
  refine ⟨h.mkt.setBid hb hr hg hc, ?_, ownsRow_keep h.out (fun k hk => far k (by have := h.ov k hk; omega)), h.chg.setCell (.inl hgf) _, h.fl, h.nl, h.ov⟩
  obtain ⟨cur, h1, h2⟩ := h.lk
  exact ⟨cur, (far L (by have := h.nl; omega)).trans h1, h2⟩
/-- a name more -/
theorem TickSt.more {wa w3 : World} {x : Int × Int} {g cap : Nat} (h : TickSt w1 p V L n m out done ov wr) (hc : Chg (fun _ => False) wr wa)
    (hown : w3.ownsRow 0 61 2 (.slice (some ⟨g, 0, none⟩) (out.length + 1) cap) (out.length + 1) (out.flatMap nameCells ++ nameCells x)) (hgrow : wa.grownBy w3 ov.ownBlock) (hat : ov.ownBlock = some g ∨ wr.heap.size ≤ g) :
    TickSt w1 p V L n m (out ++ [x]) done (.slice (some ⟨g, 0, none⟩) (out.length + 1) cap) w3 := by
  have hc3 : Chg (fun k => ov.ownBlock = some k) wr w3 := (hc.mono (fun _ _ h => h.elim)).grown hgrow (fun k hk => .inl hk)
  have hs := h.chg.size
  refine ⟨h.mkt.chg hc3 (fun k hk e => by have := h.ov k e; have := h.fl k hk; omega), ?_, ?_, h.chg.trans hc3 (fun k hk e => by have := h.ov k e; omega), h.fl, h.nl, ?_⟩
  · obtain ⟨cur, h1, h2⟩ := h.lk
    exact ⟨cur, (hc3.block L h.ltL h.ovL).trans h1, h2⟩
  · rw [List.length_append, List.flatMap_append]
    simp only [List.flatMap_cons, List.flatMap_nil, List.append_nil, List.length_cons, List.length_nil, Nat.zero_add]
    exact hown
  · intro k hk
    simp [Value.ownBlock] at hk
    subst hk
    rcases hat with e | e
    · exact h.ov g e
    · omega
end

theorem tick_arm {w1 wr wa w3 : World} {p : Nat} {V : MV} {L n nn : Nat} {m : MkG} {out : List (Int × Int)} {done : List Nat} {ao : Option Addr} {cap cap' g H : Nat} {x : Int × Int} (h : TickSt w1 p V L n m out done (.slice ao nn cap) wr) (hn : nn = out.length) (hc : Chg (fun _ => False) wr wa)
    (hown : w3.ownsRow 0 61 2 (.slice (some ⟨g, 0, none⟩) (nn + 1) cap') (nn + 1) (out.flatMap nameCells ++ nameCells x)) (hgrow : wa.grownBy w3 (Value.ownBlock (.slice ao nn cap))) (hat : Value.ownBlock (.slice ao nn cap) = some g ∨ g = H) (hH : wr.heap.size ≤ H) :
    Hid (TickSt w1 p V L n m (out ++ [x]) done (.slice (some ⟨g, 0, none⟩) (nn + 1) cap') w3) := by
  subst hn
  exact h.more hc hown hgrow (by rcases hat with h | h; exact .inl h; exact .inr (by omega))

/-- what a tick leaves -/
def TickTo (w : World) (p : Nat) (V : MV) (names : List (Int × Int)) (m' : MkG) (ov : Value) (w' : World) : Prop :=
  MktTo w p V m' w' ∧ w'.ownsRow 0 61 2 ov names.length (names.flatMap nameCells) ∧ ∀ k, ov.ownBlock = some k → w.heap.size ≤ k

theorem ownsRow_form {w : World} {base : Nat} {e : TypeId} {size n : Nat} {v : Value} {xs : List Value} (h : w.ownsRow base e size v n xs) : ∃ ao cap, v = .slice ao n cap := by
  rcases h.2 with ⟨hv, h0⟩ | ⟨g, cap, cur, hv, _⟩
  · exact ⟨none, 0, by rw [hv, h0]⟩
  · exact ⟨_, cap, hv⟩

/-- how many are not in a list -/
def remL (n : Nat) (d : List Nat) : Nat := (List.range n).countP fun j => !inL d j
theorem remL_succ (n : Nat) (d : List Nat) : remL (n + 1) d = remL n d + if inL d n then 0 else 1 := by
  simp only [remL, List.range_succ, List.countP_append, List.countP_cons, List.countP_nil]
  cases inL d n <;> simp
theorem remL_le (n i : Nat) (d : List Nat) : remL n (d ++ [i]) ≤ remL n d := by
  induction n with
  | zero => simp [remL]
  | succ n ih =>
    rw [remL_succ, remL_succ]
    by_cases h : n ∈ d
    · simp [inL, h]; exact ih
    · by_cases e : n = i
      · simp [inL, e]; subst e; omega
      · simp [inL, h, e]; exact ih
theorem remL_lt {n i : Nat} {d : List Nat} (hi : i < n) (hd : i ∉ d) : remL n (d ++ [i]) < remL n d := by
  induction n with
  | zero => omega
  | succ n ih =>
    rw [remL_succ, remL_succ]
    by_cases e : n = i
    · subst e
      have := remL_le n n d
      simp [inL, hd]
      omega
    · have := ih (by omega)
      by_cases h : n ∈ d
      · simp [inL, h]; exact this
      · simp [inL, h, e]; exact this

theorem TickSt.boxV {w1 wr : World} {p : Nat} {V : MV} {L n f : Nat} {m m' : MkG} {out : List (Int × Int)} {done : List Nat} {ov u : Value} (h : TickSt w1 p V L n m out done ov wr) (hb : (mktBox V m).setIfInBounds f u = mktBox V m') (h1 : m'.units = m.units) (h2 : m'.bids = m.bids) (h3 : m'.susp = m.susp) (h4 : m'.log = m.log) (h5 : m'.paid = m.paid) (h6 : m'.charges = m.charges) :
    TickSt w1 p V L n m' out done ov (wr.setCell ⟨p, f, none⟩ u) := by
  have hpf : V.foot p p := .inl rfl
  have hpl := h.fl p hpf
  have far : ∀ k, k ≠ p → (wr.setCell ⟨p, f, none⟩ u).heap[k]? = wr.heap[k]? := fun k hk => Below.heap_setCell _ _ _ _ hk
  refine ⟨h.mkt.setBoxV hb h1 h2 h3 h4 h5 h6, ?_, ownsRow_keep h.out (fun k hk => far k (by have := h.ov k hk; omega)), h.chg.setCell (.inl hpf) _, h.fl, h.nl, h.ov⟩
  obtain ⟨cur, h1, h2⟩ := h.lk
  exact ⟨cur, (far L (by have := h.nl; omega)).trans h1, h2⟩

/-- what the ghost wants is written down -/
theorem TickSt.want {w1 wr w' : World} {p : Nat} {V : MV} {L n : Nat} {m m' : MkG} {out : List (Int × Int)} {done : List Nat} {ov : Value} (h : TickSt w1 p V L n m out done ov wr) (hs : MktSame wr p V m' w') : TickSt w1 p V L n m' out done ov w' := by
  have hpf : V.foot p p := .inl rfl
  have hpl := h.fl p hpf
  refine ⟨hs.1, ?_, ownsRow_keep h.out (fun k hk => hs.2.block k (h.out.lt k hk).2 (by have := h.ov k hk; omega)), h.chg.trans hs.2 (fun _ _ e => by rw [e]; exact hpf), h.fl, h.nl, h.ov⟩
  obtain ⟨cur, h1, h2⟩ := h.lk
  exact ⟨cur, (hs.2.block L h.ltL (by have := h.nl; omega)).trans h1, h2⟩

/-- the first k bids looked at: which have expired -/
def expTo (l : List BidG) (k : Nat) (now : Int) : List BidG := l.mapIdx fun i b => if i < k then b.expire now else b
theorem expTo_get (l : List BidG) (k : Nat) (now : Int) : (expTo l k now)[k]? = l[k]? := by
  simp [expTo]
theorem expTo_len (l : List BidG) (k : Nat) (now : Int) : (expTo l k now).length = l.length := by simp [expTo]
theorem expTo_zero (l : List BidG) (now : Int) : expTo l 0 now = l := by
  apply List.ext_getElem?
  intro i
  simp [expTo]
theorem expTo_all (l : List BidG) (now : Int) : expTo l l.length now = l.map fun b => b.expire now := by
  apply List.ext_getElem?
  intro i
  by_cases hi : i < l.length
  · simp [expTo, hi]
  · simp [expTo, hi]
theorem expTo_succ {l : List BidG} {k : Nat} {now : Int} {b : BidG} (hb : l[k]? = some b) : expTo l (k + 1) now = (expTo l k now).set k (b.expire now) := by
  apply List.ext_getElem?
  intro i
  rw [List.getElem?_set]
  by_cases e : k = i
  · subst e
    have hl := (List.getElem?_eq_some_iff.1 hb).1
    rw [if_pos rfl, if_pos (by rw [expTo_len]; exact hl)]
    simp [expTo, hb]
  · rw [if_neg e]
    simp only [expTo, List.getElem?_mapIdx]
    cases l[i]? with
    | none => rfl
    | some x =>
      simp only [Option.map_some]
      have hik : (i < k + 1) ↔ (i < k) := ⟨fun h => by omega, fun h => by omega⟩
      simp only [hik]
theorem expTo_same {l : List BidG} {k : Nat} {now : Int} {b : BidG} (hb : l[k]? = some b) (he : b.expire now = b) : expTo l (k + 1) now = expTo l k now := by
  rw [expTo_succ hb, he]
  apply List.ext_getElem?
  intro i
  rw [List.getElem?_set]
  by_cases e : k = i
  · subst e
    have hl := (List.getElem?_eq_some_iff.1 hb).1
    rw [if_pos rfl, if_pos (by rw [expTo_len]; exact hl), expTo_get, hb]
  · rw [if_neg e]
theorem MkOk.exp {m : MkG} (h : MkOk m) (k : Nat) (now : Int) : ∀ b ∈ expTo m.bids k now, BidOk m.c b := by
  intro b hb
  obtain ⟨i, hi⟩ := List.getElem?_of_mem hb
  simp only [expTo, List.getElem?_mapIdx] at hi
  cases h2 : m.bids[i]? with
  | none => rw [h2] at hi; simp at hi
  | some x =>
    rw [h2] at hi
    simp only [Option.map_some, Option.some.injEq] at hi
    have hx := h.bid x (List.mem_of_getElem? h2)
    rw [← hi]
    split
    · exact BidG.expire_ok hx _
    · exact hx
end Go.Proofs.YtminceigjejipabGreat
