import Derived.Test.YtccfademkgjeiaaLawB
namespace Go.Proofs.Ytccfademkgjeiaa
open Go.RowKit

/-- what holds between the steps of Bids -/
def InvB (YAt : World → Nat → (Nat → Prop) → MkG → Prop) (B : Nat) (ca : Option Addr) (cl cc : Nat) (i : Nat) (O : Nat → Prop) (w : World) : Prop :=
  ∃ N ma mc os, MsAt YAt B N (.slice ca cl cc) (.slice none 0 0) (.slice none 0 0) (.slice none 0 0) ma mc os w ∧ os.length ≤ i ∧ ∀ k, O k ↔ B ≤ k ∧ k < N

def kB : List Int := [6, 7, 8, 9, 10, 11, 12, 13, 14]
theorem contains9 {x : Int} (h : kB.contains x = true) : x = 6 ∨ x = 7 ∨ x = 8 ∨ x = 9 ∨ x = 10 ∨ x = 11 ∨ x = 12 ∨ x = 13 ∨ x = 14 := by simpa [kB] using h

theorem i64_of {z : Int} (h : IsI64 z) : I64 z := h

theorem playsB {YAt : World → Nat → (Nat → Prop) → MkG → Prop} (hY : YardSpec YAt) (w w0 : World) (ca : Option Addr) (cl cc slen : Nat) (S : Nat → Int) (hw : ∀ t, t < slen * 10 → IsI64 (S t)) (hsl : slen < 1759218604391) (hb : Below w0.heap.size w0 w) (hc : IntRows w0 5 ca cl) (hcl : cl < 5000000000000) :
    Plays w.heap.size slen S kB kB w (InvB YAt w.heap.size ca cl cc) := by
  refine ⟨?_, ?_, ?_, ?_, ?_⟩
  · rintro i O w1 ⟨N, ma, mc, os, h, _, hO⟩ k hk
    have := (hO k).1 hk
    have := h.nw
    exact ⟨by omega, by omega⟩
  · rintro i O w1 w2 ⟨N, ma, mc, os, h, hl, hO⟩ hc
    exact ⟨N, ma, mc, os, h.frame hY (fun k h1 h2 => hc.block k (by have := h.nw; omega) (fun hn => hn ((hO k).2 ⟨h1, h2⟩))) hc.size, hl, hO⟩
  · rintro i O w1 ⟨N, ma, mc, os, h, hl, hO⟩
    exact ⟨N, ma, mc, os, h, by omega, hO⟩
  · rintro i hi hp O w1 ⟨N, ma, mc, os, h, hl, hO⟩ hbel
    have I := fun f (hf : f < 10) => i64_of (hw (i * 10 + f) (by omega))
    have fin : ∀ (e : Ending) w2, e = .returned (.bool true) → (∃ N' ma' mc' os', MsAt YAt w.heap.size N' (.slice ca cl cc) (.slice none 0 0) (.slice none 0 0) (.slice none 0 0) ma' mc' os' w2 ∧ os'.length ≤ i + 1) → Chg O w1 w2 → ∃ b O', e = .returned (.bool b) ∧ InvB YAt w.heap.size ca cl cc (i + 1) O' w2 ∧ Chg O w1 w2 ∧
        (b = false → kB.contains (S (i * 10)) = false ∧ S (i * 10) ≠ 2 ∧ S (i * 10) ≠ 6) := by
      rintro e w2 rfl ⟨N', ma', mc', os', h', hl'⟩ hc
      exact ⟨true, fun k => w.heap.size ≤ k ∧ k < N', rfl, ⟨N', ma', mc', os', h', hl', fun _ => Iff.rfl⟩, hc, fun hx => by cases hx⟩
    have quiet : ∀ (e : Ending) w2, (e = .returned (.bool true) ∧ Chg (fun _ => False) w1 w2) → ∃ b O', e = .returned (.bool b) ∧ InvB YAt w.heap.size ca cl cc (i + 1) O' w2 ∧ Chg O w1 w2 ∧
        (b = false → kB.contains (S (i * 10)) = false ∧ S (i * 10) ≠ 2 ∧ S (i * 10) ≠ 6) := by
      rintro e w2 ⟨he, hq⟩
      exact fin e w2 he ⟨N, ma, mc, os, h.frame hY (fun k _ h2 => hq.block k (by have := h.nw; omega) (fun hn => hn)) hq.size, by omega⟩ (hq.mono (fun _ _ hx => hx.elim))
    -- a call on a market
    have onM : ∀ (n : Nat) (o : MkO), os[n]? = some o → ∀ (e : Ending) w2, (e = .returned (.bool true) ∧ ∃ W, Chg (fun _ => False) w1 W ∧ ∃ m', PairTo YAt W o.y o.r o.F m' w2) → ∃ b O', e = .returned (.bool b) ∧ InvB YAt w.heap.size ca cl cc (i + 1) O' w2 ∧ Chg O w1 w2 ∧
        (b = false → kB.contains (S (i * 10)) = false ∧ S (i * 10) ≠ 2 ∧ S (i * 10) ≠ 6) := by
      rintro n o ho e w2 ⟨he, W, hW, m', hto⟩
      obtain ⟨os', hlen, h'⟩ := h.turned hY ho hW hto
      obtain ⟨F', _, hcF, _⟩ := hto
      have a2 := (h.at' n o ho).2.1
      refine fin e w2 he ⟨_, ma, mc, os', h', by omega⟩ ((hW.mono (O' := O) (fun _ _ hx => hx.elim)).trans hcF (fun x hx hxx => (hO x).2 ?_))
      have := a2 x hxx
      omega
    have cell2 := h.box.cell 2
    simp at cell2
    have pickM : os.length ≠ 0 → ∃ (n : Nat) (o : MkO) (gb : Nat), pickZ (S (i * 10 + 1)) os.length = (n : Int) ∧ n < os.length ∧ os[n]? = some o ∧ ma = some ⟨gb, 0, none⟩ ∧ w1.cell? ⟨gb, n * 2, none⟩ = some (.pointer (some ⟨o.y, 0, none⟩)) ∧ w1.cell? ⟨gb, n * 2 + 1, none⟩ = some (.pointer (some ⟨o.r, 0, none⟩)) := by
      intro hm
      obtain ⟨n, hn, hnl⟩ : ∃ n : Nat, pickZ (S (i * 10 + 1)) os.length = (n : Int) ∧ n < os.length := by
        have := pickZ_lt (S (i * 10 + 1)) os.length (by omega)
        exact ⟨(pickZ (S (i * 10 + 1)) os.length).toNat, by omega, by omega⟩
      obtain ⟨o, ho⟩ : ∃ o, os[n]? = some o := ⟨_, List.getElem?_eq_getElem hnl⟩
      obtain ⟨gb, hma⟩ : ∃ gb, ma = some ⟨gb, 0, none⟩ := by
        rcases h.own.2 with ⟨_, h0⟩ | ⟨x, cap, cu, hv, _⟩
        · omega
        · simp only [Value.slice.injEq] at hv
          exact ⟨x, hv.1⟩
      subst hma
      have c0 := h.own.cells (g := gb) rfl (n * 2) _ (mptrs_get0 os n o ho)
      have c1 := h.own.cells (g := gb) rfl (n * 2 + 1) _ (mptrs_get1 os n o ho)
      rw [Addr.add_lit] at c0 c1
      simp only [Nat.zero_add] at c0 c1
      exact ⟨n, o, gb, hn, hnl, ho, rfl, c0, c1⟩
    have pairW : ∀ (n : Nat) (o : MkO), os[n]? = some o → ∀ W, Chg (fun _ => False) w1 W → PairM YAt W o.y o.r o.F o.m := fun n o ho W hW =>
      PairM.frame hY (h.at' n o ho).1 (fun k hk => hW.block k (PairM.lt hY (h.at' n o ho).1 k hk) (fun h => h))
    rcases contains9 hp with hk | hk | hk | hk | hk | hk | hk | hk | hk
    · have e : opAt S i = .agg #[.int .i64 6, .int .i64 (S (i * 10 + 1)), .int .i64 (S (i * 10 + 2)), .int .i64 (S (i * 10 + 3)), .int .i64 (S (i * 10 + 4)), .int .i64 (S (i * 10 + 5)), .int .i64 (S (i * 10 + 6)), .int .i64 (S (i * 10 + 7)), .int .i64 (S (i * 10 + 8)), .int .i64 (S (i * 10 + 9))] := by
        unfold opAt; rw [hk]
      rw [e]
      have hcell := h.box.cell 0
      simp at hcell
      rcases hc with rfl | ⟨b0, off, Z, hcl0, rfl, hbl, hZ, _⟩
      · exact (step_open_none w.heap.size cc ca _ _ _ _ ⟨S (i * 10 + 5), S (i * 10 + 6), S (i * 10 + 7), S (i * 10 + 8), S (i * 10 + 9)⟩ w1 hcell).mono quiet
      · have hz : ∀ t, t < cl * 5 → w1.cell? ⟨b0, off + t, none⟩ = some (.int .i64 (Z t)) := fun t ht => by
          rw [hbel.cell (by have := hb.size; show b0 < _; omega), hb.cell (by exact hbl)]
          exact hZ t ht
        obtain ⟨n, hn, hnl⟩ : ∃ n : Nat, pickZ (S (i * 10 + 1)) cl = (n : Int) ∧ n < cl := by
          have := pickZ_lt (S (i * 10 + 1)) cl (by omega)
          exact ⟨(pickZ (S (i * 10 + 1)) cl).toNat, by omega, by omega⟩
        have boxW : ∀ W, Chg (fun _ => False) w1 W → BoxAt W w.heap.size (.slice (some ⟨b0, off, none⟩) cl cc) (.slice none 0 0) (.slice ma os.length mc) (.slice none 0 0) (.slice none 0 0) ∧ W.ownsRow 0 134 2 (.slice ma os.length mc) os.length (mptrs os) := fun W hW =>
          ⟨h.box.chg hW (fun h => h), ownsRow_keep h.own (fun k hk => hW.block k ((h.own.lt k hk).2) (fun h => h))⟩
        cases hck : cfgOk ⟨Z (n * 5), Z (n * 5 + 1), Z (n * 5 + 2), Z (n * 5 + 3), Z (n * 5 + 4)⟩
        · refine (step_open_some w.heap.size b0 off cl cc n Z _ _ _ _ ⟨S (i * 10 + 5), S (i * 10 + 6), S (i * 10 + 7), S (i * 10 + 8), S (i * 10 + 9)⟩ w1 (fun W w' => Chg (fun _ => False) W w') hcell hcl0 (by omega) (I 1 (by omega)).1 (I 1 (by omega)).2 hn hnl hz (fun W hW => opened_bad hY w.heap.size _ W hck)).mono ?_
          rintro e w2 ⟨he, W, hW, hq⟩
          exact quiet e w2 ⟨he, hW.trans hq (fun _ _ h => h)⟩
        · refine (step_open_some w.heap.size b0 off cl cc n Z _ _ _ _ ⟨S (i * 10 + 5), S (i * 10 + 6), S (i * 10 + 7), S (i * 10 + 8), S (i * 10 + 9)⟩ w1 (fun W w' => ∃ o, Opened YAt (W.alloc o) w.heap.size os.length ⟨Z (n * 5), Z (n * 5 + 1), Z (n * 5 + 2), Z (n * 5 + 3), Z (n * 5 + 4)⟩ (.slice (some ⟨b0, off, none⟩) cl cc) (.slice none 0 0) (.slice ma os.length mc) (.slice none 0 0) (.slice none 0 0) (mptrs os) w') hcell hcl0 (by omega) (I 1 (by omega)).1 (I 1 (by omega)).2 hn hnl hz
            (fun W hW => opened_ok hY w.heap.size os.length _ ma mc _ _ _ _ (mptrs os) W hck (by omega) (boxW W hW).1 (boxW W hW).2)).mono ?_
          rintro e w2 ⟨he, W, hW, o, hop⟩
          obtain ⟨ma', mc', os', hlen, h'⟩ := h.added hY (hW.alloc o) hop
          obtain ⟨g, cap, y, r, F, _, _, _, _, _, hcF, _⟩ := hop
          refine fin e w2 he ⟨_, ma', mc', os', h', by omega⟩ (((hW.alloc o).mono (O' := O) (fun _ _ hx => hx.elim)).trans hcF (fun x hx hxx => (hO x).2 ?_))
          rcases hxx with rfl | hxx
          · exact ⟨Nat.le_refl _, h.bn⟩
          · have := h.ownB x hxx; omega
    · have e : opAt S i = .agg #[.int .i64 7, .int .i64 (S (i * 10 + 1)), .int .i64 (S (i * 10 + 2)), .int .i64 (S (i * 10 + 3)), .int .i64 (S (i * 10 + 4)), .int .i64 (S (i * 10 + 5)), .int .i64 (S (i * 10 + 6)), .int .i64 (S (i * 10 + 7)), .int .i64 (S (i * 10 + 8)), .int .i64 (S (i * 10 + 9))] := by
        unfold opAt; rw [hk]
      rw [e]
      by_cases hm : os.length = 0
      · rw [hm] at cell2
        exact (step_m7_none w.heap.size mc ma _ _ _ _ ⟨S (i * 10 + 5), S (i * 10 + 6), S (i * 10 + 7), S (i * 10 + 8), S (i * 10 + 9)⟩ w1 cell2).mono quiet
      · obtain ⟨n, o, gb, hn, hnl, ho, hma, c0, c1⟩ := pickM hm
        rw [hma] at cell2
        exact (step_m7_some w.heap.size gb os.length mc n o.y o.r _ _ _ _ ⟨S (i * 10 + 5), S (i * 10 + 6), S (i * 10 + 7), S (i * 10 + 8), S (i * 10 + 9)⟩ w1 (fun W w' => ∃ m', PairTo YAt W o.y o.r o.F m' w') cell2 (by omega) hn hnl (I 1 (by omega)).1 (I 1 (by omega)).2 c0 c1 (fun W hW => (bid_submit hY o.y o.r o.F o.m _ _ _ _ ⟨S (i * 10 + 5), S (i * 10 + 6), S (i * 10 + 7), S (i * 10 + 8), S (i * 10 + 9)⟩ W (pairW n o ho W hW) (I 2 (by omega)) (I 3 (by omega)) ⟨I 5 (by omega), I 6 (by omega), I 7 (by omega), I 8 (by omega), I 9 (by omega)⟩).mono (fun e w' ⟨m', he, ht⟩ => ⟨he, m', ht⟩))).mono (onM n o ho)
    · have e : opAt S i = .agg #[.int .i64 8, .int .i64 (S (i * 10 + 1)), .int .i64 (S (i * 10 + 2)), .int .i64 (S (i * 10 + 3)), .int .i64 (S (i * 10 + 4)), .int .i64 (S (i * 10 + 5)), .int .i64 (S (i * 10 + 6)), .int .i64 (S (i * 10 + 7)), .int .i64 (S (i * 10 + 8)), .int .i64 (S (i * 10 + 9))] := by
        unfold opAt; rw [hk]
      rw [e]
      by_cases hm : os.length = 0
      · rw [hm] at cell2
        exact (step_m8_none w.heap.size mc ma _ _ _ _ ⟨S (i * 10 + 5), S (i * 10 + 6), S (i * 10 + 7), S (i * 10 + 8), S (i * 10 + 9)⟩ w1 cell2).mono quiet
      · obtain ⟨n, o, gb, hn, hnl, ho, hma, c0, c1⟩ := pickM hm
        rw [hma] at cell2
        exact (step_m8_some w.heap.size gb os.length mc n o.y o.r _ _ _ _ ⟨S (i * 10 + 5), S (i * 10 + 6), S (i * 10 + 7), S (i * 10 + 8), S (i * 10 + 9)⟩ w1 (fun W w' => ∃ m', PairTo YAt W o.y o.r o.F m' w') cell2 (by omega) hn hnl (I 1 (by omega)).1 (I 1 (by omega)).2 c0 c1 (fun W hW => (bid_cancel hY o.y o.r o.F o.m _ _ _ _ ⟨S (i * 10 + 5), S (i * 10 + 6), S (i * 10 + 7), S (i * 10 + 8), S (i * 10 + 9)⟩ W (pairW n o ho W hW) (I 2 (by omega)) (I 3 (by omega))).mono (fun e w' ⟨m', he, ht⟩ => ⟨he, m', ht⟩))).mono (onM n o ho)
    · have e : opAt S i = .agg #[.int .i64 9, .int .i64 (S (i * 10 + 1)), .int .i64 (S (i * 10 + 2)), .int .i64 (S (i * 10 + 3)), .int .i64 (S (i * 10 + 4)), .int .i64 (S (i * 10 + 5)), .int .i64 (S (i * 10 + 6)), .int .i64 (S (i * 10 + 7)), .int .i64 (S (i * 10 + 8)), .int .i64 (S (i * 10 + 9))] := by
        unfold opAt; rw [hk]
      rw [e]
      by_cases hm : os.length = 0
      · rw [hm] at cell2
        exact (step_m9_none w.heap.size mc ma _ _ _ _ ⟨S (i * 10 + 5), S (i * 10 + 6), S (i * 10 + 7), S (i * 10 + 8), S (i * 10 + 9)⟩ w1 cell2).mono quiet
      · obtain ⟨n, o, gb, hn, hnl, ho, hma, c0, c1⟩ := pickM hm
        rw [hma] at cell2
        exact (step_m9_some w.heap.size gb os.length mc n o.y o.r _ _ _ _ ⟨S (i * 10 + 5), S (i * 10 + 6), S (i * 10 + 7), S (i * 10 + 8), S (i * 10 + 9)⟩ w1 (fun W w' => ∃ m', PairTo YAt W o.y o.r o.F m' w') cell2 (by omega) hn hnl (I 1 (by omega)).1 (I 1 (by omega)).2 c0 c1 (fun W hW => (bid_suspend hY o.y o.r o.F o.m _ _ _ _ ⟨S (i * 10 + 5), S (i * 10 + 6), S (i * 10 + 7), S (i * 10 + 8), S (i * 10 + 9)⟩ W (pairW n o ho W hW) (I 2 (by omega)) (I 3 (by omega))).mono (fun e w' ⟨m', he, ht⟩ => ⟨he, m', ht⟩))).mono (onM n o ho)
    · have e : opAt S i = .agg #[.int .i64 10, .int .i64 (S (i * 10 + 1)), .int .i64 (S (i * 10 + 2)), .int .i64 (S (i * 10 + 3)), .int .i64 (S (i * 10 + 4)), .int .i64 (S (i * 10 + 5)), .int .i64 (S (i * 10 + 6)), .int .i64 (S (i * 10 + 7)), .int .i64 (S (i * 10 + 8)), .int .i64 (S (i * 10 + 9))] := by
        unfold opAt; rw [hk]
      rw [e]
      by_cases hm : os.length = 0
      · rw [hm] at cell2
        exact (step_m10_none w.heap.size mc ma _ _ _ _ ⟨S (i * 10 + 5), S (i * 10 + 6), S (i * 10 + 7), S (i * 10 + 8), S (i * 10 + 9)⟩ w1 cell2).mono quiet
      · obtain ⟨n, o, gb, hn, hnl, ho, hma, c0, c1⟩ := pickM hm
        rw [hma] at cell2
        exact (step_m10_some w.heap.size gb os.length mc n o.y o.r _ _ _ _ ⟨S (i * 10 + 5), S (i * 10 + 6), S (i * 10 + 7), S (i * 10 + 8), S (i * 10 + 9)⟩ w1 (fun W w' => ∃ m', PairTo YAt W o.y o.r o.F m' w') cell2 (by omega) hn hnl (I 1 (by omega)).1 (I 1 (by omega)).2 c0 c1 (fun W hW => (bid_capacity hY o.y o.r o.F o.m _ _ _ _ ⟨S (i * 10 + 5), S (i * 10 + 6), S (i * 10 + 7), S (i * 10 + 8), S (i * 10 + 9)⟩ W (pairW n o ho W hW) (I 2 (by omega)) (I 3 (by omega)) (I 4 (by omega))).mono (fun e w' ⟨m', he, ht⟩ => ⟨he, m', ht⟩))).mono (onM n o ho)
    · have e : opAt S i = .agg #[.int .i64 11, .int .i64 (S (i * 10 + 1)), .int .i64 (S (i * 10 + 2)), .int .i64 (S (i * 10 + 3)), .int .i64 (S (i * 10 + 4)), .int .i64 (S (i * 10 + 5)), .int .i64 (S (i * 10 + 6)), .int .i64 (S (i * 10 + 7)), .int .i64 (S (i * 10 + 8)), .int .i64 (S (i * 10 + 9))] := by
        unfold opAt; rw [hk]
      rw [e]
      by_cases hm : os.length = 0
      · rw [hm] at cell2
        exact (step_m11_none w.heap.size mc ma _ _ _ _ ⟨S (i * 10 + 5), S (i * 10 + 6), S (i * 10 + 7), S (i * 10 + 8), S (i * 10 + 9)⟩ w1 cell2).mono quiet
      · obtain ⟨n, o, gb, hn, hnl, ho, hma, c0, c1⟩ := pickM hm
        rw [hma] at cell2
        exact (step_m11_some w.heap.size gb os.length mc n o.y o.r _ _ _ _ ⟨S (i * 10 + 5), S (i * 10 + 6), S (i * 10 + 7), S (i * 10 + 8), S (i * 10 + 9)⟩ w1 (fun W w' => ∃ m', PairTo YAt W o.y o.r o.F m' w') cell2 (by omega) hn hnl (I 1 (by omega)).1 (I 1 (by omega)).2 c0 c1 (fun W hW => (looked_now hY o.y o.r o.F o.m _ _ _ _ ⟨S (i * 10 + 5), S (i * 10 + 6), S (i * 10 + 7), S (i * 10 + 8), S (i * 10 + 9)⟩ W (pairW n o ho W hW) ).mono (fun e w' ⟨he, ht⟩ => ⟨he, _, ht⟩))).mono (onM n o ho)
    · have e : opAt S i = .agg #[.int .i64 12, .int .i64 (S (i * 10 + 1)), .int .i64 (S (i * 10 + 2)), .int .i64 (S (i * 10 + 3)), .int .i64 (S (i * 10 + 4)), .int .i64 (S (i * 10 + 5)), .int .i64 (S (i * 10 + 6)), .int .i64 (S (i * 10 + 7)), .int .i64 (S (i * 10 + 8)), .int .i64 (S (i * 10 + 9))] := by
        unfold opAt; rw [hk]
      rw [e]
      by_cases hm : os.length = 0
      · rw [hm] at cell2
        exact (step_m12_none w.heap.size mc ma _ _ _ _ ⟨S (i * 10 + 5), S (i * 10 + 6), S (i * 10 + 7), S (i * 10 + 8), S (i * 10 + 9)⟩ w1 cell2).mono quiet
      · obtain ⟨n, o, gb, hn, hnl, ho, hma, c0, c1⟩ := pickM hm
        rw [hma] at cell2
        exact (step_m12_some w.heap.size gb os.length mc n o.y o.r _ _ _ _ ⟨S (i * 10 + 5), S (i * 10 + 6), S (i * 10 + 7), S (i * 10 + 8), S (i * 10 + 9)⟩ w1 (fun W w' => ∃ m', PairTo YAt W o.y o.r o.F m' w') cell2 (by omega) hn hnl (I 1 (by omega)).1 (I 1 (by omega)).2 c0 c1 (fun W hW => (looked_left hY o.y o.r o.F o.m _ _ _ _ ⟨S (i * 10 + 5), S (i * 10 + 6), S (i * 10 + 7), S (i * 10 + 8), S (i * 10 + 9)⟩ W (pairW n o ho W hW) ).mono (fun e w' ⟨he, ht⟩ => ⟨he, _, ht⟩))).mono (onM n o ho)
    · have e : opAt S i = .agg #[.int .i64 13, .int .i64 (S (i * 10 + 1)), .int .i64 (S (i * 10 + 2)), .int .i64 (S (i * 10 + 3)), .int .i64 (S (i * 10 + 4)), .int .i64 (S (i * 10 + 5)), .int .i64 (S (i * 10 + 6)), .int .i64 (S (i * 10 + 7)), .int .i64 (S (i * 10 + 8)), .int .i64 (S (i * 10 + 9))] := by
        unfold opAt; rw [hk]
      rw [e]
      by_cases hm : os.length = 0
      · rw [hm] at cell2
        exact (step_m13_none w.heap.size mc ma _ _ _ _ ⟨S (i * 10 + 5), S (i * 10 + 6), S (i * 10 + 7), S (i * 10 + 8), S (i * 10 + 9)⟩ w1 cell2).mono quiet
      · obtain ⟨n, o, gb, hn, hnl, ho, hma, c0, c1⟩ := pickM hm
        rw [hma] at cell2
        exact (step_m13_some w.heap.size gb os.length mc n o.y o.r _ _ _ _ ⟨S (i * 10 + 5), S (i * 10 + 6), S (i * 10 + 7), S (i * 10 + 8), S (i * 10 + 9)⟩ w1 (fun W w' => ∃ m', PairTo YAt W o.y o.r o.F m' w') cell2 (by omega) hn hnl (I 1 (by omega)).1 (I 1 (by omega)).2 c0 c1 (fun W hW => (looked_look hY o.y o.r o.F o.m _ _ _ _ ⟨S (i * 10 + 5), S (i * 10 + 6), S (i * 10 + 7), S (i * 10 + 8), S (i * 10 + 9)⟩ W (pairW n o ho W hW) (I 2 (by omega)) (I 3 (by omega))).mono (fun e w' ⟨he, ht⟩ => ⟨he, _, ht⟩))).mono (onM n o ho)
    · have e : opAt S i = .agg #[.int .i64 14, .int .i64 (S (i * 10 + 1)), .int .i64 (S (i * 10 + 2)), .int .i64 (S (i * 10 + 3)), .int .i64 (S (i * 10 + 4)), .int .i64 (S (i * 10 + 5)), .int .i64 (S (i * 10 + 6)), .int .i64 (S (i * 10 + 7)), .int .i64 (S (i * 10 + 8)), .int .i64 (S (i * 10 + 9))] := by
        unfold opAt; rw [hk]
      rw [e]
      by_cases hm : os.length = 0
      · rw [hm] at cell2
        exact (step_m14_none w.heap.size mc ma _ _ _ _ ⟨S (i * 10 + 5), S (i * 10 + 6), S (i * 10 + 7), S (i * 10 + 8), S (i * 10 + 9)⟩ w1 cell2).mono quiet
      · obtain ⟨n, o, gb, hn, hnl, ho, hma, c0, c1⟩ := pickM hm
        rw [hma] at cell2
        exact (step_m14_some w.heap.size gb os.length mc n o.y o.r _ _ _ _ ⟨S (i * 10 + 5), S (i * 10 + 6), S (i * 10 + 7), S (i * 10 + 8), S (i * 10 + 9)⟩ w1 (fun W w' => ∃ m', PairTo YAt W o.y o.r o.F m' w') cell2 (by omega) hn hnl (I 1 (by omega)).1 (I 1 (by omega)).2 c0 c1 (fun W hW => (looked_free hY o.y o.r o.F o.m _ _ _ _ ⟨S (i * 10 + 5), S (i * 10 + 6), S (i * 10 + 7), S (i * 10 + 8), S (i * 10 + 9)⟩ W (pairW n o ho W hW) (I 2 (by omega))).mono (fun e w' ⟨he, ht⟩ => ⟨he, _, ht⟩))).mono (onM n o ho)
  · rintro i O w1 ⟨N, ma, mc, os, h, hl, hO⟩
    have h3 := h.box.cell 3
    have h4 := h.box.cell 4
    simp at h3 h4
    refine (looks_nil w.heap.size w1 h3 h4).mono ?_
    rintro e w2 ⟨rfl, rfl⟩
    exact ⟨rfl, Chg.refl _ _⟩

end Go.Proofs.Ytccfademkgjeiaa
