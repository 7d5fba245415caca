import Derived.Test.YtminceigjejipaaGreatRow8
import Derived.Test.YtminceigjejipaaGreatRow7
namespace Go.Proofs.YtminceigjejipaaGreat
open Go.RowKit

/-- a row of the program and the document's, which hold the same -/
structure PairAt (w : World) (pc gc pr gr n cc cr : Nat) (Z : Nat → Int) : Prop where
  c : RowAt 101 w pc gc n cc Z
  r : RowAt 103 w pr gr n cr Z
  ne : gc ≠ gr
  n1 : 1 ≤ n
  n2 : n ≤ 4096
  range : InRange n Z

section
variable {w : World} {pc gc pr gr n cc cr : Nat} {Z : Nat → Int}
theorem PairAt.frame {w' : World} (h : PairAt w pc gc pr gr n cc cr Z) (h1 : w'.heap[pc]? = w.heap[pc]?) (h2 : w'.heap[gc]? = w.heap[gc]?) (h3 : w'.heap[pr]? = w.heap[pr]?) (h4 : w'.heap[gr]? = w.heap[gr]?) : PairAt w' pc gc pr gr n cc cr Z :=
  ⟨h.c.frame h1 h2, h.r.frame h3 h4, h.ne, h.n1, h.n2, h.range⟩
theorem PairAt.chg {O : Nat → Prop} {w' : World} (h : PairAt w pc gc pr gr n cc cr Z) (hc : Chg O w w') (h1 : ¬ O pc) (h2 : ¬ O gc) (h3 : ¬ O pr) (h4 : ¬ O gr) : PairAt w' pc gc pr gr n cc cr Z :=
  h.frame (hc.block _ h.c.ltp h1) (hc.block _ h.c.ltg h2) (hc.block _ h.r.ltp h3) (hc.block _ h.r.ltg h4)
theorem RowAt.chg {T : TypeId} {p g cap : Nat} {O : Nat → Prop} {w' : World} (h : RowAt T w p g n cap Z) (hc : Chg O w w') (h1 : ¬ O p) (h2 : ¬ O g) : RowAt T w' p g n cap Z :=
  h.frame (hc.block _ h.ltp h1) (hc.block _ h.ltg h2)
/-- blocks of other types -/
theorem RowAt.apart {T T' : TypeId} {p g p' g' cap cap' n' : Nat} {Z' : Nat → Int} (h : RowAt T w p g n cap Z) (h' : RowAt T' w p' g' n' cap' Z') (hT : T ≠ 3) (hT' : T' ≠ 3) (hTT : T ≠ T') : p ≠ p' ∧ p ≠ g' ∧ g ≠ p' := by
  obtain ⟨cur, a1, _⟩ := h.hg
  obtain ⟨cur', a1', _⟩ := h'.hg
  refine ⟨?_, ?_, ?_⟩
  · rintro rfl
    have := h.hp
    rw [h'.hp] at this
    simp at this
    exact hTT this.2.symm
  · rintro rfl
    have := h.hp
    rw [a1'] at this
    simp at this
    exact hT this.2.symm
  · rintro rfl
    rw [h'.hp] at a1
    simp at a1
    exact hT' a1.2
end

theorem boxes (w : World) (pc pr : Nat) (k a b c d j1 j2 j3 j4 j5 : Int) (w2 : World)
    (hw2 : w2 = (w.alloc (.cells #[.pointer (some ⟨pc, 0, none⟩), .pointer (some ⟨pr, 0, none⟩)] 46)).alloc (.cells #[.int .i64 k, .int .i64 a, .int .i64 b, .int .i64 c, .int .i64 d, .int .i64 j1, .int .i64 j2, .int .i64 j3, .int .i64 j4, .int .i64 j5] 37)) :
    Chg (fun _ => False) w w2 ∧ w2.heap.size = w.heap.size + 2 ∧ w2.cell? ⟨w.heap.size, 0, none⟩ = some (.pointer (some ⟨pc, 0, none⟩)) ∧ w2.cell? ⟨w.heap.size, 1, none⟩ = some (.pointer (some ⟨pr, 0, none⟩)) ∧
      w2.cell? ⟨w.heap.size + 1, 2, none⟩ = some (.int .i64 b) ∧ w2.cell? ⟨w.heap.size + 1, 3, none⟩ = some (.int .i64 c) ∧ w2.cell? ⟨w.heap.size + 1, 4, none⟩ = some (.int .i64 d) := by
  subst hw2
  refine ⟨((Chg.refl _ _).alloc _).alloc _, by simp, ?_, ?_, by simp, by simp, by simp⟩
  · rw [World.cell?_alloc_lt _ _ _ (by simp)]; simp
  · rw [World.cell?_alloc_lt _ _ _ (by simp)]; simp

set_option maxRecDepth 100000 in
set_option maxHeartbeats 2000000 in
theorem onRow_add (pc gc pr gr n cc cr : Nat) (Z : Nat → Int) (a b c d j1 j2 j3 j4 j5 : Int) (w : World) (hP : PairAt w pc gc pr gr n cc cr Z) (_ : b ≤ 9223372036854775807) :
    Calls Tryz.prog 14 #[.agg #[.pointer (some ⟨pc, 0, none⟩), .pointer (some ⟨pr, 0, none⟩)], .agg #[.int .i64 3, .int .i64 a, .int .i64 b, .int .i64 c, .int .i64 d, .int .i64 j1, .int .i64 j2, .int .i64 j3, .int .i64 j4, .int .i64 j5]] w fun e w' => ∃ Z', e = .returned (.bool true) ∧ PairAt w' pc gc pr gr n cc cr Z' ∧ Chg (fun k => k = gc ∨ k = gr) w w' := by
  have HP := hide hP
  have HL := hide (show gc < w.heap.size ∧ gr < w.heap.size from ⟨hP.c.ltg, hP.r.ltg⟩)
  have HA := hide (hP.c.apart hP.r (by decide) (by decide) (by decide))
  have HNE := hide (show pr ≠ gr ∧ pc ≠ gc from ⟨hP.r.ne (by decide), hP.c.ne (by decide)⟩)
  clear hP
  go_enter Tryz.func14, Tryz.ntmps14
  go_wp2_with fail
  obtain ⟨w2, hw2⟩ : ∃ w2, w2 = (w.alloc (.cells #[.pointer (some ⟨pc, 0, none⟩), .pointer (some ⟨pr, 0, none⟩)] 46)).alloc (.cells #[.int .i64 3, .int .i64 a, .int .i64 b, .int .i64 c, .int .i64 d, .int .i64 j1, .int .i64 j2, .int .i64 j3, .int .i64 j4, .int .i64 j5] 37) := ⟨_, rfl⟩
  rw [← hw2]
  obtain ⟨hch, hsz, b0, b1, o2, o3, o4⟩ := boxes w pc pr 3 a b c d j1 j2 j3 j4 j5 w2 hw2
  have HCH := hide hch
  have HSZ := hide hsz
  have hrc : RowAt 101 w2 pc gc n cc Z := HP.out.c.chg hch (fun h => h) (fun h => h)
  have hrr : RowAt 103 w2 pr gr n cr Z := HP.out.r.chg hch (fun h => h) (fun h => h)
  clear hw2 hch hsz
  refine (calAdd_any pc gc n cc b c d Z _ hrc HP.out.n2 HP.out.range).mono ?_
  rintro e w3 ⟨z, Z', rfl, hres, hrc', hchg⟩
  have hlt := HL.out
  have hszv := HSZ.out
  have q1 : w3.cell? ⟨w.heap.size, 1, none⟩ = some (.pointer (some ⟨pr, 0, none⟩)) := by rw [hchg.cell (by show w.heap.size < _; omega) (by show ¬ w.heap.size = gc; omega)]; exact b1
  have q2 : w3.cell? ⟨w.heap.size + 1, 2, none⟩ = some (.int .i64 b) := by rw [hchg.cell (by show w.heap.size + 1 < _; omega) (by show ¬ w.heap.size + 1 = gc; omega)]; exact o2
  have q3 : w3.cell? ⟨w.heap.size + 1, 3, none⟩ = some (.int .i64 c) := by rw [hchg.cell (by show w.heap.size + 1 < _; omega) (by show ¬ w.heap.size + 1 = gc; omega)]; exact o3
  have q4 : w3.cell? ⟨w.heap.size + 1, 4, none⟩ = some (.int .i64 d) := by rw [hchg.cell (by show w.heap.size + 1 < _; omega) (by show ¬ w.heap.size + 1 = gc; omega)]; exact o4
  have hrr2 : RowAt 103 w3 pr gr n cr Z := hrr.chg hchg (fun h => HA.out.2.2 h.symm) (fun h => HP.out.ne h.symm)
  have HRES := hide hres
  have HRC := hide hrc'
  have HC3 := hide hchg
  clear hszv hlt b0 b1 o2 o3 o4 hrr hrc hres hrc' hchg
  go_wp2_with fail
  refine (refAdd_any pr gr n cr b c d Z _ hrr2 HP.out.n2 HP.out.range).mono ?_
  rintro e w4 ⟨z2, Z2, rfl, hres2, hrr', hchg2⟩
  obtain ⟨rfl, rfl⟩ := HRES.out.unique hres2
  have HF := hide (show PairAt w4 pc gc pr gr n cc cr Z' ∧ Chg (fun k => k = gc ∨ k = gr) w w4 from ⟨⟨HRC.out.chg hchg2 (fun h => HA.out.2.1 h) (fun h => HP.out.ne h), hrr', HP.out.ne, HP.out.n1, HP.out.n2, HRES.out.range HP.out.range⟩,
    ((HCH.out.mono (O' := fun k => k = gc ∨ k = gr) (fun _ _ h => h.elim)).trans HC3.out (fun _ _ h => .inl h)).trans hchg2 (fun _ _ h => .inr h)⟩)
  clear hres2 hrr' hchg2 hrr2 q1 q2 q3 q4
  go_wp2
  go_ret
  exact ⟨Z', ret_bool (by simp), HF.out.1, HF.out.2⟩

set_option maxRecDepth 100000 in
set_option maxHeartbeats 2000000 in
theorem onRow_min (pc gc pr gr n cc cr : Nat) (Z : Nat → Int) (a b c d j1 j2 j3 j4 j5 : Int) (w : World) (hP : PairAt w pc gc pr gr n cc cr Z) (_ : b ≤ 9223372036854775807) :
    Calls Tryz.prog 14 #[.agg #[.pointer (some ⟨pc, 0, none⟩), .pointer (some ⟨pr, 0, none⟩)], .agg #[.int .i64 4, .int .i64 a, .int .i64 b, .int .i64 c, .int .i64 d, .int .i64 j1, .int .i64 j2, .int .i64 j3, .int .i64 j4, .int .i64 j5]] w fun e w' => ∃ Z', e = .returned (.bool true) ∧ PairAt w' pc gc pr gr n cc cr Z' ∧ Chg (fun k => k = gc ∨ k = gr) w w' := by
  have HP := hide hP
  have HL := hide (show gc < w.heap.size ∧ gr < w.heap.size from ⟨hP.c.ltg, hP.r.ltg⟩)
  have HA := hide (hP.c.apart hP.r (by decide) (by decide) (by decide))
  have HNE := hide (show pr ≠ gr ∧ pc ≠ gc from ⟨hP.r.ne (by decide), hP.c.ne (by decide)⟩)
  clear hP
  go_enter Tryz.func14, Tryz.ntmps14
  go_wp2_with fail
  obtain ⟨w2, hw2⟩ : ∃ w2, w2 = (w.alloc (.cells #[.pointer (some ⟨pc, 0, none⟩), .pointer (some ⟨pr, 0, none⟩)] 46)).alloc (.cells #[.int .i64 4, .int .i64 a, .int .i64 b, .int .i64 c, .int .i64 d, .int .i64 j1, .int .i64 j2, .int .i64 j3, .int .i64 j4, .int .i64 j5] 37) := ⟨_, rfl⟩
  rw [← hw2]
  obtain ⟨hch, hsz, b0, b1, o2, o3, o4⟩ := boxes w pc pr 4 a b c d j1 j2 j3 j4 j5 w2 hw2
  have HCH := hide hch
  have HSZ := hide hsz
  have hrc : RowAt 101 w2 pc gc n cc Z := HP.out.c.chg hch (fun h => h) (fun h => h)
  have hrr : RowAt 103 w2 pr gr n cr Z := HP.out.r.chg hch (fun h => h) (fun h => h)
  clear hw2 hch hsz
  refine (calMin_any pc gc n cc b c Z _ hrc HP.out.n2).mono ?_
  rintro e w3 ⟨m, z, rfl, hres, hw⟩
  subst w3
  have hrr2 := hrr
  have HRES := hide hres
  clear hrr hrc hres
  go_wp2_with fail
  refine (refMin_any pr gr n cr b c Z _ hrr2 HP.out.n2).mono ?_
  rintro e w4 ⟨m2, z2, rfl, hres2, hw⟩
  subst w4
  obtain ⟨rfl, rfl⟩ := HRES.out.unique hres2
  clear hres2 hrr2
  go_wp2
  go_ret
  exact ⟨Z, ret_bool (by simp), HP.out.chg HCH.out (fun h => h) (fun h => h) (fun h => h) (fun h => h), HCH.out.mono (fun _ _ h => h.elim)⟩

set_option maxRecDepth 100000 in
set_option maxHeartbeats 2000000 in
theorem onRow_fit (pc gc pr gr n cc cr : Nat) (Z : Nat → Int) (a b c d j1 j2 j3 j4 j5 : Int) (w : World) (hP : PairAt w pc gc pr gr n cc cr Z) (hb2 : b ≤ 9223372036854775807) :
    Calls Tryz.prog 14 #[.agg #[.pointer (some ⟨pc, 0, none⟩), .pointer (some ⟨pr, 0, none⟩)], .agg #[.int .i64 5, .int .i64 a, .int .i64 b, .int .i64 c, .int .i64 d, .int .i64 j1, .int .i64 j2, .int .i64 j3, .int .i64 j4, .int .i64 j5]] w fun e w' => ∃ Z', e = .returned (.bool true) ∧ PairAt w' pc gc pr gr n cc cr Z' ∧ Chg (fun k => k = gc ∨ k = gr) w w' := by
  have HP := hide hP
  have HL := hide (show gc < w.heap.size ∧ gr < w.heap.size from ⟨hP.c.ltg, hP.r.ltg⟩)
  have HA := hide (hP.c.apart hP.r (by decide) (by decide) (by decide))
  have HNE := hide (show pr ≠ gr ∧ pc ≠ gc from ⟨hP.r.ne (by decide), hP.c.ne (by decide)⟩)
  clear hP
  go_enter Tryz.func14, Tryz.ntmps14
  go_wp2_with fail
  obtain ⟨w2, hw2⟩ : ∃ w2, w2 = (w.alloc (.cells #[.pointer (some ⟨pc, 0, none⟩), .pointer (some ⟨pr, 0, none⟩)] 46)).alloc (.cells #[.int .i64 5, .int .i64 a, .int .i64 b, .int .i64 c, .int .i64 d, .int .i64 j1, .int .i64 j2, .int .i64 j3, .int .i64 j4, .int .i64 j5] 37) := ⟨_, rfl⟩
  rw [← hw2]
  obtain ⟨hch, hsz, b0, b1, o2, o3, o4⟩ := boxes w pc pr 5 a b c d j1 j2 j3 j4 j5 w2 hw2
  have HCH := hide hch
  have HSZ := hide hsz
  have hrc : RowAt 101 w2 pc gc n cc Z := HP.out.c.chg hch (fun h => h) (fun h => h)
  have hrr : RowAt 103 w2 pr gr n cr Z := HP.out.r.chg hch (fun h => h) (fun h => h)
  clear hw2 hch hsz
  refine (calFit_any pc gc n cc b c d Z _ hrc HP.out.n2 hb2).mono ?_
  rintro e w3 ⟨m, z, rfl, hres, hw⟩
  subst w3
  have hrr2 := hrr
  have HRES := hide hres
  clear hrr hrc hres
  go_wp2_with fail
  refine (refFit_any pr gr n cr b c d Z _ hrr2 HP.out.n2 hb2).mono ?_
  rintro e w4 ⟨m2, z2, rfl, hres2, hw⟩
  subst w4
  obtain ⟨rfl, rfl⟩ := HRES.out.unique hres2
  clear hres2 hrr2
  go_wp2
  go_ret
  exact ⟨Z, ret_bool (by simp), HP.out.chg HCH.out (fun h => h) (fun h => h) (fun h => h) (fun h => h), HCH.out.mono (fun _ _ h => h.elim)⟩
end Go.Proofs.YtminceigjejipaaGreat
