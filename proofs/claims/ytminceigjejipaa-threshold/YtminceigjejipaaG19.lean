import Derived.Test.YtminceigjejipaaG17
import Derived.Deep.Cut
import Derived.Test.YtminceigjejipaaG18
/-
  yardkeep: 'notes' of a bid that arrives now.
-/
namespace Go.Proofs.Ytminceigjejipaa
open Go.RowKit

set_option maxRecDepth 100000 in
set_option maxHeartbeats 8000000 in
theorem notes_bid_lt (p : Nat) (V : BV) (b : BookG) (i now sa sb sc : Int) (j : JobG) (w : World) (hb : BookAt w p V b) (ha : 0 ≤ sa ∧ sa < b.c.ten) (hj : jobIn b.c.ticks j = true) (hat : atOf now j + j.len ≤ j.dl) (h64 : b.c.ticks ≤ 64) (hbl : b.bids.length ≤ 300) (hlt : j.arr < now) :
    Calls Try.prog 19 #[.pointer (some ⟨p, 0, none⟩), .int .i64 i, stepV ⟨1, sa, sb, sc, j⟩, .int .i64 0, .int .i64 now] w fun e w' => e = .returned (.bool true) ∧ BookTo w p V { b with bids := b.bids ++ [knownNew i now ⟨1, sa, sb, sc, j⟩] } w' := by
  unfold stepV
  have hjt := jobIn_true hj
  obtain ⟨ja, jd, jl, ju, jv⟩ := j
  simp only at *
  have HB := hide hb
  have hpl := hb.lt
  have c0 : w.cell? ⟨p, 0, none⟩ = some (.int .i64 b.c.ticks) := hb.cell 0
  have c3 : w.cell? ⟨p, 3, none⟩ = some (.int .i64 b.c.ten) := hb.cell 3
  obtain ⟨w1, hw1⟩ : ∃ w1, w1 = (w.alloc (.cells #[.int .i64 1, .int .i64 sa, .int .i64 sb, .int .i64 sc, .int .i64 ja, .int .i64 jd, .int .i64 jl, .int .i64 ju, .int .i64 jv] 56)).alloc (.cells #[.int .i64 ja, .int .i64 jd, .int .i64 jl, .int .i64 ju, .int .i64 jv] 54) := ⟨_, rfl⟩
  have HC1 : Hid (Chg (fun _ => False) w w1) := by rw [hw1]; exact ((Chg.refl _ _).alloc _).alloc _
  have hb1 : w1.heap[w.heap.size]? = some (.cells #[.int .i64 1, .int .i64 sa, .int .i64 sb, .int .i64 sc, .int .i64 ja, .int .i64 jd, .int .i64 jl, .int .i64 ju, .int .i64 jv] 56 (0, 0)) := by rw [hw1, Below.heap_alloc _ _ _ (by simp)]; exact heap_alloc_new w _
  have hb2 : w1.heap[w.heap.size + 1]? = some (.cells #[.int .i64 ja, .int .i64 jd, .int .i64 jl, .int .i64 ju, .int .i64 jv] 54 (0, 0)) := by
    rw [hw1]
    have := heap_alloc_new (w.alloc (.cells #[.int .i64 1, .int .i64 sa, .int .i64 sb, .int .i64 sc, .int .i64 ja, .int .i64 jd, .int .i64 jl, .int .i64 ju, .int .i64 jv] 56)) (.cells #[.int .i64 ja, .int .i64 jd, .int .i64 jl, .int .i64 ju, .int .i64 jv] 54)
    simpa using this
  have hl2 : w.heap.size + 1 < w1.heap.size := (Array.getElem?_eq_some_iff.1 hb2).1
  have q0 : w1.cell? ⟨w.heap.size, 0, none⟩ = some (.int .i64 1) := by unfold World.cell?; rw [hb1]; rfl
  have q1 : w1.cell? ⟨w.heap.size, 1, none⟩ = some (.int .i64 sa) := by unfold World.cell?; rw [hb1]; rfl
  have q2 : w1.cell? ⟨w.heap.size, 2, none⟩ = some (.int .i64 sb) := by unfold World.cell?; rw [hb1]; rfl
  have r0 : w1.cell? ⟨w.heap.size + 1, 0, none⟩ = some (.int .i64 ja) := by unfold World.cell?; rw [hb2]; rfl
  have r1 : w1.cell? ⟨w.heap.size + 1, 1, none⟩ = some (.int .i64 jd) := by unfold World.cell?; rw [hb2]; rfl
  have r2 : w1.cell? ⟨w.heap.size + 1, 2, none⟩ = some (.int .i64 jl) := by unfold World.cell?; rw [hb2]; rfl
  have r3 : w1.cell? ⟨w.heap.size + 1, 3, none⟩ = some (.int .i64 ju) := by unfold World.cell?; rw [hb2]; rfl
  have r4 : w1.cell? ⟨w.heap.size + 1, 4, none⟩ = some (.int .i64 jv) := by unfold World.cell?; rw [hb2]; rfl
  have x0 : w1.cell? ⟨p, 0, none⟩ = some (.int .i64 b.c.ticks) := by rw [HC1.out.cell (by exact hpl) (fun h => h)]; exact c0
  have x3 : w1.cell? ⟨p, 3, none⟩ = some (.int .i64 b.c.ten) := by rw [HC1.out.cell (by exact hpl) (fun h => h)]; exact c3
  have HBK1 := hide (HB.out.chg0 HC1.out)
  have d1 : decide (sa < 0) = false := by simp; omega
  have d2 : decide (b.c.ten ≤ sa) = false := by simp; omega
  have d3 : decide (jl < 1) = false := by simp; omega
  have d4 : decide (b.c.ticks < jl) = false := by simp; omega
  have d5 : decide (ju < 1) = false := by simp; omega
  have d6 : decide (1000 < ju) = false := by simp; omega
  have d7 : decide (jv < 1) = false := by simp; omega
  have d8 : decide (1048576 < jv) = false := by simp; omega
  have d9 : decide (ja < 0) = false := by simp; omega
  have d10 : decide (b.c.ticks < jd) = false := by simp; omega
  have hge : jl ≤ jd := by unfold atOf at hat; split at hat <;> omega
  have d11 : decide (jd < jl) = false := by simp; omega
  have hws : IntKind.i64.wrap (jd - jl) = jd - jl := by rw [IntKind.wrap_i64]; omega
  obtain ⟨at', hat'⟩ : ∃ x, x = atOf now ⟨ja, jd, jl, ju, jv⟩ := ⟨_, rfl⟩
  have d12 : decide (jd - jl < at') = false := by rw [hat']; simp; omega
  have HKN := hide (show knownCells (knownNew i now ⟨1, sa, sb, sc, ⟨ja, jd, jl, ju, jv⟩⟩) = [.int .i64 sa, .int .i64 sb, .int .i64 ja, .int .i64 jd, .int .i64 jl, .int .i64 ju, .int .i64 jv, .int .i64 at', .int .i64 i, .int .i64 1, .int .i64 (-1), .bool false] by rw [hat']; rfl)
  have hae : at' = now := by rw [hat']; unfold atOf; rw [if_pos hlt]
  rw [hae] at d12 HKN
  clear hat' hae
  have HBL := hide hbl
  clear hb hb1 hb2 c0 c3 hj hjt hat hge
  go_enter Try.func19, Try.ntmps19
  go_upto_region 9 with fail
  rw [← hw1]
  clear hw1
  go_cut [106] from 28 (fun s wx => s = .bool false ∧ ∃ nq, wx = w1.drewN nq)
  case first =>
    go_quiet (fail)
    go_wp2_with fail
    go_meet
    case rel => exact ⟨rfl, _, rfl⟩
  case rest =>
  obtain ⟨hs106, nq, hw2⟩ := hcut
  subst hs106
  have HW2 := hide hw2
  clear hw2
  go_wp2_with fail
  have hw2 := HW2.out
  clear HW2
  obtain ⟨w2, hwc2⟩ : ∃ w2, w2 = wc := ⟨_, rfl⟩
  rw [← hwc2] at hw2 ⊢
  clear hwc2
  have HC2 : Hid (Chg (fun _ => False) w w2) := by rw [hw2]; exact HC1.out.drewN _
  have HBK2 : Hid (BookAt w2 p V b) := by rw [hw2]; exact HBK1.out.chg0 ((Chg.refl _ _).drewN _)
  have y1 : w2.cell? ⟨w.heap.size, 1, none⟩ = some (.int .i64 sa) := by rw [hw2]; exact q1
  have y2 : w2.cell? ⟨w.heap.size, 2, none⟩ = some (.int .i64 sb) := by rw [hw2]; exact q2
  have z0 : w2.cell? ⟨w.heap.size + 1, 0, none⟩ = some (.int .i64 ja) := by rw [hw2]; exact r0
  have z1 : w2.cell? ⟨w.heap.size + 1, 1, none⟩ = some (.int .i64 jd) := by rw [hw2]; exact r1
  have z2 : w2.cell? ⟨w.heap.size + 1, 2, none⟩ = some (.int .i64 jl) := by rw [hw2]; exact r2
  have z3 : w2.cell? ⟨w.heap.size + 1, 3, none⟩ = some (.int .i64 ju) := by rw [hw2]; exact r3
  have z4 : w2.cell? ⟨w.heap.size + 1, 4, none⟩ = some (.int .i64 jv) := by rw [hw2]; exact r4
  clear hw2 q0 q1 q2 r0 r1 r2 r3 r4 x0 x3 d1 d2 d3 d4 d5 d6 d7 d8 d9 d10 d11 d12 hws HBK1
  have hp2 : p < w2.heap.size := HBK2.out.lt
  have hq2 : w.heap.size + 1 < w2.heap.size := by
    rcases Nat.lt_or_ge (w.heap.size + 1) w2.heap.size with h | h
    · exact h
    · exfalso
      unfold World.cell? at z0
      rw [Array.getElem?_eq_none h] at z0
      simp at z0
  have hq1 : w.heap.size < w2.heap.size := by omega
  obtain ⟨ba, bc, hbv⟩ := HBK2.out.bidForm
  obtain ⟨n, hn⟩ : ∃ n, n = b.bids.length := ⟨_, rfl⟩
  have HBV : Hid (V.bv = .slice ba b.bids.length bc) := hbv
  have HN := hide hn
  have hnb := HBL.out
  rw [← hn] at hnb
  clear hbv hn hbl
  have hne1 : Value.ownBlock (.slice ba n bc) ≠ some w.heap.size := fun e => by have := HB.out.foot_lt w.heap.size (.inr (.inl (by rw [HBV.out, ← HN.out]; exact e))); omega
  have hne2 : Value.ownBlock (.slice ba n bc) ≠ some (w.heap.size + 1) := fun e => by have := HB.out.foot_lt (w.heap.size + 1) (.inr (.inl (by rw [HBV.out, ← HN.out]; exact e))); omega
  have hnp1 : p ≠ w.heap.size := by have := HB.out.lt; omega
  have hnp2 : p ≠ w.heap.size + 1 := by have := HB.out.lt; omega
  refine bid_region _ w2 p w.heap.size (w.heap.size + 1) n bc ba V b sa sb ja jd jl ju jv now i (knownNew i now ⟨1, sa, sb, sc, ⟨ja, jd, jl, ju, jv⟩⟩) rfl rfl rfl rfl rfl rfl HBK2.out HBV.out HN.out hnb y1 y2 z0 z1 z2 z3 z4 hne1 hne2 hnp1 hnp2 HKN.out ?_
  intro v107 v108 v109 v110 v112 v113 v114 v115 v116 v117 v118 v119 v120 v111 v121 v122 v123 v124 w' hto
  have HTO := hide hto
  clear hto
  simp only [Act.put, List.setIfInBounds_toArray, List.set_cons_zero, List.set_cons_succ]
  go_wp2
  go_ret
  exact ⟨rfl, BookTo.start HC2.out HTO.out⟩

end Go.Proofs.Ytminceigjejipaa

/-
  yardkeep: 'notes' of a bid that arrives later.
-/
namespace Go.Proofs.Ytminceigjejipaa
open Go.RowKit

set_option maxRecDepth 100000 in
set_option maxHeartbeats 8000000 in
theorem notes_bid_ge (p : Nat) (V : BV) (b : BookG) (i now sa sb sc : Int) (j : JobG) (w : World) (hb : BookAt w p V b) (ha : 0 ≤ sa ∧ sa < b.c.ten) (hj : jobIn b.c.ticks j = true) (hat : atOf now j + j.len ≤ j.dl) (h64 : b.c.ticks ≤ 64) (hbl : b.bids.length ≤ 300) (hlt : ¬ j.arr < now) :
    Calls Try.prog 19 #[.pointer (some ⟨p, 0, none⟩), .int .i64 i, stepV ⟨1, sa, sb, sc, j⟩, .int .i64 0, .int .i64 now] w fun e w' => e = .returned (.bool true) ∧ BookTo w p V { b with bids := b.bids ++ [knownNew i now ⟨1, sa, sb, sc, j⟩] } w' := by
  unfold stepV
  have hjt := jobIn_true hj
  obtain ⟨ja, jd, jl, ju, jv⟩ := j
  simp only at *
  have HB := hide hb
  have hpl := hb.lt
  have c0 : w.cell? ⟨p, 0, none⟩ = some (.int .i64 b.c.ticks) := hb.cell 0
  have c3 : w.cell? ⟨p, 3, none⟩ = some (.int .i64 b.c.ten) := hb.cell 3
  obtain ⟨w1, hw1⟩ : ∃ w1, w1 = (w.alloc (.cells #[.int .i64 1, .int .i64 sa, .int .i64 sb, .int .i64 sc, .int .i64 ja, .int .i64 jd, .int .i64 jl, .int .i64 ju, .int .i64 jv] 56)).alloc (.cells #[.int .i64 ja, .int .i64 jd, .int .i64 jl, .int .i64 ju, .int .i64 jv] 54) := ⟨_, rfl⟩
  have HC1 : Hid (Chg (fun _ => False) w w1) := by rw [hw1]; exact ((Chg.refl _ _).alloc _).alloc _
  have hb1 : w1.heap[w.heap.size]? = some (.cells #[.int .i64 1, .int .i64 sa, .int .i64 sb, .int .i64 sc, .int .i64 ja, .int .i64 jd, .int .i64 jl, .int .i64 ju, .int .i64 jv] 56 (0, 0)) := by rw [hw1, Below.heap_alloc _ _ _ (by simp)]; exact heap_alloc_new w _
  have hb2 : w1.heap[w.heap.size + 1]? = some (.cells #[.int .i64 ja, .int .i64 jd, .int .i64 jl, .int .i64 ju, .int .i64 jv] 54 (0, 0)) := by
    rw [hw1]
    have := heap_alloc_new (w.alloc (.cells #[.int .i64 1, .int .i64 sa, .int .i64 sb, .int .i64 sc, .int .i64 ja, .int .i64 jd, .int .i64 jl, .int .i64 ju, .int .i64 jv] 56)) (.cells #[.int .i64 ja, .int .i64 jd, .int .i64 jl, .int .i64 ju, .int .i64 jv] 54)
    simpa using this
  have hl2 : w.heap.size + 1 < w1.heap.size := (Array.getElem?_eq_some_iff.1 hb2).1
  have q0 : w1.cell? ⟨w.heap.size, 0, none⟩ = some (.int .i64 1) := by unfold World.cell?; rw [hb1]; rfl
  have q1 : w1.cell? ⟨w.heap.size, 1, none⟩ = some (.int .i64 sa) := by unfold World.cell?; rw [hb1]; rfl
  have q2 : w1.cell? ⟨w.heap.size, 2, none⟩ = some (.int .i64 sb) := by unfold World.cell?; rw [hb1]; rfl
  have r0 : w1.cell? ⟨w.heap.size + 1, 0, none⟩ = some (.int .i64 ja) := by unfold World.cell?; rw [hb2]; rfl
  have r1 : w1.cell? ⟨w.heap.size + 1, 1, none⟩ = some (.int .i64 jd) := by unfold World.cell?; rw [hb2]; rfl
  have r2 : w1.cell? ⟨w.heap.size + 1, 2, none⟩ = some (.int .i64 jl) := by unfold World.cell?; rw [hb2]; rfl
  have r3 : w1.cell? ⟨w.heap.size + 1, 3, none⟩ = some (.int .i64 ju) := by unfold World.cell?; rw [hb2]; rfl
  have r4 : w1.cell? ⟨w.heap.size + 1, 4, none⟩ = some (.int .i64 jv) := by unfold World.cell?; rw [hb2]; rfl
  have x0 : w1.cell? ⟨p, 0, none⟩ = some (.int .i64 b.c.ticks) := by rw [HC1.out.cell (by exact hpl) (fun h => h)]; exact c0
  have x3 : w1.cell? ⟨p, 3, none⟩ = some (.int .i64 b.c.ten) := by rw [HC1.out.cell (by exact hpl) (fun h => h)]; exact c3
  have HBK1 := hide (HB.out.chg0 HC1.out)
  have d1 : decide (sa < 0) = false := by simp; omega
  have d2 : decide (b.c.ten ≤ sa) = false := by simp; omega
  have d3 : decide (jl < 1) = false := by simp; omega
  have d4 : decide (b.c.ticks < jl) = false := by simp; omega
  have d5 : decide (ju < 1) = false := by simp; omega
  have d6 : decide (1000 < ju) = false := by simp; omega
  have d7 : decide (jv < 1) = false := by simp; omega
  have d8 : decide (1048576 < jv) = false := by simp; omega
  have d9 : decide (ja < 0) = false := by simp; omega
  have d10 : decide (b.c.ticks < jd) = false := by simp; omega
  have hge : jl ≤ jd := by unfold atOf at hat; simp only at hat; split at hat <;> omega
  have d11 : decide (jd < jl) = false := by simp; omega
  have hws : IntKind.i64.wrap (jd - jl) = jd - jl := by rw [IntKind.wrap_i64]; omega
  obtain ⟨at', hat'⟩ : ∃ x, x = atOf now ⟨ja, jd, jl, ju, jv⟩ := ⟨_, rfl⟩
  have d12 : decide (jd - jl < at') = false := by rw [hat']; simp; omega
  have HKN := hide (show knownCells (knownNew i now ⟨1, sa, sb, sc, ⟨ja, jd, jl, ju, jv⟩⟩) = [.int .i64 sa, .int .i64 sb, .int .i64 ja, .int .i64 jd, .int .i64 jl, .int .i64 ju, .int .i64 jv, .int .i64 at', .int .i64 i, .int .i64 1, .int .i64 (-1), .bool false] by rw [hat']; rfl)
  have hae : at' = ja := by rw [hat']; unfold atOf; rw [if_neg hlt]
  rw [hae] at d12 HKN
  clear hat' hae
  have HBL := hide hbl
  clear hb hb1 hb2 c0 c3 hj hjt hat hge
  go_enter Try.func19, Try.ntmps19
  go_upto_region 9 with fail
  rw [← hw1]
  clear hw1
  go_cut [106] from 28 (fun s wx => s = .bool false ∧ ∃ nq, wx = w1.drewN nq)
  case first =>
    go_quiet (fail)
    go_wp2_with fail
    go_meet
    case rel => exact ⟨rfl, _, rfl⟩
  case rest =>
  obtain ⟨hs106, nq, hw2⟩ := hcut
  subst hs106
  have HW2 := hide hw2
  clear hw2
  go_wp2_with fail
  have hw2 := HW2.out
  clear HW2
  obtain ⟨w2, hwc2⟩ : ∃ w2, w2 = wc := ⟨_, rfl⟩
  rw [← hwc2] at hw2 ⊢
  clear hwc2
  have HC2 : Hid (Chg (fun _ => False) w w2) := by rw [hw2]; exact HC1.out.drewN _
  have HBK2 : Hid (BookAt w2 p V b) := by rw [hw2]; exact HBK1.out.chg0 ((Chg.refl _ _).drewN _)
  have y1 : w2.cell? ⟨w.heap.size, 1, none⟩ = some (.int .i64 sa) := by rw [hw2]; exact q1
  have y2 : w2.cell? ⟨w.heap.size, 2, none⟩ = some (.int .i64 sb) := by rw [hw2]; exact q2
  have z0 : w2.cell? ⟨w.heap.size + 1, 0, none⟩ = some (.int .i64 ja) := by rw [hw2]; exact r0
  have z1 : w2.cell? ⟨w.heap.size + 1, 1, none⟩ = some (.int .i64 jd) := by rw [hw2]; exact r1
  have z2 : w2.cell? ⟨w.heap.size + 1, 2, none⟩ = some (.int .i64 jl) := by rw [hw2]; exact r2
  have z3 : w2.cell? ⟨w.heap.size + 1, 3, none⟩ = some (.int .i64 ju) := by rw [hw2]; exact r3
  have z4 : w2.cell? ⟨w.heap.size + 1, 4, none⟩ = some (.int .i64 jv) := by rw [hw2]; exact r4
  clear hw2 q0 q1 q2 r0 r1 r2 r3 r4 x0 x3 d1 d2 d3 d4 d5 d6 d7 d8 d9 d10 d11 d12 hws HBK1
  have hp2 : p < w2.heap.size := HBK2.out.lt
  have hq2 : w.heap.size + 1 < w2.heap.size := by
    rcases Nat.lt_or_ge (w.heap.size + 1) w2.heap.size with h | h
    · exact h
    · exfalso
      unfold World.cell? at z0
      rw [Array.getElem?_eq_none h] at z0
      simp at z0
  have hq1 : w.heap.size < w2.heap.size := by omega
  obtain ⟨ba, bc, hbv⟩ := HBK2.out.bidForm
  obtain ⟨n, hn⟩ : ∃ n, n = b.bids.length := ⟨_, rfl⟩
  have HBV : Hid (V.bv = .slice ba b.bids.length bc) := hbv
  have HN := hide hn
  have hnb := HBL.out
  rw [← hn] at hnb
  clear hbv hn hbl
  have hne1 : Value.ownBlock (.slice ba n bc) ≠ some w.heap.size := fun e => by have := HB.out.foot_lt w.heap.size (.inr (.inl (by rw [HBV.out, ← HN.out]; exact e))); omega
  have hne2 : Value.ownBlock (.slice ba n bc) ≠ some (w.heap.size + 1) := fun e => by have := HB.out.foot_lt (w.heap.size + 1) (.inr (.inl (by rw [HBV.out, ← HN.out]; exact e))); omega
  have hnp1 : p ≠ w.heap.size := by have := HB.out.lt; omega
  have hnp2 : p ≠ w.heap.size + 1 := by have := HB.out.lt; omega
  refine bid_region _ w2 p w.heap.size (w.heap.size + 1) n bc ba V b sa sb ja jd jl ju jv ja i (knownNew i now ⟨1, sa, sb, sc, ⟨ja, jd, jl, ju, jv⟩⟩) rfl rfl rfl rfl rfl rfl HBK2.out HBV.out HN.out hnb y1 y2 z0 z1 z2 z3 z4 hne1 hne2 hnp1 hnp2 HKN.out ?_
  intro v107 v108 v109 v110 v112 v113 v114 v115 v116 v117 v118 v119 v120 v111 v121 v122 v123 v124 w' hto
  have HTO := hide hto
  clear hto
  simp only [Act.put, List.setIfInBounds_toArray, List.set_cons_zero, List.set_cons_succ]
  go_wp2
  go_ret
  exact ⟨rfl, BookTo.start HC2.out HTO.out⟩

end Go.Proofs.Ytminceigjejipaa

/-
  THE BOOK GOES ON TELLING OF THE MARKET: what a step is noted as, and what it does. Nothing of the program's walks.
-/
namespace Go.Proofs.Ytminceigjejipaa

/-- what a step leaves of a market as it was -/
structure Rest (m m' : MkG) : Prop where
  c : m'.c = m.c
  susp : m'.susp = m.susp
  units : m'.units = m.units
  len : m'.bids.length = m.bids.length

theorem tick_rest {m m' : MkG} (hg : GoodM m) {z : Int} {names : List (Int × Int)} (hr : TickRes m z names m') : Rest m m' := by
  rcases hr with ⟨_, _, _, rfl⟩ | ⟨_, _, _, _, rfl⟩ | ⟨hl, ht, _, l, hord, rfl, _⟩
  · exact ⟨rfl, rfl, rfl, rfl⟩
  · exact ⟨rfl, rfl, rfl, rfl⟩
  · unfold tickM
    simp only
    rw [ghostI_none (hg.ok.logs hl callTick) hg.ghost]
    simp only [wantEnd]
    have h := AlikeM.fold m.time none l (m.logs callTick, [])
    refine ⟨h.c, h.susp, h.units, ?_⟩
    show ((l.foldl (tickOne m.time none) (m.logs callTick, [])).1.bids.map fun b => b.expire (m.time + 1)).length = _
    rw [List.length_map, h.len]
    rfl
theorem cancel_rest (m : MkG) (ten ref : Int) : Rest m (cancelM m ten ref) := by
  unfold cancelM
  simp only
  split
  · refine ⟨rfl, rfl, rfl, ?_⟩
    show (setState m.bids (findZ m.bids ten ref).toNat 3).length = _
    unfold setState
    split
    · simp
    · rfl
  · exact ⟨rfl, rfl, rfl, rfl⟩

theorem submitE_zero {m : MkG} {ten ref : Int} {j : JobG} (h : submitE m ten ref j = 0) : m.tenB ten = true ∧ m.jobB j = true := by
  unfold submitE at h
  split at h
  · simp at h
  · rename_i h1
    split at h
    · simp at h
    · split at h
      · simp at h
      · split at h
        · simp at h
        · rename_i h4
          exact ⟨by cases e : m.tenB ten; exact absurd e h1; rfl, by cases e : m.jobB j; exact absurd e h4; rfl⟩

theorem noteOk_does {m m' : MkG} {b : BookG} (hrel : BookRel m b) {s : StepG} {z : Int} {names : List (Int × Int)} {bills : List InvG} (hr : DoesRes m s z names bills m') : NoteOk b s z m.time := by
  refine ⟨fun hz hk => ?_, fun hz hk => ?_, fun hz hk => ?_⟩
  · rcases hr with ⟨_, hr, _⟩ | ⟨h, _⟩ | ⟨h, _⟩ | ⟨h, _⟩ | ⟨h, _⟩ | ⟨h, _⟩ | ⟨h, _⟩ | ⟨h, _⟩ <;> try omega
    rcases hr with ⟨_, h, _⟩ | ⟨_, h, _⟩
    · omega
    · obtain ⟨h1, h2⟩ := submitE_zero (h.symm.trans hz)
      have ht := tenB_true h1
      simp only [MkG.jobB, Bool.and_eq_true, decide_eq_true_eq] at h2
      rw [hrel.c]
      exact ⟨ht, h2.1, h2.2⟩
  · rcases hr with ⟨h, _⟩ | ⟨h, _⟩ | ⟨_, hr, _⟩ | ⟨h, _⟩ | ⟨h, _⟩ | ⟨h, _⟩ | ⟨h, _⟩ | ⟨h, _⟩ <;> try omega
    rcases hr with ⟨_, h, _⟩ | ⟨_, h, _⟩
    · omega
    · rw [hz] at h
      have h1 : m.tenB s.a = true := by
        cases e : m.tenB s.a
        · simp [suspendE, e] at h
        · rfl
      rw [hrel.c]
      exact tenB_true h1
  · rcases hr with ⟨h, _⟩ | ⟨h, _⟩ | ⟨h, _⟩ | ⟨_, hr, _⟩ | ⟨h, _⟩ | ⟨h, _⟩ | ⟨h, _⟩ | ⟨h, _⟩ <;> try omega
    rcases hr with ⟨_, h, _⟩ | ⟨_, hr⟩
    · omega
    · rcases hr with ⟨_, h, _⟩ | ⟨_, _, h, _⟩ | ⟨ha, _, _, _⟩
      · omega
      · omega
      · obtain ⟨g1, g2, g3, _, _⟩ := capArg_false ha
        rw [hrel.c]
        exact ⟨by omega, by omega, by omega⟩

/-- nothing that the book tells of has turned -/
theorem BookRel.rest {m m' : MkG} {b : BookG} (h : BookRel m b) (hr : Rest m m') (hn : NoMove m m') : BookRel m' b := by
  refine ⟨h.c.trans hr.c.symm, h.susp.trans hr.susp.symm, h.units.trans hr.units.symm, h.len.trans hr.len.symm, fun i o x ho hx => ?_, fun i o x ho hx hs => ?_⟩
  · obtain ⟨y, hy⟩ : ∃ y, m.bids[i]? = some y := ⟨_, List.getElem?_eq_getElem (by have := (List.getElem?_eq_some_iff.1 ho).1; have := h.len; omega)⟩
    obtain ⟨y', a1, a2, _⟩ := hn i y hy
    rw [hx] at a1
    obtain rfl := Option.some.inj a1
    simp only [nameB, Prod.mk.injEq] at a2
    have := h.bid i o y ho hy
    exact ⟨by rw [a2.1]; exact this.1, by rw [a2.2.1]; exact this.2.1, by rw [a2.2.2.1]; exact this.2.2.1, by rw [a2.2.2.2.1]; exact this.2.2.2⟩
  · obtain ⟨y, hy⟩ : ∃ y, m.bids[i]? = some y := ⟨_, List.getElem?_eq_getElem (by have := (List.getElem?_eq_some_iff.1 ho).1; have := h.len; omega)⟩
    obtain ⟨y', a1, _, a3⟩ := hn i y hy
    rw [hx] at a1
    obtain rfl := Option.some.inj a1
    have hw := h.was i o y ho hy hs
    have := a3 (by omega)
    omega
theorem noteB_err {b : BookG} {i : Int} {s : StepG} {z now : Int} (hz : z ≠ 0) : noteB b i s z now = b := by
  unfold noteB
  rw [if_neg (by omega), if_neg (by omega), if_neg (by omega)]
theorem noteB_kind {b : BookG} {i : Int} {s : StepG} {z now : Int} (h1 : s.kind ≠ 1) (h3 : s.kind ≠ 3) (h4 : s.kind ≠ 4) : noteB b i s z now = b := by
  unfold noteB
  rw [if_neg (by omega), if_neg (by omega), if_neg (by omega)]

theorem BookRel.note {m m' : MkG} {b : BookG} (h : BookRel m b) (hg : GoodM m) (hs : SoundM m) {s : StepG} {z : Int} {names : List (Int × Int)} {bills : List InvG} (hr : DoesRes m s z names bills m') (i : Int) : BookRel m' (noteB b i s z m.time) := by
  have hn := (hs.does hg hr).2
  rcases hr with ⟨hk, hr, _⟩ | ⟨hk, hr, _⟩ | ⟨hk, hr, _⟩ | ⟨hk, hr, _⟩ | ⟨hk, hr, _⟩ | ⟨hk, hr, _⟩ | ⟨hk, hr, _⟩ | ⟨hk, _, rfl, _⟩
  · rcases hr with ⟨_, hz, rfl⟩ | ⟨_, hz, rfl⟩
    · rw [noteB_err (by omega)]
      exact h
    · by_cases he : submitE m s.a s.b s.job = 0
      · have hz0 : z = 0 := hz.trans he
        have e : submitM m s.a s.b s.job = { m.logs (callSubmit s.a s.b s.job) with bids := m.bids ++ [newBid m s.a s.b s.job] } := by
          unfold submitM
          simp only [he, if_true]
          rfl
        have hb : noteB b i s z m.time = { b with bids := b.bids ++ [knownNew i m.time s] } := by
          unfold noteB
          rw [if_pos ⟨hz0, hk⟩]
        rw [hb, e]
        have hl := h.len
        have get : ∀ (k : Nat) (o : KnownG) (x : BidG), (b.bids ++ [knownNew i m.time s])[k]? = some o → (m.bids ++ [newBid m s.a s.b s.job])[k]? = some x → (b.bids[k]? = some o ∧ m.bids[k]? = some x) ∨ (o = knownNew i m.time s ∧ x = newBid m s.a s.b s.job) := fun k o x ho hx => by
          rw [List.getElem?_append] at ho hx
          by_cases e : k < b.bids.length
          · rw [if_pos e] at ho
            rw [if_pos (by omega)] at hx
            exact .inl ⟨ho, hx⟩
          · rw [if_neg e] at ho
            rw [if_neg (by omega)] at hx
            have h1 := (List.getElem?_eq_some_iff.1 ho).1
            simp at h1
            have e0 : k - b.bids.length = 0 := by omega
            have e1 : k - m.bids.length = 0 := by omega
            rw [e0] at ho
            rw [e1] at hx
            simp at ho hx
            exact .inr ⟨ho.symm, hx.symm⟩
        refine ⟨h.c, h.susp, h.units, ?_, fun k o x ho hx => ?_, fun k o x ho hx hw => ?_⟩
        · show (b.bids ++ [_]).length = (m.bids ++ [_]).length
          simp [hl]
        · rcases get k o x ho hx with ⟨a1, a2⟩ | ⟨rfl, rfl⟩
          · exact h.bid k o x a1 a2
          · exact ⟨rfl, rfl, rfl, rfl⟩
        · rcases get k o x ho hx with ⟨a1, a2⟩ | ⟨rfl, rfl⟩
          · exact h.was k o x a1 a2 hw
          · exact absurd rfl hw
      · rw [noteB_err (by omega)]
        have e : submitM m s.a s.b s.job = m.logs (callSubmit s.a s.b s.job) := by
          unfold submitM
          simp only [he, if_false]
        rw [e] at hn ⊢
        exact h.rest ⟨rfl, rfl, rfl, rfl⟩ hn
  · rw [noteB_kind (by omega) (by omega) (by omega)]
    rcases hr with ⟨_, hz, rfl⟩ | ⟨_, hz, rfl⟩
    · exact h
    · exact h.rest (cancel_rest _ _ _) hn
  · rcases hr with ⟨_, hz, rfl⟩ | ⟨_, hz, rfl⟩
    · rw [noteB_err (by omega)]
      exact h
    · by_cases he : suspendE m s.a = 0
      · have hz0 : z = 0 := hz.trans he
        have e : suspendM m s.a (evenB s.b) = { m.logs (callSuspend s.a (evenB s.b)) with susp := m.susp.set s.a.toNat (evenB s.b) } := by
          unfold suspendM
          simp only [he, if_true]
          rfl
        have hb : noteB b i s z m.time = { b with susp := b.susp.set s.a.toNat (evenB s.b) } := by
          unfold noteB
          rw [if_neg (by omega), if_pos ⟨hz0, hk⟩]
        rw [hb, e]
        exact ⟨h.c, by show b.susp.set _ _ = m.susp.set _ _; rw [h.susp], h.units, h.len, h.bid, h.was⟩
      · rw [noteB_err (by omega)]
        have e : suspendM m s.a (evenB s.b) = m.logs (callSuspend s.a (evenB s.b)) := by
          unfold suspendM
          simp only [he, if_false]
        rw [e] at hn ⊢
        exact h.rest ⟨rfl, rfl, rfl, rfl⟩ hn
  · rcases hr with ⟨_, hz, rfl⟩ | ⟨_, hr⟩
    · rw [noteB_err (by omega)]
      exact h
    · rcases hr with ⟨_, hz, rfl⟩ | ⟨_, _, hz, rfl⟩ | ⟨_, _, hz, rfl⟩
      · rw [noteB_err (by omega)]
        exact h.rest ⟨rfl, rfl, rfl, rfl⟩ hn
      · rw [noteB_err (by omega)]
        exact h.rest ⟨rfl, rfl, rfl, rfl⟩ hn
      · have hb : noteB b i s z m.time = { b with units := unitsTo b.units s.a s.b s.c } := by
          unfold noteB
          rw [if_neg (by omega), if_neg (by omega), if_pos ⟨hz, hk⟩]
        rw [hb]
        exact ⟨h.c, h.susp, by show unitsTo b.units s.a s.b s.c = _; rw [h.units]; rfl, h.len, h.bid, h.was⟩
  · rw [noteB_kind (by omega) (by omega) (by omega)]
    exact h.rest (tick_rest hg hr) hn
  · rw [noteB_kind (by omega) (by omega) (by omega)]
    rcases hr with ⟨_, hz, _, rfl⟩ | ⟨_, hz, _, rfl⟩
    · exact h
    · exact h.rest ⟨rfl, rfl, rfl, by show (m.bids.map _).length = _; simp⟩ hn
  · rw [noteB_kind (by omega) (by omega) (by omega)]
    rcases hr with ⟨_, hz, rfl⟩ | ⟨_, hz, rfl⟩
    · exact h
    · refine h.rest ?_ hn
      unfold payM
      simp only
      split <;> exact ⟨rfl, rfl, rfl, rfl⟩
  · rw [noteB_kind (by omega) (by omega) (by omega)]
    exact h
/-- what 'sound' has seen -/
theorem BookRel.seen {m : MkG} {b : BookG} (h : BookRel m b) : BookRel m (seenB m b) := by
  have get : ∀ (i : Nat) (o : KnownG) (x : BidG), (seenB m b).bids[i]? = some o → m.bids[i]? = some x → ∃ o0, b.bids[i]? = some o0 ∧ o = seeO o0 x := fun i o x ho hx => by
    have ho' : (seenTo m b.bids b.bids.length)[i]? = some o := ho
    simp only [seenTo, List.getElem?_mapIdx] at ho'
    cases hb : b.bids[i]? with
    | none => rw [hb] at ho'; cases ho'
    | some o0 =>
      rw [hb] at ho'
      simp only [Option.map_some, Option.some.injEq] at ho'
      rw [if_pos (List.getElem?_eq_some_iff.1 hb).1, hx] at ho'
      exact ⟨o0, rfl, ho'.symm⟩
  refine ⟨h.c, h.susp, h.units, by show (seenTo m b.bids b.bids.length).length = _; rw [seenTo_len]; exact h.len, fun i o x ho hx => ?_, fun i o x ho hx _ => ?_⟩
  · obtain ⟨o0, h0, rfl⟩ := get i o x ho hx
    exact h.bid i o0 x h0 hx
  · obtain ⟨o0, h0, rfl⟩ := get i o x ho hx
    exact ⟨rfl, rfl⟩
theorem BookRel.start (c : CfgG) : BookRel (openM c) (startB c) :=
  ⟨rfl, rfl, rfl, rfl, fun i o x ho => by simp [startB] at ho, fun i o x ho => by simp [startB] at ho⟩
end Go.Proofs.Ytminceigjejipaa

/-
  yardkeep: between the steps: the market and the book in memory, all of it new.
-/
namespace Go.Proofs.Ytminceigjejipaa
open Go.RowKit

structure KeepM (YAt : World → Nat → (Nat → Prop) → MkG → Prop) (w0 : World) (y p : Nat) (wr : World) (m : MkG) (F : Nat → Prop) (V : BV) (b : BookG) : Prop where
  yard : YAt wr y F m
  book : BookAt wr p V b
  apart : ∀ k, V.foot p k → ¬ F k
  newF : ∀ k, F k → w0.heap.size ≤ k
  newB : ∀ k, V.foot p k → w0.heap.size ≤ k
  chg : Chg (fun _ => False) w0 wr
section
variable {YAt : World → Nat → (Nat → Prop) → MkG → Prop} {w0 wr w2 : World} {y p : Nat} {m m' : MkG} {F : Nat → Prop} {V : BV} {b b' : BookG}
theorem KeepM.yto (h : KeepM YAt w0 y p wr m F V b) (ht : YTo YAt wr y F m' w2) : ∃ F', KeepM YAt w0 y p w2 m' F' V b ∧ Chg F wr w2 ∧ ∀ k, F' k → F k ∨ wr.heap.size ≤ k := by
  obtain ⟨F', a1, a2, a3⟩ := ht
  have hs := h.chg.size
  refine ⟨F', ⟨a1, h.book.chg a2 (fun k hk e => h.apart k hk e), fun k hk e => ?_, fun k hk => ?_, h.newB, h.chg.trans a2 (fun x hx e => ?_)⟩, a2, a3⟩
  · rcases a3 k e with e | e
    · exact h.apart k hk e
    · have := h.book.foot_lt k hk; omega
  · rcases a3 k hk with e | e
    · exact h.newF k e
    · omega
  · have := h.newF x e; omega
theorem KeepM.chg0 (hY : YardSpec YAt) (h : KeepM YAt w0 y p wr m F V b) (hc : Chg (fun _ => False) wr w2) : KeepM YAt w0 y p w2 m F V b :=
  ⟨hY.frame _ _ _ _ _ h.yard (fun k hk => hc.block k (hY.lt _ _ _ _ h.yard k hk) (fun e => e)), h.book.chg0 hc, h.apart, h.newF, h.newB, h.chg.trans hc (fun _ _ e => e)⟩
/-- a block of nobody's has turned -/
theorem KeepM.fresh (hY : YardSpec YAt) (h : KeepM YAt w0 y p wr m F V b) {X : Nat → Prop} (hc : Chg X wr w2) (hX : ∀ k, X k → w0.heap.size ≤ k ∧ ¬ F k ∧ ¬ V.foot p k) : KeepM YAt w0 y p w2 m F V b :=
  ⟨hY.frame _ _ _ _ _ h.yard (fun k hk => hc.block k (hY.lt _ _ _ _ h.yard k hk) (fun e => (hX k e).2.1 hk)), h.book.chg hc (fun k hk e => (hX k e).2.2 hk), h.apart, h.newF, h.newB, h.chg.trans hc (fun x hx e => by have := (hX x e).1; omega)⟩
theorem KeepM.told (h : KeepM YAt w0 y p wr m F V b) {names : List (Int × Int)} {bills : List InvG} {nv bv : Value} {F' : Nat → Prop} (ht : ToldAt YAt wr y F m' names bills nv bv F' w2) : KeepM YAt w0 y p w2 m' F' V b ∧ (∀ k, nv.ownBlock = some k → w0.heap.size ≤ k ∧ ¬ V.foot p k) ∧ (∀ k, bv.ownBlock = some k → w0.heap.size ≤ k ∧ ¬ V.foot p k) := by
  have hs := h.chg.size
  refine ⟨⟨ht.yard, h.book.chg ht.chg (fun k hk e => h.apart k hk e), fun k hk e => ?_, fun k hk => ?_, h.newB, h.chg.trans ht.chg (fun x hx e => ?_)⟩, fun k hk => ⟨?_, fun e => ?_⟩, fun k hk => ⟨?_, fun e => ?_⟩⟩
  · rcases ht.foot k e with e | e
    · exact h.apart k hk e
    · have := h.book.foot_lt k hk; omega
  · rcases ht.foot k hk with e | e
    · exact h.newF k e
    · omega
  · have := h.newF x e; omega
  · have := (ht.nn k hk).1; omega
  · have := (ht.nn k hk).1; have := h.book.foot_lt k e; omega
  · have := (ht.bn k hk).1; omega
  · have := (ht.bn k hk).1; have := h.book.foot_lt k e; omega
theorem KeepM.note (hY : YardSpec YAt) (h : KeepM YAt w0 y p wr m F V b) (ht : BookTo wr p V b' w2) : ∃ V', KeepM YAt w0 y p w2 m F V' b' ∧ Chg (V.foot p) wr w2 ∧ ∀ k, V'.foot p k → V.foot p k ∨ wr.heap.size ≤ k := by
  obtain ⟨V', a1, a2, a3⟩ := ht
  have hs := h.chg.size
  refine ⟨V', ⟨hY.frame _ _ _ _ _ h.yard (fun k hk => a2.block k (hY.lt _ _ _ _ h.yard k hk) (fun e => h.apart k e hk)), a1, fun k hk e => ?_, h.newF, fun k hk => ?_, h.chg.trans a2 (fun x hx e => ?_)⟩, a2, a3⟩
  · rcases a3 k hk with e' | e'
    · exact h.apart k e' e
    · have := hY.lt _ _ _ _ h.yard k e; omega
  · rcases a3 k hk with e | e
    · exact h.newB k e
    · omega
  · have := h.newB x e; omega
/-- behind 'sound' -/
theorem KeepM.seen (h : KeepM YAt w0 y p wr m F V b) {F' : Nat → Prop} (h1 : YAt w2 y F' m) (h2 : BookAt w2 p V b') (h3 : Chg (fun k => F k ∨ V.foot p k) wr w2) (h4 : ∀ k, F' k → F k ∨ wr.heap.size ≤ k) (h5 : ∀ k, V.foot p k → ¬ F' k) : KeepM YAt w0 y p w2 m F' V b' := by
  have hs := h.chg.size
  refine ⟨h1, h2, h5, fun k hk => ?_, h.newB, h.chg.trans h3 (fun x hx e => ?_)⟩
  · rcases h4 k hk with e | e
    · exact h.newF k e
    · omega
  · rcases e with e | e
    · have := h.newF x e; omega
    · have := h.newB x e; omega
end
/-- what holds of a market and its book between the steps -/
structure KeepP (m : MkG) (b : BookG) : Prop where
  good : GoodM m
  sound : SoundM m
  rel : BookRel m b
theorem KeepP.step {m m' : MkG} {b : BookG} (h : KeepP m b) {s : StepG} {z : Int} {names : List (Int × Int)} {bills : List InvG} (hr : DoesRes m s z names bills m') (i : Int) : KeepP m' (noteB b i s z m.time) :=
  ⟨hr.good h.good, (h.sound.does h.good hr).1, h.rel.note h.good h.sound hr i⟩
theorem KeepP.seen {m : MkG} {b : BookG} (h : KeepP m b) : KeepP m (seenB m b) := ⟨h.good, h.sound, h.rel.seen⟩
end Go.Proofs.Ytminceigjejipaa

/-
  yardkeep: 'notes', whole.
-/
namespace Go.Proofs.Ytminceigjejipaa
open Go.RowKit

theorem notes_any (p : Nat) (V : BV) (b : BookG) (i z now : Int) (s : StepG) (w : World) (hb : BookAt w p V b) (hok : NoteOk b s z now) (hsl : b.susp.length = b.c.ten.toNat) (hul : b.units.length = b.c.ticks.toNat) (h64 : b.c.ticks ≤ 64) (hbl : b.bids.length ≤ 300) (hnow : 0 ≤ now) :
    Calls Try.prog 19 #[.pointer (some ⟨p, 0, none⟩), .int .i64 i, stepV s, .int .i64 z, .int .i64 now] w fun e w' => e = .returned (.bool true) ∧ BookTo w p V (noteB b i s z now) w' := by
  by_cases hz : z = 0
  · subst hz
    by_cases h1 : s.kind = 1
    · obtain ⟨a1, a2, a3⟩ := hok.k1 rfl h1
      obtain ⟨k, sa, sb, sc, j⟩ := s
      simp only at h1 a1 a2 a3
      subst h1
      have e : noteB b i ⟨1, sa, sb, sc, j⟩ 0 now = { b with bids := b.bids ++ [knownNew i now ⟨1, sa, sb, sc, j⟩] } := by
        unfold noteB
        rw [if_pos ⟨rfl, rfl⟩]
      rw [e]
      by_cases hlt : j.arr < now
      · exact notes_bid_lt p V b i now sa sb sc j w hb a1 a2 a3 h64 hbl hlt
      · exact notes_bid_ge p V b i now sa sb sc j w hb a1 a2 a3 h64 hbl hlt
    · by_cases h3 : s.kind = 3
      · have a1 := hok.k3 rfl h3
        obtain ⟨k, sa, sb, sc, j⟩ := s
        simp only at h3 a1
        subst h3
        have e : noteB b i ⟨3, sa, sb, sc, j⟩ 0 now = { b with susp := b.susp.set sa.toNat (evenB sb) } := by
          unfold noteB
          rw [if_neg (fun h => h1 h.2), if_pos ⟨rfl, rfl⟩]
        rw [e]
        exact notes_susp p V b i now sa sb sc j w hb a1 hsl
      · by_cases h4 : s.kind = 4
        · have a1 := hok.k4 rfl h4
          obtain ⟨k, sa, sb, sc, j⟩ := s
          simp only at h4 a1
          subst h4
          have e : noteB b i ⟨4, sa, sb, sc, j⟩ 0 now = { b with units := unitsTo b.units sa sb sc } := by
            unfold noteB
            rw [if_neg (fun h => h1 h.2), if_neg (fun h => h3 h.2), if_pos ⟨rfl, rfl⟩]
          rw [e]
          exact notes_units p V b i now sa sb sc j w hb a1 hnow hul h64
        · rw [noteB_kind h1 h3 h4]
          exact notes_none p V b i now s w hb h1 h3 h4
  · rw [noteB_err hz]
    exact notes_err p V b i z now s w hb hz

/-- of a step that was made -/
theorem notes_does {m m' : MkG} (p : Nat) (V : BV) (b : BookG) (i : Int) (s : StepG) (w : World) (hb : BookAt w p V b) (hp : KeepP m b) {z : Int} {names : List (Int × Int)} {bills : List InvG} (hr : DoesRes m s z names bills m') :
    Calls Try.prog 19 #[.pointer (some ⟨p, 0, none⟩), .int .i64 i, stepV s, .int .i64 z, .int .i64 m.time] w fun e w' => e = .returned (.bool true) ∧ BookTo w p V (noteB b i s z m.time) w' := by
  have hc := cfgOk_true hp.good.ok.ck
  refine notes_any p V b i z m.time s w hb (noteOk_does hp.rel hr) ?_ ?_ ?_ ?_ hp.good.ok.t0
  · rw [hp.rel.susp, hp.rel.c]; exact hp.good.ok.ns
  · rw [hp.rel.units, hp.rel.c]; exact hp.good.ok.nu
  · rw [hp.rel.c]; omega
  · rw [hp.rel.len]; exact hp.good.ok.bl
end Go.Proofs.Ytminceigjejipaa
