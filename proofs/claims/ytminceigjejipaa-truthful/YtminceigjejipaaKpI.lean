import Derived.Test.YtminceigjejipaaKpE
import Derived.Deep.Cut
/-
  yardkeep: 'notes' of a bid that arrives now.
-/
namespace Go.Proofs.Ytminceigjejipaa
open Go.RowKit

set_option maxRecDepth 100000 in
set_option maxHeartbeats 8000000 in
theorem notes_bid_lt (p : Nat) (V : BV) (b : BookG) (i now sa sb sc : Int) (j : JobG) (w : World) (hb : BookAt w p V b) (ha : 0 ≤ sa ∧ sa < b.c.ten) (hj : jobIn b.c.ticks j = true) (hat : atOf now j + j.len ≤ j.dl) (h64 : b.c.ticks ≤ 64) (hbl : b.bids.length ≤ 300) (hlt : j.arr < now) :
    Calls Try.prog 19 #[.pointer (some ⟨p, 0, none⟩), .int .i64 i, stepV ⟨1, sa, sb, sc, j⟩, .int .i64 0, .int .i64 now] w fun e w' => e = .returned (.bool true) ∧ BookTo w p V { b with bids := b.bids ++ [knownNew i now ⟨1, sa, sb, sc, j⟩] } w' := by
  unfold stepV
  have hjt := jobIn_true hj
  obtain ⟨ja, jd, jl, ju, jv⟩ := j
  simp only at *
  have HB := hide hb
  have hpl := hb.lt
  have c0 : w.cell? ⟨p, 0, none⟩ = some (.int .i64 b.c.ticks) := hb.cell 0
  have c3 : w.cell? ⟨p, 3, none⟩ = some (.int .i64 b.c.ten) := hb.cell 3
  obtain ⟨w1, hw1⟩ : ∃ w1, w1 = (w.alloc (.cells #[.int .i64 1, .int .i64 sa, .int .i64 sb, .int .i64 sc, .int .i64 ja, .int .i64 jd, .int .i64 jl, .int .i64 ju, .int .i64 jv] 56)).alloc (.cells #[.int .i64 ja, .int .i64 jd, .int .i64 jl, .int .i64 ju, .int .i64 jv] 54) := ⟨_, rfl⟩
  have HC1 : Hid (Chg (fun _ => False) w w1) := by rw [hw1]; exact ((Chg.refl _ _).alloc _).alloc _
  have hb1 : w1.heap[w.heap.size]? = some (.cells #[.int .i64 1, .int .i64 sa, .int .i64 sb, .int .i64 sc, .int .i64 ja, .int .i64 jd, .int .i64 jl, .int .i64 ju, .int .i64 jv] 56 (0, 0)) := by rw [hw1, Below.heap_alloc _ _ _ (by simp)]; exact heap_alloc_new w _
  have hb2 : w1.heap[w.heap.size + 1]? = some (.cells #[.int .i64 ja, .int .i64 jd, .int .i64 jl, .int .i64 ju, .int .i64 jv] 54 (0, 0)) := by
    rw [hw1]
    have := heap_alloc_new (w.alloc (.cells #[.int .i64 1, .int .i64 sa, .int .i64 sb, .int .i64 sc, .int .i64 ja, .int .i64 jd, .int .i64 jl, .int .i64 ju, .int .i64 jv] 56)) (.cells #[.int .i64 ja, .int .i64 jd, .int .i64 jl, .int .i64 ju, .int .i64 jv] 54)
    simpa using this
  have hl2 : w.heap.size + 1 < w1.heap.size := (Array.getElem?_eq_some_iff.1 hb2).1
  have q0 : w1.cell? ⟨w.heap.size, 0, none⟩ = some (.int .i64 1) := by unfold World.cell?; rw [hb1]; rfl
  have q1 : w1.cell? ⟨w.heap.size, 1, none⟩ = some (.int .i64 sa) := by unfold World.cell?; rw [hb1]; rfl
  have q2 : w1.cell? ⟨w.heap.size, 2, none⟩ = some (.int .i64 sb) := by unfold World.cell?; rw [hb1]; rfl
  have r0 : w1.cell? ⟨w.heap.size + 1, 0, none⟩ = some (.int .i64 ja) := by unfold World.cell?; rw [hb2]; rfl
  have r1 : w1.cell? ⟨w.heap.size + 1, 1, none⟩ = some (.int .i64 jd) := by unfold World.cell?; rw [hb2]; rfl
  have r2 : w1.cell? ⟨w.heap.size + 1, 2, none⟩ = some (.int .i64 jl) := by unfold World.cell?; rw [hb2]; rfl
  have r3 : w1.cell? ⟨w.heap.size + 1, 3, none⟩ = some (.int .i64 ju) := by unfold World.cell?; rw [hb2]; rfl
  have r4 : w1.cell? ⟨w.heap.size + 1, 4, none⟩ = some (.int .i64 jv) := by unfold World.cell?; rw [hb2]; rfl
  have x0 : w1.cell? ⟨p, 0, none⟩ = some (.int .i64 b.c.ticks) := by rw [HC1.out.cell (by exact hpl) (fun h => h)]; exact c0
  have x3 : w1.cell? ⟨p, 3, none⟩ = some (.int .i64 b.c.ten) := by rw [HC1.out.cell (by exact hpl) (fun h => h)]; exact c3
  have HBK1 := hide (HB.out.chg0 HC1.out)
  have d1 : decide (sa < 0) = false := by simp; omega
  have d2 : decide (b.c.ten ≤ sa) = false := by simp; omega
  have d3 : decide (jl < 1) = false := by simp; omega
  have d4 : decide (b.c.ticks < jl) = false := by simp; omega
  have d5 : decide (ju < 1) = false := by simp; omega
  have d6 : decide (1000 < ju) = false := by simp; omega
  have d7 : decide (jv < 1) = false := by simp; omega
  have d8 : decide (1048576 < jv) = false := by simp; omega
  have d9 : decide (ja < 0) = false := by simp; omega
  have d10 : decide (b.c.ticks < jd) = false := by simp; omega
  have hge : jl ≤ jd := by unfold atOf at hat; split at hat <;> omega
  have d11 : decide (jd < jl) = false := by simp; omega
  have hws : IntKind.i64.wrap (jd - jl) = jd - jl := by rw [IntKind.wrap_i64]; omega
  obtain ⟨at', hat'⟩ : ∃ x, x = atOf now ⟨ja, jd, jl, ju, jv⟩ := ⟨_, rfl⟩
  have d12 : decide (jd - jl < at') = false := by rw [hat']; simp; omega
  have HKN := hide (show knownCells (knownNew i now ⟨1, sa, sb, sc, ⟨ja, jd, jl, ju, jv⟩⟩) = [.int .i64 sa, .int .i64 sb, .int .i64 ja, .int .i64 jd, .int .i64 jl, .int .i64 ju, .int .i64 jv, .int .i64 at', .int .i64 i, .int .i64 1, .int .i64 (-1), .bool false] by rw [hat']; rfl)
  have hae : at' = now := by rw [hat']; unfold atOf; rw [if_pos hlt]
  rw [hae] at d12 HKN
  clear hat' hae
  have HBL := hide hbl
  clear hb hb1 hb2 c0 c3 hj hjt hat hge
  go_enter Try.func19, Try.ntmps19
  go_upto_region 9 with fail
  rw [← hw1]
  clear hw1
  go_cut [106] from 28 (fun s wx => s = .bool false ∧ ∃ nq, wx = w1.drewN nq)
  case first =>
    go_quiet (fail)
    go_wp2_with fail
    go_meet
    case rel => exact ⟨rfl, _, rfl⟩
  case rest =>
  obtain ⟨hs106, nq, hw2⟩ := hcut
  subst hs106
  have HW2 := hide hw2
  clear hw2
  go_wp2_with fail
  have hw2 := HW2.out
  clear HW2
  obtain ⟨w2, hwc2⟩ : ∃ w2, w2 = wc := ⟨_, rfl⟩
  rw [← hwc2] at hw2 ⊢
  clear hwc2
  have HC2 : Hid (Chg (fun _ => False) w w2) := by rw [hw2]; exact HC1.out.drewN _
  have HBK2 : Hid (BookAt w2 p V b) := by rw [hw2]; exact HBK1.out.chg0 ((Chg.refl _ _).drewN _)
  have y1 : w2.cell? ⟨w.heap.size, 1, none⟩ = some (.int .i64 sa) := by rw [hw2]; exact q1
  have y2 : w2.cell? ⟨w.heap.size, 2, none⟩ = some (.int .i64 sb) := by rw [hw2]; exact q2
  have z0 : w2.cell? ⟨w.heap.size + 1, 0, none⟩ = some (.int .i64 ja) := by rw [hw2]; exact r0
  have z1 : w2.cell? ⟨w.heap.size + 1, 1, none⟩ = some (.int .i64 jd) := by rw [hw2]; exact r1
  have z2 : w2.cell? ⟨w.heap.size + 1, 2, none⟩ = some (.int .i64 jl) := by rw [hw2]; exact r2
  have z3 : w2.cell? ⟨w.heap.size + 1, 3, none⟩ = some (.int .i64 ju) := by rw [hw2]; exact r3
  have z4 : w2.cell? ⟨w.heap.size + 1, 4, none⟩ = some (.int .i64 jv) := by rw [hw2]; exact r4
  clear hw2 q0 q1 q2 r0 r1 r2 r3 r4 x0 x3 d1 d2 d3 d4 d5 d6 d7 d8 d9 d10 d11 d12 hws HBK1
  have hp2 : p < w2.heap.size := HBK2.out.lt
  have hq2 : w.heap.size + 1 < w2.heap.size := by
    rcases Nat.lt_or_ge (w.heap.size + 1) w2.heap.size with h | h
    · exact h
    · exfalso
      unfold World.cell? at z0
      rw [Array.getElem?_eq_none h] at z0
      simp at z0
  have hq1 : w.heap.size < w2.heap.size := by omega
  obtain ⟨ba, bc, hbv⟩ := HBK2.out.bidForm
  obtain ⟨n, hn⟩ : ∃ n, n = b.bids.length := ⟨_, rfl⟩
  have HBV : Hid (V.bv = .slice ba b.bids.length bc) := hbv
  have HN := hide hn
  have hnb := HBL.out
  rw [← hn] at hnb
  clear hbv hn hbl
  have hne1 : Value.ownBlock (.slice ba n bc) ≠ some w.heap.size := fun e => by have := HB.out.foot_lt w.heap.size (.inr (.inl (by rw [HBV.out, ← HN.out]; exact e))); omega
  have hne2 : Value.ownBlock (.slice ba n bc) ≠ some (w.heap.size + 1) := fun e => by have := HB.out.foot_lt (w.heap.size + 1) (.inr (.inl (by rw [HBV.out, ← HN.out]; exact e))); omega
  have hnp1 : p ≠ w.heap.size := by have := HB.out.lt; omega
  have hnp2 : p ≠ w.heap.size + 1 := by have := HB.out.lt; omega
  refine bid_region _ w2 p w.heap.size (w.heap.size + 1) n bc ba V b sa sb ja jd jl ju jv now i (knownNew i now ⟨1, sa, sb, sc, ⟨ja, jd, jl, ju, jv⟩⟩) rfl rfl rfl rfl rfl rfl HBK2.out HBV.out HN.out hnb y1 y2 z0 z1 z2 z3 z4 hne1 hne2 hnp1 hnp2 HKN.out ?_
  intro v107 v108 v109 v110 v112 v113 v114 v115 v116 v117 v118 v119 v120 v111 v121 v122 v123 v124 w' hto
  have HTO := hide hto
  clear hto
  simp only [Act.put, List.setIfInBounds_toArray, List.set_cons_zero, List.set_cons_succ]
  go_wp2
  go_ret
  exact ⟨rfl, BookTo.start HC2.out HTO.out⟩

end Go.Proofs.Ytminceigjejipaa
