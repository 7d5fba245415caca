import Derived.Test.YtminceigjejipaaKpC
import Derived.Deep.RegionLaw
/-
  yardkeep: 'notes'.
-/
namespace Go.Proofs.Ytminceigjejipaa
open Go.RowKit

/-- a bid that was submitted at step i -/
def knownNew (i now : Int) (s : StepG) : KnownG := ⟨s.a, s.b, s.job, atOf now s.job, i, 1, -1, false⟩
/-- what a step, answered so, makes of the book -/
def noteB (b : BookG) (i : Int) (s : StepG) (z now : Int) : BookG :=
  if z = 0 ∧ s.kind = 1 then { b with bids := b.bids ++ [knownNew i now s] }
  else if z = 0 ∧ s.kind = 3 then { b with susp := b.susp.set s.a.toNat (evenB s.b) }
  else if z = 0 ∧ s.kind = 4 then { b with units := unitsTo b.units s.a s.b s.c }
  else b
structure NoteOk (b : BookG) (s : StepG) (z now : Int) : Prop where
  k1 : z = 0 → s.kind = 1 → (0 ≤ s.a ∧ s.a < b.c.ten) ∧ jobIn b.c.ticks s.job = true ∧ atOf now s.job + s.job.len ≤ s.job.dl
  k3 : z = 0 → s.kind = 3 → 0 ≤ s.a ∧ s.a < b.c.ten
  k4 : z = 0 → s.kind = 4 → now ≤ s.a ∧ s.a < s.b ∧ s.b ≤ b.c.ticks

theorem infoKnown : (Try.prog.info? 70).map (fun i => (i.zero, i.size, i.bytes)) = some (some (.agg #[.int .i64 0, .int .i64 0, .int .i64 0, .int .i64 0, .int .i64 0, .int .i64 0, .int .i64 0, .int .i64 0, .int .i64 0, .int .i64 0, .int .i64 0, .bool false]), 12, 96) := by kernel_rfl

set_option maxRecDepth 100000 in
set_option maxHeartbeats 2000000 in
theorem notes_err (p : Nat) (V : BV) (b : BookG) (i z now : Int) (s : StepG) (w : World) (hb : BookAt w p V b) (hz : z ≠ 0) :
    Calls Try.prog 19 #[.pointer (some ⟨p, 0, none⟩), .int .i64 i, stepV s, .int .i64 z, .int .i64 now] w fun e w' => e = .returned (.bool true) ∧ BookTo w p V b w' := by
  obtain ⟨k, sa, sb, sc, j⟩ := s
  unfold stepV
  have HB := hide hb
  have hz1 : (z == 0) = false := by simpa using hz
  clear hb
  go_enter Try.func19, Try.ntmps19
  go_wp2
  go_ret
  exact ⟨rfl, BookTo.same HB.out ((Chg.refl _ _).alloc _)⟩

set_option maxRecDepth 100000 in
set_option maxHeartbeats 2000000 in
theorem notes_none (p : Nat) (V : BV) (b : BookG) (i now : Int) (s : StepG) (w : World) (hb : BookAt w p V b) (h1 : s.kind ≠ 1) (h3 : s.kind ≠ 3) (h4 : s.kind ≠ 4) :
    Calls Try.prog 19 #[.pointer (some ⟨p, 0, none⟩), .int .i64 i, stepV s, .int .i64 0, .int .i64 now] w fun e w' => e = .returned (.bool true) ∧ BookTo w p V b w' := by
  obtain ⟨k, sa, sb, sc, j⟩ := s
  simp only at h1 h3 h4
  unfold stepV
  have HB := hide hb
  have e1 : (k == 1) = false := by simpa using h1
  have e3 : (k == 3) = false := by simpa using h3
  have e4 : (k == 4) = false := by simpa using h4
  clear hb
  go_enter Try.func19, Try.ntmps19
  go_wp2
  go_ret
  exact ⟨rfl, BookTo.same HB.out ((Chg.refl _ _).alloc _)⟩

set_option maxRecDepth 100000 in
set_option maxHeartbeats 4000000 in
theorem notes_susp (p : Nat) (V : BV) (b : BookG) (i now sa sb sc : Int) (j : JobG) (w : World) (hb : BookAt w p V b) (ha : 0 ≤ sa ∧ sa < b.c.ten) (hl : b.susp.length = b.c.ten.toNat) :
    Calls Try.prog 19 #[.pointer (some ⟨p, 0, none⟩), .int .i64 i, stepV ⟨3, sa, sb, sc, j⟩, .int .i64 0, .int .i64 now] w fun e w' => e = .returned (.bool true) ∧ BookTo w p V { b with susp := b.susp.set sa.toNat (evenB sb) } w' := by
  unfold stepV
  obtain ⟨n, hn⟩ := Int.eq_ofNat_of_zero_le ha.1
  have hnl : n < b.susp.length := by omega
  have HB := hide hb
  have hpl := hb.lt
  obtain ⟨g, cap, hv, hown, hgl, hcl, hfr⟩ := hb.suspCell hnl
  have HOW := hide hown
  have c3 : w.cell? ⟨p, 3, none⟩ = some (.int .i64 b.c.ten) := hb.cell 3
  have c6 : w.cell? ⟨p, 6, none⟩ = some (.slice (some ⟨g, 0, none⟩) b.susp.length cap) := by rw [← hv]; exact hb.cell 6
  have d1 : decide (sa < 0) = false := by simp; omega
  have d2 : decide (b.c.ten ≤ sa) = false := by simp; omega
  have d1' : decide ((n : Int) < 0) = false := by simp
  have d2' : decide (b.c.ten ≤ (n : Int)) = false := by simp; omega
  have n0 : (0 : Int) ≤ (n : Int) := by omega
  have n1 : (n : Int) < (b.susp.length : Int) := by omega
  obtain ⟨w1, hw1⟩ : ∃ w1, w1 = w.alloc (.cells #[.int .i64 3, .int .i64 sa, .int .i64 sb, .int .i64 sc, .int .i64 j.arr, .int .i64 j.dl, .int .i64 j.len, .int .i64 j.units, .int .i64 j.val] 56) := ⟨_, rfl⟩
  have HC1 : Hid (Chg (fun _ => False) w w1) := by rw [hw1]; exact (Chg.refl _ _).alloc _
  have hb1 : w1.heap[w.heap.size]? = some (.cells #[.int .i64 3, .int .i64 sa, .int .i64 sb, .int .i64 sc, .int .i64 j.arr, .int .i64 j.dl, .int .i64 j.len, .int .i64 j.units, .int .i64 j.val] 56 (0, 0)) := by rw [hw1]; exact heap_alloc_new w _
  have q1 : w1.cell? ⟨w.heap.size, 1, none⟩ = some (.int .i64 (n : Int)) := by rw [← hn]; unfold World.cell?; rw [hb1]; rfl
  have q2 : w1.cell? ⟨w.heap.size, 2, none⟩ = some (.int .i64 sb) := by unfold World.cell?; rw [hb1]; rfl
  have q0 : w1.cell? ⟨w.heap.size, 0, none⟩ = some (.int .i64 3) := by unfold World.cell?; rw [hb1]; rfl
  have x3 : w1.cell? ⟨p, 3, none⟩ = some (.int .i64 b.c.ten) := by rw [HC1.out.cell (by exact hpl) (fun h => h)]; exact c3
  have x6 : w1.cell? ⟨p, 6, none⟩ = some (.slice (some ⟨g, 0, none⟩) b.susp.length cap) := by rw [HC1.out.cell (by exact hpl) (fun h => h)]; exact c6
  have xg : w1.cell? ⟨g, n, none⟩ = some (.bool (b.susp.getD n false)) := by rw [HC1.out.cell (by exact hgl) (fun h => h)]; exact hcl
  have xf : w1.frozen? ⟨g, n, none⟩ = false := by rw [HC1.out.frozen (by exact hgl) (fun h => h)]; exact hfr
  have HSET := hide (fun (s : Bool) => (HB.out.chg0 HC1.out).setSusp (s := s) hnl HOW.out)
  have hgn : g ≠ w.heap.size := by omega
  have hgp : g ≠ p := fun e => ownsRow_box hb.susp hb.box (by decide) (e ▸ hown)
  have hpn : p ≠ w.heap.size := by omega
  have hev : evenB sb = (sb.tmod 2 == 0) := rfl
  have HEV := hide hev
  have hnn : sa.toNat = n := by omega
  rw [hnn]
  subst hn
  clear hb hv hown hcl hfr c3 c6 hgl hev hl
  generalize b.susp.length = nl at *
  go_enter Try.func19, Try.ntmps19
  go_wp2
  rw [← hw1]
  clear hw1 hb1
  go_quiet (fail)
  go_wp2
  obtain ⟨w2, hw2⟩ : ∃ w2, w2 = w1.drewN nq := ⟨_, rfl⟩
  rw [← hw2]
  have HC2 : Hid (Chg (fun _ => False) w1 w2) := by rw [hw2]; exact (Chg.refl _ _).drewN _
  have y6 : w2.cell? ⟨p, 6, none⟩ = some (.slice (some ⟨g, 0, none⟩) nl cap) := by rw [hw2]; exact x6
  have y1 : w2.cell? ⟨w.heap.size, 1, none⟩ = some (.int .i64 (n : Int)) := by rw [hw2]; exact q1
  have y2 : w2.cell? ⟨w.heap.size, 2, none⟩ = some (.int .i64 sb) := by rw [hw2]; exact q2
  have yg : w2.cell? ⟨g, n, none⟩ = some (.bool (b.susp.getD n false)) := by rw [hw2]; exact xg
  have yf : w2.frozen? ⟨g, n, none⟩ = false := by rw [hw2]; exact xf
  have HSET2 := hide (fun (s : Bool) => show BookAt (w2.setCell ⟨g, n, none⟩ (.bool s)) p V { b with susp := b.susp.set n s } from by rw [hw2]; exact (HSET.out s).frame (fun k _ => rfl))
  clear hw2 x6 q1 q2 xg xf q0 x3 HSET d1 d2 d1' d2'
  have n2 : n < nl := by omega
  go_region_held3 (fun w' => w'.cell? ⟨p, 6, none⟩ = some (.slice (some ⟨g, 0, none⟩) nl cap) ∧ w'.cell? ⟨w.heap.size, 1, none⟩ = some (.int .i64 (n : Int)) ∧ w'.cell? ⟨w.heap.size, 2, none⟩ = some (.int .i64 sb)) (go_keep) (fail)
  all_goals
    go_wp2
    go_ret
    refine ⟨rfl, V, ?_, ?_, fun _ hk => .inl hk⟩
    · first | exact HSET2.out _ | exact (HSET2.out _).chg0 ((Chg.refl _ _).drew)
    · first | exact (((HC1.out.trans HC2.out (fun _ _ h => h)).mono (O' := V.foot p) (fun _ _ h => h.elim)).setCell (.inl (.inr (.inr (.inl HOW.out)))) _) | exact (((HC1.out.trans HC2.out (fun _ _ h => h)).mono (O' := V.foot p) (fun _ _ h => h.elim)).setCell (.inl (.inr (.inr (.inl HOW.out)))) _).drew

set_option maxRecDepth 100000 in
set_option maxHeartbeats 4000000 in
theorem notes_units (p : Nat) (V : BV) (b : BookG) (i now sa sb sc : Int) (j : JobG) (w : World) (hb : BookAt w p V b) (ha : now ≤ sa ∧ sa < sb ∧ sb ≤ b.c.ticks) (h0 : 0 ≤ now) (hl : b.units.length = b.c.ticks.toNat) (h64 : b.c.ticks ≤ 64) :
    Calls Try.prog 19 #[.pointer (some ⟨p, 0, none⟩), .int .i64 i, stepV ⟨4, sa, sb, sc, j⟩, .int .i64 0, .int .i64 now] w fun e w' => e = .returned (.bool true) ∧ BookTo w p V { b with units := unitsTo b.units sa sb sc } w' := by
  unfold stepV
  obtain ⟨n, rfl⟩ := Int.eq_ofNat_of_zero_le (show 0 ≤ sa by omega)
  obtain ⟨e, rfl⟩ := Int.eq_ofNat_of_zero_le (show 0 ≤ sb by omega)
  have hel : e ≤ b.units.length := by omega
  have hul : b.units.length ≤ 64 := by omega
  have HB := hide hb
  have hpl := hb.lt
  have c0 : w.cell? ⟨p, 0, none⟩ = some (.int .i64 b.c.ticks) := hb.cell 0
  have d1 : decide ((n : Int) < now) = false := by simp; omega
  have d2 : decide ((e : Int) ≤ (n : Int)) = false := by simp; omega
  have d2' : decide (e ≤ n) = false := by simp; omega
  have d3 : decide (b.c.ticks < (e : Int)) = false := by simp; omega
  have hne : n < e := by omega
  obtain ⟨w1, hw1⟩ : ∃ w1, w1 = w.alloc (.cells #[.int .i64 4, .int .i64 (n : Int), .int .i64 (e : Int), .int .i64 sc, .int .i64 j.arr, .int .i64 j.dl, .int .i64 j.len, .int .i64 j.units, .int .i64 j.val] 56) := ⟨_, rfl⟩
  have HC1 : Hid (Chg (fun _ => False) w w1) := by rw [hw1]; exact (Chg.refl _ _).alloc _
  have hb1 : w1.heap[w.heap.size]? = some (.cells #[.int .i64 4, .int .i64 (n : Int), .int .i64 (e : Int), .int .i64 sc, .int .i64 j.arr, .int .i64 j.dl, .int .i64 j.len, .int .i64 j.units, .int .i64 j.val] 56 (0, 0)) := by rw [hw1]; exact heap_alloc_new w _
  have hl1 : w.heap.size < w1.heap.size := (Array.getElem?_eq_some_iff.1 hb1).1
  have q0 : w1.cell? ⟨w.heap.size, 0, none⟩ = some (.int .i64 4) := by unfold World.cell?; rw [hb1]; rfl
  have q1 : w1.cell? ⟨w.heap.size, 1, none⟩ = some (.int .i64 (n : Int)) := by unfold World.cell?; rw [hb1]; rfl
  have q2 : w1.cell? ⟨w.heap.size, 2, none⟩ = some (.int .i64 (e : Int)) := by unfold World.cell?; rw [hb1]; rfl
  have x0 : w1.cell? ⟨p, 0, none⟩ = some (.int .i64 b.c.ticks) := by rw [HC1.out.cell (by exact hpl) (fun h => h)]; exact c0
  have HB1 := hide hb1
  have hbkx := HB.out.chg0 HC1.out
  have HBK1 := hide hbkx
  clear hb hb1 c0 hbkx hl
  go_enter Try.func19, Try.ntmps19
  go_wp2
  rw [← hw1]
  clear hw1
  go_quiet (fail)
  go_wp2
  obtain ⟨w2, hw2⟩ : ∃ w2, w2 = w1.drewN nq := ⟨_, rfl⟩
  rw [← hw2]
  have HC2 : Hid (Chg (fun _ => False) w1 w2) := by rw [hw2]; exact (Chg.refl _ _).drewN _
  clear hw2 q0 q1 x0 q2 d1 d2 d3 d2'
  go_loopw [13] (fun y wr => ∃ k : Nat, n ≤ k ∧ k ≤ e ∧ y = .int .i64 k ∧ BookAt wr p V { b with units := unitsTo b.units n k sc } ∧ Chg (V.foot p) w1 wr) (fun y _ => e - (intOf y).toNat)
  case atStart => exact ⟨n, Nat.le_refl _, by omega, rfl, by rw [unitsTo_start]; exact HBK1.out.chg0 HC2.out, HC2.out.mono (fun _ _ h => h.elim)⟩
  case round =>
    obtain ⟨k, hk1, hk2, rfl, hbk, hch⟩ := hrel
    have hnf : ¬ V.foot p w.heap.size := fun h => by have := HB.out.foot_lt _ h; omega
    have hbr := (hch.block _ hl1 hnf).trans HB1.out
    have q2 : wr.cell? ⟨w.heap.size, 2, none⟩ = some (.int .i64 (e : Int)) := by unfold World.cell?; rw [hbr]; rfl
    have q3 : wr.cell? ⟨w.heap.size, 3, none⟩ = some (.int .i64 sc) := by unfold World.cell?; rw [hbr]; rfl
    have HBK := hide hbk
    have HCH := hide hch
    by_cases hlt : k < e
    · have hlen : (unitsTo b.units n k sc).length = b.units.length := unitsTo_len _ _ _ _
      have hkl : k < (unitsTo b.units n k sc).length := by rw [hlen]; omega
      obtain ⟨g, gc, hv, hown, hgl, hcl, hfr⟩ := hbk.unitCell (i := k) hkl
      have c7 : wr.cell? ⟨p, 7, none⟩ = some (.slice (some ⟨g, 0, none⟩) b.units.length gc) := by rw [← hlen, ← show V.uv = .slice (some ⟨g, 0, none⟩) (unitsTo b.units n k sc).length gc from hv]; exact hbk.cell 7
      have HN := hide (hbk.setUnit (u := sc) hkl hown)
      have HOW := hide hown
      have k0 : (0 : Int) ≤ (k : Int) := by omega
      have k1 : (k : Int) < (b.units.length : Int) := by omega
      have k2 : k < b.units.length := by omega
      have ne1 : g ≠ w.heap.size := fun e => hnf (e ▸ .inr (.inr (.inr hown)))
      have ne2 : g ≠ p := fun e => ownsRow_box hbk.units hbk.box (by decide) (e ▸ hown)
      clear hbk hch hbr hv hown hlen hkl hnf
      generalize b.units.length = ul at *
      go_wp2
      go_region_held3 (fun w' => w'.cell? ⟨w.heap.size, 3, none⟩ = some (.int .i64 sc) ∧ w'.cell? ⟨p, 7, none⟩ = some (.slice (some ⟨g, 0, none⟩) ul gc)) (go_keep) (fail)
      all_goals
        go_wp2
        go_roundw
        case rel => first | exact ⟨k + 1, by omega, by omega, by go_num, by have := HN.out; simp only [unitsTo_step b.units n k sc hk1] at this; exact this, HCH.out.setCell (.inl (.inr (.inr (.inr HOW.out)))) _⟩ | exact ⟨k + 1, by omega, by omega, by go_num, by have := HN.out; simp only [unitsTo_step b.units n k sc hk1] at this; exact this.chg0 ((Chg.refl _ _).drew), (HCH.out.setCell (.inl (.inr (.inr (.inr HOW.out)))) _).drew⟩
        case measure => simp [intOf]; omega
    · have hke : k = e := by omega
      have HK := hide hke
      clear hbk hch hbr hke
      go_wp2
      go_ret
      exact ⟨rfl, V, by rw [← HK.out]; exact HBK.out, (HC1.out.mono (O' := V.foot p) (fun _ _ h => h.elim)).trans HCH.out (fun _ _ h => h), fun _ hk => .inl hk⟩
end Go.Proofs.Ytminceigjejipaa
