import Derived.Test.YtccfademkgjeiaaM2
import Derived.Test.YtccfademkgjeiaaR1
namespace Go.Proofs.Ytccfademkgjeiaa
open Go.RowKit

theorem two_set {w : World} {q : Nat} {x y a b : Value} {T : TypeId} (h : w.heap[q]? = some (.cells #[x, y] T (0, 0))) :
    ((w.setCell ⟨q, 0, none⟩ a).setCell ⟨q, 1, none⟩ b).cell? ⟨q, 0, none⟩ = some a ∧ ((w.setCell ⟨q, 0, none⟩ a).setCell ⟨q, 1, none⟩ b).cell? ⟨q, 1, none⟩ = some b := by
  have h2 := box_set (f := 1) (box_set (f := 0) h a) b
  constructor
  · unfold World.cell?; rw [h2]; rfl
  · unfold World.cell?; rw [h2]; rfl

set_option maxRecDepth 100000 in
set_option maxHeartbeats 4000000 in
theorem look_any (p : Nat) (V : MV) (m : MkG) (ten ref : Int) (w : World) (hm : MktAt w p V m) (hok : MkOk m) :
    Calls Try.prog 91 #[.pointer (some ⟨p, 0, none⟩), .int .i64 ten, .int .i64 ref] w fun e w' => e = .returned (.tuple #[.agg #[.int .i64 (lookS m ten ref), .int .i64 (lookT m ten ref)], .int .i64 (lookE m ten ref)]) ∧ Chg (fun _ => False) w w' := by
  have HM := hide hm
  have HOK := hide hok
  have hpl := hm.lt
  clear hm hok
  go_enter Try.func91, Try.ntmps91
  go_wp2_with fail
  obtain ⟨w1, hw1⟩ : ∃ w1, w1 = w.alloc (.cells #[.int .i64 0, .int .i64 0] 114) := ⟨_, rfl⟩
  rw [← hw1]
  have hbk : w1.heap[w.heap.size]? = some (.cells #[.int .i64 0, .int .i64 0] 114 (0, 0)) := by rw [hw1]; exact heap_alloc_new w _
  have z0 : w1.cell? ⟨w.heap.size, 0, none⟩ = some (.int .i64 0) := by unfold World.cell?; rw [hbk]; rfl
  have z1 : w1.cell? ⟨w.heap.size, 1, none⟩ = some (.int .i64 0) := by unfold World.cell?; rw [hbk]; rfl
  have zf : ∀ r, w1.frozen? ⟨w.heap.size, r, none⟩ = false := fun r => by unfold World.frozen?; rw [hbk]; simp
  have hc1 : Chg (fun _ => False) w w1 := by rw [hw1]; exact (Chg.refl _ _).alloc _
  have HBK := hide hbk
  have H1 := hide (HM.out.chg0 hc1)
  have HC1 := hide hc1
  clear hw1 hbk hc1
  refine (tenant_any p V m ten _ H1.out).mono ?_
  rintro e w2 ⟨rfl, hw⟩
  subst w2
  cases hT : m.tenB ten
  · have E1 := hide (show lookE m ten ref = 3 by simp [lookE, hT])
    clear hT
    go_wp2
    obtain ⟨r0, r1⟩ := two_set (a := .int .i64 0) (b := .int .i64 0) HBK.out
    refine bodyPost_ret (v := .tuple #[.agg #[.int .i64 0, .int .i64 0], .int .i64 3]) (by simp [results, Try.results91, go_sem, r0, r1]) rfl ⟨?_, ?_⟩
    · rw [lookS, lookT, E1.out]; rfl
    · exact (HC1.out.setCell (.inr (Nat.le_refl _)) _).setCell (.inr (Nat.le_refl _)) _
  · go_wp2_with fail
    refine (find_any p V m ten ref _ H1.out HOK.out.bl).mono ?_
    rintro e w2 ⟨rfl, hw⟩
    subst w2
    have hfl := findZ_lt m.bids ten ref
    have hbl := HOK.out.bl
    by_cases hf : findZ m.bids ten ref < 0
    · have E1 := hide (show lookE m ten ref = 5 by simp [lookE, hT, hf])
      clear hT hfl
      generalize findZ m.bids ten ref = z at *
      go_wp2
      obtain ⟨r0, r1⟩ := two_set (a := .int .i64 0) (b := .int .i64 0) HBK.out
      refine bodyPost_ret (v := .tuple #[.agg #[.int .i64 0, .int .i64 0], .int .i64 5]) (by simp [results, Try.results91, go_sem, r0, r1]) rfl ⟨?_, ?_⟩
      · rw [lookS, lookT, E1.out]; rfl
      · exact (HC1.out.setCell (.inr (Nat.le_refl _)) _).setCell (.inr (Nat.le_refl _)) _
    · obtain ⟨i, hi⟩ := Int.eq_ofNat_of_zero_le (show 0 ≤ findZ m.bids ten ref by omega)
      obtain ⟨b, hb⟩ : ∃ b, m.bids[i]? = some b := ⟨_, List.getElem?_eq_getElem (by omega)⟩
      obtain ⟨ao, cap, hv, hel⟩ := H1.out.bid_form
      obtain ⟨g, hao, hown, hcl, hfr⟩ := hel i b hb
      subst hao
      have hil : (i : Int) < (m.bids.length : Int) := by omega
      have c7 : w1.cell? ⟨p, 7, none⟩ = some (.slice (some ⟨g, 0, none⟩) m.bids.length cap) := by rw [← hv]; exact H1.out.cell 7
      have c8 : w1.cell? ⟨g, i * 12 + 8, none⟩ = some (.int .i64 b.state) := hcl 8 _ rfl
      have c9 : w1.cell? ⟨g, i * 12 + 9, none⟩ = some (.int .i64 b.start) := hcl 9 _ rfl
      have E1 := hide (show lookE m ten ref = 0 by simp [lookE, hT, hf])
      have E2 := hide (show lookS m ten ref = b.state ∧ lookT m ten ref = b.start by
        rw [lookS, lookT, E1.out, hi]
        simp [stateAt, startAt, hb])
      have hgl : g < w.heap.size := (HM.out.bids.lt g hown).2
      have n1 : w.heap.size ≠ p := by omega
      have n2 : w.heap.size ≠ g := by omega
      rw [hi]
      clear hcl hfr hel hv hb hown hfl hf hi hT
      generalize m.bids.length = n at *
      have i0 : (0 : Int) ≤ (i : Int) := by omega
      go_wp2
      go_region_held3 (fun w' => w'.cell? ⟨p, 7, none⟩ = some (.slice (some ⟨g, 0, none⟩) n cap) ∧ w'.cell? ⟨g, i * 12 + 8, none⟩ = some (.int .i64 b.state) ∧ w'.cell? ⟨g, i * 12 + 9, none⟩ = some (.int .i64 b.start)) (go_keep) (fail)
      all_goals
        go_wp2
        obtain ⟨r0, r1⟩ := two_set (a := .int .i64 b.state) (b := .int .i64 b.start) HBK.out
        refine bodyPost_ret (v := .tuple #[.agg #[.int .i64 b.state, .int .i64 b.start], .int .i64 0]) (by simp [results, Try.results91, go_sem, r0, r1]) rfl ⟨?_, ?_⟩
        · rw [E2.out.1, E2.out.2, E1.out]
        · first | exact ((HC1.out.setCell (.inr (Nat.le_refl _)) _).setCell (.inr (Nat.le_refl _)) _).drew | exact (HC1.out.setCell (.inr (Nat.le_refl _)) _).setCell (.inr (Nat.le_refl _)) _

set_option maxRecDepth 100000 in
set_option maxHeartbeats 4000000 in
theorem free_any (p : Nat) (V : MV) (m : MkG) (t : Int) (w : World) (hm : MktAt w p V m) (hok : MkOk m) :
    Calls Try.prog 92 #[.pointer (some ⟨p, 0, none⟩), .int .i64 t] w fun e w' => e = .returned (.tuple #[.int .i64 (freeV m t), .int .i64 (freeE m t)]) ∧ Chg (fun _ => False) w w' := by
  have HM := hide hm
  have HOK := hide hok
  have hpl := hm.lt
  have c0 : w.cell? ⟨p, 0, none⟩ = some (.int .i64 m.c.ticks) := hm.cell 0
  clear hm hok
  by_cases ht0 : t < 0
  · have E1 := hide (show freeE m t = 9 ∧ freeV m t = 0 by simp [freeE, freeV, ht0])
    go_enter Try.func92, Try.ntmps92
    go_wp2
    go_ret2
    exact ⟨ret_two E1.out.2.symm E1.out.1.symm, Chg.refl _ _⟩
  · by_cases ht1 : m.c.ticks ≤ t
    · have E1 := hide (show freeE m t = 9 ∧ freeV m t = 0 by simp [freeE, freeV, ht1])
      generalize m.c.ticks = tk at *
      go_enter Try.func92, Try.ntmps92
      go_wp2
      go_ret2
      exact ⟨ret_two E1.out.2.symm E1.out.1.symm, Chg.refl _ _⟩
    · obtain ⟨i, rfl⟩ := Int.eq_ofNat_of_zero_le (show 0 ≤ t by omega)
      have hnu := HOK.out.nu
      have hcf := cfgOk_true HOK.out.ck
      have hiu : i < m.units.length := by omega
      have hul : m.units.length ≤ 64 := by omega
      obtain ⟨ao, cap, hv, hel⟩ := HM.out.units_form
      obtain ⟨g, hao, hown, hcl, hfr⟩ := hel i hiu
      subst hao
      have c6 : w.cell? ⟨p, 6, none⟩ = some (.slice (some ⟨g, 0, none⟩) m.units.length cap) := by rw [← hv]; exact HM.out.cell 6
      have hgl : g < w.heap.size := (HM.out.units.lt g hown).2
      have hu0 := HOK.out.un (m.units.getD i 0) (by simp [List.getD, List.getElem?_eq_getElem hiu])
      have hus := usedL_le m.c i m.bids HOK.out.bid
      have hbl := HOK.out.bl
      have HU := hide (fun (w' : World) (h : Chg (fun _ => False) w w') => used_any p V m i w' (HM.out.chg0 h) HOK.out.bl HOK.out.bid HOK.out.ck)
      have E1 := hide (show freeE m i = 0 ∧ freeV m i = m.units.getD i 0 - usedL m.bids i by
        constructor
        · rw [freeE, if_neg (by omega)]
        · rw [freeV, if_neg (by omega)]; simp)
      have hil : (i : Int) < (m.units.length : Int) := by omega
      have i0 : (0 : Int) ≤ (i : Int) := by omega
      have hus2 : 0 ≤ usedL m.bids i ∧ usedL m.bids i ≤ 300000 := by omega
      clear hel hv hown hfr hus hnu hcf
      generalize m.units.length = n at *
      generalize m.units.getD i 0 = u at *
      generalize usedL m.bids i = us at *
      generalize m.c.ticks = tk at *
      obtain ⟨hu1, hu2⟩ := hu0
      obtain ⟨hu3, hu4⟩ := hus2
      have hwr : IntKind.i64.wrap (u - us) = u - us := by rw [IntKind.wrap_i64]; omega
      go_enter Try.func92, Try.ntmps92
      go_wp2
      go_region_held3 (fun w' => w'.cell? ⟨p, 6, none⟩ = some (.slice (some ⟨g, 0, none⟩) n cap) ∧ w'.cell? ⟨g, i, none⟩ = some (.int .i64 u)) (go_keep)
        (first | (go_at_call 117; refine (HU.out w.drew ((Chg.refl _ _).drew)).mono ?_; rintro e w2 ⟨rfl, hq⟩; have x1 := hq.cell (p := ⟨p, 6, none⟩) hpl (fun h => h); have x2 := hq.cell (p := ⟨g, i, none⟩) hgl (fun h => h); have HQ := hide hq; clear hq))
      all_goals
        clear x1 x2
        go_wp2
        go_ret2
        exact ⟨ret_two E1.out.2.symm E1.out.1.symm, ⟨HQ.out.os, HQ.out.tape, HQ.out.output, HQ.out.size, HQ.out.block⟩⟩
end Go.Proofs.Ytccfademkgjeiaa
