import Derived.Test.YtccfademkgjeiaaTkP
namespace Go.Proofs.Ytccfademkgjeiaa
open Go.RowKit

theorem mul_lt {a b A B : Int} (h0 : 0 ≤ a) (h1 : a ≤ A) (h2 : 0 ≤ b) (h3 : b ≤ B) : 0 ≤ a * b ∧ a * b ≤ A * B :=
  ⟨Int.mul_nonneg h0 h2, Int.mul_le_mul h1 h3 h2 (Int.le_trans h0 h1)⟩
theorem sizeJ_pos {tk : Int} {j : JobG} (h : jobIn tk j = true) (ht : tk ≤ 64) : 1 ≤ sizeJ j ∧ sizeJ j ≤ 64000 := by
  have hj := jobIn_true h
  have h1 := mul_lt (a := j.len) (b := j.units) (A := 64) (B := 1000) (by omega) (by omega) (by omega) (by omega)
  have h2 : 1 * 1 ≤ j.len * j.units := Int.mul_le_mul (by omega) (by omega) (by omega) (by omega)
  unfold sizeJ
  omega

set_option maxHeartbeats 1000000 in
theorem size_any (j : JobG) (w : World) (h : sizeJ j ≤ 64000) (h0 : 0 ≤ sizeJ j) :
    Calls Try.prog 122 #[.agg #[.int .i64 j.arr, .int .i64 j.dl, .int .i64 j.len, .int .i64 j.units, .int .i64 j.val]] w fun e w' => e = .returned (.int .i64 (sizeJ j)) ∧ Chg (fun _ => False) w w' := by
  have hw : IntKind.i64.wrap (j.len * j.units) = j.len * j.units := by unfold sizeJ at h h0; rw [IntKind.wrap_i64]; omega
  clear h h0
  go_enter Try.func122, Try.ntmps122
  go_wp2
  go_ret
  exact ⟨ret_int (by first | rfl | rw [hw]; rfl), (Chg.refl _ _).alloc _⟩

theorem bool_dec (b : Bool) : decide (b = true) = b := by cases b <;> rfl

/-- a bid's cells, at hand -/
theorem MktAt.bidCell {w : World} {p : Nat} {V : MV} {m : MkG} {i : Nat} {b : BidG} (h : MktAt w p V m) (hb : m.bids[i]? = some b) :
    ∃ g cap, V.bv = .slice (some ⟨g, 0, none⟩) m.bids.length cap ∧ V.bv.ownBlock = some g ∧ g < w.heap.size ∧ (∀ r u, (bidCells b)[r]? = some u → w.cell? ⟨g, i * 12 + r, none⟩ = some u) ∧ (∀ r, w.frozen? ⟨g, r, none⟩ = false) := by
  obtain ⟨ao, cap, hv, hel⟩ := h.bid_form
  obtain ⟨g, hao, hown, hcl, hfr⟩ := hel i b hb
  subst hao
  exact ⟨g, cap, hv, hown, (h.bids.lt g hown).2, hcl, hfr⟩

set_option maxRecDepth 100000 in
set_option maxHeartbeats 4000000 in
theorem open_at (p : Nat) (V : MV) (m : MkG) (i : Nat) (b : BidG) (t : Int) (w : World) (hm : MktAt w p V m) (hok : MkOk m) (hb : m.bids[i]? = some b) (ht0 : 0 ≤ t) (ht1 : t ≤ 64) :
    Calls Try.prog 129 #[.pointer (some ⟨p, 0, none⟩), .int .i64 i, .int .i64 t] w fun e w' => e = .returned (.bool (b.openB m t)) ∧ Chg (fun _ => False) w w' := by
  obtain ⟨g, cap, hv, hown, hgl, hcl, _⟩ := hm.bidCell hb
  have hil : (i : Int) < (m.bids.length : Int) := by have := (List.getElem?_eq_some_iff.1 hb).1; omega
  have i0 : (0 : Int) ≤ (i : Int) := by omega
  have hbok := hok.bid b (List.mem_of_getElem? hb)
  have hj := jobIn_true hbok.job
  have hcf := cfgOk_true hok.ck
  have hpl := hm.lt
  have c7 : w.cell? ⟨p, 7, none⟩ = some (.slice (some ⟨g, 0, none⟩) m.bids.length cap) := by rw [← hv]; exact hm.cell 7
  obtain ⟨ti, hti⟩ := Int.eq_ofNat_of_zero_le hbok.t0
  obtain ⟨sao, scap, hsv, hsel⟩ := hm.susp_form
  have hns := hok.ns
  have hbt := hbok.t1
  obtain ⟨gs, hsao, hsown, hscl, _⟩ := hsel ti (by omega)
  subst hsao
  have hsl : gs < w.heap.size := (hm.susp.lt gs hsown).2
  have c8 : w.cell? ⟨p, 8, none⟩ = some (.slice (some ⟨gs, 0, none⟩) m.susp.length scap) := by rw [← hsv]; exact hm.cell 8
  have hsi : (ti : Int) < (m.susp.length : Int) := by omega
  have t0 : (0 : Int) ≤ (ti : Int) := by omega
  have esu : suspAt m b.ten = m.susp.getD ti false := by rw [hti]; rfl
  have cs : w.cell? ⟨gs, ti, none⟩ = some (.bool (suspAt m b.ten)) := by rw [esu]; exact hscl
  have hlen : 1 ≤ b.job.len ∧ b.job.len ≤ 64 := by omega
  have c0 : w.cell? ⟨g, i * 12, none⟩ = some (.int .i64 ti) := by rw [← hti]; exact hcl 0 _ rfl
  have c1 : w.cell? ⟨g, i * 12 + 1, none⟩ = some (.int .i64 b.ref) := hcl 1 _ rfl
  have c2 : w.cell? ⟨g, i * 12 + 2, none⟩ = some (.int .i64 b.job.arr) := hcl 2 _ rfl
  have c3 : w.cell? ⟨g, i * 12 + 3, none⟩ = some (.int .i64 b.job.dl) := hcl 3 _ rfl
  have c4 : w.cell? ⟨g, i * 12 + 4, none⟩ = some (.int .i64 b.job.len) := hcl 4 _ rfl
  have c5 : w.cell? ⟨g, i * 12 + 5, none⟩ = some (.int .i64 b.job.units) := hcl 5 _ rfl
  have c6 : w.cell? ⟨g, i * 12 + 6, none⟩ = some (.int .i64 b.job.val) := hcl 6 _ rfl
  have c7' : w.cell? ⟨g, i * 12 + 7, none⟩ = some (.int .i64 b.arrival) := hcl 7 _ rfl
  have c8' : w.cell? ⟨g, i * 12 + 8, none⟩ = some (.int .i64 b.state) := hcl 8 _ rfl
  have c9 : w.cell? ⟨g, i * 12 + 9, none⟩ = some (.int .i64 b.start) := hcl 9 _ rfl
  have c10 : w.cell? ⟨g, i * 12 + 10, none⟩ = some (.int .i64 b.entry) := hcl 10 _ rfl
  have c11 : w.cell? ⟨g, i * 12 + 11, none⟩ = some (.bool b.charged) := hcl 11 _ rfl
  obtain ⟨r, hr⟩ : ∃ r, r = b.openB m t := ⟨_, rfl⟩
  have HR : Hid (r = ((b.state == 1) && !suspAt m b.ten && decide (b.arrival ≤ t) && decide (t + b.job.len ≤ b.job.dl))) := hr
  rw [← hr]
  obtain ⟨l1, l2⟩ := hlen
  have hwr : IntKind.i64.wrap (t + b.job.len) = t + b.job.len := by rw [IntKind.wrap_i64]; omega
  have d8 : ∀ o, (w.alloc o).cell? ⟨p, 8, none⟩ = some (.slice (some ⟨gs, 0, none⟩) m.susp.length scap) := fun o => by rw [World.cell?_alloc_lt _ _ _ (by exact hpl)]; exact c8
  have ds : ∀ o, (w.alloc o).cell? ⟨gs, ti, none⟩ = some (.bool (suspAt m b.ten)) := fun o => by rw [World.cell?_alloc_lt _ _ _ (by exact hsl)]; exact cs
  clear hcl hv hown hm hok hb hbok hj hcf hns hsel hsv hsown hscl esu hbt hr hti
  generalize suspAt m b.ten = su at *
  generalize m.bids.length = n at *
  generalize m.susp.length = ns at *
  cases h1 : b.state == 1
  · have hz : r = false := by rw [HR.out, h1]; rfl
    subst hz
    clear HR
    go_enter Try.func129, Try.ntmps129
    go_wp2
    go_quiet (fail)
    go_wp2
    go_ret
    exact ⟨rfl, ((Chg.refl _ _).alloc _).drewN _⟩
  cases su
  rotate_left
  · have hz : r = false := by rw [HR.out, h1]; rfl
    subst hz
    clear HR
    go_enter Try.func129, Try.ntmps129
    go_wp2
    go_quiet (fail)
    go_wp2
    go_ret
    exact ⟨rfl, ((Chg.refl _ _).alloc _).drewN _⟩
  cases h3 : decide (b.arrival ≤ t)
  · have hz : r = false := by rw [HR.out, h1, h3]; rfl
    subst hz
    clear HR
    go_enter Try.func129, Try.ntmps129
    go_wp2
    go_quiet (fail)
    go_wp2
    go_ret
    exact ⟨rfl, ((Chg.refl _ _).alloc _).drewN _⟩
  have hz : Hid (r = decide (t + b.job.len ≤ b.job.dl)) := by rw [HR.out, h1, h3]; exact Bool.true_and _
  clear HR
  have h3' : b.arrival ≤ t := by simpa using h3
  go_enter Try.func129, Try.ntmps129
  go_wp2
  go_quiet (fail)
  go_wp2
  go_ret
  exact ⟨ret_bool (by rw [hz.out]), ((Chg.refl _ _).alloc _).drewN _⟩
end Go.Proofs.Ytccfademkgjeiaa
