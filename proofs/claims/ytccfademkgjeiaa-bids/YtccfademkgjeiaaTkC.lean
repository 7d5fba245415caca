import Derived.Test.YtccfademkgjeiaaTkB
import Derived.Test.YtccfademkgjeiaaMkH
namespace Go.Proofs.Ytccfademkgjeiaa
open Go.RowKit

theorem freeV_range {m : MkG} (hok : MkOk m) (t : Int) : -300000 ≤ freeV m t ∧ freeV m t ≤ 100000 := by
  unfold freeV
  split
  · omega
  · rename_i h
    have hnu := hok.nu
    have hcf := cfgOk_true hok.ck
    have hi : t.toNat < m.units.length := by omega
    have hu := hok.un (m.units.getD t.toNat 0) (by simp [List.getD, List.getElem?_eq_getElem hi])
    have hus := usedL_le m.c t m.bids hok.bid
    have hbl := hok.bl
    omega

theorem fitsB_iff {m : MkG} {b : BidG} {t : Int} : fitsB m b t = true ↔ ∀ s : Nat, (s : Int) < b.job.len → b.job.units ≤ freeV m (t + s) := by
  simp only [fitsB, List.all_eq_true, List.mem_range, decide_eq_true_eq]
  constructor
  · intro h s hs
    exact h s (by omega)
  · intro h s hs
    exact h s (by omega)

set_option maxRecDepth 100000 in
set_option maxHeartbeats 4000000 in
theorem fits_at (p : Nat) (V : MV) (m : MkG) (i : Nat) (b : BidG) (t : Int) (w : World) (hm : MktAt w p V m) (hok : MkOk m) (hb : m.bids[i]? = some b) (ht0 : 0 ≤ t) (ht1 : t ≤ 64) :
    Calls Try.prog 120 #[.pointer (some ⟨p, 0, none⟩), .int .i64 i, .int .i64 t] w fun e w' => e = .returned (.bool (fitsB m b t)) ∧ Chg (fun _ => False) w w' := by
  obtain ⟨g, cap, hv, hown, hgl, hcl, _⟩ := hm.bidCell hb
  have hil : (i : Int) < (m.bids.length : Int) := by have := (List.getElem?_eq_some_iff.1 hb).1; omega
  have i0 : (0 : Int) ≤ (i : Int) := by omega
  have hj := jobIn_true (hok.bid b (List.mem_of_getElem? hb)).job
  have hcf := cfgOk_true hok.ck
  have hpl := hm.lt
  have HC7 := hide (show w.cell? ⟨p, 7, none⟩ = some (.slice (some ⟨g, 0, none⟩) m.bids.length cap) by rw [← hv]; exact hm.cell 7)
  have HB4 := hide (show w.cell? ⟨g, i * 12 + 4, none⟩ = some (.int .i64 b.job.len) from hcl 4 _ rfl)
  have HB5 := hide (show w.cell? ⟨g, i * 12 + 5, none⟩ = some (.int .i64 b.job.units) from hcl 5 _ rfl)
  have HM := hide hm
  have HOK := hide hok
  have hl : 1 ≤ b.job.len ∧ b.job.len ≤ 64 := by omega
  obtain ⟨l1, l2⟩ := hl
  clear hcl hv hown hm hok hb hj hcf
  generalize m.bids.length = n at *
  go_enter Try.func120, Try.ntmps120
  go_wp2
  go_loopw [7] (fun x wr => ∃ s : Nat, (s : Int) ≤ b.job.len ∧ x = .int .i64 (t + s) ∧ (∀ s' : Nat, s' < s → b.job.units ≤ freeV m (t + s')) ∧ Chg (fun _ => False) w wr) (fun x _ => (t + b.job.len - intOf x).toNat)
  case atStart => exact ⟨0, by omega, by simp, fun s' h => by omega, Chg.refl _ _⟩
  case round =>
    obtain ⟨s, hs, rfl, hno, hch⟩ := hrel
    have HNO := hide hno
    have HCH := hide hch
    have c7 : wr.cell? ⟨p, 7, none⟩ = some (.slice (some ⟨g, 0, none⟩) n cap) := by rw [hch.cell (by exact hpl) (fun h => h)]; exact HC7.out
    have b4 : wr.cell? ⟨g, i * 12 + 4, none⟩ = some (.int .i64 b.job.len) := by rw [hch.cell (by exact hgl) (fun h => h)]; exact HB4.out
    clear hno hch
    by_cases hlt : (s : Int) < b.job.len
    · go_wp2_with fail
      refine (free_any p V m (t + s) _ (HM.out.chg0 HCH.out) HOK.out).mono ?_
      rintro e w2 ⟨rfl, hq⟩
      have hch2 := HCH.out.trans hq (fun _ _ h => h)
      have HCH2 := hide hch2
      have hrange := freeV_range HOK.out (t + s)
      obtain ⟨f, hf⟩ : ∃ f, f = freeV m (t + s) := ⟨_, rfl⟩
      rw [← hf] at hrange ⊢
      have HF := hide hf
      obtain ⟨fe, hfe⟩ : ∃ fe, fe = freeE m (t + s) := ⟨_, rfl⟩
      rw [← hfe]
      clear hfe hf
      have c7' : w2.cell? ⟨p, 7, none⟩ = some (.slice (some ⟨g, 0, none⟩) n cap) := by rw [hch2.cell (by exact hpl) (fun h => h)]; exact HC7.out
      have b5 : w2.cell? ⟨g, i * 12 + 5, none⟩ = some (.int .i64 b.job.units) := by rw [hch2.cell (by exact hgl) (fun h => h)]; exact HB5.out
      clear hq hch2 c7 b4
      by_cases hfu : f < b.job.units
      · have E := hide (show fitsB m b t = false by
          cases hb : fitsB m b t
          · rfl
          · have := fitsB_iff.1 hb s hlt
            rw [← HF.out] at this
            omega)
        go_wp2
        go_ret
        exact ⟨ret_bool E.out.symm, HCH2.out⟩
      · go_wp2
        go_roundw
        case rel =>
          refine ⟨s + 1, by omega, by go_num, fun s' h => ?_, HCH2.out⟩
          by_cases e : s' < s
          · exact HNO.out s' e
          · obtain rfl : s' = s := by omega
            rw [← HF.out]
            omega
        case measure => simp [intOf]; omega
    · have E := hide (show fitsB m b t = true from fitsB_iff.2 (fun s' h => HNO.out s' (by omega)))
      go_wp2
      go_ret
      exact ⟨ret_bool E.out.symm, HCH.out⟩

theorem nextGo_lt (m : MkG) (t : Int) (lk : Nat → Bool) : ∀ k, -1 ≤ nextGo m t lk k ∧ nextGo m t lk k < (k : Int)
  | 0 => by simp [nextGo]
  | k + 1 => by
    have ih := nextGo_lt m t lk k
    unfold nextGo
    simp only
    split
    · split
      · omega
      · omega
    · omega
theorem nextGo_succ {m : MkG} {t : Int} {lk : Nat → Bool} {k : Nat} {b : BidG} (hb : m.bids[k]? = some b) : nextGo m t lk (k + 1) = if candB m t b && !lk k && (decide (nextGo m t lk k < 0) || aheadI m.bids k (nextGo m t lk k).toNat) then (k : Int) else nextGo m t lk k := by
  rw [nextGo]
  simp only [hb]

/-- a list of marks in memory -/
def LkAt (w : World) (lv : Value) (n : Nat) (lk : Nat → Bool) : Prop := ∃ ao cap, lv = .slice ao n cap ∧ ∀ j, j < n → ∃ g, ao = some ⟨g, 0, none⟩ ∧ g < w.heap.size ∧ w.cell? ⟨g, j, none⟩ = some (.bool (lk j)) ∧ w.frozen? ⟨g, j, none⟩ = false

theorem LkAt.chg0 {w w' : World} {lv : Value} {n : Nat} {lk : Nat → Bool} (h : LkAt w lv n lk) (hc : Chg (fun _ => False) w w') : LkAt w' lv n lk := by
  obtain ⟨ao, cap, hv, h⟩ := h
  refine ⟨ao, cap, hv, fun j hj => ?_⟩
  obtain ⟨g, h1, h2, h3, h4⟩ := h j hj
  exact ⟨g, h1, Nat.lt_of_lt_of_le h2 hc.size, by rw [hc.cell (by exact h2) (fun h => h)]; exact h3, by rw [hc.frozen (by exact h2) (fun h => h)]; exact h4⟩
end Go.Proofs.Ytccfademkgjeiaa
