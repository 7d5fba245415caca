import Derived.Test.YtpenifeenfcphaaYd4
import Derived.Test.YtpenifeenfcphaaMkH
namespace Go.Proofs.Ytpenifeenfcphaa
open Go.RowKit

set_option maxRecDepth 100000 in
set_option maxHeartbeats 4000000 in
theorem ylook_any (V : YV) (m : MkG) (ten ref : Int) (w : World) (hm : YmAt w V m) (hok : MkOk m) :
    Calls Try.prog 83 #[.pointer (some ⟨V.q, 0, none⟩), .agg #[.int .i64 ten, .int .i64 ref]] w fun e w' => e = .returned (.tuple #[.agg #[.int .i64 (lookS m ten ref), .int .i64 (lookT m ten ref)], .int .i64 (lookE m ten ref)]) ∧ Chg (fun _ => False) w w' := by
  have HM := hide hm
  have HOK := hide hok
  clear hm hok
  go_enter Try.func83, Try.ntmps83
  go_wp2_with fail
  obtain ⟨w1, hw1⟩ : ∃ w1, w1 = (w.alloc (.cells #[.int .i64 ten, .int .i64 ref] 78)).alloc (.cells #[.int .i64 0, .int .i64 0] 100) := ⟨_, rfl⟩
  rw [← hw1]
  have hbk : w1.heap[w.heap.size + 1]? = some (.cells #[.int .i64 0, .int .i64 0] 100 (0, 0)) := by
    rw [hw1]
    have := heap_alloc_new (w.alloc (.cells #[.int .i64 ten, .int .i64 ref] 78)) (.cells #[.int .i64 0, .int .i64 0] 100)
    simpa using this
  have hc1 : Chg (fun _ => False) w w1 := by rw [hw1]; exact ((Chg.refl _ _).alloc _).alloc _
  have hs1 : w1.heap.size = w.heap.size + 1 + 1 := by rw [hw1]; simp
  clear hw1
  refine (yfind_any V m ten ref _ (HM.out.chg0 hc1) HOK.out).mono ?_
  rintro e w2 ⟨rfl, hq⟩
  have hbk2 : w2.heap[w.heap.size + 1]? = some (.cells #[.int .i64 0, .int .i64 0] 100 (0, 0)) := (hq.block _ (by omega) (fun h => h)).trans hbk
  have z0 : w2.cell? ⟨w.heap.size + 1, 0, none⟩ = some (.int .i64 0) := by unfold World.cell?; rw [hbk2]; rfl
  have z1 : w2.cell? ⟨w.heap.size + 1, 1, none⟩ = some (.int .i64 0) := by unfold World.cell?; rw [hbk2]; rfl
  have zf : ∀ r, w2.frozen? ⟨w.heap.size + 1, r, none⟩ = false := fun r => by unfold World.frozen?; rw [hbk2]; simp
  have HC2 := hide (hc1.trans hq (fun _ _ h => h))
  have HBK := hide hbk2
  have H2 := hide (HM.out.chg0 HC2.out)
  clear hc1 hs1 hbk hq hbk2
  rcases lookE_cases m ten ref with ⟨h1, hT⟩ | ⟨h1, hT, hf⟩ | ⟨h1, hT, hf⟩
  · have E1 := hide h1
    rw [h1]
    clear h1 hT
    generalize yfindI m ten ref = z at *
    go_wp2
    obtain ⟨r0, r1⟩ := two_set (a := .int .i64 0) (b := .int .i64 0) HBK.out
    refine bodyPost_ret (v := .tuple #[.agg #[.int .i64 0, .int .i64 0], .int .i64 3]) (by simp [results, Try.results83, go_sem, r0, r1]) rfl ⟨?_, ?_⟩
    · rw [lookS, lookT, E1.out]; rfl
    · exact (HC2.out.setCell (.inr (Nat.le_succ _)) _).setCell (.inr (Nat.le_succ _)) _
  · have E1 := hide h1
    rw [h1]
    clear h1 hT hf
    generalize yfindI m ten ref = z at *
    go_wp2
    obtain ⟨r0, r1⟩ := two_set (a := .int .i64 0) (b := .int .i64 0) HBK.out
    refine bodyPost_ret (v := .tuple #[.agg #[.int .i64 0, .int .i64 0], .int .i64 5]) (by simp [results, Try.results83, go_sem, r0, r1]) rfl ⟨?_, ?_⟩
    · rw [lookS, lookT, E1.out]; rfl
    · exact (HC2.out.setCell (.inr (Nat.le_succ _)) _).setCell (.inr (Nat.le_succ _)) _
  · have E2 : yfindI m ten ref = findZ m.bids ten ref := by rw [yfindI, h1]; rfl
    rw [h1, E2]
    have hfl := findZ_lt m.bids ten ref
    have hbl := HOK.out.bl
    obtain ⟨i, hi⟩ := Int.eq_ofNat_of_zero_le (show 0 ≤ findZ m.bids ten ref by omega)
    obtain ⟨b, hb⟩ : ∃ b, m.bids[i]? = some b := ⟨_, List.getElem?_eq_getElem (by omega)⟩
    obtain ⟨ao, cap, hv, hel⟩ := H2.out.bid_form
    obtain ⟨g, hao, hown, hcl, hfr⟩ := hel i b hb
    subst hao
    have hil : (i : Int) < (m.bids.length : Int) := by omega
    have c6 : w2.cell? ⟨V.q, 6, none⟩ = some (.slice (some ⟨g, 0, none⟩) m.bids.length cap) := by rw [← hv]; exact H2.out.cell 6
    have c7 : w2.cell? ⟨g, i * 9 + 7, none⟩ = some (.int .i64 b.state) := hcl 7 _ rfl
    have c8 : w2.cell? ⟨g, i * 9 + 8, none⟩ = some (.int .i64 b.start) := hcl 8 _ rfl
    have E1 := hide h1
    have E3 := hide (show lookS m ten ref = b.state ∧ lookT m ten ref = b.start by
      rw [lookS, lookT, h1, hi]
      simp [stateAt, startAt, hb])
    rw [hi]
    clear hcl hfr hel hv hb hown hfl hf hi hT h1 E2
    generalize m.bids.length = n at *
    go_wp2
    obtain ⟨r0, r1⟩ := two_set (a := .int .i64 b.state) (b := .int .i64 b.start) HBK.out
    refine bodyPost_ret (v := .tuple #[.agg #[.int .i64 b.state, .int .i64 b.start], .int .i64 0]) (by simp [results, Try.results83, go_sem, r0, r1]) rfl ⟨?_, ?_⟩
    · rw [E3.out.1, E3.out.2, E1.out]
    · exact (HC2.out.setCell (.inr (Nat.le_succ _)) _).setCell (.inr (Nat.le_succ _)) _
end Go.Proofs.Ytpenifeenfcphaa
