import Derived.Test.YtminceigjejipaaYt2
namespace Go.Proofs.Ytminceigjejipaa
open Go.RowKit

set_option maxRecDepth 100000 in
set_option maxHeartbeats 8000000 in
theorem expire_any (V : YV) (m : MkG) (w : World) (hm : YmAt w V m) (hok : MkOk m) (ht : m.time ≤ 64) :
    Calls Try.prog 79 #[.pointer (some ⟨V.q, 0, none⟩)] w fun e w' => e = .returned (.tuple #[]) ∧ YmAt w' V { m with bids := m.bids.map fun b => b.expire m.time } ∧ Chg V.foot w w' := by
  obtain ⟨n, hn⟩ : ∃ n, n = m.bids.length := ⟨_, rfl⟩
  obtain ⟨ba, bc, hbv, _⟩ := hm.bid_form
  have c6 : w.cell? ⟨V.q, 6, none⟩ = some (.slice ba n bc) := by rw [hn, ← hbv]; exact hm.cell 6
  have hnb := hok.bl
  rw [← hn] at hnb
  have ht0 := hok.t0
  have HM := hide hm
  have HOK := hide hok
  have HN := hide hn
  clear hm hok hbv hn
  go_enter Try.func79, Try.ntmps79
  go_wp2
  go_loopw [8] (fun y wr => ∃ k : Nat, k ≤ n ∧ y = .int .i64 k ∧ YmAt wr V { m with bids := expTo m.bids k m.time } ∧ Chg V.foot w wr) (fun y _ => n - (intOf y).toNat)
  case atStart => exact ⟨0, by omega, rfl, by rw [expTo_zero]; exact HM.out, Chg.refl _ _⟩
  case round =>
    obtain ⟨k, hk, rfl, hmr, hch⟩ := hrel
    clear c6
    have HMR := hide hmr
    have HCH := hide hch
    clear hch
    by_cases hlt : k < n
    · obtain ⟨b, hb⟩ : ∃ b, m.bids[k]? = some b := ⟨_, List.getElem?_eq_getElem (by rw [← HN.out]; exact hlt)⟩
      have hb2 : (expTo m.bids k m.time)[k]? = some b := by rw [expTo_get]; exact hb
      obtain ⟨gb, cap, hv, hown, hgbl, hbcl, hbfr⟩ := hmr.bidCell hb2
      have hlk : (expTo m.bids k m.time).length = n := by rw [expTo_len]; exact HN.out.symm
      have c6 : wr.cell? ⟨V.q, 6, none⟩ = some (.slice (some ⟨gb, 0, none⟩) n cap) := by rw [← hlk, ← show V.bv = .slice (some ⟨gb, 0, none⟩) (expTo m.bids k m.time).length cap from hv]; exact hmr.cell 6
      have hbok := HOK.out.bid b (List.mem_of_getElem? hb)
      obtain ⟨_, _, n3, _, _⟩ := hbok.nums HOK.out
      have b2 : wr.cell? ⟨gb, k * 9 + 2, none⟩ = some (.int .i64 b.job.arr) := hbcl 2 _ rfl
      have b3 : wr.cell? ⟨gb, k * 9 + 3, none⟩ = some (.int .i64 b.job.dl) := hbcl 3 _ rfl
      have b4 : wr.cell? ⟨gb, k * 9 + 4, none⟩ = some (.int .i64 b.job.len) := hbcl 4 _ rfl
      have b5 : wr.cell? ⟨gb, k * 9 + 5, none⟩ = some (.int .i64 b.job.units) := hbcl 5 _ rfl
      have b6 : wr.cell? ⟨gb, k * 9 + 6, none⟩ = some (.int .i64 b.job.val) := hbcl 6 _ rfl
      have b7 : wr.cell? ⟨gb, k * 9 + 7, none⟩ = some (.int .i64 b.state) := hbcl 7 _ rfl
      have k0 : (0 : Int) ≤ (k : Int) := by omega
      have k1 : (k : Int) < (n : Int) := by omega
      have HB := hide hb
      have HB2 := hide hb2
      have HOW := hide hown
      have HGL := hide hgbl
      have HFR := hide hbfr
      have HIT := hide (inTime_any V { m with bids := expTo m.bids k m.time } b.job wr hmr ht0 ht n3)
      clear hmr hv hown hbcl hbfr hbok hb hb2 hlk hgbl
      cases h1 : b.state == 1
      · have E := hide (show expTo m.bids (k + 1) m.time = expTo m.bids k m.time from expTo_same HB.out (by unfold BidG.expire; rw [h1]; rfl))
        go_wp2
        go_roundw
        case rel => exact ⟨k + 1, by omega, by go_num, by rw [E.out]; exact HMR.out, HCH.out⟩
        case measure => simp [intOf]; omega
      · have h1' : b.state = 1 := by simpa using h1
        by_cases h2 : m.time + b.job.len ≤ b.job.dl
        · have E := hide (show expTo m.bids (k + 1) m.time = expTo m.bids k m.time from expTo_same HB.out (by unfold BidG.expire; rw [h1]; simp; omega))
          have d2 : decide (m.time + b.job.len ≤ b.job.dl) = true := by simpa using h2
          simp only [d2] at HIT
          go_wp2_with (go_at_call 80; refine HIT.out.mono ?_; rintro e w2 ⟨rfl, hq⟩; have HQ := hide hq; clear hq)
          go_roundw
          case rel => exact ⟨k + 1, by omega, by go_num, by rw [E.out]; exact HMR.out.chg0 HQ.out, HCH.out.trans HQ.out (fun _ _ h => h.elim)⟩
          case measure => simp [intOf]; omega
        · have d2 : decide (m.time + b.job.len ≤ b.job.dl) = false := by simpa using h2
          simp only [d2] at HIT
          have E := hide (show expTo m.bids (k + 1) m.time = (expTo m.bids k m.time).set k { b with state := 4 } by rw [expTo_succ HB.out, show b.expire m.time = { b with state := 4 } by unfold BidG.expire; rw [h1, if_pos (by simp; omega)]])
          have HST := hide (fun (w2 : World) (hq : Chg (fun _ => False) wr w2) => (HMR.out.chg0 hq).setState' (s := 4) HB2.out (by omega) (by omega) HOW.out)
          have HLT := hide HMR.out.lt
          go_wp2_with (go_at_call 80; refine HIT.out.mono ?_; rintro e w2 ⟨rfl, hq⟩; have HQ := hide hq; have x6 := hq.cell (p := ⟨V.q, 6, none⟩) HLT.out (fun h => h); rw [c6] at x6; have x7 := hq.cell (p := ⟨gb, k * 9 + 7, none⟩) HGL.out (fun h => h); rw [b7] at x7; have xf := hq.frozen (p := ⟨gb, k * 9 + 7, none⟩) HGL.out (fun h => h); rw [HFR.out] at xf; clear hq)
          go_roundw
          case rel => exact ⟨k + 1, by omega, by go_num, by rw [E.out]; exact HST.out _ HQ.out, (HCH.out.trans HQ.out (fun _ _ h => h.elim)).setCell (.inl (.inr (.inr (.inr (.inr (.inl HOW.out)))))) _⟩
          case measure => simp [intOf]; omega
    · have HFIN := hide (show YmAt wr V { m with bids := m.bids.map fun b => b.expire m.time } by
        rw [← expTo_all, ← HN.out, show n = k by omega]; exact HMR.out)
      clear hmr
      go_wp2
      go_end0
      exact ⟨rfl, HFIN.out, HCH.out⟩
end Go.Proofs.Ytminceigjejipaa
