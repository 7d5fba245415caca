import Derived.Test.YtminceigjejipabGreatG8
namespace Go.Proofs.YtminceigjejipabGreat
open Go.RowKit

theorem aheadI_eq {l : List BidG} {i k : Nat} {a b : BidG} (ha : l[i]? = some a) (hb : l[k]? = some b) : aheadI l i k = aheadJ a.job b.job i k := by
  unfold aheadI
  rw [ha, hb]

set_option maxRecDepth 100000 in
set_option maxHeartbeats 8000000 in
theorem next_at (p : Nat) (V : MV) (m : MkG) (t : Int) (lv : Value) (lk : Nat → Bool) (w : World) (hm : MktAt w p V m) (hok : MkOk m) (hlk : LkAt w lv m.bids.length lk) (ht0 : 0 ≤ t) (ht1 : t ≤ 64) :
    Calls Tryz.prog 74 #[.pointer (some ⟨p, 0, none⟩), .int .i64 t, lv] w fun e w' => e = .returned (.int .i64 (nextGo m t lk m.bids.length)) ∧ Chg (fun _ => False) w w' := by
  obtain ⟨la, lc, rfl, hlk⟩ := hlk
  have hpl := hm.lt
  have HM := hide hm
  have HOK := hide hok
  have HLK := hide hlk
  have hbl := hok.bl
  obtain ⟨n, hn⟩ : ∃ n, n = m.bids.length := ⟨_, rfl⟩
  rw [← hn] at hbl ⊢
  have HN := hide hn
  obtain ⟨ba, bc, hbv, _⟩ := hm.bid_form
  have HC7 := hide (show w.cell? ⟨p, 7, none⟩ = some (.slice ba n bc) by rw [hn, ← hbv]; exact hm.cell 7)
  have HC12 := hide (show w.cell? ⟨p, 12, none⟩ = some (.int .i64 m.ghost) from hm.cell 12)
  clear hm hok hlk hbv hn
  go_enter Tryz.func74, Tryz.ntmps74
  go_wp2
  go_loopw [7, 8] (fun x y wr => ∃ k : Nat, k ≤ n ∧ x = .int .i64 (nextGo m t lk k) ∧ y = .int .i64 k ∧ Chg (fun _ => False) w wr) (fun _ y _ => n - (intOf y).toNat)
  case atStart => exact ⟨0, by omega, rfl, rfl, Chg.refl _ _⟩
  case round =>
    obtain ⟨k, hk, rfl, rfl, hch⟩ := hrel
    have HCH := hide hch
    have c7 : wr.cell? ⟨p, 7, none⟩ = some (.slice ba n bc) := by rw [hch.cell (by exact hpl) (fun h => h)]; exact HC7.out
    clear hch
    by_cases hlt : k < n
    · obtain ⟨b, hb⟩ : ∃ b, m.bids[k]? = some b := ⟨_, List.getElem?_eq_getElem (by rw [← HN.out]; exact hlt)⟩
      have HNS := hide (nextGo_succ (t := t) (lk := lk) hb)
      have HB := hide hb
      go_wp2_with fail
      refine (open_at p V m k b t _ (HM.out.chg0 HCH.out) HOK.out hb ht0 ht1).mono ?_
      rintro e w2 ⟨rfl, hq⟩
      have hch2 := HCH.out.trans hq (fun _ _ h => h)
      have HCH2 := hide hch2
      have hnl := nextGo_lt m t lk k
      obtain ⟨g, hao, hgl, hcl, _⟩ := HLK.out k (by rw [← HN.out]; exact hlt)
      subst hao
      obtain ⟨gb, cap, hv, hown, hgbl, hbcl, _⟩ := HM.out.bidCell hb
      have hba : ba = some ⟨gb, 0, none⟩ ∧ bc = cap := by
        have h1 : w.cell? ⟨p, 7, none⟩ = some V.bv := HM.out.cell 7
        rw [HC7.out, hv] at h1
        simp at h1
        exact ⟨h1.1, h1.2.2⟩
      obtain ⟨rfl, rfl⟩ := hba
      have c7' : w2.cell? ⟨p, 7, none⟩ = some (.slice (some ⟨gb, 0, none⟩) n bc) := by rw [hch2.cell (by exact hpl) (fun h => h)]; exact HC7.out
      have c12 : w2.cell? ⟨p, 12, none⟩ = some (.int .i64 m.ghost) := by rw [hch2.cell (by exact hpl) (fun h => h)]; exact HC12.out
      have be : w2.cell? ⟨gb, k * 12 + 10, none⟩ = some (.int .i64 b.entry) := by rw [hch2.cell (by exact hgbl) (fun h => h)]; exact hbcl 10 _ rfl
      have lkc : w2.cell? ⟨g, k, none⟩ = some (.bool (lk k)) := by rw [hch2.cell (by exact hgl) (fun h => h)]; exact hcl
      have k0 : (0 : Int) ≤ (k : Int) := by omega
      have k1 : (k : Int) < (n : Int) := by omega
      have hp2 : p < w2.heap.size := Nat.lt_of_lt_of_le hpl hch2.size
      have hg2 : g < w2.heap.size := Nat.lt_of_lt_of_le hgl hch2.size
      have hgb2 : gb < w2.heap.size := Nat.lt_of_lt_of_le hgbl hch2.size
      clear hq hch2 c7 hb hcl hv hown hbcl hgl hgbl
      cases ho : b.openB m t
      · have E := hide (show nextGo m t lk (k + 1) = nextGo m t lk k by rw [HNS.out, if_neg (by simp [candB, ho])])
        clear HNS ho
        generalize nextGo m t lk k = bs at *
        go_wp2
        go_quiet (fail)
        go_wp2
        go_roundw
        case rel => exact ⟨k + 1, by omega, by rw [E.out], by go_num, HCH2.out.drewN _⟩
        case measure => simp [intOf]; omega
      cases hl : lk k
      rotate_left
      · have E := hide (show nextGo m t lk (k + 1) = nextGo m t lk k by rw [HNS.out, if_neg (by simp [hl])])
        rw [hl] at lkc
        clear HNS ho hl
        generalize nextGo m t lk k = bs at *
        go_wp2
        go_quiet (fail)
        go_wp2
        go_roundw
        case rel => exact ⟨k + 1, by omega, by rw [E.out], by go_num, HCH2.out.drewN _⟩
        case measure => simp [intOf]; omega
      rw [hl] at lkc
      cases hg : b.entry == m.ghost
      rotate_left
      · have E := hide (show nextGo m t lk (k + 1) = nextGo m t lk k by rw [HNS.out, if_neg (by simp at hg; simp [candB, hg])])
        have hge : b.entry = m.ghost := by simpa using hg
        have d2 : (b.entry != m.ghost) = false := by simp [hge]
        have d3 : decide (b.entry ≠ m.ghost) = false := by simp [hge]
        have d4 : (!(b.entry == m.ghost)) = false := by simp [hge]
        have d5 : decide (b.entry = m.ghost) = true := by simp [hge]
        have d6 : (!decide (b.entry = m.ghost)) = false := by simp [hge]
        clear HNS ho hl
        generalize nextGo m t lk k = bs at *
        go_wp2
        go_quiet (fail)
        go_wp2
        go_roundw
        case rel => exact ⟨k + 1, by omega, by rw [E.out], by go_num, HCH2.out.drewN _⟩
        case measure => simp [intOf]; omega
      have hgn : ¬ b.entry = m.ghost := by simpa using hg
      have d2 : (b.entry != m.ghost) = true := by simp [hgn]
      have d3 : decide (b.entry ≠ m.ghost) = true := by simp [hgn]
      have d4 : (!(b.entry == m.ghost)) = true := by simp [hgn]
      have d5 : decide (b.entry = m.ghost) = false := by simp [hgn]
      have d6 : (!decide (b.entry = m.ghost)) = true := by simp [hgn]
      have HCA := hide (show candB m t b = true by simp at hg; simp [candB, ho, hg])
      by_cases hbs : nextGo m t lk k < 0
      · have E := hide (show nextGo m t lk (k + 1) = k by rw [HNS.out, if_pos (by simp [HCA.out, hl, hbs])])
        have d1 : decide (nextGo m t lk k < 0) = true := by simpa using hbs
        clear HNS ho hl
        generalize nextGo m t lk k = bs at *
        go_wp2
        go_quiet (fail)
        go_wp2
        go_roundw
        case rel => exact ⟨k + 1, by omega, by rw [E.out], by go_num, HCH2.out.drewN _⟩
        case measure => simp [intOf]; omega
      obtain ⟨z, hz⟩ := Int.eq_ofNat_of_zero_le (show 0 ≤ nextGo m t lk k by omega)
      obtain ⟨a, ha⟩ : ∃ a, m.bids[z]? = some a := ⟨_, List.getElem?_eq_getElem (by rw [← HN.out]; omega)⟩
      have HE := hide (show nextGo m t lk (k + 1) = if aheadJ b.job a.job k z then (k : Int) else (z : Int) by
        rw [HNS.out, hz, Int.toNat_natCast, aheadI_eq HB.out ha]
        have hzn : ¬ (z : Int) < 0 := by omega
        simp [HCA.out, hl, hzn])
      have HAH := hide (fun (w' : World) (h : Chg (fun _ => False) w w') => ahead_at p V m k z b a w' (HM.out.chg0 h) HOK.out HB.out ha)
      have d1 : decide ((z : Int) < 0) = false := by simp
      rw [hz]
      obtain ⟨ah, hah⟩ : ∃ ah, ah = aheadJ b.job a.job k z := ⟨_, rfl⟩
      rw [← hah] at HE HAH
      clear HNS ho hl hnl hbs hz hah
      go_wp2
      go_region_held3 (fun w' => w'.cell? ⟨p, 7, none⟩ = some (.slice (some ⟨gb, 0, none⟩) n bc) ∧ w'.cell? ⟨p, 12, none⟩ = some (.int .i64 m.ghost) ∧ w'.cell? ⟨gb, k * 12 + 10, none⟩ = some (.int .i64 b.entry) ∧ w'.cell? ⟨g, k, none⟩ = some (.bool false)) (go_keep)
        (first | (go_at_call 92; refine (HAH.out w2.drew HCH2.out.drew).mono ?_; rintro e w3 ⟨rfl, hq⟩; have x0 := hq.cell (p := ⟨p, 7, none⟩) hp2 (fun h => h); have x1 := hq.cell (p := ⟨p, 12, none⟩) hp2 (fun h => h); have x2 := hq.cell (p := ⟨gb, k * 12 + 10, none⟩) hgb2 (fun h => h); have x3 := hq.cell (p := ⟨g, k, none⟩) hg2 (fun h => h); have HQ := hide hq; clear hq))
      all_goals
        clear x0 x1 x2 x3 c7' c12 be lkc HAH d1 d2 d3 d4 d5 d6 hgn hg
        have HC3 := hide (HCH2.out.trans (show Chg (fun _ => False) w2 w3 from ⟨HQ.out.os, HQ.out.tape, HQ.out.output, HQ.out.size, HQ.out.block⟩) (fun _ _ h => h))
        clear HQ
        cases ah
        · go_wp2
          go_roundw
          case rel => exact ⟨k + 1, by omega, by rw [HE.out]; rfl, by go_num, HC3.out⟩
          case measure => simp [intOf]; omega
        · go_wp2
          go_roundw
          case rel => exact ⟨k + 1, by omega, by rw [HE.out]; rfl, by go_num, HC3.out⟩
          case measure => simp [intOf]; omega
    · have hkn : k = n := by omega
      subst hkn
      go_wp2
      go_ret
      exact ⟨rfl, HCH.out⟩
end Go.Proofs.YtminceigjejipabGreat
