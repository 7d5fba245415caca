import Derived.Test.YtminceigjejipabGreatTkD
namespace Go.Proofs.YtminceigjejipabGreat
open Go.RowKit

/-- the ghost's place, as a number -/
def ghostZ (m : MkG) (t : Int) : Int := match ghostI m t with | some i => i | none => -1
theorem ghostZ_none {m : MkG} {t : Int} (h : ∀ (i : Nat) (b : BidG), m.bids[i]? = some b → (b.openB m t && (b.entry == m.ghost)) = false) : ghostI m t = none := by
  unfold ghostI
  rw [List.findIdx?_eq_none_iff]
  intro x hx
  obtain ⟨i, hi⟩ := List.getElem?_of_mem hx
  exact h i x hi
theorem ghostZ_some {m : MkG} {t : Int} {k : Nat} {b : BidG} (hb : m.bids[k]? = some b) (hk : (b.openB m t && (b.entry == m.ghost)) = true) (h : ∀ (i : Nat) (b : BidG), i < k → m.bids[i]? = some b → (b.openB m t && (b.entry == m.ghost)) = false) : ghostI m t = some k := by
  have hkl := (List.getElem?_eq_some_iff.1 hb)
  unfold ghostI
  rw [List.findIdx?_eq_some_iff_getElem.2 ⟨hkl.1, by rw [hkl.2]; exact hk, fun j hj => by rw [h j _ hj (List.getElem?_eq_getElem (by have := hkl.1; omega))]; simp⟩]

set_option maxRecDepth 100000 in
set_option maxHeartbeats 8000000 in
theorem ghost_at (p : Nat) (V : MV) (m : MkG) (t : Int) (w : World) (hm : MktAt w p V m) (hok : MkOk m) (ht0 : 0 ≤ t) (ht1 : t ≤ 64) :
    Calls Tryz.prog 73 #[.pointer (some ⟨p, 0, none⟩), .int .i64 t] w fun e w' => e = .returned (.int .i64 (ghostZ m t)) ∧ Chg (fun _ => False) w w' := by
  have hpl := hm.lt
  have HM := hide hm
  have HOK := hide hok
  have hbl := hok.bl
  obtain ⟨n, hn⟩ : ∃ n, n = m.bids.length := ⟨_, rfl⟩
  rw [← hn] at hbl
  have HN := hide hn
  obtain ⟨ba, bc, hbv, _⟩ := hm.bid_form
  have HC7 := hide (show w.cell? ⟨p, 7, none⟩ = some (.slice ba n bc) by rw [hn, ← hbv]; exact hm.cell 7)
  have HC12 := hide (show w.cell? ⟨p, 12, none⟩ = some (.int .i64 m.ghost) from hm.cell 12)
  clear hm hok hbv hn
  go_enter Tryz.func73, Tryz.ntmps73
  go_wp2
  go_loopw [5] (fun y wr => ∃ k : Nat, k ≤ n ∧ y = .int .i64 k ∧ (∀ (i : Nat) (b : BidG), i < k → m.bids[i]? = some b → (b.openB m t && (b.entry == m.ghost)) = false) ∧ Chg (fun _ => False) w wr) (fun y _ => n - (intOf y).toNat)
  case atStart => exact ⟨0, by omega, rfl, fun i b h => by omega, Chg.refl _ _⟩
  case round =>
    obtain ⟨k, hk, rfl, hno, hch⟩ := hrel
    have HCH := hide hch
    have HNO := hide hno
    have c7 : wr.cell? ⟨p, 7, none⟩ = some (.slice ba n bc) := by rw [hch.cell (by exact hpl) (fun h => h)]; exact HC7.out
    clear hch hno
    by_cases hlt : k < n
    · obtain ⟨b, hb⟩ : ∃ b, m.bids[k]? = some b := ⟨_, List.getElem?_eq_getElem (by rw [← HN.out]; exact hlt)⟩
      have HB := hide hb
      have HNX := hide (fun (h0 : (b.openB m t && (b.entry == m.ghost)) = false) => show ∀ (i : Nat) (b : BidG), i < k + 1 → m.bids[i]? = some b → (b.openB m t && (b.entry == m.ghost)) = false from fun i b' hi hb' => by
        by_cases e : i < k
        · exact HNO.out i b' e hb'
        · obtain rfl : i = k := by omega
          rw [HB.out] at hb'
          obtain rfl := Option.some.inj hb'
          exact h0)
      go_wp2_with fail
      refine (open_at p V m k b t _ (HM.out.chg0 HCH.out) HOK.out hb ht0 ht1).mono ?_
      rintro e w2 ⟨rfl, hq⟩
      have hch2 := HCH.out.trans hq (fun _ _ h => h)
      have HCH2 := hide hch2
      obtain ⟨gb, cap, hv, hown, hgbl, hbcl, _⟩ := HM.out.bidCell hb
      have hba : ba = some ⟨gb, 0, none⟩ ∧ bc = cap := by
        have h1 : w.cell? ⟨p, 7, none⟩ = some V.bv := HM.out.cell 7
        rw [HC7.out, hv] at h1
        simp at h1
        exact ⟨h1.1, h1.2.2⟩
      obtain ⟨rfl, rfl⟩ := hba
      have c7' : w2.cell? ⟨p, 7, none⟩ = some (.slice (some ⟨gb, 0, none⟩) n bc) := by rw [hch2.cell (by exact hpl) (fun h => h)]; exact HC7.out
      have c12 : w2.cell? ⟨p, 12, none⟩ = some (.int .i64 m.ghost) := by rw [hch2.cell (by exact hpl) (fun h => h)]; exact HC12.out
      have be : w2.cell? ⟨gb, k * 12 + 10, none⟩ = some (.int .i64 b.entry) := by rw [hch2.cell (by exact hgbl) (fun h => h)]; exact hbcl 10 _ rfl
      have k0 : (0 : Int) ≤ (k : Int) := by omega
      have k1 : (k : Int) < (n : Int) := by omega
      clear hq hch2 c7 hb hv hown hbcl hgbl
      cases ho : b.openB m t
      · have E := hide (HNX.out (by simp [ho]))
        clear HNX ho
        go_wp2
        go_quiet (fail)
        go_wp2
        go_roundw
        case rel => exact ⟨k + 1, by omega, by go_num, E.out, HCH2.out.drewN _⟩
        case measure => simp [intOf]; omega
      cases hg : b.entry == m.ghost
      · have E := hide (HNX.out (by simp [hg]))
        have hgn : ¬ b.entry = m.ghost := by simpa using hg
        have d5 : decide (b.entry = m.ghost) = false := by simp [hgn]
        clear HNX ho
        go_wp2
        go_quiet (fail)
        go_wp2
        go_roundw
        case rel => exact ⟨k + 1, by omega, by go_num, E.out, HCH2.out.drewN _⟩
        case measure => simp [intOf]; omega
      · have E := hide (show ghostZ m t = k by rw [ghostZ, ghostZ_some HB.out (by simp [ho, hg]) HNO.out])
        have hgn : b.entry = m.ghost := by simpa using hg
        have d5 : decide (b.entry = m.ghost) = true := by simp [hgn]
        clear HNX ho
        go_wp2
        go_quiet (fail)
        go_wp2
        go_ret
        exact ⟨ret_int E.out.symm, HCH2.out.drewN _⟩
    · have E := hide (show ghostZ m t = -1 by rw [ghostZ, ghostZ_none (fun i b hb => HNO.out i b (by have := (List.getElem?_eq_some_iff.1 hb).1; rw [← HN.out] at this; omega) hb)])
      go_wp2
      go_ret
      exact ⟨ret_int E.out.symm, HCH.out⟩
end Go.Proofs.YtminceigjejipabGreat
