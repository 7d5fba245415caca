import Derived.Test.YtminceigjejipabGreatG3
namespace Go.Proofs.YtminceigjejipabGreat
open Go.RowKit

/-- the units of a tick, written -/
theorem MktAt.setUnit {w : World} {p : Nat} {V : MV} {m : MkG} {i g : Nat} {u : Int} (h : MktAt w p V m) (hi : i < m.units.length) (hg : V.uv.ownBlock = some g) :
    MktTo w p V { m with units := m.units.set i u } (w.setCell ⟨g, i, none⟩ (.int .i64 u)) := by
  have hgp : g ≠ p := fun e => ownsRow_box h.units h.box (by decide) (e ▸ hg)
  have far : ∀ k, k ≠ g → (w.setCell ⟨g, i, none⟩ (.int .i64 u)).heap[k]? = w.heap[k]? := fun k hk => Below.heap_setCell _ _ _ _ hk
  have old : ∀ {e : TypeId} {size n : Nat} {v : Value} {xs : List Value}, w.ownsRow 0 e size v n xs → e ≠ 3 → (w.setCell ⟨g, i, none⟩ (.int .i64 u)).ownsRow 0 e size v n xs := by
    intro e size n v xs ho he
    exact ownsRow_keep ho (fun k hk => far k (fun e => ownsRow_apart ho h.units he hk (e ▸ hg)))
  refine ⟨V, ⟨(far p (Ne.symm hgp)).trans h.box, ?_, old h.bids (by decide), old h.susp (by decide), old h.log (by decide), ownsRow_keep h.paid (fun k hk => far k (fun e => h.ne k (e ▸ hg) hk)), old h.charges (by decide), h.ne⟩, ?_, fun k hk => .inl hk⟩
  · show (w.setCell _ _).ownsRow 0 _ 1 _ (m.units.set i u).length ((m.units.set i u).map (Value.int .i64))
    rw [List.length_set, List.map_set]
    rcases h.units.2 with ⟨hv, h0⟩ | ⟨g', cap, cur, hv, hb0, hh, hc, hmx, hsz, htake⟩
    · omega
    · have hgg : g' = g := by rw [hv] at hg; simpa [Value.ownBlock] using hg
      subst hgg
      refine ⟨by simp, .inr ⟨g', cap, cur.setIfInBounds i (.int .i64 u), hv, hb0, box_set hh _, hc, hmx, by simpa using hsz, ?_⟩⟩
      rw [Array.toList_setIfInBounds, List.take_set, htake]
  · exact (Chg.refl _ _).setCell (.inl (.inr (.inl hg))) _

def unitsTo (l : List Int) (f k u : Int) : List Int := (List.range l.length).map fun i : Nat => if f ≤ (i : Int) ∧ (i : Int) < k then u else l.getD i 0
theorem unitsTo_len (l : List Int) (f k u : Int) : (unitsTo l f k u).length = l.length := by simp [unitsTo]
theorem unitsTo_start (l : List Int) (f u : Int) : unitsTo l f f u = l := by
  apply List.ext_getElem?
  intro i
  unfold unitsTo
  by_cases hi : i < l.length
  · rw [List.getElem?_map, List.getElem?_range hi]
    have : ¬ (f ≤ (i : Int) ∧ (i : Int) < f) := by omega
    simp only [Option.map_some, if_neg this]
    simp [List.getD, List.getElem?_eq_getElem hi]
  · rw [List.getElem?_eq_none (by simp; omega), List.getElem?_eq_none (by omega)]
theorem unitsTo_step (l : List Int) (a k : Nat) (u : Int) (ha : a ≤ k) : (unitsTo l a k u).set k u = unitsTo l a ((k + 1 : Nat) : Int) u := by
  apply List.ext_getElem?
  intro i
  rw [List.getElem?_set]
  unfold unitsTo
  by_cases hi : i < l.length
  · rw [List.getElem?_map, List.getElem?_range hi, List.getElem?_map, List.getElem?_range hi]
    simp only [Option.map_some, List.length_map, List.length_range]
    by_cases e : k = i
    · subst e
      rw [if_pos rfl, if_pos hi, if_pos ⟨by omega, by omega⟩]
    · rw [if_neg e]
      by_cases h1 : (a : Int) ≤ (i : Int) ∧ (i : Int) < (k : Int)
      · rw [if_pos h1, if_pos ⟨h1.1, by omega⟩]
      · rw [if_neg h1, if_neg (by omega)]
  · rw [List.getElem?_eq_none (by simp; omega), List.getElem?_eq_none (by simp; omega)]
    by_cases e : k = i
    · subst e
      rw [if_pos rfl, if_neg (by simp; omega)]
    · rw [if_neg e]

theorem capArg_true {m : MkG} {f t u : Int} (h : capArg m f t u = true) : f < m.time ∨ (m.time ≤ f ∧ t ≤ f) ∨ (m.time ≤ f ∧ f < t ∧ m.c.ticks < t) ∨ (m.time ≤ f ∧ f < t ∧ t ≤ m.c.ticks ∧ u < 0) ∨ (m.time ≤ f ∧ f < t ∧ t ≤ m.c.ticks ∧ 0 ≤ u ∧ 100000 < u) := by
  simp [capArg] at h
  omega
theorem capArg_false {m : MkG} {f t u : Int} (h : capArg m f t u = false) : m.time ≤ f ∧ f < t ∧ t ≤ m.c.ticks ∧ 0 ≤ u ∧ u ≤ 100000 := by
  simp [capArg] at h
  omega

set_option maxHeartbeats 1000000 in
theorem capacity_full (p : Nat) (V : MV) (m : MkG) (f t u : Int) (w : World) (hm : MktAt w p V m) (hl : m.log.length = 300) :
    Calls Tryz.prog 38 #[.pointer (some ⟨p, 0, none⟩), .int .i64 f, .int .i64 t, .int .i64 u] w fun e w' => e = .returned (.int .i64 2) ∧ MktTo w p V m w' := by
  have HM := hide hm
  have HL := hide hl
  clear hm hl
  go_enter Tryz.func38, Tryz.ntmps38
  go_wp2_with fail
  refine (logged_full p V m (callCapacity f t u) _ HM.out HL.out).mono ?_
  rintro e w1 ⟨rfl, h1⟩
  have H1 := hide h1
  clear h1
  go_wp2
  go_ret
  exact ⟨rfl, MktTo.full HM.out H1.out⟩

set_option maxRecDepth 100000 in
set_option maxHeartbeats 4000000 in
theorem capacity_ok (p : Nat) (V : MV) (m : MkG) (f t u : Int) (w : World) (hm : MktAt w p V m) (hok : MkOk m) (hl : m.log.length < 300) :
    Calls Tryz.prog 38 #[.pointer (some ⟨p, 0, none⟩), .int .i64 f, .int .i64 t, .int .i64 u] w fun e w' => ∃ z m', e = .returned (.int .i64 z) ∧ CapRes m f t u z m' ∧ MktTo w p V m' w' := by
  have HM := hide hm
  have HL := hide hl
  have HOK := hide hok
  clear hm hl hok
  go_enter Tryz.func38, Tryz.ntmps38
  go_wp2_with fail
  refine (logged_ok p V m (callCapacity f t u) _ HM.out HL.out).mono ?_
  rintro e w1 ⟨rfl, hto⟩
  obtain ⟨V1, hm1, hc1, hf1⟩ := hto
  have H1 := hide hm1
  have HTO := hide (show MktTo w p V (m.logs (callCapacity f t u)) w1 from ⟨V1, hm1, hc1, hf1⟩)
  have HAF := hide (fun m2 w2 (h : MktTo w1 p V1 m2 w2) => MktTo.after hc1 hf1 h)
  have c0 : w1.cell? ⟨p, 0, none⟩ = some (.int .i64 m.c.ticks) := hm1.cell 0
  have c5 : w1.cell? ⟨p, 5, none⟩ = some (.int .i64 m.time) := hm1.cell 5
  clear hm1 hc1 hf1
  cases hA : capArg m f t u
  rotate_left
  · have HA := hide hA
    have hcs := capArg_true hA
    clear hA
    generalize m.time = tm at *
    generalize m.c.ticks = tk at *
    rcases hcs with g1 | ⟨g1, g2⟩ | ⟨g1, g2, g3⟩ | ⟨g1, g2, g3, g4⟩ | ⟨g1, g2, g3, g4, g5⟩
    all_goals
      go_wp2
      go_ret
      exact ⟨9, _, rfl, .inl ⟨HA.out, rfl, rfl⟩, HTO.out⟩
  · have HA := hide hA
    obtain ⟨g1, g2, g3, g4, g5⟩ := capArg_false hA
    have ht0 := HOK.out.t0
    have hcf := cfgOk_true HOK.out.ck
    have hnu := HOK.out.nu
    obtain ⟨a, rfl⟩ := Int.eq_ofNat_of_zero_le (show 0 ≤ f by omega)
    obtain ⟨b, rfl⟩ := Int.eq_ofNat_of_zero_le (show 0 ≤ t by omega)
    have hab : a < b := by omega
    have hbn : b ≤ m.units.length := by omega
    have hun : m.units.length ≤ 64 := by omega
    have hbl := HOK.out.bl
    have e1 : decide ((a : Int) < m.time) = false := by simp; omega
    have e2 : decide ((b : Int) ≤ (a : Int)) = false := by simp; omega
    have e2' : decide (b ≤ a) = false := by simp; omega
    have e3 : decide (m.c.ticks < (b : Int)) = false := by simp; omega
    have e4 : decide (u < 0) = false := by simp; omega
    have e5 : decide (100000 < u) = false := by simp; omega
    clear hA hcf hnu ht0
    go_wp2
    go_loopw [10] (fun i wr => ∃ k : Nat, a ≤ k ∧ k ≤ b ∧ i = .int .i64 k ∧ Chg (fun _ => False) w1 wr ∧ ∀ s : Int, (a : Int) ≤ s → s < (k : Int) → usedL m.bids s ≤ u) (fun i _ => b - (intOf i).toNat)
    case atStart => exact ⟨a, by omega, by omega, rfl, Chg.refl _ _, fun s h1 h2 => by omega⟩
    case round =>
      obtain ⟨k, hk1, hk2, rfl, hq, hle⟩ := hrel
      have HQ := hide hq
      have HLE := hide hle
      clear hq hle c0 c5 e1 e2 e2' e3 e4 e5
      by_cases hlt : k < b
      · have hus := usedL_le m.c k m.bids HOK.out.bid
        go_wp2_with fail
        refine (used_any p V1 (m.logs (callCapacity a b u)) k wr (H1.out.chg0 HQ.out) HOK.out.bl HOK.out.bid HOK.out.ck).mono ?_
        rintro e w2 ⟨rfl, hq2⟩
        have HQ2 := hide hq2
        have eu : usedL (m.logs (callCapacity a b u)).bids k = usedL m.bids k := rfl
        rw [eu]
        clear hq2 eu
        obtain ⟨us, hus2⟩ : ∃ us, us = usedL m.bids k := ⟨_, rfl⟩
        rw [← hus2] at hus ⊢
        have HUS := hide hus2
        clear hus2
        by_cases hgt : u < us
        · go_wp2
          go_ret
          refine ⟨10, _, rfl, .inr (.inl ⟨HA.out, fun h => ?_, rfl, rfl⟩), HTO.out.chg0 (HQ.out.trans HQ2.out (fun _ _ h => h))⟩
          have := h k (by omega) (by omega)
          rw [← HUS.out] at this
          omega
        · go_wp2
          go_roundw
          case rel =>
            refine ⟨k + 1, by omega, by omega, by go_num, HQ.out.trans HQ2.out (fun _ _ h => h), fun s h1 h2 => ?_⟩
            by_cases e : s < (k : Int)
            · exact HLE.out s h1 e
            · obtain rfl : s = k := by omega
              rw [← HUS.out]
              omega
          case measure => simp [intOf]; omega
      · have HCO : Hid (capOk m a b u) := fun s h1 h2 => HLE.out s h1 (by omega)
        clear HLE
        go_wp2
        go_loopw [12] (fun i wr2 => ∃ (k : Nat) (V2 : MV), a ≤ k ∧ k ≤ b ∧ i = .int .i64 k ∧ MktAt wr2 p V2 { m.logs (callCapacity a b u) with units := unitsTo m.units a k u } ∧ Chg (V1.foot p) w1 wr2 ∧ ∀ x, V2.foot p x → V1.foot p x ∨ w1.heap.size ≤ x) (fun i _ => b - (intOf i).toNat)
        case atStart => exact ⟨a, V1, by omega, by omega, rfl, by rw [unitsTo_start]; exact H1.out.chg0 HQ.out, HQ.out.mono (fun _ _ h => h.elim), fun x hx => .inl hx⟩
        case round =>
          clear HQ
          obtain ⟨k2, V2, hk3, hk4, rfl, hm2, hch2, hf2⟩ := hrel
          by_cases hlt2 : k2 < b
          · obtain ⟨ao, cap, hv, hel⟩ := hm2.units_form
            have hlen : (unitsTo m.units a k2 u).length = m.units.length := unitsTo_len _ _ _ _
            obtain ⟨g, hao, hown, hcl, hfr⟩ := hel k2 (by show k2 < (unitsTo m.units a k2 u).length; rw [hlen]; omega)
            subst hao
            have c6 : wr.cell? ⟨p, 6, none⟩ = some (.slice (some ⟨g, 0, none⟩) m.units.length cap) := by
              rw [← hlen, ← show V2.uv = .slice (some ⟨g, 0, none⟩) (unitsTo m.units a k2 u).length cap from hv]; exact hm2.cell 6
            obtain ⟨V3, b1, b2, b3⟩ := hm2.setUnit (i := k2) (u := u) (by show k2 < (unitsTo m.units a k2 u).length; rw [hlen]; omega) hown
            have H3 := hide (show ∃ V3, MktAt (wr.setCell ⟨g, k2, none⟩ (.int .i64 u)) p V3 { m.logs (callCapacity a b u) with units := unitsTo m.units a ((k2 + 1 : Nat) : Int) u } ∧ Chg (V1.foot p) w1 (wr.setCell ⟨g, k2, none⟩ (.int .i64 u)) ∧ ∀ x, V3.foot p x → V1.foot p x ∨ w1.heap.size ≤ x from by
              refine ⟨V3, ?_, hch2.trans b2 (fun x hx hxf => ?_), fun x hx => ?_⟩
              · have := b1
                simp only [unitsTo_step m.units a k2 u hk3] at this
                exact this
              · rcases hf2 x hxf with h | h
                · exact h
                · omega
              · rcases b3 x hx with h | h
                · exact hf2 x h
                · exact .inr (Nat.le_trans hch2.size h))
            have hil : (k2 : Int) < (m.units.length : Int) := by omega
            generalize (List.getD (MkG.units { m.logs (callCapacity a b u) with units := unitsTo m.units a k2 u }) k2 0) = old at *
            clear hv hel hown hm2 hch2 hf2 b1 b2 b3 hlen
            generalize m.units.length = n at *
            go_wp2
            go_roundw
            case rel =>
              obtain ⟨V3, a1, a2, a3⟩ := H3.out
              exact ⟨k2 + 1, V3, by omega, by omega, by go_num, a1, a2, a3⟩
            case measure => simp [intOf]; omega
          · have HFIN := hide (show MktTo w p V { m.logs (callCapacity a b u) with units := unitsTo m.units a b u } wr from HAF.out _ _ ⟨V2, by rw [show unitsTo m.units a b u = unitsTo m.units a k2 u by rw [show (b : Int) = (k2 : Int) by omega]]; exact hm2, hch2, hf2⟩)
            clear hm2 hch2 hf2
            go_wp2
            go_ret
            have hcr : CapRes m a b u 0 { m.logs (callCapacity a b u) with units := unitsTo m.units a b u } := .inr (.inr ⟨HA.out, HCO.out, rfl, rfl⟩)
            exact ⟨0, rfl, _, hcr, HFIN.out⟩
end Go.Proofs.YtminceigjejipabGreat
