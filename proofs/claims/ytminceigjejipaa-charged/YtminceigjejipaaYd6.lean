import Derived.Test.YtminceigjejipaaG15
namespace Go.Proofs.Ytminceigjejipaa
open Go.RowKit

theorem MkOk.unitsTo {m : MkG} (h : MkOk m) (a k : Nat) {u : Int} (h0 : 0 ≤ u) (h1 : u ≤ 100000) : MkOk { m with units := unitsTo m.units a k u } := by
  refine ⟨h.ck, by have := h.nu; simpa [Go.Proofs.Ytminceigjejipaa.unitsTo] using this, h.ns, h.np, h.nl, h.nb, h.t0, h.t1, fun x hx => ?_, h.bid⟩
  simp only [Go.Proofs.Ytminceigjejipaa.unitsTo, List.mem_map, List.mem_range] at hx
  obtain ⟨i, hi, rfl⟩ := hx
  split
  · exact ⟨h0, h1⟩
  · exact h.un _ (by simp [List.getD, List.getElem?_eq_getElem hi])

set_option maxRecDepth 100000 in
set_option maxHeartbeats 8000000 in
theorem ycapacity_any (V : YV) (m : MkG) (f t u : Int) (w : World) (hm : YmAt w V m) (hok : MkOk m) :
    Calls Try.prog 84 #[.pointer (some ⟨V.q, 0, none⟩), .int .i64 f, .int .i64 t, .int .i64 u] w fun e w' => ∃ z m', e = .returned (.int .i64 z) ∧ CapRes m f t u z m' ∧ YmTo w V m' w' := by
  have HM := hide hm
  have HOK := hide hok
  have c0 : w.cell? ⟨V.q, 0, none⟩ = some (.int .i64 m.c.ticks) := hm.cell 0
  have c5 : w.cell? ⟨V.q, 5, none⟩ = some (.int .i64 m.time) := hm.cell 5
  clear hm hok
  cases hA : capArg m f t u
  rotate_left
  · have HA := hide hA
    have hcs := capArg_true hA
    clear hA
    generalize m.time = tm at *
    generalize m.c.ticks = tk at *
    rcases hcs with g1 | ⟨g1, g2⟩ | ⟨g1, g2, g3⟩ | ⟨g1, g2, g3, g4⟩ | ⟨g1, g2, g3, g4, g5⟩
    all_goals
      first
      | have hb : inB u 0 100000 = false := by simp [inB]; omega
      | skip
      go_enter Try.func84, Try.ntmps84
      go_wp2_with (go_at_call 72; refine (within_any _ _ _ _).mono ?_; rintro e w' ⟨rfl, hw⟩; subst w'; rw [hb])
      go_ret
      exact ⟨9, _, rfl, .inl ⟨HA.out, rfl, rfl⟩, (YmTo.refl HM.out).logs _⟩
  · have HA := hide hA
    obtain ⟨g1, g2, g3, g4, g5⟩ := capArg_false hA
    have ht0 := HOK.out.t0
    have hcf := cfgOk_true HOK.out.ck
    have hnu := HOK.out.nu
    obtain ⟨a, rfl⟩ := Int.eq_ofNat_of_zero_le (show 0 ≤ f by omega)
    obtain ⟨b, rfl⟩ := Int.eq_ofNat_of_zero_le (show 0 ≤ t by omega)
    have hab : a < b := by omega
    have hbn : b ≤ m.units.length := by omega
    have hun : m.units.length ≤ 64 := by omega
    have e1 : decide ((a : Int) < m.time) = false := by simp; omega
    have e2 : decide ((b : Int) ≤ (a : Int)) = false := by simp; omega
    have e2' : decide (b ≤ a) = false := by simp; omega
    have e3 : decide (m.c.ticks < (b : Int)) = false := by simp; omega
    have hb : inB u 0 100000 = true := by simp [inB]; omega
    clear hA hcf hnu ht0
    go_enter Try.func84, Try.ntmps84
    go_wp2_with (go_at_call 72; refine (within_any _ _ _ _).mono ?_; rintro e w' ⟨rfl, hw⟩; subst w'; rw [hb])
    go_loop [9] (fun i => ∃ k : Nat, a ≤ k ∧ k ≤ b ∧ i = .int .i64 k ∧ ∀ s : Int, (a : Int) ≤ s → s < (k : Int) → usedL m.bids s ≤ u) (fun i => b - (intOf i).toNat)
    case atStart => exact ⟨a, by omega, by omega, rfl, fun s h1 h2 => by omega⟩
    case round =>
      obtain ⟨k, hk1, hk2, rfl, hle⟩ := hrel
      have HLE := hide hle
      clear hle c0 c5 e1 e2 e2' e3 hb
      by_cases hlt : k < b
      · have hus := usedL_le m.c k m.bids HOK.out.bid
        have HUA := hide (usedAt_any V m k w HM.out HOK.out (by omega))
        obtain ⟨us, hus2⟩ : ∃ us, us = usedL m.bids k := ⟨_, rfl⟩
        rw [← hus2] at hus HUA
        have HUS := hide hus2
        clear hus2
        by_cases hgt : u < us
        · go_wp2_with (go_at_call 91; refine HUA.out.mono ?_; rintro e w' ⟨rfl, hw⟩; subst w')
          go_ret
          refine ⟨10, _, rfl, .inr (.inl ⟨HA.out, fun h => ?_, rfl, rfl⟩), (YmTo.refl HM.out).logs _⟩
          have := h k (by omega) (by omega)
          rw [← HUS.out] at this
          omega
        · go_wp2_with (go_at_call 91; refine HUA.out.mono ?_; rintro e w' ⟨rfl, hw⟩; subst w')
          go_round
          case rel =>
            refine ⟨k + 1, by omega, by omega, by go_num, fun s h1 h2 => ?_⟩
            by_cases e : s < (k : Int)
            · exact HLE.out s h1 e
            · obtain rfl : s = k := by omega
              rw [← HUS.out]
              omega
          case measure => simp [intOf]; omega
      · have HCO : Hid (capOk m a b u) := fun s h1 h2 => HLE.out s h1 (by omega)
        clear HLE
        go_wp2
        go_loopw [10] (fun i wr => ∃ (k : Nat) (V2 : YV), a ≤ k ∧ k ≤ b ∧ i = .int .i64 k ∧ V2.q = V.q ∧ YmAt wr V2 { m with units := unitsTo m.units a k u } ∧ Chg V.foot w wr ∧ ∀ x, V2.foot x → V.foot x ∨ w.heap.size ≤ x) (fun i _ => b - (intOf i).toNat)
        case atStart => exact ⟨a, V, by omega, by omega, rfl, rfl, by rw [unitsTo_start]; exact HM.out, Chg.refl _ _, fun x hx => .inl hx⟩
        case round =>
          obtain ⟨k2, V2, hk3, hk4, rfl, hq2, hm2, hch2, hf2⟩ := hrel
          by_cases hlt2 : k2 < b
          · have hok2 := HOK.out.unitsTo a k2 g4 g5
            obtain ⟨ao, cap, hv, hel⟩ := hm2.units_form
            have hlen : (unitsTo m.units a k2 u).length = m.units.length := unitsTo_len _ _ _ _
            have hkl : k2 < (unitsTo m.units a k2 u).length := by rw [hlen]; omega
            obtain ⟨g, hao, hown, hcl, hfr⟩ := hel k2 hkl
            subst hao
            obtain ⟨old, hold⟩ : ∃ old, old = (unitsTo m.units a k2 u).getD k2 0 := ⟨_, rfl⟩
            have hcl' : wr.cell? ⟨g, k2, none⟩ = some (.int .i64 old) := by rw [hold]; exact hcl
            have hou := hok2.un old (by rw [hold]; simp [List.getD, List.getElem?_eq_getElem hkl])
            have c8 : wr.cell? ⟨V.q, 8, none⟩ = some (.slice (some ⟨g, 0, none⟩) m.units.length cap) := by
              rw [← hlen, ← show V2.uv = .slice (some ⟨g, 0, none⟩) (unitsTo m.units a k2 u).length cap from hv, ← hq2]; exact hm2.cell 8
            have c9 : wr.cell? ⟨V.q, 9, none⟩ = some (.pointer (some ⟨V2.r, 0, none⟩)) := by rw [← hq2]; exact hm2.cell 9
            have hil : (k2 : Int) < (m.units.length : Int) := by omega
            have i0 : (0 : Int) ≤ (k2 : Int) := by omega
            obtain ⟨o1, o2⟩ := hou
            have hrange := freeZ_range hok2
            have hwd : IntKind.i64.wrap (u - old) = u - old := by rw [IntKind.wrap_i64]; omega
            have hw1 : IntKind.i64.wrap ((k2 : Int) + 1) = ((k2 + 1 : Nat) : Int) := by rw [IntKind.wrap_i64]; omega
            have hgood : addOk (freeZ { m with units := unitsTo m.units a k2 u }) k2 (k2 + 1) (u - old) := by
              intro j h1 h2
              obtain rfl : j = k2 := by omega
              have hus := usedL_le m.c j m.bids HOK.out.bid
              have hbl := HOK.out.bl
              have e0 : freeZ { m with units := unitsTo m.units a j u } j = old - usedL m.bids j := by rw [hold]; rfl
              rw [e0]
              simp [standB, inB]
              omega
            have HADD := hide (fun (w0 : World) (h : w0.heap = wr.heap) => (show ((k2 + 1 : Nat) : Int) = (k2 : Int) + 1 from rfl) ▸ calAdd_ok V2.r V2.g (unitsTo m.units a k2 u).length V2.cc k2 (k2 + 1) (u - old) (freeZ { m with units := unitsTo m.units a k2 u }) w0 (hm2.cal.frame (by rw [h]) (by rw [h])) (by rw [hlen]; omega) (by omega) (by omega) (by omega) (by omega) hrange hgood)
            have HGQ := hide (show g ≠ V2.g ∧ V.q ≠ V2.g ∧ g < wr.heap.size ∧ V.q < wr.heap.size from by
              obtain ⟨curg, hg1, _⟩ := hm2.cal.hg
              refine ⟨fun e => hm2.ne (e ▸ hown), ?_, (hm2.units.lt g hown).2, ?_⟩
              · rw [← hq2]; exact cells_ne hm2.box hg1 (by decide)
              · rw [← hq2]; exact hm2.lt)
            have HSET := hide (fun (w' : World) hrow hc => hm2.setUnit (w' := w') (i := k2) (u := u) hkl hown hrow hc)
            have HOLD := hide hold
            have HCH := hide hch2
            have HF2 := hide hf2
            have HQ2 := hide hq2
            have HLEN := hide hlen
            clear hv hel hown hm2 hch2 hf2 hlen hkl hok2 hcl hrange hgood hold hq2
            generalize m.units.length = n at *
            go_wp2
            go_region_held3 (fun w' => w'.cell? ⟨V.q, 8, none⟩ = some (.slice (some ⟨g, 0, none⟩) n cap) ∧ w'.cell? ⟨V.q, 9, none⟩ = some (.pointer (some ⟨V2.r, 0, none⟩)) ∧ w'.cell? ⟨g, k2, none⟩ = some (.int .i64 old)) (go_keep)
              (first | (go_at_call 39; refine (HADD.out wr.drew rfl).mono ?_; rintro e w2 ⟨rfl, hrow, hq⟩; have x1 := hq.cell (p := ⟨V.q, 8, none⟩) HGQ.out.2.2.2 HGQ.out.2.1; have x2 := hq.cell (p := ⟨g, k2, none⟩) HGQ.out.2.2.1 HGQ.out.1; have x3 := hq.cell (p := ⟨V.q, 9, none⟩) HGQ.out.2.2.2 HGQ.out.2.1; have x4 := hq.frozen (p := ⟨g, k2, none⟩) HGQ.out.2.2.1 HGQ.out.1; have HROW := hide hrow; have HQC := hide hq; clear hq hrow))
            all_goals
              have y1 : w2.cell? ⟨V.q, 8, none⟩ = some (.slice (some ⟨g, 0, none⟩) n cap) := by rw [x1]; exact c8
              have y4 : w2.frozen? ⟨g, k2, none⟩ = false := by rw [x4]; exact hfr
              have y2 : w2.cell? ⟨g, k2, none⟩ = some (.int .i64 old) := by rw [x2]; exact hcl'
              clear x1 x2 x3 x4 c8 c9 hcl' hfr HADD
              have H3 := hide (show ∃ V3, V3.q = V.q ∧ YmAt (w2.setCell ⟨g, k2, none⟩ (.int .i64 u)) V3 { m with units := unitsTo m.units a ((k2 + 1 : Nat) : Int) u } ∧ Chg V.foot w (w2.setCell ⟨g, k2, none⟩ (.int .i64 u)) ∧ ∀ x, V3.foot x → V.foot x ∨ w.heap.size ≤ x from by
                have hq0 : Chg (fun k => k = V2.g) wr w2 := ⟨HQC.out.os, HQC.out.tape, HQC.out.output, HQC.out.size, HQC.out.block⟩
                obtain ⟨V3, b0, b1, b2, b3⟩ := HSET.out w2 (by have := HROW.out; rw [HOLD.out] at this; exact this) hq0
                refine ⟨V3, b0.trans HQ2.out, ?_, HCH.out.trans b2 (fun x hx hxf => ?_), fun x hx => ?_⟩
                · have := b1
                  simp only [unitsTo_step m.units a k2 u hk3] at this
                  exact this
                · rcases HF2.out x hxf with h | h
                  · exact h
                  · omega
                · rcases b3 x hx with h | h
                  · exact HF2.out x h
                  · exact .inr (Nat.le_trans HCH.out.size h))
              go_wp2
              go_roundw
              case rel =>
                obtain ⟨V3, a0, a1, a2, a3⟩ := H3.out
                exact ⟨k2 + 1, V3, by omega, by omega, by go_num, a0, a1, a2, a3⟩
              case measure => simp [intOf]; omega
          · have HFIN := hide (show YmTo w V { m.logs (callCapacity a b u) with units := unitsTo m.units a b u } wr from (show YmTo w V { m with units := unitsTo m.units a b u } wr from ⟨V2, hq2, by rw [show unitsTo m.units a b u = unitsTo m.units a k2 u by rw [show (b : Int) = (k2 : Int) by omega]]; exact hm2, hch2, hf2⟩).logs (callCapacity a b u))
            clear hm2 hch2 hf2 hq2
            go_wp2
            go_ret
            have hcr : CapRes m a b u 0 { m.logs (callCapacity a b u) with units := unitsTo m.units a b u } := .inr (.inr ⟨HA.out, HCO.out, rfl, rfl⟩)
            exact ⟨0, rfl, _, hcr, HFIN.out⟩
end Go.Proofs.Ytminceigjejipaa
