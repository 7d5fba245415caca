import Derived.Test.YtminceigjejipaaCell3
import Derived.Test.YtminceigjejipaaOpen
import Derived.JoinedCond
namespace Go.Proofs.Ytminceigjejipaa
open Go.ChangeShapes Go.WideShapes Go.ChangeAt Go.RowKit Go.Deep

theorem cellsCell : Try.prog.cellsOf 31 = 4 := by kernel_rfl
theorem bytesCell : Try.prog.bytesOf 31 = 32 := by kernel_rfl
theorem cell_ints {H : Type} {enc : TypeId × Value → H} {w : World} {base : Nat} {spare : Nat → Bool} {held : Bool} (n : Nat) (cs : List Value) (y : DataW H × List MemPlace) (h : DataW.trod enc Try.prog w base spare held n 31 cs = some y) :
    ∀ f, f < 4 → ∃ z, cs[f]? = some (.int .i64 z) ∧ IsI64 z := by
  intro f hf
  match f, hf with
  | 0, _ => exact struct_ints Try.underlying31 h 0 _ rfl rfl cellsInt Try.underlying3
  | 1, _ => exact struct_ints Try.underlying31 h 1 _ rfl rfl cellsInt Try.underlying3
  | 2, _ => exact struct_ints Try.underlying31 h 2 _ rfl rfl cellsInt Try.underlying3
  | 3, _ => exact struct_ints Try.underlying31 h 3 _ rfl rfl cellsInt Try.underlying3

set_option maxRecDepth 100000 in
set_option maxHeartbeats 2000000 in
theorem cells_walk_bad (n v : Int) (sa : Option Addr) (sl sc : Nat) (w : World) (h : newB n v = true) :
    Calls Try.prog 3 #[.int .i64 n, .int .i64 v, .slice sa sl sc] w fun e w' => e = .returned (.bool true) ∧ Below w.heap.size w w' := by
  have H := hide h
  have hcases : n < 1 ∨ (1 ≤ n ∧ 4096 < n) ∨ (1 ≤ n ∧ n ≤ 4096 ∧ (v < -1099511627776 ∨ (-1099511627776 ≤ v ∧ 1099511627776 < v))) := by
    rcases newB_true h with h | h | ⟨h1, h2, h3⟩
    · exact .inl h
    · exact .inr (.inl h)
    · exact .inr (.inr ⟨h1, h2, standB_false h3⟩)
  clear h
  rcases hcases with h | ⟨h, h'⟩ | ⟨h, h', (h'' | ⟨h'', h3⟩)⟩
  all_goals
    try have ez : decide (v ≤ 1099511627776) = false := by simp; omega
    go_enter Try.func3, Try.ntmps3
    go_wp2_with fail
    refine (calNew_bad n v _ H.out).mono ?_
    rintro e w1 ⟨rfl, hw⟩
    subst w1
    go_wp2
    go_ret
    exact ⟨rfl, Below.refl _ _⟩

/-- what holds between the steps of Cells -/
structure CellsInv (w0 w : World) (p g n b : Nat) (Z : Nat → Int) : Prop where
  row : RowAt 98 w p g n n Z
  was : CellsAt w b n Z
  ne : b ≠ g
  range : InRange n Z
  below : Below w0.heap.size w0 w
  hg : w0.heap.size ≤ g

theorem CellsInv.step {w0 w w' w4 : World} {p g n b b' : Nat} {Z Z' : Nat → Int} (h : CellsInv w0 w p g n b Z) (hrow : RowAt 98 w' p g n n Z') (hr : InRange n Z') (hc : Chg (fun k => k = g) w w')
    (hb : w'.heap.size ≤ b') (hcells : CellsAt w4 b' n Z') (hc4 : Chg (fun _ => False) w' w4) : CellsInv w0 w4 p g n b' Z' := by
  have hgl := hrow.ltg
  have hs := h.below.size
  have hs2 := hc.size
  refine ⟨hrow.chg hc4 (fun h => h) (fun h => h), hcells, by omega, hr, (h.below.trans (hc.below hs (fun k hk => by have := h.hg; omega))).trans (hc4.below (by omega) (fun k hk => hk.elim)), h.hg⟩

theorem CellsInv.chg {w0 w w' : World} {p g n b : Nat} {Z : Nat → Int} (h : CellsInv w0 w p g n b Z) (hc : Chg (fun _ => False) w w') : CellsInv w0 w' p g n b Z :=
  ⟨h.row.chg hc (fun h => h) (fun h => h), h.was.chg hc (fun h => h), h.ne, h.range, h.below.trans (hc.below h.below.size (fun _ hk => hk.elim)), h.hg⟩

set_option maxRecDepth 100000 in
set_option maxHeartbeats 8000000 in
theorem cells_walk_ok (n : Nat) (v : Int) (sa : Option Addr) (sl sc : Nat) (w : World) (h1 : 1 ≤ n) (h2 : n ≤ 4096) (h3 : standB v = true) (hs : IntRows w 4 sa sl) (hsl : sl < 5000000000000) :
    Calls Try.prog 3 #[.int .i64 n, .int .i64 v, .slice sa sl sc] w fun e w' => e = .returned (.bool true) ∧ Below w.heap.size w w' := by
  have HS := hide hs
  have HV := hide h3
  obtain ⟨v1, v2⟩ := standB_true h3
  have e1 : decide (-1099511627776 ≤ v) = true := by simpa using v1
  have e2 : decide (v ≤ 1099511627776) = true := by simpa using v2
  have e3 : decide ((n : Int) ≤ 4096) = true := by simp; omega
  have e4 : decide (1 ≤ (n : Int)) = true := by simp; omega
  clear hs h3
  go_enter Try.func3, Try.ntmps3
  go_wp2_with fail
  refine (calNew_ok n v _ h1 h2 HV.out).mono ?_
  rintro e w1 ⟨p, rfl, hp1, hr1, hc1⟩
  have HR1 := hide hr1
  have HC1 := hide hc1
  clear hr1 hc1
  go_wp2_with fail
  refine (cells_any p w.heap.size n n (fun _ => v) _ HR1.out h1 h2).mono ?_
  rintro e w2 ⟨b, cb, rfl, hb, hcells, hc2⟩
  have HI : Hid (CellsInv w w2 p w.heap.size n b (fun _ => v)) := by
    have := HR1.out.ltg
    exact ⟨HR1.out.chg hc2 (fun h => h) (fun h => h), hcells, by omega, fun j _ => standB_true HV.out, (HC1.out.below (Nat.le_refl _) (fun _ h => h.elim)).trans (hc2.below HC1.out.size (fun _ h => h.elim)), Nat.le_refl _⟩
  have HW := hide (fun j (hj : j < n) => hcells.cell j hj)
  clear hb hcells hc2 HR1 HC1 e1 e2 e3 e4
  go_wp2
  go_loop [12] (fun i => ∃ k : Nat, k ≤ n ∧ i = .int .i64 k) (fun i => n - (intOf i).toNat)
  case atStart => exact ⟨0, by omega, rfl⟩
  case round =>
    obtain ⟨k, hk, rfl⟩ := hrel
    by_cases hlt : k < n
    · have hck := HW.out k hlt
      go_wp2
      go_round
      case rel => exact ⟨k + 1, by omega, by go_num⟩
      case measure => simp [intOf]; omega
    · clear HW
      go_wp2
      go_loopw [10, 13] (fun x i wr => ∃ (k b c : Nat) (Z : Nat → Int), k ≤ sl ∧ i = .int .i64 k ∧ x = .slice (some ⟨b, 0, none⟩) n c ∧ CellsInv w wr p w.heap.size n b Z) (fun _ i _ => sl - (intOf i).toNat)
      case atStart => exact ⟨0, b, cb, fun _ => v, by omega, rfl, rfl, HI.out⟩
      case round =>
        clear HI
        obtain ⟨k2, b2, c2, Z, hk2, rfl, rfl, hinv⟩ := hrel
        have HIN := hide hinv
        have hszr := hinv.below.size
        clear hinv
        by_cases hlt2 : k2 < sl
        · rcases HS.out with h0 | ⟨sb, soff, S, _, hsa, hbl, hcells, hwf⟩
          · omega
          subst hsa
          have c0 : wr.cell? ⟨sb, soff + k2 * 4, none⟩ = some (.int .i64 (S (k2 * 4))) := by rw [HIN.out.below.cell (by exact hbl)]; simpa [Nat.add_assoc] using hcells (k2 * 4) (by omega)
          have c1 : wr.cell? ⟨sb, soff + k2 * 4 + 1, none⟩ = some (.int .i64 (S (k2 * 4 + 1))) := by rw [HIN.out.below.cell (by exact hbl)]; simpa [Nat.add_assoc] using hcells (k2 * 4 + 1) (by omega)
          have c2' : wr.cell? ⟨sb, soff + k2 * 4 + 2, none⟩ = some (.int .i64 (S (k2 * 4 + 2))) := by rw [HIN.out.below.cell (by exact hbl)]; simpa [Nat.add_assoc] using hcells (k2 * 4 + 2) (by omega)
          have c3 : wr.cell? ⟨sb, soff + k2 * 4 + 3, none⟩ = some (.int .i64 (S (k2 * 4 + 3))) := by rw [HIN.out.below.cell (by exact hbl)]; simpa [Nat.add_assoc] using hcells (k2 * 4 + 3) (by omega)
          have hA := (hwf (k2 * 4 + 1) (by omega)).2
          clear hcells hwf HS
          generalize S (k2 * 4) = kd at *
          generalize S (k2 * 4 + 1) = A at *
          generalize S (k2 * 4 + 2) = B at *
          generalize S (k2 * 4 + 3) = C at *
          have HI1 : Hid (∀ o, CellsInv w (wr.alloc o) p w.heap.size n b2 Z) := fun o => HIN.out.chg ((Chg.refl _ _).alloc _)
          cases hk0 : kd == 0
          · cases hk1 : kd == 1
            · go_wp2_with fail
              refine (fitted_any p w.heap.size n n b2 c2 Z kd A B C _ (HI1.out _).row (HI1.out _).was h2 hA).mono ?_
              rintro e w3 ⟨rfl, hchg3⟩
              have HI3 := hide ((HI1.out _).chg hchg3)
              clear hchg3 c0 c1 c2' c3
              go_wp2_with fail
              refine (cells_any p w.heap.size n n Z _ HI3.out.row h1 h2).mono ?_
              rintro e w4 ⟨b4, c4, rfl, hb4, hcells4, hc4⟩
              have HI4 := hide (HI3.out.step HI3.out.row HI3.out.range (Chg.refl _ _) hb4 hcells4 hc4)
              clear hb4 hcells4 hc4
              go_wp2
              go_roundw
              case rel => exact ⟨k2 + 1, b4, c4, Z, by omega, by go_num, rfl, HI4.out⟩
              case measure => simp [intOf]; omega
            · obtain ⟨w1', hw1'⟩ : ∃ w1', w1' = wr.alloc (.cells #[.int .i64 kd, .int .i64 A, .int .i64 B, .int .i64 C] 31) := ⟨_, rfl⟩
              obtain ⟨hcb, _, q1, q2, q3⟩ := boxC wr kd A B C w1' hw1'
              have HI3 : Hid (CellsInv w w1' p w.heap.size n b2 Z) := HIN.out.chg hcb
              have HW1 := hide hw1'
              clear hcb hw1'
              go_wp2_with fail
              rw [← HW1.out]
              clear HW1
              refine (calMin_any p w.heap.size n n A B Z _ HI3.out.row h2).mono ?_
              rintro e w3 ⟨m, z, rfl, hres, hw⟩
              subst w3
              clear c0 c1 c2' c3
              rcases hres with ⟨hpc, rfl, rfl⟩ | ⟨hpc, hm, rfl⟩
              · rcases pieceB_false hpc with g1 | ⟨g1, g2⟩ | ⟨g1, g2, g3⟩
                all_goals
                  clear hpc
                  go_wp2_with fail
                  refine (cells_any p w.heap.size n n Z _ HI3.out.row h1 h2).mono ?_
                  rintro e w4 ⟨b4, c4, rfl, hb4, hcells4, hc4⟩
                  have HI4 := hide (HI3.out.step HI3.out.row HI3.out.range (Chg.refl _ _) hb4 hcells4 hc4)
                  clear hb4 hcells4 hc4
                  go_wp2
                  go_roundw
                  case rel => exact ⟨k2 + 1, b4, c4, Z, by omega, by go_num, rfl, HI4.out⟩
                  case measure => simp [intOf]; omega
              · obtain ⟨p1, p2, p3⟩ := pieceB_true hpc
                obtain ⟨a, rfl⟩ := Int.eq_ofNat_of_zero_le p1
                obtain ⟨t, rfl⟩ := Int.eq_ofNat_of_zero_le (show 0 ≤ B by omega)
                rw [Int.toNat_natCast, Int.toNat_natCast] at hm
                have HM := hide hm
                have hat : a < t := by omega
                have htn : t ≤ n := by omega
                clear hpc p1 p2 p3 hm
                go_wp2_with fail
                refine (least_any b2 n c2 a t Z _ (by omega) hat htn HI3.out.was.cell).mono ?_
                rintro e w3 ⟨rfl, hw⟩
                subst w3
                have he : (m == minZ Z a (t - 1 - a)) = true := by rw [HM.out]; simp
                clear HM
                go_wp2_with fail
                refine (cells_any p w.heap.size n n Z _ HI3.out.row h1 h2).mono ?_
                rintro e w4 ⟨b4, c4, rfl, hb4, hcells4, hc4⟩
                have HI4 := hide (HI3.out.step HI3.out.row HI3.out.range (Chg.refl _ _) hb4 hcells4 hc4)
                clear hb4 hcells4 hc4
                go_wp2
                go_roundw
                case rel => exact ⟨k2 + 1, b4, c4, Z, by omega, by go_num, rfl, HI4.out⟩
                case measure => simp [intOf]; omega
          · go_wp2_with fail
            refine (added_any p w.heap.size n n b2 c2 Z kd A B C _ (HI1.out _).row (HI1.out _).was HIN.out.ne h1 h2 HIN.out.range).mono ?_
            rintro e w3 ⟨Z', rfl, hrow3, hB3, hchg3⟩
            have HR3 := hide hrow3
            have HB3 := hide hB3
            have HC3 := hide hchg3
            clear hrow3 hB3 hchg3 c0 c1 c2' c3
            go_wp2_with fail
            refine (cells_any p w.heap.size n n Z' _ HR3.out h1 h2).mono ?_
            rintro e w4 ⟨b4, c4, rfl, hb4, hcells4, hc4⟩
            have HI4 := hide ((HI1.out _).step HR3.out HB3.out HC3.out hb4 hcells4 hc4)
            clear hb4 hcells4 hc4
            go_wp2
            go_roundw
            case rel => exact ⟨k2 + 1, b4, c4, Z', by omega, by go_num, rfl, HI4.out⟩
            case measure => simp [intOf]; omega
        · go_wp2
          go_ret
          exact ⟨rfl, HIN.out.below⟩
end Go.Proofs.Ytminceigjejipaa
