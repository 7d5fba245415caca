import Derived.Test.YtminceigjejipaaRow8
import Derived.Test.YtminceigjejipaaRow7
import Derived.Test.YtminceigjejipaaRow9
namespace Go.Proofs.Ytminceigjejipaa
open Go.RowKit

theorem CellsAt.lt {w : World} {g n : Nat} {Z : Nat → Int} (h : CellsAt w g n Z) : g < w.heap.size := by
  obtain ⟨cur, h1, _⟩ := h
  exact (Array.getElem?_eq_some_iff.1 h1).1
theorem CellsAt.chg {O : Nat → Prop} {w w' : World} {g n : Nat} {Z : Nat → Int} (h : CellsAt w g n Z) (hc : Chg O w w') (hn : ¬ O g) : CellsAt w' g n Z := by
  obtain ⟨cur, h1, h2⟩ := h
  exact ⟨cur, by rw [hc.block _ (Array.getElem?_eq_some_iff.1 h1).1 hn]; exact h1, h2⟩
theorem RowAt.cells {T : TypeId} {w : World} {p g n cap : Nat} {Z : Nat → Int} (h : RowAt T w p g n cap Z) : CellsAt w g n Z := h.hg

set_option maxHeartbeats 1000000 in
theorem least_any (b n cap f t : Nat) (Z : Nat → Int) (w : World) (hn : n ≤ 100000) (hab : f < t) (hbn : t ≤ n) (hZ0 : ∀ j, j < n → w.cell? ⟨b, j, none⟩ = some (.int .i64 (Z j))) :
    Calls Try.prog 13 #[.slice (some ⟨b, 0, none⟩) n cap, .int .i64 f, .int .i64 t] w fun e w' => e = .returned (.int .i64 (minZ Z f (t - 1 - f))) ∧ w' = w := by
  have hZ := hide hZ0
  clear hZ0
  have hca := hZ.out f (by omega)
  go_enter Try.func13, Try.ntmps13
  go_wp2
  go_loop [7, 8] (fun m i => ∃ k : Nat, f ≤ k ∧ k ≤ t ∧ i = .int .i64 k ∧ m = .int .i64 (minZ Z f (k - 1 - f))) (fun _ i => t - (intOf i).toNat)
  case atStart => exact ⟨f, by omega, by omega, rfl, by rw [show f - 1 - f = 0 by omega]; rfl⟩
  case round =>
    obtain ⟨k, hk1, hk2, rfl, rfl⟩ := hrel
    by_cases hlt : k < t
    · have hck := hZ.out k (by omega)
      have hs : Hid (minZ Z f (k + 1 - 1 - f) = if Z k < minZ Z f (k - 1 - f) then Z k else minZ Z f (k - 1 - f)) := by
        by_cases e : k = f
        · subst e
          show minZ Z k (k + 1 - 1 - k) = _
          rw [show k + 1 - 1 - k = 0 by omega, show k - 1 - k = 0 by omega]
          simp [minZ]
        · rw [show k + 1 - 1 - f = (k - 1 - f) + 1 by omega, minZ, show f + (k - 1 - f + 1) = k by omega]; exact rfl
      clear hca
      generalize minZ Z f (k - 1 - f) = m at *
      generalize Z k = z at *
      by_cases hz : z < m
      · go_wp2
        go_round
        case rel => exact ⟨k + 1, by omega, by omega, by go_num, by rw [hs.out, if_pos hz]⟩
        case measure => simp [intOf]; omega
      · go_wp2
        go_round
        case rel => exact ⟨k + 1, by omega, by omega, by go_num, by rw [hs.out, if_neg hz]⟩
        case measure => simp [intOf]; omega
    · go_wp2
      go_ret
      exact ⟨ret_int (by rw [show k = t by omega]), rfl⟩

theorem minRes_one {Z : Nat → Int} {n k : Nat} {m z : Int} (h : MinRes Z n k ((k : Int) + 1) m z) (hk : k < n) : m = Z k ∧ z = 0 := by
  rcases h with ⟨h, _, _⟩ | ⟨_, h2, h3⟩
  · have := pieceB_mk (n := n) (a := k) (b := k + 1) (by omega) (by omega)
    rw [show ((k + 1 : Nat) : Int) = (k : Int) + 1 by omega, h] at this
    cases this
  · refine ⟨?_, h3⟩
    rw [h2, show ((k : Int)).toNat = k by omega, show ((k : Int) + 1).toNat - 1 - k = 0 by omega]
    rfl

set_option maxRecDepth 100000 in
set_option maxHeartbeats 2000000 in
theorem cells_any (p g n cap : Nat) (Z : Nat → Int) (w : World) (hrow : RowAt 98 w p g n cap Z) (h1 : 1 ≤ n) (h2 : n ≤ 4096) :
    Calls Try.prog 10 #[.pointer (some ⟨p, 0, none⟩), .int .i64 n] w fun e w' => ∃ b c, e = .returned (.tuple #[.slice (some ⟨b, 0, none⟩) n c, .bool true]) ∧ w.heap.size ≤ b ∧ CellsAt w' b n Z ∧ Chg (fun _ => False) w w' := by
  obtain ⟨i0, hi, hz0, hz1, hz2⟩ := info_parts infoInt
  have HROW := hide hrow
  clear hrow
  go_enter Try.func10, Try.ntmps10
  go_wp2
  go_loopw [6, 7] (fun sv i wr => ∃ (k : Nat) (sa : Option Addr) (sc : Nat), k ≤ n ∧ i = .int .i64 k ∧ sv = .slice sa k sc ∧ wr.ownsRow w.heap.size 3 1 (.slice sa k sc) k ((List.range k).map fun j => .int .i64 (Z j)) ∧ Chg (fun _ => False) w wr) (fun _ i _ => n - (intOf i).toNat)
  case atStart => exact ⟨0, none, 0, by omega, rfl, rfl, World.ownsRow_nil _ _ _ _, Chg.refl _ _⟩
  case round =>
    obtain ⟨k, sa, sc, hk, rfl, rfl, hown, hchg⟩ := hrel
    have HCH := hide hchg
    have HOWN := hide hown
    have hszr := hchg.size
    clear hown hchg
    by_cases hlt : k < n
    · have hm := calMin_any p g n cap k ((k : Int) + 1) Z wr (HROW.out.chg HCH.out (fun h => h) (fun h => h)) h2
      have HM := hide hm
      clear hm
      go_wp2_with fail
      refine HM.out.mono ?_
      rintro e w' ⟨m, z, rfl, hres, hw⟩
      subst w'
      obtain ⟨rfl, rfl⟩ := minRes_one hres hlt
      clear hres HM
      go_wp2_with (first | (at_builtin; refine wpList_append_own _ rfl _ _ 27 rfl w.heap.size 3 i0 (.int .i64 0) 1 8 Try.underlying27 hi hz0 hz1 hz2 rfl (by decide) _ _ _ rfl (HOWN.out.alloc _) ⟨wr.heap.size, 0, none⟩ 1 1 [.int .i64 (Z k)] rfl rfl ?c1 ?c2 ?c3 ?c4 ?c5 ?_))
      case c1 =>
        intro j u hj
        match j, hj with
        | 0, hj => simp at hj; subst hj; simp [Addr.add]
      case c2 => intro u hu; simp at hu; subst hu; rfl
      case c3 => unfold maxLen; omega
      case c4 => omega
      case c5 => simp; omega
      · intro v' w1 hown' hgrow _
        have hv : ∃ sa' sc', v' = .slice sa' (k + 1) sc' := by
          rcases hown'.2 with ⟨_, h0⟩ | ⟨g', cap', cur, rfl, _⟩
          · omega
          · exact ⟨_, _, rfl⟩
        obtain ⟨sa', sc', rfl⟩ := hv
        have HO' := hide hown'
        have HC' := hide ((HCH.out.alloc _).grown hgrow (fun k' hk' => .inr (HOWN.out.lt k' hk').1))
        clear hown' hgrow
        go_wp2
        go_roundw
        case rel => exact ⟨k + 1, sa', sc', by omega, by go_num, rfl, by have := HO'.out; rw [List.range_succ, List.map_append]; exact this, HC'.out⟩
        case measure => simp [intOf]; omega
    · have hfin : ∃ b, sa = some ⟨b, 0, none⟩ ∧ w.heap.size ≤ b ∧ CellsAt wr b n Z := by
        have hkn : k = n := by omega
        rcases HOWN.out.2 with ⟨h, h0⟩ | ⟨b, cap', cur, h, hg, hh, hcap, _, hsz, htake⟩
        · omega
        · simp only [Value.slice.injEq] at h
          obtain ⟨rfl, _, rfl⟩ := h
          refine ⟨b, rfl, hg, cur, hh, by omega, fun j hj => ?_⟩
          have : (cur.toList.take (k * 1))[j]? = some (.int .i64 (Z j)) := by rw [htake, List.getElem?_map, List.getElem?_range (by omega)]; rfl
          rw [List.getElem?_take, if_pos (by omega)] at this
          simpa using this
      obtain ⟨b, rfl, hb, hcells⟩ := hfin
      have HF := hide hcells
      have HKN := hide (show k = n by omega)
      clear hcells
      go_wp2
      go_ret2
      have hv : Value.slice (some ⟨b, 0, none⟩) k sc = .slice (some ⟨b, 0, none⟩) n sc := by rw [HKN.out]
      exact ⟨b, sc, congrArg (fun v => Ending.returned (.tuple #[v, .bool true])) hv, hb, HF.out, HCH.out⟩
end Go.Proofs.Ytminceigjejipaa
