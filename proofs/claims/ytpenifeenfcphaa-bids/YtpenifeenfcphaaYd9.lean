import Derived.Test.YtpenifeenfcphaaYd1
import Derived.Test.YtpenifeenfcphaaRow7
import Derived.Test.YtpenifeenfcphaaMkJ
namespace Go.Proofs.Ytpenifeenfcphaa
open Go.RowKit

theorem ownsRow_set {w : World} {e : TypeId} {v : Value} {n i g : Nat} {xs : List Value} (h : w.ownsRow 0 e 1 v n xs) (hi : i < n) (hg : v.ownBlock = some g) (u : Value) : (w.setCell ⟨g, i, none⟩ u).ownsRow 0 e 1 v n (xs.set i u) := by
  rcases h.2 with ⟨hv, h0⟩ | ⟨g', cap, cur, hv, hb0, hh, hc, hmx, hsz, htake⟩
  · omega
  · have hgg : g' = g := by rw [hv] at hg; simpa [Value.ownBlock] using hg
    subst hgg
    refine ⟨by simp [h.1], .inr ⟨g', cap, cur.setIfInBounds i u, hv, hb0, box_set hh _, hc, hmx, by simpa using hsz, ?_⟩⟩
    rw [Array.toList_setIfInBounds, List.take_set, htake]

def fillL (n k : Nat) (cap : Int) : List Value := (List.range n).map fun j => .int .i64 (if j < k then cap else 0)
theorem fillL_start (n : Nat) (cap : Int) : fillL n 0 cap = List.replicate n (.int .i64 0) := by
  apply List.ext_getElem?
  intro i
  by_cases hi : i < n
  · simp [fillL, hi]
  · simp [fillL, hi]
theorem fillL_step (n k : Nat) (cap : Int) (hk : k < n) : (fillL n k cap).set k (.int .i64 cap) = fillL n (k + 1) cap := by
  apply List.ext_getElem?
  intro i
  rw [List.getElem?_set]
  by_cases hi : i < n
  · by_cases e : k = i
    · subst e
      simp [fillL, hi]
    · simp only [if_neg e, fillL, List.getElem?_map, List.getElem?_range hi, Option.map_some]
      simp [show (i < k ↔ i < k + 1) by omega]
  · by_cases e : k = i
    · omega
    · simp [fillL, hi, e]
theorem fillL_end (n : Nat) (cap : Int) : fillL n n cap = (List.replicate n cap).map (Value.int .i64) := by
  apply List.ext_getElem?
  intro i
  by_cases hi : i < n
  · simp [fillL, hi]
  · simp [fillL, hi]

/-- the parts of a fresh market, as they lie -/
theorem ymOpen {W : World} {nk nt q r g U S : Nat} {cap res quo : Int} (h8 : nt ≤ 8) (_ : 1 ≤ nk) (hU : U ≠ g) (hbox : W.heap[q]? = some (.cells #[.int .i64 (nk : Int), .int .i64 cap, .int .i64 res, .int .i64 (nt : Int), .int .i64 quo, .int .i64 0, .slice none 0 0, .slice (some ⟨S, 0, none⟩) nt nt, .slice (some ⟨U, 0, none⟩) nk nk, .pointer (some ⟨r, 0, none⟩)] 127 (0, 0)))
    (hu : W.ownsRow 0 3 1 (.slice (some ⟨U, 0, none⟩) nk nk) nk (fillL nk nk cap)) (hs : W.heap[S]? = some (.cells (madeCells #[.bool false] nt) 4 (0, 0))) (hc : RowAt 57 W r g nk nk (fun _ => cap)) :
    YmAt W ⟨q, r, g, nk, .slice (some ⟨U, 0, none⟩) nk nk, .slice none 0 0, .slice (some ⟨S, 0, none⟩) nt nt⟩ (openM ⟨nk, cap, res, nt, quo⟩) := by
  refine ⟨hbox, World.ownsRow_nil _ _ _ _, ?_, ?_, ?_, ?_⟩
  · show W.ownsRow 0 _ 1 _ (List.replicate (Int.toNat (nt : Int)) false).length ((List.replicate (Int.toNat (nt : Int)) false).map Value.bool)
    rw [Int.toNat_natCast, List.length_replicate, List.map_replicate]
    exact ⟨by simp, .inr ⟨S, nt, _, rfl, Nat.zero_le _, hs, Nat.le_refl _, by unfold maxLen; omega, by rw [size_madeCells]; omega, by rw [made_list]; simp⟩⟩
  · show W.ownsRow 0 _ 1 _ (List.replicate (Int.toNat (nk : Int)) cap).length ((List.replicate (Int.toNat (nk : Int)) cap).map (Value.int .i64))
    rw [Int.toNat_natCast, List.length_replicate, ← fillL_end]
    exact hu
  · show RowAt _ W r g (List.replicate (Int.toNat (nk : Int)) cap).length nk _
    rw [Int.toNat_natCast, List.length_replicate]
    refine hc.congr (fun j hj => ?_)
    simp [freeZ, openM, usedL, List.getD, hj]
  · simp [Value.ownBlock, hU]

set_option maxRecDepth 100000 in
set_option maxHeartbeats 4000000 in
theorem newMarket_any (c : CfgG) (w : World) (hc : cfgOk c = true) :
    Calls Try.prog 71 #[.agg #[.int .i64 c.ticks, .int .i64 c.cap, .int .i64 c.res, .int .i64 c.ten, .int .i64 c.quo]] w fun e w' => ∃ V, e = .returned (.pointer (some ⟨V.q, 0, none⟩)) ∧ YmAt w' V (openM c) ∧ Chg (fun _ => False) w w' ∧ ∀ k, V.foot k → w.heap.size ≤ k := by
  obtain ⟨⟨a1, a2⟩, ⟨a3, a4⟩, ⟨a5, a6⟩, ⟨a7, a8⟩, a9, a10⟩ := cfgOk_true hc
  obtain ⟨tk, cap, res, ten, quo⟩ := c
  simp only at *
  obtain ⟨nt, rfl⟩ := Int.eq_ofNat_of_zero_le (show 0 ≤ ten by omega)
  obtain ⟨nk, rfl⟩ := Int.eq_ofNat_of_zero_le (show 0 ≤ tk by omega)
  have hmk1 := run_make_row' (P := Try.prog) 95 4 (.bool false) 1 Try.underlying95 infoBool rfl .i64 .i64 nt (by omega) (by omega)
  have hmk2 := run_make_row' (P := Try.prog) 25 3 (.int .i64 0) 8 Try.underlying25 infoInt' rfl .i64 .i64 nk (by omega) (by omega)
  have HST := hide (show standB cap = true by simp [standB, inB]; omega)
  clear hc
  go_enter Try.func71, Try.ntmps71
  go_wp2_with fail
  obtain ⟨w1, hw1⟩ : ∃ w1, w1 = w.alloc (.cells #[.int .i64 (nk : Int), .int .i64 cap, .int .i64 res, .int .i64 (nt : Int), .int .i64 quo] 67) := ⟨_, rfl⟩
  rw [← hw1]
  have hb1 : w1.heap[w.heap.size]? = some (.cells #[.int .i64 (nk : Int), .int .i64 cap, .int .i64 res, .int .i64 (nt : Int), .int .i64 quo] 67 (0, 0)) := by rw [hw1]; exact heap_alloc_new w _
  have hc1 : Chg (fun _ => False) w w1 := by rw [hw1]; exact (Chg.refl _ _).alloc _
  have hs1 : w1.heap.size = w.heap.size + 1 := by rw [hw1]; simp
  clear hw1
  refine (calNew_ok nk cap _ (by omega) (by omega) HST.out).mono ?_
  rintro e w2 ⟨r, rfl, hr, hrow, hq⟩
  have hb2 : w2.heap[w.heap.size]? = some (.cells #[.int .i64 (nk : Int), .int .i64 cap, .int .i64 res, .int .i64 (nt : Int), .int .i64 quo] 67 (0, 0)) := (hq.block _ (by omega) (fun h => h)).trans hb1
  have hs2 := hq.size
  have hl2 := hrow.ltp
  have hg2 := hrow.ltg
  have HC2 := hide (hc1.trans hq (fun _ _ h => h))
  have HROW := hide hrow
  have HB2 := hide hb2
  have q0 : w2.cell? ⟨w.heap.size, 0, none⟩ = some (.int .i64 (nk : Int)) := by unfold World.cell?; rw [hb2]; rfl
  clear hb1 hc1 hq hrow hb2
  go_wp2_with fail
  clear hmk2
  go_loopw [21] (fun i wr => ∃ k : Nat, k ≤ nk ∧ i = .int .i64 k ∧ wr.ownsRow 0 3 1 (.slice (some ⟨w2.heap.size, 0, none⟩) nk nk) nk (fillL nk k cap) ∧ Chg (fun _ => False) w2 wr) (fun i _ => nk - (intOf i).toNat)
  case atStart =>
    refine ⟨0, by omega, rfl, ?_, (Chg.refl _ _).alloc _⟩
    rw [fillL_start]
    exact ⟨by simp, .inr ⟨w2.heap.size, nk, _, rfl, Nat.zero_le _, heap_alloc_new w2 _, Nat.le_refl _, by unfold maxLen; omega, by rw [size_madeCells]; omega, by rw [made_list]; simp⟩⟩
  case round =>
    obtain ⟨k, hk, rfl, hown, hchg⟩ := hrel
    have HOWN := hide hown
    have HCH := hide hchg
    have hbr : wr.heap[w.heap.size]? = some (.cells #[.int .i64 (nk : Int), .int .i64 cap, .int .i64 res, .int .i64 (nt : Int), .int .i64 quo] 67 (0, 0)) := (hchg.block _ (by omega) (fun h => h)).trans HB2.out
    have q1 : wr.cell? ⟨w.heap.size, 1, none⟩ = some (.int .i64 cap) := by unfold World.cell?; rw [hbr]; rfl
    have q0 : wr.cell? ⟨w.heap.size, 0, none⟩ = some (.int .i64 (nk : Int)) := by unfold World.cell?; rw [hbr]; rfl
    have q2 : wr.cell? ⟨w.heap.size, 2, none⟩ = some (.int .i64 res) := by unfold World.cell?; rw [hbr]; rfl
    have q3 : wr.cell? ⟨w.heap.size, 3, none⟩ = some (.int .i64 (nt : Int)) := by unfold World.cell?; rw [hbr]; rfl
    have q4 : wr.cell? ⟨w.heap.size, 4, none⟩ = some (.int .i64 quo) := by unfold World.cell?; rw [hbr]; rfl
    have hsr := hchg.size
    have hlr : w2.heap.size < wr.heap.size := (hown.lt w2.heap.size rfl).2
    by_cases hlt : k < nk
    · obtain ⟨cu, hcu⟩ := ownsRow_block hown (k := w2.heap.size) rfl
      have fz : wr.frozen? ⟨w2.heap.size, k, none⟩ = false := by unfold World.frozen?; rw [hcu]; simp
      have hcell := hown.cells (g := w2.heap.size) rfl k (.int .i64 0) (by simp [fillL, hlt])
      rw [Addr.add_lit, Nat.zero_add] at hcell
      clear hown hchg hbr hcu
      go_wp2
      go_roundw
      case rel => exact ⟨k + 1, by omega, by go_num, by rw [← fillL_step nk k cap hlt]; exact ownsRow_set HOWN.out hlt rfl _, HCH.out.setCell (.inr (Nat.le_refl _)) _⟩
      case measure => simp [intOf]; omega
    · have q0' : ∀ o, (wr.alloc o).cell? ⟨w.heap.size, 0, none⟩ = some (.int .i64 (nk : Int)) := fun o => by rw [World.cell?_alloc_lt _ _ _ (by show w.heap.size < wr.heap.size; omega)]; exact q0
      have q1' : ∀ o, (wr.alloc o).cell? ⟨w.heap.size, 1, none⟩ = some (.int .i64 cap) := fun o => by rw [World.cell?_alloc_lt _ _ _ (by show w.heap.size < wr.heap.size; omega)]; exact q1
      have q2' : ∀ o, (wr.alloc o).cell? ⟨w.heap.size, 2, none⟩ = some (.int .i64 res) := fun o => by rw [World.cell?_alloc_lt _ _ _ (by show w.heap.size < wr.heap.size; omega)]; exact q2
      have q3' : ∀ o, (wr.alloc o).cell? ⟨w.heap.size, 3, none⟩ = some (.int .i64 (nt : Int)) := fun o => by rw [World.cell?_alloc_lt _ _ _ (by show w.heap.size < wr.heap.size; omega)]; exact q3
      have q4' : ∀ o, (wr.alloc o).cell? ⟨w.heap.size, 4, none⟩ = some (.int .i64 quo) := fun o => by rw [World.cell?_alloc_lt _ _ _ (by show w.heap.size < wr.heap.size; omega)]; exact q4
      have hkn : k = nk := by omega
      have HK := hide hkn
      clear hown hchg hbr hkn
      go_wp2
      go_ret
      refine ⟨⟨wr.heap.size + 1, r, w1.heap.size, nk, .slice (some ⟨w2.heap.size, 0, none⟩) nk nk, .slice none 0 0, .slice (some ⟨wr.heap.size, 0, none⟩) nt nt⟩, rfl, ?_, ?_, ?_⟩
      · refine ymOpen (by omega) (by omega) (by omega) (heap_at_new (by simp)) ?_ ?_ ?_
        · have := HOWN.out
          rw [HK.out] at this
          exact (this.alloc _).alloc _
        · rw [Below.heap_alloc _ _ _ (by simp)]; exact heap_alloc_new wr _
        · exact HROW.out.frame (by rw [Below.heap_alloc _ _ _ (by simp; omega), Below.heap_alloc _ _ _ (by omega)]; exact HCH.out.block _ hl2 (fun h => h)) (by rw [Below.heap_alloc _ _ _ (by simp; omega), Below.heap_alloc _ _ _ (by omega)]; exact HCH.out.block _ hg2 (fun h => h))
      · exact ((HC2.out.trans HCH.out (fun _ _ h => h)).alloc _).alloc _
      · intro x hx
        rcases hx with h | h | h | h | h | h
        · simp only at h; omega
        · simp only at h; omega
        · simp only at h; omega
        · simp [Value.ownBlock] at h; omega
        · simp [Value.ownBlock] at h
        · simp [Value.ownBlock] at h; omega
end Go.Proofs.Ytpenifeenfcphaa
