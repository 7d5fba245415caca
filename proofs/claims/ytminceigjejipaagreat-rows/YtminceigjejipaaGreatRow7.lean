import Derived.Test.YtminceigjejipaaGreatRow4
import Derived.Deep.OwnRows
namespace Go.Proofs.YtminceigjejipaaGreat
open Go.RowKit

def newB (n v : Int) : Bool := decide (n < 1) || decide (4096 < n) || !standB v
theorem newB_true {n v : Int} (h : newB n v = true) : n < 1 ∨ (1 ≤ n ∧ 4096 < n) ∨ (1 ≤ n ∧ n ≤ 4096 ∧ standB v = false) := by
  simp [newB] at h
  by_cases h1 : n < 1
  · exact .inl h1
  · by_cases h2 : 4096 < n
    · exact .inr (.inl ⟨by omega, h2⟩)
    · refine .inr (.inr ⟨by omega, by omega, ?_⟩)
      rcases h with (h | h) | h
      · omega
      · omega
      · exact h
theorem newB_false {n v : Int} (h : newB n v = false) : 1 ≤ n ∧ n ≤ 4096 ∧ standB v = true := by
  simp [newB] at h
  exact ⟨by omega, by omega, h.2⟩

set_option maxHeartbeats 1000000 in
theorem calNew_bad (n v : Int) (w : World) (h : newB n v = true) :
    Calls Tryz.prog 25 #[.int .i64 n, .int .i64 v] w fun e w' => e = .returned (.tuple #[.pointer none, .int .i64 9]) ∧ w' = w := by
  rcases newB_true h with h1 | ⟨h1, h2⟩ | ⟨h1, h2, h3⟩
  all_goals
    clear h
    go_enter Tryz.func25, Tryz.ntmps25
    go_wp2_with (go_at_call 63; refine (canStand_any _ _).mono ?_; rintro e w' ⟨rfl, hw⟩; subst w'; rw [h3])
    go_ret2
    exact ⟨rfl, rfl⟩

set_option maxHeartbeats 1000000 in
theorem refNew_bad (n v : Int) (w : World) (h : newB n v = true) :
    Calls Tryz.prog 26 #[.int .i64 n, .int .i64 v] w fun e w' => e = .returned (.tuple #[.pointer none, .int .i64 9]) ∧ w' = w := by
  rcases newB_true h with h1 | ⟨h1, h2⟩ | ⟨h1, h2, h3⟩
  · clear h
    go_enter Tryz.func26, Tryz.ntmps26
    go_wp2
    go_ret2
    exact ⟨rfl, rfl⟩
  · clear h
    go_enter Tryz.func26, Tryz.ntmps26
    go_wp2
    go_ret2
    exact ⟨rfl, rfl⟩
  · rcases standB_false h3 with q | ⟨q, q'⟩
    all_goals
      clear h h3
      go_enter Tryz.func26, Tryz.ntmps26
      go_wp2
      go_ret2
      exact ⟨rfl, rfl⟩

def CellsAt (w : World) (g n : Nat) (Z : Nat → Int) : Prop := ∃ cur, w.heap[g]? = some (.cells cur 3 (0, 0)) ∧ n ≤ cur.size ∧ ∀ j, j < n → cur[j]? = some (.int .i64 (Z j))
theorem CellsAt.cell {w : World} {g n : Nat} {Z : Nat → Int} (h : CellsAt w g n Z) (j : Nat) (hj : j < n) : w.cell? ⟨g, j, none⟩ = some (.int .i64 (Z j)) := by
  obtain ⟨cur, h1, h2, h3⟩ := h
  unfold World.cell?
  rw [h1]
  exact h3 j hj
theorem CellsAt.free {w : World} {g n : Nat} {Z : Nat → Int} (h : CellsAt w g n Z) (j : Nat) : w.frozen? ⟨g, j, none⟩ = false := by
  obtain ⟨cur, h1, h2, h3⟩ := h
  unfold World.frozen?
  rw [h1]
  simp
theorem CellsAt.set {w : World} {g n : Nat} {Z : Nat → Int} (h : CellsAt w g n Z) (k : Nat) (v : Int) : CellsAt (w.setCell ⟨g, k, none⟩ (.int .i64 v)) g n (fun j => if j = k then v else Z j) := by
  obtain ⟨cur, h1, h2, h3⟩ := h
  refine ⟨cur.setIfInBounds k (.int .i64 v), ?_, by simpa using h2, fun j hj => ?_⟩
  · simp only [World.setCell, Array.getElem?_modify]
    simp [h1]
  · rw [Array.getElem?_setIfInBounds]
    by_cases e : k = j
    · subst e
      rw [if_pos rfl, if_pos (by omega)]
      simp
    · rw [if_neg e, h3 j hj]
      simp [Ne.symm e]
theorem CellsAt.congr {w : World} {g n : Nat} {Z Z' : Nat → Int} (h : CellsAt w g n Z) (e : ∀ j, j < n → Z j = Z' j) : CellsAt w g n Z' := by
  obtain ⟨cur, h1, h2, h3⟩ := h
  exact ⟨cur, h1, h2, fun j hj => by rw [h3 j hj, e j hj]⟩
theorem CellsAt.made (w : World) (n : Nat) : CellsAt (w.alloc (.cells (madeCells #[.int .i64 0] n) 3)) w.heap.size n (fun _ => 0) :=
  ⟨_, heap_alloc_new w _, by rw [size_madeCells]; exact Nat.le_refl _, fun j hj => by simp [madeCells, hj, Nat.mod_one]⟩

theorem infoInt : (Tryz.prog.info? 3).map (fun i => (i.zero, i.size, i.bytes)) = some (some (.int .i64 0), 1, 8) := by kernel_rfl

set_option maxHeartbeats 1000000 in
theorem calNew_ok (n : Nat) (v : Int) (w : World) (h1 : 1 ≤ n) (h2 : n ≤ 4096) (h3 : standB v = true) :
    Calls Tryz.prog 25 #[.int .i64 n, .int .i64 v] w fun e w' => ∃ p, e = .returned (.tuple #[.pointer (some ⟨p, 0, none⟩), .int .i64 0]) ∧ w.heap.size ≤ p ∧ RowAt 101 w' p w.heap.size n n (fun _ => v) ∧ Chg (fun _ => False) w w' := by
  have hmk := run_make_row' (P := Tryz.prog) 25 3 (.int .i64 0) 8 Tryz.underlying25 infoInt rfl .i64 .i64 n (by omega) (by omega)
  have HM : Hid (CellsAt (w.alloc (.cells (madeCells #[.int .i64 0] n) 3)) w.heap.size n (fun _ => 0)) := CellsAt.made w n
  go_enter Tryz.func25, Tryz.ntmps25
  go_wp2_with (go_at_call 63; refine (canStand_any _ _).mono ?_; rintro e w' ⟨rfl, hw⟩; subst w'; rw [h3])
  clear hmk
  go_loopw [23] (fun i wr => ∃ k : Nat, k ≤ n ∧ i = .int .i64 k ∧ CellsAt wr w.heap.size n (fun j => if j < k then v else 0) ∧ Chg (fun _ => False) w wr) (fun i _ => n - (intOf i).toNat)
  case atStart => exact ⟨0, by omega, rfl, HM.out.congr (fun j _ => by simp), (Chg.refl _ _).alloc _⟩
  case round =>
    obtain ⟨k, hk, rfl, hcs, hchg⟩ := hrel
    have HCS : Hid (CellsAt wr w.heap.size n (fun j => if j < k then v else 0)) := hcs
    have HCH : Hid (Chg (fun _ => False) w wr) := hchg
    by_cases hlt : k < n
    · have hck := hcs.cell k hlt
      have hfk := hcs.free k
      clear hcs hchg
      simp only [Nat.lt_irrefl, if_false] at hck
      go_wp2
      go_roundw
      case rel => exact ⟨k + 1, by omega, by go_num, (HCS.out.set k v).congr (fun j _ => by
        by_cases e : j = k
        · simp [e]
        · rw [if_neg e]; simp [show (j < k ↔ j < k + 1) by omega]), HCH.out.setCell (.inr (Nat.le_refl _)) _⟩
      case measure => simp [intOf]; omega
    · clear hcs hchg
      go_wp2
      go_ret2
      have hlts : w.heap.size < wr.heap.size := by
        obtain ⟨cur, hh, _⟩ := HCS.out
        exact (Array.getElem?_eq_some_iff.1 hh).1
      refine ⟨wr.heap.size, rfl, by omega, ⟨heap_alloc_new wr _, ?_⟩, HCH.out.alloc _⟩
      obtain ⟨cur, hh1, hh2, hh3⟩ := HCS.out
      exact ⟨cur, by rw [Below.heap_alloc _ _ _ hlts]; exact hh1, hh2, fun j hj => by rw [hh3 j hj]; simp [show j < k by omega]⟩

theorem refNew_step {w wr w1 : World} {o : Obj} {k : Nat} {sa : Option Addr} {sc : Nat} {v' : Value} {xs xs' : List Value} (hP : wr.heap[w.heap.size]? = some (.cells #[.slice sa k sc] 103 (0, 0)))
    (hown : wr.ownsRow (w.heap.size + 1) 3 1 (.slice sa k sc) k xs) (hown' : w1.ownsRow (w.heap.size + 1) 3 1 v' (k + 1) xs') (hg : (wr.alloc o).grownBy w1 (Value.ownBlock (.slice sa k sc))) (hchg : Chg (fun _ => False) w wr) :
    w1.cell? ⟨w.heap.size, 0, none⟩ = some (.slice sa k sc) ∧ w1.frozen? ⟨w.heap.size, 0, none⟩ = false ∧ (w1.setCell ⟨w.heap.size, 0, none⟩ v').heap[w.heap.size]? = some (.cells #[v'] 103 (0, 0)) ∧
      (w1.setCell ⟨w.heap.size, 0, none⟩ v').ownsRow (w.heap.size + 1) 3 1 v' (k + 1) xs' ∧ Chg (fun _ => False) w (w1.setCell ⟨w.heap.size, 0, none⟩ v') ∧ ∃ sa' sc', v' = .slice sa' (k + 1) sc' := by
  have hlt : w.heap.size < wr.heap.size := (Array.getElem?_eq_some_iff.1 hP).1
  have hrow : ∀ k', Value.ownBlock (.slice sa k sc) = some k' → w.heap.size + 1 ≤ k' := fun k' hk => (hown.lt k' hk).1
  have hP1 : w1.heap[w.heap.size]? = some (.cells #[.slice sa k sc] 103 (0, 0)) := by
    rw [hg.block _ (by simp; omega) (fun e => by have := hrow _ e.symm; omega), Below.heap_alloc _ _ _ hlt]
    exact hP
  refine ⟨cell_of_one hP1, free_of_one hP1, one_setCell hP1, ownsRow_setCell_below hown' (by show w.heap.size < _; omega) _, ?_, ?_⟩
  · exact ((hchg.alloc o).grown hg (fun k' hk => .inr (by have := hrow k' hk; omega))).setCell (.inr (Nat.le_refl _)) _
  · rcases hown'.2 with ⟨_, h0⟩ | ⟨g, cap, cur, rfl, _⟩
    · omega
    · exact ⟨_, _, rfl⟩

set_option maxRecDepth 100000 in
set_option maxHeartbeats 2000000 in
theorem refNew_ok (n : Nat) (v : Int) (w : World) (h1 : 1 ≤ n) (h2 : n ≤ 4096) (h3 : standB v = true) :
    Calls Tryz.prog 26 #[.int .i64 n, .int .i64 v] w fun e w' => ∃ g cap, e = .returned (.tuple #[.pointer (some ⟨w.heap.size, 0, none⟩), .int .i64 0]) ∧ w.heap.size ≤ g ∧ RowAt 103 w' w.heap.size g n cap (fun _ => v) ∧ Chg (fun _ => False) w w' := by
  obtain ⟨i0, hi, hz0, hz1, hz2⟩ := info_parts infoInt
  obtain ⟨q, q'⟩ := standB_true h3
  clear h3
  have e1 : decide (v < -1099511627776) = false := by simp; omega
  have e2 : decide (1099511627776 < v) = false := by simp; omega
  have e3 : decide ((n : Int) < 1) = false := by simp; omega
  have e4 : decide (4096 < (n : Int)) = false := by simp; omega
  go_enter Tryz.func26, Tryz.ntmps26
  go_wp2
  go_loopw [7] (fun i wr => ∃ (k : Nat) (sv : Value), k ≤ n ∧ i = .int .i64 k ∧ wr.heap[w.heap.size]? = some (.cells #[sv] 103 (0, 0)) ∧ wr.ownsRow (w.heap.size + 1) 3 1 sv k (List.replicate k (.int .i64 v)) ∧ Chg (fun _ => False) w wr) (fun i _ => n - (intOf i).toNat)
  case atStart => exact ⟨0, .slice none 0 0, by omega, rfl, heap_alloc_new w _, World.ownsRow_nil _ _ _ _, (Chg.refl _ _).alloc _⟩
  case round =>
    obtain ⟨k, sv, hk, rfl, hp, hown, hchg⟩ := hrel
    have HP : Hid (wr.heap[w.heap.size]? = some (.cells #[sv] 103 (0, 0))) := hp
    have hcp : wr.cell? ⟨w.heap.size, 0, none⟩ = some sv := cell_of_one hp
    have hlts : w.heap.size < wr.heap.size := (Array.getElem?_eq_some_iff.1 hp).1
    have HCH : Hid (Chg (fun _ => False) w wr) := hchg
    have HOWN : Hid (wr.ownsRow (w.heap.size + 1) 3 1 sv k (List.replicate k (.int .i64 v))) := hown
    have hsv : ∃ sa sc, sv = .slice sa k sc := by
      rcases hown.2 with ⟨rfl, rfl⟩ | ⟨g, cap, cur, rfl, _⟩
      · exact ⟨_, _, rfl⟩
      · exact ⟨_, _, rfl⟩
    obtain ⟨sa, sc, rfl⟩ := hsv
    clear hp hown hchg
    by_cases hlt : k < n
    · have hca : ∀ o, (wr.alloc o).cell? ⟨w.heap.size, 0, none⟩ = some (.slice sa k sc) := fun o => by rw [World.cell?_alloc_lt _ _ _ (by exact hlts)]; exact hcp
      go_wp2_with (first | (at_builtin; refine wpList_append_own _ rfl _ _ 25 rfl (w.heap.size + 1) 3 i0 (.int .i64 0) 1 8 Tryz.underlying25 hi hz0 hz1 hz2 rfl (by decide) _ _ _ rfl (HOWN.out.alloc _) ⟨wr.heap.size, 0, none⟩ 1 1 [.int .i64 v] rfl rfl ?c1 ?c2 ?c3 ?c4 ?c5 ?_))
      case c1 =>
        intro j u hj
        match j, hj with
        | 0, hj => simp at hj; subst hj; simp [Addr.add]
      case c2 => intro u hu; simp at hu; subst hu; rfl
      case c3 => unfold maxLen; omega
      case c4 => omega
      case c5 => simp; omega
      · intro v' w1 hown' hgrow _
        obtain ⟨s1, s2, s3, s4, s5, sa', sc', rfl⟩ := refNew_step HP.out HOWN.out hown' hgrow HCH.out
        have S3 := hide s3
        have S4 := hide s4
        have S5 := hide s5
        clear hown' hgrow hca hcp s3 s4 s5
        go_wp2
        go_roundw
        case rel => exact ⟨k + 1, _, by omega, by go_num, unhide S3, by have := unhide S4; rwa [← List.replicate_succ'] at this, unhide S5⟩
        case measure => simp [intOf]; omega
    · have hfin : ∃ g, w.heap.size ≤ g ∧ RowAt 103 wr w.heap.size g n sc (fun _ => v) := by
        have hkn : k = n := by omega
        rcases HOWN.out.2 with ⟨h, h0⟩ | ⟨g, cap, cur, h, hg, hh, hcap, _, hsz, htake⟩
        · omega
        · simp only [Value.slice.injEq] at h
          obtain ⟨rfl, _, rfl⟩ := h
          refine ⟨g, by omega, by rw [← hkn]; exact HP.out, cur, hh, by omega, fun j hj => ?_⟩
          have : (cur.toList.take (k * 1))[j]? = some (.int .i64 v) := by rw [htake, List.getElem?_replicate, if_pos (by omega)]
          rw [List.getElem?_take, if_pos (by omega)] at this
          simpa using this
      have HF := hide hfin
      clear hfin hcp
      go_wp2
      go_ret2
      obtain ⟨g, hg, hrow⟩ := unhide HF
      exact ⟨g, sc, rfl, hg, hrow, HCH.out⟩
end Go.Proofs.YtminceigjejipaaGreat
