import Derived.Test.YtccfademkgjeiaaR2
import Derived.Deep.OwnRows
import Derived.Test.YtccfademkgjeiaaR1
namespace Go.Proofs.Ytccfademkgjeiaa
open Go.RowKit

def newB (n v : Int) : Bool := decide (n < 1) || decide (4096 < n) || !standB v
theorem newB_true {n v : Int} (h : newB n v = true) : n < 1 ∨ (1 ≤ n ∧ 4096 < n) ∨ (1 ≤ n ∧ n ≤ 4096 ∧ standB v = false) := by
  simp [newB] at h
  by_cases h1 : n < 1
  · exact .inl h1
  · by_cases h2 : 4096 < n
    · exact .inr (.inl ⟨by omega, h2⟩)
    · refine .inr (.inr ⟨by omega, by omega, ?_⟩)
      rcases h with (h | h) | h
      · omega
      · omega
      · exact h
theorem newB_false {n v : Int} (h : newB n v = false) : 1 ≤ n ∧ n ≤ 4096 ∧ standB v = true := by
  simp [newB] at h
  exact ⟨by omega, by omega, h.2⟩

set_option maxHeartbeats 1000000 in
theorem calNew_bad (n v : Int) (w : World) (h : newB n v = true) :
    Calls Try.prog 14 #[.int .i64 n, .int .i64 v] w fun e w' => e = .returned (.tuple #[.pointer none, .int .i64 9]) ∧ w' = w := by
  rcases newB_true h with h1 | ⟨h1, h2⟩ | ⟨h1, h2, h3⟩
  all_goals
    clear h
    go_enter Try.func14, Try.ntmps14
    go_wp2_with (go_at_call 37; refine (canStand_any _ _).mono ?_; rintro e w' ⟨rfl, hw⟩; subst w'; rw [h3])
    go_ret2
    exact ⟨rfl, rfl⟩

set_option maxHeartbeats 1000000 in
theorem refNew_bad (n v : Int) (w : World) (h : newB n v = true) :
    Calls Try.prog 80 #[.int .i64 n, .int .i64 v] w fun e w' => e = .returned (.tuple #[.pointer none, .int .i64 9]) ∧ w' = w := by
  rcases newB_true h with h1 | ⟨h1, h2⟩ | ⟨h1, h2, h3⟩
  · clear h
    go_enter Try.func80, Try.ntmps80
    go_wp2
    go_ret2
    exact ⟨rfl, rfl⟩
  · clear h
    go_enter Try.func80, Try.ntmps80
    go_wp2
    go_ret2
    exact ⟨rfl, rfl⟩
  · rcases standB_false h3 with q | ⟨q, q'⟩
    all_goals
      clear h h3
      go_enter Try.func80, Try.ntmps80
      go_wp2
      go_ret2
      exact ⟨rfl, rfl⟩

def CellsAt (w : World) (g n : Nat) (Z : Nat → Int) : Prop := ∃ cur, w.heap[g]? = some (.cells cur 3 (0, 0)) ∧ n ≤ cur.size ∧ ∀ j, j < n → cur[j]? = some (.int .i64 (Z j))
theorem CellsAt.cell {w : World} {g n : Nat} {Z : Nat → Int} (h : CellsAt w g n Z) (j : Nat) (hj : j < n) : w.cell? ⟨g, j, none⟩ = some (.int .i64 (Z j)) := by
  obtain ⟨cur, h1, h2, h3⟩ := h
  unfold World.cell?
  rw [h1]
  exact h3 j hj
theorem CellsAt.free {w : World} {g n : Nat} {Z : Nat → Int} (h : CellsAt w g n Z) (j : Nat) : w.frozen? ⟨g, j, none⟩ = false := by
  obtain ⟨cur, h1, h2, h3⟩ := h
  unfold World.frozen?
  rw [h1]
  simp
theorem CellsAt.set {w : World} {g n : Nat} {Z : Nat → Int} (h : CellsAt w g n Z) (k : Nat) (v : Int) : CellsAt (w.setCell ⟨g, k, none⟩ (.int .i64 v)) g n (fun j => if j = k then v else Z j) := by
  obtain ⟨cur, h1, h2, h3⟩ := h
  refine ⟨cur.setIfInBounds k (.int .i64 v), ?_, by simpa using h2, fun j hj => ?_⟩
  · simp only [World.setCell, Array.getElem?_modify]
    simp [h1]
  · rw [Array.getElem?_setIfInBounds]
    by_cases e : k = j
    · subst e
      rw [if_pos rfl, if_pos (by omega)]
      simp
    · rw [if_neg e, h3 j hj]
      simp [Ne.symm e]
theorem CellsAt.congr {w : World} {g n : Nat} {Z Z' : Nat → Int} (h : CellsAt w g n Z) (e : ∀ j, j < n → Z j = Z' j) : CellsAt w g n Z' := by
  obtain ⟨cur, h1, h2, h3⟩ := h
  exact ⟨cur, h1, h2, fun j hj => by rw [h3 j hj, e j hj]⟩
theorem CellsAt.made (w : World) (n : Nat) : CellsAt (w.alloc (.cells (madeCells #[.int .i64 0] n) 3)) w.heap.size n (fun _ => 0) :=
  ⟨_, heap_alloc_new w _, by rw [size_madeCells]; exact Nat.le_refl _, fun j hj => by simp [madeCells, hj, Nat.mod_one]⟩

theorem infoInt : (Try.prog.info? 3).map (fun i => (i.zero, i.size, i.bytes)) = some (some (.int .i64 0), 1, 8) := by kernel_rfl

set_option maxHeartbeats 1000000 in
theorem calNew_ok (n : Nat) (v : Int) (w : World) (h1 : 1 ≤ n) (h2 : n ≤ 4096) (h3 : standB v = true) :
    Calls Try.prog 14 #[.int .i64 n, .int .i64 v] w fun e w' => ∃ p, e = .returned (.tuple #[.pointer (some ⟨p, 0, none⟩), .int .i64 0]) ∧ w.heap.size ≤ p ∧ RowAt 89 w' p w.heap.size n n (fun _ => v) ∧ Chg (fun _ => False) w w' := by
  have hmk := run_make_row' (P := Try.prog) 25 3 (.int .i64 0) 8 Try.underlying25 infoInt rfl .i64 .i64 n (by omega) (by omega)
  have HM : Hid (CellsAt (w.alloc (.cells (madeCells #[.int .i64 0] n) 3)) w.heap.size n (fun _ => 0)) := CellsAt.made w n
  go_enter Try.func14, Try.ntmps14
  go_wp2_with (go_at_call 37; refine (canStand_any _ _).mono ?_; rintro e w' ⟨rfl, hw⟩; subst w'; rw [h3])
  clear hmk
  go_loopw [23] (fun i wr => ∃ k : Nat, k ≤ n ∧ i = .int .i64 k ∧ CellsAt wr w.heap.size n (fun j => if j < k then v else 0) ∧ Chg (fun _ => False) w wr) (fun i _ => n - (intOf i).toNat)
  case atStart => exact ⟨0, by omega, rfl, HM.out.congr (fun j _ => by simp), (Chg.refl _ _).alloc _⟩
  case round =>
    obtain ⟨k, hk, rfl, hcs, hchg⟩ := hrel
    have HCS : Hid (CellsAt wr w.heap.size n (fun j => if j < k then v else 0)) := hcs
    have HCH : Hid (Chg (fun _ => False) w wr) := hchg
    by_cases hlt : k < n
    · have hck := hcs.cell k hlt
      have hfk := hcs.free k
      clear hcs hchg
      simp only [Nat.lt_irrefl, if_false] at hck
      go_wp2
      go_roundw
      case rel => exact ⟨k + 1, by omega, by go_num, (HCS.out.set k v).congr (fun j _ => by
        by_cases e : j = k
        · simp [e]
        · rw [if_neg e]; simp [show (j < k ↔ j < k + 1) by omega]), HCH.out.setCell (.inr (Nat.le_refl _)) _⟩
      case measure => simp [intOf]; omega
    · clear hcs hchg
      go_wp2
      go_ret2
      have hlts : w.heap.size < wr.heap.size := by
        obtain ⟨cur, hh, _⟩ := HCS.out
        exact (Array.getElem?_eq_some_iff.1 hh).1
      refine ⟨wr.heap.size, rfl, by omega, ⟨heap_alloc_new wr _, ?_⟩, HCH.out.alloc _⟩
      obtain ⟨cur, hh1, hh2, hh3⟩ := HCS.out
      exact ⟨cur, by rw [Below.heap_alloc _ _ _ hlts]; exact hh1, hh2, fun j hj => by rw [hh3 j hj]; simp [show j < k by omega]⟩

theorem refNew_step {w wr w1 : World} {o : Obj} {k : Nat} {sa : Option Addr} {sc : Nat} {v' : Value} {xs xs' : List Value} (hP : wr.heap[w.heap.size]? = some (.cells #[.slice sa k sc] 162 (0, 0)))
    (hown : wr.ownsRow (w.heap.size + 1) 3 1 (.slice sa k sc) k xs) (hown' : w1.ownsRow (w.heap.size + 1) 3 1 v' (k + 1) xs') (hg : (wr.alloc o).grownBy w1 (Value.ownBlock (.slice sa k sc))) (hchg : Chg (fun _ => False) w wr) :
    w1.cell? ⟨w.heap.size, 0, none⟩ = some (.slice sa k sc) ∧ w1.frozen? ⟨w.heap.size, 0, none⟩ = false ∧ (w1.setCell ⟨w.heap.size, 0, none⟩ v').heap[w.heap.size]? = some (.cells #[v'] 162 (0, 0)) ∧
      (w1.setCell ⟨w.heap.size, 0, none⟩ v').ownsRow (w.heap.size + 1) 3 1 v' (k + 1) xs' ∧ Chg (fun _ => False) w (w1.setCell ⟨w.heap.size, 0, none⟩ v') ∧ ∃ sa' sc', v' = .slice sa' (k + 1) sc' := by
  have hlt : w.heap.size < wr.heap.size := (Array.getElem?_eq_some_iff.1 hP).1
  have hrow : ∀ k', Value.ownBlock (.slice sa k sc) = some k' → w.heap.size + 1 ≤ k' := fun k' hk => (hown.lt k' hk).1
  have hP1 : w1.heap[w.heap.size]? = some (.cells #[.slice sa k sc] 162 (0, 0)) := by
    rw [hg.block _ (by simp; omega) (fun e => by have := hrow _ e.symm; omega), Below.heap_alloc _ _ _ hlt]
    exact hP
  refine ⟨cell_of_one hP1, free_of_one hP1, one_setCell hP1, ownsRow_setCell_below hown' (by show w.heap.size < _; omega) _, ?_, ?_⟩
  · exact ((hchg.alloc o).grown hg (fun k' hk => .inr (by have := hrow k' hk; omega))).setCell (.inr (Nat.le_refl _)) _
  · rcases hown'.2 with ⟨_, h0⟩ | ⟨g, cap, cur, rfl, _⟩
    · omega
    · exact ⟨_, _, rfl⟩

set_option maxRecDepth 100000 in
set_option maxHeartbeats 2000000 in
theorem refNew_ok (n : Nat) (v : Int) (w : World) (h1 : 1 ≤ n) (h2 : n ≤ 4096) (h3 : standB v = true) :
    Calls Try.prog 80 #[.int .i64 n, .int .i64 v] w fun e w' => ∃ g cap, e = .returned (.tuple #[.pointer (some ⟨w.heap.size, 0, none⟩), .int .i64 0]) ∧ w.heap.size ≤ g ∧ RowAt 162 w' w.heap.size g n cap (fun _ => v) ∧ Chg (fun _ => False) w w' := by
  obtain ⟨i0, hi, hz0, hz1, hz2⟩ := info_parts infoInt
  obtain ⟨q, q'⟩ := standB_true h3
  clear h3
  have e1 : decide (v < -1099511627776) = false := by simp; omega
  have e2 : decide (1099511627776 < v) = false := by simp; omega
  have e3 : decide ((n : Int) < 1) = false := by simp; omega
  have e4 : decide (4096 < (n : Int)) = false := by simp; omega
  go_enter Try.func80, Try.ntmps80
  go_wp2
  go_loopw [7] (fun i wr => ∃ (k : Nat) (sv : Value), k ≤ n ∧ i = .int .i64 k ∧ wr.heap[w.heap.size]? = some (.cells #[sv] 162 (0, 0)) ∧ wr.ownsRow (w.heap.size + 1) 3 1 sv k (List.replicate k (.int .i64 v)) ∧ Chg (fun _ => False) w wr) (fun i _ => n - (intOf i).toNat)
  case atStart => exact ⟨0, .slice none 0 0, by omega, rfl, heap_alloc_new w _, World.ownsRow_nil _ _ _ _, (Chg.refl _ _).alloc _⟩
  case round =>
    obtain ⟨k, sv, hk, rfl, hp, hown, hchg⟩ := hrel
    have HP : Hid (wr.heap[w.heap.size]? = some (.cells #[sv] 162 (0, 0))) := hp
    have hcp : wr.cell? ⟨w.heap.size, 0, none⟩ = some sv := cell_of_one hp
    have hlts : w.heap.size < wr.heap.size := (Array.getElem?_eq_some_iff.1 hp).1
    have HCH : Hid (Chg (fun _ => False) w wr) := hchg
    have HOWN : Hid (wr.ownsRow (w.heap.size + 1) 3 1 sv k (List.replicate k (.int .i64 v))) := hown
    have hsv : ∃ sa sc, sv = .slice sa k sc := by
      rcases hown.2 with ⟨rfl, rfl⟩ | ⟨g, cap, cur, rfl, _⟩
      · exact ⟨_, _, rfl⟩
      · exact ⟨_, _, rfl⟩
    obtain ⟨sa, sc, rfl⟩ := hsv
    clear hp hown hchg
    by_cases hlt : k < n
    · have hca : ∀ o, (wr.alloc o).cell? ⟨w.heap.size, 0, none⟩ = some (.slice sa k sc) := fun o => by rw [World.cell?_alloc_lt _ _ _ (by exact hlts)]; exact hcp
      go_wp2_with (first | (at_builtin; refine wpList_append_own _ rfl _ _ 25 rfl (w.heap.size + 1) 3 i0 (.int .i64 0) 1 8 Try.underlying25 hi hz0 hz1 hz2 rfl (by decide) _ _ _ rfl (HOWN.out.alloc _) ⟨wr.heap.size, 0, none⟩ 1 1 [.int .i64 v] rfl rfl ?c1 ?c2 ?c3 ?c4 ?c5 ?_))
      case c1 =>
        intro j u hj
        match j, hj with
        | 0, hj => simp at hj; subst hj; simp [Addr.add]
      case c2 => intro u hu; simp at hu; subst hu; rfl
      case c3 => unfold maxLen; omega
      case c4 => omega
      case c5 => simp; omega
      · intro v' w1 hown' hgrow _
        obtain ⟨s1, s2, s3, s4, s5, sa', sc', rfl⟩ := refNew_step HP.out HOWN.out hown' hgrow HCH.out
        have S3 := hide s3
        have S4 := hide s4
        have S5 := hide s5
        clear hown' hgrow hca hcp s3 s4 s5
        go_wp2
        go_roundw
        case rel => exact ⟨k + 1, _, by omega, by go_num, unhide S3, by have := unhide S4; rwa [← List.replicate_succ'] at this, unhide S5⟩
        case measure => simp [intOf]; omega
    · have hfin : ∃ g, w.heap.size ≤ g ∧ RowAt 162 wr w.heap.size g n sc (fun _ => v) := by
        have hkn : k = n := by omega
        rcases HOWN.out.2 with ⟨h, h0⟩ | ⟨g, cap, cur, h, hg, hh, hcap, _, hsz, htake⟩
        · omega
        · simp only [Value.slice.injEq] at h
          obtain ⟨rfl, _, rfl⟩ := h
          refine ⟨g, by omega, by rw [← hkn]; exact HP.out, cur, hh, by omega, fun j hj => ?_⟩
          have : (cur.toList.take (k * 1))[j]? = some (.int .i64 v) := by rw [htake, List.getElem?_replicate, if_pos (by omega)]
          rw [List.getElem?_take, if_pos (by omega)] at this
          simpa using this
      have HF := hide hfin
      clear hfin hcp
      go_wp2
      go_ret2
      obtain ⟨g, hg, hrow⟩ := unhide HF
      exact ⟨g, sc, rfl, hg, hrow, HCH.out⟩
end Go.Proofs.Ytccfademkgjeiaa

namespace Go.Proofs.Ytccfademkgjeiaa
open Go.RowKit

def InRange (n : Nat) (Z : Nat → Int) : Prop := ∀ j, j < n → -1099511627776 ≤ Z j ∧ Z j ≤ 1099511627776

def AddRes (Z : Nat → Int) (n : Nat) (f t d z : Int) (Z' : Nat → Int) : Prop :=
  ((pieceB n f t = false ∨ inB d (-2199023255552) 2199023255552 = false) ∧ z = 9 ∧ Z' = Z) ∨
  (pieceB n f t = true ∧ inB d (-2199023255552) 2199023255552 = true ∧ ¬ addOk Z f.toNat t.toNat d ∧ z = 12 ∧ Z' = Z) ∨
  (pieceB n f t = true ∧ inB d (-2199023255552) 2199023255552 = true ∧ addOk Z f.toNat t.toNat d ∧ z = 0 ∧ Z' = addZ Z f.toNat t.toNat d)

theorem AddRes.unique {Z : Nat → Int} {n : Nat} {f t d z z2 : Int} {Z' Z2 : Nat → Int} (h : AddRes Z n f t d z Z') (h2 : AddRes Z n f t d z2 Z2) : z = z2 ∧ Z' = Z2 := by
  rcases h with ⟨a, rfl, rfl⟩ | ⟨a, b, c, rfl, rfl⟩ | ⟨a, b, c, rfl, rfl⟩ <;> rcases h2 with ⟨a2, rfl, rfl⟩ | ⟨a2, b2, c2, rfl, rfl⟩ | ⟨a2, b2, c2, rfl, rfl⟩ <;> first | exact ⟨rfl, rfl⟩ | (exfalso; simp_all)

theorem AddRes.range {Z : Nat → Int} {n : Nat} {f t d z : Int} {Z' : Nat → Int} (h : AddRes Z n f t d z Z') (hB : InRange n Z) : InRange n Z' := by
  rcases h with ⟨a, rfl, rfl⟩ | ⟨a, b, c, rfl, rfl⟩ | ⟨a, b, c, rfl, rfl⟩
  · exact hB
  · exact hB
  · intro j hj
    unfold addZ
    split
    · rename_i h
      exact standB_true (c j h.1 h.2)
    · exact hB j hj

def MinRes (Z : Nat → Int) (n : Nat) (f t m z : Int) : Prop :=
  (pieceB n f t = false ∧ m = 0 ∧ z = 9) ∨ (pieceB n f t = true ∧ m = minZ Z f.toNat (t.toNat - 1 - f.toNat) ∧ z = 0)

theorem MinRes.unique {Z : Nat → Int} {n : Nat} {f t m z m2 z2 : Int} (h : MinRes Z n f t m z) (h2 : MinRes Z n f t m2 z2) : m = m2 ∧ z = z2 := by
  rcases h with ⟨a, rfl, rfl⟩ | ⟨a, rfl, rfl⟩ <;> rcases h2 with ⟨a2, rfl, rfl⟩ | ⟨a2, rfl, rfl⟩ <;> first | exact ⟨rfl, rfl⟩ | (exfalso; simp_all)

def FitRes (Z : Nat → Int) (n : Nat) (f l v s z : Int) : Prop :=
  (fitB n f l = true ∧ s = 0 ∧ z = 9) ∨ (fitB n f l = false ∧ IsFit Z n f.toNat l.toNat v s ∧ z = 0)

theorem FitRes.unique {Z : Nat → Int} {n : Nat} {f l v s z s2 z2 : Int} (h : FitRes Z n f l v s z) (h2 : FitRes Z n f l v s2 z2) : s = s2 ∧ z = z2 := by
  rcases h with ⟨a, rfl, rfl⟩ | ⟨a, hs, rfl⟩ <;> rcases h2 with ⟨a2, rfl, rfl⟩ | ⟨a2, hs2, rfl⟩
  · exact ⟨rfl, rfl⟩
  · simp_all
  · simp_all
  · exact ⟨hs.unique hs2, rfl⟩

theorem calAdd_any (p g n cap : Nat) (f t d : Int) (Z : Nat → Int) (w : World) (hrow : RowAt 89 w p g n cap Z) (hn : n ≤ 4096) (hB : InRange n Z) :
    Calls Try.prog 38 #[.pointer (some ⟨p, 0, none⟩), .int .i64 f, .int .i64 t, .int .i64 d] w fun e w' => ∃ z Z', e = .returned (.int .i64 z) ∧ AddRes Z n f t d z Z' ∧ RowAt 89 w' p g n cap Z' ∧ Chg (fun k => k = g) w w' := by
  by_cases hbad : pieceB n f t = false ∨ inB d (-2199023255552) 2199023255552 = false
  · refine (calAdd_bad p g n cap f t d w hrow.cellp hbad).mono ?_
    rintro e w' ⟨rfl, hw⟩
    subst w'
    exact ⟨9, Z, rfl, .inl ⟨hbad, rfl, rfl⟩, hrow, Chg.refl _ _⟩
  · have h1 : pieceB n f t = true := by cases h : pieceB n f t; exact absurd (.inl h) hbad; rfl
    have h2 : inB d (-2199023255552) 2199023255552 = true := by cases h : inB d (-2199023255552) 2199023255552; exact absurd (.inr h) hbad; rfl
    obtain ⟨p1, p2, p3⟩ := pieceB_true h1
    obtain ⟨q1, q2⟩ := inB_true h2
    obtain ⟨a, rfl⟩ := Int.eq_ofNat_of_zero_le p1
    obtain ⟨b, rfl⟩ := Int.eq_ofNat_of_zero_le (show 0 ≤ t by omega)
    by_cases hok : addOk Z a b d
    · refine (calAdd_ok p g n cap a b d Z w hrow (by omega) (by omega) (by omega) q1 q2 hB hok).mono ?_
      rintro e w' ⟨rfl, h3, h4⟩
      exact ⟨0, _, rfl, .inr (.inr ⟨h1, h2, hok, rfl, rfl⟩), h3, h4⟩
    · refine (calAdd_range p g n cap a b d Z w hrow.cellp (by omega) (by omega) (by omega) q1 q2 hB hrow.cellg hok).mono ?_
      rintro e w' ⟨rfl, hw⟩
      subst w'
      exact ⟨12, Z, rfl, .inr (.inl ⟨h1, h2, hok, rfl, rfl⟩), hrow, Chg.refl _ _⟩

theorem calMin_any (p g n cap : Nat) (f t : Int) (Z : Nat → Int) (w : World) (hrow : RowAt 89 w p g n cap Z) (hn : n ≤ 4096) :
    Calls Try.prog 17 #[.pointer (some ⟨p, 0, none⟩), .int .i64 f, .int .i64 t] w fun e w' => ∃ m z, e = .returned (.tuple #[.int .i64 m, .int .i64 z]) ∧ MinRes Z n f t m z ∧ w' = w := by
  cases h : pieceB n f t
  · refine (calMin_bad p g n cap f t w hrow.cellp h).mono ?_
    rintro e w' ⟨rfl, hw⟩
    exact ⟨0, 9, rfl, .inl ⟨h, rfl, rfl⟩, hw⟩
  · obtain ⟨p1, p2, p3⟩ := pieceB_true h
    obtain ⟨a, rfl⟩ := Int.eq_ofNat_of_zero_le p1
    obtain ⟨b, rfl⟩ := Int.eq_ofNat_of_zero_le (show 0 ≤ t by omega)
    refine (calMin_ok p g n cap a b Z w hrow.cellp (by omega) (by omega) (by omega) hrow.cellg).mono ?_
    rintro e w' ⟨rfl, hw⟩
    exact ⟨_, 0, rfl, .inr ⟨h, rfl, rfl⟩, hw⟩

theorem calFit_any (p g n cap : Nat) (f l v : Int) (Z : Nat → Int) (w : World) (hrow : RowAt 89 w p g n cap Z) (hn : n ≤ 4096) (hf : f ≤ 9223372036854775807) :
    Calls Try.prog 40 #[.pointer (some ⟨p, 0, none⟩), .int .i64 f, .int .i64 l, .int .i64 v] w fun e w' => ∃ s z, e = .returned (.tuple #[.int .i64 s, .int .i64 z]) ∧ FitRes Z n f l v s z ∧ w' = w := by
  cases h : fitB n f l
  · obtain ⟨p1, p2, p3⟩ := fitB_false h
    obtain ⟨a, rfl⟩ := Int.eq_ofNat_of_zero_le p1
    obtain ⟨b, rfl⟩ := Int.eq_ofNat_of_zero_le (show 0 ≤ l by omega)
    refine (calFit_ok p g n cap a b v Z w (by omega) hrow.cellp (by omega) (by omega) hrow.cellg).mono ?_
    rintro e w' ⟨s, rfl, hs, hw⟩
    exact ⟨s, 0, rfl, .inr ⟨h, hs, rfl⟩, hw⟩
  · refine (calFit_bad p g n cap f l v w (by omega) hf hrow.cellp h).mono ?_
    rintro e w' ⟨rfl, hw⟩
    exact ⟨0, 9, rfl, .inl ⟨h, rfl, rfl⟩, hw⟩

theorem refAdd_any (p g n cap : Nat) (f t d : Int) (Z : Nat → Int) (w : World) (hrow : RowAt 162 w p g n cap Z) (hn : n ≤ 4096) (hB : InRange n Z) :
    Calls Try.prog 81 #[.pointer (some ⟨p, 0, none⟩), .int .i64 f, .int .i64 t, .int .i64 d] w fun e w' => ∃ z Z', e = .returned (.int .i64 z) ∧ AddRes Z n f t d z Z' ∧ RowAt 162 w' p g n cap Z' ∧ Chg (fun k => k = g) w w' := by
  by_cases hbad : pieceB n f t = false ∨ inB d (-2199023255552) 2199023255552 = false
  · refine (refAdd_bad p g n cap f t d w hrow.cellp hbad).mono ?_
    rintro e w' ⟨rfl, hw⟩
    subst w'
    exact ⟨9, Z, rfl, .inl ⟨hbad, rfl, rfl⟩, hrow, Chg.refl _ _⟩
  · have h1 : pieceB n f t = true := by cases h : pieceB n f t; exact absurd (.inl h) hbad; rfl
    have h2 : inB d (-2199023255552) 2199023255552 = true := by cases h : inB d (-2199023255552) 2199023255552; exact absurd (.inr h) hbad; rfl
    obtain ⟨p1, p2, p3⟩ := pieceB_true h1
    obtain ⟨q1, q2⟩ := inB_true h2
    obtain ⟨a, rfl⟩ := Int.eq_ofNat_of_zero_le p1
    obtain ⟨b, rfl⟩ := Int.eq_ofNat_of_zero_le (show 0 ≤ t by omega)
    by_cases hok : addOk Z a b d
    · refine (refAdd_ok p g n cap a b d Z w hrow (by omega) (by omega) (by omega) q1 q2 hB hok).mono ?_
      rintro e w' ⟨rfl, h3, h4⟩
      exact ⟨0, _, rfl, .inr (.inr ⟨h1, h2, hok, rfl, rfl⟩), h3, h4⟩
    · refine (refAdd_range p g n cap a b d Z w hrow.cellp (by omega) (by omega) (by omega) q1 q2 hB hrow.cellg hok).mono ?_
      rintro e w' ⟨rfl, hw⟩
      subst w'
      exact ⟨12, Z, rfl, .inr (.inl ⟨h1, h2, hok, rfl, rfl⟩), hrow, Chg.refl _ _⟩

theorem refMin_any (p g n cap : Nat) (f t : Int) (Z : Nat → Int) (w : World) (hrow : RowAt 162 w p g n cap Z) (hn : n ≤ 4096) :
    Calls Try.prog 82 #[.pointer (some ⟨p, 0, none⟩), .int .i64 f, .int .i64 t] w fun e w' => ∃ m z, e = .returned (.tuple #[.int .i64 m, .int .i64 z]) ∧ MinRes Z n f t m z ∧ w' = w := by
  cases h : pieceB n f t
  · refine (refMin_bad p g n cap f t w hrow.cellp h).mono ?_
    rintro e w' ⟨rfl, hw⟩
    exact ⟨0, 9, rfl, .inl ⟨h, rfl, rfl⟩, hw⟩
  · obtain ⟨p1, p2, p3⟩ := pieceB_true h
    obtain ⟨a, rfl⟩ := Int.eq_ofNat_of_zero_le p1
    obtain ⟨b, rfl⟩ := Int.eq_ofNat_of_zero_le (show 0 ≤ t by omega)
    refine (refMin_ok p g n cap a b Z w hrow.cellp (by omega) (by omega) (by omega) hrow.cellg).mono ?_
    rintro e w' ⟨rfl, hw⟩
    exact ⟨_, 0, rfl, .inr ⟨h, rfl, rfl⟩, hw⟩

theorem refFit_any (p g n cap : Nat) (f l v : Int) (Z : Nat → Int) (w : World) (hrow : RowAt 162 w p g n cap Z) (hn : n ≤ 4096) (hf : f ≤ 9223372036854775807) :
    Calls Try.prog 83 #[.pointer (some ⟨p, 0, none⟩), .int .i64 f, .int .i64 l, .int .i64 v] w fun e w' => ∃ s z, e = .returned (.tuple #[.int .i64 s, .int .i64 z]) ∧ FitRes Z n f l v s z ∧ w' = w := by
  cases h : fitB n f l
  · obtain ⟨p1, p2, p3⟩ := fitB_false h
    obtain ⟨a, rfl⟩ := Int.eq_ofNat_of_zero_le p1
    obtain ⟨b, rfl⟩ := Int.eq_ofNat_of_zero_le (show 0 ≤ l by omega)
    refine (refFit_ok p g n cap a b v Z w (by omega) hrow.cellp (by omega) (by omega) hrow.cellg).mono ?_
    rintro e w' ⟨s, rfl, hs, hw⟩
    exact ⟨s, 0, rfl, .inr ⟨h, hs, rfl⟩, hw⟩
  · refine (refFit_bad p g n cap f l v w (by omega) hf hrow.cellp h).mono ?_
    rintro e w' ⟨rfl, hw⟩
    exact ⟨0, 9, rfl, .inl ⟨h, rfl, rfl⟩, hw⟩
end Go.Proofs.Ytccfademkgjeiaa

namespace Go.Proofs.Ytccfademkgjeiaa
open Go.RowKit

/-- a row of the program and the document's, which hold the same -/
structure PairAt (w : World) (pc gc pr gr n cc cr : Nat) (Z : Nat → Int) : Prop where
  c : RowAt 89 w pc gc n cc Z
  r : RowAt 162 w pr gr n cr Z
  ne : gc ≠ gr
  n1 : 1 ≤ n
  n2 : n ≤ 4096
  range : InRange n Z

section
variable {w : World} {pc gc pr gr n cc cr : Nat} {Z : Nat → Int}
theorem PairAt.frame {w' : World} (h : PairAt w pc gc pr gr n cc cr Z) (h1 : w'.heap[pc]? = w.heap[pc]?) (h2 : w'.heap[gc]? = w.heap[gc]?) (h3 : w'.heap[pr]? = w.heap[pr]?) (h4 : w'.heap[gr]? = w.heap[gr]?) : PairAt w' pc gc pr gr n cc cr Z :=
  ⟨h.c.frame h1 h2, h.r.frame h3 h4, h.ne, h.n1, h.n2, h.range⟩
theorem PairAt.chg {O : Nat → Prop} {w' : World} (h : PairAt w pc gc pr gr n cc cr Z) (hc : Chg O w w') (h1 : ¬ O pc) (h2 : ¬ O gc) (h3 : ¬ O pr) (h4 : ¬ O gr) : PairAt w' pc gc pr gr n cc cr Z :=
  h.frame (hc.block _ h.c.ltp h1) (hc.block _ h.c.ltg h2) (hc.block _ h.r.ltp h3) (hc.block _ h.r.ltg h4)
theorem RowAt.chg {T : TypeId} {p g cap : Nat} {O : Nat → Prop} {w' : World} (h : RowAt T w p g n cap Z) (hc : Chg O w w') (h1 : ¬ O p) (h2 : ¬ O g) : RowAt T w' p g n cap Z :=
  h.frame (hc.block _ h.ltp h1) (hc.block _ h.ltg h2)
/-- blocks of other types -/
theorem RowAt.apart {T T' : TypeId} {p g p' g' cap cap' n' : Nat} {Z' : Nat → Int} (h : RowAt T w p g n cap Z) (h' : RowAt T' w p' g' n' cap' Z') (hT : T ≠ 3) (hT' : T' ≠ 3) (hTT : T ≠ T') : p ≠ p' ∧ p ≠ g' ∧ g ≠ p' := by
  obtain ⟨cur, a1, _⟩ := h.hg
  obtain ⟨cur', a1', _⟩ := h'.hg
  refine ⟨?_, ?_, ?_⟩
  · rintro rfl
    have := h.hp
    rw [h'.hp] at this
    simp at this
    exact hTT this.2.symm
  · rintro rfl
    have := h.hp
    rw [a1'] at this
    simp at this
    exact hT this.2.symm
  · rintro rfl
    rw [h'.hp] at a1
    simp at a1
    exact hT' a1.2
end

theorem boxes (w : World) (pc pr : Nat) (k a b c d j1 j2 j3 j4 j5 : Int) (w2 : World)
    (hw2 : w2 = (w.alloc (.cells #[.pointer (some ⟨pc, 0, none⟩), .pointer (some ⟨pr, 0, none⟩)] 130)).alloc (.cells #[.int .i64 k, .int .i64 a, .int .i64 b, .int .i64 c, .int .i64 d, .int .i64 j1, .int .i64 j2, .int .i64 j3, .int .i64 j4, .int .i64 j5] 83)) :
    Chg (fun _ => False) w w2 ∧ w2.heap.size = w.heap.size + 2 ∧ w2.cell? ⟨w.heap.size, 0, none⟩ = some (.pointer (some ⟨pc, 0, none⟩)) ∧ w2.cell? ⟨w.heap.size, 1, none⟩ = some (.pointer (some ⟨pr, 0, none⟩)) ∧
      w2.cell? ⟨w.heap.size + 1, 2, none⟩ = some (.int .i64 b) ∧ w2.cell? ⟨w.heap.size + 1, 3, none⟩ = some (.int .i64 c) ∧ w2.cell? ⟨w.heap.size + 1, 4, none⟩ = some (.int .i64 d) := by
  subst hw2
  refine ⟨((Chg.refl _ _).alloc _).alloc _, by simp, ?_, ?_, by simp, by simp, by simp⟩
  · rw [World.cell?_alloc_lt _ _ _ (by simp)]; simp
  · rw [World.cell?_alloc_lt _ _ _ (by simp)]; simp

set_option maxRecDepth 100000 in
set_option maxHeartbeats 2000000 in
theorem onRow_add (pc gc pr gr n cc cr : Nat) (Z : Nat → Int) (a b c d j1 j2 j3 j4 j5 : Int) (w : World) (hP : PairAt w pc gc pr gr n cc cr Z) (_ : b ≤ 9223372036854775807) :
    Calls Try.prog 60 #[.agg #[.pointer (some ⟨pc, 0, none⟩), .pointer (some ⟨pr, 0, none⟩)], .agg #[.int .i64 3, .int .i64 a, .int .i64 b, .int .i64 c, .int .i64 d, .int .i64 j1, .int .i64 j2, .int .i64 j3, .int .i64 j4, .int .i64 j5]] w fun e w' => ∃ Z', e = .returned (.bool true) ∧ PairAt w' pc gc pr gr n cc cr Z' ∧ Chg (fun k => k = gc ∨ k = gr) w w' := by
  have HP := hide hP
  have HL := hide (show gc < w.heap.size ∧ gr < w.heap.size from ⟨hP.c.ltg, hP.r.ltg⟩)
  have HA := hide (hP.c.apart hP.r (by decide) (by decide) (by decide))
  have HNE := hide (show pr ≠ gr ∧ pc ≠ gc from ⟨hP.r.ne (by decide), hP.c.ne (by decide)⟩)
  clear hP
  go_enter Try.func60, Try.ntmps60
  go_wp2_with fail
  obtain ⟨w2, hw2⟩ : ∃ w2, w2 = (w.alloc (.cells #[.pointer (some ⟨pc, 0, none⟩), .pointer (some ⟨pr, 0, none⟩)] 130)).alloc (.cells #[.int .i64 3, .int .i64 a, .int .i64 b, .int .i64 c, .int .i64 d, .int .i64 j1, .int .i64 j2, .int .i64 j3, .int .i64 j4, .int .i64 j5] 83) := ⟨_, rfl⟩
  rw [← hw2]
  obtain ⟨hch, hsz, b0, b1, o2, o3, o4⟩ := boxes w pc pr 3 a b c d j1 j2 j3 j4 j5 w2 hw2
  have HCH := hide hch
  have HSZ := hide hsz
  have hrc : RowAt 89 w2 pc gc n cc Z := HP.out.c.chg hch (fun h => h) (fun h => h)
  have hrr : RowAt 162 w2 pr gr n cr Z := HP.out.r.chg hch (fun h => h) (fun h => h)
  clear hw2 hch hsz
  refine (calAdd_any pc gc n cc b c d Z _ hrc HP.out.n2 HP.out.range).mono ?_
  rintro e w3 ⟨z, Z', rfl, hres, hrc', hchg⟩
  have hlt := HL.out
  have hszv := HSZ.out
  have q1 : w3.cell? ⟨w.heap.size, 1, none⟩ = some (.pointer (some ⟨pr, 0, none⟩)) := by rw [hchg.cell (by show w.heap.size < _; omega) (by show ¬ w.heap.size = gc; omega)]; exact b1
  have q2 : w3.cell? ⟨w.heap.size + 1, 2, none⟩ = some (.int .i64 b) := by rw [hchg.cell (by show w.heap.size + 1 < _; omega) (by show ¬ w.heap.size + 1 = gc; omega)]; exact o2
  have q3 : w3.cell? ⟨w.heap.size + 1, 3, none⟩ = some (.int .i64 c) := by rw [hchg.cell (by show w.heap.size + 1 < _; omega) (by show ¬ w.heap.size + 1 = gc; omega)]; exact o3
  have q4 : w3.cell? ⟨w.heap.size + 1, 4, none⟩ = some (.int .i64 d) := by rw [hchg.cell (by show w.heap.size + 1 < _; omega) (by show ¬ w.heap.size + 1 = gc; omega)]; exact o4
  have hrr2 : RowAt 162 w3 pr gr n cr Z := hrr.chg hchg (fun h => HA.out.2.2 h.symm) (fun h => HP.out.ne h.symm)
  have HRES := hide hres
  have HRC := hide hrc'
  have HC3 := hide hchg
  clear hszv hlt b0 b1 o2 o3 o4 hrr hrc hres hrc' hchg
  go_wp2_with fail
  refine (refAdd_any pr gr n cr b c d Z _ hrr2 HP.out.n2 HP.out.range).mono ?_
  rintro e w4 ⟨z2, Z2, rfl, hres2, hrr', hchg2⟩
  obtain ⟨rfl, rfl⟩ := HRES.out.unique hres2
  have HF := hide (show PairAt w4 pc gc pr gr n cc cr Z' ∧ Chg (fun k => k = gc ∨ k = gr) w w4 from ⟨⟨HRC.out.chg hchg2 (fun h => HA.out.2.1 h) (fun h => HP.out.ne h), hrr', HP.out.ne, HP.out.n1, HP.out.n2, HRES.out.range HP.out.range⟩,
    ((HCH.out.mono (O' := fun k => k = gc ∨ k = gr) (fun _ _ h => h.elim)).trans HC3.out (fun _ _ h => .inl h)).trans hchg2 (fun _ _ h => .inr h)⟩)
  clear hres2 hrr' hchg2 hrr2 q1 q2 q3 q4
  go_wp2
  go_ret
  exact ⟨Z', ret_bool (by simp), HF.out.1, HF.out.2⟩

set_option maxRecDepth 100000 in
set_option maxHeartbeats 2000000 in
theorem onRow_min (pc gc pr gr n cc cr : Nat) (Z : Nat → Int) (a b c d j1 j2 j3 j4 j5 : Int) (w : World) (hP : PairAt w pc gc pr gr n cc cr Z) (_ : b ≤ 9223372036854775807) :
    Calls Try.prog 60 #[.agg #[.pointer (some ⟨pc, 0, none⟩), .pointer (some ⟨pr, 0, none⟩)], .agg #[.int .i64 4, .int .i64 a, .int .i64 b, .int .i64 c, .int .i64 d, .int .i64 j1, .int .i64 j2, .int .i64 j3, .int .i64 j4, .int .i64 j5]] w fun e w' => ∃ Z', e = .returned (.bool true) ∧ PairAt w' pc gc pr gr n cc cr Z' ∧ Chg (fun k => k = gc ∨ k = gr) w w' := by
  have HP := hide hP
  have HL := hide (show gc < w.heap.size ∧ gr < w.heap.size from ⟨hP.c.ltg, hP.r.ltg⟩)
  have HA := hide (hP.c.apart hP.r (by decide) (by decide) (by decide))
  have HNE := hide (show pr ≠ gr ∧ pc ≠ gc from ⟨hP.r.ne (by decide), hP.c.ne (by decide)⟩)
  clear hP
  go_enter Try.func60, Try.ntmps60
  go_wp2_with fail
  obtain ⟨w2, hw2⟩ : ∃ w2, w2 = (w.alloc (.cells #[.pointer (some ⟨pc, 0, none⟩), .pointer (some ⟨pr, 0, none⟩)] 130)).alloc (.cells #[.int .i64 4, .int .i64 a, .int .i64 b, .int .i64 c, .int .i64 d, .int .i64 j1, .int .i64 j2, .int .i64 j3, .int .i64 j4, .int .i64 j5] 83) := ⟨_, rfl⟩
  rw [← hw2]
  obtain ⟨hch, hsz, b0, b1, o2, o3, o4⟩ := boxes w pc pr 4 a b c d j1 j2 j3 j4 j5 w2 hw2
  have HCH := hide hch
  have HSZ := hide hsz
  have hrc : RowAt 89 w2 pc gc n cc Z := HP.out.c.chg hch (fun h => h) (fun h => h)
  have hrr : RowAt 162 w2 pr gr n cr Z := HP.out.r.chg hch (fun h => h) (fun h => h)
  clear hw2 hch hsz
  refine (calMin_any pc gc n cc b c Z _ hrc HP.out.n2).mono ?_
  rintro e w3 ⟨m, z, rfl, hres, hw⟩
  subst w3
  have hrr2 := hrr
  have HRES := hide hres
  clear hrr hrc hres
  go_wp2_with fail
  refine (refMin_any pr gr n cr b c Z _ hrr2 HP.out.n2).mono ?_
  rintro e w4 ⟨m2, z2, rfl, hres2, hw⟩
  subst w4
  obtain ⟨rfl, rfl⟩ := HRES.out.unique hres2
  clear hres2 hrr2
  go_wp2
  go_ret
  exact ⟨Z, ret_bool (by simp), HP.out.chg HCH.out (fun h => h) (fun h => h) (fun h => h) (fun h => h), HCH.out.mono (fun _ _ h => h.elim)⟩

set_option maxRecDepth 100000 in
set_option maxHeartbeats 2000000 in
theorem onRow_fit (pc gc pr gr n cc cr : Nat) (Z : Nat → Int) (a b c d j1 j2 j3 j4 j5 : Int) (w : World) (hP : PairAt w pc gc pr gr n cc cr Z) (hb2 : b ≤ 9223372036854775807) :
    Calls Try.prog 60 #[.agg #[.pointer (some ⟨pc, 0, none⟩), .pointer (some ⟨pr, 0, none⟩)], .agg #[.int .i64 5, .int .i64 a, .int .i64 b, .int .i64 c, .int .i64 d, .int .i64 j1, .int .i64 j2, .int .i64 j3, .int .i64 j4, .int .i64 j5]] w fun e w' => ∃ Z', e = .returned (.bool true) ∧ PairAt w' pc gc pr gr n cc cr Z' ∧ Chg (fun k => k = gc ∨ k = gr) w w' := by
  have HP := hide hP
  have HL := hide (show gc < w.heap.size ∧ gr < w.heap.size from ⟨hP.c.ltg, hP.r.ltg⟩)
  have HA := hide (hP.c.apart hP.r (by decide) (by decide) (by decide))
  have HNE := hide (show pr ≠ gr ∧ pc ≠ gc from ⟨hP.r.ne (by decide), hP.c.ne (by decide)⟩)
  clear hP
  go_enter Try.func60, Try.ntmps60
  go_wp2_with fail
  obtain ⟨w2, hw2⟩ : ∃ w2, w2 = (w.alloc (.cells #[.pointer (some ⟨pc, 0, none⟩), .pointer (some ⟨pr, 0, none⟩)] 130)).alloc (.cells #[.int .i64 5, .int .i64 a, .int .i64 b, .int .i64 c, .int .i64 d, .int .i64 j1, .int .i64 j2, .int .i64 j3, .int .i64 j4, .int .i64 j5] 83) := ⟨_, rfl⟩
  rw [← hw2]
  obtain ⟨hch, hsz, b0, b1, o2, o3, o4⟩ := boxes w pc pr 5 a b c d j1 j2 j3 j4 j5 w2 hw2
  have HCH := hide hch
  have HSZ := hide hsz
  have hrc : RowAt 89 w2 pc gc n cc Z := HP.out.c.chg hch (fun h => h) (fun h => h)
  have hrr : RowAt 162 w2 pr gr n cr Z := HP.out.r.chg hch (fun h => h) (fun h => h)
  clear hw2 hch hsz
  refine (calFit_any pc gc n cc b c d Z _ hrc HP.out.n2 hb2).mono ?_
  rintro e w3 ⟨m, z, rfl, hres, hw⟩
  subst w3
  have hrr2 := hrr
  have HRES := hide hres
  clear hrr hrc hres
  go_wp2_with fail
  refine (refFit_any pr gr n cr b c d Z _ hrr2 HP.out.n2 hb2).mono ?_
  rintro e w4 ⟨m2, z2, rfl, hres2, hw⟩
  subst w4
  obtain ⟨rfl, rfl⟩ := HRES.out.unique hres2
  clear hres2 hrr2
  go_wp2
  go_ret
  exact ⟨Z, ret_bool (by simp), HP.out.chg HCH.out (fun h => h) (fun h => h) (fun h => h) (fun h => h), HCH.out.mono (fun _ _ h => h.elim)⟩
end Go.Proofs.Ytccfademkgjeiaa

namespace Go.Proofs.Ytccfademkgjeiaa
open Go.RowKit

/-- the world's box -/
def BoxAt (w : World) (B : Nat) (v0 v1 v2 v3 v4 : Value) : Prop := w.heap[B]? = some (.cells #[v0, v1, v2, v3, v4] 81 (0, 0))
section
variable {w : World} {B : Nat} {v0 v1 v2 v3 v4 : Value}
theorem BoxAt.cell (h : BoxAt w B v0 v1 v2 v3 v4) (f : Nat) : w.cell? ⟨B, f, none⟩ = #[v0, v1, v2, v3, v4][f]? := by
  unfold World.cell?
  rw [show w.heap[B]? = _ from h]
  rfl
theorem BoxAt.free (h : BoxAt w B v0 v1 v2 v3 v4) (f : Nat) : w.frozen? ⟨B, f, none⟩ = false := by
  unfold World.frozen?
  rw [show w.heap[B]? = _ from h]
  simp
theorem BoxAt.lt (h : BoxAt w B v0 v1 v2 v3 v4) : B < w.heap.size := (Array.getElem?_eq_some_iff.1 h).1
theorem BoxAt.set1 (h : BoxAt w B v0 v1 v2 v3 v4) (u : Value) : BoxAt (w.setCell ⟨B, 1, none⟩ u) B v0 u v2 v3 v4 := by
  unfold BoxAt
  simp only [World.setCell, Array.getElem?_modify]
  rw [show w.heap[B]? = _ from h]
  simp
theorem BoxAt.chg {O : Nat → Prop} {w' : World} (h : BoxAt w B v0 v1 v2 v3 v4) (hc : Chg O w w') (hn : ¬ O B) : BoxAt w' B v0 v1 v2 v3 v4 := (hc.block _ h.lt hn).trans h
end

theorem infoRow : (Try.prog.info? 130).map (fun i => (i.zero, i.size, i.bytes)) = some (some (.agg #[.pointer none, .pointer none]), 2, 16) := by kernel_rfl

set_option maxHeartbeats 2000000 in
theorem rowed_bad (bw : Nat) (n v : Int) (w : World) (h : newB n v = true) :
    Calls Try.prog 59 #[.pointer (some ⟨bw, 0, none⟩), .int .i64 n, .int .i64 v] w fun e w' => e = .returned (.bool true) ∧ w' = w := by
  go_enter Try.func59, Try.ntmps59
  go_wp2_with fail
  refine (calNew_bad n v _ h).mono ?_
  rintro e w1 ⟨rfl, hw⟩
  subst w1
  go_wp2_with fail
  refine (refNew_bad n v _ h).mono ?_
  rintro e w1 ⟨rfl, hw⟩
  subst w1
  clear h
  go_wp2
  go_ret
  exact ⟨rfl, rfl⟩

/-- what 'rowed' makes -/
def Rowed (w : World) (B n m : Nat) (v : Int) (v0 rv v2 v3 v4 : Value) (xs : List Value) (w' : World) : Prop :=
  ∃ rv' p1 g1 p2 g2 c2, BoxAt w' B v0 rv' v2 v3 v4 ∧ w'.ownsRow (B + 1) 130 2 rv' (m + 1) (xs ++ [.pointer (some ⟨p1, 0, none⟩), .pointer (some ⟨p2, 0, none⟩)]) ∧ PairAt w' p1 g1 p2 g2 n n c2 (fun _ => v) ∧
    w.heap.size ≤ p1 ∧ w.heap.size ≤ g1 ∧ w.heap.size ≤ p2 ∧ w.heap.size ≤ g2 ∧ Chg (fun k => k = B ∨ rv.ownBlock = some k) w w'

theorem rowed_step {w w1 w2 w3 : World} {o : Obj} {B n m p1 g2 c2 : Nat} {v : Int} {v0 rv v2 v3 v4 rv' : Value} {xs : List Value} (hn1 : 1 ≤ n) (hn2 : n ≤ 4096) (hv : standB v = true)
    (hbox : BoxAt w B v0 rv v2 v3 v4) (hown : w.ownsRow (B + 1) 130 2 rv m xs)
    (hp1 : w.heap.size ≤ p1) (hr1 : RowAt 89 w1 p1 w.heap.size n n (fun _ => v)) (hc1 : Chg (fun _ => False) w w1)
    (hg2 : w1.heap.size ≤ g2) (hr2 : RowAt 162 w2 w1.heap.size g2 n c2 (fun _ => v)) (hc2 : Chg (fun _ => False) w1 w2)
    (hown' : w3.ownsRow (B + 1) 130 2 rv' (m + 1) (xs ++ [.pointer (some ⟨p1, 0, none⟩), .pointer (some ⟨w1.heap.size, 0, none⟩)])) (hg : (w2.alloc o).grownBy w3 rv.ownBlock) :
    w3.cell? ⟨B, 1, none⟩ = some rv ∧ w3.frozen? ⟨B, 1, none⟩ = false ∧ (∃ sa sl sc, rv' = .slice sa sl sc) ∧ Rowed w B n m v v0 rv v2 v3 v4 xs (w3.setCell ⟨B, 1, none⟩ rv') := by
  have hl : ∀ k, rv.ownBlock = some k → B + 1 ≤ k ∧ k < w.heap.size := hown.lt
  have hBl := hbox.lt
  have hs1 := hc1.size
  have hs2 := hc2.size
  have hc3 : Chg (fun k => rv.ownBlock = some k) w w3 :=
    ((((hc1.trans hc2 (fun _ _ h => h)).alloc o).mono (O' := fun k => rv.ownBlock = some k) (fun _ _ h => h.elim))).grown hg (fun k hk => .inl hk)
  have hb3 : BoxAt w3 B v0 rv v2 v3 v4 := hbox.chg hc3 (fun h => by have := hl _ h; omega)
  have e1 := hb3.cell 1
  simp at e1
  refine ⟨e1, hb3.free 1, ?_, ?_⟩
  · rcases hown'.2 with ⟨rfl, _⟩ | ⟨_, _, _, rfl, _⟩
    · exact ⟨_, _, _, rfl⟩
    · exact ⟨_, _, _, rfl⟩
  have hcc : Chg (fun k => rv.ownBlock = some k ∨ k = B) w2 (w3.setCell ⟨B, 1, none⟩ rv') :=
    ((((Chg.refl (fun k => rv.ownBlock = some k ∨ k = B) w2).alloc o)).grown hg (fun k hk => .inl (.inl hk))).setCell (.inl (.inr rfl)) _
  have no : ∀ k, w.heap.size ≤ k → ¬ (rv.ownBlock = some k ∨ k = B) := fun k hk h => by
    rcases h with h | h
    · have := hl _ h; omega
    · omega
  refine ⟨rv', p1, w.heap.size, w1.heap.size, g2, c2, hb3.set1 rv', ownsRow_setCell_below hown' (by show B < _; omega) _, ⟨?_, ?_, ?_, hn1, hn2, ?_⟩, hp1, Nat.le_refl _, hs1, by omega, ?_⟩
  · exact (hr1.chg hc2 (fun h => h) (fun h => h)).chg hcc (no _ hp1) (no _ (Nat.le_refl _))
  · exact hr2.chg hcc (no _ hs1) (no _ (by omega))
  · have := hr1.ltg; omega
  · intro j _
    exact standB_true hv
  · exact (hc3.mono (O' := fun k => k = B ∨ rv.ownBlock = some k) (fun _ _ h => .inr h)).setCell (.inl (.inl rfl)) _

set_option maxRecDepth 100000 in
set_option maxHeartbeats 2000000 in
theorem rowed_ok (B n m : Nat) (v : Int) (ra : Option Addr) (rc : Nat) (v0 v2 v3 v4 : Value) (xs : List Value) (w : World) (hn1 : 1 ≤ n) (hn2 : n ≤ 4096) (hv : standB v = true) (hm : m < 5000000000000)
    (hbox : BoxAt w B v0 (.slice ra m rc) v2 v3 v4) (hown : w.ownsRow (B + 1) 130 2 (.slice ra m rc) m xs) :
    Calls Try.prog 59 #[.pointer (some ⟨B, 0, none⟩), .int .i64 n, .int .i64 v] w fun e w' => e = .returned (.bool true) ∧ Rowed w B n m v v0 (.slice ra m rc) v2 v3 v4 xs w' := by
  obtain ⟨i0, hi, hz0, hz1, hz2⟩ := info_parts infoRow
  have HBOX := hide hbox
  have HOWN := hide hown
  have HV := hide hv
  have hBl := hbox.lt
  clear hbox hown hv
  go_enter Try.func59, Try.ntmps59
  go_wp2_with fail
  refine (calNew_ok n v _ hn1 hn2 HV.out).mono ?_
  rintro e w1 ⟨p1, rfl, hp1, hr1, hc1⟩
  have HR1 := hide hr1
  have HC1 := hide hc1
  clear hr1 hc1
  go_wp2_with fail
  refine (refNew_ok n v _ hn1 hn2 HV.out).mono ?_
  rintro e w2 ⟨g2, c2, rfl, hg2, hr2, hc2⟩
  have HR2 := hide hr2
  have HC2 := hide hc2
  have hb2 : BoxAt w2 B v0 (.slice ra m rc) v2 v3 v4 := (HBOX.out.chg HC1.out (fun h => h)).chg HC2.out (fun h => h)
  have hcell : w2.cell? ⟨B, 1, none⟩ = some (.slice ra m rc) := by have := hb2.cell 1; simpa using this
  have hlt2 : B < w2.heap.size := hb2.lt
  have HO2 := hide (show w2.ownsRow (B + 1) 130 2 (.slice ra m rc) m xs from by
    have hg : w.grownBy w2 none := ⟨HC2.out.os.trans HC1.out.os, HC2.out.tape.trans HC1.out.tape, HC2.out.output.trans HC1.out.output, Nat.le_trans HC1.out.size HC2.out.size, fun k hk _ => (HC2.out.block k (Nat.lt_of_lt_of_le hk HC1.out.size) (fun h => h)).trans (HC1.out.block k hk (fun h => h))⟩
    exact HOWN.out.kept hg (by cases ra <;> simp [Value.ownBlock]))
  clear hr2 hc2 hb2
  go_wp2_with (first | (at_builtin; refine wpList_append_own _ rfl _ _ 76 rfl (B + 1) 130 i0 (.agg #[.pointer none, .pointer none]) 2 16 Try.underlying76 hi hz0 hz1 hz2 rfl (by decide) _ _ _ rfl (HO2.out.alloc _) ⟨w2.heap.size, 0, none⟩ 1 1 [.pointer (some ⟨p1, 0, none⟩), .pointer (some ⟨w1.heap.size, 0, none⟩)] rfl rfl ?c1 ?c2 ?c3 ?c4 ?c5 ?_))
  case c1 =>
    intro j u hj
    match j, hj with
    | 0, hj => simp at hj; subst hj; simp [Addr.add]
    | 1, hj => simp at hj; subst hj; simp [Addr.add]
  case c2 => intro u hu; simp at hu; rcases hu with rfl | rfl <;> rfl
  case c3 => unfold maxLen; omega
  case c4 => omega
  case c5 => simp; omega
  · intro rv' w3 hown' hgrow _
    obtain ⟨s1, s2, ⟨sa, sl, sc, rfl⟩, s3⟩ := rowed_step hn1 hn2 HV.out HBOX.out HOWN.out hp1 HR1.out HC1.out hg2 HR2.out HC2.out hown' hgrow
    have S3 := hide s3
    clear s3 hown' hgrow hcell
    go_wp2
    go_ret
    exact ⟨rfl, S3.out⟩
end Go.Proofs.Ytccfademkgjeiaa
