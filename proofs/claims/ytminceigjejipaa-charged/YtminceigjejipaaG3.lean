import Derived.Test.YtminceigjejipaaMkC
import Derived.Deep.RegionLaw
import Derived.Test.YtminceigjejipaaG1
import Derived.Deep.OwnRows
namespace Go.Proofs.Ytminceigjejipaa
open Go.RowKit

theorem box_set {w : World} {p f : Nat} {cs : Array Value} {T : TypeId} (h : w.heap[p]? = some (.cells cs T (0, 0))) (u : Value) : (w.setCell ⟨p, f, none⟩ u).heap[p]? = some (.cells (cs.setIfInBounds f u) T (0, 0)) := by
  simp only [World.setCell, Array.getElem?_modify]
  simp [h]

end Go.Proofs.Ytminceigjejipaa

namespace Go.Proofs.Ytminceigjejipaa
open Go.RowKit

end Go.Proofs.Ytminceigjejipaa

namespace Go.Proofs.Ytminceigjejipaa
open Go.RowKit

theorem MkOk.bl {m : MkG} (h : MkOk m) : m.bids.length ≤ 300 := Nat.le_trans h.nb h.nl

theorem tenB_true {m : MkG} {k : Int} (h : m.tenB k = true) : 0 ≤ k ∧ k < m.c.ten := by simpa [MkG.tenB] using h

end Go.Proofs.Ytminceigjejipaa

namespace Go.Proofs.Ytminceigjejipaa
open Go.RowKit

theorem ret_two {k k' : IntKind} {a b c d : Int} (h : a = b) (h' : c = d) : Ending.returned (.tuple #[.int k a, .int k' c]) = .returned (.tuple #[.int k b, .int k' d]) := by rw [h, h']

set_option maxHeartbeats 400000 in
theorem calMin_bad (p g n cap : Nat) (f t : Int) (w : World) (hc : w.cell? ⟨p, 0, none⟩ = some (.slice (some ⟨g, 0, none⟩) n cap)) (hp : pieceB n f t = false) :
    Calls Try.prog 12 #[.pointer (some ⟨p, 0, none⟩), .int .i64 f, .int .i64 t] w fun e w' => e = .returned (.tuple #[.int .i64 0, .int .i64 9]) ∧ w' = w := by
  go_enter Try.func12, Try.ntmps12
  go_wp2_with (go_at_call 40; refine (hasPiece_any p g n cap _ _ _ hc).mono ?_; rintro e w' ⟨rfl, rfl⟩; rw [hp])
  go_ret2
  exact ⟨rfl, rfl⟩

theorem pieceB_mk {n a b : Nat} (h1 : a < b) (h2 : b ≤ n) : pieceB n a b = true := by
  simp [pieceB]
  omega

set_option maxHeartbeats 1000000 in
theorem calMin_ok (p g n cap a b : Nat) (Z : Nat → Int) (w : World) (hc : w.cell? ⟨p, 0, none⟩ = some (.slice (some ⟨g, 0, none⟩) n cap)) (hn : n ≤ 100000) (hab : a < b) (hbn : b ≤ n)
    (hZ0 : ∀ j, j < n → w.cell? ⟨g, j, none⟩ = some (.int .i64 (Z j))) :
    Calls Try.prog 12 #[.pointer (some ⟨p, 0, none⟩), .int .i64 a, .int .i64 b] w fun e w' => e = .returned (.tuple #[.int .i64 (minZ Z a (b - 1 - a)), .int .i64 0]) ∧ w' = w := by
  have hZ : Hid (∀ j, j < n → w.cell? ⟨g, j, none⟩ = some (.int .i64 (Z j))) := hZ0
  clear hZ0
  have hca := hZ.out a (by omega)
  have hp : Hid (pieceB n a b = true) := pieceB_mk hab hbn
  go_enter Try.func12, Try.ntmps12
  go_wp2_with (go_at_call 40; refine (hasPiece_any p g n cap _ _ _ hc).mono ?_; rintro e w' ⟨rfl, rfl⟩; rw [hp.out])
  go_loop [8, 9] (fun m i => ∃ k : Nat, a < k ∧ k ≤ b ∧ i = .int .i64 k ∧ m = .int .i64 (minZ Z a (k - 1 - a))) (fun _ i => b - (intOf i).toNat)
  case atStart => exact ⟨a + 1, by omega, by omega, by go_num, by simp [minZ]⟩
  case round =>
    obtain ⟨k, hk1, hk2, rfl, rfl⟩ := hrel
    by_cases hlt : k < b
    · have hck := hZ.out k (by omega)
      have hs : Hid (minZ Z a (k + 1 - 1 - a) = if Z k < minZ Z a (k - 1 - a) then Z k else minZ Z a (k - 1 - a)) := by
        rw [show k + 1 - 1 - a = (k - 1 - a) + 1 by omega, minZ, show a + (k - 1 - a + 1) = k by omega]; exact rfl
      clear hca
      generalize minZ Z a (k - 1 - a) = m at *
      generalize Z k = z at *
      by_cases hz : z < m
      · go_wp2
        go_round
        case rel => exact ⟨k + 1, by omega, by omega, by go_num, by rw [hs.out, if_pos hz]⟩
        case measure => simp [intOf]; omega
      · go_wp2
        go_round
        case rel => exact ⟨k + 1, by omega, by omega, by go_num, by rw [hs.out, if_neg hz]⟩
        case measure => simp [intOf]; omega
    · go_wp2
      go_ret2
      exact ⟨ret_two (by rw [show k = b by omega]) rfl, rfl⟩

end Go.Proofs.Ytminceigjejipaa

namespace Go.Proofs.Ytminceigjejipaa
open Go.RowKit

theorem two_set {w : World} {q : Nat} {x y a b : Value} {T : TypeId} (h : w.heap[q]? = some (.cells #[x, y] T (0, 0))) :
    ((w.setCell ⟨q, 0, none⟩ a).setCell ⟨q, 1, none⟩ b).cell? ⟨q, 0, none⟩ = some a ∧ ((w.setCell ⟨q, 0, none⟩ a).setCell ⟨q, 1, none⟩ b).cell? ⟨q, 1, none⟩ = some b := by
  have h2 := box_set (f := 1) (box_set (f := 0) h a) b
  constructor
  · unfold World.cell?; rw [h2]; rfl
  · unfold World.cell?; rw [h2]; rfl

end Go.Proofs.Ytminceigjejipaa

namespace Go.Proofs.Ytminceigjejipaa
open Go.RowKit

theorem infoBool : (Try.prog.info? 4).map (fun i => (i.zero, i.size, i.bytes)) = some (some (.bool false), 1, 1) := by kernel_rfl
theorem infoInt' : (Try.prog.info? 3).map (fun i => (i.zero, i.size, i.bytes)) = some (some (.int .i64 0), 1, 8) := by kernel_rfl

theorem heap_at_new {w : World} {o : Obj} {n : Nat} (h : n = w.heap.size) : (w.alloc o).heap[n]? = some o := by
  subst h
  exact heap_alloc_new w o

theorem made_list (z : Value) (n : Nat) : (madeCells #[z] n).toList = List.replicate n z := by
  apply List.ext_getElem?
  intro i
  by_cases hi : i < n
  · simp [madeCells, hi, Nat.mod_one]
  · simp [madeCells, hi]

theorem foot_start {S D p x N : Nat} {nt : Nat} (h : (⟨.slice none 0 0, .slice none 0 0, .slice (some ⟨S, 0, none⟩) nt nt, .slice none 0 0, .slice (some ⟨D, 0, none⟩) nt nt, .slice none 0 0⟩ : MV).foot p x) (h1 : N < S) (h2 : N < D) (h3 : N < p) : N < x := by
  rcases h with h | h | h | h | h | h | h <;> first | omega | (simp [Value.ownBlock] at h; done) | (simp [Value.ownBlock] at h; omega)

end Go.Proofs.Ytminceigjejipaa
