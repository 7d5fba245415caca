import Derived.Test.YtminceigjejipaaG8
/-
  WHAT IS KEPT OF EVERY MARKET as the calls go by: GoodM, for the statements on prices: CashOk. Nothing of the program.
-/
namespace Go.Proofs.Ytminceigjejipaa

def GoodM (m : MkG) : Prop := CashOk m
section
variable {m m' : MkG} {z : Int}
theorem GoodM.cash (h : GoodM m) : CashOk m := h
theorem GoodM.ok (h : GoodM m) : MkOk m := CashOk.ok h
theorem GoodM.ghost (h : GoodM m) : m.ghost = -1 := (CashOk.hist h).ghost
theorem GoodM.open {c : CfgG} (h : cfgOk c = true) : GoodM (openM c) := CashOk.open h
theorem GoodM.submit (h : GoodM m) {ten ref : Int} {j : JobG} (hr : SubmitRes m ten ref j z m') : GoodM m' := by
  rcases hr with ⟨_, _, rfl⟩ | ⟨hl, _, rfl⟩
  · exact h
  · exact CashOk.submit h hl _ _ _
theorem GoodM.cancel (h : GoodM m) {ten ref : Int} (hr : CancelRes m ten ref z m') : GoodM m' := by
  rcases hr with ⟨_, _, rfl⟩ | ⟨hl, _, rfl⟩
  · exact h
  · exact CashOk.cancel h hl _ _
theorem GoodM.suspend (h : GoodM m) {ten : Int} {on : Bool} (hr : SuspendRes m ten on z m') : GoodM m' := by
  rcases hr with ⟨_, _, rfl⟩ | ⟨hl, _, rfl⟩
  · exact h
  · exact CashOk.suspend h hl _ _
theorem GoodM.capacity (h : GoodM m) {f t u : Int} (hr : CapacityRes m f t u z m') : GoodM m' := by
  rcases hr with ⟨_, _, rfl⟩ | ⟨hl, hr⟩
  · exact h
  · rw [hr.fn]
    exact CashOk.cap h hl _ _ _
theorem GoodM.tick (h : GoodM m) {names : List (Int × Int)} (hr : TickRes m z names m') : GoodM m' := by
  by_cases hl : m.log.length < 300
  · rw [hr.fn (CashOk.ok h) hl]
    exact CashOk.tick h hl
  · rcases hr with ⟨_, _, _, rfl⟩ | ⟨a, _⟩ | ⟨a, _⟩
    · exact h
    · omega
    · omega
end
end Go.Proofs.Ytminceigjejipaa

namespace Go.Proofs.Ytminceigjejipaa
open Go.RowKit

section
variable (YAt : World → Nat → (Nat → Prop) → MkG → Prop)

end

/-- the two boxes of 'bid' and 'looked' -/
structure Bx (w : World) (q y r : Nat) (a b c d : Int) (j : JobG) : Prop where
  y : w.cell? ⟨q, 0, none⟩ = some (.pointer (some ⟨y, 0, none⟩))
  r : w.cell? ⟨q, 1, none⟩ = some (.pointer (some ⟨r, 0, none⟩))
  b : w.cell? ⟨q + 1, 2, none⟩ = some (.int .i64 b)
  c : w.cell? ⟨q + 1, 3, none⟩ = some (.int .i64 c)
  d : w.cell? ⟨q + 1, 4, none⟩ = some (.int .i64 d)
  j0 : w.cell? ⟨q + 1, 5, none⟩ = some (.int .i64 j.arr)
  j1 : w.cell? ⟨q + 1, 6, none⟩ = some (.int .i64 j.dl)
  j2 : w.cell? ⟨q + 1, 7, none⟩ = some (.int .i64 j.len)
  j3 : w.cell? ⟨q + 1, 8, none⟩ = some (.int .i64 j.units)
  j4 : w.cell? ⟨q + 1, 9, none⟩ = some (.int .i64 j.val)
  lt : q + 1 < w.heap.size

theorem Bx.chg {w w' : World} {O : Nat → Prop} {q y r : Nat} {a b c d : Int} {j : JobG} (h : Bx w q y r a b c d j) (hc : Chg O w w') (hO : ∀ k, O k → k < q) : Bx w' q y r a b c d j := by
  have hl := h.lt
  have e0 : ∀ f, w'.cell? ⟨q, f, none⟩ = w.cell? ⟨q, f, none⟩ := fun f => hc.cell (by show q < _; omega) (fun hx => by have := hO _ hx; simp at this)
  have e1 : ∀ f, w'.cell? ⟨q + 1, f, none⟩ = w.cell? ⟨q + 1, f, none⟩ := fun f => hc.cell (by show q + 1 < _; omega) (fun hx => by have := hO _ hx; simp at this; omega)
  exact ⟨(e0 0).trans h.y, (e0 1).trans h.r, (e1 2).trans h.b, (e1 3).trans h.c, (e1 4).trans h.d, (e1 5).trans h.j0, (e1 6).trans h.j1, (e1 7).trans h.j2, (e1 8).trans h.j3, (e1 9).trans h.j4, Nat.lt_of_lt_of_le h.lt hc.size⟩

end Go.Proofs.Ytminceigjejipaa
