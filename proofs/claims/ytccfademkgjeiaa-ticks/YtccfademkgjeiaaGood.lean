import Derived.Test.YtccfademkgjeiaaTkO
import Derived.Test.YtccfademkgjeiaaYS
/-
  WHAT IS KEPT OF EVERY MARKET as the calls go by: GoodM. Nothing of the program. (While no price is asked: MkOk, and no ghost.)
-/
namespace Go.Proofs.Ytccfademkgjeiaa

theorem SubmitRes.ghost {m m' : MkG} {ten ref : Int} {j : JobG} {z : Int} (h : SubmitRes m ten ref j z m') : m'.ghost = m.ghost := by
  rcases h with ⟨_, _, rfl⟩ | ⟨_, _, rfl⟩
  · rfl
  · unfold submitM
    simp only
    split <;> rfl
theorem CancelRes.ghost {m m' : MkG} {ten ref : Int} {z : Int} (h : CancelRes m ten ref z m') : m'.ghost = m.ghost := by
  rcases h with ⟨_, _, rfl⟩ | ⟨_, _, rfl⟩
  · rfl
  · unfold cancelM
    simp only
    split <;> rfl
theorem SuspendRes.ghost {m m' : MkG} {ten : Int} {on : Bool} {z : Int} (h : SuspendRes m ten on z m') : m'.ghost = m.ghost := by
  rcases h with ⟨_, _, rfl⟩ | ⟨_, _, rfl⟩
  · rfl
  · unfold suspendM
    simp only
    split <;> rfl
theorem CapacityRes.ghost {m m' : MkG} {f t u : Int} {z : Int} (h : CapacityRes m f t u z m') : m'.ghost = m.ghost := by
  rcases h with ⟨_, _, rfl⟩ | ⟨_, ⟨_, _, rfl⟩ | ⟨_, _, _, rfl⟩ | ⟨_, _, _, rfl⟩⟩ <;> rfl

def GoodM (m : MkG) : Prop := MkOk m ∧ m.ghost = -1
section
variable {m m' : MkG} {z : Int}
theorem GoodM.ok (h : GoodM m) : MkOk m := h.1
theorem GoodM.ghost (h : GoodM m) : m.ghost = -1 := h.2
theorem GoodM.open {c : CfgG} (h : cfgOk c = true) : GoodM (openM c) := ⟨MkOk.open h, rfl⟩
theorem GoodM.submit (h : GoodM m) {ten ref : Int} {j : JobG} (hr : SubmitRes m ten ref j z m') : GoodM m' := ⟨h.1.submit hr, hr.ghost.trans h.2⟩
theorem GoodM.cancel (h : GoodM m) {ten ref : Int} (hr : CancelRes m ten ref z m') : GoodM m' := ⟨h.1.cancel hr, hr.ghost.trans h.2⟩
theorem GoodM.suspend (h : GoodM m) {ten : Int} {on : Bool} (hr : SuspendRes m ten on z m') : GoodM m' := ⟨h.1.suspend hr, hr.ghost.trans h.2⟩
theorem GoodM.capacity (h : GoodM m) {f t u : Int} (hr : CapacityRes m f t u z m') : GoodM m' := ⟨h.1.capacity hr, hr.ghost.trans h.2⟩
theorem GoodM.tick (h : GoodM m) {names : List (Int × Int)} (hr : TickRes m z names m') : GoodM m' := ⟨(h.1.tick hr).1, (h.1.tick hr).2.trans h.2⟩
end
end Go.Proofs.Ytccfademkgjeiaa
