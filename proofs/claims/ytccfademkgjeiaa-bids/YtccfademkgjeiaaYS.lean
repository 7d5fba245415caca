import Derived.Test.YtccfademkgjeiaaMkH
import Derived.Test.YtccfademkgjeiaaMkI
import Derived.Test.YtccfademkgjeiaaMkG0
import Derived.Test.YtccfademkgjeiaaMkJ
/-
  WHAT THE LAWS ASK OF THE PROGRAM's MARKET (stage 2): a predicate YAt ('at p lies a market that is m, in the blocks F') and a contract a call. Proved of the landed code elsewhere.
-/
namespace Go.Proofs.Ytccfademkgjeiaa
open Go.RowKit

def I64 (z : Int) : Prop := -9223372036854775808 ≤ z ∧ z ≤ 9223372036854775807

def LogRes (m : MkG) (z0 : Int) (m0 : MkG) (z : Int) (m' : MkG) : Prop := (m.log.length = 300 ∧ z = 2 ∧ m' = m) ∨ (m.log.length < 300 ∧ z = z0 ∧ m' = m0)
theorem LogRes.unique {m : MkG} {z0 : Int} {m0 : MkG} {z z2 : Int} {m1 m2 : MkG} (h : LogRes m z0 m0 z m1) (h2 : LogRes m z0 m0 z2 m2) : z = z2 ∧ m1 = m2 := by
  rcases h with ⟨a, rfl, rfl⟩ | ⟨a, rfl, rfl⟩ <;> rcases h2 with ⟨b, rfl, rfl⟩ | ⟨b, rfl, rfl⟩ <;> first | exact ⟨rfl, rfl⟩ | (exfalso; omega)
def SubmitRes (m : MkG) (ten ref : Int) (j : JobG) (z : Int) (m' : MkG) : Prop := LogRes m (submitE m ten ref j) (submitM m ten ref j) z m'
def CancelRes (m : MkG) (ten ref : Int) (z : Int) (m' : MkG) : Prop := LogRes m (cancelE m ten ref) (cancelM m ten ref) z m'
def SuspendRes (m : MkG) (ten : Int) (on : Bool) (z : Int) (m' : MkG) : Prop := LogRes m (suspendE m ten) (suspendM m ten on) z m'
def CapacityRes (m : MkG) (f t u : Int) (z : Int) (m' : MkG) : Prop := (m.log.length = 300 ∧ z = 2 ∧ m' = m) ∨ (m.log.length < 300 ∧ CapRes m f t u z m')
theorem CapRes.unique {m : MkG} {f t u z z2 : Int} {m1 m2 : MkG} (h : CapRes m f t u z m1) (h2 : CapRes m f t u z2 m2) : z = z2 ∧ m1 = m2 := by
  rcases h with ⟨a, rfl, rfl⟩ | ⟨a, b, rfl, rfl⟩ | ⟨a, b, rfl, rfl⟩ <;> rcases h2 with ⟨a2, rfl, rfl⟩ | ⟨a2, b2, rfl, rfl⟩ | ⟨a2, b2, rfl, rfl⟩ <;> first | exact ⟨rfl, rfl⟩ | (exfalso; simp_all; done)
theorem CapacityRes.unique {m : MkG} {f t u z z2 : Int} {m1 m2 : MkG} (h : CapacityRes m f t u z m1) (h2 : CapacityRes m f t u z2 m2) : z = z2 ∧ m1 = m2 := by
  rcases h with ⟨a, rfl, rfl⟩ | ⟨a, h⟩ <;> rcases h2 with ⟨b, rfl, rfl⟩ | ⟨b, h2⟩
  · exact ⟨rfl, rfl⟩
  · omega
  · omega
  · exact h.unique h2

def YTo (YAt : World → Nat → (Nat → Prop) → MkG → Prop) (w : World) (p : Nat) (F : Nat → Prop) (m' : MkG) (w' : World) : Prop :=
  ∃ F', YAt w' p F' m' ∧ Chg F w w' ∧ ∀ k, F' k → F k ∨ w.heap.size ≤ k

def cfgV (c : CfgG) : Value := .agg #[.int .i64 c.ticks, .int .i64 c.cap, .int .i64 c.res, .int .i64 c.ten, .int .i64 c.quo]
def jobV (j : JobG) : Value := .agg #[.int .i64 j.arr, .int .i64 j.dl, .int .i64 j.len, .int .i64 j.units, .int .i64 j.val]
def JobI64 (j : JobG) : Prop := I64 j.arr ∧ I64 j.dl ∧ I64 j.len ∧ I64 j.units ∧ I64 j.val

structure YardSpec (YAt : World → Nat → (Nat → Prop) → MkG → Prop) : Prop where
  lt : ∀ w p F m, YAt w p F m → ∀ k, F k → k < w.heap.size
  frame : ∀ w w' p F m, YAt w p F m → (∀ k, F k → w'.heap[k]? = w.heap[k]?) → YAt w' p F m
  open_bad : ∀ c w, cfgOk c = false → Calls Try.prog 41 #[cfgV c] w fun e w' => e = .returned (.tuple #[.pointer none, .int .i64 1]) ∧ Chg (fun _ => False) w w'
  open_ok : ∀ c w, cfgOk c = true → Calls Try.prog 41 #[cfgV c] w fun e w' => ∃ p F, e = .returned (.tuple #[.pointer (some ⟨p, 0, none⟩), .int .i64 0]) ∧ YAt w' p F (openM c) ∧ Chg (fun _ => False) w w' ∧ ∀ k, F k → w.heap.size ≤ k
  submit : ∀ w p F m ten ref j, YAt w p F m → MkOk m → I64 ten → I64 ref → JobI64 j → Calls Try.prog 44 #[.pointer (some ⟨p, 0, none⟩), .int .i64 ten, .int .i64 ref, jobV j] w fun e w' => ∃ z m', e = .returned (.int .i64 z) ∧ SubmitRes m ten ref j z m' ∧ YTo YAt w p F m' w'
  cancel : ∀ w p F m ten ref, YAt w p F m → MkOk m → I64 ten → I64 ref → Calls Try.prog 45 #[.pointer (some ⟨p, 0, none⟩), .int .i64 ten, .int .i64 ref] w fun e w' => ∃ z m', e = .returned (.int .i64 z) ∧ CancelRes m ten ref z m' ∧ YTo YAt w p F m' w'
  suspend : ∀ w p F m ten on, YAt w p F m → MkOk m → I64 ten → Calls Try.prog 46 #[.pointer (some ⟨p, 0, none⟩), .int .i64 ten, .bool on] w fun e w' => ∃ z m', e = .returned (.int .i64 z) ∧ SuspendRes m ten on z m' ∧ YTo YAt w p F m' w'
  capacity : ∀ w p F m f t u, YAt w p F m → MkOk m → I64 f → I64 t → I64 u → Calls Try.prog 47 #[.pointer (some ⟨p, 0, none⟩), .int .i64 f, .int .i64 t, .int .i64 u] w fun e w' => ∃ z m', e = .returned (.int .i64 z) ∧ CapacityRes m f t u z m' ∧ YTo YAt w p F m' w'
  now : ∀ w p F m, YAt w p F m → MkOk m → Calls Try.prog 22 #[.pointer (some ⟨p, 0, none⟩)] w fun e w' => e = .returned (.int .i64 m.time) ∧ YTo YAt w p F m w'
  left : ∀ w p F m, YAt w p F m → MkOk m → Calls Try.prog 90 #[.pointer (some ⟨p, 0, none⟩)] w fun e w' => e = .returned (.int .i64 (300 - (m.log.length : Int))) ∧ YTo YAt w p F m w'
  look : ∀ w p F m ten ref, YAt w p F m → MkOk m → I64 ten → I64 ref → Calls Try.prog 51 #[.pointer (some ⟨p, 0, none⟩), .int .i64 ten, .int .i64 ref] w fun e w' => e = .returned (.tuple #[.agg #[.int .i64 (lookS m ten ref), .int .i64 (lookT m ten ref)], .int .i64 (lookE m ten ref)]) ∧ YTo YAt w p F m w'
  free : ∀ w p F m t, YAt w p F m → MkOk m → I64 t → Calls Try.prog 53 #[.pointer (some ⟨p, 0, none⟩), .int .i64 t] w fun e w' => e = .returned (.tuple #[.int .i64 (freeV m t), .int .i64 (freeE m t)]) ∧ YTo YAt w p F m w'

/-! ### the document's calls, in the same words -/
theorem refSubmit_any (p : Nat) (V : MV) (m : MkG) (ten ref : Int) (j : JobG) (w : World) (hm : MktAt w p V m) (hok : MkOk m) :
    Calls Try.prog 86 #[.pointer (some ⟨p, 0, none⟩), .int .i64 ten, .int .i64 ref, jobV j] w fun e w' => ∃ z m', e = .returned (.int .i64 z) ∧ SubmitRes m ten ref j z m' ∧ MktTo w p V m' w' := by
  by_cases h : m.log.length = 300
  · exact (submit_full p V m ten ref j w hm h).mono (fun e w' ⟨he, ht⟩ => ⟨2, m, he, .inl ⟨h, rfl, rfl⟩, ht⟩)
  · have h' : m.log.length < 300 := by have := hok.nl; omega
    exact (submit_ok p V m ten ref j w hm hok h').mono (fun e w' ⟨he, ht⟩ => ⟨_, _, he, .inr ⟨h', rfl, rfl⟩, ht⟩)
theorem refCancel_any (p : Nat) (V : MV) (m : MkG) (ten ref : Int) (w : World) (hm : MktAt w p V m) (hok : MkOk m) :
    Calls Try.prog 87 #[.pointer (some ⟨p, 0, none⟩), .int .i64 ten, .int .i64 ref] w fun e w' => ∃ z m', e = .returned (.int .i64 z) ∧ CancelRes m ten ref z m' ∧ MktTo w p V m' w' := by
  by_cases h : m.log.length = 300
  · exact (cancel_full p V m ten ref w hm h).mono (fun e w' ⟨he, ht⟩ => ⟨2, m, he, .inl ⟨h, rfl, rfl⟩, ht⟩)
  · have h' : m.log.length < 300 := by have := hok.nl; omega
    exact (cancel_ok p V m ten ref w hm hok h').mono (fun e w' ⟨he, ht⟩ => ⟨_, _, he, .inr ⟨h', rfl, rfl⟩, ht⟩)
theorem refSuspend_any (p : Nat) (V : MV) (m : MkG) (ten : Int) (on : Bool) (w : World) (hm : MktAt w p V m) (hok : MkOk m) :
    Calls Try.prog 88 #[.pointer (some ⟨p, 0, none⟩), .int .i64 ten, .bool on] w fun e w' => ∃ z m', e = .returned (.int .i64 z) ∧ SuspendRes m ten on z m' ∧ MktTo w p V m' w' := by
  by_cases h : m.log.length = 300
  · exact (suspend_full p V m ten on w hm h).mono (fun e w' ⟨he, ht⟩ => ⟨2, m, he, .inl ⟨h, rfl, rfl⟩, ht⟩)
  · have h' : m.log.length < 300 := by have := hok.nl; omega
    exact (suspend_ok p V m ten on w hm hok h').mono (fun e w' ⟨he, ht⟩ => ⟨_, _, he, .inr ⟨h', rfl, rfl⟩, ht⟩)
theorem refCapacity_any (p : Nat) (V : MV) (m : MkG) (f t u : Int) (w : World) (hm : MktAt w p V m) (hok : MkOk m) :
    Calls Try.prog 89 #[.pointer (some ⟨p, 0, none⟩), .int .i64 f, .int .i64 t, .int .i64 u] w fun e w' => ∃ z m', e = .returned (.int .i64 z) ∧ CapacityRes m f t u z m' ∧ MktTo w p V m' w' := by
  by_cases h : m.log.length = 300
  · exact (capacity_full p V m f t u w hm h).mono (fun e w' ⟨he, ht⟩ => ⟨2, m, he, .inl ⟨h, rfl, rfl⟩, ht⟩)
  · have h' : m.log.length < 300 := by have := hok.nl; omega
    exact (capacity_ok p V m f t u w hm hok h').mono (fun e w' ⟨z, m', he, hr, ht⟩ => ⟨z, m', he, .inr ⟨h', hr⟩, ht⟩)

/-! ### MkOk goes on -/
theorem MkOk.logs {m : MkG} (h : MkOk m) (hl : m.log.length < 300) (c : CallG) : MkOk (m.logs c) :=
  ⟨h.ck, h.nu, h.ns, h.np, by simp [MkG.logs]; omega, by have := h.nb; simp [MkG.logs]; omega, h.t0, h.t1, h.un, h.bid⟩

theorem MkOk.submit {m : MkG} (h : MkOk m) {ten ref : Int} {j : JobG} {z : Int} {m' : MkG} (hr : SubmitRes m ten ref j z m') : MkOk m' := by
  rcases hr with ⟨_, _, rfl⟩ | ⟨hl, _, rfl⟩
  · exact h
  · have h1 := h.logs hl (callSubmit ten ref j)
    unfold submitM
    simp only
    split
    · rename_i he
      have hT : m.tenB ten = true := by
        cases hT : m.tenB ten
        · simp [submitE, hT] at he
        · rfl
      have hS : suspAt m ten = false := by
        cases hS : suspAt m ten
        · rfl
        · simp [submitE, hT, hS] at he
      have hR : refB m ten ref = false := by
        cases hR : refB m ten ref
        · rfl
        · simp [submitE, hT, hS, hR] at he
      have hJ : m.jobB j = true := by
        cases hJ : m.jobB j
        · simp [submitE, hT, hS, hR, hJ] at he
        · rfl
      obtain ⟨t0, t1⟩ := tenB_true hT
      simp only [MkG.jobB, Bool.and_eq_true, decide_eq_true_eq] at hJ
      simp [refB] at hR
      have hat : j.arr ≤ atOf m.time j := by
        unfold atOf
        split <;> omega
      refine ⟨h.ck, h.nu, h.ns, h.np, h1.nl, ?_, h.t0, h.t1, h.un, fun b hb => ?_⟩
      · have := h.nb
        simp [MkG.logs]
        omega
      · rcases List.mem_append.1 hb with hb | hb
        · exact h.bid b hb
        · simp at hb
          subst hb
          exact ⟨t0, t1, by simp only [newBid]; omega, by simp only [newBid]; omega, hJ.1, hat, hJ.2, by simp [newBid], by simp [newBid], by simp [newBid], by simp [newBid], by simp [newBid], by simp only [newBid]; omega⟩
    · exact h1

theorem MkOk.cancel {m : MkG} (h : MkOk m) {ten ref : Int} {z : Int} {m' : MkG} (hr : CancelRes m ten ref z m') : MkOk m' := by
  rcases hr with ⟨_, _, rfl⟩ | ⟨hl, _, rfl⟩
  · exact h
  · have h1 := h.logs hl (callCancel ten ref)
    unfold cancelM
    simp only
    split
    · refine ⟨h.ck, h.nu, h.ns, h.np, h1.nl, ?_, h.t0, h.t1, h.un, fun b hb => ?_⟩
      · have := h1.nb
        show (setState (m.logs (callCancel ten ref)).bids _ 3).length ≤ _
        unfold setState
        split
        · simpa using this
        · exact this
      · have hb' : b ∈ setState m.bids (findZ m.bids ten ref).toNat 3 := hb
        unfold setState at hb'
        split at hb'
        · rename_i b0 hb0
          rcases List.mem_or_eq_of_mem_set hb' with hb2 | rfl
          · exact h.bid b hb2
          · have ho := h.bid b0 (List.mem_of_getElem? hb0)
            exact ⟨ho.t0, ho.t1, ho.r0, ho.r1, ho.job, ho.a0, ho.a1, by simp, by simp, ho.st0, ho.st1, ho.e0, ho.e1⟩
        · exact h.bid b hb'
    · exact h1

theorem MkOk.suspend {m : MkG} (h : MkOk m) {ten : Int} {on : Bool} {z : Int} {m' : MkG} (hr : SuspendRes m ten on z m') : MkOk m' := by
  rcases hr with ⟨_, _, rfl⟩ | ⟨hl, _, rfl⟩
  · exact h
  · have h1 := h.logs hl (callSuspend ten on)
    unfold suspendM
    simp only
    split
    · exact ⟨h.ck, h.nu, by have := h.ns; simpa [MkG.logs] using this, h.np, h1.nl, h1.nb, h.t0, h.t1, h.un, h.bid⟩
    · exact h1

theorem MkOk.capacity {m : MkG} (h : MkOk m) {f t u : Int} {z : Int} {m' : MkG} (hr : CapacityRes m f t u z m') : MkOk m' := by
  rcases hr with ⟨_, _, rfl⟩ | ⟨hl, ⟨_, _, rfl⟩ | ⟨_, _, _, rfl⟩ | ⟨ha, _, _, rfl⟩⟩
  · exact h
  · exact h.logs hl _
  · exact h.logs hl _
  · have h1 := h.logs hl (callCapacity f t u)
    obtain ⟨_, _, _, g4, g5⟩ := capArg_false ha
    refine ⟨h.ck, by have := h.nu; simpa [MkG.logs] using this, h.ns, h.np, h1.nl, h1.nb, h.t0, h.t1, fun x hx => ?_, h.bid⟩
    simp only [List.mem_map, List.mem_range] at hx
    obtain ⟨i, hi, rfl⟩ := hx
    split
    · exact ⟨g4, g5⟩
    · exact h.un _ (by simp [List.getD, List.getElem?_eq_getElem hi])

theorem MkOk.open {c : CfgG} (h : cfgOk c = true) : MkOk (openM c) := by
  have hc := cfgOk_true h
  refine ⟨h, by simp [openM], by simp [openM], by simp [openM], by simp [openM], by simp [openM], by simp [openM], by simp [openM]; omega, fun u hu => ?_, fun b hb => by simp [openM] at hb⟩
  simp [openM] at hu
  omega
end Go.Proofs.Ytccfademkgjeiaa
