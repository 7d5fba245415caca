import Derived.Test.YtminceigjejipaaG4
import Derived.Test.YtminceigjejipaaG3
import Derived.Deep.LoopGhost
namespace Go.Proofs.Ytminceigjejipaa
open Go.RowKit

/-- the ghost's place, as a number -/
def ghostZ (m : MkG) (t : Int) : Int := match ghostI m t with | some i => i | none => -1
theorem ghostZ_none {m : MkG} {t : Int} (h : ∀ (i : Nat) (b : BidG), m.bids[i]? = some b → (b.openB m t && (b.entry == m.ghost)) = false) : ghostI m t = none := by
  unfold ghostI
  rw [List.findIdx?_eq_none_iff]
  intro x hx
  obtain ⟨i, hi⟩ := List.getElem?_of_mem hx
  exact h i x hi
theorem ghostZ_some {m : MkG} {t : Int} {k : Nat} {b : BidG} (hb : m.bids[k]? = some b) (hk : (b.openB m t && (b.entry == m.ghost)) = true) (h : ∀ (i : Nat) (b : BidG), i < k → m.bids[i]? = some b → (b.openB m t && (b.entry == m.ghost)) = false) : ghostI m t = some k := by
  have hkl := (List.getElem?_eq_some_iff.1 hb)
  unfold ghostI
  rw [List.findIdx?_eq_some_iff_getElem.2 ⟨hkl.1, by rw [hkl.2]; exact hk, fun j hj => by rw [h j _ hj (List.getElem?_eq_getElem (by have := hkl.1; omega))]; simp⟩]

end Go.Proofs.Ytminceigjejipaa

namespace Go.Proofs.Ytminceigjejipaa
open Go.RowKit

theorem jobAt_eq {m : MkG} {i : Nat} {b : BidG} (h : m.bids[i]? = some b) : jobAt m i = b.job := by
  unfold jobAt
  rw [h]

theorem wantM_need {m : MkG} {g : Nat} {v : Int} (h : m.need = 0 ∨ wantV m g v < m.need) : wantM m g v = { m with need := wantV m g v } := by rw [wantM, if_pos h]
theorem wantM_same {m : MkG} {g : Nat} {v : Int} (h : ¬ (m.need = 0 ∨ wantV m g v < m.need)) : wantM m g v = m := by rw [wantM, if_neg h]

end Go.Proofs.Ytminceigjejipaa

namespace Go.Proofs.Ytminceigjejipaa
open Go.RowKit

def nameCells (x : Int × Int) : List Value := [.int .i64 x.1, .int .i64 x.2]
theorem infoName : (Try.prog.info? 90).map (fun i => (i.zero, i.size, i.bytes)) = some (some (.agg #[.int .i64 0, .int .i64 0]), 2, 16) := by kernel_rfl

section
variable {w1 wr w' : World} {p : Nat} {V : MV} {L n : Nat} {m : MkG} {out : List (Int × Int)} {done : List Nat} {ov : Value}
end

theorem ownsRow_form {w : World} {base : Nat} {e : TypeId} {size n : Nat} {v : Value} {xs : List Value} (h : w.ownsRow base e size v n xs) : ∃ ao cap, v = .slice ao n cap := by
  rcases h.2 with ⟨hv, h0⟩ | ⟨g, cap, cur, hv, _⟩
  · exact ⟨none, 0, by rw [hv, h0]⟩
  · exact ⟨_, cap, hv⟩

/-- how many are not in a list -/
def remL (n : Nat) (d : List Nat) : Nat := (List.range n).countP fun j => !inL d j
theorem remL_succ (n : Nat) (d : List Nat) : remL (n + 1) d = remL n d + if inL d n then 0 else 1 := by
  simp only [remL, List.range_succ, List.countP_append, List.countP_cons, List.countP_nil]
  cases inL d n <;> simp
theorem remL_le (n i : Nat) (d : List Nat) : remL n (d ++ [i]) ≤ remL n d := by
  induction n with
  | zero => simp [remL]
  | succ n ih =>
    rw [remL_succ, remL_succ]
    by_cases h : n ∈ d
    · simp [inL, h]; exact ih
    · by_cases e : n = i
      · simp [inL, e]; subst e; omega
      · simp [inL, h, e]; exact ih
theorem remL_lt {n i : Nat} {d : List Nat} (hi : i < n) (hd : i ∉ d) : remL n (d ++ [i]) < remL n d := by
  induction n with
  | zero => omega
  | succ n ih =>
    rw [remL_succ, remL_succ]
    by_cases e : n = i
    · subst e
      have := remL_le n n d
      simp [inL, hd]
      omega
    · have := ih (by omega)
      by_cases h : n ∈ d
      · simp [inL, h]; exact this
      · simp [inL, h, e]; exact this

/-- the first k bids looked at: which have expired -/
def expTo (l : List BidG) (k : Nat) (now : Int) : List BidG := l.mapIdx fun i b => if i < k then b.expire now else b
theorem expTo_get (l : List BidG) (k : Nat) (now : Int) : (expTo l k now)[k]? = l[k]? := by
  simp [expTo]
theorem expTo_len (l : List BidG) (k : Nat) (now : Int) : (expTo l k now).length = l.length := by simp [expTo]
theorem expTo_zero (l : List BidG) (now : Int) : expTo l 0 now = l := by
  apply List.ext_getElem?
  intro i
  simp [expTo]
theorem expTo_all (l : List BidG) (now : Int) : expTo l l.length now = l.map fun b => b.expire now := by
  apply List.ext_getElem?
  intro i
  by_cases hi : i < l.length
  · simp [expTo, hi]
  · simp [expTo, hi]
theorem expTo_succ {l : List BidG} {k : Nat} {now : Int} {b : BidG} (hb : l[k]? = some b) : expTo l (k + 1) now = (expTo l k now).set k (b.expire now) := by
  apply List.ext_getElem?
  intro i
  rw [List.getElem?_set]
  by_cases e : k = i
  · subst e
    have hl := (List.getElem?_eq_some_iff.1 hb).1
    rw [if_pos rfl, if_pos (by rw [expTo_len]; exact hl)]
    simp [expTo, hb]
  · rw [if_neg e]
    simp only [expTo, List.getElem?_mapIdx]
    cases l[i]? with
    | none => rfl
    | some x =>
      simp only [Option.map_some]
      have hik : (i < k + 1) ↔ (i < k) := ⟨fun h => by omega, fun h => by omega⟩
      simp only [hik]
theorem expTo_same {l : List BidG} {k : Nat} {now : Int} {b : BidG} (hb : l[k]? = some b) (he : b.expire now = b) : expTo l (k + 1) now = expTo l k now := by
  rw [expTo_succ hb, he]
  apply List.ext_getElem?
  intro i
  rw [List.getElem?_set]
  by_cases e : k = i
  · subst e
    have hl := (List.getElem?_eq_some_iff.1 hb).1
    rw [if_pos rfl, if_pos (by rw [expTo_len]; exact hl), expTo_get, hb]
  · rw [if_neg e]
theorem MkOk.exp {m : MkG} (h : MkOk m) (k : Nat) (now : Int) : ∀ b ∈ expTo m.bids k now, BidOk m.c b := by
  intro b hb
  obtain ⟨i, hi⟩ := List.getElem?_of_mem hb
  simp only [expTo, List.getElem?_mapIdx] at hi
  cases h2 : m.bids[i]? with
  | none => rw [h2] at hi; simp at hi
  | some x =>
    rw [h2] at hi
    simp only [Option.map_some, Option.some.injEq] at hi
    have hx := h.bid x (List.mem_of_getElem? h2)
    rw [← hi]
    split
    · exact BidG.expire_ok hx _
    · exact hx
end Go.Proofs.Ytminceigjejipaa

namespace Go.Proofs.Ytminceigjejipaa
open Go.RowKit

end Go.Proofs.Ytminceigjejipaa

/-
  WHAT THE LAWS ASK OF THE PROGRAM's MARKET (stage 2): a predicate YAt ('at p lies a market that is m, in the blocks F') and a contract a call. Proved of the landed code elsewhere.
-/
namespace Go.Proofs.Ytminceigjejipaa
open Go.RowKit

def I64 (z : Int) : Prop := -9223372036854775808 ≤ z ∧ z ≤ 9223372036854775807

def LogRes (m : MkG) (z0 : Int) (m0 : MkG) (z : Int) (m' : MkG) : Prop := (m.log.length = 300 ∧ z = 2 ∧ m' = m) ∨ (m.log.length < 300 ∧ z = z0 ∧ m' = m0)
theorem LogRes.unique {m : MkG} {z0 : Int} {m0 : MkG} {z z2 : Int} {m1 m2 : MkG} (h : LogRes m z0 m0 z m1) (h2 : LogRes m z0 m0 z2 m2) : z = z2 ∧ m1 = m2 := by
  rcases h with ⟨a, rfl, rfl⟩ | ⟨a, rfl, rfl⟩ <;> rcases h2 with ⟨b, rfl, rfl⟩ | ⟨b, rfl, rfl⟩ <;> first | exact ⟨rfl, rfl⟩ | (exfalso; omega)
def SubmitRes (m : MkG) (ten ref : Int) (j : JobG) (z : Int) (m' : MkG) : Prop := LogRes m (submitE m ten ref j) (submitM m ten ref j) z m'
def CancelRes (m : MkG) (ten ref : Int) (z : Int) (m' : MkG) : Prop := LogRes m (cancelE m ten ref) (cancelM m ten ref) z m'
def SuspendRes (m : MkG) (ten : Int) (on : Bool) (z : Int) (m' : MkG) : Prop := LogRes m (suspendE m ten) (suspendM m ten on) z m'
def CapacityRes (m : MkG) (f t u : Int) (z : Int) (m' : MkG) : Prop := (m.log.length = 300 ∧ z = 2 ∧ m' = m) ∨ (m.log.length < 300 ∧ CapRes m f t u z m')
theorem CapRes.unique {m : MkG} {f t u z z2 : Int} {m1 m2 : MkG} (h : CapRes m f t u z m1) (h2 : CapRes m f t u z2 m2) : z = z2 ∧ m1 = m2 := by
  rcases h with ⟨a, rfl, rfl⟩ | ⟨a, b, rfl, rfl⟩ | ⟨a, b, rfl, rfl⟩ <;> rcases h2 with ⟨a2, rfl, rfl⟩ | ⟨a2, b2, rfl, rfl⟩ | ⟨a2, b2, rfl, rfl⟩ <;> first | exact ⟨rfl, rfl⟩ | (exfalso; simp_all; done)
theorem CapacityRes.unique {m : MkG} {f t u z z2 : Int} {m1 m2 : MkG} (h : CapacityRes m f t u z m1) (h2 : CapacityRes m f t u z2 m2) : z = z2 ∧ m1 = m2 := by
  rcases h with ⟨a, rfl, rfl⟩ | ⟨a, h⟩ <;> rcases h2 with ⟨b, rfl, rfl⟩ | ⟨b, h2⟩
  · exact ⟨rfl, rfl⟩
  · omega
  · omega
  · exact h.unique h2

def YTo (YAt : World → Nat → (Nat → Prop) → MkG → Prop) (w : World) (p : Nat) (F : Nat → Prop) (m' : MkG) (w' : World) : Prop :=
  ∃ F', YAt w' p F' m' ∧ Chg F w w' ∧ ∀ k, F' k → F k ∨ w.heap.size ≤ k

def cfgV (c : CfgG) : Value := .agg #[.int .i64 c.ticks, .int .i64 c.cap, .int .i64 c.res, .int .i64 c.ten, .int .i64 c.quo]
def jobV (j : JobG) : Value := .agg #[.int .i64 j.arr, .int .i64 j.dl, .int .i64 j.len, .int .i64 j.units, .int .i64 j.val]
def JobI64 (j : JobG) : Prop := I64 j.arr ∧ I64 j.dl ∧ I64 j.len ∧ I64 j.units ∧ I64 j.val

structure YardSpec (YAt : World → Nat → (Nat → Prop) → MkG → Prop) : Prop where
  lt : ∀ w p F m, YAt w p F m → ∀ k, F k → k < w.heap.size
  frame : ∀ w w' p F m, YAt w p F m → (∀ k, F k → w'.heap[k]? = w.heap[k]?) → YAt w' p F m
  open_bad : ∀ c w, cfgOk c = false → Calls Try.prog 42 #[cfgV c] w fun e w' => e = .returned (.tuple #[.pointer none, .int .i64 1]) ∧ Chg (fun _ => False) w w'
  open_ok : ∀ c w, cfgOk c = true → Calls Try.prog 42 #[cfgV c] w fun e w' => ∃ p F, e = .returned (.tuple #[.pointer (some ⟨p, 0, none⟩), .int .i64 0]) ∧ YAt w' p F (openM c) ∧ Chg (fun _ => False) w w' ∧ ∀ k, F k → w.heap.size ≤ k
  submit : ∀ w p F m ten ref j, YAt w p F m → MkOk m → I64 ten → I64 ref → JobI64 j → Calls Try.prog 45 #[.pointer (some ⟨p, 0, none⟩), .int .i64 ten, .int .i64 ref, jobV j] w fun e w' => ∃ z m', e = .returned (.int .i64 z) ∧ SubmitRes m ten ref j z m' ∧ YTo YAt w p F m' w'
  cancel : ∀ w p F m ten ref, YAt w p F m → MkOk m → I64 ten → I64 ref → Calls Try.prog 46 #[.pointer (some ⟨p, 0, none⟩), .int .i64 ten, .int .i64 ref] w fun e w' => ∃ z m', e = .returned (.int .i64 z) ∧ CancelRes m ten ref z m' ∧ YTo YAt w p F m' w'
  suspend : ∀ w p F m ten on, YAt w p F m → MkOk m → I64 ten → Calls Try.prog 47 #[.pointer (some ⟨p, 0, none⟩), .int .i64 ten, .bool on] w fun e w' => ∃ z m', e = .returned (.int .i64 z) ∧ SuspendRes m ten on z m' ∧ YTo YAt w p F m' w'
  capacity : ∀ w p F m f t u, YAt w p F m → MkOk m → I64 f → I64 t → I64 u → Calls Try.prog 48 #[.pointer (some ⟨p, 0, none⟩), .int .i64 f, .int .i64 t, .int .i64 u] w fun e w' => ∃ z m', e = .returned (.int .i64 z) ∧ CapacityRes m f t u z m' ∧ YTo YAt w p F m' w'
  now : ∀ w p F m, YAt w p F m → MkOk m → Calls Try.prog 17 #[.pointer (some ⟨p, 0, none⟩)] w fun e w' => e = .returned (.int .i64 m.time) ∧ YTo YAt w p F m w'
  look : ∀ w p F m ten ref, YAt w p F m → MkOk m → I64 ten → I64 ref → Calls Try.prog 23 #[.pointer (some ⟨p, 0, none⟩), .int .i64 ten, .int .i64 ref] w fun e w' => e = .returned (.tuple #[.agg #[.int .i64 (lookS m ten ref), .int .i64 (lookT m ten ref)], .int .i64 (lookE m ten ref)]) ∧ YTo YAt w p F m w'
  free : ∀ w p F m t, YAt w p F m → MkOk m → I64 t → Calls Try.prog 53 #[.pointer (some ⟨p, 0, none⟩), .int .i64 t] w fun e w' => e = .returned (.tuple #[.int .i64 (freeV m t), .int .i64 (freeE m t)]) ∧ YTo YAt w p F m w'

/-! ### the document's calls, in the same words -/
/-! ### MkOk goes on -/
theorem MkOk.logs {m : MkG} (h : MkOk m) (hl : m.log.length < 300) (c : CallG) : MkOk (m.logs c) :=
  ⟨h.ck, h.nu, h.ns, h.np, by simp [MkG.logs]; omega, by have := h.nb; simp [MkG.logs]; omega, h.t0, h.t1, h.un, h.bid⟩

theorem MkOk.submit {m : MkG} (h : MkOk m) {ten ref : Int} {j : JobG} {z : Int} {m' : MkG} (hr : SubmitRes m ten ref j z m') : MkOk m' := by
  rcases hr with ⟨_, _, rfl⟩ | ⟨hl, _, rfl⟩
  · exact h
  · have h1 := h.logs hl (callSubmit ten ref j)
    unfold submitM
    simp only
    split
    · rename_i he
      have hT : m.tenB ten = true := by
        cases hT : m.tenB ten
        · simp [submitE, hT] at he
        · rfl
      have hS : suspAt m ten = false := by
        cases hS : suspAt m ten
        · rfl
        · simp [submitE, hT, hS] at he
      have hR : refB m ten ref = false := by
        cases hR : refB m ten ref
        · rfl
        · simp [submitE, hT, hS, hR] at he
      have hJ : m.jobB j = true := by
        cases hJ : m.jobB j
        · simp [submitE, hT, hS, hR, hJ] at he
        · rfl
      obtain ⟨t0, t1⟩ := tenB_true hT
      simp only [MkG.jobB, Bool.and_eq_true, decide_eq_true_eq] at hJ
      simp [refB] at hR
      have hat : j.arr ≤ atOf m.time j := by
        unfold atOf
        split <;> omega
      refine ⟨h.ck, h.nu, h.ns, h.np, h1.nl, ?_, h.t0, h.t1, h.un, fun b hb => ?_⟩
      · have := h.nb
        simp [MkG.logs]
        omega
      · rcases List.mem_append.1 hb with hb | hb
        · exact h.bid b hb
        · simp at hb
          subst hb
          exact ⟨t0, t1, by simp only [newBid]; omega, by simp only [newBid]; omega, hJ.1, hat, hJ.2, by simp [newBid], by simp [newBid], by simp [newBid], by simp [newBid], by simp [newBid], by simp only [newBid]; omega⟩
    · exact h1

theorem MkOk.cancel {m : MkG} (h : MkOk m) {ten ref : Int} {z : Int} {m' : MkG} (hr : CancelRes m ten ref z m') : MkOk m' := by
  rcases hr with ⟨_, _, rfl⟩ | ⟨hl, _, rfl⟩
  · exact h
  · have h1 := h.logs hl (callCancel ten ref)
    unfold cancelM
    simp only
    split
    · refine ⟨h.ck, h.nu, h.ns, h.np, h1.nl, ?_, h.t0, h.t1, h.un, fun b hb => ?_⟩
      · have := h1.nb
        show (setState (m.logs (callCancel ten ref)).bids _ 3).length ≤ _
        unfold setState
        split
        · simpa using this
        · exact this
      · have hb' : b ∈ setState m.bids (findZ m.bids ten ref).toNat 3 := hb
        unfold setState at hb'
        split at hb'
        · rename_i b0 hb0
          rcases List.mem_or_eq_of_mem_set hb' with hb2 | rfl
          · exact h.bid b hb2
          · have ho := h.bid b0 (List.mem_of_getElem? hb0)
            exact ⟨ho.t0, ho.t1, ho.r0, ho.r1, ho.job, ho.a0, ho.a1, by simp, by simp, ho.st0, ho.st1, ho.e0, ho.e1⟩
        · exact h.bid b hb'
    · exact h1

theorem MkOk.suspend {m : MkG} (h : MkOk m) {ten : Int} {on : Bool} {z : Int} {m' : MkG} (hr : SuspendRes m ten on z m') : MkOk m' := by
  rcases hr with ⟨_, _, rfl⟩ | ⟨hl, _, rfl⟩
  · exact h
  · have h1 := h.logs hl (callSuspend ten on)
    unfold suspendM
    simp only
    split
    · exact ⟨h.ck, h.nu, by have := h.ns; simpa [MkG.logs] using this, h.np, h1.nl, h1.nb, h.t0, h.t1, h.un, h.bid⟩
    · exact h1

theorem MkOk.capacity {m : MkG} (h : MkOk m) {f t u : Int} {z : Int} {m' : MkG} (hr : CapacityRes m f t u z m') : MkOk m' := by
  rcases hr with ⟨_, _, rfl⟩ | ⟨hl, ⟨_, _, rfl⟩ | ⟨_, _, _, rfl⟩ | ⟨ha, _, _, rfl⟩⟩
  · exact h
  · exact h.logs hl _
  · exact h.logs hl _
  · have h1 := h.logs hl (callCapacity f t u)
    obtain ⟨_, _, _, g4, g5⟩ := capArg_false ha
    refine ⟨h.ck, by have := h.nu; simpa [MkG.logs] using this, h.ns, h.np, h1.nl, h1.nb, h.t0, h.t1, fun x hx => ?_, h.bid⟩
    simp only [List.mem_map, List.mem_range] at hx
    obtain ⟨i, hi, rfl⟩ := hx
    split
    · exact ⟨g4, g5⟩
    · exact h.un _ (by simp [List.getD, List.getElem?_eq_getElem hi])

theorem MkOk.open {c : CfgG} (h : cfgOk c = true) : MkOk (openM c) := by
  have hc := cfgOk_true h
  refine ⟨h, by simp [openM], by simp [openM], by simp [openM], by simp [openM], by simp [openM], by simp [openM], by simp [openM]; omega, fun u hu => ?_, fun b hb => by simp [openM] at hb⟩
  simp [openM] at hu
  omega
end Go.Proofs.Ytminceigjejipaa

namespace Go.Proofs.Ytminceigjejipaa
open Go.RowKit

theorem startM_eq {m : MkG} {i : Nat} {b : BidG} (h : m.bids[i]? = some b) (t : Int) : startM m i t = { m with bids := m.bids.set i { b with state := 2, start := t } } := by
  unfold startM
  rw [h]

end Go.Proofs.Ytminceigjejipaa

namespace Go.Proofs.Ytminceigjejipaa
open Go.RowKit

end Go.Proofs.Ytminceigjejipaa
