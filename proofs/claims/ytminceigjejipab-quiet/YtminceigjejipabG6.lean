import Derived.Test.YtminceigjejipabG3
import Derived.Deep.OwnRows
import Derived.Test.YtminceigjejipabG4
import Derived.Test.YtminceigjejipabG5
namespace Go.Proofs.Ytminceigjejipab
open Go.RowKit

theorem infoBool : (Try.prog.info? 4).map (fun i => (i.zero, i.size, i.bytes)) = some (some (.bool false), 1, 1) := by kernel_rfl
theorem infoInt' : (Try.prog.info? 3).map (fun i => (i.zero, i.size, i.bytes)) = some (some (.int .i64 0), 1, 8) := by kernel_rfl

theorem heap_at_new {w : World} {o : Obj} {n : Nat} (h : n = w.heap.size) : (w.alloc o).heap[n]? = some o := by
  subst h
  exact heap_alloc_new w o

theorem made_list (z : Value) (n : Nat) : (madeCells #[z] n).toList = List.replicate n z := by
  apply List.ext_getElem?
  intro i
  by_cases hi : i < n
  · simp [madeCells, hi, Nat.mod_one]
  · simp [madeCells, hi]

theorem foot_start {S D p x N : Nat} {nt : Nat} (h : (⟨.slice none 0 0, .slice none 0 0, .slice (some ⟨S, 0, none⟩) nt nt, .slice none 0 0, .slice (some ⟨D, 0, none⟩) nt nt, .slice none 0 0⟩ : MV).foot p x) (h1 : N < S) (h2 : N < D) (h3 : N < p) : N < x := by
  rcases h with h | h | h | h | h | h | h <;> first | omega | (simp [Value.ownBlock] at h; done) | (simp [Value.ownBlock] at h; omega)

end Go.Proofs.Ytminceigjejipab

namespace Go.Proofs.Ytminceigjejipab
open Go.RowKit

def nameCells (x : Int × Int) : List Value := [.int .i64 x.1, .int .i64 x.2]
theorem infoName : (Try.prog.info? 65).map (fun i => (i.zero, i.size, i.bytes)) = some (some (.agg #[.int .i64 0, .int .i64 0]), 2, 16) := by kernel_rfl

section
variable {w1 wr w' : World} {p : Nat} {V : MV} {L n : Nat} {m : MkG} {out : List (Int × Int)} {done : List Nat} {ov : Value}
end

theorem ownsRow_form {w : World} {base : Nat} {e : TypeId} {size n : Nat} {v : Value} {xs : List Value} (h : w.ownsRow base e size v n xs) : ∃ ao cap, v = .slice ao n cap := by
  rcases h.2 with ⟨hv, h0⟩ | ⟨g, cap, cur, hv, _⟩
  · exact ⟨none, 0, by rw [hv, h0]⟩
  · exact ⟨_, cap, hv⟩

/-- how many are not in a list -/
def remL (n : Nat) (d : List Nat) : Nat := (List.range n).countP fun j => !inL d j
theorem remL_succ (n : Nat) (d : List Nat) : remL (n + 1) d = remL n d + if inL d n then 0 else 1 := by
  simp only [remL, List.range_succ, List.countP_append, List.countP_cons, List.countP_nil]
  cases inL d n <;> simp
theorem remL_le (n i : Nat) (d : List Nat) : remL n (d ++ [i]) ≤ remL n d := by
  induction n with
  | zero => simp [remL]
  | succ n ih =>
    rw [remL_succ, remL_succ]
    by_cases h : n ∈ d
    · simp [inL, h]; exact ih
    · by_cases e : n = i
      · simp [inL, e]; subst e; omega
      · simp [inL, h, e]; exact ih
theorem remL_lt {n i : Nat} {d : List Nat} (hi : i < n) (hd : i ∉ d) : remL n (d ++ [i]) < remL n d := by
  induction n with
  | zero => omega
  | succ n ih =>
    rw [remL_succ, remL_succ]
    by_cases e : n = i
    · subst e
      have := remL_le n n d
      simp [inL, hd]
      omega
    · have := ih (by omega)
      by_cases h : n ∈ d
      · simp [inL, h]; exact this
      · simp [inL, h, e]; exact this

/-- the first k bids looked at: which have expired -/
def expTo (l : List BidG) (k : Nat) (now : Int) : List BidG := l.mapIdx fun i b => if i < k then b.expire now else b
theorem expTo_get (l : List BidG) (k : Nat) (now : Int) : (expTo l k now)[k]? = l[k]? := by
  simp [expTo]
theorem expTo_len (l : List BidG) (k : Nat) (now : Int) : (expTo l k now).length = l.length := by simp [expTo]
theorem expTo_zero (l : List BidG) (now : Int) : expTo l 0 now = l := by
  apply List.ext_getElem?
  intro i
  simp [expTo]
theorem expTo_all (l : List BidG) (now : Int) : expTo l l.length now = l.map fun b => b.expire now := by
  apply List.ext_getElem?
  intro i
  by_cases hi : i < l.length
  · simp [expTo, hi]
  · simp [expTo, hi]
theorem expTo_succ {l : List BidG} {k : Nat} {now : Int} {b : BidG} (hb : l[k]? = some b) : expTo l (k + 1) now = (expTo l k now).set k (b.expire now) := by
  apply List.ext_getElem?
  intro i
  rw [List.getElem?_set]
  by_cases e : k = i
  · subst e
    have hl := (List.getElem?_eq_some_iff.1 hb).1
    rw [if_pos rfl, if_pos (by rw [expTo_len]; exact hl)]
    simp [expTo, hb]
  · rw [if_neg e]
    simp only [expTo, List.getElem?_mapIdx]
    cases l[i]? with
    | none => rfl
    | some x =>
      simp only [Option.map_some]
      have hik : (i < k + 1) ↔ (i < k) := ⟨fun h => by omega, fun h => by omega⟩
      simp only [hik]
theorem expTo_same {l : List BidG} {k : Nat} {now : Int} {b : BidG} (hb : l[k]? = some b) (he : b.expire now = b) : expTo l (k + 1) now = expTo l k now := by
  rw [expTo_succ hb, he]
  apply List.ext_getElem?
  intro i
  rw [List.getElem?_set]
  by_cases e : k = i
  · subst e
    have hl := (List.getElem?_eq_some_iff.1 hb).1
    rw [if_pos rfl, if_pos (by rw [expTo_len]; exact hl), expTo_get, hb]
  · rw [if_neg e]
theorem MkOk.exp {m : MkG} (h : MkOk m) (k : Nat) (now : Int) : ∀ b ∈ expTo m.bids k now, BidOk m.c b := by
  intro b hb
  obtain ⟨i, hi⟩ := List.getElem?_of_mem hb
  simp only [expTo, List.getElem?_mapIdx] at hi
  cases h2 : m.bids[i]? with
  | none => rw [h2] at hi; simp at hi
  | some x =>
    rw [h2] at hi
    simp only [Option.map_some, Option.some.injEq] at hi
    have hx := h.bid x (List.mem_of_getElem? h2)
    rw [← hi]
    split
    · exact BidG.expire_ok hx _
    · exact hx
end Go.Proofs.Ytminceigjejipab

namespace Go.Proofs.Ytminceigjejipab
open Go.RowKit

end Go.Proofs.Ytminceigjejipab

/-
  WHAT THE LAWS ASK OF THE PROGRAM's MARKET (stage 2): a predicate YAt ('at p lies a market that is m, in the blocks F') and a contract a call. Proved of the landed code elsewhere.
-/
namespace Go.Proofs.Ytminceigjejipab
open Go.RowKit

def I64 (z : Int) : Prop := -9223372036854775808 ≤ z ∧ z ≤ 9223372036854775807

def LogRes (m : MkG) (z0 : Int) (m0 : MkG) (z : Int) (m' : MkG) : Prop := (m.log.length = 300 ∧ z = 2 ∧ m' = m) ∨ (m.log.length < 300 ∧ z = z0 ∧ m' = m0)
theorem LogRes.unique {m : MkG} {z0 : Int} {m0 : MkG} {z z2 : Int} {m1 m2 : MkG} (h : LogRes m z0 m0 z m1) (h2 : LogRes m z0 m0 z2 m2) : z = z2 ∧ m1 = m2 := by
  rcases h with ⟨a, rfl, rfl⟩ | ⟨a, rfl, rfl⟩ <;> rcases h2 with ⟨b, rfl, rfl⟩ | ⟨b, rfl, rfl⟩ <;> first | exact ⟨rfl, rfl⟩ | (exfalso; omega)
def SubmitRes (m : MkG) (ten ref : Int) (j : JobG) (z : Int) (m' : MkG) : Prop := LogRes m (submitE m ten ref j) (submitM m ten ref j) z m'
def CancelRes (m : MkG) (ten ref : Int) (z : Int) (m' : MkG) : Prop := LogRes m (cancelE m ten ref) (cancelM m ten ref) z m'
def SuspendRes (m : MkG) (ten : Int) (on : Bool) (z : Int) (m' : MkG) : Prop := LogRes m (suspendE m ten) (suspendM m ten on) z m'
def CapacityRes (m : MkG) (f t u : Int) (z : Int) (m' : MkG) : Prop := (m.log.length = 300 ∧ z = 2 ∧ m' = m) ∨ (m.log.length < 300 ∧ CapRes m f t u z m')
theorem CapRes.unique {m : MkG} {f t u z z2 : Int} {m1 m2 : MkG} (h : CapRes m f t u z m1) (h2 : CapRes m f t u z2 m2) : z = z2 ∧ m1 = m2 := by
  rcases h with ⟨a, rfl, rfl⟩ | ⟨a, b, rfl, rfl⟩ | ⟨a, b, rfl, rfl⟩ <;> rcases h2 with ⟨a2, rfl, rfl⟩ | ⟨a2, b2, rfl, rfl⟩ | ⟨a2, b2, rfl, rfl⟩ <;> first | exact ⟨rfl, rfl⟩ | (exfalso; simp_all; done)
theorem CapacityRes.unique {m : MkG} {f t u z z2 : Int} {m1 m2 : MkG} (h : CapacityRes m f t u z m1) (h2 : CapacityRes m f t u z2 m2) : z = z2 ∧ m1 = m2 := by
  rcases h with ⟨a, rfl, rfl⟩ | ⟨a, h⟩ <;> rcases h2 with ⟨b, rfl, rfl⟩ | ⟨b, h2⟩
  · exact ⟨rfl, rfl⟩
  · omega
  · omega
  · exact h.unique h2

def YTo (YAt : World → Nat → (Nat → Prop) → MkG → Prop) (w : World) (p : Nat) (F : Nat → Prop) (m' : MkG) (w' : World) : Prop :=
  ∃ F', YAt w' p F' m' ∧ Chg F w w' ∧ ∀ k, F' k → F k ∨ w.heap.size ≤ k

def cfgV (c : CfgG) : Value := .agg #[.int .i64 c.ticks, .int .i64 c.cap, .int .i64 c.res, .int .i64 c.ten, .int .i64 c.quo]
def jobV (j : JobG) : Value := .agg #[.int .i64 j.arr, .int .i64 j.dl, .int .i64 j.len, .int .i64 j.units, .int .i64 j.val]
def JobI64 (j : JobG) : Prop := I64 j.arr ∧ I64 j.dl ∧ I64 j.len ∧ I64 j.units ∧ I64 j.val

structure YardSpec (YAt : World → Nat → (Nat → Prop) → MkG → Prop) : Prop where
  lt : ∀ w p F m, YAt w p F m → ∀ k, F k → k < w.heap.size
  frame : ∀ w w' p F m, YAt w p F m → (∀ k, F k → w'.heap[k]? = w.heap[k]?) → YAt w' p F m
  open_bad : ∀ c w, cfgOk c = false → Calls Try.prog 9 #[cfgV c] w fun e w' => e = .returned (.tuple #[.pointer none, .int .i64 1]) ∧ Chg (fun _ => False) w w'
  open_ok : ∀ c w, cfgOk c = true → Calls Try.prog 9 #[cfgV c] w fun e w' => ∃ p F, e = .returned (.tuple #[.pointer (some ⟨p, 0, none⟩), .int .i64 0]) ∧ YAt w' p F (openM c) ∧ Chg (fun _ => False) w w' ∧ ∀ k, F k → w.heap.size ≤ k
  submit : ∀ w p F m ten ref j, YAt w p F m → MkOk m → I64 ten → I64 ref → JobI64 j → Calls Try.prog 19 #[.pointer (some ⟨p, 0, none⟩), .int .i64 ten, .int .i64 ref, jobV j] w fun e w' => ∃ z m', e = .returned (.int .i64 z) ∧ SubmitRes m ten ref j z m' ∧ YTo YAt w p F m' w'
  cancel : ∀ w p F m ten ref, YAt w p F m → MkOk m → I64 ten → I64 ref → Calls Try.prog 20 #[.pointer (some ⟨p, 0, none⟩), .int .i64 ten, .int .i64 ref] w fun e w' => ∃ z m', e = .returned (.int .i64 z) ∧ CancelRes m ten ref z m' ∧ YTo YAt w p F m' w'
  suspend : ∀ w p F m ten on, YAt w p F m → MkOk m → I64 ten → Calls Try.prog 21 #[.pointer (some ⟨p, 0, none⟩), .int .i64 ten, .bool on] w fun e w' => ∃ z m', e = .returned (.int .i64 z) ∧ SuspendRes m ten on z m' ∧ YTo YAt w p F m' w'
  capacity : ∀ w p F m f t u, YAt w p F m → MkOk m → I64 f → I64 t → I64 u → Calls Try.prog 22 #[.pointer (some ⟨p, 0, none⟩), .int .i64 f, .int .i64 t, .int .i64 u] w fun e w' => ∃ z m', e = .returned (.int .i64 z) ∧ CapacityRes m f t u z m' ∧ YTo YAt w p F m' w'
  now : ∀ w p F m, YAt w p F m → MkOk m → Calls Try.prog 13 #[.pointer (some ⟨p, 0, none⟩)] w fun e w' => e = .returned (.int .i64 m.time) ∧ YTo YAt w p F m w'
  left : ∀ w p F m, YAt w p F m → MkOk m → Calls Try.prog 8 #[.pointer (some ⟨p, 0, none⟩)] w fun e w' => e = .returned (.int .i64 (300 - (m.log.length : Int))) ∧ YTo YAt w p F m w' -- (where it is)
  look : ∀ w p F m ten ref, YAt w p F m → MkOk m → I64 ten → I64 ref → Calls Try.prog 14 #[.pointer (some ⟨p, 0, none⟩), .int .i64 ten, .int .i64 ref] w fun e w' => e = .returned (.tuple #[.agg #[.int .i64 (lookS m ten ref), .int .i64 (lookT m ten ref)], .int .i64 (lookE m ten ref)]) ∧ YTo YAt w p F m w'
  free : ∀ w p F m t, YAt w p F m → MkOk m → I64 t → Calls Try.prog 15 #[.pointer (some ⟨p, 0, none⟩), .int .i64 t] w fun e w' => e = .returned (.tuple #[.int .i64 (freeV m t), .int .i64 (freeE m t)]) ∧ YTo YAt w p F m w'

/-! ### the document's calls, in the same words -/
/-! ### MkOk goes on -/
theorem MkOk.logs {m : MkG} (h : MkOk m) (hl : m.log.length < 300) (c : CallG) : MkOk (m.logs c) :=
  ⟨h.ck, h.nu, h.ns, h.np, by simp [MkG.logs]; omega, by have := h.nb; simp [MkG.logs]; omega, h.t0, h.t1, h.un, h.bid⟩

theorem MkOk.submit {m : MkG} (h : MkOk m) {ten ref : Int} {j : JobG} {z : Int} {m' : MkG} (hr : SubmitRes m ten ref j z m') : MkOk m' := by
  rcases hr with ⟨_, _, rfl⟩ | ⟨hl, _, rfl⟩
  · exact h
  · have h1 := h.logs hl (callSubmit ten ref j)
    unfold submitM
    simp only
    split
    · rename_i he
      have hT : m.tenB ten = true := by
        cases hT : m.tenB ten
        · simp [submitE, hT] at he
        · rfl
      have hS : suspAt m ten = false := by
        cases hS : suspAt m ten
        · rfl
        · simp [submitE, hT, hS] at he
      have hR : refB m ten ref = false := by
        cases hR : refB m ten ref
        · rfl
        · simp [submitE, hT, hS, hR] at he
      have hJ : m.jobB j = true := by
        cases hJ : m.jobB j
        · simp [submitE, hT, hS, hR, hJ] at he
        · rfl
      obtain ⟨t0, t1⟩ := tenB_true hT
      simp only [MkG.jobB, Bool.and_eq_true, decide_eq_true_eq] at hJ
      simp [refB] at hR
      have hat : j.arr ≤ atOf m.time j := by
        unfold atOf
        split <;> omega
      refine ⟨h.ck, h.nu, h.ns, h.np, h1.nl, ?_, h.t0, h.t1, h.un, fun b hb => ?_⟩
      · have := h.nb
        simp [MkG.logs]
        omega
      · rcases List.mem_append.1 hb with hb | hb
        · exact h.bid b hb
        · simp at hb
          subst hb
          exact ⟨t0, t1, by simp only [newBid]; omega, by simp only [newBid]; omega, hJ.1, hat, hJ.2, by simp [newBid], by simp [newBid], by simp [newBid], by simp [newBid], by simp [newBid], by simp only [newBid]; omega⟩
    · exact h1

theorem MkOk.cancel {m : MkG} (h : MkOk m) {ten ref : Int} {z : Int} {m' : MkG} (hr : CancelRes m ten ref z m') : MkOk m' := by
  rcases hr with ⟨_, _, rfl⟩ | ⟨hl, _, rfl⟩
  · exact h
  · have h1 := h.logs hl (callCancel ten ref)
    unfold cancelM
    simp only
    split
    · refine ⟨h.ck, h.nu, h.ns, h.np, h1.nl, ?_, h.t0, h.t1, h.un, fun b hb => ?_⟩
      · have := h1.nb
        show (setState (m.logs (callCancel ten ref)).bids _ 3).length ≤ _
        unfold setState
        split
        · simpa using this
        · exact this
      · have hb' : b ∈ setState m.bids (findZ m.bids ten ref).toNat 3 := hb
        unfold setState at hb'
        split at hb'
        · rename_i b0 hb0
          rcases List.mem_or_eq_of_mem_set hb' with hb2 | rfl
          · exact h.bid b hb2
          · have ho := h.bid b0 (List.mem_of_getElem? hb0)
            exact ⟨ho.t0, ho.t1, ho.r0, ho.r1, ho.job, ho.a0, ho.a1, by simp, by simp, ho.st0, ho.st1, ho.e0, ho.e1⟩
        · exact h.bid b hb'
    · exact h1

theorem MkOk.suspend {m : MkG} (h : MkOk m) {ten : Int} {on : Bool} {z : Int} {m' : MkG} (hr : SuspendRes m ten on z m') : MkOk m' := by
  rcases hr with ⟨_, _, rfl⟩ | ⟨hl, _, rfl⟩
  · exact h
  · have h1 := h.logs hl (callSuspend ten on)
    unfold suspendM
    simp only
    split
    · exact ⟨h.ck, h.nu, by have := h.ns; simpa [MkG.logs] using this, h.np, h1.nl, h1.nb, h.t0, h.t1, h.un, h.bid⟩
    · exact h1

theorem MkOk.capacity {m : MkG} (h : MkOk m) {f t u : Int} {z : Int} {m' : MkG} (hr : CapacityRes m f t u z m') : MkOk m' := by
  rcases hr with ⟨_, _, rfl⟩ | ⟨hl, ⟨_, _, rfl⟩ | ⟨_, _, _, rfl⟩ | ⟨ha, _, _, rfl⟩⟩
  · exact h
  · exact h.logs hl _
  · exact h.logs hl _
  · have h1 := h.logs hl (callCapacity f t u)
    obtain ⟨_, _, _, g4, g5⟩ := capArg_false ha
    refine ⟨h.ck, by have := h.nu; simpa [MkG.logs] using this, h.ns, h.np, h1.nl, h1.nb, h.t0, h.t1, fun x hx => ?_, h.bid⟩
    simp only [List.mem_map, List.mem_range] at hx
    obtain ⟨i, hi, rfl⟩ := hx
    split
    · exact ⟨g4, g5⟩
    · exact h.un _ (by simp [List.getD, List.getElem?_eq_getElem hi])

theorem MkOk.open {c : CfgG} (h : cfgOk c = true) : MkOk (openM c) := by
  have hc := cfgOk_true h
  refine ⟨h, by simp [openM], by simp [openM], by simp [openM], by simp [openM], by simp [openM], by simp [openM], by simp [openM]; omega, fun u hu => ?_, fun b hb => by simp [openM] at hb⟩
  simp [openM] at hu
  omega
end Go.Proofs.Ytminceigjejipab

namespace Go.Proofs.Ytminceigjejipab
open Go.RowKit

theorem ownsRow_set {w : World} {e : TypeId} {v : Value} {n i g : Nat} {xs : List Value} (h : w.ownsRow 0 e 1 v n xs) (hi : i < n) (hg : v.ownBlock = some g) (u : Value) : (w.setCell ⟨g, i, none⟩ u).ownsRow 0 e 1 v n (xs.set i u) := by
  rcases h.2 with ⟨hv, h0⟩ | ⟨g', cap, cur, hv, hb0, hh, hc, hmx, hsz, htake⟩
  · omega
  · have hgg : g' = g := by rw [hv] at hg; simpa [Value.ownBlock] using hg
    subst hgg
    refine ⟨by simp [h.1], .inr ⟨g', cap, cur.setIfInBounds i u, hv, hb0, box_set hh _, hc, hmx, by simpa using hsz, ?_⟩⟩
    rw [Array.toList_setIfInBounds, List.take_set, htake]

def fillL (n k : Nat) (cap : Int) : List Value := (List.range n).map fun j => .int .i64 (if j < k then cap else 0)
theorem fillL_start (n : Nat) (cap : Int) : fillL n 0 cap = List.replicate n (.int .i64 0) := by
  apply List.ext_getElem?
  intro i
  by_cases hi : i < n
  · simp [fillL, hi]
  · simp [fillL, hi]
theorem fillL_step (n k : Nat) (cap : Int) (hk : k < n) : (fillL n k cap).set k (.int .i64 cap) = fillL n (k + 1) cap := by
  apply List.ext_getElem?
  intro i
  rw [List.getElem?_set]
  by_cases hi : i < n
  · by_cases e : k = i
    · subst e
      simp [fillL, hi]
    · simp only [if_neg e, fillL, List.getElem?_map, List.getElem?_range hi, Option.map_some]
      simp [show (i < k ↔ i < k + 1) by omega]
  · by_cases e : k = i
    · omega
    · simp [fillL, hi, e]
theorem fillL_end (n : Nat) (cap : Int) : fillL n n cap = (List.replicate n cap).map (Value.int .i64) := by
  apply List.ext_getElem?
  intro i
  by_cases hi : i < n
  · simp [fillL, hi]
  · simp [fillL, hi]

/-- the parts of a fresh market, as they lie -/
theorem ymOpen {W : World} {nk nt q r g U S : Nat} {cap res quo : Int} (h8 : nt ≤ 8) (_ : 1 ≤ nk) (hU : U ≠ g) (hbox : W.heap[q]? = some (.cells #[.int .i64 (nk : Int), .int .i64 cap, .int .i64 res, .int .i64 (nt : Int), .int .i64 quo, .int .i64 0, .slice none 0 0, .slice (some ⟨S, 0, none⟩) nt nt, .slice (some ⟨U, 0, none⟩) nk nk, .pointer (some ⟨r, 0, none⟩)] 78 (0, 0)))
    (hu : W.ownsRow 0 3 1 (.slice (some ⟨U, 0, none⟩) nk nk) nk (fillL nk nk cap)) (hs : W.heap[S]? = some (.cells (madeCells #[.bool false] nt) 4 (0, 0))) (hc : RowAt 102 W r g nk nk (fun _ => cap)) :
    YmAt W ⟨q, r, g, nk, .slice (some ⟨U, 0, none⟩) nk nk, .slice none 0 0, .slice (some ⟨S, 0, none⟩) nt nt⟩ (openM ⟨nk, cap, res, nt, quo⟩) := by
  refine ⟨hbox, World.ownsRow_nil _ _ _ _, ?_, ?_, ?_, ?_⟩
  · show W.ownsRow 0 _ 1 _ (List.replicate (Int.toNat (nt : Int)) false).length ((List.replicate (Int.toNat (nt : Int)) false).map Value.bool)
    rw [Int.toNat_natCast, List.length_replicate, List.map_replicate]
    exact ⟨by simp, .inr ⟨S, nt, _, rfl, Nat.zero_le _, hs, Nat.le_refl _, by unfold maxLen; omega, by rw [size_madeCells]; omega, by rw [made_list]; simp⟩⟩
  · show W.ownsRow 0 _ 1 _ (List.replicate (Int.toNat (nk : Int)) cap).length ((List.replicate (Int.toNat (nk : Int)) cap).map (Value.int .i64))
    rw [Int.toNat_natCast, List.length_replicate, ← fillL_end]
    exact hu
  · show RowAt _ W r g (List.replicate (Int.toNat (nk : Int)) cap).length nk _
    rw [Int.toNat_natCast, List.length_replicate]
    refine hc.congr (fun j hj => ?_)
    simp [freeZ, openM, usedL, List.getD, hj]
  · simp [Value.ownBlock, hU]

set_option maxRecDepth 100000 in
set_option maxHeartbeats 4000000 in
theorem newMarket_any (c : CfgG) (w : World) (hc : cfgOk c = true) :
    Calls Try.prog 28 #[.agg #[.int .i64 c.ticks, .int .i64 c.cap, .int .i64 c.res, .int .i64 c.ten, .int .i64 c.quo]] w fun e w' => ∃ V, e = .returned (.pointer (some ⟨V.q, 0, none⟩)) ∧ YmAt w' V (openM c) ∧ Chg (fun _ => False) w w' ∧ ∀ k, V.foot k → w.heap.size ≤ k := by
  obtain ⟨⟨a1, a2⟩, ⟨a3, a4⟩, ⟨a5, a6⟩, ⟨a7, a8⟩, a9, a10⟩ := cfgOk_true hc
  obtain ⟨tk, cap, res, ten, quo⟩ := c
  simp only at *
  obtain ⟨nt, rfl⟩ := Int.eq_ofNat_of_zero_le (show 0 ≤ ten by omega)
  obtain ⟨nk, rfl⟩ := Int.eq_ofNat_of_zero_le (show 0 ≤ tk by omega)
  have hmk1 := run_make_row' (P := Try.prog) 75 4 (.bool false) 1 Try.underlying75 infoBool rfl .i64 .i64 nt (by omega) (by omega)
  have hmk2 := run_make_row' (P := Try.prog) 69 3 (.int .i64 0) 8 Try.underlying69 infoInt' rfl .i64 .i64 nk (by omega) (by omega)
  have HST := hide (show standB cap = true by simp [standB, inB]; omega)
  clear hc
  go_enter Try.func28, Try.ntmps28
  go_wp2_with fail
  obtain ⟨w1, hw1⟩ : ∃ w1, w1 = w.alloc (.cells #[.int .i64 (nk : Int), .int .i64 cap, .int .i64 res, .int .i64 (nt : Int), .int .i64 quo] 23) := ⟨_, rfl⟩
  rw [← hw1]
  have hb1 : w1.heap[w.heap.size]? = some (.cells #[.int .i64 (nk : Int), .int .i64 cap, .int .i64 res, .int .i64 (nt : Int), .int .i64 quo] 23 (0, 0)) := by rw [hw1]; exact heap_alloc_new w _
  have hc1 : Chg (fun _ => False) w w1 := by rw [hw1]; exact (Chg.refl _ _).alloc _
  have hs1 : w1.heap.size = w.heap.size + 1 := by rw [hw1]; simp
  clear hw1
  refine (calNew_ok nk cap _ (by omega) (by omega) HST.out).mono ?_
  rintro e w2 ⟨r, rfl, hr, hrow, hq⟩
  have hb2 : w2.heap[w.heap.size]? = some (.cells #[.int .i64 (nk : Int), .int .i64 cap, .int .i64 res, .int .i64 (nt : Int), .int .i64 quo] 23 (0, 0)) := (hq.block _ (by omega) (fun h => h)).trans hb1
  have hs2 := hq.size
  have hl2 := hrow.ltp
  have hg2 := hrow.ltg
  have HC2 := hide (hc1.trans hq (fun _ _ h => h))
  have HROW := hide hrow
  have HB2 := hide hb2
  have q0 : w2.cell? ⟨w.heap.size, 0, none⟩ = some (.int .i64 (nk : Int)) := by unfold World.cell?; rw [hb2]; rfl
  clear hb1 hc1 hq hrow hb2
  go_wp2_with fail
  clear hmk2
  go_loopw [21] (fun i wr => ∃ k : Nat, k ≤ nk ∧ i = .int .i64 k ∧ wr.ownsRow 0 3 1 (.slice (some ⟨w2.heap.size, 0, none⟩) nk nk) nk (fillL nk k cap) ∧ Chg (fun _ => False) w2 wr) (fun i _ => nk - (intOf i).toNat)
  case atStart =>
    refine ⟨0, by omega, rfl, ?_, (Chg.refl _ _).alloc _⟩
    rw [fillL_start]
    exact ⟨by simp, .inr ⟨w2.heap.size, nk, _, rfl, Nat.zero_le _, heap_alloc_new w2 _, Nat.le_refl _, by unfold maxLen; omega, by rw [size_madeCells]; omega, by rw [made_list]; simp⟩⟩
  case round =>
    obtain ⟨k, hk, rfl, hown, hchg⟩ := hrel
    have HOWN := hide hown
    have HCH := hide hchg
    have hbr : wr.heap[w.heap.size]? = some (.cells #[.int .i64 (nk : Int), .int .i64 cap, .int .i64 res, .int .i64 (nt : Int), .int .i64 quo] 23 (0, 0)) := (hchg.block _ (by omega) (fun h => h)).trans HB2.out
    have q1 : wr.cell? ⟨w.heap.size, 1, none⟩ = some (.int .i64 cap) := by unfold World.cell?; rw [hbr]; rfl
    have q0 : wr.cell? ⟨w.heap.size, 0, none⟩ = some (.int .i64 (nk : Int)) := by unfold World.cell?; rw [hbr]; rfl
    have q2 : wr.cell? ⟨w.heap.size, 2, none⟩ = some (.int .i64 res) := by unfold World.cell?; rw [hbr]; rfl
    have q3 : wr.cell? ⟨w.heap.size, 3, none⟩ = some (.int .i64 (nt : Int)) := by unfold World.cell?; rw [hbr]; rfl
    have q4 : wr.cell? ⟨w.heap.size, 4, none⟩ = some (.int .i64 quo) := by unfold World.cell?; rw [hbr]; rfl
    have hsr := hchg.size
    have hlr : w2.heap.size < wr.heap.size := (hown.lt w2.heap.size rfl).2
    by_cases hlt : k < nk
    · obtain ⟨cu, hcu⟩ := ownsRow_block hown (k := w2.heap.size) rfl
      have fz : wr.frozen? ⟨w2.heap.size, k, none⟩ = false := by unfold World.frozen?; rw [hcu]; simp
      have hcell := hown.cells (g := w2.heap.size) rfl k (.int .i64 0) (by simp [fillL, hlt])
      rw [Addr.add_lit, Nat.zero_add] at hcell
      clear hown hchg hbr hcu
      go_wp2
      go_roundw
      case rel => exact ⟨k + 1, by omega, by go_num, by rw [← fillL_step nk k cap hlt]; exact ownsRow_set HOWN.out hlt rfl _, HCH.out.setCell (.inr (Nat.le_refl _)) _⟩
      case measure => simp [intOf]; omega
    · have q0' : ∀ o, (wr.alloc o).cell? ⟨w.heap.size, 0, none⟩ = some (.int .i64 (nk : Int)) := fun o => by rw [World.cell?_alloc_lt _ _ _ (by show w.heap.size < wr.heap.size; omega)]; exact q0
      have q1' : ∀ o, (wr.alloc o).cell? ⟨w.heap.size, 1, none⟩ = some (.int .i64 cap) := fun o => by rw [World.cell?_alloc_lt _ _ _ (by show w.heap.size < wr.heap.size; omega)]; exact q1
      have q2' : ∀ o, (wr.alloc o).cell? ⟨w.heap.size, 2, none⟩ = some (.int .i64 res) := fun o => by rw [World.cell?_alloc_lt _ _ _ (by show w.heap.size < wr.heap.size; omega)]; exact q2
      have q3' : ∀ o, (wr.alloc o).cell? ⟨w.heap.size, 3, none⟩ = some (.int .i64 (nt : Int)) := fun o => by rw [World.cell?_alloc_lt _ _ _ (by show w.heap.size < wr.heap.size; omega)]; exact q3
      have q4' : ∀ o, (wr.alloc o).cell? ⟨w.heap.size, 4, none⟩ = some (.int .i64 quo) := fun o => by rw [World.cell?_alloc_lt _ _ _ (by show w.heap.size < wr.heap.size; omega)]; exact q4
      have hkn : k = nk := by omega
      have HK := hide hkn
      clear hown hchg hbr hkn
      go_wp2
      go_ret
      refine ⟨⟨wr.heap.size + 1, r, w1.heap.size, nk, .slice (some ⟨w2.heap.size, 0, none⟩) nk nk, .slice none 0 0, .slice (some ⟨wr.heap.size, 0, none⟩) nt nt⟩, rfl, ?_, ?_, ?_⟩
      · refine ymOpen (by omega) (by omega) (by omega) (heap_at_new (by simp)) ?_ ?_ ?_
        · have := HOWN.out
          rw [HK.out] at this
          exact (this.alloc _).alloc _
        · rw [Below.heap_alloc _ _ _ (by simp)]; exact heap_alloc_new wr _
        · exact HROW.out.frame (by rw [Below.heap_alloc _ _ _ (by simp; omega), Below.heap_alloc _ _ _ (by omega)]; exact HCH.out.block _ hl2 (fun h => h)) (by rw [Below.heap_alloc _ _ _ (by simp; omega), Below.heap_alloc _ _ _ (by omega)]; exact HCH.out.block _ hg2 (fun h => h))
      · exact ((HC2.out.trans HCH.out (fun _ _ h => h)).alloc _).alloc _
      · intro x hx
        rcases hx with h | h | h | h | h | h
        · simp only at h; omega
        · simp only at h; omega
        · simp only at h; omega
        · simp [Value.ownBlock] at h; omega
        · simp [Value.ownBlock] at h
        · simp [Value.ownBlock] at h; omega
end Go.Proofs.Ytminceigjejipab
