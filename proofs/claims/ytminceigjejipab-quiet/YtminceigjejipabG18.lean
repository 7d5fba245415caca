import Derived.Test.YtminceigjejipabG16
import Derived.Great.Frames
import Derived.Deep.RegionHeld3
import Derived.Deep.Cut
import Derived.Test.YtminceigjejipabG5
import Derived.Deep.CutRange
import Derived.Test.YtminceigjejipabG17
import Derived.Test.YtminceigjejipabG1
import Derived.ProofKit
import Derived.SizedLaws
import Derived.Deep.Slices
import Derived.JoinedCond
/-
  yardkeep: 'notes' of a bid: the region that lays the bid into the book, over a frame that is a variable.
-/
namespace Go.Proofs.Ytminceigjejipab
open Go.RowKit

/-- the region of that number -/
noncomputable def regionOf (n : Nat) : Code → Option (Array Oper)
  | .region i ops _ => if i == n then some ops else none
  | .seq a b => match regionOf n a with | some o => some o | none => regionOf n b
  | .cond _ a b => match regionOf n a with | some o => some o | none => regionOf n b
  | .block _ a => regionOf n a
  | .loop a => regionOf n a
  | .scope a => regionOf n a
  | _ => none
noncomputable def opsOf (f : Func) (n : Nat) : Array Oper := ((f.body.bind (regionOf n)).getD #[])

section
variable {P : Program} {ops : Array Oper} {Q : Exit → Act → World → Prop} {S : World → Prop} {md : Region.Mode}
theorem take_op {i : Nat} {fuel : Nat} {listed : Array Bool} {a : Act} {w : World} (oi : Oper) (d : Nat) (v : Value) (hi : ops[i]? = some oi) (hd : oi.dst = some d) (hg : oi.guard = none)
    (hs : Region.noSelect ops = true) (hf : Region.free md ops listed i = true) (hr : (Region.ready md ops listed).contains i = true)
    (hQ : ∀ c a d v w, Q (.panic c) (Act.put a d v) w → Q (.panic c) a w) (hy : ∀ w, S w → (execOp a.eval oi).run P w = .ok (.value v) w) (hS : S w)
    (h : wpAnyH P md ops Q S fuel (listed.setIfInBounds i true) (a.put (some d) v) w) : wpAnyH P md ops Q S (fuel + 1) listed a w :=
  wpAnyH_take hi hs hf hr (fun c a w => hQ c a _ v w) (.inl ⟨by simp [Region.wanted, hg], hy⟩) hS (by rw [hd]; exact h)
theorem ready_val {i : Nat} {fuel : Nat} {listed : Array Bool} {a : Act} {w w' : World} {rs : List Nat} (oi : Oper) (d : Nat) (v : Value) (hi : ops[i]? = some oi) (hd : oi.dst = some d) (hg : oi.guard = none)
    (hy : (execOp a.eval oi).run P w = .ok (.value v) w') (hS : S w') (h : wpAnyH P md ops Q S fuel (listed.setIfInBounds i true) (a.put (some d) v) w') (hs : AllReadyH P md ops Q S fuel listed a w rs) : AllReadyH P md ops Q S fuel listed a w (i :: rs) :=
  AllReadyH.cons hi (fun K hK => by
    rw [if_pos (by simp [Region.wanted, hg])]
    unfold Oper.wp
    rw [hy]
    show K (a.put oi.dst v) w'
    rw [hd]
    exact hK.out _ _ hS (fun _ => h)) hs
theorem ready_skip {i : Nat} {fuel : Nat} {listed : Array Bool} {a : Act} {w w' : World} {rs : List Nat} (oi : Oper) (hi : ops[i]? = some oi) (hd : oi.dst = none) (hg : oi.guard = none)
    (hy : (execOp a.eval oi).run P w = .ok .skip w') (hS : S w') (h : wpAnyH P md ops Q S fuel (listed.setIfInBounds i true) a w') (hs : AllReadyH P md ops Q S fuel listed a w rs) : AllReadyH P md ops Q S fuel listed a w (i :: rs) :=
  AllReadyH.cons hi (fun K hK => by
    rw [if_pos (by simp [Region.wanted, hg])]
    unfold Oper.wp
    rw [hy]
    show K (a.put oi.dst undef) w'
    rw [hd]
    exact hK.out _ _ hS (fun _ => h)) hs
theorem ready_wp {i : Nat} {fuel : Nat} {listed : Array Bool} {a : Act} {w : World} {rs : List Nat} (oi : Oper) (hi : ops[i]? = some oi) (hg : oi.guard = none)
    (h : ∀ K : Act → World → Prop, (∀ a w, S w → wpAnyH P md ops Q S fuel (listed.setIfInBounds i true) a w → K a w) → oi.wp P a w K Q) (hs : AllReadyH P md ops Q S fuel listed a w rs) : AllReadyH P md ops Q S fuel listed a w (i :: rs) :=
  AllReadyH.cons hi (fun K hK => by
    rw [if_pos (by simp [Region.wanted, hg])]
    exact h K (fun a w hS hW => hK.out a w hS (fun _ => hW))) hs
theorem run_move' {o : Oper} {a : Act} {v : Value} (x : Operand) (h : o.op = .move x) (hx : a.eval x = v) (w : World) : (execOp a.eval o).run P w = .ok (.value v) w := by
  rw [BigFrame.run_move x h, hx]
theorem run_nil' {o : Oper} {a : Act} {ad : Addr} (x : Operand) (h : o.op = .nilCheck x) (hx : a.eval x = .pointer (some ad)) (w : World) : (execOp a.eval o).run P w = .ok (.value (.pointer (some ad))) w := by
  unfold execOp
  rw [h]
  simp only [hx]
  rfl
theorem run_fld {o : Oper} {a : Act} {ad : Addr} {v : Value} (T : TypeId) (x : Operand) (f : Nat) (h : o.op = .fieldAddr T x f) (hx : a.eval x = .pointer (some ad)) (hr : ∀ w, (Instr.fieldAt T (.pointer (some ad)) f).run P w = .ok v w) (w : World) : (execOp a.eval o).run P w = .ok (.value v) w := by
  unfold execOp
  rw [h]
  simp only [hx, Sem.run_bind, hr, Result.andThen_ok]
  rfl
theorem run_ld {o : Oper} {a : Act} {ad : Addr} {v : Value} (T : TypeId) (x : Operand) (h : o.op = .load T x) (hx : a.eval x = .pointer (some ad)) (w : World) (hr : (Instr.loadAt T (.pointer (some ad))).run P w = .ok v w) : (execOp a.eval o).run P w = .ok (.value v) w := by
  unfold execOp
  rw [h]
  simp only [hx, Sem.run_bind, hr, Result.andThen_ok]
  rfl
theorem run_bsl {o : Oper} {a : Act} {v : Value} (T : TypeId) (n : Nat) (ps : Array (Nat × Operand)) (vs : Array (Nat × Value)) (h : o.op = .buildSlice T n ps) (hx : (ps.map fun (i, x) => (i, a.eval x)) = vs) (w w' : World) (hr : (Instr.buildSlice T n vs).run P w = .ok v w') : (execOp a.eval o).run P w = .ok (.value v) w' := by
  unfold execOp
  rw [h]
  simp only [hx, Sem.run_bind, hr, Result.andThen_ok]
  rfl
theorem run_sto {o : Oper} {a : Act} {u v : Value} (T : TypeId) (x y : Operand) (h : o.op = .store T x y) (hx : a.eval x = u) (hy : a.eval y = v) (w w' : World) (hr : (Instr.storeAt T u v).run P w = .ok () w') : (execOp a.eval o).run P w = .ok .skip w' := by
  unfold execOp
  rw [h]
  simp only [hx, hy, Sem.run_bind, hr, Result.andThen_ok]
  rfl
theorem run_bld {o : Oper} {a : Act} {v : Value} (T : TypeId) (ps : Array (Nat × Operand)) (vs : Array (Nat × Value)) (h : o.op = .build T ps) (hx : (ps.map fun (i, x) => (i, a.eval x)) = vs) (w : World) (hr : (Instr.build T vs).run P w = .ok v w) : (execOp a.eval o).run P w = .ok (.value v) w := by
  unfold execOp
  rw [h]
  simp only [hx, Sem.run_bind, hr, Result.andThen_ok]
  rfl
end

theorem fld_step1 (p : Nat) (w : World) : (Instr.fieldAt 33 (.pointer (some ⟨p, 0, none⟩)) 1).run Try.prog w = .ok (.pointer (some ⟨p, 1, none⟩)) w := by go_simp
theorem fld_step2 (p : Nat) (w : World) : (Instr.fieldAt 33 (.pointer (some ⟨p, 0, none⟩)) 2).run Try.prog w = .ok (.pointer (some ⟨p, 2, none⟩)) w := by go_simp
theorem ld_int (p k : Nat) (z : Int) (w : World) (h : w.cell? ⟨p, k, none⟩ = some (.int .i64 z)) : (Instr.loadAt 3 (.pointer (some ⟨p, k, none⟩))).run Try.prog w = .ok (.int .i64 z) w := by go_simp
theorem ld_job (r : Nat) (ja jd jl ju jv : Int) (w : World) (z0 : w.cell? ⟨r, 0, none⟩ = some (.int .i64 ja)) (z1 : w.cell? ⟨r, 1, none⟩ = some (.int .i64 jd)) (z2 : w.cell? ⟨r, 2, none⟩ = some (.int .i64 jl)) (z3 : w.cell? ⟨r, 3, none⟩ = some (.int .i64 ju)) (z4 : w.cell? ⟨r, 4, none⟩ = some (.int .i64 jv)) : (Instr.loadAt 31 (.pointer (some ⟨r, 0, none⟩))).run Try.prog w = .ok (.agg #[.int .i64 ja, .int .i64 jd, .int .i64 jl, .int .i64 ju, .int .i64 jv]) w := by go_simp
theorem bld_bid (w : World) : (Instr.build 49 #[(0, .int .i64 1), (1, .int .i64 (-1))]).run Try.prog w = .ok (.agg #[.int .i64 1, .int .i64 (-1)]) w := by go_simp
/-- the cells that are read -/
def BidS (q r : Nat) (sa sb ja jd jl ju jv : Int) : World → Prop := (fun w' : World => w'.cell? ⟨q, 1, none⟩ = some (.int .i64 sa) ∧ w'.cell? ⟨q, 2, none⟩ = some (.int .i64 sb) ∧ w'.cell? ⟨r, 0, none⟩ = some (.int .i64 ja) ∧ w'.cell? ⟨r, 1, none⟩ = some (.int .i64 jd) ∧ w'.cell? ⟨r, 2, none⟩ = some (.int .i64 jl) ∧ w'.cell? ⟨r, 3, none⟩ = some (.int .i64 ju) ∧ w'.cell? ⟨r, 4, none⟩ = some (.int .i64 jv))
theorem BidS.grow {q r : Nat} {sa sb ja jd jl ju jv : Int} {w w' : World} {ob : Option Nat} (h : BidS q r sa sb ja jd jl ju jv w) (hg : w.grownBy w' ob) (hq : ob ≠ some q) (hr : ob ≠ some r) : BidS q r sa sb ja jd jl ju jv w' := by
  have lt : ∀ (b k : Nat) (v : Value), w.cell? ⟨b, k, none⟩ = some v → b < w.heap.size := fun b k v hv => by
    rcases Nat.lt_or_ge b w.heap.size with e | e
    · exact e
    · unfold World.cell? at hv
      rw [Array.getElem?_eq_none e] at hv
      simp at hv
  have far : ∀ (b k : Nat) (v : Value), ob ≠ some b → w.cell? ⟨b, k, none⟩ = some v → w'.cell? ⟨b, k, none⟩ = some v := fun b k v hb hv => (hg.cell_far ⟨b, k, none⟩ (lt b k v hv) (Ne.symm hb)).trans hv
  exact ⟨far _ _ _ hq h.1, far _ _ _ hq h.2.1, far _ _ _ hr h.2.2.1, far _ _ _ hr h.2.2.2.1, far _ _ _ hr h.2.2.2.2.1, far _ _ _ hr h.2.2.2.2.2.1, far _ _ _ hr h.2.2.2.2.2.2⟩
theorem BidS.alloc {q r : Nat} {sa sb ja jd jl ju jv : Int} {w : World} (h : BidS q r sa sb ja jd jl ju jv w) (o : Obj) : BidS q r sa sb ja jd jl ju jv (w.alloc o) := by
  have far : ∀ (b k : Nat) (v : Value), w.cell? ⟨b, k, none⟩ = some v → (w.alloc o).cell? ⟨b, k, none⟩ = some v := fun b k v hv => (World.cell?_alloc_some w _ o (by rw [hv]; rfl)).trans hv
  exact ⟨far _ _ _ h.1, far _ _ _ h.2.1, far _ _ _ h.2.2.1, far _ _ _ h.2.2.2.1, far _ _ _ h.2.2.2.2.1, far _ _ _ h.2.2.2.2.2.1, far _ _ _ h.2.2.2.2.2.2⟩
theorem BidS.set {q r : Nat} {sa sb ja jd jl ju jv : Int} {w : World} (h : BidS q r sa sb ja jd jl ju jv w) {p k : Nat} (hq : p ≠ q) (hr : p ≠ r) (v : Value) : BidS q r sa sb ja jd jl ju jv (w.setCell ⟨p, k, none⟩ v) := by
  have far : ∀ (b j : Nat) (u : Value), p ≠ b → w.cell? ⟨b, j, none⟩ = some u → (w.setCell ⟨p, k, none⟩ v).cell? ⟨b, j, none⟩ = some u := fun b j u hb hv => (World.cell?_setCell_far w _ _ v hb).trans hv
  exact ⟨far _ _ _ hq h.1, far _ _ _ hq h.2.1, far _ _ _ hr h.2.2.1, far _ _ _ hr h.2.2.2.1, far _ _ _ hr h.2.2.2.2.1, far _ _ _ hr h.2.2.2.2.2.1, far _ _ _ hr h.2.2.2.2.2.2⟩

end Go.Proofs.Ytminceigjejipab

/-
  yardkeep: 'notes' of a bid that arrives now.
-/
namespace Go.Proofs.Ytminceigjejipab
open Go.RowKit

end Go.Proofs.Ytminceigjejipab

/-
  yardkeep: 'notes' of a bid that arrives later.
-/
namespace Go.Proofs.Ytminceigjejipab
open Go.RowKit

end Go.Proofs.Ytminceigjejipab

namespace Go.Proofs.Ytminceigjejipab
open Go.RowKit

/-- what was there is there -/
theorem chg_keep {w w' : World} (h : Chg (fun _ => False) w w') : ∀ p v, w.cell? p = some v → w'.cell? p = some v := by
  intro p v hv
  have hl : p.block < w.heap.size := by
    rcases Nat.lt_or_ge p.block w.heap.size with e | e
    · exact e
    · unfold World.cell? at hv
      rw [Array.getElem?_eq_none e] at hv
      simp at hv
  rw [h.cell hl (fun h => h)]
  exact hv
theorem usedTo_zero (m : MkG) (n : Nat) : usedTo m n 0 = List.replicate n (.int .i64 0) := by
  apply List.ext_getElem?
  intro i
  by_cases hi : i < n <;> simp [usedTo, usedL, hi]
theorem usedMid_start {m : MkG} {n k : Nat} {x : BidG} {t : Nat} (h : x.start = (t : Int)) : usedMid m n k x t = usedTo m n k := by
  apply List.ext_getElem?
  intro i
  by_cases hi : i < n
  · simp only [usedMid, usedTo, List.getElem?_map, List.getElem?_range hi, Option.map_some]
    rw [if_neg (by omega)]
    simp
  · simp [usedMid, usedTo, hi]
theorem usedMid_step {m : MkG} {n k : Nat} {x : BidG} {t : Nat} (h : x.start ≤ (t : Int)) (ht : t < n) : (usedMid m n k x t).set t (.int .i64 (usedL (m.bids.take k) (t : Int) + x.job.units)) = usedMid m n k x (t + 1) := by
  apply List.ext_getElem?
  intro i
  rw [List.getElem?_set]
  by_cases hi : i < n
  · by_cases e : t = i
    · subst e
      simp only [usedMid, List.length_map, List.length_range, hi, if_true, List.getElem?_map, List.getElem?_range hi, Option.map_some]
      rw [if_pos ⟨h, by omega⟩]
    · rw [if_neg e]
      simp only [usedMid, List.getElem?_map, List.getElem?_range hi, Option.map_some]
      have : (x.start ≤ (i : Int) ∧ i < t) ↔ (x.start ≤ (i : Int) ∧ i < t + 1) := by omega
      simp only [this]
  · by_cases e : t = i
    · omega
    · simp [usedMid, hi, e]
theorem usedTo_succ {m : MkG} {n k : Nat} {x : BidG} (hx : m.bids[k]? = some x) (h2 : x.state ≠ 2) : usedTo m n (k + 1) = usedTo m n k := by
  apply List.ext_getElem?
  intro i
  by_cases hi : i < n
  · simp only [usedTo, List.getElem?_map, List.getElem?_range hi, Option.map_some]
    rw [take_snoc hx, usedL_snoc, if_neg (by simp [BidG.runs, h2])]
    simp
  · simp [usedTo, hi]
theorem usedMid_end {m : MkG} {n k : Nat} {x : BidG} {t : Nat} (hx : m.bids[k]? = some x) (h2 : x.state = 2) (ht : (t : Int) = x.start + x.job.len) : usedMid m n k x t = usedTo m n (k + 1) := by
  apply List.ext_getElem?
  intro i
  by_cases hi : i < n
  · simp only [usedMid, usedTo, List.getElem?_map, List.getElem?_range hi, Option.map_some]
    rw [take_snoc hx, usedL_snoc]
    have : (x.start ≤ (i : Int) ∧ i < t) ↔ x.runs (i : Int) = true := by simp [BidG.runs, h2]; omega
    by_cases e : x.runs (i : Int) = true
    · rw [if_pos (this.2 e), if_pos e]
    · rw [if_neg (fun h => e (this.1 h)), if_neg e]
  · simp [usedMid, usedTo, hi]

end Go.Proofs.Ytminceigjejipab

/-
  yardkeep: between the steps: the market and the book in memory, all of it new.
-/
namespace Go.Proofs.Ytminceigjejipab
open Go.RowKit

section
variable {YAt : World → Nat → (Nat → Prop) → MkG → Prop} {w0 wr w2 : World} {y p : Nat} {m m' : MkG} {F : Nat → Prop} {V : BV} {b b' : BookG}
end
/-- what holds of a market and its book between the steps -/
structure KeepP (m : MkG) (b : BookG) : Prop where
  good : GoodM m
  sound : SoundM m
  rel : BookRel m b
theorem KeepP.step {m m' : MkG} {b : BookG} (h : KeepP m b) {s : StepG} {z : Int} {names : List (Int × Int)} {bills : List InvG} (hr : DoesRes m s z names bills m') (i : Int) : KeepP m' (noteB b i s z m.time) :=
  ⟨hr.good h.good, (h.sound.does h.good hr).1, h.rel.note h.good h.sound hr i⟩
theorem KeepP.seen {m : MkG} {b : BookG} (h : KeepP m b) : KeepP m (seenB m b) := ⟨h.good, h.sound, h.rel.seen⟩
end Go.Proofs.Ytminceigjejipab

/-
  yardkeep: 'notes', whole.
-/
namespace Go.Proofs.Ytminceigjejipab
open Go.RowKit

end Go.Proofs.Ytminceigjejipab

namespace Go.Proofs.Ytminceigjejipab
open Go.ChangeShapes Go.WideShapes Go.ChangeAt Go.RowKit Go.Deep

theorem head_take {cs : List Value} {o : Nat} {v : Value} (h : (cs.drop o).take 1 = [v]) : cs[o]? = some v := by
  have : ((cs.drop o).take 1)[0]? = some v := by rw [h]; rfl
  simpa using this

def IsI64 (z : Int) : Prop := -9223372036854775808 ≤ z ∧ z ≤ 9223372036854775807
theorem isI64_wf {z : Int} (h : (Lit.int .i64 z).wf = true) : IsI64 z := by simpa [Lit.wf, IntKind.min, IntKind.max, IntKind.signed, IntKind.bits, IsI64] using h

/-- what the walks want of a slice of structs of n ints -/
def IntRows (W : World) (n : Nat) (ao : Option Addr) (len : Nat) : Prop :=
  len = 0 ∨ ∃ (b off : Nat) (Z : Nat → Int), 0 < len ∧ ao = some ⟨b, off, none⟩ ∧ b < W.heap.size ∧ (∀ t, t < len * n → W.cell? ⟨b, off + t, none⟩ = some (.int .i64 (Z t))) ∧ ∀ t, t < len * n → IsI64 (Z t)

section
variable {H : Type} {enc : TypeId × Value → H} {P : Program} {w : World} {base : Nat} {spare : Nat → Bool} {held : Bool}

theorem field_int {t : TypeId} {fuel o : Nat} {cs : List Value} {x : DataW H × List MemPlace} (ht : P.underlying t = some (.int .i64)) (h : DataW.trod enc P w base spare held fuel t ((cs.drop o).take 1) = some x) :
    ∃ z, cs[o]? = some (.int .i64 z) ∧ IsI64 z := by
  obtain ⟨z, h1, _, h2⟩ := DataW.trod_int ht h
  exact ⟨z, head_take h1, isI64_wf h2⟩

/-- a struct of ints, one cell each, in order -/
theorem struct_ints {t : TypeId} {fuel : Nat} {fs : Array Field} {cs : List Value} {x : DataW H × List MemPlace} (ht : P.underlying t = some (.struct fs)) (h : DataW.trod enc P w base spare held fuel t cs = some x)
    (i : Nat) (f : Field) (hf : fs[i]? = some f) (ho : f.offset = i) (hc : P.cellsOf f.type = 1) (hu : P.underlying f.type = some (.int .i64)) : ∃ z, cs[i]? = some (.int .i64 z) ∧ IsI64 z := by
  obtain ⟨xs, n, _, _, _, hxl, hx⟩ := DataW.trod_struct ht h
  have h1 := hx i f hf
  rw [ho, hc] at h1
  have hi : i < fs.size := (Array.getElem?_eq_some_iff.1 hf).1
  rw [List.getElem?_eq_getElem (by omega)] at h1
  exact field_int hu h1

theorem rows_of_slice {t e : TypeId} {k fuel len cap : Nat} {ao : Option Addr} {x : DataW H × List MemPlace} (ht : P.underlying t = some (.slice e)) (hk : P.cellsOf e = k) (hk0 : 0 < k)
    (hE : ∀ n cs y, DataW.trod enc P w base spare held n e cs = some y → ∀ f, f < k → ∃ z, cs[f]? = some (.int .i64 z) ∧ IsI64 z)
    (h : DataW.trod enc P w base spare held fuel t [.slice ao len cap] = some x) :
    IntRows w k ao len ∧ ((x.1 = .nil ∧ len = 0) ∨ ∃ elems sp, x.1 = .slice elems sp ∧ elems.length = len) := by
  rcases open_slice ht h with ⟨h0, rfl⟩ | ⟨a, len', cap', m, n, D, Pl, h0, hb, hl, hm, hmm, rfl, hx⟩
  · simp at h0
    exact ⟨.inl h0.2.1, .inl ⟨rfl, h0.2.1⟩⟩
  · simp only [List.cons.injEq, Value.slice.injEq, and_true] at h0
    obtain ⟨rfl, rfl, rfl⟩ := h0
    refine ⟨?_, .inr ⟨_, _, rfl, by simp⟩⟩
    by_cases hlen : len = 0
    · exact .inl hlen
    right
    have hlm : len ≤ m := by rw [hmm]; split <;> omega
    have all : ∀ t, t < len * k → ∃ z, w.cell? (a.add t) = some (.int .i64 z) ∧ IsI64 z := by
      intro t ht
      have hi : t / k < len := by
        apply Nat.div_lt_of_lt_mul
        rw [Nat.mul_comm]
        exact ht
      have hf : t % k < k := Nat.mod_lt _ hk0
      obtain ⟨cs', h1, h2⟩ := hx (t / k) (by omega)
      rw [hk] at h1
      obtain ⟨_, _, h3⟩ := World.cells?_some h1
      obtain ⟨z, h4, h5⟩ := hE _ _ _ h2 (t % k) hf
      refine ⟨z, ?_, h5⟩
      rw [← h4, ← h3 _ hf, add_add]
      congr 2
      have := Nat.div_add_mod t k
      rw [Nat.mul_comm] at this
      exact this.symm
    obtain ⟨Z, hZ⟩ := choose_lt (α := Int) all
    obtain ⟨b, off, spot⟩ := a
    have hpos : 0 < len * k := Nat.mul_pos (by omega) hk0
    have hspot : spot = none := by simpa [Addr.add] using World.cell?_spot (hZ 0 hpos).1
    subst hspot
    have hz0 := (hZ 0 hpos).1
    refine ⟨b, off, Z, by omega, rfl, World.block_lt_of_cell? w _ hz0, fun t ht => ?_, fun t ht => (hZ t ht).2⟩
    rw [← Go.WideShapes.add_plain]
    exact (hZ t ht).1
end

theorem cellsConfig : Try.prog.cellsOf 23 = 5 := by kernel_rfl
theorem cellsJob : Try.prog.cellsOf 31 = 5 := by kernel_rfl
theorem cellsInt : Try.prog.cellsOf 3 = 1 := by kernel_rfl
theorem bytesConfig : Try.prog.bytesOf 23 = 40 := by kernel_rfl
theorem config_ints {H : Type} {enc : TypeId × Value → H} {w : World} {base : Nat} {spare : Nat → Bool} {held : Bool} (n : Nat) (cs : List Value) (y : DataW H × List MemPlace) (h : DataW.trod enc Try.prog w base spare held n 23 cs = some y) :
    ∀ f, f < 5 → ∃ z, cs[f]? = some (.int .i64 z) ∧ IsI64 z := by
  intro f hf
  match f, hf with
  | 0, _ => exact struct_ints Try.underlying23 h 0 _ rfl rfl cellsInt Try.underlying3
  | 1, _ => exact struct_ints Try.underlying23 h 1 _ rfl rfl cellsInt Try.underlying3
  | 2, _ => exact struct_ints Try.underlying23 h 2 _ rfl rfl cellsInt Try.underlying3
  | 3, _ => exact struct_ints Try.underlying23 h 3 _ rfl rfl cellsInt Try.underlying3
  | 4, _ => exact struct_ints Try.underlying23 h 4 _ rfl rfl cellsInt Try.underlying3

theorem job_ints {H : Type} {enc : TypeId × Value → H} {w : World} {base : Nat} {spare : Nat → Bool} {held : Bool} (n : Nat) (cs : List Value) (y : DataW H × List MemPlace) (h : DataW.trod enc Try.prog w base spare held n 31 cs = some y) :
    ∀ f, f < 5 → ∃ z, cs[f]? = some (.int .i64 z) ∧ IsI64 z := by
  intro f hf
  match f, hf with
  | 0, _ => exact struct_ints Try.underlying31 h 0 _ rfl rfl cellsInt Try.underlying3
  | 1, _ => exact struct_ints Try.underlying31 h 1 _ rfl rfl cellsInt Try.underlying3
  | 2, _ => exact struct_ints Try.underlying31 h 2 _ rfl rfl cellsInt Try.underlying3
  | 3, _ => exact struct_ints Try.underlying31 h 3 _ rfl rfl cellsInt Try.underlying3
  | 4, _ => exact struct_ints Try.underlying31 h 4 _ rfl rfl cellsInt Try.underlying3

theorem small_slice {elems n b : Nat} (h : (elems + n) * b ≤ reachBytes) (hb : 40 ≤ b) : elems < 5000000000000 := by
  have h1 : (elems + n) * 40 ≤ (elems + n) * b := Nat.mul_le_mul_left _ hb
  unfold reachBytes at h
  omega
theorem small_slice80 {elems n : Nat} (h : (elems + n) * 80 ≤ reachBytes) : elems < 1759218604391 := by
  unfold reachBytes at h
  omega
theorem own : ownKnob Try.prog.godebug = none := by kernel_rfl
theorem laidOut : laidOutB Try.prog = true := by kernel_rfl
end Go.Proofs.Ytminceigjejipab

/-
  yardkeep: a case: its steps in memory; what a walk over them wants.
-/
namespace Go.Proofs.Ytminceigjejipab
open Go.ChangeShapes Go.WideShapes Go.ChangeAt Go.RowKit Go.Deep

theorem cellsStep : Try.prog.cellsOf 33 = 9 := by kernel_rfl
theorem bytesStep : Try.prog.bytesOf 33 = 72 := by kernel_rfl
theorem step_ints {H : Type} {enc : TypeId × Value → H} {w : World} {base : Nat} {spare : Nat → Bool} {held : Bool} (n : Nat) (cs : List Value) (y : DataW H × List MemPlace) (h : DataW.trod enc Try.prog w base spare held n 33 cs = some y) :
    ∀ f, f < 9 → ∃ z, cs[f]? = some (.int .i64 z) ∧ IsI64 z := by
  have hj : ∀ f, f < 5 → ∃ z, cs[4 + f]? = some (.int .i64 z) ∧ IsI64 z := by
    obtain ⟨xs, n', _, _, _, hxl, hx⟩ := DataW.trod_struct Try.underlying33 h
    have h1 : DataW.trod enc Try.prog w base spare held n' 31 ((cs.drop 4).take (Try.prog.cellsOf 31)) = xs[4]? := hx 4 _ rfl
    rw [cellsJob] at h1
    rw [List.getElem?_eq_getElem (by rw [hxl]; decide)] at h1
    intro f hf
    obtain ⟨z, h2, h3⟩ := job_ints _ _ _ h1 f hf
    refine ⟨z, ?_, h3⟩
    rw [← h2]
    simp only [List.getElem?_take, List.getElem?_drop, if_pos hf]
  intro f hf
  match f, hf with
  | 0, _ => exact struct_ints Try.underlying33 h 0 _ rfl rfl cellsInt Try.underlying3
  | 1, _ => exact struct_ints Try.underlying33 h 1 _ rfl rfl cellsInt Try.underlying3
  | 2, _ => exact struct_ints Try.underlying33 h 2 _ rfl rfl cellsInt Try.underlying3
  | 3, _ => exact struct_ints Try.underlying33 h 3 _ rfl rfl cellsInt Try.underlying3
  | 4, _ => exact hj 0 (by omega)
  | 5, _ => exact hj 1 (by omega)
  | 6, _ => exact hj 2 (by omega)
  | 7, _ => exact hj 3 (by omega)
  | 8, _ => exact hj 4 (by omega)

/-- a case: its cells -/
def caseC (c : CfgG) (sv : Value) : Array Value := #[.int .i64 c.ticks, .int .i64 c.cap, .int .i64 c.res, .int .i64 c.ten, .int .i64 c.quo, sv]
/-- step k of the steps -/
def stepZ (Z : Nat → Int) (k : Nat) : StepG := ⟨Z (k * 9), Z (k * 9 + 1), Z (k * 9 + 2), Z (k * 9 + 3), ⟨Z (k * 9 + 4), Z (k * 9 + 5), Z (k * 9 + 6), Z (k * 9 + 7), Z (k * 9 + 8)⟩⟩
theorem stepZ_i64 {Z : Nat → Int} {k sl : Nat} (h : ∀ t, t < sl * 9 → IsI64 (Z t)) (hk : k < sl) : StepI64 (stepZ Z k) := by
  have g : ∀ j, j < 9 → IsI64 (Z (k * 9 + j)) := fun j hj => h _ (by omega)
  exact ⟨g 1 (by omega), g 2 (by omega), g 3 (by omega), ⟨g 4 (by omega), g 5 (by omega), g 6 (by omega), g 7 (by omega), g 8 (by omega)⟩⟩
/-- step k, as its nine cells -/
structure StepAt (w : World) (b o : Nat) (s : StepG) : Prop where
  lt : b < w.heap.size
  c0 : w.cell? ⟨b, o, none⟩ = some (.int .i64 s.kind)
  c1 : w.cell? ⟨b, o + 1, none⟩ = some (.int .i64 s.a)
  c2 : w.cell? ⟨b, o + 2, none⟩ = some (.int .i64 s.b)
  c3 : w.cell? ⟨b, o + 3, none⟩ = some (.int .i64 s.c)
  c4 : w.cell? ⟨b, o + 4, none⟩ = some (.int .i64 s.job.arr)
  c5 : w.cell? ⟨b, o + 5, none⟩ = some (.int .i64 s.job.dl)
  c6 : w.cell? ⟨b, o + 6, none⟩ = some (.int .i64 s.job.len)
  c7 : w.cell? ⟨b, o + 7, none⟩ = some (.int .i64 s.job.units)
  c8 : w.cell? ⟨b, o + 8, none⟩ = some (.int .i64 s.job.val)
theorem StepAt.chg {w w' : World} {b o : Nat} {s : StepG} {O : Nat → Prop} (h : StepAt w b o s) (hc : Chg O w w') (hO : ¬ O b) : StepAt w' b o s := by
  have hl := h.lt
  exact ⟨Nat.lt_of_lt_of_le hl hc.size, (hc.cell (by exact hl) hO).trans h.c0, (hc.cell (by exact hl) hO).trans h.c1, (hc.cell (by exact hl) hO).trans h.c2, (hc.cell (by exact hl) hO).trans h.c3, (hc.cell (by exact hl) hO).trans h.c4, (hc.cell (by exact hl) hO).trans h.c5, (hc.cell (by exact hl) hO).trans h.c6, (hc.cell (by exact hl) hO).trans h.c7, (hc.cell (by exact hl) hO).trans h.c8⟩
theorem stepAt_rows {w : World} {b off sl : Nat} {Z : Nat → Int} (hb : b < w.heap.size) (h : ∀ t, t < sl * 9 → w.cell? ⟨b, off + t, none⟩ = some (.int .i64 (Z t))) {k : Nat} (hk : k < sl) : StepAt w b (off + k * 9) (stepZ Z k) := by
  have g : ∀ j, j < 9 → w.cell? ⟨b, off + k * 9 + j, none⟩ = some (.int .i64 (Z (k * 9 + j))) := fun j hj => by rw [Nat.add_assoc]; exact h _ (by omega)
  exact ⟨hb, g 0 (by omega), g 1 (by omega), g 2 (by omega), g 3 (by omega), g 4 (by omega), g 5 (by omega), g 6 (by omega), g 7 (by omega), g 8 (by omega)⟩
/-- the case's box and the steps, all there -/
structure CaseAt (w : World) (q : Nat) (c : CfgG) (sa : Option Addr) (sl sc : Nat) (Z : Nat → Int) : Prop where
  box : w.heap[q]? = some (.cells (caseC c (.slice sa sl sc)) 26 (0, 0))
  rows : 0 < sl → ∃ b off, sa = some ⟨b, off, none⟩ ∧ b < w.heap.size ∧ ∀ t, t < sl * 9 → w.cell? ⟨b, off + t, none⟩ = some (.int .i64 (Z t))
  i64 : ∀ t, t < sl * 9 → IsI64 (Z t)
theorem CaseAt.chg {w w' : World} {q : Nat} {c : CfgG} {sa : Option Addr} {sl sc : Nat} {Z : Nat → Int} (h : CaseAt w q c sa sl sc Z) (hc : Chg (fun _ => False) w w') : CaseAt w' q c sa sl sc Z := by
  refine ⟨(hc.block _ (Array.getElem?_eq_some_iff.1 h.box).1 (fun e => e)).trans h.box, fun hl => ?_, h.i64⟩
  obtain ⟨b, off, a1, a2, a3⟩ := h.rows hl
  exact ⟨b, off, a1, Nat.lt_of_lt_of_le a2 hc.size, fun t ht => (hc.cell (by exact a2) (fun e => e)).trans (a3 t ht)⟩
theorem CaseAt.cell {w : World} {q : Nat} {c : CfgG} {sa : Option Addr} {sl sc : Nat} {Z : Nat → Int} (h : CaseAt w q c sa sl sc Z) (f : Nat) : w.cell? ⟨q, f, none⟩ = (caseC c (.slice sa sl sc))[f]? := by
  unfold World.cell?
  rw [h.box]
  rfl
theorem CaseAt.lt {w : World} {q : Nat} {c : CfgG} {sa : Option Addr} {sl sc : Nat} {Z : Nat → Int} (h : CaseAt w q c sa sl sc Z) : q < w.heap.size := (Array.getElem?_eq_some_iff.1 h.box).1
theorem CaseAt.step {w : World} {q : Nat} {c : CfgG} {sa : Option Addr} {sl sc : Nat} {Z : Nat → Int} (h : CaseAt w q c sa sl sc Z) {k : Nat} (hk : k < sl) : ∃ b off, sa = some ⟨b, off, none⟩ ∧ StepAt w b (off + k * 9) (stepZ Z k) := by
  obtain ⟨b, off, a1, a2, a3⟩ := h.rows (by omega)
  exact ⟨b, off, a1, stepAt_rows a2 a3 hk⟩
theorem caseAt_new {w : World} {c : CfgG} {sa : Option Addr} {sl sc : Nat} (hs : IntRows w 9 sa sl) : ∃ Z, CaseAt (w.alloc (.cells (caseC c (.slice sa sl sc)) 26)) w.heap.size c sa sl sc Z := by
  rcases hs with h0 | ⟨b, off, Z, h0, rfl, hb, hcl, hw⟩
  · exact ⟨fun _ => 0, heap_alloc_new w _, fun h => by omega, fun t ht => by omega⟩
  · refine ⟨Z, heap_alloc_new w _, fun _ => ⟨b, off, rfl, ?_, fun t ht => ?_⟩, hw⟩
    · have := ((Chg.refl (fun _ => False) w).alloc (.cells (caseC c (.slice (some ⟨b, off, none⟩) sl sc)) 26)).size; omega
    · exact (((Chg.refl (fun _ => False) w).alloc _).cell (by exact hb) (fun e => e)).trans (hcl t ht)
end Go.Proofs.Ytminceigjejipab

/-
  yardkeep: a case, opened as an argument.
-/
namespace Go.Proofs.Ytminceigjejipab
open Go.ChangeShapes Go.WideShapes Go.ChangeAt Go.RowKit Go.Deep

def caseV (c : CfgG) (sv : Value) : Value := .agg (caseC c sv)
theorem cellsCase : Try.prog.cellsOf 26 = 6 := by kernel_rfl
theorem cellsSteps : Try.prog.cellsOf 24 = 1 := by kernel_rfl

set_option maxRecDepth 100000 in
theorem open_case {H : Type} {enc : TypeId × Value → H} {W : World} {b0 base : Nat} {spare : Nat → Bool} {held : Bool} {fuel : Nat} {v : Value} {x : DataW H × List MemPlace} (hv : Value.okWide Try.prog W .any b0 26 v)
    (h : DataW.trod enc Try.prog W base spare held fuel 26 v.cells.toList = some x) :
    ∃ (c : CfgG) (sa : Option Addr) (sl sc : Nat), v = caseV c (.slice sa sl sc) ∧ IntRows W 9 sa sl ∧ ∃ d0 d1, x.1 = .agg [d0, d1] ∧ ((d1 = .nil ∧ sl = 0) ∨ ∃ elems sp, d1 = .slice elems sp ∧ elems.length = sl) := by
  obtain ⟨cs, rfl, hcs⟩ := okWide_struct Try.underlying26 hv
  rw [cellsCase] at hcs
  have h' : DataW.trod enc Try.prog W base spare held fuel 26 cs.toList = some x := by simpa [Value.cells] using h
  obtain ⟨xs, n', _, hx0, hln, hxl, hx⟩ := DataW.trod_struct Try.underlying26 h'
  have hxl2 : xs.length = 2 := by rw [hxl]; rfl
  obtain ⟨x0, x1, rfl⟩ : ∃ x0 x1, xs = [x0, x1] := by
    match xs, hxl2 with
    | [a, b], _ => exact ⟨a, b, rfl⟩
  have g0 : DataW.trod enc Try.prog W base spare held n' 23 ((cs.toList.drop 0).take (Try.prog.cellsOf 23)) = some x0 := hx 0 _ rfl
  have g1 : DataW.trod enc Try.prog W base spare held n' 24 ((cs.toList.drop 5).take (Try.prog.cellsOf 24)) = some x1 := hx 1 _ rfl
  rw [cellsConfig] at g0
  rw [cellsSteps] at g1
  have ci := config_ints _ _ _ g0
  have cc : ∀ f, f < 5 → ∃ z, cs.toList[f]? = some (.int .i64 z) := fun f hf => by
    obtain ⟨z, hz, _⟩ := ci f hf
    refine ⟨z, ?_⟩
    rw [← hz]
    simp [hf]
  obtain ⟨z0, e0⟩ := cc 0 (by omega)
  obtain ⟨z1, e1⟩ := cc 1 (by omega)
  obtain ⟨z2, e2⟩ := cc 2 (by omega)
  obtain ⟨z3, e3⟩ := cc 3 (by omega)
  obtain ⟨z4, e4⟩ := cc 4 (by omega)
  obtain ⟨sa, sl, sc, e5⟩ : ∃ sa sl sc, cs.toList[5]? = some (.slice sa sl sc) := by
    rcases open_slice Try.underlying24 g1 with ⟨h0, _⟩ | ⟨a, len, cap, m, n, D, Pl, h0, _⟩
    · exact ⟨_, _, _, head_take h0⟩
    · exact ⟨_, _, _, head_take h0⟩
  have hform : cs = caseC ⟨z0, z1, z2, z3, z4⟩ (.slice sa sl sc) := by
    apply Array.ext_getElem?
    intro i
    match i with
    | 0 => simpa [caseC] using e0
    | 1 => simpa [caseC] using e1
    | 2 => simpa [caseC] using e2
    | 3 => simpa [caseC] using e3
    | 4 => simpa [caseC] using e4
    | 5 => simpa [caseC] using e5
    | i + 6 => simp [caseC, hcs]
  have hg1 : DataW.trod enc Try.prog W base spare held n' 24 [.slice sa sl sc] = some x1 := by
    rw [← g1, hform]
    rfl
  obtain ⟨hs, hsd⟩ := rows_of_slice Try.underlying24 cellsStep (by omega) step_ints hg1
  refine ⟨⟨z0, z1, z2, z3, z4⟩, sa, sl, sc, by rw [hform]; rfl, hs, x0.1, x1.1, by rw [hx0]; rfl, hsd⟩

set_option maxRecDepth 100000 in
theorem case_sized {H : Type} {d0 d1 : DataW H} {ts : List TypeId} {ds : List (DataW H)} {j sl : Nat} (h : (DataW.weightsEach Try.prog ts ds).all (· ≤ reachBytes) = true) (ht : ts[j]? = some 26) (hd : ds[j]? = some (.agg [d0, d1])) (hsd : (d1 = .nil ∧ sl = 0) ∨ ∃ elems sp, d1 = .slice elems sp ∧ elems.length = sl) : sl < 5000000000000 := by
  rcases hsd with ⟨_, h0⟩ | ⟨el, sp, rfl, hl⟩
  · omega
  · have h1 : (el.length + sp.length) * Try.prog.bytesOf 33 ∈ DataW.weights Try.prog 24 (.slice el sp) := by simp [DataW.weights, Try.underlying24]
    have h2 : (el.length + sp.length) * Try.prog.bytesOf 33 ∈ DataW.weights Try.prog 26 (.agg [d0, .slice el sp]) := by
      have := DataW.weights_mem_each (P := Try.prog) (ts := [23, 24]) (ds := [d0, .slice el sp]) (j := 1) rfl rfl _ h1
      unfold DataW.weights
      rw [Try.underlying26]
      exact this
    have h3 := List.all_eq_true.1 h _ (DataW.weights_mem_each ht hd _ h2)
    rw [bytesStep] at h3
    have h4 := of_decide_eq_true h3
    unfold reachBytes at h4
    omega
end Go.Proofs.Ytminceigjejipab
