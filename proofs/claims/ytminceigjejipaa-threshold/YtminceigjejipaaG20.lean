import Derived.Test.YtminceigjejipaaG1
import Derived.ProofKit
import Derived.SizedLaws
import Derived.Deep.Slices
import Derived.Test.YtminceigjejipaaG19
import Derived.JoinedCond
namespace Go.Proofs.Ytminceigjejipaa
open Go.ChangeShapes Go.WideShapes Go.ChangeAt Go.RowKit Go.Deep

theorem head_take {cs : List Value} {o : Nat} {v : Value} (h : (cs.drop o).take 1 = [v]) : cs[o]? = some v := by
  have : ((cs.drop o).take 1)[0]? = some v := by rw [h]; rfl
  simpa using this

def IsI64 (z : Int) : Prop := -9223372036854775808 ≤ z ∧ z ≤ 9223372036854775807
theorem isI64_wf {z : Int} (h : (Lit.int .i64 z).wf = true) : IsI64 z := by simpa [Lit.wf, IntKind.min, IntKind.max, IntKind.signed, IntKind.bits, IsI64] using h

/-- what the walks want of a slice of structs of n ints -/
def IntRows (W : World) (n : Nat) (ao : Option Addr) (len : Nat) : Prop :=
  len = 0 ∨ ∃ (b off : Nat) (Z : Nat → Int), 0 < len ∧ ao = some ⟨b, off, none⟩ ∧ b < W.heap.size ∧ (∀ t, t < len * n → W.cell? ⟨b, off + t, none⟩ = some (.int .i64 (Z t))) ∧ ∀ t, t < len * n → IsI64 (Z t)

section
variable {H : Type} {enc : TypeId × Value → H} {P : Program} {w : World} {base : Nat} {spare : Nat → Bool} {held : Bool}

theorem field_int {t : TypeId} {fuel o : Nat} {cs : List Value} {x : DataW H × List MemPlace} (ht : P.underlying t = some (.int .i64)) (h : DataW.trod enc P w base spare held fuel t ((cs.drop o).take 1) = some x) :
    ∃ z, cs[o]? = some (.int .i64 z) ∧ IsI64 z := by
  obtain ⟨z, h1, _, h2⟩ := DataW.trod_int ht h
  exact ⟨z, head_take h1, isI64_wf h2⟩

/-- a struct of ints, one cell each, in order -/
theorem struct_ints {t : TypeId} {fuel : Nat} {fs : Array Field} {cs : List Value} {x : DataW H × List MemPlace} (ht : P.underlying t = some (.struct fs)) (h : DataW.trod enc P w base spare held fuel t cs = some x)
    (i : Nat) (f : Field) (hf : fs[i]? = some f) (ho : f.offset = i) (hc : P.cellsOf f.type = 1) (hu : P.underlying f.type = some (.int .i64)) : ∃ z, cs[i]? = some (.int .i64 z) ∧ IsI64 z := by
  obtain ⟨xs, n, _, _, _, hxl, hx⟩ := DataW.trod_struct ht h
  have h1 := hx i f hf
  rw [ho, hc] at h1
  have hi : i < fs.size := (Array.getElem?_eq_some_iff.1 hf).1
  rw [List.getElem?_eq_getElem (by omega)] at h1
  exact field_int hu h1

theorem rows_of_slice {t e : TypeId} {k fuel len cap : Nat} {ao : Option Addr} {x : DataW H × List MemPlace} (ht : P.underlying t = some (.slice e)) (hk : P.cellsOf e = k) (hk0 : 0 < k)
    (hE : ∀ n cs y, DataW.trod enc P w base spare held n e cs = some y → ∀ f, f < k → ∃ z, cs[f]? = some (.int .i64 z) ∧ IsI64 z)
    (h : DataW.trod enc P w base spare held fuel t [.slice ao len cap] = some x) :
    IntRows w k ao len ∧ ((x.1 = .nil ∧ len = 0) ∨ ∃ elems sp, x.1 = .slice elems sp ∧ elems.length = len) := by
  rcases open_slice ht h with ⟨h0, rfl⟩ | ⟨a, len', cap', m, n, D, Pl, h0, hb, hl, hm, hmm, rfl, hx⟩
  · simp at h0
    exact ⟨.inl h0.2.1, .inl ⟨rfl, h0.2.1⟩⟩
  · simp only [List.cons.injEq, Value.slice.injEq, and_true] at h0
    obtain ⟨rfl, rfl, rfl⟩ := h0
    refine ⟨?_, .inr ⟨_, _, rfl, by simp⟩⟩
    by_cases hlen : len = 0
    · exact .inl hlen
    right
    have hlm : len ≤ m := by rw [hmm]; split <;> omega
    have all : ∀ t, t < len * k → ∃ z, w.cell? (a.add t) = some (.int .i64 z) ∧ IsI64 z := by
      intro t ht
      have hi : t / k < len := by
        apply Nat.div_lt_of_lt_mul
        rw [Nat.mul_comm]
        exact ht
      have hf : t % k < k := Nat.mod_lt _ hk0
      obtain ⟨cs', h1, h2⟩ := hx (t / k) (by omega)
      rw [hk] at h1
      obtain ⟨_, _, h3⟩ := World.cells?_some h1
      obtain ⟨z, h4, h5⟩ := hE _ _ _ h2 (t % k) hf
      refine ⟨z, ?_, h5⟩
      rw [← h4, ← h3 _ hf, add_add]
      congr 2
      have := Nat.div_add_mod t k
      rw [Nat.mul_comm] at this
      exact this.symm
    obtain ⟨Z, hZ⟩ := choose_lt (α := Int) all
    obtain ⟨b, off, spot⟩ := a
    have hpos : 0 < len * k := Nat.mul_pos (by omega) hk0
    have hspot : spot = none := by simpa [Addr.add] using World.cell?_spot (hZ 0 hpos).1
    subst hspot
    have hz0 := (hZ 0 hpos).1
    refine ⟨b, off, Z, by omega, rfl, World.block_lt_of_cell? w _ hz0, fun t ht => ?_, fun t ht => (hZ t ht).2⟩
    rw [← Go.WideShapes.add_plain]
    exact (hZ t ht).1
end

theorem cellsConfig : Try.prog.cellsOf 38 = 5 := by kernel_rfl
theorem cellsJob : Try.prog.cellsOf 54 = 5 := by kernel_rfl
theorem cellsInt : Try.prog.cellsOf 3 = 1 := by kernel_rfl
theorem bytesConfig : Try.prog.bytesOf 38 = 40 := by kernel_rfl
theorem config_ints {H : Type} {enc : TypeId × Value → H} {w : World} {base : Nat} {spare : Nat → Bool} {held : Bool} (n : Nat) (cs : List Value) (y : DataW H × List MemPlace) (h : DataW.trod enc Try.prog w base spare held n 38 cs = some y) :
    ∀ f, f < 5 → ∃ z, cs[f]? = some (.int .i64 z) ∧ IsI64 z := by
  intro f hf
  match f, hf with
  | 0, _ => exact struct_ints Try.underlying38 h 0 _ rfl rfl cellsInt Try.underlying3
  | 1, _ => exact struct_ints Try.underlying38 h 1 _ rfl rfl cellsInt Try.underlying3
  | 2, _ => exact struct_ints Try.underlying38 h 2 _ rfl rfl cellsInt Try.underlying3
  | 3, _ => exact struct_ints Try.underlying38 h 3 _ rfl rfl cellsInt Try.underlying3
  | 4, _ => exact struct_ints Try.underlying38 h 4 _ rfl rfl cellsInt Try.underlying3

theorem job_ints {H : Type} {enc : TypeId × Value → H} {w : World} {base : Nat} {spare : Nat → Bool} {held : Bool} (n : Nat) (cs : List Value) (y : DataW H × List MemPlace) (h : DataW.trod enc Try.prog w base spare held n 54 cs = some y) :
    ∀ f, f < 5 → ∃ z, cs[f]? = some (.int .i64 z) ∧ IsI64 z := by
  intro f hf
  match f, hf with
  | 0, _ => exact struct_ints Try.underlying54 h 0 _ rfl rfl cellsInt Try.underlying3
  | 1, _ => exact struct_ints Try.underlying54 h 1 _ rfl rfl cellsInt Try.underlying3
  | 2, _ => exact struct_ints Try.underlying54 h 2 _ rfl rfl cellsInt Try.underlying3
  | 3, _ => exact struct_ints Try.underlying54 h 3 _ rfl rfl cellsInt Try.underlying3
  | 4, _ => exact struct_ints Try.underlying54 h 4 _ rfl rfl cellsInt Try.underlying3

theorem small_slice {elems n b : Nat} (h : (elems + n) * b ≤ reachBytes) (hb : 40 ≤ b) : elems < 5000000000000 := by
  have h1 : (elems + n) * 40 ≤ (elems + n) * b := Nat.mul_le_mul_left _ hb
  unfold reachBytes at h
  omega
theorem small_slice80 {elems n : Nat} (h : (elems + n) * 80 ≤ reachBytes) : elems < 1759218604391 := by
  unfold reachBytes at h
  omega
theorem own : ownKnob Try.prog.godebug = none := by kernel_rfl
theorem laidOut : laidOutB Try.prog = true := by kernel_rfl
end Go.Proofs.Ytminceigjejipaa

/-
  yardkeep: a case: its steps in memory; what a walk over them wants.
-/
namespace Go.Proofs.Ytminceigjejipaa
open Go.ChangeShapes Go.WideShapes Go.ChangeAt Go.RowKit Go.Deep

theorem cellsStep : Try.prog.cellsOf 56 = 9 := by kernel_rfl
theorem bytesStep : Try.prog.bytesOf 56 = 72 := by kernel_rfl
theorem step_ints {H : Type} {enc : TypeId × Value → H} {w : World} {base : Nat} {spare : Nat → Bool} {held : Bool} (n : Nat) (cs : List Value) (y : DataW H × List MemPlace) (h : DataW.trod enc Try.prog w base spare held n 56 cs = some y) :
    ∀ f, f < 9 → ∃ z, cs[f]? = some (.int .i64 z) ∧ IsI64 z := by
  have hj : ∀ f, f < 5 → ∃ z, cs[4 + f]? = some (.int .i64 z) ∧ IsI64 z := by
    obtain ⟨xs, n', _, _, _, hxl, hx⟩ := DataW.trod_struct Try.underlying56 h
    have h1 : DataW.trod enc Try.prog w base spare held n' 54 ((cs.drop 4).take (Try.prog.cellsOf 54)) = xs[4]? := hx 4 _ rfl
    rw [cellsJob] at h1
    rw [List.getElem?_eq_getElem (by rw [hxl]; decide)] at h1
    intro f hf
    obtain ⟨z, h2, h3⟩ := job_ints _ _ _ h1 f hf
    refine ⟨z, ?_, h3⟩
    rw [← h2]
    simp only [List.getElem?_take, List.getElem?_drop, if_pos hf]
  intro f hf
  match f, hf with
  | 0, _ => exact struct_ints Try.underlying56 h 0 _ rfl rfl cellsInt Try.underlying3
  | 1, _ => exact struct_ints Try.underlying56 h 1 _ rfl rfl cellsInt Try.underlying3
  | 2, _ => exact struct_ints Try.underlying56 h 2 _ rfl rfl cellsInt Try.underlying3
  | 3, _ => exact struct_ints Try.underlying56 h 3 _ rfl rfl cellsInt Try.underlying3
  | 4, _ => exact hj 0 (by omega)
  | 5, _ => exact hj 1 (by omega)
  | 6, _ => exact hj 2 (by omega)
  | 7, _ => exact hj 3 (by omega)
  | 8, _ => exact hj 4 (by omega)

/-- a case: its cells -/
def caseC (c : CfgG) (sv : Value) : Array Value := #[.int .i64 c.ticks, .int .i64 c.cap, .int .i64 c.res, .int .i64 c.ten, .int .i64 c.quo, sv]
/-- step k of the steps -/
def stepZ (Z : Nat → Int) (k : Nat) : StepG := ⟨Z (k * 9), Z (k * 9 + 1), Z (k * 9 + 2), Z (k * 9 + 3), ⟨Z (k * 9 + 4), Z (k * 9 + 5), Z (k * 9 + 6), Z (k * 9 + 7), Z (k * 9 + 8)⟩⟩
theorem stepZ_i64 {Z : Nat → Int} {k sl : Nat} (h : ∀ t, t < sl * 9 → IsI64 (Z t)) (hk : k < sl) : StepI64 (stepZ Z k) := by
  have g : ∀ j, j < 9 → IsI64 (Z (k * 9 + j)) := fun j hj => h _ (by omega)
  exact ⟨g 1 (by omega), g 2 (by omega), g 3 (by omega), ⟨g 4 (by omega), g 5 (by omega), g 6 (by omega), g 7 (by omega), g 8 (by omega)⟩⟩
/-- step k, as its nine cells -/
structure StepAt (w : World) (b o : Nat) (s : StepG) : Prop where
  lt : b < w.heap.size
  c0 : w.cell? ⟨b, o, none⟩ = some (.int .i64 s.kind)
  c1 : w.cell? ⟨b, o + 1, none⟩ = some (.int .i64 s.a)
  c2 : w.cell? ⟨b, o + 2, none⟩ = some (.int .i64 s.b)
  c3 : w.cell? ⟨b, o + 3, none⟩ = some (.int .i64 s.c)
  c4 : w.cell? ⟨b, o + 4, none⟩ = some (.int .i64 s.job.arr)
  c5 : w.cell? ⟨b, o + 5, none⟩ = some (.int .i64 s.job.dl)
  c6 : w.cell? ⟨b, o + 6, none⟩ = some (.int .i64 s.job.len)
  c7 : w.cell? ⟨b, o + 7, none⟩ = some (.int .i64 s.job.units)
  c8 : w.cell? ⟨b, o + 8, none⟩ = some (.int .i64 s.job.val)
theorem StepAt.chg {w w' : World} {b o : Nat} {s : StepG} {O : Nat → Prop} (h : StepAt w b o s) (hc : Chg O w w') (hO : ¬ O b) : StepAt w' b o s := by
  have hl := h.lt
  exact ⟨Nat.lt_of_lt_of_le hl hc.size, (hc.cell (by exact hl) hO).trans h.c0, (hc.cell (by exact hl) hO).trans h.c1, (hc.cell (by exact hl) hO).trans h.c2, (hc.cell (by exact hl) hO).trans h.c3, (hc.cell (by exact hl) hO).trans h.c4, (hc.cell (by exact hl) hO).trans h.c5, (hc.cell (by exact hl) hO).trans h.c6, (hc.cell (by exact hl) hO).trans h.c7, (hc.cell (by exact hl) hO).trans h.c8⟩
theorem stepAt_rows {w : World} {b off sl : Nat} {Z : Nat → Int} (hb : b < w.heap.size) (h : ∀ t, t < sl * 9 → w.cell? ⟨b, off + t, none⟩ = some (.int .i64 (Z t))) {k : Nat} (hk : k < sl) : StepAt w b (off + k * 9) (stepZ Z k) := by
  have g : ∀ j, j < 9 → w.cell? ⟨b, off + k * 9 + j, none⟩ = some (.int .i64 (Z (k * 9 + j))) := fun j hj => by rw [Nat.add_assoc]; exact h _ (by omega)
  exact ⟨hb, g 0 (by omega), g 1 (by omega), g 2 (by omega), g 3 (by omega), g 4 (by omega), g 5 (by omega), g 6 (by omega), g 7 (by omega), g 8 (by omega)⟩
/-- the case's box and the steps, all there -/
structure CaseAt (w : World) (q : Nat) (c : CfgG) (sa : Option Addr) (sl sc : Nat) (Z : Nat → Int) : Prop where
  box : w.heap[q]? = some (.cells (caseC c (.slice sa sl sc)) 41 (0, 0))
  rows : 0 < sl → ∃ b off, sa = some ⟨b, off, none⟩ ∧ b < w.heap.size ∧ ∀ t, t < sl * 9 → w.cell? ⟨b, off + t, none⟩ = some (.int .i64 (Z t))
  i64 : ∀ t, t < sl * 9 → IsI64 (Z t)
theorem CaseAt.chg {w w' : World} {q : Nat} {c : CfgG} {sa : Option Addr} {sl sc : Nat} {Z : Nat → Int} (h : CaseAt w q c sa sl sc Z) (hc : Chg (fun _ => False) w w') : CaseAt w' q c sa sl sc Z := by
  refine ⟨(hc.block _ (Array.getElem?_eq_some_iff.1 h.box).1 (fun e => e)).trans h.box, fun hl => ?_, h.i64⟩
  obtain ⟨b, off, a1, a2, a3⟩ := h.rows hl
  exact ⟨b, off, a1, Nat.lt_of_lt_of_le a2 hc.size, fun t ht => (hc.cell (by exact a2) (fun e => e)).trans (a3 t ht)⟩
theorem CaseAt.cell {w : World} {q : Nat} {c : CfgG} {sa : Option Addr} {sl sc : Nat} {Z : Nat → Int} (h : CaseAt w q c sa sl sc Z) (f : Nat) : w.cell? ⟨q, f, none⟩ = (caseC c (.slice sa sl sc))[f]? := by
  unfold World.cell?
  rw [h.box]
  rfl
theorem CaseAt.lt {w : World} {q : Nat} {c : CfgG} {sa : Option Addr} {sl sc : Nat} {Z : Nat → Int} (h : CaseAt w q c sa sl sc Z) : q < w.heap.size := (Array.getElem?_eq_some_iff.1 h.box).1
theorem CaseAt.step {w : World} {q : Nat} {c : CfgG} {sa : Option Addr} {sl sc : Nat} {Z : Nat → Int} (h : CaseAt w q c sa sl sc Z) {k : Nat} (hk : k < sl) : ∃ b off, sa = some ⟨b, off, none⟩ ∧ StepAt w b (off + k * 9) (stepZ Z k) := by
  obtain ⟨b, off, a1, a2, a3⟩ := h.rows (by omega)
  exact ⟨b, off, a1, stepAt_rows a2 a3 hk⟩
theorem caseAt_new {w : World} {c : CfgG} {sa : Option Addr} {sl sc : Nat} (hs : IntRows w 9 sa sl) : ∃ Z, CaseAt (w.alloc (.cells (caseC c (.slice sa sl sc)) 41)) w.heap.size c sa sl sc Z := by
  rcases hs with h0 | ⟨b, off, Z, h0, rfl, hb, hcl, hw⟩
  · exact ⟨fun _ => 0, heap_alloc_new w _, fun h => by omega, fun t ht => by omega⟩
  · refine ⟨Z, heap_alloc_new w _, fun _ => ⟨b, off, rfl, ?_, fun t ht => ?_⟩, hw⟩
    · have := ((Chg.refl (fun _ => False) w).alloc (.cells (caseC c (.slice (some ⟨b, off, none⟩) sl sc)) 41)).size; omega
    · exact (((Chg.refl (fun _ => False) w).alloc _).cell (by exact hb) (fun e => e)).trans (hcl t ht)
end Go.Proofs.Ytminceigjejipaa

/-
  yardkeep: a case, opened as an argument.
-/
namespace Go.Proofs.Ytminceigjejipaa
open Go.ChangeShapes Go.WideShapes Go.ChangeAt Go.RowKit Go.Deep

def caseV (c : CfgG) (sv : Value) : Value := .agg (caseC c sv)
theorem cellsCase : Try.prog.cellsOf 41 = 6 := by kernel_rfl
theorem cellsSteps : Try.prog.cellsOf 39 = 1 := by kernel_rfl

set_option maxRecDepth 100000 in
theorem open_case {H : Type} {enc : TypeId × Value → H} {W : World} {b0 base : Nat} {spare : Nat → Bool} {held : Bool} {fuel : Nat} {v : Value} {x : DataW H × List MemPlace} (hv : Value.okWide Try.prog W .any b0 41 v)
    (h : DataW.trod enc Try.prog W base spare held fuel 41 v.cells.toList = some x) :
    ∃ (c : CfgG) (sa : Option Addr) (sl sc : Nat), v = caseV c (.slice sa sl sc) ∧ IntRows W 9 sa sl ∧ ∃ d0 d1, x.1 = .agg [d0, d1] ∧ ((d1 = .nil ∧ sl = 0) ∨ ∃ elems sp, d1 = .slice elems sp ∧ elems.length = sl) := by
  obtain ⟨cs, rfl, hcs⟩ := okWide_struct Try.underlying41 hv
  rw [cellsCase] at hcs
  have h' : DataW.trod enc Try.prog W base spare held fuel 41 cs.toList = some x := by simpa [Value.cells] using h
  obtain ⟨xs, n', _, hx0, hln, hxl, hx⟩ := DataW.trod_struct Try.underlying41 h'
  have hxl2 : xs.length = 2 := by rw [hxl]; rfl
  obtain ⟨x0, x1, rfl⟩ : ∃ x0 x1, xs = [x0, x1] := by
    match xs, hxl2 with
    | [a, b], _ => exact ⟨a, b, rfl⟩
  have g0 : DataW.trod enc Try.prog W base spare held n' 38 ((cs.toList.drop 0).take (Try.prog.cellsOf 38)) = some x0 := hx 0 _ rfl
  have g1 : DataW.trod enc Try.prog W base spare held n' 39 ((cs.toList.drop 5).take (Try.prog.cellsOf 39)) = some x1 := hx 1 _ rfl
  rw [cellsConfig] at g0
  rw [cellsSteps] at g1
  have ci := config_ints _ _ _ g0
  have cc : ∀ f, f < 5 → ∃ z, cs.toList[f]? = some (.int .i64 z) := fun f hf => by
    obtain ⟨z, hz, _⟩ := ci f hf
    refine ⟨z, ?_⟩
    rw [← hz]
    simp [hf]
  obtain ⟨z0, e0⟩ := cc 0 (by omega)
  obtain ⟨z1, e1⟩ := cc 1 (by omega)
  obtain ⟨z2, e2⟩ := cc 2 (by omega)
  obtain ⟨z3, e3⟩ := cc 3 (by omega)
  obtain ⟨z4, e4⟩ := cc 4 (by omega)
  obtain ⟨sa, sl, sc, e5⟩ : ∃ sa sl sc, cs.toList[5]? = some (.slice sa sl sc) := by
    rcases open_slice Try.underlying39 g1 with ⟨h0, _⟩ | ⟨a, len, cap, m, n, D, Pl, h0, _⟩
    · exact ⟨_, _, _, head_take h0⟩
    · exact ⟨_, _, _, head_take h0⟩
  have hform : cs = caseC ⟨z0, z1, z2, z3, z4⟩ (.slice sa sl sc) := by
    apply Array.ext_getElem?
    intro i
    match i with
    | 0 => simpa [caseC] using e0
    | 1 => simpa [caseC] using e1
    | 2 => simpa [caseC] using e2
    | 3 => simpa [caseC] using e3
    | 4 => simpa [caseC] using e4
    | 5 => simpa [caseC] using e5
    | i + 6 => simp [caseC, hcs]
  have hg1 : DataW.trod enc Try.prog W base spare held n' 39 [.slice sa sl sc] = some x1 := by
    rw [← g1, hform]
    rfl
  obtain ⟨hs, hsd⟩ := rows_of_slice Try.underlying39 cellsStep (by omega) step_ints hg1
  refine ⟨⟨z0, z1, z2, z3, z4⟩, sa, sl, sc, by rw [hform]; rfl, hs, x0.1, x1.1, by rw [hx0]; rfl, hsd⟩

set_option maxRecDepth 100000 in
theorem case_sized {H : Type} {d0 d1 : DataW H} {ts : List TypeId} {ds : List (DataW H)} {j sl : Nat} (h : (DataW.weightsEach Try.prog ts ds).all (· ≤ reachBytes) = true) (ht : ts[j]? = some 41) (hd : ds[j]? = some (.agg [d0, d1])) (hsd : (d1 = .nil ∧ sl = 0) ∨ ∃ elems sp, d1 = .slice elems sp ∧ elems.length = sl) : sl < 5000000000000 := by
  rcases hsd with ⟨_, h0⟩ | ⟨el, sp, rfl, hl⟩
  · omega
  · have h1 : (el.length + sp.length) * Try.prog.bytesOf 56 ∈ DataW.weights Try.prog 39 (.slice el sp) := by simp [DataW.weights, Try.underlying39]
    have h2 : (el.length + sp.length) * Try.prog.bytesOf 56 ∈ DataW.weights Try.prog 41 (.agg [d0, .slice el sp]) := by
      have := DataW.weights_mem_each (P := Try.prog) (ts := [38, 39]) (ds := [d0, .slice el sp]) (j := 1) rfl rfl _ h1
      unfold DataW.weights
      rw [Try.underlying41]
      exact this
    have h3 := List.all_eq_true.1 h _ (DataW.weights_mem_each ht hd _ h2)
    rw [bytesStep] at h3
    have h4 := of_decide_eq_true h3
    unfold reachBytes at h4
    omega
end Go.Proofs.Ytminceigjejipaa

/-
  Sound: its walk.
-/
namespace Go.Proofs.Ytminceigjejipaa
open Go.ChangeShapes Go.WideShapes Go.ChangeAt Go.RowKit Go.Deep

set_option maxRecDepth 100000 in
set_option maxHeartbeats 4000000 in
theorem sound_bad {YAt : World → Nat → (Nat → Prop) → MkG → Prop} (hY : YardSpec YAt) (c : CfgG) (sa : Option Addr) (sl sc : Nat) (w : World) (hc : cfgOk c = false) :
    Calls Try.prog 4 #[caseV c (.slice sa sl sc)] w fun e w' => e = .returned (.bool true) ∧ Below w.heap.size w w' := by
  have HY := hide hY
  have HC := hide hc
  clear hY hc
  unfold caseV caseC
  go_enter Try.func4, Try.ntmps4
  go_wp2_with fail
  refine (open_bad' HY.out c (.slice sa sl sc) _ HC.out ⟨_, _, _, rfl⟩).mono ?_
  rintro e w1 ⟨rfl, hc1⟩
  have HC1 := hide hc1
  clear hc1
  go_wp2
  go_ret
  exact ⟨rfl, (((Chg.refl (fun _ => False) w).alloc _).trans HC1.out (fun _ _ h => h)).below (Nat.le_refl _) (fun _ h => h.elim)⟩

set_option maxRecDepth 100000 in
set_option maxHeartbeats 8000000 in
theorem sound_ok {YAt : World → Nat → (Nat → Prop) → MkG → Prop} (hY : YardSpec YAt) (hT : TickY YAt) (hP : PaidY YAt) (c : CfgG) (sa : Option Addr) (sl sc : Nat) (w : World) (hc : cfgOk c = true) (hs : IntRows w 9 sa sl) (hsl : sl < 5000000000000) :
    Calls Try.prog 4 #[caseV c (.slice sa sl sc)] w fun e w' => e = .returned (.bool true) ∧ Below w.heap.size w w' := by
  have HY := hide hY
  have HT := hide hT
  have HP := hide hP
  have HC := hide hc
  obtain ⟨Z, hcase⟩ := caseAt_new (c := c) (sc := sc) hs
  obtain ⟨w0, hw0⟩ : ∃ w0, w0 = w.alloc (.cells (caseC c (.slice sa sl sc)) 41) := ⟨_, rfl⟩
  rw [← hw0] at hcase
  have HC0 : Hid (Chg (fun _ => False) w w0) := by rw [hw0]; exact (Chg.refl _ _).alloc _
  have HCA := hide hcase
  have HW0 := hide hw0
  clear hY hT hP hc hs hcase hw0
  unfold caseV caseC
  go_enter Try.func4, Try.ntmps4
  go_wp2_with fail
  refine (open_ok' HY.out HT.out c (.slice sa sl sc) _ HC.out ⟨_, _, _, rfl⟩).mono ?_
  rintro e w1 ⟨y, F1, rfl, hown1⟩
  have hown1' : OwnY YAt w0 y F1 (openM c) w1 := by rw [HW0.out]; exact hown1
  have HO1 := hide hown1'
  have HCA1 := hide (HCA.out.chg hown1'.chg)
  have k0 : w1.cell? ⟨w.heap.size, 0, none⟩ = some (.int .i64 c.ticks) := HCA1.out.cell 0
  have k1 : w1.cell? ⟨w.heap.size, 1, none⟩ = some (.int .i64 c.cap) := HCA1.out.cell 1
  have k2 : w1.cell? ⟨w.heap.size, 2, none⟩ = some (.int .i64 c.res) := HCA1.out.cell 2
  have k3 : w1.cell? ⟨w.heap.size, 3, none⟩ = some (.int .i64 c.ten) := HCA1.out.cell 3
  have k4 : w1.cell? ⟨w.heap.size, 4, none⟩ = some (.int .i64 c.quo) := HCA1.out.cell 4
  clear hown1 hown1'
  go_wp2_with fail
  refine (begin_any c w1 HC.out).mono ?_
  rintro e w2 ⟨p, V2, rfl, hbk2, hc2, hnew2⟩
  have HK0 : Hid (∃ F V, KeepM YAt w0 y p w2 (openM c) F V (startB c)) := by
    have hs := HO1.out.chg.size
    exact ⟨F1, V2, HY.out.frame _ _ _ _ _ HO1.out.yard (fun k hk => hc2.block k (HY.out.lt _ _ _ _ HO1.out.yard k hk) (fun e => e)), hbk2, fun k hk e => (by have := hnew2 k hk; have := HY.out.lt _ _ _ _ HO1.out.yard k e; omega), HO1.out.new, fun k hk => (by have := hnew2 k hk; omega), HO1.out.chg.trans hc2 (fun _ _ e => e)⟩
  clear hbk2 hc2 hnew2 k0 k1 k2 k3 k4
  go_wp2
  go_loopw [6] (fun i wr => ∃ (k : Nat) (m : MkG) (F : Nat → Prop) (V : BV) (b : BookG), k ≤ sl ∧ i = .int .i64 k ∧ KeepM YAt w0 y p wr m F V b ∧ KeepP m b) (fun i _ => sl - (intOf i).toNat)
  case atStart =>
    obtain ⟨F, V, h⟩ := HK0.out
    exact ⟨0, openM c, F, V, startB c, Nat.zero_le _, rfl, h, GoodM.open HC.out, SoundM.open HC.out, BookRel.start c⟩
  case round =>
    obtain ⟨k, m, F, V, b, hk, rfl, hkm, hkp⟩ := hrel
    have HK := hide hkm
    have HKP := hide hkp
    have HCR := hide (HCA.out.chg hkm.chg)
    have c5 : wr.cell? ⟨w.heap.size, 5, none⟩ = some (.slice sa sl sc) := HCR.out.cell 5
    clear hkm hkp HK0 HO1 HCA1
    by_cases hlt : k < sl
    · obtain ⟨sb, off, hsa, hst⟩ := HCA.out.step hlt
      subst hsa
      have hi := stepZ_i64 HCA.out.i64 hlt
      obtain ⟨s, hst', hi'⟩ : ∃ s, StepAt w0 sb (off + k * 9) s ∧ StepI64 s := ⟨_, hst, hi⟩
      clear hst hi
      obtain ⟨kd, A, B, C, ⟨ja, jd, jl, ju, jv⟩⟩ := s
      have HST := hide hst'
      have HI := hide hi'
      clear hst' hi'
      have n0 : (0 : Int) ≤ (k : Int) := by omega
      have n1 : (k : Int) < (sl : Int) := by omega
      go_wp2_with fail
      refine (HY.out.now wr y F m HK.out.yard HKP.out.good.ok).mono ?_
      rintro e w3 ⟨rfl, hto⟩
      obtain ⟨F3, hk3, _, _⟩ := HK.out.yto hto
      have HK3 := hide hk3
      have c5 : w3.cell? ⟨w.heap.size, 5, none⟩ = some (.slice (some ⟨sb, off, none⟩) sl sc) := (HCA.out.chg hk3.chg).cell 5
      obtain ⟨_, q0, q1, q2, q3, q4, q5, q6, q7, q8⟩ := HST.out.chg hk3.chg (fun e => e)
      simp only at q0 q1 q2 q3 q4 q5 q6 q7 q8
      clear hk3 hto
      go_wp2_with fail
      refine (does_any HY.out HT.out HP.out y F3 m ⟨kd, A, B, C, ⟨ja, jd, jl, ju, jv⟩⟩ w3 HK3.out.yard HKP.out.good HI.out).mono ?_
      rintro e w4 ⟨z, names, bills, m', F4, nv, bv, rfl, hres, htold⟩
      obtain ⟨na, nc, hnv⟩ := ownsRow_form htold.ns
      obtain ⟨ba, bc, hbv⟩ := ownsRow_form htold.bs
      subst hnv
      subst hbv
      obtain ⟨hk4, _, _⟩ := HK3.out.told htold
      have HRES := hide hres
      obtain ⟨w5, hw5⟩ : ∃ w5, w5 = w4.alloc (.cells #[.int .i64 z, .slice na names.length nc, .slice ba bills.length bc] 51) := ⟨_, rfl⟩
      have hk5 : KeepM YAt w0 y p w5 m' F4 V b := by rw [hw5]; exact hk4.chg0 HY.out ((Chg.refl _ _).alloc _)
      have hb5 : w5.heap[w4.heap.size]? = some (.cells #[.int .i64 z, .slice na names.length nc, .slice ba bills.length bc] 51 (0, 0)) := by rw [hw5]; exact heap_alloc_new w4 _
      have hnf : ¬ V.foot p w4.heap.size := fun e => Nat.lt_irrefl _ (hk4.book.foot_lt _ e)
      have HK5 := hide hk5
      have HB5 := hide hb5
      have HNF := hide hnf
      have HW5 := hide hw5
      clear hk4 hres htold q0 q1 q2 q3 q4 q5 q6 q7 q8 c5 hw5
      go_wp2
      rw [← HW5.out]
      have t0 : w5.cell? ⟨w4.heap.size, 0, none⟩ = some (.int .i64 z) := by unfold World.cell?; rw [HB5.out]; rfl
      have c5 : w5.cell? ⟨w.heap.size, 5, none⟩ = some (.slice (some ⟨sb, off, none⟩) sl sc) := (HCA.out.chg hk5.chg).cell 5
      obtain ⟨_, q0, q1, q2, q3, q4, q5, q6, q7, q8⟩ := HST.out.chg hk5.chg (fun e => e)
      simp only at q0 q1 q2 q3 q4 q5 q6 q7 q8
      clear hk5 hb5 hnf HW5
      go_region_held3 (fun w' => w'.cell? ⟨w4.heap.size, 0, none⟩ = some (.int .i64 z) ∧ w'.cell? ⟨w.heap.size, 5, none⟩ = some (.slice (some ⟨sb, off, none⟩) sl sc) ∧ w'.cell? ⟨sb, off + k * 9, none⟩ = some (.int .i64 kd) ∧ w'.cell? ⟨sb, off + k * 9 + 1, none⟩ = some (.int .i64 A) ∧ w'.cell? ⟨sb, off + k * 9 + 2, none⟩ = some (.int .i64 B) ∧ w'.cell? ⟨sb, off + k * 9 + 3, none⟩ = some (.int .i64 C) ∧ w'.cell? ⟨sb, off + k * 9 + 4, none⟩ = some (.int .i64 ja) ∧ w'.cell? ⟨sb, off + k * 9 + 5, none⟩ = some (.int .i64 jd) ∧ w'.cell? ⟨sb, off + k * 9 + 6, none⟩ = some (.int .i64 jl) ∧ w'.cell? ⟨sb, off + k * 9 + 7, none⟩ = some (.int .i64 ju) ∧ w'.cell? ⟨sb, off + k * 9 + 8, none⟩ = some (.int .i64 jv)) (go_keep)
        (first | (go_at_call 19; refine (notes_does p V b k ⟨kd, A, B, C, ⟨ja, jd, jl, ju, jv⟩⟩ _ (by first | exact HK5.out.book.chg0 ((Chg.refl _ _).drew) | exact HK5.out.book) HKP.out HRES.out).mono ?_; rintro e w6 ⟨rfl, hto⟩; obtain ⟨V6, hk6, hch6, _⟩ := KeepM.note HY.out (by first | exact HK5.out.chg0 HY.out ((Chg.refl _ _).drew) | exact HK5.out) hto; have HK6 := hide hk6; have t0' : w6.cell? ⟨w4.heap.size, 0, none⟩ = some (.int .i64 z) := (by rw [hch6.cell (by exact (Array.getElem?_eq_some_iff.1 HB5.out).1) HNF.out]; exact t0); have c5' : w6.cell? ⟨w.heap.size, 5, none⟩ = some (.slice (some ⟨sb, off, none⟩) sl sc) := (HCA.out.chg hk6.chg).cell 5; obtain ⟨_, r0, r1, r2, r3, r4, r5, r6, r7, r8⟩ := HST.out.chg hk6.chg (fun e => e); simp only at r0 r1 r2 r3 r4 r5 r6 r7 r8; clear hk6 hch6 hto))
      have HKP6 := hide (HKP.out.step HRES.out k)
      clear t0 c5 q0 q1 q2 q3 q4 q5 q6 q7 q8 t0' c5' r0 r1 r2 r3 r4 r5 r6 r7 r8
      go_wp2_with fail
      refine (sound_any HY.out y F4 m' p V6 _ w6 HK6.out.yard HKP6.out.good HKP6.out.sound HK6.out.book HKP6.out.rel HK6.out.apart).mono ?_
      rintro e w7 ⟨rfl, F7, h1, h2, h3, h4, h5⟩
      have HK7 := hide (HK6.out.seen h1 h2 h3 h4 h5)
      clear h1 h2 h3 h4 h5
      go_wp2
      go_roundw
      case rel => exact ⟨k + 1, m', F7, V6, _, by omega, by go_num, HK7.out, HKP6.out.seen⟩
      case measure => simp [intOf]; omega
    · have HNL := hide hlt
      clear hlt
      go_wp2
      go_ret
      exact ⟨rfl, (HC0.out.trans HK.out.chg (fun _ _ h => h)).below (Nat.le_refl _) (fun _ h => h.elim)⟩
end Go.Proofs.Ytminceigjejipaa
