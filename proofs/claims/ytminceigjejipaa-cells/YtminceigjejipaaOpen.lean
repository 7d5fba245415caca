import Derived.Test.YtminceigjejipaaBase
import Derived.ProofKit
import Derived.SizedLaws
import Derived.Deep.Slices
namespace Go.Proofs.Ytminceigjejipaa
open Go.ChangeShapes Go.WideShapes Go.ChangeAt Go.RowKit Go.Deep

theorem head_take {cs : List Value} {o : Nat} {v : Value} (h : (cs.drop o).take 1 = [v]) : cs[o]? = some v := by
  have : ((cs.drop o).take 1)[0]? = some v := by rw [h]; rfl
  simpa using this

def IsI64 (z : Int) : Prop := -9223372036854775808 ≤ z ∧ z ≤ 9223372036854775807
theorem isI64_wf {z : Int} (h : (Lit.int .i64 z).wf = true) : IsI64 z := by simpa [Lit.wf, IntKind.min, IntKind.max, IntKind.signed, IntKind.bits, IsI64] using h

/-- what the walks want of a slice of structs of n ints -/
def IntRows (W : World) (n : Nat) (ao : Option Addr) (len : Nat) : Prop :=
  len = 0 ∨ ∃ (b off : Nat) (Z : Nat → Int), 0 < len ∧ ao = some ⟨b, off, none⟩ ∧ b < W.heap.size ∧ (∀ t, t < len * n → W.cell? ⟨b, off + t, none⟩ = some (.int .i64 (Z t))) ∧ ∀ t, t < len * n → IsI64 (Z t)

section
variable {H : Type} {enc : TypeId × Value → H} {P : Program} {w : World} {base : Nat} {spare : Nat → Bool} {held : Bool}

theorem field_int {t : TypeId} {fuel o : Nat} {cs : List Value} {x : DataW H × List MemPlace} (ht : P.underlying t = some (.int .i64)) (h : DataW.trod enc P w base spare held fuel t ((cs.drop o).take 1) = some x) :
    ∃ z, cs[o]? = some (.int .i64 z) ∧ IsI64 z := by
  obtain ⟨z, h1, _, h2⟩ := DataW.trod_int ht h
  exact ⟨z, head_take h1, isI64_wf h2⟩

/-- a struct of ints, one cell each, in order -/
theorem struct_ints {t : TypeId} {fuel : Nat} {fs : Array Field} {cs : List Value} {x : DataW H × List MemPlace} (ht : P.underlying t = some (.struct fs)) (h : DataW.trod enc P w base spare held fuel t cs = some x)
    (i : Nat) (f : Field) (hf : fs[i]? = some f) (ho : f.offset = i) (hc : P.cellsOf f.type = 1) (hu : P.underlying f.type = some (.int .i64)) : ∃ z, cs[i]? = some (.int .i64 z) ∧ IsI64 z := by
  obtain ⟨xs, n, _, _, _, hxl, hx⟩ := DataW.trod_struct ht h
  have h1 := hx i f hf
  rw [ho, hc] at h1
  have hi : i < fs.size := (Array.getElem?_eq_some_iff.1 hf).1
  rw [List.getElem?_eq_getElem (by omega)] at h1
  exact field_int hu h1

theorem rows_of_slice {t e : TypeId} {k fuel len cap : Nat} {ao : Option Addr} {x : DataW H × List MemPlace} (ht : P.underlying t = some (.slice e)) (hk : P.cellsOf e = k) (hk0 : 0 < k)
    (hE : ∀ n cs y, DataW.trod enc P w base spare held n e cs = some y → ∀ f, f < k → ∃ z, cs[f]? = some (.int .i64 z) ∧ IsI64 z)
    (h : DataW.trod enc P w base spare held fuel t [.slice ao len cap] = some x) :
    IntRows w k ao len ∧ ((x.1 = .nil ∧ len = 0) ∨ ∃ elems sp, x.1 = .slice elems sp ∧ elems.length = len) := by
  rcases open_slice ht h with ⟨h0, rfl⟩ | ⟨a, len', cap', m, n, D, Pl, h0, hb, hl, hm, hmm, rfl, hx⟩
  · simp at h0
    exact ⟨.inl h0.2.1, .inl ⟨rfl, h0.2.1⟩⟩
  · simp only [List.cons.injEq, Value.slice.injEq, and_true] at h0
    obtain ⟨rfl, rfl, rfl⟩ := h0
    refine ⟨?_, .inr ⟨_, _, rfl, by simp⟩⟩
    by_cases hlen : len = 0
    · exact .inl hlen
    right
    have hlm : len ≤ m := by rw [hmm]; split <;> omega
    have all : ∀ t, t < len * k → ∃ z, w.cell? (a.add t) = some (.int .i64 z) ∧ IsI64 z := by
      intro t ht
      have hi : t / k < len := by
        apply Nat.div_lt_of_lt_mul
        rw [Nat.mul_comm]
        exact ht
      have hf : t % k < k := Nat.mod_lt _ hk0
      obtain ⟨cs', h1, h2⟩ := hx (t / k) (by omega)
      rw [hk] at h1
      obtain ⟨_, _, h3⟩ := World.cells?_some h1
      obtain ⟨z, h4, h5⟩ := hE _ _ _ h2 (t % k) hf
      refine ⟨z, ?_, h5⟩
      rw [← h4, ← h3 _ hf, add_add]
      congr 2
      have := Nat.div_add_mod t k
      rw [Nat.mul_comm] at this
      exact this.symm
    obtain ⟨Z, hZ⟩ := choose_lt (α := Int) all
    obtain ⟨b, off, spot⟩ := a
    have hpos : 0 < len * k := Nat.mul_pos (by omega) hk0
    have hspot : spot = none := by simpa [Addr.add] using World.cell?_spot (hZ 0 hpos).1
    subst hspot
    have hz0 := (hZ 0 hpos).1
    refine ⟨b, off, Z, by omega, rfl, World.block_lt_of_cell? w _ hz0, fun t ht => ?_, fun t ht => (hZ t ht).2⟩
    rw [← Go.WideShapes.add_plain]
    exact (hZ t ht).1
end

theorem cellsConfig : Try.prog.cellsOf 38 = 5 := by kernel_rfl
theorem cellsJob : Try.prog.cellsOf 54 = 5 := by kernel_rfl
theorem cellsInt : Try.prog.cellsOf 3 = 1 := by kernel_rfl
theorem bytesConfig : Try.prog.bytesOf 38 = 40 := by kernel_rfl
theorem config_ints {H : Type} {enc : TypeId × Value → H} {w : World} {base : Nat} {spare : Nat → Bool} {held : Bool} (n : Nat) (cs : List Value) (y : DataW H × List MemPlace) (h : DataW.trod enc Try.prog w base spare held n 38 cs = some y) :
    ∀ f, f < 5 → ∃ z, cs[f]? = some (.int .i64 z) ∧ IsI64 z := by
  intro f hf
  match f, hf with
  | 0, _ => exact struct_ints Try.underlying38 h 0 _ rfl rfl cellsInt Try.underlying3
  | 1, _ => exact struct_ints Try.underlying38 h 1 _ rfl rfl cellsInt Try.underlying3
  | 2, _ => exact struct_ints Try.underlying38 h 2 _ rfl rfl cellsInt Try.underlying3
  | 3, _ => exact struct_ints Try.underlying38 h 3 _ rfl rfl cellsInt Try.underlying3
  | 4, _ => exact struct_ints Try.underlying38 h 4 _ rfl rfl cellsInt Try.underlying3

theorem job_ints {H : Type} {enc : TypeId × Value → H} {w : World} {base : Nat} {spare : Nat → Bool} {held : Bool} (n : Nat) (cs : List Value) (y : DataW H × List MemPlace) (h : DataW.trod enc Try.prog w base spare held n 54 cs = some y) :
    ∀ f, f < 5 → ∃ z, cs[f]? = some (.int .i64 z) ∧ IsI64 z := by
  intro f hf
  match f, hf with
  | 0, _ => exact struct_ints Try.underlying54 h 0 _ rfl rfl cellsInt Try.underlying3
  | 1, _ => exact struct_ints Try.underlying54 h 1 _ rfl rfl cellsInt Try.underlying3
  | 2, _ => exact struct_ints Try.underlying54 h 2 _ rfl rfl cellsInt Try.underlying3
  | 3, _ => exact struct_ints Try.underlying54 h 3 _ rfl rfl cellsInt Try.underlying3
  | 4, _ => exact struct_ints Try.underlying54 h 4 _ rfl rfl cellsInt Try.underlying3

theorem small_slice {elems n b : Nat} (h : (elems + n) * b ≤ reachBytes) (hb : 40 ≤ b) : elems < 5000000000000 := by
  have h1 : (elems + n) * 40 ≤ (elems + n) * b := Nat.mul_le_mul_left _ hb
  unfold reachBytes at h
  omega
theorem small_slice80 {elems n : Nat} (h : (elems + n) * 80 ≤ reachBytes) : elems < 1759218604391 := by
  unfold reachBytes at h
  omega
theorem own : ownKnob Try.prog.godebug = none := by kernel_rfl
theorem laidOut : laidOutB Try.prog = true := by kernel_rfl
end Go.Proofs.Ytminceigjejipaa
