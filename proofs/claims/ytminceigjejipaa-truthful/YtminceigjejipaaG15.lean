import Derived.Test.YtminceigjejipaaKpH
import Derived.Test.YtminceigjejipaaG13
import Derived.Test.YtminceigjejipaaKpI
import Derived.Test.YtminceigjejipaaKpL
import Derived.Test.YtminceigjejipaaG1
import Derived.ProofKit
import Derived.SizedLaws
import Derived.Deep.Slices
import Derived.JoinedCond
/-
  yardkeep: between the steps: the market and the book in memory, all of it new.
-/
namespace Go.Proofs.Ytminceigjejipaa
open Go.RowKit

structure KeepM (YAt : World → Nat → (Nat → Prop) → MkG → Prop) (w0 : World) (y p : Nat) (wr : World) (m : MkG) (F : Nat → Prop) (V : BV) (b : BookG) : Prop where
  yard : YAt wr y F m
  book : BookAt wr p V b
  apart : ∀ k, V.foot p k → ¬ F k
  newF : ∀ k, F k → w0.heap.size ≤ k
  newB : ∀ k, V.foot p k → w0.heap.size ≤ k
  chg : Chg (fun _ => False) w0 wr
section
variable {YAt : World → Nat → (Nat → Prop) → MkG → Prop} {w0 wr w2 : World} {y p : Nat} {m m' : MkG} {F : Nat → Prop} {V : BV} {b b' : BookG}
theorem KeepM.yto (h : KeepM YAt w0 y p wr m F V b) (ht : YTo YAt wr y F m' w2) : ∃ F', KeepM YAt w0 y p w2 m' F' V b ∧ Chg F wr w2 ∧ ∀ k, F' k → F k ∨ wr.heap.size ≤ k := by
  obtain ⟨F', a1, a2, a3⟩ := ht
  have hs := h.chg.size
  refine ⟨F', ⟨a1, h.book.chg a2 (fun k hk e => h.apart k hk e), fun k hk e => ?_, fun k hk => ?_, h.newB, h.chg.trans a2 (fun x hx e => ?_)⟩, a2, a3⟩
  · rcases a3 k e with e | e
    · exact h.apart k hk e
    · have := h.book.foot_lt k hk; omega
  · rcases a3 k hk with e | e
    · exact h.newF k e
    · omega
  · have := h.newF x e; omega
theorem KeepM.chg0 (hY : YardSpec YAt) (h : KeepM YAt w0 y p wr m F V b) (hc : Chg (fun _ => False) wr w2) : KeepM YAt w0 y p w2 m F V b :=
  ⟨hY.frame _ _ _ _ _ h.yard (fun k hk => hc.block k (hY.lt _ _ _ _ h.yard k hk) (fun e => e)), h.book.chg0 hc, h.apart, h.newF, h.newB, h.chg.trans hc (fun _ _ e => e)⟩
/-- a block of nobody's has turned -/
theorem KeepM.fresh (hY : YardSpec YAt) (h : KeepM YAt w0 y p wr m F V b) {X : Nat → Prop} (hc : Chg X wr w2) (hX : ∀ k, X k → w0.heap.size ≤ k ∧ ¬ F k ∧ ¬ V.foot p k) : KeepM YAt w0 y p w2 m F V b :=
  ⟨hY.frame _ _ _ _ _ h.yard (fun k hk => hc.block k (hY.lt _ _ _ _ h.yard k hk) (fun e => (hX k e).2.1 hk)), h.book.chg hc (fun k hk e => (hX k e).2.2 hk), h.apart, h.newF, h.newB, h.chg.trans hc (fun x hx e => by have := (hX x e).1; omega)⟩
theorem KeepM.told (h : KeepM YAt w0 y p wr m F V b) {names : List (Int × Int)} {bills : List InvG} {nv bv : Value} {F' : Nat → Prop} (ht : ToldAt YAt wr y F m' names bills nv bv F' w2) : KeepM YAt w0 y p w2 m' F' V b ∧ (∀ k, nv.ownBlock = some k → w0.heap.size ≤ k ∧ ¬ V.foot p k) ∧ (∀ k, bv.ownBlock = some k → w0.heap.size ≤ k ∧ ¬ V.foot p k) := by
  have hs := h.chg.size
  refine ⟨⟨ht.yard, h.book.chg ht.chg (fun k hk e => h.apart k hk e), fun k hk e => ?_, fun k hk => ?_, h.newB, h.chg.trans ht.chg (fun x hx e => ?_)⟩, fun k hk => ⟨?_, fun e => ?_⟩, fun k hk => ⟨?_, fun e => ?_⟩⟩
  · rcases ht.foot k e with e | e
    · exact h.apart k hk e
    · have := h.book.foot_lt k hk; omega
  · rcases ht.foot k hk with e | e
    · exact h.newF k e
    · omega
  · have := h.newF x e; omega
  · have := (ht.nn k hk).1; omega
  · have := (ht.nn k hk).1; have := h.book.foot_lt k e; omega
  · have := (ht.bn k hk).1; omega
  · have := (ht.bn k hk).1; have := h.book.foot_lt k e; omega
theorem KeepM.note (hY : YardSpec YAt) (h : KeepM YAt w0 y p wr m F V b) (ht : BookTo wr p V b' w2) : ∃ V', KeepM YAt w0 y p w2 m F V' b' ∧ Chg (V.foot p) wr w2 ∧ ∀ k, V'.foot p k → V.foot p k ∨ wr.heap.size ≤ k := by
  obtain ⟨V', a1, a2, a3⟩ := ht
  have hs := h.chg.size
  refine ⟨V', ⟨hY.frame _ _ _ _ _ h.yard (fun k hk => a2.block k (hY.lt _ _ _ _ h.yard k hk) (fun e => h.apart k e hk)), a1, fun k hk e => ?_, h.newF, fun k hk => ?_, h.chg.trans a2 (fun x hx e => ?_)⟩, a2, a3⟩
  · rcases a3 k hk with e' | e'
    · exact h.apart k e' e
    · have := hY.lt _ _ _ _ h.yard k e; omega
  · rcases a3 k hk with e | e
    · exact h.newB k e
    · omega
  · have := h.newB x e; omega
/-- behind 'sound' -/
theorem KeepM.seen (h : KeepM YAt w0 y p wr m F V b) {F' : Nat → Prop} (h1 : YAt w2 y F' m) (h2 : BookAt w2 p V b') (h3 : Chg (fun k => F k ∨ V.foot p k) wr w2) (h4 : ∀ k, F' k → F k ∨ wr.heap.size ≤ k) (h5 : ∀ k, V.foot p k → ¬ F' k) : KeepM YAt w0 y p w2 m F' V b' := by
  have hs := h.chg.size
  refine ⟨h1, h2, h5, fun k hk => ?_, h.newB, h.chg.trans h3 (fun x hx e => ?_)⟩
  · rcases h4 k hk with e | e
    · exact h.newF k e
    · omega
  · rcases e with e | e
    · have := h.newF x e; omega
    · have := h.newB x e; omega
end
/-- what holds of a market and its book between the steps -/
structure KeepP (m : MkG) (b : BookG) : Prop where
  good : GoodM m
  sound : SoundM m
  rel : BookRel m b
theorem KeepP.step {m m' : MkG} {b : BookG} (h : KeepP m b) {s : StepG} {z : Int} {names : List (Int × Int)} {bills : List InvG} (hr : DoesRes m s z names bills m') (i : Int) : KeepP m' (noteB b i s z m.time) :=
  ⟨hr.good h.good, (h.sound.does h.good hr).1, h.rel.note h.good h.sound hr i⟩
theorem KeepP.seen {m : MkG} {b : BookG} (h : KeepP m b) : KeepP m (seenB m b) := ⟨h.good, h.sound, h.rel.seen⟩
end Go.Proofs.Ytminceigjejipaa

/-
  yardkeep: 'notes', whole.
-/
namespace Go.Proofs.Ytminceigjejipaa
open Go.RowKit

theorem notes_any (p : Nat) (V : BV) (b : BookG) (i z now : Int) (s : StepG) (w : World) (hb : BookAt w p V b) (hok : NoteOk b s z now) (hsl : b.susp.length = b.c.ten.toNat) (hul : b.units.length = b.c.ticks.toNat) (h64 : b.c.ticks ≤ 64) (hbl : b.bids.length ≤ 300) (hnow : 0 ≤ now) :
    Calls Try.prog 19 #[.pointer (some ⟨p, 0, none⟩), .int .i64 i, stepV s, .int .i64 z, .int .i64 now] w fun e w' => e = .returned (.bool true) ∧ BookTo w p V (noteB b i s z now) w' := by
  by_cases hz : z = 0
  · subst hz
    by_cases h1 : s.kind = 1
    · obtain ⟨a1, a2, a3⟩ := hok.k1 rfl h1
      obtain ⟨k, sa, sb, sc, j⟩ := s
      simp only at h1 a1 a2 a3
      subst h1
      have e : noteB b i ⟨1, sa, sb, sc, j⟩ 0 now = { b with bids := b.bids ++ [knownNew i now ⟨1, sa, sb, sc, j⟩] } := by
        unfold noteB
        rw [if_pos ⟨rfl, rfl⟩]
      rw [e]
      by_cases hlt : j.arr < now
      · exact notes_bid_lt p V b i now sa sb sc j w hb a1 a2 a3 h64 hbl hlt
      · exact notes_bid_ge p V b i now sa sb sc j w hb a1 a2 a3 h64 hbl hlt
    · by_cases h3 : s.kind = 3
      · have a1 := hok.k3 rfl h3
        obtain ⟨k, sa, sb, sc, j⟩ := s
        simp only at h3 a1
        subst h3
        have e : noteB b i ⟨3, sa, sb, sc, j⟩ 0 now = { b with susp := b.susp.set sa.toNat (evenB sb) } := by
          unfold noteB
          rw [if_neg (fun h => h1 h.2), if_pos ⟨rfl, rfl⟩]
        rw [e]
        exact notes_susp p V b i now sa sb sc j w hb a1 hsl
      · by_cases h4 : s.kind = 4
        · have a1 := hok.k4 rfl h4
          obtain ⟨k, sa, sb, sc, j⟩ := s
          simp only at h4 a1
          subst h4
          have e : noteB b i ⟨4, sa, sb, sc, j⟩ 0 now = { b with units := unitsTo b.units sa sb sc } := by
            unfold noteB
            rw [if_neg (fun h => h1 h.2), if_neg (fun h => h3 h.2), if_pos ⟨rfl, rfl⟩]
          rw [e]
          exact notes_units p V b i now sa sb sc j w hb a1 hnow hul h64
        · rw [noteB_kind h1 h3 h4]
          exact notes_none p V b i now s w hb h1 h3 h4
  · rw [noteB_err hz]
    exact notes_err p V b i z now s w hb hz

/-- of a step that was made -/
theorem notes_does {m m' : MkG} (p : Nat) (V : BV) (b : BookG) (i : Int) (s : StepG) (w : World) (hb : BookAt w p V b) (hp : KeepP m b) {z : Int} {names : List (Int × Int)} {bills : List InvG} (hr : DoesRes m s z names bills m') :
    Calls Try.prog 19 #[.pointer (some ⟨p, 0, none⟩), .int .i64 i, stepV s, .int .i64 z, .int .i64 m.time] w fun e w' => e = .returned (.bool true) ∧ BookTo w p V (noteB b i s z m.time) w' := by
  have hc := cfgOk_true hp.good.ok.ck
  refine notes_any p V b i z m.time s w hb (noteOk_does hp.rel hr) ?_ ?_ ?_ ?_ hp.good.ok.t0
  · rw [hp.rel.susp, hp.rel.c]; exact hp.good.ok.ns
  · rw [hp.rel.units, hp.rel.c]; exact hp.good.ok.nu
  · rw [hp.rel.c]; omega
  · rw [hp.rel.len]; exact hp.good.ok.bl
end Go.Proofs.Ytminceigjejipaa

namespace Go.Proofs.Ytminceigjejipaa
open Go.ChangeShapes Go.WideShapes Go.ChangeAt Go.RowKit Go.Deep

theorem head_take {cs : List Value} {o : Nat} {v : Value} (h : (cs.drop o).take 1 = [v]) : cs[o]? = some v := by
  have : ((cs.drop o).take 1)[0]? = some v := by rw [h]; rfl
  simpa using this

def IsI64 (z : Int) : Prop := -9223372036854775808 ≤ z ∧ z ≤ 9223372036854775807
theorem isI64_wf {z : Int} (h : (Lit.int .i64 z).wf = true) : IsI64 z := by simpa [Lit.wf, IntKind.min, IntKind.max, IntKind.signed, IntKind.bits, IsI64] using h

/-- what the walks want of a slice of structs of n ints -/
def IntRows (W : World) (n : Nat) (ao : Option Addr) (len : Nat) : Prop :=
  len = 0 ∨ ∃ (b off : Nat) (Z : Nat → Int), 0 < len ∧ ao = some ⟨b, off, none⟩ ∧ b < W.heap.size ∧ (∀ t, t < len * n → W.cell? ⟨b, off + t, none⟩ = some (.int .i64 (Z t))) ∧ ∀ t, t < len * n → IsI64 (Z t)

section
variable {H : Type} {enc : TypeId × Value → H} {P : Program} {w : World} {base : Nat} {spare : Nat → Bool} {held : Bool}

theorem field_int {t : TypeId} {fuel o : Nat} {cs : List Value} {x : DataW H × List MemPlace} (ht : P.underlying t = some (.int .i64)) (h : DataW.trod enc P w base spare held fuel t ((cs.drop o).take 1) = some x) :
    ∃ z, cs[o]? = some (.int .i64 z) ∧ IsI64 z := by
  obtain ⟨z, h1, _, h2⟩ := DataW.trod_int ht h
  exact ⟨z, head_take h1, isI64_wf h2⟩

/-- a struct of ints, one cell each, in order -/
theorem struct_ints {t : TypeId} {fuel : Nat} {fs : Array Field} {cs : List Value} {x : DataW H × List MemPlace} (ht : P.underlying t = some (.struct fs)) (h : DataW.trod enc P w base spare held fuel t cs = some x)
    (i : Nat) (f : Field) (hf : fs[i]? = some f) (ho : f.offset = i) (hc : P.cellsOf f.type = 1) (hu : P.underlying f.type = some (.int .i64)) : ∃ z, cs[i]? = some (.int .i64 z) ∧ IsI64 z := by
  obtain ⟨xs, n, _, _, _, hxl, hx⟩ := DataW.trod_struct ht h
  have h1 := hx i f hf
  rw [ho, hc] at h1
  have hi : i < fs.size := (Array.getElem?_eq_some_iff.1 hf).1
  rw [List.getElem?_eq_getElem (by omega)] at h1
  exact field_int hu h1

theorem rows_of_slice {t e : TypeId} {k fuel len cap : Nat} {ao : Option Addr} {x : DataW H × List MemPlace} (ht : P.underlying t = some (.slice e)) (hk : P.cellsOf e = k) (hk0 : 0 < k)
    (hE : ∀ n cs y, DataW.trod enc P w base spare held n e cs = some y → ∀ f, f < k → ∃ z, cs[f]? = some (.int .i64 z) ∧ IsI64 z)
    (h : DataW.trod enc P w base spare held fuel t [.slice ao len cap] = some x) :
    IntRows w k ao len ∧ ((x.1 = .nil ∧ len = 0) ∨ ∃ elems sp, x.1 = .slice elems sp ∧ elems.length = len) := by
  rcases open_slice ht h with ⟨h0, rfl⟩ | ⟨a, len', cap', m, n, D, Pl, h0, hb, hl, hm, hmm, rfl, hx⟩
  · simp at h0
    exact ⟨.inl h0.2.1, .inl ⟨rfl, h0.2.1⟩⟩
  · simp only [List.cons.injEq, Value.slice.injEq, and_true] at h0
    obtain ⟨rfl, rfl, rfl⟩ := h0
    refine ⟨?_, .inr ⟨_, _, rfl, by simp⟩⟩
    by_cases hlen : len = 0
    · exact .inl hlen
    right
    have hlm : len ≤ m := by rw [hmm]; split <;> omega
    have all : ∀ t, t < len * k → ∃ z, w.cell? (a.add t) = some (.int .i64 z) ∧ IsI64 z := by
      intro t ht
      have hi : t / k < len := by
        apply Nat.div_lt_of_lt_mul
        rw [Nat.mul_comm]
        exact ht
      have hf : t % k < k := Nat.mod_lt _ hk0
      obtain ⟨cs', h1, h2⟩ := hx (t / k) (by omega)
      rw [hk] at h1
      obtain ⟨_, _, h3⟩ := World.cells?_some h1
      obtain ⟨z, h4, h5⟩ := hE _ _ _ h2 (t % k) hf
      refine ⟨z, ?_, h5⟩
      rw [← h4, ← h3 _ hf, add_add]
      congr 2
      have := Nat.div_add_mod t k
      rw [Nat.mul_comm] at this
      exact this.symm
    obtain ⟨Z, hZ⟩ := choose_lt (α := Int) all
    obtain ⟨b, off, spot⟩ := a
    have hpos : 0 < len * k := Nat.mul_pos (by omega) hk0
    have hspot : spot = none := by simpa [Addr.add] using World.cell?_spot (hZ 0 hpos).1
    subst hspot
    have hz0 := (hZ 0 hpos).1
    refine ⟨b, off, Z, by omega, rfl, World.block_lt_of_cell? w _ hz0, fun t ht => ?_, fun t ht => (hZ t ht).2⟩
    rw [← Go.WideShapes.add_plain]
    exact (hZ t ht).1
end

theorem cellsConfig : Try.prog.cellsOf 38 = 5 := by kernel_rfl
theorem cellsJob : Try.prog.cellsOf 54 = 5 := by kernel_rfl
theorem cellsInt : Try.prog.cellsOf 3 = 1 := by kernel_rfl
theorem bytesConfig : Try.prog.bytesOf 38 = 40 := by kernel_rfl
theorem config_ints {H : Type} {enc : TypeId × Value → H} {w : World} {base : Nat} {spare : Nat → Bool} {held : Bool} (n : Nat) (cs : List Value) (y : DataW H × List MemPlace) (h : DataW.trod enc Try.prog w base spare held n 38 cs = some y) :
    ∀ f, f < 5 → ∃ z, cs[f]? = some (.int .i64 z) ∧ IsI64 z := by
  intro f hf
  match f, hf with
  | 0, _ => exact struct_ints Try.underlying38 h 0 _ rfl rfl cellsInt Try.underlying3
  | 1, _ => exact struct_ints Try.underlying38 h 1 _ rfl rfl cellsInt Try.underlying3
  | 2, _ => exact struct_ints Try.underlying38 h 2 _ rfl rfl cellsInt Try.underlying3
  | 3, _ => exact struct_ints Try.underlying38 h 3 _ rfl rfl cellsInt Try.underlying3
  | 4, _ => exact struct_ints Try.underlying38 h 4 _ rfl rfl cellsInt Try.underlying3

theorem job_ints {H : Type} {enc : TypeId × Value → H} {w : World} {base : Nat} {spare : Nat → Bool} {held : Bool} (n : Nat) (cs : List Value) (y : DataW H × List MemPlace) (h : DataW.trod enc Try.prog w base spare held n 54 cs = some y) :
    ∀ f, f < 5 → ∃ z, cs[f]? = some (.int .i64 z) ∧ IsI64 z := by
  intro f hf
  match f, hf with
  | 0, _ => exact struct_ints Try.underlying54 h 0 _ rfl rfl cellsInt Try.underlying3
  | 1, _ => exact struct_ints Try.underlying54 h 1 _ rfl rfl cellsInt Try.underlying3
  | 2, _ => exact struct_ints Try.underlying54 h 2 _ rfl rfl cellsInt Try.underlying3
  | 3, _ => exact struct_ints Try.underlying54 h 3 _ rfl rfl cellsInt Try.underlying3
  | 4, _ => exact struct_ints Try.underlying54 h 4 _ rfl rfl cellsInt Try.underlying3

theorem small_slice {elems n b : Nat} (h : (elems + n) * b ≤ reachBytes) (hb : 40 ≤ b) : elems < 5000000000000 := by
  have h1 : (elems + n) * 40 ≤ (elems + n) * b := Nat.mul_le_mul_left _ hb
  unfold reachBytes at h
  omega
theorem small_slice80 {elems n : Nat} (h : (elems + n) * 80 ≤ reachBytes) : elems < 1759218604391 := by
  unfold reachBytes at h
  omega
theorem own : ownKnob Try.prog.godebug = none := by kernel_rfl
theorem laidOut : laidOutB Try.prog = true := by kernel_rfl
end Go.Proofs.Ytminceigjejipaa

/-
  yardkeep: a case: its steps in memory; what a walk over them wants.
-/
namespace Go.Proofs.Ytminceigjejipaa
open Go.ChangeShapes Go.WideShapes Go.ChangeAt Go.RowKit Go.Deep

theorem cellsStep : Try.prog.cellsOf 56 = 9 := by kernel_rfl
theorem bytesStep : Try.prog.bytesOf 56 = 72 := by kernel_rfl
theorem step_ints {H : Type} {enc : TypeId × Value → H} {w : World} {base : Nat} {spare : Nat → Bool} {held : Bool} (n : Nat) (cs : List Value) (y : DataW H × List MemPlace) (h : DataW.trod enc Try.prog w base spare held n 56 cs = some y) :
    ∀ f, f < 9 → ∃ z, cs[f]? = some (.int .i64 z) ∧ IsI64 z := by
  have hj : ∀ f, f < 5 → ∃ z, cs[4 + f]? = some (.int .i64 z) ∧ IsI64 z := by
    obtain ⟨xs, n', _, _, _, hxl, hx⟩ := DataW.trod_struct Try.underlying56 h
    have h1 : DataW.trod enc Try.prog w base spare held n' 54 ((cs.drop 4).take (Try.prog.cellsOf 54)) = xs[4]? := hx 4 _ rfl
    rw [cellsJob] at h1
    rw [List.getElem?_eq_getElem (by rw [hxl]; decide)] at h1
    intro f hf
    obtain ⟨z, h2, h3⟩ := job_ints _ _ _ h1 f hf
    refine ⟨z, ?_, h3⟩
    rw [← h2]
    simp only [List.getElem?_take, List.getElem?_drop, if_pos hf]
  intro f hf
  match f, hf with
  | 0, _ => exact struct_ints Try.underlying56 h 0 _ rfl rfl cellsInt Try.underlying3
  | 1, _ => exact struct_ints Try.underlying56 h 1 _ rfl rfl cellsInt Try.underlying3
  | 2, _ => exact struct_ints Try.underlying56 h 2 _ rfl rfl cellsInt Try.underlying3
  | 3, _ => exact struct_ints Try.underlying56 h 3 _ rfl rfl cellsInt Try.underlying3
  | 4, _ => exact hj 0 (by omega)
  | 5, _ => exact hj 1 (by omega)
  | 6, _ => exact hj 2 (by omega)
  | 7, _ => exact hj 3 (by omega)
  | 8, _ => exact hj 4 (by omega)

/-- a case: its cells -/
def caseC (c : CfgG) (sv : Value) : Array Value := #[.int .i64 c.ticks, .int .i64 c.cap, .int .i64 c.res, .int .i64 c.ten, .int .i64 c.quo, sv]
/-- step k of the steps -/
def stepZ (Z : Nat → Int) (k : Nat) : StepG := ⟨Z (k * 9), Z (k * 9 + 1), Z (k * 9 + 2), Z (k * 9 + 3), ⟨Z (k * 9 + 4), Z (k * 9 + 5), Z (k * 9 + 6), Z (k * 9 + 7), Z (k * 9 + 8)⟩⟩
theorem stepZ_i64 {Z : Nat → Int} {k sl : Nat} (h : ∀ t, t < sl * 9 → IsI64 (Z t)) (hk : k < sl) : StepI64 (stepZ Z k) := by
  have g : ∀ j, j < 9 → IsI64 (Z (k * 9 + j)) := fun j hj => h _ (by omega)
  exact ⟨g 1 (by omega), g 2 (by omega), g 3 (by omega), ⟨g 4 (by omega), g 5 (by omega), g 6 (by omega), g 7 (by omega), g 8 (by omega)⟩⟩
/-- step k, as its nine cells -/
structure StepAt (w : World) (b o : Nat) (s : StepG) : Prop where
  lt : b < w.heap.size
  c0 : w.cell? ⟨b, o, none⟩ = some (.int .i64 s.kind)
  c1 : w.cell? ⟨b, o + 1, none⟩ = some (.int .i64 s.a)
  c2 : w.cell? ⟨b, o + 2, none⟩ = some (.int .i64 s.b)
  c3 : w.cell? ⟨b, o + 3, none⟩ = some (.int .i64 s.c)
  c4 : w.cell? ⟨b, o + 4, none⟩ = some (.int .i64 s.job.arr)
  c5 : w.cell? ⟨b, o + 5, none⟩ = some (.int .i64 s.job.dl)
  c6 : w.cell? ⟨b, o + 6, none⟩ = some (.int .i64 s.job.len)
  c7 : w.cell? ⟨b, o + 7, none⟩ = some (.int .i64 s.job.units)
  c8 : w.cell? ⟨b, o + 8, none⟩ = some (.int .i64 s.job.val)
theorem StepAt.chg {w w' : World} {b o : Nat} {s : StepG} {O : Nat → Prop} (h : StepAt w b o s) (hc : Chg O w w') (hO : ¬ O b) : StepAt w' b o s := by
  have hl := h.lt
  exact ⟨Nat.lt_of_lt_of_le hl hc.size, (hc.cell (by exact hl) hO).trans h.c0, (hc.cell (by exact hl) hO).trans h.c1, (hc.cell (by exact hl) hO).trans h.c2, (hc.cell (by exact hl) hO).trans h.c3, (hc.cell (by exact hl) hO).trans h.c4, (hc.cell (by exact hl) hO).trans h.c5, (hc.cell (by exact hl) hO).trans h.c6, (hc.cell (by exact hl) hO).trans h.c7, (hc.cell (by exact hl) hO).trans h.c8⟩
theorem stepAt_rows {w : World} {b off sl : Nat} {Z : Nat → Int} (hb : b < w.heap.size) (h : ∀ t, t < sl * 9 → w.cell? ⟨b, off + t, none⟩ = some (.int .i64 (Z t))) {k : Nat} (hk : k < sl) : StepAt w b (off + k * 9) (stepZ Z k) := by
  have g : ∀ j, j < 9 → w.cell? ⟨b, off + k * 9 + j, none⟩ = some (.int .i64 (Z (k * 9 + j))) := fun j hj => by rw [Nat.add_assoc]; exact h _ (by omega)
  exact ⟨hb, g 0 (by omega), g 1 (by omega), g 2 (by omega), g 3 (by omega), g 4 (by omega), g 5 (by omega), g 6 (by omega), g 7 (by omega), g 8 (by omega)⟩
/-- the case's box and the steps, all there -/
structure CaseAt (w : World) (q : Nat) (c : CfgG) (sa : Option Addr) (sl sc : Nat) (Z : Nat → Int) : Prop where
  box : w.heap[q]? = some (.cells (caseC c (.slice sa sl sc)) 41 (0, 0))
  rows : 0 < sl → ∃ b off, sa = some ⟨b, off, none⟩ ∧ b < w.heap.size ∧ ∀ t, t < sl * 9 → w.cell? ⟨b, off + t, none⟩ = some (.int .i64 (Z t))
  i64 : ∀ t, t < sl * 9 → IsI64 (Z t)
theorem CaseAt.chg {w w' : World} {q : Nat} {c : CfgG} {sa : Option Addr} {sl sc : Nat} {Z : Nat → Int} (h : CaseAt w q c sa sl sc Z) (hc : Chg (fun _ => False) w w') : CaseAt w' q c sa sl sc Z := by
  refine ⟨(hc.block _ (Array.getElem?_eq_some_iff.1 h.box).1 (fun e => e)).trans h.box, fun hl => ?_, h.i64⟩
  obtain ⟨b, off, a1, a2, a3⟩ := h.rows hl
  exact ⟨b, off, a1, Nat.lt_of_lt_of_le a2 hc.size, fun t ht => (hc.cell (by exact a2) (fun e => e)).trans (a3 t ht)⟩
theorem CaseAt.cell {w : World} {q : Nat} {c : CfgG} {sa : Option Addr} {sl sc : Nat} {Z : Nat → Int} (h : CaseAt w q c sa sl sc Z) (f : Nat) : w.cell? ⟨q, f, none⟩ = (caseC c (.slice sa sl sc))[f]? := by
  unfold World.cell?
  rw [h.box]
  rfl
theorem CaseAt.lt {w : World} {q : Nat} {c : CfgG} {sa : Option Addr} {sl sc : Nat} {Z : Nat → Int} (h : CaseAt w q c sa sl sc Z) : q < w.heap.size := (Array.getElem?_eq_some_iff.1 h.box).1
theorem CaseAt.step {w : World} {q : Nat} {c : CfgG} {sa : Option Addr} {sl sc : Nat} {Z : Nat → Int} (h : CaseAt w q c sa sl sc Z) {k : Nat} (hk : k < sl) : ∃ b off, sa = some ⟨b, off, none⟩ ∧ StepAt w b (off + k * 9) (stepZ Z k) := by
  obtain ⟨b, off, a1, a2, a3⟩ := h.rows (by omega)
  exact ⟨b, off, a1, stepAt_rows a2 a3 hk⟩
theorem caseAt_new {w : World} {c : CfgG} {sa : Option Addr} {sl sc : Nat} (hs : IntRows w 9 sa sl) : ∃ Z, CaseAt (w.alloc (.cells (caseC c (.slice sa sl sc)) 41)) w.heap.size c sa sl sc Z := by
  rcases hs with h0 | ⟨b, off, Z, h0, rfl, hb, hcl, hw⟩
  · exact ⟨fun _ => 0, heap_alloc_new w _, fun h => by omega, fun t ht => by omega⟩
  · refine ⟨Z, heap_alloc_new w _, fun _ => ⟨b, off, rfl, ?_, fun t ht => ?_⟩, hw⟩
    · have := ((Chg.refl (fun _ => False) w).alloc (.cells (caseC c (.slice (some ⟨b, off, none⟩) sl sc)) 41)).size; omega
    · exact (((Chg.refl (fun _ => False) w).alloc _).cell (by exact hb) (fun e => e)).trans (hcl t ht)
end Go.Proofs.Ytminceigjejipaa

/-
  yardkeep: a case, opened as an argument.
-/
namespace Go.Proofs.Ytminceigjejipaa
open Go.ChangeShapes Go.WideShapes Go.ChangeAt Go.RowKit Go.Deep

def caseV (c : CfgG) (sv : Value) : Value := .agg (caseC c sv)
theorem cellsCase : Try.prog.cellsOf 41 = 6 := by kernel_rfl
theorem cellsSteps : Try.prog.cellsOf 39 = 1 := by kernel_rfl

set_option maxRecDepth 100000 in
theorem open_case {H : Type} {enc : TypeId × Value → H} {W : World} {b0 base : Nat} {spare : Nat → Bool} {held : Bool} {fuel : Nat} {v : Value} {x : DataW H × List MemPlace} (hv : Value.okWide Try.prog W .any b0 41 v)
    (h : DataW.trod enc Try.prog W base spare held fuel 41 v.cells.toList = some x) :
    ∃ (c : CfgG) (sa : Option Addr) (sl sc : Nat), v = caseV c (.slice sa sl sc) ∧ IntRows W 9 sa sl ∧ ∃ d0 d1, x.1 = .agg [d0, d1] ∧ ((d1 = .nil ∧ sl = 0) ∨ ∃ elems sp, d1 = .slice elems sp ∧ elems.length = sl) := by
  obtain ⟨cs, rfl, hcs⟩ := okWide_struct Try.underlying41 hv
  rw [cellsCase] at hcs
  have h' : DataW.trod enc Try.prog W base spare held fuel 41 cs.toList = some x := by simpa [Value.cells] using h
  obtain ⟨xs, n', _, hx0, hln, hxl, hx⟩ := DataW.trod_struct Try.underlying41 h'
  have hxl2 : xs.length = 2 := by rw [hxl]; rfl
  obtain ⟨x0, x1, rfl⟩ : ∃ x0 x1, xs = [x0, x1] := by
    match xs, hxl2 with
    | [a, b], _ => exact ⟨a, b, rfl⟩
  have g0 : DataW.trod enc Try.prog W base spare held n' 38 ((cs.toList.drop 0).take (Try.prog.cellsOf 38)) = some x0 := hx 0 _ rfl
  have g1 : DataW.trod enc Try.prog W base spare held n' 39 ((cs.toList.drop 5).take (Try.prog.cellsOf 39)) = some x1 := hx 1 _ rfl
  rw [cellsConfig] at g0
  rw [cellsSteps] at g1
  have ci := config_ints _ _ _ g0
  have cc : ∀ f, f < 5 → ∃ z, cs.toList[f]? = some (.int .i64 z) := fun f hf => by
    obtain ⟨z, hz, _⟩ := ci f hf
    refine ⟨z, ?_⟩
    rw [← hz]
    simp [hf]
  obtain ⟨z0, e0⟩ := cc 0 (by omega)
  obtain ⟨z1, e1⟩ := cc 1 (by omega)
  obtain ⟨z2, e2⟩ := cc 2 (by omega)
  obtain ⟨z3, e3⟩ := cc 3 (by omega)
  obtain ⟨z4, e4⟩ := cc 4 (by omega)
  obtain ⟨sa, sl, sc, e5⟩ : ∃ sa sl sc, cs.toList[5]? = some (.slice sa sl sc) := by
    rcases open_slice Try.underlying39 g1 with ⟨h0, _⟩ | ⟨a, len, cap, m, n, D, Pl, h0, _⟩
    · exact ⟨_, _, _, head_take h0⟩
    · exact ⟨_, _, _, head_take h0⟩
  have hform : cs = caseC ⟨z0, z1, z2, z3, z4⟩ (.slice sa sl sc) := by
    apply Array.ext_getElem?
    intro i
    match i with
    | 0 => simpa [caseC] using e0
    | 1 => simpa [caseC] using e1
    | 2 => simpa [caseC] using e2
    | 3 => simpa [caseC] using e3
    | 4 => simpa [caseC] using e4
    | 5 => simpa [caseC] using e5
    | i + 6 => simp [caseC, hcs]
  have hg1 : DataW.trod enc Try.prog W base spare held n' 39 [.slice sa sl sc] = some x1 := by
    rw [← g1, hform]
    rfl
  obtain ⟨hs, hsd⟩ := rows_of_slice Try.underlying39 cellsStep (by omega) step_ints hg1
  refine ⟨⟨z0, z1, z2, z3, z4⟩, sa, sl, sc, by rw [hform]; rfl, hs, x0.1, x1.1, by rw [hx0]; rfl, hsd⟩

set_option maxRecDepth 100000 in
theorem case_sized {H : Type} {d0 d1 : DataW H} {ts : List TypeId} {ds : List (DataW H)} {j sl : Nat} (h : (DataW.weightsEach Try.prog ts ds).all (· ≤ reachBytes) = true) (ht : ts[j]? = some 41) (hd : ds[j]? = some (.agg [d0, d1])) (hsd : (d1 = .nil ∧ sl = 0) ∨ ∃ elems sp, d1 = .slice elems sp ∧ elems.length = sl) : sl < 5000000000000 := by
  rcases hsd with ⟨_, h0⟩ | ⟨el, sp, rfl, hl⟩
  · omega
  · have h1 : (el.length + sp.length) * Try.prog.bytesOf 56 ∈ DataW.weights Try.prog 39 (.slice el sp) := by simp [DataW.weights, Try.underlying39]
    have h2 : (el.length + sp.length) * Try.prog.bytesOf 56 ∈ DataW.weights Try.prog 41 (.agg [d0, .slice el sp]) := by
      have := DataW.weights_mem_each (P := Try.prog) (ts := [38, 39]) (ds := [d0, .slice el sp]) (j := 1) rfl rfl _ h1
      unfold DataW.weights
      rw [Try.underlying41]
      exact this
    have h3 := List.all_eq_true.1 h _ (DataW.weights_mem_each ht hd _ h2)
    rw [bytesStep] at h3
    have h4 := of_decide_eq_true h3
    unfold reachBytes at h4
    omega
end Go.Proofs.Ytminceigjejipaa
