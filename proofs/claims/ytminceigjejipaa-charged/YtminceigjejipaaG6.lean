import Derived.Test.YtminceigjejipaaG2
import Derived.Test.YtminceigjejipaaG3
import Derived.BigRegion
import Derived.Test.YtminceigjejipaaRow3
import Derived.Test.YtminceigjejipaaRow5
import Derived.Deep.AppendLies
namespace Go.Proofs.Ytminceigjejipaa
open Go.RowKit

end Go.Proofs.Ytminceigjejipaa

namespace Go.Proofs.Ytminceigjejipaa
open Go.RowKit

def InRange (n : Nat) (Z : Nat → Int) : Prop := ∀ j, j < n → -1099511627776 ≤ Z j ∧ Z j ≤ 1099511627776

def AddRes (Z : Nat → Int) (n : Nat) (f t d z : Int) (Z' : Nat → Int) : Prop :=
  ((pieceB n f t = false ∨ inB d (-2199023255552) 2199023255552 = false) ∧ z = 9 ∧ Z' = Z) ∨
  (pieceB n f t = true ∧ inB d (-2199023255552) 2199023255552 = true ∧ ¬ addOk Z f.toNat t.toNat d ∧ z = 12 ∧ Z' = Z) ∨
  (pieceB n f t = true ∧ inB d (-2199023255552) 2199023255552 = true ∧ addOk Z f.toNat t.toNat d ∧ z = 0 ∧ Z' = addZ Z f.toNat t.toNat d)

theorem AddRes.unique {Z : Nat → Int} {n : Nat} {f t d z z2 : Int} {Z' Z2 : Nat → Int} (h : AddRes Z n f t d z Z') (h2 : AddRes Z n f t d z2 Z2) : z = z2 ∧ Z' = Z2 := by
  rcases h with ⟨a, rfl, rfl⟩ | ⟨a, b, c, rfl, rfl⟩ | ⟨a, b, c, rfl, rfl⟩ <;> rcases h2 with ⟨a2, rfl, rfl⟩ | ⟨a2, b2, c2, rfl, rfl⟩ | ⟨a2, b2, c2, rfl, rfl⟩ <;> first | exact ⟨rfl, rfl⟩ | (exfalso; simp_all)

theorem AddRes.range {Z : Nat → Int} {n : Nat} {f t d z : Int} {Z' : Nat → Int} (h : AddRes Z n f t d z Z') (hB : InRange n Z) : InRange n Z' := by
  rcases h with ⟨a, rfl, rfl⟩ | ⟨a, b, c, rfl, rfl⟩ | ⟨a, b, c, rfl, rfl⟩
  · exact hB
  · exact hB
  · intro j hj
    unfold addZ
    split
    · rename_i h
      exact standB_true (c j h.1 h.2)
    · exact hB j hj

def MinRes (Z : Nat → Int) (n : Nat) (f t m z : Int) : Prop :=
  (pieceB n f t = false ∧ m = 0 ∧ z = 9) ∨ (pieceB n f t = true ∧ m = minZ Z f.toNat (t.toNat - 1 - f.toNat) ∧ z = 0)

theorem MinRes.unique {Z : Nat → Int} {n : Nat} {f t m z m2 z2 : Int} (h : MinRes Z n f t m z) (h2 : MinRes Z n f t m2 z2) : m = m2 ∧ z = z2 := by
  rcases h with ⟨a, rfl, rfl⟩ | ⟨a, rfl, rfl⟩ <;> rcases h2 with ⟨a2, rfl, rfl⟩ | ⟨a2, rfl, rfl⟩ <;> first | exact ⟨rfl, rfl⟩ | (exfalso; simp_all)

def FitRes (Z : Nat → Int) (n : Nat) (f l v s z : Int) : Prop :=
  (fitB n f l = true ∧ s = 0 ∧ z = 9) ∨ (fitB n f l = false ∧ IsFit Z n f.toNat l.toNat v s ∧ z = 0)

theorem FitRes.unique {Z : Nat → Int} {n : Nat} {f l v s z s2 z2 : Int} (h : FitRes Z n f l v s z) (h2 : FitRes Z n f l v s2 z2) : s = s2 ∧ z = z2 := by
  rcases h with ⟨a, rfl, rfl⟩ | ⟨a, hs, rfl⟩ <;> rcases h2 with ⟨a2, rfl, rfl⟩ | ⟨a2, hs2, rfl⟩
  · exact ⟨rfl, rfl⟩
  · simp_all
  · simp_all
  · exact ⟨hs.unique hs2, rfl⟩

theorem calAdd_any (p g n cap : Nat) (f t d : Int) (Z : Nat → Int) (w : World) (hrow : RowAt 98 w p g n cap Z) (hn : n ≤ 4096) (hB : InRange n Z) :
    Calls Try.prog 39 #[.pointer (some ⟨p, 0, none⟩), .int .i64 f, .int .i64 t, .int .i64 d] w fun e w' => ∃ z Z', e = .returned (.int .i64 z) ∧ AddRes Z n f t d z Z' ∧ RowAt 98 w' p g n cap Z' ∧ Chg (fun k => k = g) w w' := by
  by_cases hbad : pieceB n f t = false ∨ inB d (-2199023255552) 2199023255552 = false
  · refine (calAdd_bad p g n cap f t d w hrow.cellp hbad).mono ?_
    rintro e w' ⟨rfl, hw⟩
    subst w'
    exact ⟨9, Z, rfl, .inl ⟨hbad, rfl, rfl⟩, hrow, Chg.refl _ _⟩
  · have h1 : pieceB n f t = true := by cases h : pieceB n f t; exact absurd (.inl h) hbad; rfl
    have h2 : inB d (-2199023255552) 2199023255552 = true := by cases h : inB d (-2199023255552) 2199023255552; exact absurd (.inr h) hbad; rfl
    obtain ⟨p1, p2, p3⟩ := pieceB_true h1
    obtain ⟨q1, q2⟩ := inB_true h2
    obtain ⟨a, rfl⟩ := Int.eq_ofNat_of_zero_le p1
    obtain ⟨b, rfl⟩ := Int.eq_ofNat_of_zero_le (show 0 ≤ t by omega)
    by_cases hok : addOk Z a b d
    · refine (calAdd_ok p g n cap a b d Z w hrow (by omega) (by omega) (by omega) q1 q2 hB hok).mono ?_
      rintro e w' ⟨rfl, h3, h4⟩
      exact ⟨0, _, rfl, .inr (.inr ⟨h1, h2, hok, rfl, rfl⟩), h3, h4⟩
    · refine (calAdd_range p g n cap a b d Z w hrow.cellp (by omega) (by omega) (by omega) q1 q2 hB hrow.cellg hok).mono ?_
      rintro e w' ⟨rfl, hw⟩
      subst w'
      exact ⟨12, Z, rfl, .inr (.inl ⟨h1, h2, hok, rfl, rfl⟩), hrow, Chg.refl _ _⟩

theorem calMin_any (p g n cap : Nat) (f t : Int) (Z : Nat → Int) (w : World) (hrow : RowAt 98 w p g n cap Z) (hn : n ≤ 4096) :
    Calls Try.prog 12 #[.pointer (some ⟨p, 0, none⟩), .int .i64 f, .int .i64 t] w fun e w' => ∃ m z, e = .returned (.tuple #[.int .i64 m, .int .i64 z]) ∧ MinRes Z n f t m z ∧ w' = w := by
  cases h : pieceB n f t
  · refine (calMin_bad p g n cap f t w hrow.cellp h).mono ?_
    rintro e w' ⟨rfl, hw⟩
    exact ⟨0, 9, rfl, .inl ⟨h, rfl, rfl⟩, hw⟩
  · obtain ⟨p1, p2, p3⟩ := pieceB_true h
    obtain ⟨a, rfl⟩ := Int.eq_ofNat_of_zero_le p1
    obtain ⟨b, rfl⟩ := Int.eq_ofNat_of_zero_le (show 0 ≤ t by omega)
    refine (calMin_ok p g n cap a b Z w hrow.cellp (by omega) (by omega) (by omega) hrow.cellg).mono ?_
    rintro e w' ⟨rfl, hw⟩
    exact ⟨_, 0, rfl, .inr ⟨h, rfl, rfl⟩, hw⟩

theorem calFit_any (p g n cap : Nat) (f l v : Int) (Z : Nat → Int) (w : World) (hrow : RowAt 98 w p g n cap Z) (hn : n ≤ 4096) (hf : f ≤ 9223372036854775807) :
    Calls Try.prog 41 #[.pointer (some ⟨p, 0, none⟩), .int .i64 f, .int .i64 l, .int .i64 v] w fun e w' => ∃ s z, e = .returned (.tuple #[.int .i64 s, .int .i64 z]) ∧ FitRes Z n f l v s z ∧ w' = w := by
  cases h : fitB n f l
  · obtain ⟨p1, p2, p3⟩ := fitB_false h
    obtain ⟨a, rfl⟩ := Int.eq_ofNat_of_zero_le p1
    obtain ⟨b, rfl⟩ := Int.eq_ofNat_of_zero_le (show 0 ≤ l by omega)
    refine (calFit_ok p g n cap a b v Z w (by omega) hrow.cellp (by omega) (by omega) hrow.cellg).mono ?_
    rintro e w' ⟨s, rfl, hs, hw⟩
    exact ⟨s, 0, rfl, .inr ⟨h, hs, rfl⟩, hw⟩
  · refine (calFit_bad p g n cap f l v w (by omega) hf hrow.cellp h).mono ?_
    rintro e w' ⟨rfl, hw⟩
    exact ⟨0, 9, rfl, .inl ⟨h, rfl, rfl⟩, hw⟩

end Go.Proofs.Ytminceigjejipaa

namespace Go.Proofs.Ytminceigjejipaa
open Go.RowKit

section
variable {w : World} {pc gc pr gr n cc cr : Nat} {Z : Nat → Int}
theorem RowAt.chg {T : TypeId} {p g cap : Nat} {O : Nat → Prop} {w' : World} (h : RowAt T w p g n cap Z) (hc : Chg O w w') (h1 : ¬ O p) (h2 : ¬ O g) : RowAt T w' p g n cap Z :=
  h.frame (hc.block _ h.ltp h1) (hc.block _ h.ltg h2)
/-- blocks of other types -/
theorem RowAt.apart {T T' : TypeId} {p g p' g' cap cap' n' : Nat} {Z' : Nat → Int} (h : RowAt T w p g n cap Z) (h' : RowAt T' w p' g' n' cap' Z') (hT : T ≠ 3) (hT' : T' ≠ 3) (hTT : T ≠ T') : p ≠ p' ∧ p ≠ g' ∧ g ≠ p' := by
  obtain ⟨cur, a1, _⟩ := h.hg
  obtain ⟨cur', a1', _⟩ := h'.hg
  refine ⟨?_, ?_, ?_⟩
  · rintro rfl
    have := h.hp
    rw [h'.hp] at this
    simp at this
    exact hTT this.2.symm
  · rintro rfl
    have := h.hp
    rw [a1'] at this
    simp at this
    exact hT this.2.symm
  · rintro rfl
    rw [h'.hp] at a1
    simp at a1
    exact hT' a1.2
end

end Go.Proofs.Ytminceigjejipaa

namespace Go.Proofs.Ytminceigjejipaa
open Go.RowKit

section
variable {w : World} {B : Nat} {v0 v1 v2 v3 v4 : Value}
end

end Go.Proofs.Ytminceigjejipaa

/-
  WHAT CAME OUT: the lists that the caller keeps, with its marks; 'looks' over them.
-/
namespace Go.Proofs.Ytminceigjejipaa
open Go.RowKit

def markZ (n : Nat) : Int := -1000 - (n : Int)

/-- lists that came out, each of things of sz cells, all marked -/
structure OutC (TS : TypeId) (sz : Nat) (w : World) (ov : Value) (vs : List Value) (F : Nat → Prop) : Prop where
  own : w.ownsRow 0 TS 1 ov vs.length vs
  ownF : ∀ k, ov.ownBlock = some k → F k
  lt : ∀ k, F k → k < w.heap.size
  len : vs.length < 5000000000000
  item : ∀ (i : Nat) v, vs[i]? = some v → ∃ ao n cap, v = .slice ao n cap ∧ n ≤ 100000 ∧ ∀ j, j < n → ∃ g, ao = some ⟨g, 0, none⟩ ∧ F g ∧ ov.ownBlock ≠ some g ∧ ∀ r, r < sz → w.cell? ⟨g, j * sz + r, none⟩ = some (.int .i64 (markZ (i - i % 2)))

theorem OutC.nil (TS : TypeId) (sz : Nat) (w : World) : OutC TS sz w (.slice none 0 0) [] (fun _ => False) :=
  ⟨World.ownsRow_nil _ _ _ _, fun k hk => by simp [Value.ownBlock] at hk, fun _ h => h.elim, by simp, fun i v h => by simp at h⟩
theorem OutC.frame {TS : TypeId} {sz : Nat} {w w' : World} {ov : Value} {vs : List Value} {F : Nat → Prop} (h : OutC TS sz w ov vs F) (hf : ∀ k, F k → w'.heap[k]? = w.heap[k]?) : OutC TS sz w' ov vs F := by
  refine ⟨ownsRow_keep h.own (fun k hk => hf k (h.ownF k hk)), h.ownF, fun k hk => ?_, h.len, fun i v hv => ?_⟩
  · have h1 := h.lt k hk
    have h2 := hf k hk
    rw [Array.getElem?_eq_getElem h1] at h2
    exact (Array.getElem?_eq_some_iff.1 h2).1
  · obtain ⟨ao, n, cap, h1, h2, h3⟩ := h.item i v hv
    refine ⟨ao, n, cap, h1, h2, fun j hj => ?_⟩
    obtain ⟨g, a1, a2, a4, a3⟩ := h3 j hj
    exact ⟨g, a1, a2, a4, fun r hr => by rw [World.cell?_of_block (w := w) (hf g a2)]; exact a3 r hr⟩
theorem OutC.chg0 {TS : TypeId} {sz : Nat} {w w' : World} {ov : Value} {vs : List Value} {F : Nat → Prop} (h : OutC TS sz w ov vs F) (hc : Chg (fun _ => False) w w') : OutC TS sz w' ov vs F := h.frame (fun k hk => hc.block k (h.lt k hk) (fun h => h))
/-- a list more -/
theorem OutC.snoc {TS : TypeId} {sz : Nat} {w wa w' : World} {nv v : Value} {vs : List Value} {F : Nat → Prop} {g cap n c2 : Nat} {ao : Option Addr} (h : OutC TS sz w nv vs F) (hc : Chg (fun _ => False) w wa) (hlen : vs.length + 1 < 5000000000000)
    (hown : w'.ownsRow 0 TS 1 (.slice (some ⟨g, 0, none⟩) (vs.length + 1) cap) (vs.length + 1) (vs ++ [v])) (hgrow : wa.grownBy w' nv.ownBlock) (hat : nv.ownBlock = some g ∨ w.heap.size ≤ g) (hgl : g < w'.heap.size)
    (hv : v = .slice ao n c2) (hn : n ≤ 100000) (hm : ∀ j, j < n → ∃ gb, ao = some ⟨gb, 0, none⟩ ∧ gb < w.heap.size ∧ nv.ownBlock ≠ some gb ∧ ∀ r, r < sz → w.cell? ⟨gb, j * sz + r, none⟩ = some (.int .i64 (markZ (vs.length - vs.length % 2)))) (hvl : ∀ k, v.ownBlock = some k → k < w.heap.size) :
    OutC TS sz w' (.slice (some ⟨g, 0, none⟩) (vs.length + 1) cap) (vs ++ [v]) (fun k => F k ∨ k = g ∨ v.ownBlock = some k) := by
  have hc3 : Chg (fun k => nv.ownBlock = some k) w w' := (hc.mono (fun _ _ h => h.elim)).grown hgrow (fun k hk => .inl hk)
  have hle : (vs ++ [v]).length = vs.length + 1 := by simp
  have gne : ∀ gb, gb < w.heap.size → nv.ownBlock ≠ some gb → Value.ownBlock (.slice (some ⟨g, 0, none⟩) (vs.length + 1) cap) ≠ some gb := fun gb h1 h2 e => by
    simp [Value.ownBlock] at e
    subst e
    rcases hat with e | e
    · exact h2 e
    · omega
  refine ⟨by rw [hle]; exact hown, fun k hk => by simp [Value.ownBlock] at hk; exact .inr (.inl hk.symm), fun k hk => ?_, by rw [hle]; exact hlen, fun i x hx => ?_⟩
  · rcases hk with hk | rfl | hk
    · exact Nat.lt_of_lt_of_le (h.lt k hk) hc3.size
    · exact hgl
    · exact Nat.lt_of_lt_of_le (hvl k hk) hc3.size
  · rw [List.getElem?_append] at hx
    by_cases e : i < vs.length
    · rw [if_pos e] at hx
      obtain ⟨ao, n, c, h1, h2, h3⟩ := h.item i x hx
      refine ⟨ao, n, c, h1, h2, fun j hj => ?_⟩
      obtain ⟨gb, a1, a2, a4, a3⟩ := h3 j hj
      exact ⟨gb, a1, .inl a2, gne gb (h.lt gb a2) a4, fun r hr => by rw [hc3.cell (by exact h.lt gb a2) a4]; exact a3 r hr⟩
    · rw [if_neg e] at hx
      by_cases e2 : i = vs.length
      · subst e2
        simp at hx
        subst hx
        refine ⟨ao, n, c2, hv, hn, fun j hj => ?_⟩
        obtain ⟨gb, a1, a2, a4, a3⟩ := hm j hj
        exact ⟨gb, a1, .inr (.inr (by rw [hv, a1]; rfl)), gne gb a2 a4, fun r hr => by rw [hc3.cell (by exact a2) a4]; exact a3 r hr⟩
      · have : 1 ≤ i - vs.length := by omega
        rw [List.getElem?_eq_none (by simpa using this)] at hx
        cases hx
theorem OutC.form {TS : TypeId} {sz : Nat} {w : World} {ov : Value} {vs : List Value} {F : Nat → Prop} (h : OutC TS sz w ov vs F) : ∃ ao cap, ov = .slice ao vs.length cap ∧ ∀ (i : Nat) v, vs[i]? = some v → ∃ g, ao = some ⟨g, 0, none⟩ ∧ g < w.heap.size ∧ w.cell? ⟨g, i, none⟩ = some v := by
  rcases h.own.2 with ⟨hv, h0⟩ | ⟨g, cap, cur, hv, hg, hh, r⟩
  · exact ⟨none, 0, by rw [hv, h0], fun i v hi => by have := (List.getElem?_eq_some_iff.1 hi).1; omega⟩
  · refine ⟨some ⟨g, 0, none⟩, cap, hv, fun i v hi => ⟨g, rfl, (Array.getElem?_eq_some_iff.1 hh).1, ?_⟩⟩
    have := h.own.cells (g := g) (by rw [hv]; rfl) i v hi
    rwa [Addr.add_lit, Nat.zero_add] at this

theorem even_emod (i : Nat) (h : i < 50000000000000) : IntKind.i64.wrap ((i : Int) - (i : Int).tmod 2) = ((i - i % 2 : Nat) : Int) := by
  rw [Int.tmod_eq_emod_of_nonneg (by omega), IntKind.wrap_i64]
  omega

end Go.Proofs.Ytminceigjejipaa

/-
  THE PROGRAM's MARKET IN MEMORY (stage 2's landed code): where its parts lie, what keeps it, what becomes of it.
-/
namespace Go.Proofs.Ytminceigjejipaa
open Go.RowKit

def ybidCells (b : BidG) : List Value := [.int .i64 b.ten, .int .i64 b.ref, .int .i64 b.job.arr, .int .i64 b.job.dl, .int .i64 b.job.len, .int .i64 b.job.units, .int .i64 b.job.val, .int .i64 b.state, .int .i64 b.start]

/-- q the market, r its calendar, g the calendar's cells -/
structure YV where
  q : Nat
  r : Nat
  g : Nat
  cc : Nat
  uv : Value
  bv : Value
  sv : Value

def YV.foot (V : YV) (k : Nat) : Prop := k = V.q ∨ k = V.r ∨ k = V.g ∨ V.uv.ownBlock = some k ∨ V.bv.ownBlock = some k ∨ V.sv.ownBlock = some k
def ymBox (V : YV) (m : MkG) : Array Value := #[.int .i64 m.c.ticks, .int .i64 m.c.cap, .int .i64 m.c.res, .int .i64 m.c.ten, .int .i64 m.c.quo, .int .i64 m.time, V.bv, V.sv, V.uv, .pointer (some ⟨V.r, 0, none⟩)]
/-- units free, by tick -/
def freeZ (m : MkG) (j : Nat) : Int := m.units.getD j 0 - usedL m.bids j

structure YmAt (w : World) (V : YV) (m : MkG) : Prop where
  box : w.heap[V.q]? = some (.cells (ymBox V m) 107 (0, 0))
  bids : w.ownsRow 0 125 9 V.bv m.bids.length (m.bids.flatMap ybidCells)
  susp : w.ownsRow 0 4 1 V.sv m.susp.length (m.susp.map Value.bool)
  units : w.ownsRow 0 3 1 V.uv m.units.length (m.units.map (Value.int .i64))
  cal : RowAt 98 w V.r V.g m.units.length V.cc (freeZ m)
  ne : V.uv.ownBlock ≠ some V.g

theorem cells_ne {w : World} {p k : Nat} {c c' : Array Value} {T T' : TypeId} (h : w.heap[p]? = some (.cells c T (0, 0))) (h' : w.heap[k]? = some (.cells c' T' (0, 0))) (hT : T ≠ T') : p ≠ k := by
  rintro rfl
  rw [h] at h'
  simp at h'
  exact hT h'.2

section
variable {w : World} {V : YV} {m : MkG}
theorem YmAt.lt (h : YmAt w V m) : V.q < w.heap.size := (Array.getElem?_eq_some_iff.1 h.box).1
theorem YmAt.foot_lt (h : YmAt w V m) (k : Nat) (hk : V.foot k) : k < w.heap.size := by
  rcases hk with rfl | rfl | rfl | hk | hk | hk
  · exact h.lt
  · exact h.cal.ltp
  · exact h.cal.ltg
  · exact (h.units.lt k hk).2
  · exact (h.bids.lt k hk).2
  · exact (h.susp.lt k hk).2
/-- what a foot's block may hold -/
theorem YmAt.foot_ty (h : YmAt w V m) (k : Nat) (hk : V.foot k) : ∃ c T, w.heap[k]? = some (.cells c T (0, 0)) ∧ (T = 107 ∨ T = 98 ∨ T = 3 ∨ T = 125 ∨ T = 4) := by
  rcases hk with rfl | rfl | rfl | hk | hk | hk
  · exact ⟨_, _, h.box, .inl rfl⟩
  · exact ⟨_, _, h.cal.hp, .inr (.inl rfl)⟩
  · obtain ⟨cur, h1, _⟩ := h.cal.hg
    exact ⟨_, _, h1, .inr (.inr (.inl rfl))⟩
  · obtain ⟨c, hc⟩ := ownsRow_block h.units hk
    exact ⟨_, _, hc, .inr (.inr (.inl rfl))⟩
  · obtain ⟨c, hc⟩ := ownsRow_block h.bids hk
    exact ⟨_, _, hc, .inr (.inr (.inr (.inl rfl)))⟩
  · obtain ⟨c, hc⟩ := ownsRow_block h.susp hk
    exact ⟨_, _, hc, .inr (.inr (.inr (.inr rfl)))⟩
theorem YmAt.frame {w' : World} (h : YmAt w V m) (hf : ∀ k, V.foot k → w'.heap[k]? = w.heap[k]?) : YmAt w' V m :=
  ⟨(hf _ (.inl rfl)).trans h.box, ownsRow_keep h.bids (fun k hk => hf k (.inr (.inr (.inr (.inr (.inl hk)))))), ownsRow_keep h.susp (fun k hk => hf k (.inr (.inr (.inr (.inr (.inr hk)))))), ownsRow_keep h.units (fun k hk => hf k (.inr (.inr (.inr (.inl hk))))),
    h.cal.frame (hf _ (.inr (.inl rfl))) (hf _ (.inr (.inr (.inl rfl)))), h.ne⟩
theorem YmAt.chg {O : Nat → Prop} {w' : World} (h : YmAt w V m) (hc : Chg O w w') (hO : ∀ k, V.foot k → ¬ O k) : YmAt w' V m := h.frame (fun k hk => hc.block k (h.foot_lt k hk) (hO k hk))
theorem YmAt.chg0 {w' : World} (h : YmAt w V m) (hc : Chg (fun _ => False) w w') : YmAt w' V m := h.chg hc (fun _ _ h => h)
theorem YmAt.cell (h : YmAt w V m) (f : Nat) : w.cell? ⟨V.q, f, none⟩ = (ymBox V m)[f]? := by
  unfold World.cell?
  rw [h.box]
  rfl
theorem YmAt.free (h : YmAt w V m) (f : Nat) : w.frozen? ⟨V.q, f, none⟩ = false := by
  unfold World.frozen?
  rw [h.box]
  simp
theorem YmAt.bid_form (h : YmAt w V m) : ∃ ao cap, V.bv = .slice ao m.bids.length cap ∧ ∀ i b, m.bids[i]? = some b → ∃ g, ao = some ⟨g, 0, none⟩ ∧ V.bv.ownBlock = some g ∧ (∀ r u, (ybidCells b)[r]? = some u → w.cell? ⟨g, i * 9 + r, none⟩ = some u) ∧ ∀ r, w.frozen? ⟨g, r, none⟩ = false := by
  rcases h.bids.2 with ⟨hv, h0⟩ | ⟨g, cap, cur, hv, hg, hh, r⟩
  · refine ⟨none, 0, by rw [hv, h0], fun i b hb => ?_⟩
    have := (List.getElem?_eq_some_iff.1 hb).1
    omega
  · refine ⟨some ⟨g, 0, none⟩, cap, hv, fun i b hb => ⟨g, rfl, by rw [hv]; rfl, fun r u hu => ?_, fun r => by unfold World.frozen?; rw [hh]; simp⟩⟩
    have hr : r < 9 := by
      have := (List.getElem?_eq_some_iff.1 hu).1
      simpa [ybidCells] using this
    have := h.bids.cells (g := g) (by rw [hv]; rfl) (i * 9 + r) u (by rw [flat_get ybidCells 9 (fun _ => rfl) m.bids i b r hb hr]; exact hu)
    rwa [Addr.add_lit, Nat.zero_add] at this
theorem YmAt.susp_form (h : YmAt w V m) : ∃ ao cap, V.sv = .slice ao m.susp.length cap ∧ ∀ i, i < m.susp.length → ∃ g, ao = some ⟨g, 0, none⟩ ∧ V.sv.ownBlock = some g ∧ w.cell? ⟨g, i, none⟩ = some (.bool (m.susp.getD i false)) ∧ w.frozen? ⟨g, i, none⟩ = false := by
  rcases h.susp.2 with ⟨hv, h0⟩ | ⟨g, cap, cur, hv, hg, hh, r⟩
  · exact ⟨none, 0, by rw [hv, h0], fun i hi => by omega⟩
  · refine ⟨some ⟨g, 0, none⟩, cap, hv, fun i hi => ⟨g, rfl, by rw [hv]; rfl, ?_, by unfold World.frozen?; rw [hh]; simp⟩⟩
    have := h.susp.cells (g := g) (by rw [hv]; rfl) i (.bool (m.susp.getD i false)) (by simp [List.getD, List.getElem?_eq_getElem hi])
    rwa [Addr.add_lit, Nat.zero_add] at this
theorem YmAt.units_form (h : YmAt w V m) : ∃ ao cap, V.uv = .slice ao m.units.length cap ∧ ∀ i, i < m.units.length → ∃ g, ao = some ⟨g, 0, none⟩ ∧ V.uv.ownBlock = some g ∧ w.cell? ⟨g, i, none⟩ = some (.int .i64 (m.units.getD i 0)) ∧ w.frozen? ⟨g, i, none⟩ = false := by
  rcases h.units.2 with ⟨hv, h0⟩ | ⟨g, cap, cur, hv, hg, hh, r⟩
  · exact ⟨none, 0, by rw [hv, h0], fun i hi => by omega⟩
  · refine ⟨some ⟨g, 0, none⟩, cap, hv, fun i hi => ⟨g, rfl, by rw [hv]; rfl, ?_, by unfold World.frozen?; rw [hh]; simp⟩⟩
    have := h.units.cells (g := g) (by rw [hv]; rfl) i (.int .i64 (m.units.getD i 0)) (by simp [List.getD, List.getElem?_eq_getElem hi])
    rwa [Addr.add_lit, Nat.zero_add] at this
end

/-- a market that has become another: where it lies now, what has turned -/
def YmTo (w : World) (V : YV) (m' : MkG) (w' : World) : Prop :=
  ∃ V', V'.q = V.q ∧ YmAt w' V' m' ∧ Chg V.foot w w' ∧ ∀ k, V'.foot k → V.foot k ∨ w.heap.size ≤ k

theorem YmTo.refl {w : World} {V : YV} {m : MkG} (h : YmAt w V m) : YmTo w V m w := ⟨V, rfl, h, Chg.refl _ _, fun _ hk => .inl hk⟩
theorem YmTo.chg0 {w w' w2 : World} {V : YV} {m : MkG} (h : YmTo w V m w') (hc : Chg (fun _ => False) w' w2) : YmTo w V m w2 := by
  obtain ⟨V', h0, h1, h2, h3⟩ := h
  exact ⟨V', h0, h1.chg0 hc, h2.trans hc (fun _ _ h => h.elim), h3⟩
theorem YmTo.start {w w0 w' : World} {V : YV} {m : MkG} (hc : Chg (fun _ => False) w0 w) (h : YmTo w V m w') : YmTo w0 V m w' := by
  obtain ⟨V', h0, h1, h2, h3⟩ := h
  exact ⟨V', h0, h1, (hc.mono (O' := V.foot) (fun _ _ h => h.elim)).trans h2 (fun _ _ h => h), fun k hk => by
    rcases h3 k hk with h | h
    · exact .inl h
    · exact .inr (Nat.le_trans hc.size h)⟩
theorem YmTo.after {w w1 w2 : World} {V V1 : YV} {m2 : MkG} (hq : V1.q = V.q) (hc : Chg V.foot w w1) (hf : ∀ k, V1.foot k → V.foot k ∨ w.heap.size ≤ k) (h : YmTo w1 V1 m2 w2) : YmTo w V m2 w2 := by
  obtain ⟨V2, b0, b1, b2, b3⟩ := h
  refine ⟨V2, b0.trans hq, b1, hc.trans b2 (fun x hx hxf => ?_), fun k hk => ?_⟩
  · rcases hf x hxf with h | h
    · exact h
    · omega
  · rcases b3 k hk with h | h
    · exact hf k h
    · exact .inr (Nat.le_trans hc.size h)
theorem YmTo.same {w w' : World} {V : YV} {m : MkG} (h : YmAt w V m) (hc : Chg (fun _ => False) w w') : YmTo w V m w' := (YmTo.refl h).chg0 hc

/-- of the log the market knows nothing -/
theorem YmAt.logs {w : World} {V : YV} {m : MkG} (h : YmAt w V m) (c : CallG) : YmAt w V (m.logs c) := ⟨h.box, h.bids, h.susp, h.units, h.cal, h.ne⟩
theorem YmTo.logs {w w' : World} {V : YV} {m : MkG} (h : YmTo w V m w') (c : CallG) : YmTo w V (m.logs c) w' := by
  obtain ⟨V', h0, h1, h2, h3⟩ := h
  exact ⟨V', h0, h1.logs c, h2, h3⟩

/-- one bid more -/
theorem YmAt.bidMore {w w1 w2 : World} {V : YV} {m : MkG} {b : BidG} {g cap : Nat} (h : YmAt w V m) (hc1 : Chg (fun _ => False) w w1) (hst : b.state = 1)
    (hown : w2.ownsRow 0 125 9 (.slice (some ⟨g, 0, none⟩) (m.bids.length + 1) cap) (m.bids.length + 1) (m.bids.flatMap ybidCells ++ ybidCells b)) (hgrow : w1.grownBy w2 V.bv.ownBlock) (hat : V.bv.ownBlock = some g ∨ w.heap.size ≤ g) :
    w2.cell? ⟨V.q, 6, none⟩ = some V.bv ∧ w2.frozen? ⟨V.q, 6, none⟩ = false ∧ YmTo w V { m with bids := m.bids ++ [b] } (w2.setCell ⟨V.q, 6, none⟩ (.slice (some ⟨g, 0, none⟩) (m.bids.length + 1) cap)) := by
  have h1 := h.chg0 hc1
  have nl : V.bv.ownBlock ≠ some V.q := ownsRow_box h1.bids h1.box (by decide)
  have keep : ∀ k, V.foot k → V.bv.ownBlock ≠ some k → w2.heap[k]? = w1.heap[k]? := fun k hk hn => hgrow.block k (h1.foot_lt k hk) (fun e => hn e.symm)
  have hb2 : w2.heap[V.q]? = some (.cells (ymBox V m) 107 (0, 0)) := (keep _ (.inl rfl) nl).trans h1.box
  refine ⟨by unfold World.cell?; rw [hb2]; rfl, by unfold World.frozen?; rw [hb2]; simp, ?_⟩
  have far : ∀ k, k ≠ V.q → (w2.setCell ⟨V.q, 6, none⟩ (.slice (some ⟨g, 0, none⟩) (m.bids.length + 1) cap)).heap[k]? = w2.heap[k]? := fun k hk => Below.heap_setCell _ _ _ _ hk
  have ex : (ymBox V m).setIfInBounds 6 (.slice (some ⟨g, 0, none⟩) (m.bids.length + 1) cap) = ymBox { V with bv := .slice (some ⟨g, 0, none⟩) (m.bids.length + 1) cap } { m with bids := m.bids ++ [b] } := rfl
  have hgp : g ≠ V.q := by
    rintro rfl
    obtain ⟨cu, hc⟩ := ownsRow_block hown (k := V.q) rfl
    rw [hb2] at hc
    simp at hc
  have old : ∀ {e : TypeId} {size n : Nat} {v : Value} {xs : List Value}, w1.ownsRow 0 e size v n xs → e ≠ 125 → e ≠ 107 → (∀ k, v.ownBlock = some k → V.foot k) → (w2.setCell ⟨V.q, 6, none⟩ (.slice (some ⟨g, 0, none⟩) (m.bids.length + 1) cap)).ownsRow 0 e size v n xs := by
    intro e size n v xs ho he he' hf
    refine ownsRow_keep ho (fun k hk => ?_)
    rw [far k (fun e => ownsRow_box ho h1.box he' (e ▸ hk))]
    exact keep k (hf k hk) (ownsRow_apart ho h1.bids he hk)
  obtain ⟨curg, hg1, _⟩ := h1.cal.hg
  have kr : (w2.setCell ⟨V.q, 6, none⟩ (.slice (some ⟨g, 0, none⟩) (m.bids.length + 1) cap)).heap[V.r]? = w1.heap[V.r]? := by
    rw [far _ (cells_ne h1.cal.hp h1.box (by decide))]
    exact keep _ (.inr (.inl rfl)) (ownsRow_box h1.bids h1.cal.hp (by decide))
  have kg : (w2.setCell ⟨V.q, 6, none⟩ (.slice (some ⟨g, 0, none⟩) (m.bids.length + 1) cap)).heap[V.g]? = w1.heap[V.g]? := by
    rw [far _ (cells_ne hg1 h1.box (by decide))]
    exact keep _ (.inr (.inr (.inl rfl))) (ownsRow_box h1.bids hg1 (by decide))
  refine ⟨{ V with bv := .slice (some ⟨g, 0, none⟩) (m.bids.length + 1) cap }, rfl, ⟨by rw [box_set hb2, ex], ?_, old h1.susp (by decide) (by decide) (fun k hk => .inr (.inr (.inr (.inr (.inr hk))))), old h1.units (by decide) (by decide) (fun k hk => .inr (.inr (.inr (.inl hk)))), ?_, h.ne⟩, ?_, ?_⟩
  · show (w2.setCell _ _).ownsRow 0 _ 9 _ (m.bids ++ [b]).length ((m.bids ++ [b]).flatMap ybidCells)
    rw [List.length_append, List.flatMap_append]
    simp only [List.flatMap_cons, List.flatMap_nil, List.append_nil, List.length_cons, List.length_nil, Nat.zero_add]
    exact ownsRow_keep hown (fun k hk => far k (fun e => by simp [Value.ownBlock] at hk; exact hgp (hk.trans e)))
  · refine (h1.cal.frame kr kg).congr (fun j _ => ?_)
    show m.units.getD j 0 - usedL m.bids j = m.units.getD j 0 - usedL (m.bids ++ [b]) j
    rw [usedL_snoc, if_neg (by simp [BidG.runs, hst])]
    omega
  · exact (((hc1.mono (O' := V.foot) (fun _ _ h => h.elim)).grown hgrow (fun k hk => .inl (.inr (.inr (.inr (.inr (.inl hk)))))))).setCell (.inl (.inl rfl)) _
  · intro k hk
    rcases hk with rfl | rfl | rfl | hk | hk | hk
    · exact .inl (.inl rfl)
    · exact .inl (.inr (.inl rfl))
    · exact .inl (.inr (.inr (.inl rfl)))
    · exact .inl (.inr (.inr (.inr (.inl hk))))
    · simp [Value.ownBlock] at hk
      subst hk
      rcases hat with h | h
      · exact .inl (.inr (.inr (.inr (.inr (.inl h)))))
      · exact .inr h
    · exact .inl (.inr (.inr (.inr (.inr (.inr hk)))))

theorem ybids_arm {w w1 w2 : World} {V : YV} {m : MkG} {b : BidG} {ao : Option Addr} {cap n g cap' H : Nat} (h : YmAt w V m) (hv : V.bv = .slice ao m.bids.length cap) (hn : n = m.bids.length) (hst : b.state = 1) (hc1 : Chg (fun _ => False) w w1)
    (hown : w2.ownsRow 0 125 9 (.slice (some ⟨g, 0, none⟩) (n + 1) cap') (n + 1) (m.bids.flatMap ybidCells ++ ybidCells b)) (hgrow : w1.grownBy w2 (Value.ownBlock (.slice ao n cap))) (hat : Value.ownBlock (.slice ao n cap) = some g ∨ g = H) (hH : w.heap.size ≤ H) :
    w2.cell? ⟨V.q, 6, none⟩ = some (.slice ao n cap) ∧ w2.frozen? ⟨V.q, 6, none⟩ = false ∧ Hid (YmTo w V { m with bids := m.bids ++ [b] } (w2.setCell ⟨V.q, 6, none⟩ (.slice (some ⟨g, 0, none⟩) (n + 1) cap'))) := by
  subst hn
  rw [← hv] at hgrow hat ⊢
  exact h.bidMore hc1 hst hown hgrow (by rcases hat with h | h; exact .inl h; exact .inr (by omega))

theorem usedL_set (l : List BidG) (i : Nat) (b : BidG) (hb : l[i]? = some b) (s : Int) (h1 : b.state ≠ 2) (h2 : s ≠ 2) (t : Int) : usedL (l.set i { b with state := s }) t = usedL l t := by
  induction l generalizing i with
  | nil => simp at hb
  | cons y l ih =>
    cases i with
    | zero =>
      simp at hb
      subst hb
      simp [usedL, BidG.runs, h1, h2]
    | succ i =>
      simp only [List.getElem?_cons_succ] at hb
      have := ih i hb
      simp only [usedL, List.set_cons_succ, List.map_cons, List.sum_cons] at this ⊢
      omega

/-- a bid's state, written -/
theorem YmAt.setState {w : World} {V : YV} {m : MkG} {i g : Nat} {b : BidG} {s : Int} (h : YmAt w V m) (hb : m.bids[i]? = some b) (h1 : b.state ≠ 2) (h2 : s ≠ 2) (hg : V.bv.ownBlock = some g) :
    YmTo w V { m with bids := m.bids.set i { b with state := s } } (w.setCell ⟨g, i * 9 + 7, none⟩ (.int .i64 s)) := by
  have hil : i < m.bids.length := (List.getElem?_eq_some_iff.1 hb).1
  have hgp : g ≠ V.q := fun e => ownsRow_box h.bids h.box (by decide) (e ▸ hg)
  have far : ∀ k, k ≠ g → (w.setCell ⟨g, i * 9 + 7, none⟩ (.int .i64 s)).heap[k]? = w.heap[k]? := fun k hk => Below.heap_setCell _ _ _ _ hk
  have old : ∀ {e : TypeId} {size n : Nat} {v : Value} {xs : List Value}, w.ownsRow 0 e size v n xs → e ≠ 125 → (w.setCell ⟨g, i * 9 + 7, none⟩ (.int .i64 s)).ownsRow 0 e size v n xs := by
    intro e size n v xs ho he
    exact ownsRow_keep ho (fun k hk => far k (fun e => ownsRow_apart ho h.bids he hk (e ▸ hg)))
  obtain ⟨curg, hg1, _⟩ := h.cal.hg
  refine ⟨V, rfl, ⟨(far _ (Ne.symm hgp)).trans h.box, ?_, old h.susp (by decide), old h.units (by decide), ?_, h.ne⟩, ?_, fun k hk => .inl hk⟩
  · show (w.setCell _ _).ownsRow 0 _ 9 _ (m.bids.set i { b with state := s }).length ((m.bids.set i { b with state := s }).flatMap ybidCells)
    rw [List.length_set]
    have key : ∀ (l : List BidG) (i : Nat) (b : BidG), l[i]? = some b → (l.set i { b with state := s }).flatMap ybidCells = (l.flatMap ybidCells).set (i * 9 + 7) (.int .i64 s) := by
      intro l
      induction l with
      | nil => intro i b hb; simp at hb
      | cons y l ih =>
        intro i b hb
        cases i with
        | zero =>
          simp at hb
          subst hb
          simp [ybidCells]
        | succ i =>
          simp only [List.getElem?_cons_succ] at hb
          simp only [List.set_cons_succ, List.flatMap_cons, ih i b hb]
          rw [show (i + 1) * 9 + 7 = (ybidCells y).length + (i * 9 + 7) by simp [ybidCells]; omega]
          rw [List.set_append_right _ _ (by omega)]
          simp
    rw [key m.bids i b hb]
    rcases h.bids.2 with ⟨hv, h0⟩ | ⟨g', cap, cur, hv, hb0, hh, hc, hmx, hsz, htake⟩
    · omega
    · have hgg : g' = g := by rw [hv] at hg; simpa [Value.ownBlock] using hg
      subst hgg
      refine ⟨by simp [h.bids.1], .inr ⟨g', cap, cur.setIfInBounds (i * 9 + 7) (.int .i64 s), hv, hb0, box_set hh _, hc, hmx, by simpa using hsz, ?_⟩⟩
      rw [Array.toList_setIfInBounds, List.take_set, htake]
  · refine (h.cal.frame (far _ (fun e => ownsRow_box h.bids h.cal.hp (by decide) (e ▸ hg))) (far _ (fun e => ownsRow_box h.bids hg1 (by decide) (e ▸ hg)))).congr (fun j _ => ?_)
    show m.units.getD j 0 - usedL m.bids j = m.units.getD j 0 - usedL (m.bids.set i { b with state := s }) j
    rw [usedL_set m.bids i b hb s h1 h2]
  · exact (Chg.refl _ _).setCell (.inl (.inr (.inr (.inr (.inr (.inl hg)))))) _

/-- a tenant's mark, written -/
theorem YmAt.setSusp {w : World} {V : YV} {m : MkG} {i g : Nat} {s : Bool} (h : YmAt w V m) (hi : i < m.susp.length) (hg : V.sv.ownBlock = some g) :
    YmTo w V { m with susp := m.susp.set i s } (w.setCell ⟨g, i, none⟩ (.bool s)) := by
  have hgp : g ≠ V.q := fun e => ownsRow_box h.susp h.box (by decide) (e ▸ hg)
  have far : ∀ k, k ≠ g → (w.setCell ⟨g, i, none⟩ (.bool s)).heap[k]? = w.heap[k]? := fun k hk => Below.heap_setCell _ _ _ _ hk
  have old : ∀ {e : TypeId} {size n : Nat} {v : Value} {xs : List Value}, w.ownsRow 0 e size v n xs → e ≠ 4 → (w.setCell ⟨g, i, none⟩ (.bool s)).ownsRow 0 e size v n xs := by
    intro e size n v xs ho he
    exact ownsRow_keep ho (fun k hk => far k (fun e => ownsRow_apart ho h.susp he hk (e ▸ hg)))
  obtain ⟨curg, hg1, _⟩ := h.cal.hg
  refine ⟨V, rfl, ⟨(far _ (Ne.symm hgp)).trans h.box, old h.bids (by decide), ?_, old h.units (by decide), h.cal.frame (far _ (fun e => ownsRow_box h.susp h.cal.hp (by decide) (e ▸ hg))) (far _ (fun e => ownsRow_box h.susp hg1 (by decide) (e ▸ hg))), h.ne⟩, ?_, fun k hk => .inl hk⟩
  · show (w.setCell _ _).ownsRow 0 _ 1 _ (m.susp.set i s).length ((m.susp.set i s).map Value.bool)
    rw [List.length_set, List.map_set]
    rcases h.susp.2 with ⟨hv, h0⟩ | ⟨g', cap, cur, hv, hb0, hh, hc, hmx, hsz, htake⟩
    · omega
    · have hgg : g' = g := by rw [hv] at hg; simpa [Value.ownBlock] using hg
      subst hgg
      refine ⟨by simp, .inr ⟨g', cap, cur.setIfInBounds i (.bool s), hv, hb0, box_set hh _, hc, hmx, by simpa using hsz, ?_⟩⟩
      rw [Array.toList_setIfInBounds, List.take_set, htake]
  · exact (Chg.refl _ _).setCell (.inl (.inr (.inr (.inr (.inr (.inr hg)))))) _

/-- the units of a tick, written once the calendar knows of it -/
theorem YmAt.setUnit {w w' : World} {V : YV} {m : MkG} {i g : Nat} {u : Int} (h : YmAt w V m) (hi : i < m.units.length) (hg : V.uv.ownBlock = some g)
    (hrow : RowAt 98 w' V.r V.g m.units.length V.cc (addZ (freeZ m) i (i + 1) (u - m.units.getD i 0))) (hc : Chg (fun k => k = V.g) w w') :
    YmTo w V { m with units := m.units.set i u } (w'.setCell ⟨g, i, none⟩ (.int .i64 u)) := by
  have hgg0 : g ≠ V.g := fun e => h.ne (e ▸ hg)
  have hgp : g ≠ V.q := fun e => ownsRow_box h.units h.box (by decide) (e ▸ hg)
  obtain ⟨curg, hg1, _⟩ := h.cal.hg
  have far : ∀ k, k ≠ g → (w'.setCell ⟨g, i, none⟩ (.int .i64 u)).heap[k]? = w'.heap[k]? := fun k hk => Below.heap_setCell _ _ _ _ hk
  have mid : ∀ k, V.foot k → k ≠ V.g → w'.heap[k]? = w.heap[k]? := fun k hk hn => hc.block k (h.foot_lt k hk) hn
  have old : ∀ {e : TypeId} {size n : Nat} {v : Value} {xs : List Value}, w.ownsRow 0 e size v n xs → e ≠ 3 → (∀ k, v.ownBlock = some k → V.foot k) → (w'.setCell ⟨g, i, none⟩ (.int .i64 u)).ownsRow 0 e size v n xs := by
    intro e size n v xs ho he hf
    refine ownsRow_keep ho (fun k hk => ?_)
    rw [far k (fun e => ownsRow_apart ho h.units he hk (e ▸ hg))]
    exact mid k (hf k hk) (fun e => ownsRow_box ho hg1 he (e ▸ hk))
  refine ⟨V, rfl, ⟨?_, old h.bids (by decide) (fun k hk => .inr (.inr (.inr (.inr (.inl hk))))), old h.susp (by decide) (fun k hk => .inr (.inr (.inr (.inr (.inr hk))))), ?_, ?_, h.ne⟩, ?_, fun k hk => .inl hk⟩
  · rw [far _ (Ne.symm hgp), mid _ (.inl rfl) (cells_ne h.box hg1 (by decide))]
    exact h.box
  · show (w'.setCell _ _).ownsRow 0 _ 1 _ (m.units.set i u).length ((m.units.set i u).map (Value.int .i64))
    rw [List.length_set, List.map_set]
    have hu := ownsRow_keep (w' := w') h.units (fun k hk => mid k (.inr (.inr (.inr (.inl hk)))) (fun e => h.ne (e ▸ hk)))
    rcases hu.2 with ⟨hv, h0⟩ | ⟨g', cap, cur, hv, hb0, hh, hcp, hmx, hsz, htake⟩
    · omega
    · have hgg : g' = g := by rw [hv] at hg; simpa [Value.ownBlock] using hg
      subst hgg
      refine ⟨by simp, .inr ⟨g', cap, cur.setIfInBounds i (.int .i64 u), hv, hb0, box_set hh _, hcp, hmx, by simpa using hsz, ?_⟩⟩
      rw [Array.toList_setIfInBounds, List.take_set, htake]
  · show RowAt _ _ V.r V.g (m.units.set i u).length V.cc _
    rw [List.length_set]
    refine (hrow.frame (far _ (fun e => ownsRow_box h.units h.cal.hp (by decide) (e ▸ hg))) (far _ (Ne.symm hgg0))).congr (fun j hj => ?_)
    show addZ (freeZ m) i (i + 1) (u - m.units.getD i 0) j = (m.units.set i u).getD j 0 - usedL m.bids j
    unfold addZ freeZ
    by_cases e : j = i
    · subst e
      rw [if_pos ⟨by omega, by omega⟩]
      simp [List.getD, hj]
      omega
    · rw [if_neg (by omega)]
      simp [List.getD, Ne.symm e]
  · exact (hc.mono (O' := V.foot) (fun _ _ h => .inr (.inr (.inl h)))).setCell (.inl (.inr (.inr (.inr (.inl hg))))) _
end Go.Proofs.Ytminceigjejipaa
