import Derived.Test.YtminceigjejipaaGreatRow9
import Derived.Deep.AppendLies
namespace Go.Proofs.YtminceigjejipaaGreat
open Go.RowKit

/-- the world's box -/
def BoxAt (w : World) (B : Nat) (v0 v1 v2 v3 v4 : Value) : Prop := w.heap[B]? = some (.cells #[v0, v1, v2, v3, v4] 33 (0, 0))
section
variable {w : World} {B : Nat} {v0 v1 v2 v3 v4 : Value}
theorem BoxAt.cell (h : BoxAt w B v0 v1 v2 v3 v4) (f : Nat) : w.cell? ⟨B, f, none⟩ = #[v0, v1, v2, v3, v4][f]? := by
  unfold World.cell?
  rw [show w.heap[B]? = _ from h]
  rfl
theorem BoxAt.free (h : BoxAt w B v0 v1 v2 v3 v4) (f : Nat) : w.frozen? ⟨B, f, none⟩ = false := by
  unfold World.frozen?
  rw [show w.heap[B]? = _ from h]
  simp
theorem BoxAt.lt (h : BoxAt w B v0 v1 v2 v3 v4) : B < w.heap.size := (Array.getElem?_eq_some_iff.1 h).1
theorem BoxAt.set1 (h : BoxAt w B v0 v1 v2 v3 v4) (u : Value) : BoxAt (w.setCell ⟨B, 1, none⟩ u) B v0 u v2 v3 v4 := by
  unfold BoxAt
  simp only [World.setCell, Array.getElem?_modify]
  rw [show w.heap[B]? = _ from h]
  simp
theorem BoxAt.chg {O : Nat → Prop} {w' : World} (h : BoxAt w B v0 v1 v2 v3 v4) (hc : Chg O w w') (hn : ¬ O B) : BoxAt w' B v0 v1 v2 v3 v4 := (hc.block _ h.lt hn).trans h
end

theorem infoRow : (Tryz.prog.info? 46).map (fun i => (i.zero, i.size, i.bytes)) = some (some (.agg #[.pointer none, .pointer none]), 2, 16) := by kernel_rfl

set_option maxHeartbeats 2000000 in
theorem rowed_bad (bw : Nat) (n v : Int) (w : World) (h : newB n v = true) :
    Calls Tryz.prog 13 #[.pointer (some ⟨bw, 0, none⟩), .int .i64 n, .int .i64 v] w fun e w' => e = .returned (.bool true) ∧ w' = w := by
  go_enter Tryz.func13, Tryz.ntmps13
  go_wp2_with fail
  refine (calNew_bad n v _ h).mono ?_
  rintro e w1 ⟨rfl, hw⟩
  subst w1
  go_wp2_with fail
  refine (refNew_bad n v _ h).mono ?_
  rintro e w1 ⟨rfl, hw⟩
  subst w1
  clear h
  go_wp2
  go_ret
  exact ⟨rfl, rfl⟩

/-- what 'rowed' makes -/
def Rowed (w : World) (B n m : Nat) (v : Int) (v0 rv v2 v3 v4 : Value) (xs : List Value) (w' : World) : Prop :=
  ∃ rv' p1 g1 p2 g2 c2, BoxAt w' B v0 rv' v2 v3 v4 ∧ w'.ownsRow (B + 1) 46 2 rv' (m + 1) (xs ++ [.pointer (some ⟨p1, 0, none⟩), .pointer (some ⟨p2, 0, none⟩)]) ∧ PairAt w' p1 g1 p2 g2 n n c2 (fun _ => v) ∧
    w.heap.size ≤ p1 ∧ w.heap.size ≤ g1 ∧ w.heap.size ≤ p2 ∧ w.heap.size ≤ g2 ∧ Chg (fun k => k = B ∨ rv.ownBlock = some k) w w' ∧ ∀ k, rv'.ownBlock = some k → rv.ownBlock = some k ∨ w.heap.size ≤ k

theorem rowed_step {w w1 w2 w3 : World} {o : Obj} {B n m p1 g2 c2 : Nat} {v : Int} {v0 rv v2 v3 v4 rv' : Value} {xs : List Value} (hn1 : 1 ≤ n) (hn2 : n ≤ 4096) (hv : standB v = true)
    (hbox : BoxAt w B v0 rv v2 v3 v4) (hown : w.ownsRow (B + 1) 46 2 rv m xs)
    (hp1 : w.heap.size ≤ p1) (hr1 : RowAt 101 w1 p1 w.heap.size n n (fun _ => v)) (hc1 : Chg (fun _ => False) w w1)
    (hg2 : w1.heap.size ≤ g2) (hr2 : RowAt 103 w2 w1.heap.size g2 n c2 (fun _ => v)) (hc2 : Chg (fun _ => False) w1 w2)
    (hown' : w3.ownsRow (B + 1) 46 2 rv' (m + 1) (xs ++ [.pointer (some ⟨p1, 0, none⟩), .pointer (some ⟨w1.heap.size, 0, none⟩)])) (hg : (w2.alloc o).grownBy w3 rv.ownBlock) (hat : ∀ k, rv'.ownBlock = some k → rv.ownBlock = some k ∨ w2.heap.size ≤ k) :
    w3.cell? ⟨B, 1, none⟩ = some rv ∧ w3.frozen? ⟨B, 1, none⟩ = false ∧ (∃ sa sl sc, rv' = .slice sa sl sc) ∧ Rowed w B n m v v0 rv v2 v3 v4 xs (w3.setCell ⟨B, 1, none⟩ rv') := by
  have hl : ∀ k, rv.ownBlock = some k → B + 1 ≤ k ∧ k < w.heap.size := hown.lt
  have hBl := hbox.lt
  have hs1 := hc1.size
  have hs2 := hc2.size
  have hc3 : Chg (fun k => rv.ownBlock = some k) w w3 :=
    ((((hc1.trans hc2 (fun _ _ h => h)).alloc o).mono (O' := fun k => rv.ownBlock = some k) (fun _ _ h => h.elim))).grown hg (fun k hk => .inl hk)
  have hb3 : BoxAt w3 B v0 rv v2 v3 v4 := hbox.chg hc3 (fun h => by have := hl _ h; omega)
  have e1 := hb3.cell 1
  simp at e1
  refine ⟨e1, hb3.free 1, ?_, ?_⟩
  · rcases hown'.2 with ⟨rfl, _⟩ | ⟨_, _, _, rfl, _⟩
    · exact ⟨_, _, _, rfl⟩
    · exact ⟨_, _, _, rfl⟩
  have hcc : Chg (fun k => rv.ownBlock = some k ∨ k = B) w2 (w3.setCell ⟨B, 1, none⟩ rv') :=
    ((((Chg.refl (fun k => rv.ownBlock = some k ∨ k = B) w2).alloc o)).grown hg (fun k hk => .inl (.inl hk))).setCell (.inl (.inr rfl)) _
  have no : ∀ k, w.heap.size ≤ k → ¬ (rv.ownBlock = some k ∨ k = B) := fun k hk h => by
    rcases h with h | h
    · have := hl _ h; omega
    · omega
  refine ⟨rv', p1, w.heap.size, w1.heap.size, g2, c2, hb3.set1 rv', ownsRow_setCell_below hown' (by show B < _; omega) _, ⟨?_, ?_, ?_, hn1, hn2, ?_⟩, hp1, Nat.le_refl _, hs1, by omega, ?_, ?_⟩
  · exact (hr1.chg hc2 (fun h => h) (fun h => h)).chg hcc (no _ hp1) (no _ (Nat.le_refl _))
  · exact hr2.chg hcc (no _ hs1) (no _ (by omega))
  · have := hr1.ltg; omega
  · intro j _
    exact standB_true hv
  · exact (hc3.mono (O' := fun k => k = B ∨ rv.ownBlock = some k) (fun _ _ h => .inr h)).setCell (.inl (.inl rfl)) _
  · intro k hk
    rcases hat k hk with h | h
    · exact .inl h
    · exact .inr (by omega)

set_option maxRecDepth 100000 in
set_option maxHeartbeats 2000000 in
theorem rowed_ok (B n m : Nat) (v : Int) (ra : Option Addr) (rc : Nat) (v0 v2 v3 v4 : Value) (xs : List Value) (w : World) (hn1 : 1 ≤ n) (hn2 : n ≤ 4096) (hv : standB v = true) (hm : m < 5000000000000)
    (hbox : BoxAt w B v0 (.slice ra m rc) v2 v3 v4) (hown : w.ownsRow (B + 1) 46 2 (.slice ra m rc) m xs) :
    Calls Tryz.prog 13 #[.pointer (some ⟨B, 0, none⟩), .int .i64 n, .int .i64 v] w fun e w' => e = .returned (.bool true) ∧ Rowed w B n m v v0 (.slice ra m rc) v2 v3 v4 xs w' := by
  obtain ⟨i0, hi, hz0, hz1, hz2⟩ := info_parts infoRow
  have HBOX := hide hbox
  have HOWN := hide hown
  have HV := hide hv
  have hBl := hbox.lt
  clear hbox hown hv
  go_enter Tryz.func13, Tryz.ntmps13
  go_wp2_with fail
  refine (calNew_ok n v _ hn1 hn2 HV.out).mono ?_
  rintro e w1 ⟨p1, rfl, hp1, hr1, hc1⟩
  have HR1 := hide hr1
  have HC1 := hide hc1
  clear hr1 hc1
  go_wp2_with fail
  refine (refNew_ok n v _ hn1 hn2 HV.out).mono ?_
  rintro e w2 ⟨g2, c2, rfl, hg2, hr2, hc2⟩
  have HR2 := hide hr2
  have HC2 := hide hc2
  have hb2 : BoxAt w2 B v0 (.slice ra m rc) v2 v3 v4 := (HBOX.out.chg HC1.out (fun h => h)).chg HC2.out (fun h => h)
  have hcell : w2.cell? ⟨B, 1, none⟩ = some (.slice ra m rc) := by have := hb2.cell 1; simpa using this
  have hlt2 : B < w2.heap.size := hb2.lt
  have HO2 := hide (show w2.ownsRow (B + 1) 46 2 (.slice ra m rc) m xs from by
    have hg : w.grownBy w2 none := ⟨HC2.out.os.trans HC1.out.os, HC2.out.tape.trans HC1.out.tape, HC2.out.output.trans HC1.out.output, Nat.le_trans HC1.out.size HC2.out.size, fun k hk _ => (HC2.out.block k (Nat.lt_of_lt_of_le hk HC1.out.size) (fun h => h)).trans (HC1.out.block k hk (fun h => h))⟩
    exact HOWN.out.kept hg (by cases ra <;> simp [Value.ownBlock]))
  clear hr2 hc2 hb2
  go_wp2_with (first | (at_builtin; refine wpList_append_lies _ rfl _ _ 28 rfl (B + 1) 46 i0 (.agg #[.pointer none, .pointer none]) 2 16 Tryz.underlying28 hi hz0 hz1 hz2 rfl (by decide) _ _ _ rfl (HO2.out.alloc _) ⟨w2.heap.size, 0, none⟩ 1 1 [.pointer (some ⟨p1, 0, none⟩), .pointer (some ⟨w1.heap.size, 0, none⟩)] rfl rfl (World.news_of_block (heap_alloc_new w2 _)) (by simp [Value.oneCell']) (by decide) (by unfold maxLen; omega) (by omega) (by simp; omega) _ rfl ?_))
  · intro g cap w3 hown' hgrow hat _
    obtain ⟨s1, s2, _, s3⟩ := rowed_step hn1 hn2 HV.out HBOX.out HOWN.out hp1 HR1.out HC1.out hg2 HR2.out HC2.out hown' hgrow (fun k hk => by
      simp [Value.ownBlock] at hk
      subst hk
      rcases hat with h | h
      · exact .inl h
      · exact .inr (by omega))
    have S3 := hide s3
    clear s3 hown' hgrow hcell hat
    go_wp2
    go_ret
    exact ⟨rfl, S3.out⟩
end Go.Proofs.YtminceigjejipaaGreat
