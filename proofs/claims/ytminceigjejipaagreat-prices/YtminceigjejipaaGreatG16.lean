import Derived.Test.YtminceigjejipaaGreatG1
import Derived.Test.YtminceigjejipaaGreatStepR
import Derived.Test.YtminceigjejipaaGreatStepN
namespace Go.Proofs.YtminceigjejipaaGreat
open Go.RowKit

def opAt (S : Nat → Int) (i : Nat) : Value := .agg #[.int .i64 (S (i * 10)), .int .i64 (S (i * 10 + 1)), .int .i64 (S (i * 10 + 2)), .int .i64 (S (i * 10 + 3)), .int .i64 (S (i * 10 + 4)), .int .i64 (S (i * 10 + 5)), .int .i64 (S (i * 10 + 6)), .int .i64 (S (i * 10 + 7)), .int .i64 (S (i * 10 + 8)), .int .i64 (S (i * 10 + 9))]

/-- what 'plays' asks of a step, of looks, and of what holds between -/
structure Plays (B slen : Nat) (S : Nat → Int) (play hold : List Int) (w : World) (Inv : Nat → (Nat → Prop) → World → Prop) : Prop where
  own : ∀ i O w1, Inv i O w1 → ∀ k, O k → B ≤ k ∧ k < w1.heap.size
  frame : ∀ i O w1 w2, Inv i O w1 → Chg (fun k => ¬ O k) w1 w2 → Inv i O w2
  skip : ∀ i O w1, Inv i O w1 → Inv (i + 1) O w1
  step : ∀ i, i < slen → play.contains (S (i * 10)) = true → ∀ O w1, Inv i O w1 → Below B w w1 →
    Calls Tryz.prog 11 #[.pointer (some ⟨B, 0, none⟩), opAt S i] w1 fun e w2 => ∃ b O', e = .returned (.bool b) ∧ Inv (i + 1) O' w2 ∧ Chg O w1 w2 ∧
      (b = false → hold.contains (S (i * 10)) = false ∧ S (i * 10) ≠ 2 ∧ S (i * 10) ≠ 6)
  looks : ∀ i O w1, Inv i O w1 → Calls Tryz.prog 12 #[.pointer (some ⟨B, 0, none⟩)] w1 fun e w2 => e = .returned (.bool true) ∧ Chg (fun _ => False) w1 w2

set_option maxHeartbeats 2000000 in
theorem plays_none (hv pv : Value) (ca ao : Option Addr) (cl cc scap : Nat) (w : World) :
    Calls Tryz.prog 9 #[.slice ca cl cc, .slice ao 0 scap, pv, hv] w fun e w' => e = .returned (.bool true) ∧ Below w.heap.size w w' := by
  go_enter Tryz.func9, Tryz.ntmps9
  go_wp2
  go_loopw [10] (fun i wr => i = .int .i64 0 ∧ Below w.heap.size w wr) (fun _ _ => 0)
  case atStart => exact ⟨rfl, (Below.refl _ _).alloc (Nat.le_refl _) _⟩
  case round =>
    obtain ⟨rfl, hbel⟩ := hrel
    go_wp2
    go_ret
    exact ⟨rfl, hbel⟩

set_option maxRecDepth 100000 in
set_option maxHeartbeats 2000000 in
theorem plays_some (ca : Option Addr) (cl cc bp bh np nh cp ch sb soff slen scap : Nat) (S : Nat → Int) (play hold : List Int) (w : World) (Inv : Nat → (Nat → Prop) → World → Prop)
    (hP : Plays w.heap.size slen S play hold w Inv)
    (hsl : slen < 1000000000000000) (hsb : sb < w.heap.size) (hS0 : ∀ t, t < slen * 10 → w.cell? ⟨sb, soff + t, none⟩ = some (.int .i64 (S t)))
    (hbp : bp < w.heap.size) (hbh : bh < w.heap.size) (hnp : play.length = np) (hnh : hold.length = nh) (hnp' : np ≤ 1000) (hnh' : nh ≤ 1000)
    (hp0 : ∀ j, j < np → w.cell? ⟨bp, j, none⟩ = some (.int .i64 (play.getD j 0))) (hh0 : ∀ j, j < nh → w.cell? ⟨bh, j, none⟩ = some (.int .i64 (hold.getD j 0)))
    (O0 : Nat → Prop) (hI : Inv 0 O0 (w.alloc (.cells #[.slice ca cl cc, .slice none 0 0, .slice none 0 0, .slice none 0 0, .slice none 0 0] 33))) :
    Calls Tryz.prog 9 #[.slice ca cl cc, .slice (some ⟨sb, soff, none⟩) slen scap, .slice (some ⟨bp, 0, none⟩) np cp, .slice (some ⟨bh, 0, none⟩) nh ch] w fun e w' => e = .returned (.bool true) ∧ Below w.heap.size w w' := by
  have hS : Hid (∀ t, t < slen * 10 → w.cell? ⟨sb, soff + t, none⟩ = some (.int .i64 (S t))) := hS0
  have hp : Hid (∀ j, j < np → w.cell? ⟨bp, j, none⟩ = some (.int .i64 (play.getD j 0))) := hp0
  have hh : Hid (∀ j, j < nh → w.cell? ⟨bh, j, none⟩ = some (.int .i64 (hold.getD j 0))) := hh0
  have HI : Hid (Inv 0 O0 (w.alloc (.cells #[.slice ca cl cc, .slice none 0 0, .slice none 0 0, .slice none 0 0, .slice none 0 0] 33))) := hI
  have HP : Hid (Plays w.heap.size slen S play hold w Inv) := hP
  have hnpl : Hid (play.length = np) := hnp
  have hnhl : Hid (hold.length = nh) := hnh
  clear hS0 hp0 hh0 hI hP hnp hnh
  go_enter Tryz.func9, Tryz.ntmps9
  go_wp2
  go_loopw [10] (fun i wr => ∃ (k : Nat) (O : Nat → Prop), k ≤ slen ∧ i = .int .i64 k ∧ Inv k O wr ∧ Below w.heap.size w wr) (fun i _ => slen - (intOf i).toNat)
  case atStart => exact ⟨0, O0, Nat.zero_le _, rfl, HI.out, (Below.refl _ _).alloc (Nat.le_refl _) _⟩
  case round =>
    obtain ⟨k, O, hk, rfl, hinv, hbel⟩ := hrel
    have HInv : Hid (Inv k O wr) := hinv
    clear hinv HI
    by_cases hlt : k < slen
    rotate_left
    · go_wp2
      go_ret
      exact ⟨rfl, hbel⟩
    have hszr := hbel.size
    have c0 : wr.cell? ⟨sb, soff + k * 10, none⟩ = some (.int .i64 (S (k * 10))) := by rw [hbel.cell (by exact hsb)]; simpa [Nat.add_assoc] using hS.out (k * 10) (by omega)
    have c1 : wr.cell? ⟨sb, soff + k * 10 + 1, none⟩ = some (.int .i64 (S (k * 10 + 1))) := by rw [hbel.cell (by exact hsb)]; simpa [Nat.add_assoc] using hS.out (k * 10 + 1) (by omega)
    have c2 : wr.cell? ⟨sb, soff + k * 10 + 2, none⟩ = some (.int .i64 (S (k * 10 + 2))) := by rw [hbel.cell (by exact hsb)]; simpa [Nat.add_assoc] using hS.out (k * 10 + 2) (by omega)
    have c3 : wr.cell? ⟨sb, soff + k * 10 + 3, none⟩ = some (.int .i64 (S (k * 10 + 3))) := by rw [hbel.cell (by exact hsb)]; simpa [Nat.add_assoc] using hS.out (k * 10 + 3) (by omega)
    have c4 : wr.cell? ⟨sb, soff + k * 10 + 4, none⟩ = some (.int .i64 (S (k * 10 + 4))) := by rw [hbel.cell (by exact hsb)]; simpa [Nat.add_assoc] using hS.out (k * 10 + 4) (by omega)
    have c5 : wr.cell? ⟨sb, soff + k * 10 + 5, none⟩ = some (.int .i64 (S (k * 10 + 5))) := by rw [hbel.cell (by exact hsb)]; simpa [Nat.add_assoc] using hS.out (k * 10 + 5) (by omega)
    have c6 : wr.cell? ⟨sb, soff + k * 10 + 6, none⟩ = some (.int .i64 (S (k * 10 + 6))) := by rw [hbel.cell (by exact hsb)]; simpa [Nat.add_assoc] using hS.out (k * 10 + 6) (by omega)
    have c7 : wr.cell? ⟨sb, soff + k * 10 + 7, none⟩ = some (.int .i64 (S (k * 10 + 7))) := by rw [hbel.cell (by exact hsb)]; simpa [Nat.add_assoc] using hS.out (k * 10 + 7) (by omega)
    have c8 : wr.cell? ⟨sb, soff + k * 10 + 8, none⟩ = some (.int .i64 (S (k * 10 + 8))) := by rw [hbel.cell (by exact hsb)]; simpa [Nat.add_assoc] using hS.out (k * 10 + 8) (by omega)
    have c9 : wr.cell? ⟨sb, soff + k * 10 + 9, none⟩ = some (.int .i64 (S (k * 10 + 9))) := by rw [hbel.cell (by exact hsb)]; simpa [Nat.add_assoc] using hS.out (k * 10 + 9) (by omega)
    have HO := HP.out.own k O wr HInv.out
    have HOh : Hid (∀ k, O k → w.heap.size ≤ k ∧ k < wr.heap.size) := HO
    clear HO
    have hpr : Hid (∀ (o : Obj) j, j < np → (wr.alloc o).cell? ⟨bp, j, none⟩ = some (.int .i64 (play.getD j 0))) := fun o j hj => by
      rw [World.cell?_alloc_lt _ _ _ (by show bp < _; omega), hbel.cell (by exact hbp)]; exact hp.out j hj
    have hmx : (k : Int) < 144115188075855872 := by omega
    have hmx' : decide ((k : Int) < 144115188075855872) = true := by simpa using hmx
    go_wp2_with fail
    refine (among_any bp np cp play (S (k * 10)) _ hnpl.out hnp' (hpr.out _)).mono ?_
    rintro e w1 ⟨rfl, rfl⟩
    clear hmx hmx'
    obtain ⟨kz, hkz⟩ : ∃ kz, kz = S (k * 10) := ⟨_, rfl⟩
    rw [← hkz] at c0 ⊢
    have HK : Hid (kz = S (k * 10)) := hkz
    clear hkz
    have hfr : Hid (∀ o, Inv k O (wr.alloc o)) := fun o => HP.out.frame _ _ _ _ HInv.out ((Chg.refl _ _).alloc _)
    have hbal : Hid (∀ o, Below w.heap.size w (wr.alloc o)) := fun o => hbel.alloc (by omega) _
    cases hin : play.contains kz
    · go_wp2
      go_roundw
      case rel => exact ⟨k + 1, O, by omega, by go_num, HP.out.skip _ _ _ (hfr.out _), hbal.out _⟩
      case measure => simp [intOf]; omega
    · go_wp2_with fail
      have hst := HP.out.step k hlt (by rw [← HK.out]; exact hin) O _ (hfr.out (.cells #[.int .i64 kz, .int .i64 (S (k * 10 + 1)), .int .i64 (S (k * 10 + 2)), .int .i64 (S (k * 10 + 3)), .int .i64 (S (k * 10 + 4)), .int .i64 (S (k * 10 + 5)), .int .i64 (S (k * 10 + 6)), .int .i64 (S (k * 10 + 7)), .int .i64 (S (k * 10 + 8)), .int .i64 (S (k * 10 + 9))] 37)) (hbal.out _)
      simp only [opAt, ← HK.out] at hst
      refine hst.mono ?_
      clear hst
      rintro e w2 ⟨b, O', rfl, hinv2, hchg, hb⟩
      have k0 : w2.cell? ⟨wr.heap.size, 0, none⟩ = some (.int .i64 kz) := by
        rw [hchg.cell (by simp) (fun h => by have := (HOh.out _ h).2; simp at this)]; simp
      have HI2 : Hid (Inv (k + 1) O' w2) := hinv2
      have HC2 := hchg.below (B := w.heap.size) (by simp; omega) (fun k h => (HOh.out k h).1)
      have HB : Hid (b = false → hold.contains kz = false ∧ kz ≠ 2 ∧ kz ≠ 6) := hb
      have hbel2 := (hbal.out _).trans HC2
      have hhr : Hid (∀ j, j < nh → w2.cell? ⟨bh, j, none⟩ = some (.int .i64 (hold.getD j 0))) := fun j hj => by rw [hbel2.cell (by exact hbh)]; exact hh.out j hj
      clear hb HC2 hchg hinv2 c0 c1 c2 c3 c4 c5 c6 c7 c8 c9
      go_wp2_with fail
      refine (among_any bh nh ch hold kz _ hnhl.out hnh' hhr.out).mono ?_
      rintro e w3 ⟨rfl, hw3⟩
      subst hw3
      cases b
      · obtain ⟨g1, g2, g3⟩ := HB.out rfl
        have g2' : (kz == 2) = false := by simpa using g2
        have g3' : (kz == 6) = false := by simpa using g3
        rw [g1]
        clear g1 g2 g3 HB
        go_wp2_with fail
        refine (HP.out.looks (k + 1) O' _ HI2.out).mono ?_
        rintro e w4 ⟨rfl, hq⟩
        go_wp2
        go_roundw
        case rel => exact ⟨k + 1, O', by omega, by go_num, HP.out.frame _ _ _ _ HI2.out (hq.mono (fun _ _ h => h.elim)), hbel2.trans (hq.below hbel2.size (fun _ h => h.elim))⟩
        case measure => simp [intOf]; omega
      · clear HB
        generalize hold.contains kz = hb'
        go_wp2_with fail
        refine (HP.out.looks (k + 1) O' _ HI2.out).mono ?_
        rintro e w4 ⟨rfl, hq⟩
        go_wp2
        go_roundw
        case rel => exact ⟨k + 1, O', by omega, by go_num, HP.out.frame _ _ _ _ HI2.out (hq.mono (fun _ _ h => h.elim)), hbel2.trans (hq.below hbel2.size (fun _ h => h.elim))⟩
        case measure => simp [intOf]; omega
end Go.Proofs.YtminceigjejipaaGreat

namespace Go.Proofs.YtminceigjejipaaGreat
open Go.RowKit

set_option maxHeartbeats 400000 in
/-- nothing has come out yet -/
theorem looks_nil (bw : Nat) (w : World) (h3 : w.cell? ⟨bw, 3, none⟩ = some (.slice none 0 0)) (h4 : w.cell? ⟨bw, 4, none⟩ = some (.slice none 0 0)) :
    Calls Tryz.prog 12 #[.pointer (some ⟨bw, 0, none⟩)] w fun e w' => e = .returned (.bool true) ∧ w' = w := by
  go_enter Tryz.func12, Tryz.ntmps12
  go_wp2
  go_loop [3] (fun i => i = .int .i64 0) (fun _ => 0)
  case atStart => rfl
  case round =>
    subst hrel
    go_wp2
    go_loop [5] (fun i => i = .int .i64 0) (fun _ => 0)
    case atStart => rfl
    case round =>
      subst hrel
      go_wp2
      go_ret
      exact ⟨rfl, rfl⟩
end Go.Proofs.YtminceigjejipaaGreat

namespace Go.Proofs.YtminceigjejipaaGreat
open Go.RowKit

/-- a pair of rows, as it lies in memory -/
structure PairG where
  pc : Nat
  gc : Nat
  pr : Nat
  gr : Nat
  n : Nat
  cc : Nat
  cr : Nat
  Z : Nat → Int

def PairG.at (g : PairG) (w : World) : Prop := PairAt w g.pc g.gc g.pr g.gr g.n g.cc g.cr g.Z
def PairG.within (g : PairG) (B N : Nat) : Prop := (B ≤ g.pc ∧ g.pc < N) ∧ (B ≤ g.gc ∧ g.gc < N) ∧ (B ≤ g.pr ∧ g.pr < N) ∧ B ≤ g.gr ∧ g.gr < N
def PairG.off (g h : PairG) : Prop := g.gc ≠ h.gc ∧ g.gc ≠ h.gr ∧ g.gr ≠ h.gc ∧ g.gr ≠ h.gr

def ptrs : List PairG → List Value
  | [] => []
  | g :: r => .pointer (some ⟨g.pc, 0, none⟩) :: .pointer (some ⟨g.pr, 0, none⟩) :: ptrs r

theorem ptrs_append (a b : List PairG) : ptrs (a ++ b) = ptrs a ++ ptrs b := by
  induction a with
  | nil => rfl
  | cons g r ih => simp [ptrs, ih]
theorem ptrs_get0 : ∀ (ps : List PairG) (j : Nat) (g : PairG), ps[j]? = some g → (ptrs ps)[j * 2]? = some (.pointer (some ⟨g.pc, 0, none⟩))
  | [], j, g, h => by simp at h
  | x :: r, 0, g, h => by simp at h; subst h; rfl
  | x :: r, j + 1, g, h => by
    rw [show (j + 1) * 2 = j * 2 + 1 + 1 by omega]
    simp only [ptrs, List.getElem?_cons_succ] at h ⊢
    exact ptrs_get0 r j g h
theorem ptrs_get1 : ∀ (ps : List PairG) (j : Nat) (g : PairG), ps[j]? = some g → (ptrs ps)[j * 2 + 1]? = some (.pointer (some ⟨g.pr, 0, none⟩))
  | [], j, g, h => by simp at h
  | x :: r, 0, g, h => by simp at h; subst h; rfl
  | x :: r, j + 1, g, h => by
    rw [show (j + 1) * 2 + 1 = j * 2 + 1 + 1 + 1 by omega]
    simp only [ptrs, List.getElem?_cons_succ] at h ⊢
    exact ptrs_get1 r j g h
theorem ptrs_set : ∀ (ps : List PairG) (j : Nat) (g h : PairG), ps[j]? = some g → h.pc = g.pc → h.pr = g.pr → ptrs (ps.set j h) = ptrs ps
  | [], j, g, h, e, _, _ => by simp at e
  | x :: r, 0, g, h, e, e1, e2 => by simp at e; subst e; simp [ptrs, e1, e2]
  | x :: r, j + 1, g, h, e, e1, e2 => by
    simp only [List.getElem?_cons_succ] at e
    simp only [List.set_cons_succ, ptrs, ptrs_set r j g h e e1 e2]

theorem ownsRow_of_block {w w' : World} {base : Nat} {e : TypeId} {size : Nat} {v : Value} {n : Nat} {xs : List Value} (h : w.ownsRow base e size v n xs) (hb : ∀ k, v.ownBlock = some k → w'.heap[k]? = w.heap[k]?) : w'.ownsRow base e size v n xs := by
  refine ⟨h.1, ?_⟩
  rcases h.2 with h2 | ⟨g, cap, cur, hv, hg, hh, r⟩
  · exact .inl h2
  · exact .inr ⟨g, cap, cur, hv, hg, by rw [hb g (by rw [hv]; rfl)]; exact hh, r⟩

structure RowsAt (B N : Nat) (ca : Option Addr) (cl cc : Nat) (v2 v3 v4 : Value) (ra : Option Addr) (rc : Nat) (ps : List PairG) (w : World) : Prop where
  box : BoxAt w B (.slice ca cl cc) (.slice ra ps.length rc) v2 v3 v4
  own : w.ownsRow (B + 1) 46 2 (.slice ra ps.length rc) ps.length (ptrs ps)
  lt : ∀ k, Value.ownBlock (.slice ra ps.length rc) = some k → k < N
  bn : B < N
  nw : N ≤ w.heap.size
  at' : ∀ (i : Nat) g, ps[i]? = some g → g.at w ∧ g.within B N
  off : ∀ (i j : Nat) g h, ps[i]? = some g → ps[j]? = some h → i ≠ j → g.off h

/-- the blocks of the rows -/
def rwFoot (ra : Option Addr) (rc : Nat) (ps : List PairG) (k : Nat) : Prop := Value.ownBlock (.slice ra ps.length rc) = some k ∨ ∃ (i : Nat) (g : PairG), ps[i]? = some g ∧ (k = g.pc ∨ k = g.gc ∨ k = g.pr ∨ k = g.gr)

section
variable {B N : Nat} {ca : Option Addr} {cl cc : Nat} {v2 v3 v4 : Value} {ra : Option Addr} {rc : Nat} {ps : List PairG} {w w' : World}
theorem RowsAt.frame (h : RowsAt B N ca cl cc v2 v3 v4 ra rc ps w) (hc : ∀ k, B ≤ k → k < N → w'.heap[k]? = w.heap[k]?) (hs : w.heap.size ≤ w'.heap.size) : RowsAt B N ca cl cc v2 v3 v4 ra rc ps w' := by
  refine ⟨(hc B (Nat.le_refl _) h.bn).trans h.box, ownsRow_of_block h.own (fun k hk => hc k (by have := (h.own.lt k hk).1; omega) (h.lt k hk)), h.lt, h.bn, Nat.le_trans h.nw hs, fun i g hg => ?_, h.off⟩
  obtain ⟨h1, h2, h3, h4, h5⟩ := h.at' i g hg
  exact ⟨PairAt.frame h1 (hc _ h2.1 h2.2) (hc _ h3.1 h3.2) (hc _ h4.1 h4.2) (hc _ h5.1 h5.2), h2, h3, h4, h5⟩
theorem RowsAt.more (h : RowsAt B N ca cl cc v2 v3 v4 ra rc ps w) {M : Nat} (h1 : N ≤ M) (h2 : M ≤ w.heap.size) : RowsAt B M ca cl cc v2 v3 v4 ra rc ps w := by
  refine ⟨h.box, h.own, fun k hk => Nat.lt_of_lt_of_le (h.lt k hk) h1, Nat.lt_of_lt_of_le h.bn h1, h2, fun i g hg => ?_, h.off⟩
  obtain ⟨a1, a2, a3, a4, a5⟩ := h.at' i g hg
  exact ⟨a1, ⟨a2.1, by omega⟩, ⟨a3.1, by omega⟩, ⟨a4.1, by omega⟩, a5.1, by omega⟩
/-- the blocks of other types than an int's row -/
theorem RowsAt.nob (h : RowsAt B N ca cl cc v2 v3 v4 ra rc ps w) (i : Nat) (g : PairG) (hg : ps[i]? = some g) : (B ≠ g.gc ∧ B ≠ g.gr) ∧ ∀ k, Value.ownBlock (.slice ra ps.length rc) = some k → k ≠ g.gc ∧ k ≠ g.gr := by
  obtain ⟨hat, _⟩ := h.at' i g hg
  obtain ⟨cur, c1, _⟩ := hat.c.hg
  obtain ⟨cur', c1', _⟩ := hat.r.hg
  have hb := h.box
  unfold BoxAt at hb
  refine ⟨⟨?_, ?_⟩, fun k hk => ?_⟩
  · intro e
    rw [e, c1] at hb
    simp at hb
  · intro e
    rw [e, c1'] at hb
    simp at hb
  · rcases h.own.2 with ⟨hv, _⟩ | ⟨x, cap, cu, hv, _, hh, _⟩
    · rw [hv] at hk
      simp [Value.ownBlock] at hk
    · rw [hv] at hk
      simp [Value.ownBlock] at hk
      subst hk
      refine ⟨?_, ?_⟩
      · intro e
        rw [e, c1] at hh
        simp at hh
      · intro e
        rw [e, c1'] at hh
        simp at hh
/-- a call on row j -/
theorem RowsAt.turned (h : RowsAt B N ca cl cc v2 v3 v4 ra rc ps w) (j : Nat) (g : PairG) (hg : ps[j]? = some g) (Z' : Nat → Int) (hp : PairAt w' g.pc g.gc g.pr g.gr g.n g.cc g.cr Z') (hc : Chg (fun k => k = g.gc ∨ k = g.gr) w w') :
    ∃ ps', ps'.length = ps.length ∧ RowsAt B N ca cl cc v2 v3 v4 ra rc ps' w' ∧ ∀ k, rwFoot ra rc ps' k → rwFoot ra rc ps k := by
  have hnob := h.nob j g hg
  have hlen : (ps.set j { g with Z := Z' }).length = ps.length := by simp
  have hjl : j < ps.length := (List.getElem?_eq_some_iff.1 hg).1
  have get : ∀ (i : Nat) x, (ps.set j { g with Z := Z' })[i]? = some x → (i = j ∧ x = { g with Z := Z' }) ∨ (i ≠ j ∧ ps[i]? = some x) := fun i x hx => by
    rw [List.getElem?_set] at hx
    by_cases e : j = i
    · subst e
      simp [hjl] at hx
      exact .inl ⟨rfl, hx.symm⟩
    · rw [if_neg e] at hx
      exact .inr ⟨fun x => e x.symm, hx⟩
  refine ⟨ps.set j { g with Z := Z' }, hlen, ⟨?_, ?_, ?_, h.bn, Nat.le_trans h.nw hc.size, ?_, ?_⟩, fun k hk => ?_⟩
  · rw [hlen]
    exact h.box.chg hc (fun e => by rcases e with e | e; exact hnob.1.1 e; exact hnob.1.2 e)
  · rw [hlen, ptrs_set ps j g { g with Z := Z' } hg rfl rfl]
    exact ownsRow_of_block h.own (fun k hk => hc.block k ((h.own.lt k hk).2) (fun e => by rcases e with e | e; exact (hnob.2 k hk).1 e; exact (hnob.2 k hk).2 e))
  · rw [hlen]
    exact h.lt
  · intro i x hx
    rcases get i x hx with ⟨rfl, rfl⟩ | ⟨hij, hx⟩
    · exact ⟨hp, (h.at' i g hg).2⟩
    · obtain ⟨a1, a2⟩ := h.at' i x hx
      obtain ⟨o1, o2, o3, o4⟩ := h.off i j x g hx hg hij
      obtain ⟨b1, _⟩ := h.at' j g hg
      have e1 := a1.c.apart b1.r (by decide) (by decide) (by decide)
      have e2 := b1.c.apart a1.r (by decide) (by decide) (by decide)
      have e3 := a1.c.hp
      have e4 := a1.r.hp
      obtain ⟨u, c1, _⟩ := b1.c.hg
      obtain ⟨u', c1', _⟩ := b1.r.hg
      refine ⟨PairAt.chg a1 hc ?_ ?_ ?_ ?_, a2⟩
      · rintro (e | e)
        · rw [e, c1] at e3
          simp at e3
        · exact e1.2.1 e
      · rintro (e | e)
        · exact o1 e
        · exact o2 e
      · rintro (e | e)
        · exact e2.2.2 e.symm
        · rw [e, c1'] at e4
          simp at e4
      · rintro (e | e)
        · exact o3 e
        · exact o4 e
  · intro i i' x y hx hy hne
    rcases get i x hx with ⟨rfl, rfl⟩ | ⟨hij, hx2⟩
    · rcases get i' y hy with ⟨rfl, rfl⟩ | ⟨hij', hy⟩
      · exact absurd rfl hne
      · exact h.off i i' g y hg hy hne
    · rcases get i' y hy with ⟨rfl, rfl⟩ | ⟨hij', hy⟩
      · exact h.off i i' x g hx2 hg hne
      · exact h.off i i' x y hx2 hy hne
  · rcases hk with hk | ⟨i, x, hx, hk⟩
    · rw [hlen] at hk
      exact .inl hk
    · rcases get i x hx with ⟨rfl, rfl⟩ | ⟨_, hx⟩
      · exact .inr ⟨i, g, hg, hk⟩
      · exact .inr ⟨i, x, hx, hk⟩
/-- one row more -/
theorem RowsAt.added (h : RowsAt B N ca cl cc v2 v3 v4 ra rc ps w) {n : Nat} {v : Int} (hr : Rowed w B n ps.length v (.slice ca cl cc) (.slice ra ps.length rc) v2 v3 v4 (ptrs ps) w') :
    ∃ ra' rc' ps', ps'.length = ps.length + 1 ∧ RowsAt B w'.heap.size ca cl cc v2 v3 v4 ra' rc' ps' w' ∧ ∀ k, rwFoot ra' rc' ps' k → rwFoot ra rc ps k ∨ w.heap.size ≤ k := by
  obtain ⟨rv', p1, g1, p2, g2, c2, hbox, hown, hpair, l1, l2, l3, l4, hc, hat⟩ := hr
  have hrv : ∃ ra' rc', rv' = .slice ra' (ps.length + 1) rc' := by
    rcases hown.2 with ⟨_, h0⟩ | ⟨g, cap, cur, rfl, _⟩
    · omega
    · exact ⟨_, _, rfl⟩
  obtain ⟨ra', rc', rfl⟩ := hrv
  have hlen : (ps ++ [PairG.mk p1 g1 p2 g2 n n c2 (fun _ => v)]).length = ps.length + 1 := by simp
  have get : ∀ (i : Nat) x, (ps ++ [PairG.mk p1 g1 p2 g2 n n c2 (fun _ => v)])[i]? = some x → (i = ps.length ∧ x = PairG.mk p1 g1 p2 g2 n n c2 (fun _ => v)) ∨ (i < ps.length ∧ ps[i]? = some x) := fun i x hx => by
    rw [List.getElem?_append] at hx
    by_cases e : i < ps.length
    · rw [if_pos e] at hx
      exact .inr ⟨e, hx⟩
    · rw [if_neg e] at hx
      by_cases e2 : i = ps.length
      · subst e2
        simp at hx
        exact .inl ⟨rfl, hx.symm⟩
      · have : 1 ≤ i - ps.length := by omega
        rw [List.getElem?_eq_none (by simpa using this)] at hx
        cases hx
  have old : ∀ (i : Nat) x, ps[i]? = some x → x.at w' ∧ x.within B N := fun i x hx => by
    obtain ⟨a1, a2⟩ := h.at' i x hx
    have hn := h.nob i x hx
    have hap : ∀ k, (k = x.pc ∨ k = x.pr) → ¬ (k = B ∨ Value.ownBlock (.slice ra ps.length rc) = some k) := by
      intro k hk
      have hb := h.box
      unfold BoxAt at hb
      rintro (e | e)
      · rcases hk with hk | hk
        · have := a1.c.hp
          rw [← hk, e, hb] at this
          simp at this
        · have := a1.r.hp
          rw [← hk, e, hb] at this
          simp at this
      · rcases h.own.2 with ⟨hv, _⟩ | ⟨y, cap, cu, hv, _, hh, _⟩
        · rw [hv] at e
          simp [Value.ownBlock] at e
        · rw [hv] at e
          simp [Value.ownBlock] at e
          subst e
          rcases hk with hk | hk
          · have := a1.c.hp
            rw [← hk, hh] at this
            simp at this
          · have := a1.r.hp
            rw [← hk, hh] at this
            simp at this
    refine ⟨PairAt.chg a1 hc (hap _ (.inl rfl)) ?_ (hap _ (.inr rfl)) ?_, a2⟩
    · rintro (e | e)
      · exact hn.1.1 e.symm
      · exact (hn.2 _ e).1 rfl
    · rintro (e | e)
      · exact hn.1.2 e.symm
      · exact (hn.2 _ e).2 rfl
  have hsz := hc.size
  have hnw := h.nw
  have hbn := h.bn
  refine ⟨ra', rc', _, hlen, ⟨?_, ?_, ?_, hbox.lt, Nat.le_refl _, ?_, ?_⟩, fun k hk => ?_⟩
  · rw [hlen]; exact hbox
  · rw [hlen, ptrs_append]; exact hown
  · rw [hlen]; intro k hk; exact (hown.lt k hk).2
  · intro i x hx
    rcases get i x hx with ⟨rfl, rfl⟩ | ⟨hi, hx⟩
    · refine ⟨hpair, ?_⟩
      have q1 := hpair.c.ltp
      have q2 := hpair.c.ltg
      have q3 := hpair.r.ltp
      have q4 := hpair.r.ltg
      unfold PairG.within
      exact ⟨⟨by simp only; omega, q1⟩, ⟨by simp only; omega, q2⟩, ⟨by simp only; omega, q3⟩, by simp only; omega, q4⟩
    · obtain ⟨a1, a2, a3, a4, a5⟩ := old i x hx
      exact ⟨a1, ⟨a2.1, by omega⟩, ⟨a3.1, by omega⟩, ⟨a4.1, by omega⟩, a5.1, by omega⟩
  · intro i i' x y hx hy hne
    rcases get i x hx with ⟨rfl, rfl⟩ | ⟨hi, hx⟩
    · rcases get i' y hy with ⟨rfl, rfl⟩ | ⟨hi', hy⟩
      · exact absurd rfl hne
      · obtain ⟨_, a2, a3, a4, a5⟩ := old i' y hy
        unfold PairG.off
        exact ⟨by simp only; omega, by simp only; omega, by simp only; omega, by simp only; omega⟩
    · rcases get i' y hy with ⟨rfl, rfl⟩ | ⟨hi', hy⟩
      · obtain ⟨_, a2, a3, a4, a5⟩ := old i x hx
        unfold PairG.off
        exact ⟨by simp only; omega, by simp only; omega, by simp only; omega, by simp only; omega⟩
      · exact h.off i i' x y hx hy hne
  · rcases hk with hk | ⟨i, x, hx, hk⟩
    · rw [hlen] at hk
      rcases hat k hk with e | e
      · exact .inl (.inl e)
      · exact .inr e
    · rcases get i x hx with ⟨rfl, rfl⟩ | ⟨_, hx⟩
      · simp only at hk
        exact .inr (by omega)
      · exact .inl (.inr ⟨i, x, hx, hk⟩)
theorem RowsAt.foot_in (h : RowsAt B N ca cl cc v2 v3 v4 ra rc ps w) (k : Nat) (hk : rwFoot ra rc ps k) : B < k ∧ k < N := by
  have hb := h.box
  unfold BoxAt at hb
  rcases hk with hk | ⟨i, g, hg, hk⟩
  · have := (h.own.lt k hk).1
    exact ⟨by omega, h.lt k hk⟩
  · obtain ⟨a1, a2, a3, a4, a5⟩ := h.at' i g hg
    have nB : k ≠ B := by
      intro e
      rw [← e] at hb
      rcases hk with hk | hk | hk | hk
      · have := a1.c.hp
        rw [← hk, hb] at this
        simp at this
      · obtain ⟨cur, c1, _⟩ := a1.c.hg
        rw [← hk, hb] at c1
        simp at c1
      · have := a1.r.hp
        rw [← hk, hb] at this
        simp at this
      · obtain ⟨cur, c1, _⟩ := a1.r.hg
        rw [← hk, hb] at c1
        simp at c1
    rcases hk with hk | hk | hk | hk <;> omega
/-- the rest of the box, and blocks of others, have turned -/
theorem RowsAt.frameF {v2' v3' v4' : Value} {N' : Nat} (h : RowsAt B N ca cl cc v2 v3 v4 ra rc ps w) (hbox : BoxAt w' B (.slice ca cl cc) (.slice ra ps.length rc) v2' v3' v4') (hc : ∀ k, rwFoot ra rc ps k → w'.heap[k]? = w.heap[k]?) (h1 : N ≤ N') (h2 : N' ≤ w'.heap.size) : RowsAt B N' ca cl cc v2' v3' v4' ra rc ps w' := by
  refine ⟨hbox, ownsRow_of_block h.own (fun k hk => hc k (.inl hk)), fun k hk => Nat.lt_of_lt_of_le (h.lt k hk) h1, Nat.lt_of_lt_of_le h.bn h1, h2, fun i g hg => ?_, h.off⟩
  obtain ⟨a1, a2, a3, a4, a5⟩ := h.at' i g hg
  exact ⟨PairAt.frame a1 (hc _ (.inr ⟨i, g, hg, .inl rfl⟩)) (hc _ (.inr ⟨i, g, hg, .inr (.inl rfl)⟩)) (hc _ (.inr ⟨i, g, hg, .inr (.inr (.inl rfl))⟩)) (hc _ (.inr ⟨i, g, hg, .inr (.inr (.inr rfl))⟩)), ⟨a2.1, by omega⟩, ⟨a3.1, by omega⟩, ⟨a4.1, by omega⟩, a5.1, by omega⟩
end
end Go.Proofs.YtminceigjejipaaGreat

namespace Go.Proofs.YtminceigjejipaaGreat
open Go.RowKit

structure MkO where
  y : Nat
  r : Nat
  F : Nat → Prop
  m : MkG

def mptrs : List MkO → List Value
  | [] => []
  | o :: l => .pointer (some ⟨o.y, 0, none⟩) :: .pointer (some ⟨o.r, 0, none⟩) :: mptrs l
theorem mptrs_append (a b : List MkO) : mptrs (a ++ b) = mptrs a ++ mptrs b := by
  induction a with
  | nil => rfl
  | cons g l ih => simp [mptrs, ih]
theorem mptrs_get0 : ∀ (os : List MkO) (j : Nat) (g : MkO), os[j]? = some g → (mptrs os)[j * 2]? = some (.pointer (some ⟨g.y, 0, none⟩))
  | [], j, g, h => by simp at h
  | x :: l, 0, g, h => by simp at h; subst h; rfl
  | x :: l, j + 1, g, h => by
    rw [show (j + 1) * 2 = j * 2 + 1 + 1 by omega]
    simp only [mptrs, List.getElem?_cons_succ] at h ⊢
    exact mptrs_get0 l j g h
theorem mptrs_get1 : ∀ (os : List MkO) (j : Nat) (g : MkO), os[j]? = some g → (mptrs os)[j * 2 + 1]? = some (.pointer (some ⟨g.r, 0, none⟩))
  | [], j, g, h => by simp at h
  | x :: l, 0, g, h => by simp at h; subst h; rfl
  | x :: l, j + 1, g, h => by
    rw [show (j + 1) * 2 + 1 = j * 2 + 1 + 1 + 1 by omega]
    simp only [mptrs, List.getElem?_cons_succ] at h ⊢
    exact mptrs_get1 l j g h
theorem mptrs_set : ∀ (os : List MkO) (j : Nat) (g h : MkO), os[j]? = some g → h.y = g.y → h.r = g.r → mptrs (os.set j h) = mptrs os
  | [], j, g, h, e, _, _ => by simp at e
  | x :: l, 0, g, h, e, e1, e2 => by simp at e; subst e; simp [mptrs, e1, e2]
  | x :: l, j + 1, g, h, e, e1, e2 => by
    simp only [List.getElem?_cons_succ] at e
    simp only [List.set_cons_succ, mptrs, mptrs_set l j g h e e1 e2]

/-- all markets that a script has made, and the world's box -/
structure MsAt (YAt : World → Nat → (Nat → Prop) → MkG → Prop) (B N : Nat) (v0 v1 v3 v4 : Value) (ma : Option Addr) (mc : Nat) (os : List MkO) (w : World) : Prop where
  box : BoxAt w B v0 v1 (.slice ma os.length mc) v3 v4
  own : w.ownsRow 0 56 2 (.slice ma os.length mc) os.length (mptrs os)
  ownB : ∀ k, Value.ownBlock (.slice ma os.length mc) = some k → B < k ∧ k < N
  bn : B < N
  nw : N ≤ w.heap.size
  at' : ∀ (i : Nat) o, os[i]? = some o → PairM YAt w o.y o.r o.F o.m ∧ (∀ k, o.F k → B < k ∧ k < N) ∧ ∀ k, Value.ownBlock (.slice ma os.length mc) = some k → ¬ o.F k
  off : ∀ (i j : Nat) o o', os[i]? = some o → os[j]? = some o' → i ≠ j → ∀ k, o.F k → ¬ o'.F k

/-- the blocks of the markets -/
def msFoot (ma : Option Addr) (mc : Nat) (os : List MkO) (k : Nat) : Prop := Value.ownBlock (.slice ma os.length mc) = some k ∨ ∃ (i : Nat) (o : MkO), os[i]? = some o ∧ o.F k

section
variable {YAt : World → Nat → (Nat → Prop) → MkG → Prop} {B N : Nat} {v0 v1 v3 v4 : Value} {ma : Option Addr} {mc : Nat} {os : List MkO} {w w' : World}
theorem MsAt.frame (hY : YardSpec YAt) (h : MsAt YAt B N v0 v1 v3 v4 ma mc os w) (hc : ∀ k, B ≤ k → k < N → w'.heap[k]? = w.heap[k]?) (hs : w.heap.size ≤ w'.heap.size) : MsAt YAt B N v0 v1 v3 v4 ma mc os w' := by
  refine ⟨(hc B (Nat.le_refl _) h.bn).trans h.box, ownsRow_keep h.own (fun k hk => by have := h.ownB k hk; exact hc k (by omega) this.2), h.ownB, h.bn, Nat.le_trans h.nw hs, fun i o ho => ?_, h.off⟩
  obtain ⟨h1, h2, h3⟩ := h.at' i o ho
  exact ⟨PairM.frame hY h1 (fun k hk => by have := h2 k hk; exact hc k (by omega) this.2), h2, h3⟩

/-- a call on market i -/
theorem MsAt.turned (hY : YardSpec YAt) (h : MsAt YAt B N v0 v1 v3 v4 ma mc os w) {i : Nat} {o : MkO} (ho : os[i]? = some o) {W : World} (hW : Chg (fun _ => False) w W) {m' : MkG} (hto : PairTo YAt W o.y o.r o.F m' w') :
    ∃ os', os'.length = os.length ∧ MsAt YAt B w'.heap.size v0 v1 v3 v4 ma mc os' w' := by
  obtain ⟨F', hp, hc, hf⟩ := hto
  have hi : i < os.length := (List.getElem?_eq_some_iff.1 ho).1
  obtain ⟨a1, a2, a3⟩ := h.at' i o ho
  have hsW := hW.size
  have hs' := hc.size
  have hnw := h.nw
  have hlen : (os.set i { o with F := F', m := m' }).length = os.length := by simp
  have get : ∀ (x : Nat) u, (os.set i { o with F := F', m := m' })[x]? = some u → (x = i ∧ u = { o with F := F', m := m' }) ∨ (x ≠ i ∧ os[x]? = some u) := fun x u hx => by
    rw [List.getElem?_set] at hx
    by_cases e : i = x
    · subst e
      simp [hi] at hx
      exact .inl ⟨rfl, hx.symm⟩
    · rw [if_neg e] at hx
      exact .inr ⟨fun x => e x.symm, hx⟩
  have keep : ∀ k, B ≤ k → k < N → ¬ o.F k → w'.heap[k]? = w.heap[k]? := fun k h1 h2 h3 => by
    rw [hc.block k (by omega) h3, hW.block k (by omega) (fun h => h)]
  have newF : ∀ k, F' k → o.F k ∨ N ≤ k := fun k hk => by
    rcases hf k hk with h | h
    · exact .inl h
    · exact .inr (by omega)
  have hpl := PairM.lt hY hp
  refine ⟨os.set i { o with F := F', m := m' }, hlen, ?_, ?_, ?_, by have := h.bn; omega, Nat.le_refl _, ?_, ?_⟩
  · rw [hlen]
    exact (keep B (Nat.le_refl _) h.bn (fun hx => by have := a2 _ hx; omega)).trans h.box
  · rw [hlen, mptrs_set os i o { o with F := F', m := m' } ho rfl rfl]
    exact ownsRow_keep h.own (fun k hk => by have := h.ownB k hk; exact keep k (by omega) this.2 (a3 k hk))
  · rw [hlen]
    intro k hk
    have := h.ownB k hk
    omega
  · intro x u hx
    rw [hlen]
    rcases get x u hx with ⟨rfl, rfl⟩ | ⟨hne, hx2⟩
    · refine ⟨hp, fun k hk => ⟨?_, hpl k hk⟩, fun k hk hF => ?_⟩
      · rcases newF k hk with h' | h'
        · exact (a2 k h').1
        · have := h.bn; omega
      · rcases newF k hF with h' | h'
        · exact a3 k hk h'
        · have := h.ownB k hk; omega
    · obtain ⟨b1, b2, b3⟩ := h.at' x u hx2
      refine ⟨PairM.frame hY b1 (fun k hk => by have := b2 k hk; exact keep k (by omega) this.2 (h.off x i u o hx2 ho hne k hk)), fun k hk => by have := b2 k hk; omega, b3⟩
  · intro x x' u u' hx hx' hne k hk hk'
    rcases get x u hx with ⟨rfl, rfl⟩ | ⟨hn1, hx2⟩
    · rcases get x' u' hx' with ⟨rfl, rfl⟩ | ⟨hn2, hx2'⟩
      · exact hne rfl
      · rcases newF k hk with h' | h'
        · exact h.off x x' o u' ho hx2' hne k h' hk'
        · have := (h.at' x' u' hx2').2.1 k hk'; omega
    · rcases get x' u' hx' with ⟨rfl, rfl⟩ | ⟨hn2, hx2'⟩
      · rcases newF k hk' with h' | h'
        · exact h.off x x' u o hx2 ho hne k hk h'
        · have := (h.at' x u hx2).2.1 k hk; omega
      · exact h.off x x' u u' hx2 hx2' hne k hk hk'

/-- one market more -/
theorem MsAt.added2 (hY : YardSpec YAt) (h : MsAt YAt B N v0 v1 v3 v4 ma mc os w) {W : World} (hW : Chg (fun _ => False) w W) {c : CfgG} (hop : Opened YAt W B os.length c v0 v1 (.slice ma os.length mc) v3 v4 (mptrs os) w') :
    ∃ ma' mc' os', os'.length = os.length + 1 ∧ MsAt YAt B w'.heap.size v0 v1 v3 v4 ma' mc' os' w' ∧ ∀ k, msFoot ma' mc' os' k → msFoot ma mc os k ∨ w.heap.size ≤ k := by
  obtain ⟨g, cap, y, r, F, hbox, hown, hp, hF, hFg, hc, hat⟩ := hop
  have hsW := hW.size
  have hs' := hc.size
  have hnw := h.nw
  have hbn := h.bn
  have hlen : (os ++ [MkO.mk y r F (openM c)]).length = os.length + 1 := by simp
  have get : ∀ (i : Nat) x, (os ++ [MkO.mk y r F (openM c)])[i]? = some x → (i = os.length ∧ x = MkO.mk y r F (openM c)) ∨ (i < os.length ∧ os[i]? = some x) := fun i x hx => by
    rw [List.getElem?_append] at hx
    by_cases e : i < os.length
    · rw [if_pos e] at hx
      exact .inr ⟨e, hx⟩
    · rw [if_neg e] at hx
      by_cases e2 : i = os.length
      · subst e2
        simp at hx
        exact .inl ⟨rfl, hx.symm⟩
      · have : 1 ≤ i - os.length := by omega
        rw [List.getElem?_eq_none (by simpa using this)] at hx
        cases hx
  have hpl := PairM.lt hY hp
  have hgB : B < g := by
    rcases hat with e | e
    · exact (h.ownB g e).1
    · omega
  have hgl : g < w'.heap.size := (hown.lt g rfl).2
  have old : ∀ (i : Nat) x, os[i]? = some x → PairM YAt w' x.y x.r x.F x.m ∧ (∀ k, x.F k → B < k ∧ k < N) ∧ ¬ x.F g := fun i x hx => by
    obtain ⟨a1, a2, a3⟩ := h.at' i x hx
    refine ⟨PairM.frame hY a1 (fun k hk => ?_), a2, fun hg => ?_⟩
    · have := a2 k hk
      rw [hc.block k (by omega) (fun e => by
        rcases e with e | e
        · omega
        · exact a3 k e hk), hW.block k (by omega) (fun h => h)]
    · rcases hat with e | e
      · exact a3 g e hg
      · have := a2 g hg; omega
  refine ⟨some ⟨g, 0, none⟩, cap, _, hlen, ⟨?_, ?_, ?_, by omega, Nat.le_refl _, ?_, ?_⟩, ?_⟩
  · rw [hlen]; exact hbox
  · rw [hlen, mptrs_append]; exact hown
  · rw [hlen]
    intro k hk
    simp [Value.ownBlock] at hk
    omega
  · intro i x hx
    rw [hlen]
    rcases get i x hx with ⟨rfl, rfl⟩ | ⟨hi, hx2⟩
    · refine ⟨hp, fun k hk => ⟨by have := hF k hk; omega, hpl k hk⟩, fun k hk => ?_⟩
      simp [Value.ownBlock] at hk
      subst hk
      exact hFg
    · obtain ⟨a1, a2, a3⟩ := old i x hx2
      refine ⟨a1, fun k hk => by have := a2 k hk; omega, fun k hk => ?_⟩
      simp [Value.ownBlock] at hk
      subst hk
      exact a3
  · intro i i' x x' hx hx' hne k hk hk'
    rcases get i x hx with ⟨rfl, rfl⟩ | ⟨hi, hx2⟩
    · rcases get i' x' hx' with ⟨rfl, rfl⟩ | ⟨hi', hx2'⟩
      · exact hne rfl
      · have a := (old i' x' hx2').2.1 k hk'
        have b := hF k hk
        omega
    · rcases get i' x' hx' with ⟨rfl, rfl⟩ | ⟨hi', hx2'⟩
      · have a := (old i x hx2).2.1 k hk
        have b := hF k hk'
        omega
      · exact h.off i i' x x' hx2 hx2' hne k hk hk'
  · intro k hk
    rcases hk with hk | ⟨x, u, hx, hk⟩
    · simp [Value.ownBlock] at hk
      subst hk
      rcases hat with e | e
      · exact .inl (.inl e)
      · exact .inr (by omega)
    · rcases get x u hx with ⟨rfl, rfl⟩ | ⟨hi, hx2⟩
      · have := hF k hk
        exact .inr (by omega)
      · exact .inl (.inr ⟨x, u, hx2, hk⟩)
theorem MsAt.added (hY : YardSpec YAt) (h : MsAt YAt B N v0 v1 v3 v4 ma mc os w) {W : World} (hW : Chg (fun _ => False) w W) {c : CfgG} (hop : Opened YAt W B os.length c v0 v1 (.slice ma os.length mc) v3 v4 (mptrs os) w') :
    ∃ ma' mc' os', os'.length = os.length + 1 ∧ MsAt YAt B w'.heap.size v0 v1 v3 v4 ma' mc' os' w' := by
  obtain ⟨ma', mc', os', h1, h2, _⟩ := h.added2 hY hW hop
  exact ⟨ma', mc', os', h1, h2⟩
end
end Go.Proofs.YtminceigjejipaaGreat

namespace Go.Proofs.YtminceigjejipaaGreat
open Go.RowKit

/-- what holds between the steps of Bids -/
def InvB (YAt : World → Nat → (Nat → Prop) → MkG → Prop) (B : Nat) (ca : Option Addr) (cl cc : Nat) (i : Nat) (O : Nat → Prop) (w : World) : Prop :=
  ∃ N ma mc os, MsAt YAt B N (.slice ca cl cc) (.slice none 0 0) (.slice none 0 0) (.slice none 0 0) ma mc os w ∧ os.length ≤ i ∧ ∀ k, O k ↔ B ≤ k ∧ k < N

def kB : List Int := [6, 7, 8, 9, 10, 11, 12, 13, 14]
theorem contains9 {x : Int} (h : kB.contains x = true) : x = 6 ∨ x = 7 ∨ x = 8 ∨ x = 9 ∨ x = 10 ∨ x = 11 ∨ x = 12 ∨ x = 13 ∨ x = 14 := by simpa [kB] using h

theorem i64_of {z : Int} (h : IsI64 z) : I64 z := h

theorem playsB {YAt : World → Nat → (Nat → Prop) → MkG → Prop} (hY : YardSpec YAt) (w w0 : World) (ca : Option Addr) (cl cc slen : Nat) (S : Nat → Int) (hw : ∀ t, t < slen * 10 → IsI64 (S t)) (hsl : slen < 1759218604391) (hb : Below w0.heap.size w0 w) (hc : IntRows w0 5 ca cl) (hcl : cl < 5000000000000) :
    Plays w.heap.size slen S kB kB w (InvB YAt w.heap.size ca cl cc) := by
  refine ⟨?_, ?_, ?_, ?_, ?_⟩
  · rintro i O w1 ⟨N, ma, mc, os, h, _, hO⟩ k hk
    have := (hO k).1 hk
    have := h.nw
    exact ⟨by omega, by omega⟩
  · rintro i O w1 w2 ⟨N, ma, mc, os, h, hl, hO⟩ hc
    exact ⟨N, ma, mc, os, h.frame hY (fun k h1 h2 => hc.block k (by have := h.nw; omega) (fun hn => hn ((hO k).2 ⟨h1, h2⟩))) hc.size, hl, hO⟩
  · rintro i O w1 ⟨N, ma, mc, os, h, hl, hO⟩
    exact ⟨N, ma, mc, os, h, by omega, hO⟩
  · rintro i hi hp O w1 ⟨N, ma, mc, os, h, hl, hO⟩ hbel
    have I := fun f (hf : f < 10) => i64_of (hw (i * 10 + f) (by omega))
    have fin : ∀ (e : Ending) w2, e = .returned (.bool true) → (∃ N' ma' mc' os', MsAt YAt w.heap.size N' (.slice ca cl cc) (.slice none 0 0) (.slice none 0 0) (.slice none 0 0) ma' mc' os' w2 ∧ os'.length ≤ i + 1) → Chg O w1 w2 → ∃ b O', e = .returned (.bool b) ∧ InvB YAt w.heap.size ca cl cc (i + 1) O' w2 ∧ Chg O w1 w2 ∧
        (b = false → kB.contains (S (i * 10)) = false ∧ S (i * 10) ≠ 2 ∧ S (i * 10) ≠ 6) := by
      rintro e w2 rfl ⟨N', ma', mc', os', h', hl'⟩ hc
      exact ⟨true, fun k => w.heap.size ≤ k ∧ k < N', rfl, ⟨N', ma', mc', os', h', hl', fun _ => Iff.rfl⟩, hc, fun hx => by cases hx⟩
    have quiet : ∀ (e : Ending) w2, (e = .returned (.bool true) ∧ Chg (fun _ => False) w1 w2) → ∃ b O', e = .returned (.bool b) ∧ InvB YAt w.heap.size ca cl cc (i + 1) O' w2 ∧ Chg O w1 w2 ∧
        (b = false → kB.contains (S (i * 10)) = false ∧ S (i * 10) ≠ 2 ∧ S (i * 10) ≠ 6) := by
      rintro e w2 ⟨he, hq⟩
      exact fin e w2 he ⟨N, ma, mc, os, h.frame hY (fun k _ h2 => hq.block k (by have := h.nw; omega) (fun hn => hn)) hq.size, by omega⟩ (hq.mono (fun _ _ hx => hx.elim))
    -- a call on a market
    have onM : ∀ (n : Nat) (o : MkO), os[n]? = some o → ∀ (e : Ending) w2, (e = .returned (.bool true) ∧ ∃ W, Chg (fun _ => False) w1 W ∧ ∃ m', PairTo YAt W o.y o.r o.F m' w2) → ∃ b O', e = .returned (.bool b) ∧ InvB YAt w.heap.size ca cl cc (i + 1) O' w2 ∧ Chg O w1 w2 ∧
        (b = false → kB.contains (S (i * 10)) = false ∧ S (i * 10) ≠ 2 ∧ S (i * 10) ≠ 6) := by
      rintro n o ho e w2 ⟨he, W, hW, m', hto⟩
      obtain ⟨os', hlen, h'⟩ := h.turned hY ho hW hto
      obtain ⟨F', _, hcF, _⟩ := hto
      have a2 := (h.at' n o ho).2.1
      refine fin e w2 he ⟨_, ma, mc, os', h', by omega⟩ ((hW.mono (O' := O) (fun _ _ hx => hx.elim)).trans hcF (fun x hx hxx => (hO x).2 ?_))
      have := a2 x hxx
      omega
    have cell2 := h.box.cell 2
    simp at cell2
    have pickM : os.length ≠ 0 → ∃ (n : Nat) (o : MkO) (gb : Nat), pickZ (S (i * 10 + 1)) os.length = (n : Int) ∧ n < os.length ∧ os[n]? = some o ∧ ma = some ⟨gb, 0, none⟩ ∧ w1.cell? ⟨gb, n * 2, none⟩ = some (.pointer (some ⟨o.y, 0, none⟩)) ∧ w1.cell? ⟨gb, n * 2 + 1, none⟩ = some (.pointer (some ⟨o.r, 0, none⟩)) := by
      intro hm
      obtain ⟨n, hn, hnl⟩ : ∃ n : Nat, pickZ (S (i * 10 + 1)) os.length = (n : Int) ∧ n < os.length := by
        have := pickZ_lt (S (i * 10 + 1)) os.length (by omega)
        exact ⟨(pickZ (S (i * 10 + 1)) os.length).toNat, by omega, by omega⟩
      obtain ⟨o, ho⟩ : ∃ o, os[n]? = some o := ⟨_, List.getElem?_eq_getElem hnl⟩
      obtain ⟨gb, hma⟩ : ∃ gb, ma = some ⟨gb, 0, none⟩ := by
        rcases h.own.2 with ⟨_, h0⟩ | ⟨x, cap, cu, hv, _⟩
        · omega
        · simp only [Value.slice.injEq] at hv
          exact ⟨x, hv.1⟩
      subst hma
      have c0 := h.own.cells (g := gb) rfl (n * 2) _ (mptrs_get0 os n o ho)
      have c1 := h.own.cells (g := gb) rfl (n * 2 + 1) _ (mptrs_get1 os n o ho)
      rw [Addr.add_lit] at c0 c1
      simp only [Nat.zero_add] at c0 c1
      exact ⟨n, o, gb, hn, hnl, ho, rfl, c0, c1⟩
    have pairW : ∀ (n : Nat) (o : MkO), os[n]? = some o → ∀ W, Chg (fun _ => False) w1 W → PairM YAt W o.y o.r o.F o.m := fun n o ho W hW =>
      PairM.frame hY (h.at' n o ho).1 (fun k hk => hW.block k (PairM.lt hY (h.at' n o ho).1 k hk) (fun h => h))
    rcases contains9 hp with hk | hk | hk | hk | hk | hk | hk | hk | hk
    · have e : opAt S i = .agg #[.int .i64 6, .int .i64 (S (i * 10 + 1)), .int .i64 (S (i * 10 + 2)), .int .i64 (S (i * 10 + 3)), .int .i64 (S (i * 10 + 4)), .int .i64 (S (i * 10 + 5)), .int .i64 (S (i * 10 + 6)), .int .i64 (S (i * 10 + 7)), .int .i64 (S (i * 10 + 8)), .int .i64 (S (i * 10 + 9))] := by
        unfold opAt; rw [hk]
      rw [e]
      have hcell := h.box.cell 0
      simp at hcell
      rcases hc with rfl | ⟨b0, off, Z, hcl0, rfl, hbl, hZ, _⟩
      · exact (step_open_none w.heap.size cc ca _ _ _ _ ⟨S (i * 10 + 5), S (i * 10 + 6), S (i * 10 + 7), S (i * 10 + 8), S (i * 10 + 9)⟩ w1 hcell).mono quiet
      · have hz : ∀ t, t < cl * 5 → w1.cell? ⟨b0, off + t, none⟩ = some (.int .i64 (Z t)) := fun t ht => by
          rw [hbel.cell (by have := hb.size; show b0 < _; omega), hb.cell (by exact hbl)]
          exact hZ t ht
        obtain ⟨n, hn, hnl⟩ : ∃ n : Nat, pickZ (S (i * 10 + 1)) cl = (n : Int) ∧ n < cl := by
          have := pickZ_lt (S (i * 10 + 1)) cl (by omega)
          exact ⟨(pickZ (S (i * 10 + 1)) cl).toNat, by omega, by omega⟩
        have boxW : ∀ W, Chg (fun _ => False) w1 W → BoxAt W w.heap.size (.slice (some ⟨b0, off, none⟩) cl cc) (.slice none 0 0) (.slice ma os.length mc) (.slice none 0 0) (.slice none 0 0) ∧ W.ownsRow 0 56 2 (.slice ma os.length mc) os.length (mptrs os) := fun W hW =>
          ⟨h.box.chg hW (fun h => h), ownsRow_keep h.own (fun k hk => hW.block k ((h.own.lt k hk).2) (fun h => h))⟩
        cases hck : cfgOk ⟨Z (n * 5), Z (n * 5 + 1), Z (n * 5 + 2), Z (n * 5 + 3), Z (n * 5 + 4)⟩
        · refine (step_open_some w.heap.size b0 off cl cc n Z _ _ _ _ ⟨S (i * 10 + 5), S (i * 10 + 6), S (i * 10 + 7), S (i * 10 + 8), S (i * 10 + 9)⟩ w1 (fun W w' => Chg (fun _ => False) W w') hcell hcl0 (by omega) (I 1 (by omega)).1 (I 1 (by omega)).2 hn hnl hz (fun W hW => opened_bad hY w.heap.size _ W hck)).mono ?_
          rintro e w2 ⟨he, W, hW, hq⟩
          exact quiet e w2 ⟨he, hW.trans hq (fun _ _ h => h)⟩
        · refine (step_open_some w.heap.size b0 off cl cc n Z _ _ _ _ ⟨S (i * 10 + 5), S (i * 10 + 6), S (i * 10 + 7), S (i * 10 + 8), S (i * 10 + 9)⟩ w1 (fun W w' => ∃ o, Opened YAt (W.alloc o) w.heap.size os.length ⟨Z (n * 5), Z (n * 5 + 1), Z (n * 5 + 2), Z (n * 5 + 3), Z (n * 5 + 4)⟩ (.slice (some ⟨b0, off, none⟩) cl cc) (.slice none 0 0) (.slice ma os.length mc) (.slice none 0 0) (.slice none 0 0) (mptrs os) w') hcell hcl0 (by omega) (I 1 (by omega)).1 (I 1 (by omega)).2 hn hnl hz
            (fun W hW => opened_ok hY w.heap.size os.length _ ma mc _ _ _ _ (mptrs os) W hck (by omega) (boxW W hW).1 (boxW W hW).2)).mono ?_
          rintro e w2 ⟨he, W, hW, o, hop⟩
          obtain ⟨ma', mc', os', hlen, h'⟩ := h.added hY (hW.alloc o) hop
          obtain ⟨g, cap, y, r, F, _, _, _, _, _, hcF, _⟩ := hop
          refine fin e w2 he ⟨_, ma', mc', os', h', by omega⟩ (((hW.alloc o).mono (O' := O) (fun _ _ hx => hx.elim)).trans hcF (fun x hx hxx => (hO x).2 ?_))
          rcases hxx with rfl | hxx
          · exact ⟨Nat.le_refl _, h.bn⟩
          · have := h.ownB x hxx; omega
    · have e : opAt S i = .agg #[.int .i64 7, .int .i64 (S (i * 10 + 1)), .int .i64 (S (i * 10 + 2)), .int .i64 (S (i * 10 + 3)), .int .i64 (S (i * 10 + 4)), .int .i64 (S (i * 10 + 5)), .int .i64 (S (i * 10 + 6)), .int .i64 (S (i * 10 + 7)), .int .i64 (S (i * 10 + 8)), .int .i64 (S (i * 10 + 9))] := by
        unfold opAt; rw [hk]
      rw [e]
      by_cases hm : os.length = 0
      · rw [hm] at cell2
        exact (step_m7_none w.heap.size mc ma _ _ _ _ ⟨S (i * 10 + 5), S (i * 10 + 6), S (i * 10 + 7), S (i * 10 + 8), S (i * 10 + 9)⟩ w1 cell2).mono quiet
      · obtain ⟨n, o, gb, hn, hnl, ho, hma, c0, c1⟩ := pickM hm
        rw [hma] at cell2
        exact (step_m7_some w.heap.size gb os.length mc n o.y o.r _ _ _ _ ⟨S (i * 10 + 5), S (i * 10 + 6), S (i * 10 + 7), S (i * 10 + 8), S (i * 10 + 9)⟩ w1 (fun W w' => ∃ m', PairTo YAt W o.y o.r o.F m' w') cell2 (by omega) hn hnl (I 1 (by omega)).1 (I 1 (by omega)).2 c0 c1 (fun W hW => (bid_submit hY o.y o.r o.F o.m _ _ _ _ ⟨S (i * 10 + 5), S (i * 10 + 6), S (i * 10 + 7), S (i * 10 + 8), S (i * 10 + 9)⟩ W (pairW n o ho W hW) (I 2 (by omega)) (I 3 (by omega)) ⟨I 5 (by omega), I 6 (by omega), I 7 (by omega), I 8 (by omega), I 9 (by omega)⟩).mono (fun e w' ⟨m', he, ht⟩ => ⟨he, m', ht⟩))).mono (onM n o ho)
    · have e : opAt S i = .agg #[.int .i64 8, .int .i64 (S (i * 10 + 1)), .int .i64 (S (i * 10 + 2)), .int .i64 (S (i * 10 + 3)), .int .i64 (S (i * 10 + 4)), .int .i64 (S (i * 10 + 5)), .int .i64 (S (i * 10 + 6)), .int .i64 (S (i * 10 + 7)), .int .i64 (S (i * 10 + 8)), .int .i64 (S (i * 10 + 9))] := by
        unfold opAt; rw [hk]
      rw [e]
      by_cases hm : os.length = 0
      · rw [hm] at cell2
        exact (step_m8_none w.heap.size mc ma _ _ _ _ ⟨S (i * 10 + 5), S (i * 10 + 6), S (i * 10 + 7), S (i * 10 + 8), S (i * 10 + 9)⟩ w1 cell2).mono quiet
      · obtain ⟨n, o, gb, hn, hnl, ho, hma, c0, c1⟩ := pickM hm
        rw [hma] at cell2
        exact (step_m8_some w.heap.size gb os.length mc n o.y o.r _ _ _ _ ⟨S (i * 10 + 5), S (i * 10 + 6), S (i * 10 + 7), S (i * 10 + 8), S (i * 10 + 9)⟩ w1 (fun W w' => ∃ m', PairTo YAt W o.y o.r o.F m' w') cell2 (by omega) hn hnl (I 1 (by omega)).1 (I 1 (by omega)).2 c0 c1 (fun W hW => (bid_cancel hY o.y o.r o.F o.m _ _ _ _ ⟨S (i * 10 + 5), S (i * 10 + 6), S (i * 10 + 7), S (i * 10 + 8), S (i * 10 + 9)⟩ W (pairW n o ho W hW) (I 2 (by omega)) (I 3 (by omega))).mono (fun e w' ⟨m', he, ht⟩ => ⟨he, m', ht⟩))).mono (onM n o ho)
    · have e : opAt S i = .agg #[.int .i64 9, .int .i64 (S (i * 10 + 1)), .int .i64 (S (i * 10 + 2)), .int .i64 (S (i * 10 + 3)), .int .i64 (S (i * 10 + 4)), .int .i64 (S (i * 10 + 5)), .int .i64 (S (i * 10 + 6)), .int .i64 (S (i * 10 + 7)), .int .i64 (S (i * 10 + 8)), .int .i64 (S (i * 10 + 9))] := by
        unfold opAt; rw [hk]
      rw [e]
      by_cases hm : os.length = 0
      · rw [hm] at cell2
        exact (step_m9_none w.heap.size mc ma _ _ _ _ ⟨S (i * 10 + 5), S (i * 10 + 6), S (i * 10 + 7), S (i * 10 + 8), S (i * 10 + 9)⟩ w1 cell2).mono quiet
      · obtain ⟨n, o, gb, hn, hnl, ho, hma, c0, c1⟩ := pickM hm
        rw [hma] at cell2
        exact (step_m9_some w.heap.size gb os.length mc n o.y o.r _ _ _ _ ⟨S (i * 10 + 5), S (i * 10 + 6), S (i * 10 + 7), S (i * 10 + 8), S (i * 10 + 9)⟩ w1 (fun W w' => ∃ m', PairTo YAt W o.y o.r o.F m' w') cell2 (by omega) hn hnl (I 1 (by omega)).1 (I 1 (by omega)).2 c0 c1 (fun W hW => (bid_suspend hY o.y o.r o.F o.m _ _ _ _ ⟨S (i * 10 + 5), S (i * 10 + 6), S (i * 10 + 7), S (i * 10 + 8), S (i * 10 + 9)⟩ W (pairW n o ho W hW) (I 2 (by omega)) (I 3 (by omega))).mono (fun e w' ⟨m', he, ht⟩ => ⟨he, m', ht⟩))).mono (onM n o ho)
    · have e : opAt S i = .agg #[.int .i64 10, .int .i64 (S (i * 10 + 1)), .int .i64 (S (i * 10 + 2)), .int .i64 (S (i * 10 + 3)), .int .i64 (S (i * 10 + 4)), .int .i64 (S (i * 10 + 5)), .int .i64 (S (i * 10 + 6)), .int .i64 (S (i * 10 + 7)), .int .i64 (S (i * 10 + 8)), .int .i64 (S (i * 10 + 9))] := by
        unfold opAt; rw [hk]
      rw [e]
      by_cases hm : os.length = 0
      · rw [hm] at cell2
        exact (step_m10_none w.heap.size mc ma _ _ _ _ ⟨S (i * 10 + 5), S (i * 10 + 6), S (i * 10 + 7), S (i * 10 + 8), S (i * 10 + 9)⟩ w1 cell2).mono quiet
      · obtain ⟨n, o, gb, hn, hnl, ho, hma, c0, c1⟩ := pickM hm
        rw [hma] at cell2
        exact (step_m10_some w.heap.size gb os.length mc n o.y o.r _ _ _ _ ⟨S (i * 10 + 5), S (i * 10 + 6), S (i * 10 + 7), S (i * 10 + 8), S (i * 10 + 9)⟩ w1 (fun W w' => ∃ m', PairTo YAt W o.y o.r o.F m' w') cell2 (by omega) hn hnl (I 1 (by omega)).1 (I 1 (by omega)).2 c0 c1 (fun W hW => (bid_capacity hY o.y o.r o.F o.m _ _ _ _ ⟨S (i * 10 + 5), S (i * 10 + 6), S (i * 10 + 7), S (i * 10 + 8), S (i * 10 + 9)⟩ W (pairW n o ho W hW) (I 2 (by omega)) (I 3 (by omega)) (I 4 (by omega))).mono (fun e w' ⟨m', he, ht⟩ => ⟨he, m', ht⟩))).mono (onM n o ho)
    · have e : opAt S i = .agg #[.int .i64 11, .int .i64 (S (i * 10 + 1)), .int .i64 (S (i * 10 + 2)), .int .i64 (S (i * 10 + 3)), .int .i64 (S (i * 10 + 4)), .int .i64 (S (i * 10 + 5)), .int .i64 (S (i * 10 + 6)), .int .i64 (S (i * 10 + 7)), .int .i64 (S (i * 10 + 8)), .int .i64 (S (i * 10 + 9))] := by
        unfold opAt; rw [hk]
      rw [e]
      by_cases hm : os.length = 0
      · rw [hm] at cell2
        exact (step_m11_none w.heap.size mc ma _ _ _ _ ⟨S (i * 10 + 5), S (i * 10 + 6), S (i * 10 + 7), S (i * 10 + 8), S (i * 10 + 9)⟩ w1 cell2).mono quiet
      · obtain ⟨n, o, gb, hn, hnl, ho, hma, c0, c1⟩ := pickM hm
        rw [hma] at cell2
        exact (step_m11_some w.heap.size gb os.length mc n o.y o.r _ _ _ _ ⟨S (i * 10 + 5), S (i * 10 + 6), S (i * 10 + 7), S (i * 10 + 8), S (i * 10 + 9)⟩ w1 (fun W w' => ∃ m', PairTo YAt W o.y o.r o.F m' w') cell2 (by omega) hn hnl (I 1 (by omega)).1 (I 1 (by omega)).2 c0 c1 (fun W hW => (looked_now hY o.y o.r o.F o.m _ _ _ _ ⟨S (i * 10 + 5), S (i * 10 + 6), S (i * 10 + 7), S (i * 10 + 8), S (i * 10 + 9)⟩ W (pairW n o ho W hW) ).mono (fun e w' ⟨he, ht⟩ => ⟨he, _, ht⟩))).mono (onM n o ho)
    · have e : opAt S i = .agg #[.int .i64 12, .int .i64 (S (i * 10 + 1)), .int .i64 (S (i * 10 + 2)), .int .i64 (S (i * 10 + 3)), .int .i64 (S (i * 10 + 4)), .int .i64 (S (i * 10 + 5)), .int .i64 (S (i * 10 + 6)), .int .i64 (S (i * 10 + 7)), .int .i64 (S (i * 10 + 8)), .int .i64 (S (i * 10 + 9))] := by
        unfold opAt; rw [hk]
      rw [e]
      by_cases hm : os.length = 0
      · rw [hm] at cell2
        exact (step_m12_none w.heap.size mc ma _ _ _ _ ⟨S (i * 10 + 5), S (i * 10 + 6), S (i * 10 + 7), S (i * 10 + 8), S (i * 10 + 9)⟩ w1 cell2).mono quiet
      · obtain ⟨n, o, gb, hn, hnl, ho, hma, c0, c1⟩ := pickM hm
        rw [hma] at cell2
        exact (step_m12_some w.heap.size gb os.length mc n o.y o.r _ _ _ _ ⟨S (i * 10 + 5), S (i * 10 + 6), S (i * 10 + 7), S (i * 10 + 8), S (i * 10 + 9)⟩ w1 (fun W w' => ∃ m', PairTo YAt W o.y o.r o.F m' w') cell2 (by omega) hn hnl (I 1 (by omega)).1 (I 1 (by omega)).2 c0 c1 (fun W hW => (looked_left hY o.y o.r o.F o.m _ _ _ _ ⟨S (i * 10 + 5), S (i * 10 + 6), S (i * 10 + 7), S (i * 10 + 8), S (i * 10 + 9)⟩ W (pairW n o ho W hW) ).mono (fun e w' ⟨he, ht⟩ => ⟨he, _, ht⟩))).mono (onM n o ho)
    · have e : opAt S i = .agg #[.int .i64 13, .int .i64 (S (i * 10 + 1)), .int .i64 (S (i * 10 + 2)), .int .i64 (S (i * 10 + 3)), .int .i64 (S (i * 10 + 4)), .int .i64 (S (i * 10 + 5)), .int .i64 (S (i * 10 + 6)), .int .i64 (S (i * 10 + 7)), .int .i64 (S (i * 10 + 8)), .int .i64 (S (i * 10 + 9))] := by
        unfold opAt; rw [hk]
      rw [e]
      by_cases hm : os.length = 0
      · rw [hm] at cell2
        exact (step_m13_none w.heap.size mc ma _ _ _ _ ⟨S (i * 10 + 5), S (i * 10 + 6), S (i * 10 + 7), S (i * 10 + 8), S (i * 10 + 9)⟩ w1 cell2).mono quiet
      · obtain ⟨n, o, gb, hn, hnl, ho, hma, c0, c1⟩ := pickM hm
        rw [hma] at cell2
        exact (step_m13_some w.heap.size gb os.length mc n o.y o.r _ _ _ _ ⟨S (i * 10 + 5), S (i * 10 + 6), S (i * 10 + 7), S (i * 10 + 8), S (i * 10 + 9)⟩ w1 (fun W w' => ∃ m', PairTo YAt W o.y o.r o.F m' w') cell2 (by omega) hn hnl (I 1 (by omega)).1 (I 1 (by omega)).2 c0 c1 (fun W hW => (looked_look hY o.y o.r o.F o.m _ _ _ _ ⟨S (i * 10 + 5), S (i * 10 + 6), S (i * 10 + 7), S (i * 10 + 8), S (i * 10 + 9)⟩ W (pairW n o ho W hW) (I 2 (by omega)) (I 3 (by omega))).mono (fun e w' ⟨he, ht⟩ => ⟨he, _, ht⟩))).mono (onM n o ho)
    · have e : opAt S i = .agg #[.int .i64 14, .int .i64 (S (i * 10 + 1)), .int .i64 (S (i * 10 + 2)), .int .i64 (S (i * 10 + 3)), .int .i64 (S (i * 10 + 4)), .int .i64 (S (i * 10 + 5)), .int .i64 (S (i * 10 + 6)), .int .i64 (S (i * 10 + 7)), .int .i64 (S (i * 10 + 8)), .int .i64 (S (i * 10 + 9))] := by
        unfold opAt; rw [hk]
      rw [e]
      by_cases hm : os.length = 0
      · rw [hm] at cell2
        exact (step_m14_none w.heap.size mc ma _ _ _ _ ⟨S (i * 10 + 5), S (i * 10 + 6), S (i * 10 + 7), S (i * 10 + 8), S (i * 10 + 9)⟩ w1 cell2).mono quiet
      · obtain ⟨n, o, gb, hn, hnl, ho, hma, c0, c1⟩ := pickM hm
        rw [hma] at cell2
        exact (step_m14_some w.heap.size gb os.length mc n o.y o.r _ _ _ _ ⟨S (i * 10 + 5), S (i * 10 + 6), S (i * 10 + 7), S (i * 10 + 8), S (i * 10 + 9)⟩ w1 (fun W w' => ∃ m', PairTo YAt W o.y o.r o.F m' w') cell2 (by omega) hn hnl (I 1 (by omega)).1 (I 1 (by omega)).2 c0 c1 (fun W hW => (looked_free hY o.y o.r o.F o.m _ _ _ _ ⟨S (i * 10 + 5), S (i * 10 + 6), S (i * 10 + 7), S (i * 10 + 8), S (i * 10 + 9)⟩ W (pairW n o ho W hW) (I 2 (by omega))).mono (fun e w' ⟨he, ht⟩ => ⟨he, _, ht⟩))).mono (onM n o ho)
  · rintro i O w1 ⟨N, ma, mc, os, h, hl, hO⟩
    have h3 := h.box.cell 3
    have h4 := h.box.cell 4
    simp at h3 h4
    refine (looks_nil w.heap.size w1 h3 h4).mono ?_
    rintro e w2 ⟨rfl, rfl⟩
    exact ⟨rfl, Chg.refl _ _⟩

end Go.Proofs.YtminceigjejipaaGreat
