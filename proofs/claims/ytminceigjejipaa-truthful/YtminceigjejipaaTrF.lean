import Derived.Test.YtminceigjejipaaG16
import Derived.Deep.RegionHeld3
/-
  yardkeep, Truthful: truth, lie.
-/
namespace Go.Proofs.Ytminceigjejipaa
open Go.RowKit

def truthN (c : CfgG) (j : JobG) : Int := 1 + pickZ j.len c.ticks
def truthA (c : CfgG) (j : JobG) : Int := pickZ j.arr (c.ticks - truthN c j + 1)
def truthD (c : CfgG) (j : JobG) : Int := pickZ j.dl (c.ticks - truthA c j - truthN c j + 1)
/-- a job that can be, of raw numbers -/
def truthJ (c : CfgG) (j : JobG) : JobG := ⟨truthA c j, truthA c j + truthN c j + truthD c j, truthN c j, 1 + pickZ j.units 1000, 1 + pickZ j.val 1048576⟩
theorem truthJ_ok {c : CfgG} (hc : cfgOk c = true) (j : JobG) : 0 ≤ (truthJ c j).arr ∧ (truthJ c j).arr ≤ 63 ∧ 1 ≤ (truthJ c j).len ∧ (truthJ c j).len ≤ 64 ∧ 1 ≤ (truthJ c j).dl ∧ (truthJ c j).dl ≤ c.ticks ∧ 1 ≤ (truthJ c j).units ∧ (truthJ c j).units ≤ 1000 ∧ 1 ≤ (truthJ c j).val ∧ (truthJ c j).val ≤ 1048576 := by
  have hcf := cfgOk_true hc
  have h1 := pickZ_lt j.len c.ticks (by omega)
  have h2 : 1 ≤ truthN c j ∧ truthN c j ≤ c.ticks := by unfold truthN; omega
  have h3 : 0 ≤ truthA c j ∧ truthA c j < c.ticks - truthN c j + 1 := pickZ_lt _ _ (by omega)
  have h4 : 0 ≤ truthD c j ∧ truthD c j < c.ticks - truthA c j - truthN c j + 1 := pickZ_lt _ _ (by omega)
  have h5 := pickZ_lt j.units 1000 (by omega)
  have h6 := pickZ_lt j.val 1048576 (by omega)
  simp only [truthJ]
  omega
/-- another job -/
def lieJ (t j : JobG) : JobG := ⟨t.arr + pickZ j.arr 4, t.dl - pickZ j.dl 3, t.len + pickZ j.len 3, t.units + pickZ j.units 4, 1 + pickZ j.val 1048576⟩
theorem lieJ_ok (t j : JobG) : (t.arr ≤ (lieJ t j).arr ∧ (lieJ t j).arr ≤ t.arr + 3) ∧ (t.dl - 2 ≤ (lieJ t j).dl ∧ (lieJ t j).dl ≤ t.dl) ∧ (t.len ≤ (lieJ t j).len ∧ (lieJ t j).len ≤ t.len + 2) ∧ (t.units ≤ (lieJ t j).units ∧ (lieJ t j).units ≤ t.units + 3) ∧ 1 ≤ (lieJ t j).val ∧ (lieJ t j).val ≤ 1048576 := by
  have h1 := pickZ_lt j.len 3 (by omega)
  have h2 := pickZ_lt j.arr 4 (by omega)
  have h3 := pickZ_lt j.dl 3 (by omega)
  have h4 := pickZ_lt j.units 4 (by omega)
  have h5 := pickZ_lt j.val 1048576 (by omega)
  simp only [lieJ]
  omega

/-- a job's box, written whole -/
theorem five_set {w : World} {q : Nat} {x0 x1 x2 x3 x4 a b c d e : Value} {T : TypeId} (h : w.heap[q]? = some (.cells #[x0, x1, x2, x3, x4] T (0, 0))) {w' : World} (hw : w' = ((((w.setCell ⟨q, 0, none⟩ a).setCell ⟨q, 1, none⟩ b).setCell ⟨q, 2, none⟩ c).setCell ⟨q, 3, none⟩ d).setCell ⟨q, 4, none⟩ e) :
    w'.cell? ⟨q, 0, none⟩ = some a ∧ w'.cell? ⟨q, 1, none⟩ = some b ∧ w'.cell? ⟨q, 2, none⟩ = some c ∧ w'.cell? ⟨q, 3, none⟩ = some d ∧ w'.cell? ⟨q, 4, none⟩ = some e := by
  subst hw
  have h2 := box_set (f := 4) (box_set (f := 3) (box_set (f := 2) (box_set (f := 1) (box_set (f := 0) h a) b) c) d) e
  refine ⟨?_, ?_, ?_, ?_, ?_⟩
  all_goals
    unfold World.cell?
    rw [h2]
    rfl
theorem five_chg {w0 w : World} (h : Chg (fun _ => False) w0 w) {q : Nat} (hq : w0.heap.size ≤ q) (a b c d e : Value) : Chg (fun _ => False) w0 (((((w.setCell ⟨q, 0, none⟩ a).setCell ⟨q, 1, none⟩ b).setCell ⟨q, 2, none⟩ c).setCell ⟨q, 3, none⟩ d).setCell ⟨q, 4, none⟩ e).drew :=
  (((((h.setCell (.inr hq) _).setCell (.inr hq) _).setCell (.inr hq) _).setCell (.inr hq) _).setCell (.inr hq) _).drew

set_option maxRecDepth 100000 in
set_option maxHeartbeats 4000000 in
theorem ktruth_any (c : CfgG) (j : JobG) (w : World) (hc : cfgOk c = true) (hj : JobI64 j) :
    Calls Try.prog 29 #[cfgV c, jobV j] w fun e w' => e = .returned (jobV (truthJ c j)) ∧ Chg (fun _ => False) w w' := by
  have hcf := cfgOk_true hc
  obtain ⟨j1, j2, j3, j4, j5⟩ := hj
  have p1 := pickZ_lt j.len c.ticks (by omega)
  have hN : 1 ≤ truthN c j ∧ truthN c j ≤ c.ticks := by unfold truthN; omega
  have hA : 0 ≤ truthA c j ∧ truthA c j < c.ticks - truthN c j + 1 := pickZ_lt _ _ (by omega)
  have hD : 0 ≤ truthD c j ∧ truthD c j < c.ticks - truthA c j - truthN c j + 1 := pickZ_lt _ _ (by omega)
  have hU := pickZ_lt j.units 1000 (by omega)
  have hV := pickZ_lt j.val 1048576 (by omega)
  have H1 := hide (fun (w' : World) => kpick_any j.len c.ticks w' j3.1 j3.2 (by omega))
  have H2 := hide (fun (w' : World) => kpick_any j.arr (c.ticks - truthN c j + 1) w' j1.1 j1.2 (by omega))
  have H3 := hide (fun (w' : World) => kpick_any j.dl (c.ticks - truthA c j - truthN c j + 1) w' j2.1 j2.2 (by omega))
  rw [show pickZ j.arr (c.ticks - truthN c j + 1) = truthA c j from rfl] at H2
  rw [show pickZ j.dl (c.ticks - truthA c j - truthN c j + 1) = truthD c j from rfl] at H3
  have HE : Hid (jobV (truthJ c j) = .agg #[.int .i64 (truthA c j), .int .i64 (truthA c j + truthN c j + truthD c j), .int .i64 (truthN c j), .int .i64 (1 + pickZ j.units 1000), .int .i64 (1 + pickZ j.val 1048576)]) := rfl
  have hN0 : truthN c j = 1 + pickZ j.len c.ticks := rfl
  obtain ⟨n, hn⟩ : ∃ n, n = truthN c j := ⟨_, rfl⟩
  obtain ⟨a, ha⟩ : ∃ a, a = truthA c j := ⟨_, rfl⟩
  obtain ⟨d, hd⟩ : ∃ d, d = truthD c j := ⟨_, rfl⟩
  obtain ⟨l, hl⟩ : ∃ l, l = pickZ j.len c.ticks := ⟨_, rfl⟩
  rw [← hl] at hN0 H1 p1
  rw [← hd] at H3 hD HE
  rw [← ha] at H2 H3 hA hD HE
  rw [← hn] at hN0 H2 H3 hN hA hD HE
  obtain ⟨T, hT⟩ : ∃ T, T = c.ticks := ⟨_, rfl⟩
  rw [← hT] at p1 hN hA hD H1 H2 H3 hcf
  have e1 : IntKind.i64.wrap (1 + l) = n := by rw [IntKind.wrap_i64]; omega
  have e2 : IntKind.i64.wrap (T - n) = T - n := by rw [IntKind.wrap_i64]; omega
  have e3 : IntKind.i64.wrap (T - n + 1) = T - n + 1 := by rw [IntKind.wrap_i64]; omega
  have e4 : IntKind.i64.wrap (a + n) = a + n := by rw [IntKind.wrap_i64]; omega
  have e5 : IntKind.i64.wrap (T - a) = T - a := by rw [IntKind.wrap_i64]; omega
  have e6 : IntKind.i64.wrap (T - a - n) = T - a - n := by rw [IntKind.wrap_i64]; omega
  have e7 : IntKind.i64.wrap (T - a - n + 1) = T - a - n + 1 := by rw [IntKind.wrap_i64]; omega
  have e8 : IntKind.i64.wrap (a + n + d) = a + n + d := by rw [IntKind.wrap_i64]; omega
  have e9 : IntKind.i64.wrap (1 + pickZ j.units 1000) = 1 + pickZ j.units 1000 := by rw [IntKind.wrap_i64]; omega
  have e10 : IntKind.i64.wrap (1 + pickZ j.val 1048576) = 1 + pickZ j.val 1048576 := by rw [IntKind.wrap_i64]; omega
  obtain ⟨w1, hw1⟩ : ∃ w1, w1 = ((w.alloc (.cells #[.int .i64 T, .int .i64 c.cap, .int .i64 c.res, .int .i64 c.ten, .int .i64 c.quo] 38)).alloc (.cells #[.int .i64 j.arr, .int .i64 j.dl, .int .i64 j.len, .int .i64 j.units, .int .i64 j.val] 54)).alloc (.cells #[.int .i64 0, .int .i64 0, .int .i64 0, .int .i64 0, .int .i64 0] 54) := ⟨_, rfl⟩
  have HC1 := hide (show Chg (fun _ => False) w w1 by rw [hw1]; exact (((Chg.refl _ _).alloc _).alloc _).alloc _)
  have bA : w1.heap[w.heap.size]? = some (.cells #[.int .i64 T, .int .i64 c.cap, .int .i64 c.res, .int .i64 c.ten, .int .i64 c.quo] 38 (0, 0)) := by rw [hw1, Below.heap_alloc _ _ _ (by simp; omega), Below.heap_alloc _ _ _ (by simp)]; exact heap_alloc_new w _
  have bB : w1.heap[w.heap.size + 1]? = some (.cells #[.int .i64 j.arr, .int .i64 j.dl, .int .i64 j.len, .int .i64 j.units, .int .i64 j.val] 54 (0, 0)) := by rw [hw1, Below.heap_alloc _ _ _ (by simp)]; exact heap_at_new (by simp)
  have bC : w1.heap[w.heap.size + 1 + 1]? = some (.cells #[.int .i64 0, .int .i64 0, .int .i64 0, .int .i64 0, .int .i64 0] 54 (0, 0)) := by rw [hw1]; exact heap_at_new (by simp)
  have qT : w1.cell? ⟨w.heap.size, 0, none⟩ = some (.int .i64 T) := by unfold World.cell?; rw [bA]; rfl
  have q0 : w1.cell? ⟨w.heap.size + 1, 0, none⟩ = some (.int .i64 j.arr) := by unfold World.cell?; rw [bB]; rfl
  have q1 : w1.cell? ⟨w.heap.size + 1, 1, none⟩ = some (.int .i64 j.dl) := by unfold World.cell?; rw [bB]; rfl
  have q2 : w1.cell? ⟨w.heap.size + 1, 2, none⟩ = some (.int .i64 j.len) := by unfold World.cell?; rw [bB]; rfl
  have q3 : w1.cell? ⟨w.heap.size + 1, 3, none⟩ = some (.int .i64 j.units) := by unfold World.cell?; rw [bB]; rfl
  have q4 : w1.cell? ⟨w.heap.size + 1, 4, none⟩ = some (.int .i64 j.val) := by unfold World.cell?; rw [bB]; rfl
  have HBC := hide bC
  have HW1 := hide hw1
  have HPK := hide (fun (x n : Int) (w' : World) (h : I64 x) (hn : 0 < n) => kpick_any x n w' h.1 h.2 hn)
  rw [HE.out]
  unfold cfgV jobV
  rw [← hT]
  clear hc hcf j1 j2 j3 p1 hN hA hD hU hV hn ha hd hl hT hN0 bA bB bC hw1
  go_enter Try.func29, Try.ntmps29
  go_wp2_with fail
  rw [← HW1.out]
  refine (H1.out _).mono ?_
  rintro e w2 ⟨rfl, hw2⟩
  subst w2
  go_wp2_with fail
  refine (H2.out _).mono ?_
  rintro e w2 ⟨rfl, hw2⟩
  subst w2
  go_wp2_with fail
  refine (H3.out _).mono ?_
  rintro e w2 ⟨rfl, hw2⟩
  subst w2
  go_wp2_with fail
  have c0 : w1.cell? ⟨w.heap.size + 1 + 1, 0, none⟩ = some (.int .i64 0) := by unfold World.cell?; rw [HBC.out]; rfl
  have c1 : w1.cell? ⟨w.heap.size + 1 + 1, 1, none⟩ = some (.int .i64 0) := by unfold World.cell?; rw [HBC.out]; rfl
  have c2 : w1.cell? ⟨w.heap.size + 1 + 1, 2, none⟩ = some (.int .i64 0) := by unfold World.cell?; rw [HBC.out]; rfl
  have c3 : w1.cell? ⟨w.heap.size + 1 + 1, 3, none⟩ = some (.int .i64 0) := by unfold World.cell?; rw [HBC.out]; rfl
  have c4 : w1.cell? ⟨w.heap.size + 1 + 1, 4, none⟩ = some (.int .i64 0) := by unfold World.cell?; rw [HBC.out]; rfl
  have hfz : ∀ f, w1.frozen? ⟨w.heap.size + 1 + 1, f, none⟩ = false := fun f => by unfold World.frozen?; rw [HBC.out]; simp
  have z0 := hfz 0
  have z1 := hfz 1
  have z2 := hfz 2
  have z3 := hfz 3
  have z4 := hfz 4
  clear hfz qT q0 q1 q2
  go_region_held3 (fun w' => w'.cell? ⟨w.heap.size + 1, 3, none⟩ = some (.int .i64 j.units) ∧ w'.cell? ⟨w.heap.size + 1, 4, none⟩ = some (.int .i64 j.val)) (go_keep)
    (first | (go_at_call 25; refine (HPK.out _ _ _ (by assumption) (by decide)).mono ?_; rintro e w2 ⟨rfl, hw2⟩; subst w2))
  all_goals
    go_wp2
    obtain ⟨r0, r1, r2, r3, r4⟩ := five_set (a := .int .i64 a) (b := .int .i64 (a + n + d)) (c := .int .i64 n) (d := .int .i64 (1 + pickZ j.units 1000)) (e := .int .i64 (1 + pickZ j.val 1048576)) HBC.out rfl
    refine bodyPost_ret (v := .agg #[.int .i64 a, .int .i64 (a + n + d), .int .i64 n, .int .i64 (1 + pickZ j.units 1000), .int .i64 (1 + pickZ j.val 1048576)]) (by simp [results, Try.results29, go_sem, r0, r1, r2, r3, r4]) rfl ⟨rfl, ?_⟩
    exact five_chg HC1.out (by omega) _ _ _ _ _
end Go.Proofs.Ytminceigjejipaa
