import Derived.Test.YtminceigjejipaaG4
import Derived.Test.YtminceigjejipaaYp4
import Derived.Test.YtminceigjejipaaG12
import Derived.Test.YtminceigjejipaaYt2
/-
  OPEN, in the program.
-/
namespace Go.Proofs.Ytminceigjejipaa
open Go.RowKit

theorem ckZ_ok {c : CfgG} (h : cfgOk c = true) : ckZ c.ticks c.cap c.res c.ten c.quo = 0 := by simp only [cfgOk] at h; simp [ckZ, h]
theorem ckZ_bad {c : CfgG} (h : cfgOk c = false) : ckZ c.ticks c.cap c.res c.ten c.quo = 1 := by simp only [cfgOk] at h; simp [ckZ, h]

set_option maxRecDepth 100000 in
set_option maxHeartbeats 2000000 in
theorem yOpen_bad (c : CfgG) (w : World) (h : cfgOk c = false) :
    Calls Try.prog 42 #[cfgV c] w fun e w' => e = .returned (.tuple #[.pointer none, .int .i64 1]) ∧ Chg (fun _ => False) w w' := by
  unfold cfgV
  have hz := ckZ_bad h
  clear h
  go_enter Try.func42, Try.ntmps42
  go_wp2_with (go_at_call 64; refine (check_any _ _ _ _ _ _).mono ?_; rintro e w1 ⟨rfl, hq⟩; rw [hz]; have HQ := hide (((Chg.refl _ _).alloc _).trans hq (fun _ _ h => h)); clear hq)
  go_ret2
  exact ⟨rfl, HQ.out⟩

/-- a fresh yard, as it lies -/
theorem yat_open {w w3 : World} {V : YV} {c : CfgG} {g nt : Nat} (hm : YmAt w3 V (openM c)) (hn : (nt : Int) = c.ten) (h8 : nt ≤ 8) (hp : w3.heap[g]? = some (.cells (madeCells #[.int .i64 0] nt) 3 (0, 0))) (hg : ¬ V.foot g) (hc : Chg (fun _ => False) w w3) (hft : ∀ k, V.foot k → w.heap.size ≤ k) (hgw : w.heap.size ≤ g) :
    ∃ F, YAt (w3.alloc (.cells #[.pointer (some ⟨V.q, 0, none⟩), .slice none 0 0, .slice none 0 0, .slice none 0 0, .slice (some ⟨g, 0, none⟩) nt nt] 111)) w3.heap.size F (openM c) ∧ ∀ k, F k → w.heap.size ≤ k := by
  have hgl : g < w3.heap.size := (Array.getElem?_eq_some_iff.1 hp).1
  have hc4 : Chg (fun _ => False) w3 (w3.alloc (.cells #[.pointer (some ⟨V.q, 0, none⟩), .slice none 0 0, .slice none 0 0, .slice none 0 0, .slice (some ⟨g, 0, none⟩) nt nt] 111)) := (Chg.refl _ _).alloc _
  have hp4 := (hc4.block g hgl (fun h => h)).trans hp
  have hpn : c.ten.toNat = nt := by omega
  refine ⟨yfoot w3.heap.size V ⟨.slice none 0 0, .slice none 0 0, .slice none 0 0, .slice (some ⟨g, 0, none⟩) nt nt⟩, ⟨V, _, fun _ => Iff.rfl, ⟨⟨heap_alloc_new w3 _, World.ownsRow_nil _ _ _ _, World.ownsRow_nil _ _ _ _, World.ownsRow_nil _ _ _ _, ?_, ?_⟩, hm.chg0 hc4, ?_⟩, ArrOk.open c, ChdOk.open c⟩, ?_⟩
  · show World.ownsRow _ 0 _ 1 _ (List.replicate c.ten.toNat (0 : Int)).length ((List.replicate c.ten.toNat (0 : Int)).map (Value.int .i64))
    rw [hpn, List.length_replicate, List.map_replicate]
    exact ⟨by simp, .inr ⟨g, nt, _, rfl, Nat.zero_le _, hp4, Nat.le_refl _, by unfold maxLen; omega, by rw [size_madeCells]; omega, by rw [made_list]; simp⟩⟩
  · intro k hk
    simp [Value.ownBlock] at hk
  · intro k hk hv
    rcases hk with rfl | hk | hk | hk | hk
    · have := hm.foot_lt _ hv
      omega
    · simp [Value.ownBlock] at hk
    · simp [Value.ownBlock] at hk
    · simp [Value.ownBlock] at hk
    · simp [Value.ownBlock] at hk
      subst hk
      exact hg hv
  · intro k hk
    rcases hk with hk | hk
    · rcases hk with rfl | hk | hk | hk | hk
      · exact hc.size
      · simp [Value.ownBlock] at hk
      · simp [Value.ownBlock] at hk
      · simp [Value.ownBlock] at hk
      · simp [Value.ownBlock] at hk
        omega
    · exact hft k hk

set_option maxRecDepth 100000 in
set_option maxHeartbeats 4000000 in
theorem yOpen_ok (c : CfgG) (w : World) (h : cfgOk c = true) :
    Calls Try.prog 42 #[cfgV c] w fun e w' => ∃ p F, e = .returned (.tuple #[.pointer (some ⟨p, 0, none⟩), .int .i64 0]) ∧ YAt w' p F (openM c) ∧ Chg (fun _ => False) w w' ∧ ∀ k, F k → w.heap.size ≤ k := by
  unfold cfgV
  have hz := ckZ_ok h
  have HC := hide h
  obtain ⟨_, _, _, ⟨a7, a8⟩, _⟩ := cfgOk_true h
  obtain ⟨nt, hnt⟩ := Int.eq_ofNat_of_zero_le (show 0 ≤ c.ten by omega)
  have h8 : nt ≤ 8 := by omega
  have HNT := hide hnt
  rw [hnt] at hz ⊢
  have hmk := run_make_row' (P := Try.prog) 27 3 (.int .i64 0) 8 Try.underlying27 infoInt' rfl .i64 .i64 nt (by omega) (by omega)
  clear h
  go_enter Try.func42, Try.ntmps42
  go_wp2_with fail
  obtain ⟨w1, hw1⟩ : ∃ w1, w1 = w.alloc (.cells #[.int .i64 c.ticks, .int .i64 c.cap, .int .i64 c.res, .int .i64 (nt : Int), .int .i64 c.quo] 38) := ⟨_, rfl⟩
  rw [← hw1]
  have hb1 : w1.heap[w.heap.size]? = some (.cells #[.int .i64 c.ticks, .int .i64 c.cap, .int .i64 c.res, .int .i64 (nt : Int), .int .i64 c.quo] 38 (0, 0)) := by rw [hw1]; exact heap_alloc_new w _
  have hc1 : Chg (fun _ => False) w w1 := by rw [hw1]; exact (Chg.refl _ _).alloc _
  have hs1 : w.heap.size < w1.heap.size := (Array.getElem?_eq_some_iff.1 hb1).1
  clear hw1
  refine (check_any _ _ _ _ _ _).mono ?_
  rintro e w2 ⟨rfl, hq⟩
  rw [hz]
  have hb2 : w2.heap[w.heap.size]? = some (.cells #[.int .i64 c.ticks, .int .i64 c.cap, .int .i64 c.res, .int .i64 (nt : Int), .int .i64 c.quo] 38 (0, 0)) := (hq.block _ hs1 (fun h => h)).trans hb1
  have hs2 : w.heap.size < w2.heap.size := Nat.lt_of_lt_of_le hs1 hq.size
  have q0 : w2.cell? ⟨w.heap.size, 0, none⟩ = some (.int .i64 c.ticks) := by unfold World.cell?; rw [hb2]; rfl
  have q1 : w2.cell? ⟨w.heap.size, 1, none⟩ = some (.int .i64 c.cap) := by unfold World.cell?; rw [hb2]; rfl
  have q2 : w2.cell? ⟨w.heap.size, 2, none⟩ = some (.int .i64 c.res) := by unfold World.cell?; rw [hb2]; rfl
  have q3 : w2.cell? ⟨w.heap.size, 3, none⟩ = some (.int .i64 (nt : Int)) := by unfold World.cell?; rw [hb2]; rfl
  have q4 : w2.cell? ⟨w.heap.size, 4, none⟩ = some (.int .i64 c.quo) := by unfold World.cell?; rw [hb2]; rfl
  have HC2 := hide (hc1.trans hq (fun _ _ h => h))
  have HNEW := hide (fun (w0 : World) => (by have := newMarket_any c w0 HC.out; rw [hnt] at this; exact this : Calls Try.prog 65 #[.agg #[.int .i64 c.ticks, .int .i64 c.cap, .int .i64 c.res, .int .i64 (nt : Int), .int .i64 c.quo]] w0 fun e w' => ∃ V, e = .returned (.pointer (some ⟨V.q, 0, none⟩)) ∧ YmAt w' V (openM c) ∧ Chg (fun _ => False) w0 w' ∧ ∀ k, V.foot k → w0.heap.size ≤ k))
  have n1 : w2.heap.size ≠ w.heap.size := by omega
  have n2 : w.heap.size ≠ w2.heap.size := by omega
  have hk1 : ∀ x f, (w2.alloc x).cell? ⟨w.heap.size, f, none⟩ = w2.cell? ⟨w.heap.size, f, none⟩ := fun x f => World.cell?_alloc_lt _ _ _ (by show w.heap.size < _; omega)
  clear hb1 hb2 hc1 hs1 hq hz
  go_wp2
  go_region_held3 (fun w' => w'.cell? ⟨w.heap.size, 0, none⟩ = some (.int .i64 c.ticks) ∧ w'.cell? ⟨w.heap.size, 1, none⟩ = some (.int .i64 c.cap) ∧ w'.cell? ⟨w.heap.size, 2, none⟩ = some (.int .i64 c.res) ∧ w'.cell? ⟨w.heap.size, 3, none⟩ = some (.int .i64 (nt : Int)) ∧ w'.cell? ⟨w.heap.size, 4, none⟩ = some (.int .i64 c.quo)) (go_keep)
    (first
      | (go_at_call 65; refine (HNEW.out (w2.alloc (.cells (madeCells #[.int .i64 0] nt) 3)).drew).mono ?_; rintro e w3 ⟨V, rfl, hm3, hq3, hf3⟩; have hk3 := hq3.keep; have x0 := hk3 ⟨w.heap.size, 0, none⟩ _ ((hk1 _ _).trans q0); have x1 := hk3 ⟨w.heap.size, 1, none⟩ _ ((hk1 _ _).trans q1); have x2 := hk3 ⟨w.heap.size, 2, none⟩ _ ((hk1 _ _).trans q2); have x3 := hk3 ⟨w.heap.size, 3, none⟩ _ ((hk1 _ _).trans q3); have x4 := hk3 ⟨w.heap.size, 4, none⟩ _ ((hk1 _ _).trans q4); have hs3 := hq3.size; have HM3 := hide hm3; have HQ3 := hide hq3; have HF3 := hide hf3; clear hm3 hq3 hf3 hk3)
      | (go_at_call 65; refine (HNEW.out w2.drew).mono ?_; rintro e w3 ⟨V, rfl, hm3, hq3, hf3⟩; have hk3 := hq3.keep; have x0 := hk3 ⟨w.heap.size, 0, none⟩ _ q0; have x1 := hk3 ⟨w.heap.size, 1, none⟩ _ q1; have x2 := hk3 ⟨w.heap.size, 2, none⟩ _ q2; have x3 := hk3 ⟨w.heap.size, 3, none⟩ _ q3; have x4 := hk3 ⟨w.heap.size, 4, none⟩ _ q4; have hs3 := hq3.size; have n3 : w3.heap.size ≠ w.heap.size := (by have := hq3.size; simp at this; omega); have HM3 := hide hm3; have HQ3 := hide hq3; have HF3 := hide hf3; clear hm3 hq3 hf3 hk3))
  · go_wp2
    go_ret2
    have hq : Chg (fun _ => False) w w3 := (HC2.out.drew).trans HQ3.out (fun _ _ h => h)
    obtain ⟨F, h1, h2⟩ := yat_open (w := w) (g := w3.heap.size) (nt := nt) (HM3.out.chg0 ((Chg.refl _ _).alloc (.cells (madeCells #[.int .i64 0] nt) 3))) HNT.out.symm h8 (heap_alloc_new w3 _) (fun h => by have := HM3.out.foot_lt _ h; omega) (hq.alloc _) (fun k hk => by have h1 := HF3.out k hk; have h2 := HC2.out.size; exact Nat.le_trans h2 h1) hq.size
    have hsz : (w3.alloc (.cells (madeCells #[.int .i64 0] nt) 3)).heap.size = w3.heap.size + 1 := by simp
    rw [hsz] at h1
    exact ⟨_, F, rfl, h1, (hq.alloc _).alloc _, h2⟩
  · go_wp2
    go_ret2
    have hq : Chg (fun _ => False) w w3 := ((HC2.out.alloc _).drew).trans HQ3.out (fun _ _ h => h)
    have hs4 : w2.heap.size < (w2.alloc (.cells (madeCells #[.int .i64 0] nt) 3)).drew.heap.size := by simp
    obtain ⟨F, h1, h2⟩ := yat_open (w := w) (g := w2.heap.size) (nt := nt) HM3.out HNT.out.symm h8 ((HQ3.out.block _ hs4 (fun h => h)).trans (heap_alloc_new w2 _)) (fun h => by have := HF3.out _ h; omega) hq (fun k hk => by have := HF3.out k hk; have := HC2.out.size; omega) HC2.out.size
    exact ⟨_, F, rfl, h1, hq.alloc _, h2⟩
end Go.Proofs.Ytminceigjejipaa
