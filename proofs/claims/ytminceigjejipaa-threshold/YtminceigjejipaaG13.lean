import Derived.Test.YtminceigjejipaaG11
import Derived.Test.YtminceigjejipaaG10
import Derived.Test.YtminceigjejipaaYd6
import Derived.Test.YtminceigjejipaaYd7
import Derived.Test.YtminceigjejipaaG12
import Derived.Test.YtminceigjejipaaG6
import Derived.Test.YtminceigjejipaaG5
import Derived.Test.YtminceigjejipaaYt2
/-
  A CALL, MADE OF THE PROGRAM's MARKET ('answer'), for the first time or in a replay.
-/
namespace Go.Proofs.Ytminceigjejipaa
open Go.RowKit

theorem IsOrder.logs {m : MkG} {t : Int} {l : List Nat} {c : CallG} (h : IsOrder (m.logs c) t l) : IsOrder m t l := ⟨h.mem, h.sorted⟩
theorem YTickRes.res {m m' : MkG} {z : Int} {names : List (Int × Int)} (hok : MkOk (m.logs callTick)) (hg : m.ghost = -1) (hl : m.log.length < 300) (h : YTickRes (m.logs callTick) z names m') : TickRes m z names m' := by
  rcases h with ⟨h1, rfl, rfl, rfl⟩ | ⟨h1, rfl, l, hl', rfl, rfl⟩
  · exact .inr (.inl ⟨hl, h1, rfl, rfl, rfl⟩)
  · refine .inr (.inr ⟨hl, h1, rfl, l, hl'.logs, ?_, ?_⟩)
    · unfold tickM
      simp only
      rw [ghostI_none hok hg]
      rfl
    · unfold tickM
      simp only
      rw [ghostI_none hok hg]
      rfl

section
variable (V : YV) (m : MkG) (w : World)
set_option maxRecDepth 100000 in
set_option maxHeartbeats 2000000 in
theorem answer_submit (ten ref : Int) (j : JobG) (hm : YmAt w V m) (hok : MkOk m) :
    Calls Try.prog 76 #[.pointer (some ⟨V.q, 0, none⟩), .agg #[.int .i64 1, .int .i64 ten, .int .i64 ref, .int .i64 j.arr, .int .i64 j.dl, .int .i64 j.len, .int .i64 j.units, .int .i64 j.val, .int .i64 0, .int .i64 0, .int .i64 0, .bool false]] w fun e w' => e = .returned (.int .i64 (submitE m ten ref j)) ∧ YmTo w V (submitM m ten ref j) w' := by
  have HC := hide ((Chg.refl (fun _ => False) w).alloc (.cells #[.int .i64 1, .int .i64 ten, .int .i64 ref, .int .i64 j.arr, .int .i64 j.dl, .int .i64 j.len, .int .i64 j.units, .int .i64 j.val, .int .i64 0, .int .i64 0, .int .i64 0, .bool false] 132))
  have HSUB := hide (ysubmit_any V m ten ref j _ (hm.chg0 HC.out) hok)
  clear hm hok
  go_enter Try.func76, Try.ntmps76
  go_wp2_with fail
  refine HSUB.out.mono ?_
  rintro e w1 ⟨rfl, hto⟩
  have HTO := hide (YmTo.start HC.out hto)
  clear hto HSUB
  go_wp2
  go_ret
  exact ⟨rfl, HTO.out⟩
set_option maxRecDepth 100000 in
set_option maxHeartbeats 2000000 in
theorem answer_cancel (ten ref : Int) (hm : YmAt w V m) (hok : MkOk m) :
    Calls Try.prog 76 #[.pointer (some ⟨V.q, 0, none⟩), .agg #[.int .i64 2, .int .i64 ten, .int .i64 ref, .int .i64 0, .int .i64 0, .int .i64 0, .int .i64 0, .int .i64 0, .int .i64 0, .int .i64 0, .int .i64 0, .bool false]] w fun e w' => e = .returned (.int .i64 (cancelE m ten ref)) ∧ YmTo w V (cancelM m ten ref) w' := by
  have HC := hide ((Chg.refl (fun _ => False) w).alloc (.cells #[.int .i64 2, .int .i64 ten, .int .i64 ref, .int .i64 0, .int .i64 0, .int .i64 0, .int .i64 0, .int .i64 0, .int .i64 0, .int .i64 0, .int .i64 0, .bool false] 132))
  have HSUB := hide (ycancel_any V m ten ref _ (hm.chg0 HC.out) hok)
  clear hm hok
  go_enter Try.func76, Try.ntmps76
  go_wp2_with fail
  refine HSUB.out.mono ?_
  rintro e w1 ⟨rfl, hto⟩
  have HTO := hide (YmTo.start HC.out hto)
  clear hto HSUB
  go_wp2
  go_ret
  exact ⟨rfl, HTO.out⟩
set_option maxRecDepth 100000 in
set_option maxHeartbeats 2000000 in
theorem answer_cap (f t u : Int) (hm : YmAt w V m) (hok : MkOk m) :
    Calls Try.prog 76 #[.pointer (some ⟨V.q, 0, none⟩), .agg #[.int .i64 3, .int .i64 0, .int .i64 0, .int .i64 0, .int .i64 0, .int .i64 0, .int .i64 0, .int .i64 0, .int .i64 f, .int .i64 t, .int .i64 u, .bool false]] w fun e w' => ∃ z, e = .returned (.int .i64 z) ∧ CapRes m f t u z (capM m f t u) ∧ YmTo w V (capM m f t u) w' := by
  have HC := hide ((Chg.refl (fun _ => False) w).alloc (.cells #[.int .i64 3, .int .i64 0, .int .i64 0, .int .i64 0, .int .i64 0, .int .i64 0, .int .i64 0, .int .i64 0, .int .i64 f, .int .i64 t, .int .i64 u, .bool false] 132))
  have HSUB := hide (ycapacity_any V m f t u _ (hm.chg0 HC.out) hok)
  clear hm hok
  go_enter Try.func76, Try.ntmps76
  go_wp2_with fail
  refine HSUB.out.mono ?_
  rintro e w1 ⟨z, m', rfl, hr, hto⟩
  have hm' := hr.fn
  subst hm'
  have HTO := hide (YmTo.start HC.out hto)
  have HR := hide hr
  clear hto HSUB hr
  go_wp2
  go_ret
  exact ⟨z, rfl, HR.out, HTO.out⟩
set_option maxRecDepth 100000 in
set_option maxHeartbeats 2000000 in
theorem answer_susp (ten : Int) (on : Bool) (hm : YmAt w V m) (hok : MkOk m) :
    Calls Try.prog 76 #[.pointer (some ⟨V.q, 0, none⟩), .agg #[.int .i64 4, .int .i64 ten, .int .i64 0, .int .i64 0, .int .i64 0, .int .i64 0, .int .i64 0, .int .i64 0, .int .i64 0, .int .i64 0, .int .i64 0, .bool on]] w fun e w' => e = .returned (.int .i64 (suspendE m ten)) ∧ YmTo w V (suspendM m ten on) w' := by
  have HC := hide ((Chg.refl (fun _ => False) w).alloc (.cells #[.int .i64 4, .int .i64 ten, .int .i64 0, .int .i64 0, .int .i64 0, .int .i64 0, .int .i64 0, .int .i64 0, .int .i64 0, .int .i64 0, .int .i64 0, .bool on] 132))
  have HSUB := hide (ysuspend_any V m ten on _ (hm.chg0 HC.out) hok)
  clear hm hok
  go_enter Try.func76, Try.ntmps76
  go_wp2_with fail
  refine HSUB.out.mono ?_
  rintro e w1 ⟨rfl, hto⟩
  have HTO := hide (YmTo.start HC.out hto)
  clear hto HSUB
  go_wp2
  go_ret
  exact ⟨rfl, HTO.out⟩
set_option maxRecDepth 100000 in
set_option maxHeartbeats 2000000 in
theorem answer_tick (hm : YmAt w V m) (hok : MkOk m) (har : ArrOk m) (hg : m.ghost = -1) (hl : m.log.length < 300) :
    Calls Try.prog 76 #[.pointer (some ⟨V.q, 0, none⟩), .agg #[.int .i64 5, .int .i64 0, .int .i64 0, .int .i64 0, .int .i64 0, .int .i64 0, .int .i64 0, .int .i64 0, .int .i64 0, .int .i64 0, .int .i64 0, .bool false]] w fun e w' => ∃ z, e = .returned (.int .i64 z) ∧ YmTo w V (tickF m) w' := by
  have HC := hide ((Chg.refl (fun _ => False) w).alloc (.cells #[.int .i64 5, .int .i64 0, .int .i64 0, .int .i64 0, .int .i64 0, .int .i64 0, .int .i64 0, .int .i64 0, .int .i64 0, .int .i64 0, .int .i64 0, .bool false] 132))
  have HSUB := hide (ytick_any V (m.logs callTick) _ ((hm.chg0 HC.out).logs callTick) (hok.logs hl _) (har.logs _) hg)
  have HRES := hide (fun z names m' (h : YTickRes (m.logs callTick) z names m') => show m' = tickF m from (h.res (hok.logs hl _) hg hl).fn hok hl)
  clear hm hok har hg
  go_enter Try.func76, Try.ntmps76
  go_wp2_with fail
  refine HSUB.out.mono ?_
  rintro e w1 ⟨lv, z, names, m', rfl, hres, hm3, hc3, _, _, _⟩
  have e1 := HRES.out z names m' hres
  subst e1
  have HTO := hide (show YmTo w V (tickF m) w1 from YmTo.start HC.out ⟨V, rfl, hm3, hc3, fun _ h => .inl h⟩)
  clear hres hm3 hc3 HSUB HRES
  go_wp2
  go_ret
  exact ⟨z, rfl, HTO.out⟩
set_option maxRecDepth 100000 in
set_option maxHeartbeats 2000000 in
theorem answer_none (hm : YmAt w V m) :
    Calls Try.prog 76 #[.pointer (some ⟨V.q, 0, none⟩), .agg #[.int .i64 0, .int .i64 0, .int .i64 0, .int .i64 0, .int .i64 0, .int .i64 0, .int .i64 0, .int .i64 0, .int .i64 0, .int .i64 0, .int .i64 0, .bool false]] w fun e w' => e = .returned (.int .i64 0) ∧ YmTo w V m w' := by
  have HC := hide ((Chg.refl (fun _ => False) w).alloc (.cells #[.int .i64 0, .int .i64 0, .int .i64 0, .int .i64 0, .int .i64 0, .int .i64 0, .int .i64 0, .int .i64 0, .int .i64 0, .int .i64 0, .int .i64 0, .bool false] 132))
  have HM := hide hm
  clear hm
  go_enter Try.func76, Try.ntmps76
  go_wp2
  go_ret
  exact ⟨rfl, YmTo.same HM.out HC.out⟩

/-- in a replay -/
theorem answer_any (c : CallG) (hm : YmAt w V m) (hok : MkOk m) (har : ArrOk m) (hg : m.ghost = -1) (hl : m.log.length < 300) :
    Calls Try.prog 76 #[.pointer (some ⟨V.q, 0, none⟩), ycgV (ycallOf c)] w fun e w' => ∃ z, e = .returned (.int .i64 z) ∧ YmTo w V (againM m c) w' := by
  unfold againM
  rw [if_neg (by omega)]
  by_cases k1 : c.kind = 1
  · rw [if_pos k1, show ycallOf c = ⟨1, c.a, c.b, c.job, 0, 0, 0, false⟩ by simp [ycallOf, k1]]
    exact (answer_submit V m w c.a c.b c.job hm hok).mono (fun e w' ⟨h1, h2⟩ => ⟨_, h1, h2⟩)
  rw [if_neg k1]
  by_cases k2 : c.kind = 2
  · rw [if_pos k2, show ycallOf c = ⟨2, c.a, c.b, noJob, 0, 0, 0, false⟩ by simp [ycallOf, k2]]
    exact (answer_cancel V m w c.a c.b hm hok).mono (fun e w' ⟨h1, h2⟩ => ⟨_, h1, h2⟩)
  rw [if_neg k2]
  by_cases k3 : c.kind = 3
  · rw [if_pos k3, show ycallOf c = ⟨3, 0, 0, noJob, c.a, c.b, c.c, false⟩ by simp [ycallOf, k3]]
    exact (answer_cap V m w c.a c.b c.c hm hok).mono (fun e w' ⟨z, h1, _, h2⟩ => ⟨z, h1, h2⟩)
  rw [if_neg k3]
  by_cases k4 : c.kind = 4
  · rw [if_pos k4, show ycallOf c = ⟨4, c.a, 0, noJob, 0, 0, 0, c.on⟩ by simp [ycallOf, k4]]
    exact (answer_susp V m w c.a c.on hm hok).mono (fun e w' ⟨h1, h2⟩ => ⟨_, h1, h2⟩)
  rw [if_neg k4]
  by_cases k5 : c.kind = 5
  · rw [if_pos k5, show ycallOf c = ⟨5, 0, 0, noJob, 0, 0, 0, false⟩ by simp [ycallOf, k5]]
    exact answer_tick V m w hm hok har hg hl
  rw [if_neg k5, show ycallOf c = ⟨0, 0, 0, noJob, 0, 0, 0, false⟩ by simp [ycallOf, k1, k2, k3, k4, k5]]
  exact (answer_none V m w hm).mono (fun e w' ⟨h1, h2⟩ => ⟨_, h1, h2.logs c⟩)
end
end Go.Proofs.Ytminceigjejipaa

/-
  OPEN, in the program.
-/
namespace Go.Proofs.Ytminceigjejipaa
open Go.RowKit

theorem ckZ_ok {c : CfgG} (h : cfgOk c = true) : ckZ c.ticks c.cap c.res c.ten c.quo = 0 := by simp only [cfgOk] at h; simp [ckZ, h]
theorem ckZ_bad {c : CfgG} (h : cfgOk c = false) : ckZ c.ticks c.cap c.res c.ten c.quo = 1 := by simp only [cfgOk] at h; simp [ckZ, h]

set_option maxRecDepth 100000 in
set_option maxHeartbeats 2000000 in
theorem yOpen_bad (c : CfgG) (w : World) (h : cfgOk c = false) :
    Calls Try.prog 42 #[cfgV c] w fun e w' => e = .returned (.tuple #[.pointer none, .int .i64 1]) ∧ Chg (fun _ => False) w w' := by
  unfold cfgV
  have hz := ckZ_bad h
  clear h
  go_enter Try.func42, Try.ntmps42
  go_wp2_with (go_at_call 64; refine (check_any _ _ _ _ _ _).mono ?_; rintro e w1 ⟨rfl, hq⟩; rw [hz]; have HQ := hide (((Chg.refl _ _).alloc _).trans hq (fun _ _ h => h)); clear hq)
  go_ret2
  exact ⟨rfl, HQ.out⟩

/-- a fresh yard, as it lies -/
theorem yat_open {w w3 : World} {V : YV} {c : CfgG} {g nt : Nat} (hm : YmAt w3 V (openM c)) (hn : (nt : Int) = c.ten) (h8 : nt ≤ 8) (hp : w3.heap[g]? = some (.cells (madeCells #[.int .i64 0] nt) 3 (0, 0))) (hg : ¬ V.foot g) (hc : Chg (fun _ => False) w w3) (hft : ∀ k, V.foot k → w.heap.size ≤ k) (hgw : w.heap.size ≤ g) :
    ∃ F, YAt (w3.alloc (.cells #[.pointer (some ⟨V.q, 0, none⟩), .slice none 0 0, .slice none 0 0, .slice none 0 0, .slice (some ⟨g, 0, none⟩) nt nt] 111)) w3.heap.size F (openM c) ∧ ∀ k, F k → w.heap.size ≤ k := by
  have hgl : g < w3.heap.size := (Array.getElem?_eq_some_iff.1 hp).1
  have hc4 : Chg (fun _ => False) w3 (w3.alloc (.cells #[.pointer (some ⟨V.q, 0, none⟩), .slice none 0 0, .slice none 0 0, .slice none 0 0, .slice (some ⟨g, 0, none⟩) nt nt] 111)) := (Chg.refl _ _).alloc _
  have hp4 := (hc4.block g hgl (fun h => h)).trans hp
  have hpn : c.ten.toNat = nt := by omega
  refine ⟨yfoot w3.heap.size V ⟨.slice none 0 0, .slice none 0 0, .slice none 0 0, .slice (some ⟨g, 0, none⟩) nt nt⟩, ⟨V, _, fun _ => Iff.rfl, ⟨⟨heap_alloc_new w3 _, World.ownsRow_nil _ _ _ _, World.ownsRow_nil _ _ _ _, World.ownsRow_nil _ _ _ _, ?_, ?_⟩, hm.chg0 hc4, ?_⟩, ArrOk.open c, ChdOk.open c⟩, ?_⟩
  · show World.ownsRow _ 0 _ 1 _ (List.replicate c.ten.toNat (0 : Int)).length ((List.replicate c.ten.toNat (0 : Int)).map (Value.int .i64))
    rw [hpn, List.length_replicate, List.map_replicate]
    exact ⟨by simp, .inr ⟨g, nt, _, rfl, Nat.zero_le _, hp4, Nat.le_refl _, by unfold maxLen; omega, by rw [size_madeCells]; omega, by rw [made_list]; simp⟩⟩
  · intro k hk
    simp [Value.ownBlock] at hk
  · intro k hk hv
    rcases hk with rfl | hk | hk | hk | hk
    · have := hm.foot_lt _ hv
      omega
    · simp [Value.ownBlock] at hk
    · simp [Value.ownBlock] at hk
    · simp [Value.ownBlock] at hk
    · simp [Value.ownBlock] at hk
      subst hk
      exact hg hv
  · intro k hk
    rcases hk with hk | hk
    · rcases hk with rfl | hk | hk | hk | hk
      · exact hc.size
      · simp [Value.ownBlock] at hk
      · simp [Value.ownBlock] at hk
      · simp [Value.ownBlock] at hk
      · simp [Value.ownBlock] at hk
        omega
    · exact hft k hk

set_option maxRecDepth 100000 in
set_option maxHeartbeats 4000000 in
theorem yOpen_ok (c : CfgG) (w : World) (h : cfgOk c = true) :
    Calls Try.prog 42 #[cfgV c] w fun e w' => ∃ p F, e = .returned (.tuple #[.pointer (some ⟨p, 0, none⟩), .int .i64 0]) ∧ YAt w' p F (openM c) ∧ Chg (fun _ => False) w w' ∧ ∀ k, F k → w.heap.size ≤ k := by
  unfold cfgV
  have hz := ckZ_ok h
  have HC := hide h
  obtain ⟨_, _, _, ⟨a7, a8⟩, _⟩ := cfgOk_true h
  obtain ⟨nt, hnt⟩ := Int.eq_ofNat_of_zero_le (show 0 ≤ c.ten by omega)
  have h8 : nt ≤ 8 := by omega
  have HNT := hide hnt
  rw [hnt] at hz ⊢
  have hmk := run_make_row' (P := Try.prog) 27 3 (.int .i64 0) 8 Try.underlying27 infoInt' rfl .i64 .i64 nt (by omega) (by omega)
  clear h
  go_enter Try.func42, Try.ntmps42
  go_wp2_with fail
  obtain ⟨w1, hw1⟩ : ∃ w1, w1 = w.alloc (.cells #[.int .i64 c.ticks, .int .i64 c.cap, .int .i64 c.res, .int .i64 (nt : Int), .int .i64 c.quo] 38) := ⟨_, rfl⟩
  rw [← hw1]
  have hb1 : w1.heap[w.heap.size]? = some (.cells #[.int .i64 c.ticks, .int .i64 c.cap, .int .i64 c.res, .int .i64 (nt : Int), .int .i64 c.quo] 38 (0, 0)) := by rw [hw1]; exact heap_alloc_new w _
  have hc1 : Chg (fun _ => False) w w1 := by rw [hw1]; exact (Chg.refl _ _).alloc _
  have hs1 : w.heap.size < w1.heap.size := (Array.getElem?_eq_some_iff.1 hb1).1
  clear hw1
  refine (check_any _ _ _ _ _ _).mono ?_
  rintro e w2 ⟨rfl, hq⟩
  rw [hz]
  have hb2 : w2.heap[w.heap.size]? = some (.cells #[.int .i64 c.ticks, .int .i64 c.cap, .int .i64 c.res, .int .i64 (nt : Int), .int .i64 c.quo] 38 (0, 0)) := (hq.block _ hs1 (fun h => h)).trans hb1
  have hs2 : w.heap.size < w2.heap.size := Nat.lt_of_lt_of_le hs1 hq.size
  have q0 : w2.cell? ⟨w.heap.size, 0, none⟩ = some (.int .i64 c.ticks) := by unfold World.cell?; rw [hb2]; rfl
  have q1 : w2.cell? ⟨w.heap.size, 1, none⟩ = some (.int .i64 c.cap) := by unfold World.cell?; rw [hb2]; rfl
  have q2 : w2.cell? ⟨w.heap.size, 2, none⟩ = some (.int .i64 c.res) := by unfold World.cell?; rw [hb2]; rfl
  have q3 : w2.cell? ⟨w.heap.size, 3, none⟩ = some (.int .i64 (nt : Int)) := by unfold World.cell?; rw [hb2]; rfl
  have q4 : w2.cell? ⟨w.heap.size, 4, none⟩ = some (.int .i64 c.quo) := by unfold World.cell?; rw [hb2]; rfl
  have HC2 := hide (hc1.trans hq (fun _ _ h => h))
  have HNEW := hide (fun (w0 : World) => (by have := newMarket_any c w0 HC.out; rw [hnt] at this; exact this : Calls Try.prog 65 #[.agg #[.int .i64 c.ticks, .int .i64 c.cap, .int .i64 c.res, .int .i64 (nt : Int), .int .i64 c.quo]] w0 fun e w' => ∃ V, e = .returned (.pointer (some ⟨V.q, 0, none⟩)) ∧ YmAt w' V (openM c) ∧ Chg (fun _ => False) w0 w' ∧ ∀ k, V.foot k → w0.heap.size ≤ k))
  have n1 : w2.heap.size ≠ w.heap.size := by omega
  have n2 : w.heap.size ≠ w2.heap.size := by omega
  have hk1 : ∀ x f, (w2.alloc x).cell? ⟨w.heap.size, f, none⟩ = w2.cell? ⟨w.heap.size, f, none⟩ := fun x f => World.cell?_alloc_lt _ _ _ (by show w.heap.size < _; omega)
  clear hb1 hb2 hc1 hs1 hq hz
  go_wp2
  go_region_held3 (fun w' => w'.cell? ⟨w.heap.size, 0, none⟩ = some (.int .i64 c.ticks) ∧ w'.cell? ⟨w.heap.size, 1, none⟩ = some (.int .i64 c.cap) ∧ w'.cell? ⟨w.heap.size, 2, none⟩ = some (.int .i64 c.res) ∧ w'.cell? ⟨w.heap.size, 3, none⟩ = some (.int .i64 (nt : Int)) ∧ w'.cell? ⟨w.heap.size, 4, none⟩ = some (.int .i64 c.quo)) (go_keep)
    (first
      | (go_at_call 65; refine (HNEW.out (w2.alloc (.cells (madeCells #[.int .i64 0] nt) 3)).drew).mono ?_; rintro e w3 ⟨V, rfl, hm3, hq3, hf3⟩; have hk3 := hq3.keep; have x0 := hk3 ⟨w.heap.size, 0, none⟩ _ ((hk1 _ _).trans q0); have x1 := hk3 ⟨w.heap.size, 1, none⟩ _ ((hk1 _ _).trans q1); have x2 := hk3 ⟨w.heap.size, 2, none⟩ _ ((hk1 _ _).trans q2); have x3 := hk3 ⟨w.heap.size, 3, none⟩ _ ((hk1 _ _).trans q3); have x4 := hk3 ⟨w.heap.size, 4, none⟩ _ ((hk1 _ _).trans q4); have hs3 := hq3.size; have HM3 := hide hm3; have HQ3 := hide hq3; have HF3 := hide hf3; clear hm3 hq3 hf3 hk3)
      | (go_at_call 65; refine (HNEW.out w2.drew).mono ?_; rintro e w3 ⟨V, rfl, hm3, hq3, hf3⟩; have hk3 := hq3.keep; have x0 := hk3 ⟨w.heap.size, 0, none⟩ _ q0; have x1 := hk3 ⟨w.heap.size, 1, none⟩ _ q1; have x2 := hk3 ⟨w.heap.size, 2, none⟩ _ q2; have x3 := hk3 ⟨w.heap.size, 3, none⟩ _ q3; have x4 := hk3 ⟨w.heap.size, 4, none⟩ _ q4; have hs3 := hq3.size; have n3 : w3.heap.size ≠ w.heap.size := (by have := hq3.size; simp at this; omega); have HM3 := hide hm3; have HQ3 := hide hq3; have HF3 := hide hf3; clear hm3 hq3 hf3 hk3))
  · go_wp2
    go_ret2
    have hq : Chg (fun _ => False) w w3 := (HC2.out.drew).trans HQ3.out (fun _ _ h => h)
    obtain ⟨F, h1, h2⟩ := yat_open (w := w) (g := w3.heap.size) (nt := nt) (HM3.out.chg0 ((Chg.refl _ _).alloc (.cells (madeCells #[.int .i64 0] nt) 3))) HNT.out.symm h8 (heap_alloc_new w3 _) (fun h => by have := HM3.out.foot_lt _ h; omega) (hq.alloc _) (fun k hk => by have h1 := HF3.out k hk; have h2 := HC2.out.size; exact Nat.le_trans h2 h1) hq.size
    have hsz : (w3.alloc (.cells (madeCells #[.int .i64 0] nt) 3)).heap.size = w3.heap.size + 1 := by simp
    rw [hsz] at h1
    exact ⟨_, F, rfl, h1, (hq.alloc _).alloc _, h2⟩
  · go_wp2
    go_ret2
    have hq : Chg (fun _ => False) w w3 := ((HC2.out.alloc _).drew).trans HQ3.out (fun _ _ h => h)
    have hs4 : w2.heap.size < (w2.alloc (.cells (madeCells #[.int .i64 0] nt) 3)).drew.heap.size := by simp
    obtain ⟨F, h1, h2⟩ := yat_open (w := w) (g := w2.heap.size) (nt := nt) HM3.out HNT.out.symm h8 ((HQ3.out.block _ hs4 (fun h => h)).trans (heap_alloc_new w2 _)) (fun h => by have := HF3.out _ h; omega) hq (fun k hk => by have := HF3.out k hk; have := HC2.out.size; omega) HC2.out.size
    exact ⟨_, F, rfl, h1, hq.alloc _, h2⟩
end Go.Proofs.Ytminceigjejipaa

/-
  THE LANDED MARKET MEETS YardSpec.
-/
namespace Go.Proofs.Ytminceigjejipaa
open Go.RowKit

/-- a call has been logged and made: the entry of a bid that came of it is still to be kept -/
def YMid (w : World) (p : Nat) (V : YV) (L : LV) (m : MkG) (c : CallG) (m' : MkG) (w' : World) : Prop :=
  ∃ V' L', YmAt w' V' m' ∧ YbAt w' p V'.q L' (m.log ++ [c]) (m.bids.map (·.entry)) m.charges m.paid ∧ (∀ k, L'.foot p k → ¬ V'.foot k) ∧ Chg (yfoot p V L) w w' ∧ ∀ k, yfoot p V' L' k → yfoot p V L k ∨ w.heap.size ≤ k
theorem YMid.done {w w' : World} {p : Nat} {V : YV} {L : LV} {m m' : MkG} {c : CallG} (h : YMid w p V L m c m' w') (h1 : m'.log = m.log ++ [c]) (h2 : m'.bids.map (·.entry) = m.bids.map (·.entry)) (h3 : m'.charges = m.charges) (h4 : m'.paid = m.paid) : YvTo w p V L m' w' := by
  obtain ⟨V', L', a1, a2, a3, a4, a5⟩ := h
  exact ⟨V', L', ⟨by rw [h1, h2, h3, h4]; exact a2, a1, a3⟩, a4, a5⟩
theorem YMid.start {w w1 w' : World} {p : Nat} {V : YV} {L : LV} {m m' : MkG} {c : CallG} (hc : Chg (fun _ => False) w w1) (h : YMid w1 p V L m c m' w') : YMid w p V L m c m' w' := by
  obtain ⟨V', L', a1, a2, a3, a4, a5⟩ := h
  refine ⟨V', L', a1, a2, a3, (hc.mono (fun _ _ h => h.elim)).trans a4 (fun _ _ h => h), fun k hk => ?_⟩
  rcases a5 k hk with h | h
  · exact .inl h
  · exact .inr (Nat.le_trans hc.size h)
theorem YMid.of {w w1 w2 : World} {p : Nat} {V : YV} {L : LV} {m m' : MkG} {c : CallG} {V1 : YV} {L1 : LV} (a2 : Chg (yfoot p V L) w w1) (a3 : ∀ k, yfoot p V1 L1 k → yfoot p V L k ∨ w.heap.size ≤ k) (a1 : YAtV w1 p V1 L1 (m.logs c)) (h2 : YmTo w1 V1 m' w2) : YMid w p V L m c m' w2 := by
  obtain ⟨V', b0, b1, b2, b3, b4, b5⟩ := a1.market h2
  refine ⟨V', L1, b1, b2, b3, a2.trans b4 (fun k hk hf => ?_), fun k hk => ?_⟩
  · rcases a3 k hf with h | h
    · exact h
    · omega
  · rcases b5 k hk with h | h
    · exact a3 k h
    · exact .inr (Nat.le_trans a2.size h)

set_option maxRecDepth 100000 in
set_option maxHeartbeats 2000000 in
theorem logAnd_full (p : Nat) (V : YV) (L : LV) (m : MkG) (x : YCG) (w : World) (hy : YAtV w p V L m) (hl : m.log.length = 300) :
    Calls Try.prog 67 #[.pointer (some ⟨p, 0, none⟩), .agg #[.int .i64 x.kind, .int .i64 x.ten, .int .i64 x.ref, .int .i64 x.job.arr, .int .i64 x.job.dl, .int .i64 x.job.len, .int .i64 x.job.units, .int .i64 x.job.val, .int .i64 x.fr, .int .i64 x.to, .int .i64 x.un, .bool x.on]] w fun e w' => e = .returned (.int .i64 2) ∧ Chg (fun _ => False) w w' := by
  have HC := hide ((Chg.refl (fun _ => False) w).alloc (.cells #[.int .i64 x.kind, .int .i64 x.ten, .int .i64 x.ref, .int .i64 x.job.arr, .int .i64 x.job.dl, .int .i64 x.job.len, .int .i64 x.job.units, .int .i64 x.job.val, .int .i64 x.fr, .int .i64 x.to, .int .i64 x.un, .bool x.on] 132))
  have HSUB := hide (log_full p V L m x _ (hy.chg0 HC.out) hl)
  clear hy hl
  go_enter Try.func67, Try.ntmps67
  go_wp2_with fail
  refine HSUB.out.mono ?_
  rintro e w1 ⟨rfl, hq⟩
  have HQ := hide (HC.out.trans hq (fun _ _ h => h))
  clear hq HSUB
  go_wp2
  go_ret
  exact ⟨rfl, HQ.out⟩

set_option maxRecDepth 100000 in
set_option maxHeartbeats 4000000 in
theorem logAnd_ok (p : Nat) (V : YV) (L : LV) (m : MkG) (x : YCG) (c : CallG) (hx : ycallOf c = x) (w : World) (hy : YAtV w p V L m) (hl : m.log.length < 300) (Q : Int → MkG → Prop)
    (HA : ∀ (w1 : World) (V1 : YV), YmAt w1 V1 m → Calls Try.prog 76 #[.pointer (some ⟨V1.q, 0, none⟩), .agg #[.int .i64 x.kind, .int .i64 x.ten, .int .i64 x.ref, .int .i64 x.job.arr, .int .i64 x.job.dl, .int .i64 x.job.len, .int .i64 x.job.units, .int .i64 x.job.val, .int .i64 x.fr, .int .i64 x.to, .int .i64 x.un, .bool x.on]] w1 fun e w' => ∃ z m', e = .returned (.int .i64 z) ∧ Q z m' ∧ YmTo w1 V1 m' w') :
    Calls Try.prog 67 #[.pointer (some ⟨p, 0, none⟩), .agg #[.int .i64 x.kind, .int .i64 x.ten, .int .i64 x.ref, .int .i64 x.job.arr, .int .i64 x.job.dl, .int .i64 x.job.len, .int .i64 x.job.units, .int .i64 x.job.val, .int .i64 x.fr, .int .i64 x.to, .int .i64 x.un, .bool x.on]] w fun e w' => ∃ z m', e = .returned (.int .i64 z) ∧ Q z m' ∧ YMid w p V L m c m' w' := by
  have HHA := hide HA
  have HLT := hide hy.foot_lt
  have hc1 := (Chg.refl (fun _ => False) w).alloc (.cells #[.int .i64 x.kind, .int .i64 x.ten, .int .i64 x.ref, .int .i64 x.job.arr, .int .i64 x.job.dl, .int .i64 x.job.len, .int .i64 x.job.units, .int .i64 x.job.val, .int .i64 x.fr, .int .i64 x.to, .int .i64 x.un, .bool x.on] 132)
  have HC := hide hc1
  have HSUB := hide (log_ok p V L m x c hx _ (hy.chg0 hc1) hl)
  clear hy hl HA hx
  go_enter Try.func67, Try.ntmps67
  go_wp2_with fail
  obtain ⟨w1, hw1⟩ : ∃ w1, w1 = w.alloc (.cells #[.int .i64 x.kind, .int .i64 x.ten, .int .i64 x.ref, .int .i64 x.job.arr, .int .i64 x.job.dl, .int .i64 x.job.len, .int .i64 x.job.units, .int .i64 x.job.val, .int .i64 x.fr, .int .i64 x.to, .int .i64 x.un, .bool x.on] 132) := ⟨_, rfl⟩
  rw [← hw1] at HSUB HC ⊢
  have hb1 : w1.heap[w.heap.size]? = some (.cells #[.int .i64 x.kind, .int .i64 x.ten, .int .i64 x.ref, .int .i64 x.job.arr, .int .i64 x.job.dl, .int .i64 x.job.len, .int .i64 x.job.units, .int .i64 x.job.val, .int .i64 x.fr, .int .i64 x.to, .int .i64 x.un, .bool x.on] 132 (0, 0)) := by rw [hw1]; exact heap_alloc_new w _
  have hs1 : w.heap.size < w1.heap.size := (Array.getElem?_eq_some_iff.1 hb1).1
  clear hw1 hc1
  refine HSUB.out.mono ?_
  rintro e w2 ⟨rfl, V1, L1, a1, a2, a3⟩
  have hno : ¬ yfoot p V L w.heap.size := fun h => by have := HLT.out _ h; omega
  have hb2 : w2.heap[w.heap.size]? = some (.cells #[.int .i64 x.kind, .int .i64 x.ten, .int .i64 x.ref, .int .i64 x.job.arr, .int .i64 x.job.dl, .int .i64 x.job.len, .int .i64 x.job.units, .int .i64 x.job.val, .int .i64 x.fr, .int .i64 x.to, .int .i64 x.un, .bool x.on] 132 (0, 0)) := (a2.block _ hs1 hno).trans hb1
  have b0 : w2.cell? ⟨w.heap.size, 0, none⟩ = some (.int .i64 x.kind) := by unfold World.cell?; rw [hb2]; rfl
  have b1 : w2.cell? ⟨w.heap.size, 1, none⟩ = some (.int .i64 x.ten) := by unfold World.cell?; rw [hb2]; rfl
  have b2 : w2.cell? ⟨w.heap.size, 2, none⟩ = some (.int .i64 x.ref) := by unfold World.cell?; rw [hb2]; rfl
  have b3 : w2.cell? ⟨w.heap.size, 3, none⟩ = some (.int .i64 x.job.arr) := by unfold World.cell?; rw [hb2]; rfl
  have b4 : w2.cell? ⟨w.heap.size, 4, none⟩ = some (.int .i64 x.job.dl) := by unfold World.cell?; rw [hb2]; rfl
  have b5 : w2.cell? ⟨w.heap.size, 5, none⟩ = some (.int .i64 x.job.len) := by unfold World.cell?; rw [hb2]; rfl
  have b6 : w2.cell? ⟨w.heap.size, 6, none⟩ = some (.int .i64 x.job.units) := by unfold World.cell?; rw [hb2]; rfl
  have b7 : w2.cell? ⟨w.heap.size, 7, none⟩ = some (.int .i64 x.job.val) := by unfold World.cell?; rw [hb2]; rfl
  have b8 : w2.cell? ⟨w.heap.size, 8, none⟩ = some (.int .i64 x.fr) := by unfold World.cell?; rw [hb2]; rfl
  have b9 : w2.cell? ⟨w.heap.size, 9, none⟩ = some (.int .i64 x.to) := by unfold World.cell?; rw [hb2]; rfl
  have b10 : w2.cell? ⟨w.heap.size, 10, none⟩ = some (.int .i64 x.un) := by unfold World.cell?; rw [hb2]; rfl
  have b11 : w2.cell? ⟨w.heap.size, 11, none⟩ = some (.bool x.on) := by unfold World.cell?; rw [hb2]; rfl
  have cq : w2.cell? ⟨p, 0, none⟩ = some (.pointer (some ⟨V1.q, 0, none⟩)) := a1.cq
  have HN := hide (show ¬ V1.foot p ∧ ¬ V1.foot w.heap.size from ⟨a1.out p (.inl rfl), fun h => by
    rcases a3 _ (.inr h) with h' | h'
    · exact hno h'
    · omega⟩)
  have hp2 : p < w2.heap.size := a1.lt
  have hs2 : w.heap.size < w2.heap.size := Nat.lt_of_lt_of_le hs1 a2.size
  have HA2 := hide (fun (w0 : World) (hc : Chg (fun _ => False) w2 w0) => HHA.out w0 V1 ((show YmAt w2 V1 m from ⟨a1.mkt.box, a1.mkt.bids, a1.mkt.susp, a1.mkt.units, a1.mkt.cal, a1.mkt.ne⟩).chg0 hc))
  have HFIN := hide (fun (m' : MkG) (w' : World) (h : YmTo w2 V1 m' w') => show YMid w p V L m c m' w' from YMid.start HC.out (YMid.of a2 a3 a1 h))
  clear hb1 hb2 hs1 hno a1 a2 a3 HSUB HHA HC
  go_wp2
  go_region_held3 (fun w' => w'.cell? ⟨p, 0, none⟩ = some (.pointer (some ⟨V1.q, 0, none⟩)) ∧ w'.cell? ⟨w.heap.size, 0, none⟩ = some (.int .i64 x.kind) ∧ w'.cell? ⟨w.heap.size, 1, none⟩ = some (.int .i64 x.ten) ∧ w'.cell? ⟨w.heap.size, 2, none⟩ = some (.int .i64 x.ref) ∧ w'.cell? ⟨w.heap.size, 3, none⟩ = some (.int .i64 x.job.arr) ∧ w'.cell? ⟨w.heap.size, 4, none⟩ = some (.int .i64 x.job.dl) ∧ w'.cell? ⟨w.heap.size, 5, none⟩ = some (.int .i64 x.job.len) ∧ w'.cell? ⟨w.heap.size, 6, none⟩ = some (.int .i64 x.job.units) ∧ w'.cell? ⟨w.heap.size, 7, none⟩ = some (.int .i64 x.job.val) ∧ w'.cell? ⟨w.heap.size, 8, none⟩ = some (.int .i64 x.fr) ∧ w'.cell? ⟨w.heap.size, 9, none⟩ = some (.int .i64 x.to) ∧ w'.cell? ⟨w.heap.size, 10, none⟩ = some (.int .i64 x.un) ∧ w'.cell? ⟨w.heap.size, 11, none⟩ = some (.bool x.on)) (go_keep)
    (first | (go_at_call 76; refine (HA2.out w2.drew ((Chg.refl _ _).drew)).mono ?_; rintro e w3 ⟨z, m', rfl, hq, hto⟩; have hqc := hto.choose_spec.2.2.1; have y0 := hqc.cell (p := ⟨p, 0, none⟩) hp2 HN.out.1; have x0 := hqc.cell (p := ⟨w.heap.size, 0, none⟩) hs2 HN.out.2; have x1 := hqc.cell (p := ⟨w.heap.size, 1, none⟩) hs2 HN.out.2; have x2 := hqc.cell (p := ⟨w.heap.size, 2, none⟩) hs2 HN.out.2; have x3 := hqc.cell (p := ⟨w.heap.size, 3, none⟩) hs2 HN.out.2; have x4 := hqc.cell (p := ⟨w.heap.size, 4, none⟩) hs2 HN.out.2; have x5 := hqc.cell (p := ⟨w.heap.size, 5, none⟩) hs2 HN.out.2; have x6 := hqc.cell (p := ⟨w.heap.size, 6, none⟩) hs2 HN.out.2; have x7 := hqc.cell (p := ⟨w.heap.size, 7, none⟩) hs2 HN.out.2; have x8 := hqc.cell (p := ⟨w.heap.size, 8, none⟩) hs2 HN.out.2; have x9 := hqc.cell (p := ⟨w.heap.size, 9, none⟩) hs2 HN.out.2; have x10 := hqc.cell (p := ⟨w.heap.size, 10, none⟩) hs2 HN.out.2; have x11 := hqc.cell (p := ⟨w.heap.size, 11, none⟩) hs2 HN.out.2; have HTO := hide hto; have HQ := hide hq; clear hqc hto hq))
  all_goals
    clear y0 x0 x1 x2 x3 x4 x5 x6 x7 x8 x9 x10 x11 cq b0 b1 b2 b3 b4 b5 b6 b7 b8 b9 b10 b11
    go_wp2
    go_ret
    exact ⟨z, m', rfl, HQ.out, HFIN.out _ _ (YmTo.start ((Chg.refl _ _).drew) HTO.out)⟩

theorem submitM_rest (m : MkG) (ten ref : Int) (j : JobG) : (submitM m ten ref j).log = m.log ++ [callSubmit ten ref j] ∧ (submitM m ten ref j).charges = m.charges ∧ (submitM m ten ref j).paid = m.paid ∧ (submitM m ten ref j).bids = if submitE m ten ref j = 0 then m.bids ++ [newBid m ten ref j] else m.bids := by
  unfold submitM
  simp only
  split <;> exact ⟨rfl, rfl, rfl, rfl⟩
theorem ents_key {l l' : List BidG} (h : ∀ k : Nat, (l'[k]?).map keyB = (l[k]?).map keyB) : l'.map (·.entry) = l.map (·.entry) := by
  have h1 := key_list h
  have h2 := congrArg (List.map (fun x : Int × Int × JobG × Int × Int × Bool => x.2.2.2.2.1)) h1
  rw [List.map_map, List.map_map] at h2
  exact h2
theorem cancelM_rest (m : MkG) (ten ref : Int) : (cancelM m ten ref).log = m.log ++ [callCancel ten ref] ∧ (cancelM m ten ref).charges = m.charges ∧ (cancelM m ten ref).paid = m.paid := by
  unfold cancelM
  simp only
  split <;> exact ⟨rfl, rfl, rfl⟩
theorem suspendM_rest (m : MkG) (ten : Int) (on : Bool) : (suspendM m ten on).log = m.log ++ [callSuspend ten on] ∧ (suspendM m ten on).charges = m.charges ∧ (suspendM m ten on).paid = m.paid ∧ (suspendM m ten on).bids = m.bids := by
  unfold suspendM
  simp only
  split <;> exact ⟨rfl, rfl, rfl, rfl⟩
theorem CapRes.rest {m m' : MkG} {f t u z : Int} (h : CapRes m f t u z m') : m'.log = m.log ++ [callCapacity f t u] ∧ m'.charges = m.charges ∧ m'.paid = m.paid ∧ m'.bids = m.bids := by
  rcases h with ⟨_, _, rfl⟩ | ⟨_, _, _, rfl⟩ | ⟨_, _, _, rfl⟩ <;> exact ⟨rfl, rfl, rfl, rfl⟩

theorem subs_arm {w w1 w2 : World} {p q : Nat} {L : LV} {lg : List CallG} {es : List Int} {ch : List InvG} {pd : List Int} {x : Int} {ao : Option Addr} {cap n g cap' H : Nat} (h : YbAt w p q L lg es ch pd) (hv : L.nv = .slice ao es.length cap) (hn : n = es.length) (hc1 : Chg (fun _ => False) w w1)
    (hown : w2.ownsRow 0 3 1 (.slice (some ⟨g, 0, none⟩) (n + 1) cap') (n + 1) (es.map (Value.int .i64) ++ [.int .i64 x])) (hgrow : w1.grownBy w2 (Value.ownBlock (.slice ao n cap))) (hat : Value.ownBlock (.slice ao n cap) = some g ∨ g = H) (hH : w.heap.size ≤ H) :
    w2.cell? ⟨p, 2, none⟩ = some (.slice ao n cap) ∧ w2.frozen? ⟨p, 2, none⟩ = false ∧ Hid (YbTo w p q L lg (es ++ [x]) ch pd (w2.setCell ⟨p, 2, none⟩ (.slice (some ⟨g, 0, none⟩) (n + 1) cap'))) := by
  subst hn
  rw [← hv] at hgrow hat ⊢
  exact h.subMore hc1 hown hgrow (by rcases hat with h | h; exact .inl h; exact .inr (by omega))

/-- the entry of a new bid is kept -/
theorem YMid.sub {w w1 w2 : World} {p : Nat} {V V1 : YV} {L L1 : LV} {m : MkG} {ten ref : Int} {j : JobG} (he : submitE m ten ref j = 0) (a1 : YmAt w1 V1 (submitM m ten ref j)) (a3 : ∀ k, L1.foot p k → ¬ V1.foot k) (a4 : Chg (yfoot p V L) w w1) (a5 : ∀ k, yfoot p V1 L1 k → yfoot p V L k ∨ w.heap.size ≤ k)
    (ht : YbTo w1 p V1.q L1 (m.log ++ [callSubmit ten ref j]) (m.bids.map (·.entry) ++ [(m.log.length : Int)]) m.charges m.paid w2) : YvTo w p V L (submitM m ten ref j) w2 := by
  obtain ⟨r1, r2, r3, r4⟩ := submitM_rest m ten ref j
  rw [if_pos he] at r4
  obtain ⟨L2, b1, b2, b3⟩ := ht
  refine ⟨V1, L2, ⟨?_, a1.chg b2 (fun k hk e => a3 k e hk), fun k hk hv => ?_⟩, a4.trans b2 (fun k hk hf => ?_), fun k hk => ?_⟩
  · rw [r1, r2, r3, r4, List.map_append]
    exact b1
  · rcases b3 k hk with e | e
    · exact a3 k e hv
    · have := a1.foot_lt k hv
      omega
  · rcases a5 k (.inl hf) with h | h
    · exact h
    · omega
  · rcases hk with hk | hk
    · rcases b3 k hk with e | e
      · exact a5 k (.inl e)
      · exact .inr (Nat.le_trans a4.size e)
    · exact a5 k (.inr hk)

set_option maxRecDepth 100000 in
set_option maxHeartbeats 4000000 in
theorem ySubmit (w : World) (p : Nat) (F : Nat → Prop) (m : MkG) (ten ref : Int) (j : JobG) (hy : YAt w p F m) (hok : MkOk m) :
    Calls Try.prog 45 #[.pointer (some ⟨p, 0, none⟩), .int .i64 ten, .int .i64 ref, jobV j] w fun e w' => ∃ z m', e = .returned (.int .i64 z) ∧ SubmitRes m ten ref j z m' ∧ YTo YAt w p F m' w' := by
  unfold jobV
  obtain ⟨V, L, hF, hv, har, hch⟩ := hy
  have HF := hide hF
  have HV := hide hv
  have HOK := hide hok
  have HAR := hide har
  have HCH := hide hch
  clear hF hv hok har hch
  by_cases hl : m.log.length = 300
  · have HL := hide hl
    clear hl
    go_enter Try.func45, Try.ntmps45
    go_wp2_with fail
    refine (logAnd_full p V L m (ycallOf (callSubmit ten ref j)) _ (HV.out.chg0 ((Chg.refl _ _).alloc _)) HL.out).mono ?_
    rintro e w' ⟨rfl, hq⟩
    have HQ := hide (((Chg.refl _ _).alloc _).trans hq (fun _ _ h => h))
    clear hq
    go_wp2
    go_ret
    exact ⟨2, m, rfl, .inl ⟨HL.out, rfl, rfl⟩, (YvTo.same HV.out HQ.out).yto HF.out HAR.out HCH.out⟩
  · have hl' : m.log.length < 300 := by have := HOK.out.nl; omega
    have HL := hide hl'
    clear hl hl'
    go_enter Try.func45, Try.ntmps45
    go_wp2_with fail
    refine (logAnd_ok p V L m (ycallOf (callSubmit ten ref j)) (callSubmit ten ref j) rfl _ (HV.out.chg0 ((Chg.refl _ _).alloc _)) HL.out (fun z m' => z = submitE m ten ref j ∧ m' = submitM m ten ref j) (fun w1 V1 h1 => (answer_submit V1 m w1 ten ref j h1 HOK.out).mono (fun e w' ⟨q1, q2⟩ => ⟨_, _, q1, ⟨rfl, rfl⟩, q2⟩))).mono ?_
    rintro e w1 ⟨z, m', rfl, ⟨hz, hm'⟩, hmid⟩
    subst hz hm'
    have hmid := YMid.start ((Chg.refl _ _).alloc _) hmid
    have HFIN := hide (fun (w' : World) (h : YvTo w p V L (submitM m ten ref j) w') => show YTo YAt w p F (submitM m ten ref j) w' from h.yto HF.out (HAR.out.submit _ _ _) (HCH.out.submit _ _ _))
    obtain ⟨z, hz⟩ : ∃ z, z = submitE m ten ref j := ⟨_, rfl⟩
    rw [← hz]
    by_cases he : z = 0
    · have HE := hide (show submitE m ten ref j = 0 by rw [← hz]; exact he)
      have HZ := hide hz
      subst he
      obtain ⟨V1, L1, a1, a2, a3, a4, a5⟩ := hmid
      have HYB := hide a2
      have HSB := hide (fun (w' : World) (h : YbTo w1 p V1.q L1 (m.log ++ [callSubmit ten ref j]) (m.bids.map (·.entry) ++ [(m.log.length : Int)]) m.charges m.paid w') => show YTo YAt w p F (submitM m ten ref j) w' from HFIN.out w' (YMid.sub HE.out a1 a3 a4 a5 h))
      obtain ⟨ca, cc, hcv, _⟩ := a2.calls_form
      obtain ⟨na, nc, hnv, _⟩ := a2.subs_form
      obtain ⟨n, hn⟩ : ∃ n, n = (m.bids.map (·.entry)).length := ⟨_, rfl⟩
      obtain ⟨n1, hn1⟩ : ∃ n1, n1 = m.log.length := ⟨_, rfl⟩
      have c1 : w1.cell? ⟨p, 1, none⟩ = some (.slice ca (n1 + 1) cc) := by
        have : w1.cell? ⟨p, 1, none⟩ = some L1.cv := a2.cell 1
        rw [this, hcv, List.length_append, hn1]
        rfl
      have c2 : w1.cell? ⟨p, 2, none⟩ = some (.slice na n nc) := by rw [hn, ← hnv]; exact a2.cell 2
      have HOW : Hid (w1.ownsRow 0 3 1 (.slice na n nc) n ((m.bids.map (·.entry)).map (Value.int .i64))) := by rw [hn, ← hnv]; exact a2.subs
      have HNV := hide hnv
      have HN := hide hn
      have hpl : p < w1.heap.size := a2.lt
      have hnb : n ≤ 300 := by rw [hn, List.length_map]; exact HOK.out.bl
      have hn3 : n1 < 300 := by rw [hn1]; exact HL.out
      rw [← hn1] at HSB
      have c1' : ∀ o, (w1.alloc o).cell? ⟨p, 1, none⟩ = some (.slice ca (n1 + 1) cc) := fun o => by rw [World.cell?_alloc_lt _ _ _ (by exact hpl)]; exact c1
      have c2' : ∀ o, (w1.alloc o).cell? ⟨p, 2, none⟩ = some (.slice na n nc) := fun o => by rw [World.cell?_alloc_lt _ _ _ (by exact hpl)]; exact c2
      obtain ⟨i0', hi, hz0', hz1, hz2⟩ := info_parts infoInt'
      have hww : IntKind.i64.wrap (n1 : Int) = n1 := by rw [IntKind.wrap_i64]; omega
      clear hmid a1 a2 a3 a4 a5 hcv hnv hn hn1 hz
      go_wp2
      go_region_law (refine step_append_lies _ rfl (.tmp 23) (.tmp 30) 27 rfl 0 3 i0' (.int .i64 0) 1 8 Try.underlying27 hi hz0' hz1 hz2 rfl (by decide) (.slice na n nc) n ((m.bids.map (·.entry)).map (Value.int .i64)) (by simp [Act.eval]) (by exact HOW.out.alloc _) ⟨w1.heap.size, 0, none⟩ 1 1 [.int .i64 (n1 : Int)] (by simp [Act.eval]) rfl (by exact World.news_of_block (heap_alloc_new w1 _)) (by simp [Value.oneCell']) (by decide) (by unfold maxLen; omega) (by omega) (Nat.zero_le _) _ rfl ?_; intro g cap' w2 hown hgrow hat hlt; obtain ⟨s1, s2, s3⟩ := subs_arm HYB.out HNV.out HN.out (by first | exact ((Chg.refl _ _).alloc _).drew | exact ((Chg.refl _ _).drew).alloc _ | exact (Chg.refl _ _).alloc _) hown hgrow hat (by simp); clear hown hgrow hat hlt)
      all_goals
        go_wp2
        go_ret
        first | exact ⟨_, _, ret_int HZ.out, .inr ⟨HL.out, rfl, rfl⟩, HSB.out _ s3.out⟩ | exact ⟨_, _, ret_int HZ.out, .inr ⟨HL.out, rfl, rfl⟩, HSB.out _ (s3.out.chg0 ((Chg.refl _ _).drew))⟩
    · have HTO := hide (show YTo YAt w p F (submitM m ten ref j) w1 from HFIN.out _ (hmid.done (submitM_rest m ten ref j).1 (by rw [(submitM_rest m ten ref j).2.2.2, if_neg (by rw [← hz]; exact he)]) (submitM_rest m ten ref j).2.1 (submitM_rest m ten ref j).2.2.1))
      have d0 : (z == 0) = false := by simpa using he
      have HZ := hide hz
      clear hmid HFIN hz
      go_wp2
      go_ret
      exact ⟨_, _, ret_int HZ.out, .inr ⟨HL.out, rfl, rfl⟩, HTO.out⟩

set_option maxRecDepth 100000 in
set_option maxHeartbeats 2000000 in
theorem yCancel (w : World) (p : Nat) (F : Nat → Prop) (m : MkG) (ten ref : Int) (hy : YAt w p F m) (hok : MkOk m) :
    Calls Try.prog 46 #[.pointer (some ⟨p, 0, none⟩), .int .i64 ten, .int .i64 ref] w fun e w' => ∃ z m', e = .returned (.int .i64 z) ∧ CancelRes m ten ref z m' ∧ YTo YAt w p F m' w' := by
  obtain ⟨V, L, hF, hv, har, hch⟩ := hy
  have HF := hide hF
  have HV := hide hv
  have HOK := hide hok
  have HAR := hide har
  have HCH := hide hch
  clear hF hv hok har hch
  by_cases hl : m.log.length = 300
  · have HL := hide hl
    clear hl
    go_enter Try.func46, Try.ntmps46
    go_wp2_with fail
    refine (logAnd_full p V L m (ycallOf (callCancel ten ref)) _ HV.out HL.out).mono ?_
    rintro e w' ⟨rfl, hq⟩
    have HQ := hide hq
    clear hq
    go_wp2
    go_ret
    exact ⟨2, m, rfl, .inl ⟨HL.out, rfl, rfl⟩, (YvTo.same HV.out HQ.out).yto HF.out HAR.out HCH.out⟩
  · have hl' : m.log.length < 300 := by have := HOK.out.nl; omega
    have HL := hide hl'
    clear hl hl'
    go_enter Try.func46, Try.ntmps46
    go_wp2_with fail
    refine (logAnd_ok p V L m (ycallOf (callCancel ten ref)) (callCancel ten ref) rfl _ HV.out HL.out (fun z m' => z = cancelE m ten ref ∧ m' = cancelM m ten ref) (fun w1 V1 h1 => (answer_cancel V1 m w1 ten ref h1 HOK.out).mono (fun e w' ⟨q1, q2⟩ => ⟨_, _, q1, ⟨rfl, rfl⟩, q2⟩))).mono ?_
    rintro e w1 ⟨z, m', rfl, hq, hmid⟩
    have HR := hide (show CancelRes m ten ref z m' from .inr ⟨HL.out, hq.1, hq.2⟩)
    have HTO := hide (show YTo YAt w p F m' w1 from by obtain ⟨_, rfl⟩ := hq; exact (hmid.done (cancelM_rest m ten ref).1 (ents_key (key_cancel m ten ref)) (cancelM_rest m ten ref).2.1 (cancelM_rest m ten ref).2.2).yto HF.out (HAR.out.cancel _ _) (HCH.out.cancel _ _))
    clear hq hmid
    go_wp2
    go_ret
    exact ⟨z, m', rfl, HR.out, HTO.out⟩

set_option maxRecDepth 100000 in
set_option maxHeartbeats 2000000 in
theorem ySuspend (w : World) (p : Nat) (F : Nat → Prop) (m : MkG) (ten : Int) (on : Bool) (hy : YAt w p F m) (hok : MkOk m) :
    Calls Try.prog 47 #[.pointer (some ⟨p, 0, none⟩), .int .i64 ten, .bool on] w fun e w' => ∃ z m', e = .returned (.int .i64 z) ∧ SuspendRes m ten on z m' ∧ YTo YAt w p F m' w' := by
  obtain ⟨V, L, hF, hv, har, hch⟩ := hy
  have HF := hide hF
  have HV := hide hv
  have HOK := hide hok
  have HAR := hide har
  have HCH := hide hch
  clear hF hv hok har hch
  by_cases hl : m.log.length = 300
  · have HL := hide hl
    clear hl
    go_enter Try.func47, Try.ntmps47
    go_wp2_with fail
    refine (logAnd_full p V L m (ycallOf (callSuspend ten on)) _ HV.out HL.out).mono ?_
    rintro e w' ⟨rfl, hq⟩
    have HQ := hide hq
    clear hq
    go_wp2
    go_ret
    exact ⟨2, m, rfl, .inl ⟨HL.out, rfl, rfl⟩, (YvTo.same HV.out HQ.out).yto HF.out HAR.out HCH.out⟩
  · have hl' : m.log.length < 300 := by have := HOK.out.nl; omega
    have HL := hide hl'
    clear hl hl'
    go_enter Try.func47, Try.ntmps47
    go_wp2_with fail
    refine (logAnd_ok p V L m (ycallOf (callSuspend ten on)) (callSuspend ten on) rfl _ HV.out HL.out (fun z m' => z = suspendE m ten ∧ m' = suspendM m ten on) (fun w1 V1 h1 => (answer_susp V1 m w1 ten on h1 HOK.out).mono (fun e w' ⟨q1, q2⟩ => ⟨_, _, q1, ⟨rfl, rfl⟩, q2⟩))).mono ?_
    rintro e w1 ⟨z, m', rfl, hq, hmid⟩
    have HR := hide (show SuspendRes m ten on z m' from .inr ⟨HL.out, hq.1, hq.2⟩)
    have HTO := hide (show YTo YAt w p F m' w1 from by obtain ⟨_, rfl⟩ := hq; exact (hmid.done (suspendM_rest m ten on).1 (by rw [(suspendM_rest m ten on).2.2.2]) (suspendM_rest m ten on).2.1 (suspendM_rest m ten on).2.2.1).yto HF.out (HAR.out.suspend _ _) (HCH.out.suspend _ _))
    clear hq hmid
    go_wp2
    go_ret
    exact ⟨z, m', rfl, HR.out, HTO.out⟩

set_option maxRecDepth 100000 in
set_option maxHeartbeats 2000000 in
theorem yCapacity (w : World) (p : Nat) (F : Nat → Prop) (m : MkG) (f t u : Int) (hy : YAt w p F m) (hok : MkOk m) :
    Calls Try.prog 48 #[.pointer (some ⟨p, 0, none⟩), .int .i64 f, .int .i64 t, .int .i64 u] w fun e w' => ∃ z m', e = .returned (.int .i64 z) ∧ CapacityRes m f t u z m' ∧ YTo YAt w p F m' w' := by
  obtain ⟨V, L, hF, hv, har, hch⟩ := hy
  have HF := hide hF
  have HV := hide hv
  have HOK := hide hok
  have HAR := hide har
  have HCH := hide hch
  clear hF hv hok har hch
  by_cases hl : m.log.length = 300
  · have HL := hide hl
    clear hl
    go_enter Try.func48, Try.ntmps48
    go_wp2_with fail
    refine (logAnd_full p V L m (ycallOf (callCapacity f t u)) _ HV.out HL.out).mono ?_
    rintro e w' ⟨rfl, hq⟩
    have HQ := hide hq
    clear hq
    go_wp2
    go_ret
    exact ⟨2, m, rfl, .inl ⟨HL.out, rfl, rfl⟩, (YvTo.same HV.out HQ.out).yto HF.out HAR.out HCH.out⟩
  · have hl' : m.log.length < 300 := by have := HOK.out.nl; omega
    have HL := hide hl'
    clear hl hl'
    go_enter Try.func48, Try.ntmps48
    go_wp2_with fail
    refine (logAnd_ok p V L m (ycallOf (callCapacity f t u)) (callCapacity f t u) rfl _ HV.out HL.out (fun z m' => CapRes m f t u z m') (fun w1 V1 h1 => (answer_cap V1 m w1 f t u h1 HOK.out).mono (fun e w' ⟨z, q1, q2, q3⟩ => ⟨_, _, q1, q2, q3⟩))).mono ?_
    rintro e w1 ⟨z, m', rfl, hq, hmid⟩
    have HR := hide (show CapacityRes m f t u z m' from .inr ⟨HL.out, hq⟩)
    have HTO := hide (show YTo YAt w p F m' w1 from (hmid.done hq.rest.1 (by rw [hq.rest.2.2.2]) hq.rest.2.1 hq.rest.2.2.1).yto HF.out (HAR.out.cap hq) (HCH.out.cap hq))
    clear hq hmid
    go_wp2
    go_ret
    exact ⟨z, m', rfl, HR.out, HTO.out⟩

set_option maxHeartbeats 1000000 in
theorem yNow (w : World) (p : Nat) (F : Nat → Prop) (m : MkG) (hy : YAt w p F m) :
    Calls Try.prog 17 #[.pointer (some ⟨p, 0, none⟩)] w fun e w' => e = .returned (.int .i64 m.time) ∧ YTo YAt w p F m w' := by
  obtain ⟨V, L, hF, hv, har, hch⟩ := hy
  have HFIN := hide ((YvTo.refl hv).yto hF har hch)
  have cq : w.cell? ⟨p, 0, none⟩ = some (.pointer (some ⟨V.q, 0, none⟩)) := hv.cq
  have c5 : w.cell? ⟨V.q, 5, none⟩ = some (.int .i64 m.time) := hv.mkt.cell 5
  clear hF hv har hch
  go_enter Try.func17, Try.ntmps17
  go_wp2
  go_ret
  exact ⟨rfl, HFIN.out⟩

set_option maxRecDepth 100000 in
set_option maxHeartbeats 2000000 in
theorem yLook (w : World) (p : Nat) (F : Nat → Prop) (m : MkG) (ten ref : Int) (hy : YAt w p F m) (hok : MkOk m) :
    Calls Try.prog 23 #[.pointer (some ⟨p, 0, none⟩), .int .i64 ten, .int .i64 ref] w fun e w' => e = .returned (.tuple #[.agg #[.int .i64 (lookS m ten ref), .int .i64 (lookT m ten ref)], .int .i64 (lookE m ten ref)]) ∧ YTo YAt w p F m w' := by
  obtain ⟨V, L, hF, hv, har, hch⟩ := hy
  have HFIN := hide (fun (w' : World) (h : Chg (fun _ => False) w w') => (YvTo.same hv h).yto hF har hch)
  have cq : w.cell? ⟨p, 0, none⟩ = some (.pointer (some ⟨V.q, 0, none⟩)) := hv.cq
  have cq' : ∀ o, (w.alloc o).cell? ⟨p, 0, none⟩ = some (.pointer (some ⟨V.q, 0, none⟩)) := fun o => by rw [World.cell?_alloc_lt _ _ _ (by exact hv.lt)]; exact cq
  have HSUB := hide (fun o => ylook_any V m ten ref (w.alloc o) (hv.mkt.chg0 ((Chg.refl _ _).alloc _)) hok)
  clear hF hv hok har hch
  go_enter Try.func23, Try.ntmps23
  go_wp2_with fail
  obtain ⟨w1, hw1⟩ : ∃ w1, w1 = w.alloc (.cells #[.int .i64 0, .int .i64 0] 68) := ⟨_, rfl⟩
  have hs := HSUB.out (.cells #[.int .i64 0, .int .i64 0] 68)
  rw [← hw1] at hs ⊢
  refine hs.mono ?_
  clear hs
  rintro e w2 ⟨rfl, hq⟩
  have hbk : w1.heap[w.heap.size]? = some (.cells #[.int .i64 0, .int .i64 0] 68 (0, 0)) := by rw [hw1]; exact heap_alloc_new w _
  have hs1 : w.heap.size < w1.heap.size := (Array.getElem?_eq_some_iff.1 hbk).1
  have hbk2 : w2.heap[w.heap.size]? = some (.cells #[.int .i64 0, .int .i64 0] 68 (0, 0)) := (hq.block _ hs1 (fun h => h)).trans hbk
  have z0 : w2.cell? ⟨w.heap.size, 0, none⟩ = some (.int .i64 0) := by unfold World.cell?; rw [hbk2]; rfl
  have z1 : w2.cell? ⟨w.heap.size, 1, none⟩ = some (.int .i64 0) := by unfold World.cell?; rw [hbk2]; rfl
  have zf : ∀ r, w2.frozen? ⟨w.heap.size, r, none⟩ = false := fun r => by unfold World.frozen?; rw [hbk2]; simp
  have hc1 : Chg (fun _ => False) w w1 := by rw [hw1]; exact (Chg.refl _ _).alloc _
  have HC2 := hide (hc1.trans hq (fun _ _ h => h))
  have HBK := hide hbk2
  clear hbk hbk2 hq hc1 hs1 hw1 cq cq' HSUB
  obtain ⟨sS, hS⟩ : ∃ x, x = lookS m ten ref := ⟨_, rfl⟩
  obtain ⟨sT, hT⟩ : ∃ x, x = lookT m ten ref := ⟨_, rfl⟩
  obtain ⟨sE, hE⟩ : ∃ x, x = lookE m ten ref := ⟨_, rfl⟩
  rw [← hS, ← hT, ← hE]
  have HS := hide hS
  have HT := hide hT
  have HE := hide hE
  clear hS hT hE
  go_wp2
  obtain ⟨r0, r1⟩ := two_set (a := .int .i64 sS) (b := .int .i64 sT) HBK.out
  refine bodyPost_ret (v := .tuple #[.agg #[.int .i64 sS, .int .i64 sT], .int .i64 sE]) (by simp [results, Try.results23, go_sem, r0, r1]) rfl ⟨by rw [HS.out, HT.out, HE.out], ?_⟩
  exact HFIN.out _ ((HC2.out.setCell (.inr (Nat.le_refl _)) _).setCell (.inr (Nat.le_refl _)) _)

set_option maxRecDepth 100000 in
set_option maxHeartbeats 2000000 in
theorem yFree (w : World) (p : Nat) (F : Nat → Prop) (m : MkG) (t : Int) (hy : YAt w p F m) (hok : MkOk m) :
    Calls Try.prog 53 #[.pointer (some ⟨p, 0, none⟩), .int .i64 t] w fun e w' => e = .returned (.tuple #[.int .i64 (freeV m t), .int .i64 (freeE m t)]) ∧ YTo YAt w p F m w' := by
  obtain ⟨V, L, hF, hv, har, hch⟩ := hy
  have HFIN := hide ((YvTo.refl hv).yto hF har hch)
  have cq : w.cell? ⟨p, 0, none⟩ = some (.pointer (some ⟨V.q, 0, none⟩)) := hv.cq
  have HSUB := hide (freeAt_any V m t w hv.mkt hok)
  clear hF hv hok har hch
  go_enter Try.func53, Try.ntmps53
  go_wp2_with (go_at_call 73; refine HSUB.out.mono ?_; rintro e w' ⟨rfl, hw⟩; subst w')
  go_ret2
  exact ⟨rfl, HFIN.out⟩

theorem yardSpec : YardSpec YAt where
  lt := by
    rintro w p F m ⟨V, L, hF, hv, _, _⟩ k hk
    exact hv.foot_lt k ((hF k).1 hk)
  frame := by
    rintro w w' p F m ⟨V, L, hF, hv, har, hch⟩ hf
    exact ⟨V, L, hF, hv.frame (fun k hk => hf k ((hF k).2 hk)), har, hch⟩
  open_bad := fun c w h => yOpen_bad c w h
  open_ok := fun c w h => yOpen_ok c w h
  submit := fun w p F m ten ref j hy hok _ _ _ => ySubmit w p F m ten ref j hy hok
  cancel := fun w p F m ten ref hy hok _ _ => yCancel w p F m ten ref hy hok
  suspend := fun w p F m ten on hy hok _ => ySuspend w p F m ten on hy hok
  capacity := fun w p F m f t u hy hok _ _ _ => yCapacity w p F m f t u hy hok
  now := fun w p F m hy _ => yNow w p F m hy
  look := fun w p F m ten ref hy hok _ _ => yLook w p F m ten ref hy hok
  free := fun w p F m t hy hok _ => yFree w p F m t hy hok
end Go.Proofs.Ytminceigjejipaa
