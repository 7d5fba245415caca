import Derived.Test.YtminceigjejipaaG16
import Derived.Test.YtminceigjejipaaG3
import Derived.Deep.RegionLaw
import Derived.Great.Frames
import Derived.Deep.RegionHeld3
/-
  yardkeep: OPEN ('works', 'right', 'Case.open'): a market, where the configuration is right.
-/
namespace Go.Proofs.Ytminceigjejipaa
open Go.RowKit

def jobW (c : CfgG) : JobG := ⟨0, c.ticks, 1, 1, 1048576⟩

/-- a fresh market works -/
theorem works_pure {c : CfgG} (hc : cfgOk c = true) {z1 z2 z3 : Int} {m1 m2 m3 : MkG} {names : List (Int × Int)} (h1 : CapacityRes (openM c) 0 c.ticks 1 z1 m1) (h2 : SubmitRes m1 0 1 (jobW c) z2 m2) (h3 : TickRes m2 z3 names m3) :
    z1 = 0 ∧ z2 = 0 ∧ z3 = 0 ∧ names = [(0, 1)] ∧ lookE m3 0 1 = 0 ∧ lookS m3 0 1 = 2 ∧ lookT m3 0 1 = 0 := by
  have hq := cfgOk_true hc
  have hok0 := GoodM.open hc
  have hok1 := hok0.capacity h1
  have hok2 := hok1.submit h2
  have hca : capArg (openM c) 0 c.ticks 1 = false := by simp [capArg, openM]; omega
  have hco : capOk (openM c) 0 c.ticks 1 := fun t _ _ => by simp [openM, usedL]
  obtain ⟨e1, em1⟩ := h1.unique (.inr ⟨by simp [openM], .inr (.inr ⟨hca, hco, rfl, rfl⟩)⟩)
  have hsus : suspAt m1 0 = false := by
    rw [em1]
    show (List.replicate c.ten.toNat false).getD 0 false = false
    cases c.ten.toNat with
    | zero => rfl
    | succ n => rfl
  have hbid : m1.bids = [] := by rw [em1]; rfl
  have htim : m1.time = 0 := by rw [em1]; rfl
  have hcc : m1.c = c := by rw [em1]; rfl
  have hten : m1.tenB 0 = true := by simp [MkG.tenB, hcc]; omega
  have hlog : m1.log.length = 1 := by rw [em1]; rfl
  have hrf : refB m1 0 1 = false := by simp [refB, hbid, findZ, findL]
  have hjb : m1.jobB (jobW c) = true := by simp [MkG.jobB, jobIn, atOf, htim, hcc, jobW]; omega
  have hse : submitE m1 0 1 (jobW c) = 0 := by
    have : ¬ m1.c.quo ≤ pendL m1.bids 0 := by rw [hcc, hbid]; simp [pendL]; omega
    simp [submitE, hten, hsus, hrf, hjb, this]
  obtain ⟨b0, hb0⟩ : ∃ b0, b0 = newBid m1 0 1 (jobW c) := ⟨_, rfl⟩
  obtain ⟨e2, em2⟩ := LogRes.unique h2 (.inr ⟨by omega, rfl, rfl⟩)
  rw [hse] at e2
  have hm2 : m2 = { m1.logs (callSubmit 0 1 (jobW c)) with bids := [b0] } := by
    rw [em2, submitM]
    simp only [hse, if_pos]
    rw [hb0]
    simp [MkG.logs, hbid]
  have hb2 : m2.bids = [b0] := by rw [hm2]
  have hc2 : m2.c = c := by rw [hm2]; exact hcc
  have ht2 : m2.time = 0 := by rw [hm2]; exact htim
  have hl2 : m2.log.length = 2 := by rw [hm2]; simp [MkG.logs, hlog]
  have hg2 : m2.ghost = -1 := hok2.ghost
  have f0 : b0.ten = 0 ∧ b0.ref = 1 ∧ b0.job = jobW c ∧ b0.arrival = 0 ∧ b0.state = 1 ∧ b0.entry = 1 := by
    rw [hb0]
    refine ⟨rfl, rfl, rfl, ?_, rfl, ?_⟩
    · simp [newBid, atOf, htim, jobW]
    · simp [newBid, hlog]
  obtain ⟨f1, f2, f3, f4, f5, f6⟩ := f0
  have hsu2 : suspAt m2 0 = false := by rw [hm2]; exact hsus
  have hcand : candB m2 0 b0 = true := by
    simp [candB, BidG.openB, f1, f3, f4, f5, f6, hg2, hsu2, jobW]
    omega
  have hord : IsOrder m2 m2.time [0] := by
    refine ⟨fun i => ⟨fun hi => ?_, fun ⟨b, hb, _⟩ => ?_⟩, by simp⟩
    · simp at hi
      subst hi
      exact ⟨b0, by rw [hb2]; rfl, by rw [ht2]; exact hcand⟩
    · rw [hb2] at hb
      have := (List.getElem?_eq_some_iff.1 hb).1
      simp at this ⊢
      omega
  obtain ⟨e3, en3, em3⟩ := h3.unique (.inr (.inr ⟨by omega, by rw [hc2, ht2]; omega, rfl, [0], hord, rfl, rfl⟩))
  have hgi : ghostI (m2.logs callTick) m2.time = none := ghostI_none (hok2.ok.logs (by omega) _) hg2 _
  have hun : m2.units.getD 0 0 = 1 := by
    have hnu : (openM c).units.length = c.ticks.toNat := by simp [openM]
    rw [hm2, em1]
    show ((List.range (openM c).units.length).map fun i : Nat => if (0 : Int) ≤ (i : Int) ∧ (i : Int) < c.ticks then (1 : Int) else (openM c).units.getD i 0).getD 0 0 = 1
    rw [hnu, List.getD, List.getElem?_map, List.getElem?_range (by omega)]
    simp
    omega
  have hfit : fitsB (m2.logs callTick) b0 0 = true := by
    simp only [fitsB, List.all_eq_true, List.mem_range, decide_eq_true_eq]
    intro s hs
    have hs0 : s = 0 := by rw [f3] at hs; simp [jobW] at hs; omega
    subst hs0
    have : freeV (m2.logs callTick) (0 + ((0 : Nat) : Int)) = 1 := by
      show freeV (m2.logs callTick) 0 = 1
      rw [freeV, if_neg (by show ¬ ((0 : Int) < 0 ∨ m2.c.ticks ≤ 0); rw [hc2]; omega)]
      show m2.units.getD 0 0 - usedL m2.bids 0 = 1
      rw [hun, hb2]
      simp [usedL, BidG.runs, f5]
    rw [this, f3]
    simp [jobW]
  have hwin : b0.winB (m2.logs callTick).c.res = true := by
    show decide (m2.c.res * sizeJ b0.job ≤ b0.job.val) = true
    rw [hc2, f3]
    simp [sizeJ, jobW]
    omega
  have hfold : tickFold m2.time none (m2.logs callTick) [0] = (startM (m2.logs callTick) 0 0, [(0, 1)]) := by
    rw [ht2]
    have hb : (m2.logs callTick).bids[0]? = some b0 := by show m2.bids[0]? = _; rw [hb2]; rfl
    simp only [tickFold, List.foldl, tickOne, hb, hfit, hwin, f1, f2]
    rfl
  have htk : tickM m2 [0] = (tickEnd 0 (startM (m2.logs callTick) 0 0), [(0, 1)]) := by
    rw [ht2] at hgi hfold
    unfold tickM
    simp only [ht2, hgi, hfold, wantEnd]
  rw [htk] at en3 em3
  have hb3 : m3.bids = [({ b0 with state := 2, start := 0 } : BidG)] := by
    rw [em3]
    have hb : (m2.logs callTick).bids[0]? = some b0 := by show m2.bids[0]? = _; rw [hb2]; rfl
    show ((startM (m2.logs callTick) 0 0).bids.map fun b => b.expire (0 + 1)) = _
    rw [startM_eq hb]
    show ((m2.bids.set 0 { b0 with state := 2, start := 0 }).map fun b => b.expire (0 + 1)) = _
    rw [hb2]
    simp [BidG.expire]
  have hc3 : m3.c = c := by
    rw [em3]
    have hb : (m2.logs callTick).bids[0]? = some b0 := by show m2.bids[0]? = _; rw [hb2]; rfl
    show (startM (m2.logs callTick) 0 0).c = c
    rw [startM_eq hb]
    exact hc2
  have hfz : findZ m3.bids 0 1 = 0 := by
    rw [hb3]
    simp [findZ, findL, BidG.is, f1, f2, List.findIdx?_cons]
  have hE : lookE m3 0 1 = 0 := by
    have : m3.tenB 0 = true := by simp [MkG.tenB, hc3]; omega
    simp [lookE, this, hfz]
  refine ⟨e1, e2, e3, en3, hE, ?_, ?_⟩
  · rw [lookS, hE, if_pos rfl, hfz]
    simp [stateAt, hb3]
  · rw [lookT, hE, if_pos rfl, hfz]
    simp [startAt, hb3]

set_option maxRecDepth 100000 in
set_option maxHeartbeats 1000000 in
theorem right_any (c : CfgG) (w : World) :
    Calls Try.prog 43 #[cfgV c] w fun e w' => e = .returned (.bool (cfgOk c)) ∧ Chg (fun _ => False) w w' := by
  unfold cfgV
  have hz : (ckZ c.ticks c.cap c.res c.ten c.quo == 0) = cfgOk c := by
    cases h : cfgOk c
    · simp only [cfgOk] at h
      simp [ckZ, h]
    · simp only [cfgOk] at h
      simp [ckZ, h]
  go_enter Try.func43, Try.ntmps43
  go_wp2_with (go_at_call 66; refine (refCheck_any _ _ _ _ _ _).mono ?_; rintro e w1 ⟨rfl, hq⟩; have HQ := hide (((Chg.refl _ _).alloc _).trans hq (fun _ _ h => h)); clear hq)
  go_ret
  exact ⟨rfl, HQ.out⟩

/-- a market of one's own, in blocks that are new -/
structure OwnY (YAt : World → Nat → (Nat → Prop) → MkG → Prop) (w : World) (y : Nat) (F : Nat → Prop) (m : MkG) (w' : World) : Prop where
  yard : YAt w' y F m
  good : GoodM m
  chg : Chg (fun _ => False) w w'
  new : ∀ k, F k → w.heap.size ≤ k
theorem OwnY.to {YAt : World → Nat → (Nat → Prop) → MkG → Prop} {w w1 w2 : World} {y : Nat} {F : Nat → Prop} {m m' : MkG} (h : OwnY YAt w y F m w1) (hg : GoodM m') (ht : YTo YAt w1 y F m' w2) : ∃ F', OwnY YAt w y F' m' w2 := by
  obtain ⟨F', a1, a2, a3⟩ := ht
  have hs := h.chg.size
  refine ⟨F', a1, hg, h.chg.trans a2 (fun x hx e => by have := h.new x e; omega), fun k hk => ?_⟩
  rcases a3 k hk with e | e
  · exact h.new k e
  · omega
theorem OwnY.told {YAt : World → Nat → (Nat → Prop) → MkG → Prop} {w w1 w2 : World} {y : Nat} {F F' : Nat → Prop} {m m' : MkG} {names : List (Int × Int)} {bills : List InvG} {nv bv : Value} (h : OwnY YAt w y F m w1) (hg : GoodM m') (ht : ToldAt YAt w1 y F m' names bills nv bv F' w2) : OwnY YAt w y F' m' w2 := by
  have hs := h.chg.size
  refine ⟨ht.yard, hg, h.chg.trans ht.chg (fun x hx e => by have := h.new x e; omega), fun k hk => ?_⟩
  rcases ht.foot k hk with e | e
  · exact h.new k e
  · omega
theorem OwnY.chg0 {YAt : World → Nat → (Nat → Prop) → MkG → Prop} (hY : YardSpec YAt) {w w1 w2 : World} {y : Nat} {F : Nat → Prop} {m : MkG} {X : Nat → Prop} (h : OwnY YAt w y F m w1) (hc : Chg X w1 w2) (hX : ∀ k, X k → w.heap.size ≤ k ∧ ¬ F k) : OwnY YAt w y F m w2 :=
  ⟨hY.frame _ _ _ _ _ h.yard (fun k hk => hc.block k (hY.lt _ _ _ _ h.yard k hk) (fun e => (hX k e).2 hk)), h.good, h.chg.trans hc (fun x hx e => by have := (hX x e).1; omega), h.new⟩

theorem pair_cells' {w : World} {v : Value} {a b : Int} (h : w.ownsRow 0 90 2 v [(a, b)].length ([(a, b)].flatMap nameCells)) : ∃ g cap, v = .slice (some ⟨g, 0, none⟩) 1 cap ∧ g < w.heap.size ∧ w.cell? ⟨g, 0, none⟩ = some (.int .i64 a) ∧ w.cell? ⟨g, 1, none⟩ = some (.int .i64 b) := by
  rcases h.2 with ⟨hv, h0⟩ | ⟨g, cap, cur, hv, hg, hh, r⟩
  · simp at h0
  · refine ⟨g, cap, hv, (Array.getElem?_eq_some_iff.1 hh).1, ?_, ?_⟩
    · have := h.cells (g := g) (by rw [hv]; rfl) 0 (.int .i64 a) (by simp [nameCells])
      rwa [Addr.add_lit, Nat.zero_add] at this
    · have := h.cells (g := g) (by rw [hv]; rfl) 1 (.int .i64 b) (by simp [nameCells])
      rwa [Addr.add_lit, Nat.zero_add] at this

set_option maxRecDepth 100000 in
set_option maxHeartbeats 4000000 in
theorem works_any {YAt : World → Nat → (Nat → Prop) → MkG → Prop} (hY : YardSpec YAt) (hT : TickY YAt) (c : CfgG) (w : World) (hc : cfgOk c = true) :
    Calls Try.prog 44 #[cfgV c] w fun e w' => e = .returned (.bool true) ∧ Chg (fun _ => False) w w' := by
  have HY := hide hY
  have HT := hide hT
  have HC := hide hc
  have hq := cfgOk_true hc
  have k1 : I64 c.ticks := by unfold I64; omega
  clear hY hT hc hq
  unfold cfgV
  go_enter Try.func44, Try.ntmps44
  go_wp2_with fail
  obtain ⟨w0, hw0⟩ : ∃ w0, w0 = w.alloc (.cells #[.int .i64 c.ticks, .int .i64 c.cap, .int .i64 c.res, .int .i64 c.ten, .int .i64 c.quo] 38) := ⟨_, rfl⟩
  rw [← hw0]
  have hb0 : w0.heap[w.heap.size]? = some (.cells #[.int .i64 c.ticks, .int .i64 c.cap, .int .i64 c.res, .int .i64 c.ten, .int .i64 c.quo] 38 (0, 0)) := by rw [hw0]; exact heap_alloc_new w _
  have HC0 : Hid (Chg (fun _ => False) w w0) := by rw [hw0]; exact (Chg.refl _ _).alloc _
  have hl0 : w.heap.size < w0.heap.size := (Array.getElem?_eq_some_iff.1 hb0).1
  have HBX := hide (fun (w' : World) (h : Chg (fun _ => False) w0 w') => show w'.cell? ⟨w.heap.size, 0, none⟩ = some (.int .i64 c.ticks) from by
    unfold World.cell?
    rw [h.block _ hl0 (fun h => h), hb0]
    rfl)
  clear hw0 hb0
  refine (HY.out.open_ok c w0 HC.out).mono ?_
  rintro e w1 ⟨y, F1, rfl, hy1, hc1, hf1⟩
  have H1 := hide (show OwnY YAt w0 y F1 (openM c) w1 from ⟨hy1, GoodM.open HC.out, hc1, hf1⟩)
  have x1 := HBX.out w1 hc1
  clear hy1 hc1 hf1
  go_wp2_with fail
  refine (HY.out.capacity w1 y F1 (openM c) 0 c.ticks 1 H1.out.yard H1.out.good.ok (by unfold I64; omega) k1 (by unfold I64; omega)).mono ?_
  rintro e w2 ⟨z1, m1, rfl, hres1, hto1⟩
  have HR1 := hide hres1
  obtain ⟨F2, h2⟩ := H1.out.to (H1.out.good.capacity hres1) hto1
  have H2 := hide h2
  have x2 := HBX.out w2 h2.chg
  clear hres1 hto1 h2 x1 H1
  go_wp2_with fail
  refine (HY.out.submit w2 y F2 m1 0 1 (jobW c) H2.out.yard H2.out.good.ok (by unfold I64; omega) (by unfold I64; omega) (by unfold JobI64 jobW I64 at *; simp only; omega)).mono ?_
  rintro e w3 ⟨z2, m2, rfl, hres2, hto2⟩
  have HR2 := hide hres2
  obtain ⟨F3, h3⟩ := H2.out.to (H2.out.good.submit hres2) hto2
  have H3 := hide h3
  clear hres2 hto2 h3 x2 H2
  go_wp2_with fail
  refine (HT.out w3 y F3 m2 H3.out.yard H3.out.good.ok H3.out.good.ghost).mono ?_
  rintro e w4 ⟨lv, names, z3, m3, F4, rfl, hres3, b1, b2, b3, b4, b5, _⟩
  have HR3 := hide hres3
  have HT3 := hide (show ToldAt YAt w3 y F3 m3 names [] lv (.slice none 0 0) F4 w4 from ⟨b1, b2, b3, b4, World.ownsRow_nil _ _ _ _, b5, fun k hk => by simp [Value.ownBlock] at hk⟩)
  have H4 := hide (H3.out.told (H3.out.good.tick hres3) HT3.out)
  obtain ⟨e1, e2, e3, e4, e5, e6, e7⟩ := works_pure HC.out HR1.out HR2.out hres3
  subst e1 e2 e3 e4
  obtain ⟨g, cap, hlv, hgl, n0, n1⟩ := pair_cells' b4
  subst hlv
  have HE := hide (And.intro e5 (And.intro e6 e7))
  clear hres3 b1 b2 b3 b4 e5 e6 e7 H3 HR1 HR2 HR3
  go_wp2_with fail
  refine (HY.out.look w4 y F4 m3 0 1 H4.out.yard H4.out.good.ok (by unfold I64; omega) (by unfold I64; omega)).mono ?_
  rintro e w5 ⟨rfl, hto5⟩
  rw [HE.out.1, HE.out.2.1, HE.out.2.2]
  have hng : ¬ F4 g := (b5 g rfl).2
  have hk5 : Chg F4 w4 w5 := by obtain ⟨F', _, a2, _⟩ := hto5; exact a2
  have m0 : w5.cell? ⟨g, 0, none⟩ = some (.int .i64 0) := by rw [hk5.cell (by exact hgl) hng]; exact n0
  have m1' : w5.cell? ⟨g, 1, none⟩ = some (.int .i64 1) := by rw [hk5.cell (by exact hgl) hng]; exact n1
  have hgl5 : g < w5.heap.size := Nat.lt_of_lt_of_le hgl hk5.size
  have m0' : ∀ o, (w5.alloc o).cell? ⟨g, 0, none⟩ = some (.int .i64 0) := fun o => by rw [World.cell?_alloc_lt _ _ _ (by exact hgl5)]; exact m0
  have m1'' : ∀ o, (w5.alloc o).cell? ⟨g, 1, none⟩ = some (.int .i64 1) := fun o => by rw [World.cell?_alloc_lt _ _ _ (by exact hgl5)]; exact m1'
  obtain ⟨F5, h5⟩ := H4.out.to H4.out.good hto5
  have H5 := hide h5
  clear hto5 h5 H4 hk5 n0 n1 hng b5 HE HT3
  go_wp2
  go_ret
  exact ⟨rfl, (HC0.out.trans H5.out.chg (fun _ _ h => h)).alloc _⟩

set_option maxRecDepth 100000 in
set_option maxHeartbeats 2000000 in
/-- 'open': nothing, where the configuration is not right; else a market -/
theorem open_bad' {YAt : World → Nat → (Nat → Prop) → MkG → Prop} (hY : YardSpec YAt) (c : CfgG) (sv : Value) (w : World) (hc : cfgOk c = false) (hsv : ∃ a l k, sv = .slice a l k) :
    Calls Try.prog 15 #[.agg #[.int .i64 c.ticks, .int .i64 c.cap, .int .i64 c.res, .int .i64 c.ten, .int .i64 c.quo, sv]] w fun e w' => e = .returned (.tuple #[.pointer none, .bool true]) ∧ Chg (fun _ => False) w w' := by
  have HY := hide hY
  have HC := hide hc
  obtain ⟨sa, sl, sk, rfl⟩ := hsv
  clear hY hc
  go_enter Try.func15, Try.ntmps15
  go_wp2_with fail
  obtain ⟨w0, hw0⟩ : ∃ w0, w0 = w.alloc (.cells #[.int .i64 c.ticks, .int .i64 c.cap, .int .i64 c.res, .int .i64 c.ten, .int .i64 c.quo, .slice sa sl sk] 41) := ⟨_, rfl⟩
  rw [← hw0]
  have hb0 : w0.heap[w.heap.size]? = some (.cells #[.int .i64 c.ticks, .int .i64 c.cap, .int .i64 c.res, .int .i64 c.ten, .int .i64 c.quo, .slice sa sl sk] 41 (0, 0)) := by rw [hw0]; exact heap_alloc_new w _
  have HC0 : Hid (Chg (fun _ => False) w w0) := by rw [hw0]; exact (Chg.refl _ _).alloc _
  have hl0 : w.heap.size < w0.heap.size := (Array.getElem?_eq_some_iff.1 hb0).1
  clear hw0
  refine (HY.out.open_bad c w0 HC.out).mono ?_
  rintro e w1 ⟨rfl, hq⟩
  have hb1 := (hq.block _ hl0 (fun h => h)).trans hb0
  have q0 : w1.cell? ⟨w.heap.size, 0, none⟩ = some (.int .i64 c.ticks) := by unfold World.cell?; rw [hb1]; rfl
  have q1 : w1.cell? ⟨w.heap.size, 1, none⟩ = some (.int .i64 c.cap) := by unfold World.cell?; rw [hb1]; rfl
  have q2 : w1.cell? ⟨w.heap.size, 2, none⟩ = some (.int .i64 c.res) := by unfold World.cell?; rw [hb1]; rfl
  have q3 : w1.cell? ⟨w.heap.size, 3, none⟩ = some (.int .i64 c.ten) := by unfold World.cell?; rw [hb1]; rfl
  have q4 : w1.cell? ⟨w.heap.size, 4, none⟩ = some (.int .i64 c.quo) := by unfold World.cell?; rw [hb1]; rfl
  have HQ := hide (HC0.out.trans hq (fun _ _ h => h))
  clear hq hb0 hb1 hl0
  go_wp2_with fail
  refine (right_any c w1).mono ?_
  rintro e w2 ⟨rfl, hq2⟩
  rw [HC.out]
  have HQ2 := hide (HQ.out.trans hq2 (fun _ _ h => h))
  clear hq2 q0 q1 q2 q3 q4
  go_wp2
  go_ret2
  exact ⟨rfl, HQ2.out⟩

set_option maxRecDepth 100000 in
set_option maxHeartbeats 2000000 in
theorem open_ok' {YAt : World → Nat → (Nat → Prop) → MkG → Prop} (hY : YardSpec YAt) (hT : TickY YAt) (c : CfgG) (sv : Value) (w : World) (hc : cfgOk c = true) (hsv : ∃ a l k, sv = .slice a l k) :
    Calls Try.prog 15 #[.agg #[.int .i64 c.ticks, .int .i64 c.cap, .int .i64 c.res, .int .i64 c.ten, .int .i64 c.quo, sv]] w fun e w' => ∃ y F, e = .returned (.tuple #[.pointer (some ⟨y, 0, none⟩), .bool true]) ∧ OwnY YAt w y F (openM c) w' := by
  have HY := hide hY
  have HT := hide hT
  have HC := hide hc
  obtain ⟨sa, sl, sk, rfl⟩ := hsv
  clear hY hT hc
  go_enter Try.func15, Try.ntmps15
  go_wp2_with fail
  obtain ⟨w0, hw0⟩ : ∃ w0, w0 = w.alloc (.cells #[.int .i64 c.ticks, .int .i64 c.cap, .int .i64 c.res, .int .i64 c.ten, .int .i64 c.quo, .slice sa sl sk] 41) := ⟨_, rfl⟩
  rw [← hw0]
  have hb0 : w0.heap[w.heap.size]? = some (.cells #[.int .i64 c.ticks, .int .i64 c.cap, .int .i64 c.res, .int .i64 c.ten, .int .i64 c.quo, .slice sa sl sk] 41 (0, 0)) := by rw [hw0]; exact heap_alloc_new w _
  have HC0 : Hid (Chg (fun _ => False) w w0) := by rw [hw0]; exact (Chg.refl _ _).alloc _
  have hl0 : w.heap.size < w0.heap.size := (Array.getElem?_eq_some_iff.1 hb0).1
  clear hw0
  have HBX := hide (fun (w' : World) (h : Chg (fun _ => False) w0 w') => show w'.heap[w.heap.size]? = some (.cells #[.int .i64 c.ticks, .int .i64 c.cap, .int .i64 c.res, .int .i64 c.ten, .int .i64 c.quo, .slice sa sl sk] 41 (0, 0)) from (h.block _ hl0 (fun h => h)).trans hb0)
  clear hb0 hl0
  refine (HY.out.open_ok c w0 HC.out).mono ?_
  rintro e w1 ⟨y, F, rfl, hy1, hc1, hf1⟩
  have H1 := hide (show OwnY YAt w y F (openM c) w1 from ⟨hy1, GoodM.open HC.out, HC0.out.trans hc1 (fun _ _ h => h), fun k hk => Nat.le_trans HC0.out.size (hf1 k hk)⟩)
  have hb1 := HBX.out w1 hc1
  have q0 : w1.cell? ⟨w.heap.size, 0, none⟩ = some (.int .i64 c.ticks) := by unfold World.cell?; rw [hb1]; rfl
  have q1 : w1.cell? ⟨w.heap.size, 1, none⟩ = some (.int .i64 c.cap) := by unfold World.cell?; rw [hb1]; rfl
  have q2 : w1.cell? ⟨w.heap.size, 2, none⟩ = some (.int .i64 c.res) := by unfold World.cell?; rw [hb1]; rfl
  have q3 : w1.cell? ⟨w.heap.size, 3, none⟩ = some (.int .i64 c.ten) := by unfold World.cell?; rw [hb1]; rfl
  have q4 : w1.cell? ⟨w.heap.size, 4, none⟩ = some (.int .i64 c.quo) := by unfold World.cell?; rw [hb1]; rfl
  have HC1 := hide hc1
  clear hy1 hc1 hf1 hb1
  go_wp2_with fail
  refine (right_any c w1).mono ?_
  rintro e w2 ⟨rfl, hq2⟩
  rw [HC.out]
  have H2 := hide (H1.out.chg0 HY.out hq2 (fun _ h => h.elim))
  have HC2 := hide (HC1.out.trans hq2 (fun _ _ h => h))
  have hb2 := HBX.out w2 HC2.out
  clear hq2 q0 q1 q2 q3 q4 H1 HC1
  have q0 : w2.cell? ⟨w.heap.size, 0, none⟩ = some (.int .i64 c.ticks) := by unfold World.cell?; rw [hb2]; rfl
  have q1 : w2.cell? ⟨w.heap.size, 1, none⟩ = some (.int .i64 c.cap) := by unfold World.cell?; rw [hb2]; rfl
  have q2 : w2.cell? ⟨w.heap.size, 2, none⟩ = some (.int .i64 c.res) := by unfold World.cell?; rw [hb2]; rfl
  have q3 : w2.cell? ⟨w.heap.size, 3, none⟩ = some (.int .i64 c.ten) := by unfold World.cell?; rw [hb2]; rfl
  have q4 : w2.cell? ⟨w.heap.size, 4, none⟩ = some (.int .i64 c.quo) := by unfold World.cell?; rw [hb2]; rfl
  clear hb2
  go_wp2_with fail
  refine (works_any HY.out HT.out c w2 HC.out).mono ?_
  rintro e w3 ⟨rfl, hq3⟩
  have H3 := hide (H2.out.chg0 HY.out hq3 (fun _ h => h.elim))
  clear hq3 q0 q1 q2 q3 q4
  go_wp2
  go_ret2
  exact ⟨y, F, rfl, H3.out⟩
end Go.Proofs.Ytminceigjejipaa

/-
  yardkeep: THE BOOK, as plain data and in memory.
-/
namespace Go.Proofs.Ytminceigjejipaa
open Go.RowKit

structure KnownG where
  ten : Int
  ref : Int
  job : JobG
  arrival : Int
  step : Int
  wasS : Int
  wasT : Int
  charged : Bool
def knownCells (o : KnownG) : List Value := [.int .i64 o.ten, .int .i64 o.ref, .int .i64 o.job.arr, .int .i64 o.job.dl, .int .i64 o.job.len, .int .i64 o.job.units, .int .i64 o.job.val, .int .i64 o.arrival, .int .i64 o.step, .int .i64 o.wasS, .int .i64 o.wasT, .bool o.charged]
structure BookG where
  c : CfgG
  bids : List KnownG
  susp : List Bool
  units : List Int
structure BV where
  bv : Value
  sv : Value
  uv : Value
def BV.foot (V : BV) (p k : Nat) : Prop := k = p ∨ V.bv.ownBlock = some k ∨ V.sv.ownBlock = some k ∨ V.uv.ownBlock = some k
def bookBox (V : BV) (b : BookG) : Array Value := #[.int .i64 b.c.ticks, .int .i64 b.c.cap, .int .i64 b.c.res, .int .i64 b.c.ten, .int .i64 b.c.quo, V.bv, V.sv, V.uv]

structure BookAt (w : World) (p : Nat) (V : BV) (b : BookG) : Prop where
  box : w.heap[p]? = some (.cells (bookBox V b) 66 (0, 0))
  bids : w.ownsRow 0 70 12 V.bv b.bids.length (b.bids.flatMap knownCells)
  susp : w.ownsRow 0 4 1 V.sv b.susp.length (b.susp.map Value.bool)
  units : w.ownsRow 0 3 1 V.uv b.units.length (b.units.map (Value.int .i64))

section
variable {w w' : World} {p : Nat} {V : BV} {b : BookG}
theorem BookAt.lt (h : BookAt w p V b) : p < w.heap.size := (Array.getElem?_eq_some_iff.1 h.box).1
theorem BookAt.foot_lt (h : BookAt w p V b) (k : Nat) (hk : V.foot p k) : k < w.heap.size := by
  rcases hk with rfl | hk | hk | hk
  · exact h.lt
  · exact (h.bids.lt k hk).2
  · exact (h.susp.lt k hk).2
  · exact (h.units.lt k hk).2
theorem BookAt.frame (h : BookAt w p V b) (hf : ∀ k, V.foot p k → w'.heap[k]? = w.heap[k]?) : BookAt w' p V b :=
  ⟨(hf _ (.inl rfl)).trans h.box, ownsRow_keep h.bids (fun k hk => hf k (.inr (.inl hk))), ownsRow_keep h.susp (fun k hk => hf k (.inr (.inr (.inl hk)))), ownsRow_keep h.units (fun k hk => hf k (.inr (.inr (.inr hk))))⟩
theorem BookAt.chg {O : Nat → Prop} (h : BookAt w p V b) (hc : Chg O w w') (hO : ∀ k, V.foot p k → ¬ O k) : BookAt w' p V b := h.frame (fun k hk => hc.block k (h.foot_lt k hk) (hO k hk))
theorem BookAt.chg0 (h : BookAt w p V b) (hc : Chg (fun _ => False) w w') : BookAt w' p V b := h.chg hc (fun _ _ h => h)
theorem BookAt.cell (h : BookAt w p V b) (f : Nat) : w.cell? ⟨p, f, none⟩ = (bookBox V b)[f]? := by
  unfold World.cell?
  rw [h.box]
  rfl
theorem BookAt.free (h : BookAt w p V b) (f : Nat) : w.frozen? ⟨p, f, none⟩ = false := by
  unfold World.frozen?
  rw [h.box]
  simp
theorem BookAt.bidForm (h : BookAt w p V b) : ∃ ao cap, V.bv = .slice ao b.bids.length cap := ownsRow_form h.bids
theorem BookAt.bidCell (h : BookAt w p V b) {i : Nat} {o : KnownG} (ho : b.bids[i]? = some o) : ∃ g cap, V.bv = .slice (some ⟨g, 0, none⟩) b.bids.length cap ∧ V.bv.ownBlock = some g ∧ g < w.heap.size ∧ (∀ r u, (knownCells o)[r]? = some u → w.cell? ⟨g, i * 12 + r, none⟩ = some u) ∧ ∀ r, w.frozen? ⟨g, r, none⟩ = false := by
  rcases h.bids.2 with ⟨hv, h0⟩ | ⟨g, cap, cur, hv, hg, hh, r⟩
  · have := (List.getElem?_eq_some_iff.1 ho).1
    omega
  · refine ⟨g, cap, hv, by rw [hv]; rfl, (Array.getElem?_eq_some_iff.1 hh).1, fun r u hu => ?_, fun r => by unfold World.frozen?; rw [hh]; simp⟩
    have hr : r < 12 := by
      have := (List.getElem?_eq_some_iff.1 hu).1
      simpa [knownCells] using this
    have := h.bids.cells (g := g) (by rw [hv]; rfl) (i * 12 + r) u (by rw [flat_get knownCells 12 (fun _ => rfl) b.bids i o r ho hr]; exact hu)
    rwa [Addr.add_lit, Nat.zero_add] at this
theorem BookAt.suspCell (h : BookAt w p V b) {i : Nat} (hi : i < b.susp.length) : ∃ g cap, V.sv = .slice (some ⟨g, 0, none⟩) b.susp.length cap ∧ V.sv.ownBlock = some g ∧ g < w.heap.size ∧ w.cell? ⟨g, i, none⟩ = some (.bool (b.susp.getD i false)) ∧ w.frozen? ⟨g, i, none⟩ = false := by
  rcases h.susp.2 with ⟨hv, h0⟩ | ⟨g, cap, cur, hv, hg, hh, r⟩
  · omega
  · refine ⟨g, cap, hv, by rw [hv]; rfl, (Array.getElem?_eq_some_iff.1 hh).1, ?_, by unfold World.frozen?; rw [hh]; simp⟩
    have := h.susp.cells (g := g) (by rw [hv]; rfl) i (.bool (b.susp.getD i false)) (by simp [List.getD, List.getElem?_eq_getElem hi])
    rwa [Addr.add_lit, Nat.zero_add] at this
theorem BookAt.unitCell (h : BookAt w p V b) {i : Nat} (hi : i < b.units.length) : ∃ g cap, V.uv = .slice (some ⟨g, 0, none⟩) b.units.length cap ∧ V.uv.ownBlock = some g ∧ g < w.heap.size ∧ w.cell? ⟨g, i, none⟩ = some (.int .i64 (b.units.getD i 0)) ∧ w.frozen? ⟨g, i, none⟩ = false := by
  rcases h.units.2 with ⟨hv, h0⟩ | ⟨g, cap, cur, hv, hg, hh, r⟩
  · omega
  · refine ⟨g, cap, hv, by rw [hv]; rfl, (Array.getElem?_eq_some_iff.1 hh).1, ?_, by unfold World.frozen?; rw [hh]; simp⟩
    have := h.units.cells (g := g) (by rw [hv]; rfl) i (.int .i64 (b.units.getD i 0)) (by simp [List.getD, List.getElem?_eq_getElem hi])
    rwa [Addr.add_lit, Nat.zero_add] at this
end

/-- a book that has become another -/
def BookTo (w : World) (p : Nat) (V : BV) (b' : BookG) (w' : World) : Prop :=
  ∃ V', BookAt w' p V' b' ∧ Chg (V.foot p) w w' ∧ ∀ k, V'.foot p k → V.foot p k ∨ w.heap.size ≤ k
theorem BookTo.same {w w' : World} {p : Nat} {V : BV} {b : BookG} (h : BookAt w p V b) (hc : Chg (fun _ => False) w w') : BookTo w p V b w' := ⟨V, h.chg0 hc, hc.mono (fun _ _ h => h.elim), fun _ hk => .inl hk⟩
theorem BookTo.start {w w0 w' : World} {p : Nat} {V : BV} {b : BookG} (hc : Chg (fun _ => False) w0 w) (h : BookTo w p V b w') : BookTo w0 p V b w' := by
  obtain ⟨V', h1, h2, h3⟩ := h
  exact ⟨V', h1, (hc.mono (fun _ _ h => h.elim)).trans h2 (fun _ _ h => h), fun k hk => by
    rcases h3 k hk with h | h
    · exact .inl h
    · exact .inr (Nat.le_trans hc.size h)⟩
theorem BookTo.chg0 {w w' w2 : World} {p : Nat} {V : BV} {b : BookG} (h : BookTo w p V b w') (hc : Chg (fun _ => False) w' w2) : BookTo w p V b w2 := by
  obtain ⟨V', h1, h2, h3⟩ := h
  exact ⟨V', h1.chg0 hc, h2.trans hc (fun _ _ h => h.elim), h3⟩

/-- one more is known -/
theorem BookAt.bidMore {w w1 w2 : World} {p : Nat} {V : BV} {b : BookG} {o : KnownG} {g cap : Nat} (h : BookAt w p V b) (hc1 : Chg (fun _ => False) w w1)
    (hown : w2.ownsRow 0 70 12 (.slice (some ⟨g, 0, none⟩) (b.bids.length + 1) cap) (b.bids.length + 1) (b.bids.flatMap knownCells ++ knownCells o)) (hgrow : w1.grownBy w2 V.bv.ownBlock) (hat : V.bv.ownBlock = some g ∨ w.heap.size ≤ g) :
    w2.cell? ⟨p, 5, none⟩ = some V.bv ∧ w2.frozen? ⟨p, 5, none⟩ = false ∧ BookTo w p V { b with bids := b.bids ++ [o] } (w2.setCell ⟨p, 5, none⟩ (.slice (some ⟨g, 0, none⟩) (b.bids.length + 1) cap)) := by
  have h1 := h.chg0 hc1
  have nl : V.bv.ownBlock ≠ some p := ownsRow_box h1.bids h1.box (by decide)
  have keep : ∀ k, V.foot p k → V.bv.ownBlock ≠ some k → w2.heap[k]? = w1.heap[k]? := fun k hk hn => hgrow.block k (h1.foot_lt k hk) (fun e => hn e.symm)
  have hb2 : w2.heap[p]? = some (.cells (bookBox V b) 66 (0, 0)) := (keep _ (.inl rfl) nl).trans h1.box
  refine ⟨by unfold World.cell?; rw [hb2]; rfl, by unfold World.frozen?; rw [hb2]; simp, ?_⟩
  have far : ∀ k, k ≠ p → (w2.setCell ⟨p, 5, none⟩ (.slice (some ⟨g, 0, none⟩) (b.bids.length + 1) cap)).heap[k]? = w2.heap[k]? := fun k hk => Below.heap_setCell _ _ _ _ hk
  have hgp : g ≠ p := by
    rintro rfl
    obtain ⟨cu, hc⟩ := ownsRow_block hown (k := g) rfl
    rw [hb2] at hc
    simp at hc
  have old : ∀ {e : TypeId} {size n : Nat} {v : Value} {xs : List Value}, w1.ownsRow 0 e size v n xs → e ≠ 70 → e ≠ 66 → (∀ k, v.ownBlock = some k → V.foot p k) → (w2.setCell ⟨p, 5, none⟩ (.slice (some ⟨g, 0, none⟩) (b.bids.length + 1) cap)).ownsRow 0 e size v n xs := by
    intro e size n v xs ho he he' hf
    refine ownsRow_keep ho (fun k hk => ?_)
    rw [far k (fun e => ownsRow_box ho h1.box he' (e ▸ hk))]
    exact keep k (hf k hk) (ownsRow_apart ho h1.bids he hk)
  refine ⟨{ V with bv := .slice (some ⟨g, 0, none⟩) (b.bids.length + 1) cap }, ⟨by rw [box_set hb2]; rfl, ?_, old h1.susp (by decide) (by decide) (fun k hk => .inr (.inr (.inl hk))), old h1.units (by decide) (by decide) (fun k hk => .inr (.inr (.inr hk)))⟩, ?_, ?_⟩
  · show (w2.setCell _ _).ownsRow 0 _ 12 _ (b.bids ++ [o]).length ((b.bids ++ [o]).flatMap knownCells)
    rw [List.length_append, List.flatMap_append]
    simp only [List.flatMap_cons, List.flatMap_nil, List.append_nil, List.length_cons, List.length_nil, Nat.zero_add]
    exact ownsRow_keep hown (fun k hk => far k (fun e => by simp [Value.ownBlock] at hk; exact hgp (hk.trans e)))
  · exact (((hc1.mono (O' := V.foot p) (fun _ _ h => h.elim)).grown hgrow (fun k hk => .inl (.inr (.inl hk))))).setCell (.inl (.inl rfl)) _
  · intro k hk
    rcases hk with rfl | hk | hk | hk
    · exact .inl (.inl rfl)
    · simp [Value.ownBlock] at hk
      subst hk
      rcases hat with h | h
      · exact .inl (.inr (.inl h))
      · exact .inr h
    · exact .inl (.inr (.inr (.inl hk)))
    · exact .inl (.inr (.inr (.inr hk)))
theorem book_arm {w w1 w2 : World} {p : Nat} {V : BV} {b : BookG} {o : KnownG} {ao : Option Addr} {cap n g cap' H : Nat} (h : BookAt w p V b) (hv : V.bv = .slice ao b.bids.length cap) (hn : n = b.bids.length) (hc1 : Chg (fun _ => False) w w1)
    (hown : w2.ownsRow 0 70 12 (.slice (some ⟨g, 0, none⟩) (n + 1) cap') (n + 1) (b.bids.flatMap knownCells ++ knownCells o)) (hgrow : w1.grownBy w2 (Value.ownBlock (.slice ao n cap))) (hat : Value.ownBlock (.slice ao n cap) = some g ∨ g = H) (hH : w.heap.size ≤ H) :
    w2.cell? ⟨p, 5, none⟩ = some (.slice ao n cap) ∧ w2.frozen? ⟨p, 5, none⟩ = false ∧ Hid (BookTo w p V { b with bids := b.bids ++ [o] } (w2.setCell ⟨p, 5, none⟩ (.slice (some ⟨g, 0, none⟩) (n + 1) cap'))) := by
  subst hn
  rw [← hv] at hgrow hat ⊢
  exact h.bidMore hc1 hown hgrow (by rcases hat with h | h; exact .inl h; exact .inr (by omega))

/-- a cell of one of the three lists, written -/
theorem BookAt.setSusp {w : World} {p : Nat} {V : BV} {b : BookG} {i g : Nat} {s : Bool} (h : BookAt w p V b) (hi : i < b.susp.length) (hg : V.sv.ownBlock = some g) : BookAt (w.setCell ⟨g, i, none⟩ (.bool s)) p V { b with susp := b.susp.set i s } := by
  have far : ∀ k, k ≠ g → (w.setCell ⟨g, i, none⟩ (.bool s)).heap[k]? = w.heap[k]? := fun k hk => Below.heap_setCell _ _ _ _ hk
  refine ⟨(far p (fun e => ownsRow_box h.susp h.box (by decide) (e ▸ hg))).trans h.box, ownsRow_keep h.bids (fun k hk => far k (fun e => ownsRow_apart h.bids h.susp (by decide) hk (e ▸ hg))), ?_, ownsRow_keep h.units (fun k hk => far k (fun e => ownsRow_apart h.units h.susp (by decide) hk (e ▸ hg)))⟩
  show (w.setCell _ _).ownsRow 0 _ 1 _ (b.susp.set i s).length ((b.susp.set i s).map Value.bool)
  rw [List.length_set, List.map_set]
  exact ownsRow_set2 h.susp (by omega) hg _
theorem BookAt.setUnit {w : World} {p : Nat} {V : BV} {b : BookG} {i g : Nat} {u : Int} (h : BookAt w p V b) (hi : i < b.units.length) (hg : V.uv.ownBlock = some g) : BookAt (w.setCell ⟨g, i, none⟩ (.int .i64 u)) p V { b with units := b.units.set i u } := by
  have far : ∀ k, k ≠ g → (w.setCell ⟨g, i, none⟩ (.int .i64 u)).heap[k]? = w.heap[k]? := fun k hk => Below.heap_setCell _ _ _ _ hk
  refine ⟨(far p (fun e => ownsRow_box h.units h.box (by decide) (e ▸ hg))).trans h.box, ownsRow_keep h.bids (fun k hk => far k (fun e => ownsRow_apart h.bids h.units (by decide) hk (e ▸ hg))), ownsRow_keep h.susp (fun k hk => far k (fun e => ownsRow_apart h.susp h.units (by decide) hk (e ▸ hg))), ?_⟩
  show (w.setCell _ _).ownsRow 0 _ 1 _ (b.units.set i u).length ((b.units.set i u).map (Value.int .i64))
  rw [List.length_set, List.map_set]
  exact ownsRow_set2 h.units (by omega) hg _
theorem known_set {r : Nat} {u : Value} {o o' : KnownG} (hc : knownCells o' = (knownCells o).set r u) (hr : r < 12) : ∀ (l : List KnownG) (i : Nat), l[i]? = some o → (l.set i o').flatMap knownCells = (l.flatMap knownCells).set (i * 12 + r) u := by
  intro l
  induction l with
  | nil => intro i hb; simp at hb
  | cons y l ih =>
    intro i hb
    cases i with
    | zero =>
      simp at hb
      subst hb
      simp only [List.set_cons_zero, List.flatMap_cons, hc, Nat.zero_mul, Nat.zero_add]
      rw [List.set_append_left _ _ (by simpa [knownCells] using hr)]
    | succ i =>
      simp only [List.getElem?_cons_succ] at hb
      simp only [List.set_cons_succ, List.flatMap_cons, ih i hb]
      rw [show (i + 1) * 12 + r = (knownCells y).length + (i * 12 + r) by simp [knownCells]; omega]
      rw [List.set_append_right _ _ (by omega)]
      simp
theorem BookAt.setKnown {w : World} {p : Nat} {V : BV} {b : BookG} {i g r : Nat} {o o' : KnownG} {u : Value} (h : BookAt w p V b) (ho : b.bids[i]? = some o) (hr : r < 12) (hg : V.bv.ownBlock = some g) (hc : knownCells o' = (knownCells o).set r u) : BookAt (w.setCell ⟨g, i * 12 + r, none⟩ u) p V { b with bids := b.bids.set i o' } := by
  have hil : i < b.bids.length := (List.getElem?_eq_some_iff.1 ho).1
  have far : ∀ k, k ≠ g → (w.setCell ⟨g, i * 12 + r, none⟩ u).heap[k]? = w.heap[k]? := fun k hk => Below.heap_setCell _ _ _ _ hk
  refine ⟨(far p (fun e => ownsRow_box h.bids h.box (by decide) (e ▸ hg))).trans h.box, ?_, ownsRow_keep h.susp (fun k hk => far k (fun e => ownsRow_apart h.susp h.bids (by decide) hk (e ▸ hg))), ownsRow_keep h.units (fun k hk => far k (fun e => ownsRow_apart h.units h.bids (by decide) hk (e ▸ hg)))⟩
  show (w.setCell _ _).ownsRow 0 _ 12 _ (b.bids.set i o').length ((b.bids.set i o').flatMap knownCells)
  rw [List.length_set, known_set hc hr b.bids i ho]
  exact ownsRow_set2 h.bids (by omega) hg _

/-! ### begin -/
def startB (c : CfgG) : BookG := ⟨c, [], List.replicate c.ten.toNat false, List.replicate c.ticks.toNat c.cap⟩

theorem three_alloc (w : World) (a b c : Obj) : (((w.alloc a).alloc b).alloc c).heap[w.heap.size]? = some a ∧ (((w.alloc a).alloc b).alloc c).heap[w.heap.size + 1]? = some b ∧ (((w.alloc a).alloc b).alloc c).heap[w.heap.size + 1 + 1]? = some c := by
  refine ⟨?_, ?_, ?_⟩
  · rw [Below.heap_alloc _ _ _ (by simp; omega), Below.heap_alloc _ _ _ (by simp)]
    exact heap_alloc_new w a
  · rw [Below.heap_alloc _ _ _ (by simp)]
    have := heap_alloc_new (w.alloc a) b
    simpa using this
  · have := heap_alloc_new ((w.alloc a).alloc b) c
    simpa using this
def fillU (n k : Nat) (cap : Int) : List Int := (List.range n).map fun j => if j < k then cap else 0
theorem fillU_zero (n : Nat) (cap : Int) : fillU n 0 cap = List.replicate n 0 := by
  apply List.ext_getElem?
  intro i
  by_cases hi : i < n <;> simp [fillU, hi]
theorem fillU_succ (n k : Nat) (cap : Int) (hk : k < n) : (fillU n k cap).set k cap = fillU n (k + 1) cap := by
  apply List.ext_getElem?
  intro i
  rw [List.getElem?_set]
  by_cases hi : i < n
  · by_cases e : k = i
    · subst e
      simp [fillU, hi]
    · simp only [if_neg e, fillU, List.getElem?_map, List.getElem?_range hi, Option.map_some]
      simp [show (i < k ↔ i < k + 1) by omega]
  · by_cases e : k = i
    · omega
    · simp [fillU, hi, e]
theorem fillU_all (n : Nat) (cap : Int) : fillU n n cap = List.replicate n cap := by
  apply List.ext_getElem?
  intro i
  by_cases hi : i < n <;> simp [fillU, hi]
theorem begin_mk {W : World} {nk nt p X Y : Nat} {cap res quo : Int} (h8 : nt ≤ 8) (h64 : nk ≤ 64) (hb : W.heap[p]? = some (.cells #[.int .i64 (nk : Int), .int .i64 cap, .int .i64 res, .int .i64 (nt : Int), .int .i64 quo, .slice none 0 0, .slice (some ⟨X, 0, none⟩) nt nt, .slice (some ⟨Y, 0, none⟩) nk nk] 66 (0, 0)))
    (hX : W.heap[X]? = some (.cells (madeCells #[.bool false] nt) 4 (0, 0))) (hYb : W.heap[Y]? = some (.cells (madeCells #[.int .i64 0] nk) 3 (0, 0))) :
    BookAt W p ⟨.slice none 0 0, .slice (some ⟨X, 0, none⟩) nt nt, .slice (some ⟨Y, 0, none⟩) nk nk⟩ ⟨⟨nk, cap, res, nt, quo⟩, [], List.replicate nt false, fillU nk 0 cap⟩ := by
  refine ⟨hb, World.ownsRow_nil _ _ _ _, ?_, ?_⟩
  · show W.ownsRow 0 _ 1 _ (List.replicate nt false).length ((List.replicate nt false).map Value.bool)
    rw [List.length_replicate, List.map_replicate]
    exact ⟨by simp, .inr ⟨X, nt, _, rfl, Nat.zero_le _, hX, Nat.le_refl _, by unfold maxLen; omega, by rw [size_madeCells]; omega, by rw [made_list]; simp⟩⟩
  · show W.ownsRow 0 _ 1 _ (fillU nk 0 cap).length ((fillU nk 0 cap).map (Value.int .i64))
    rw [fillU_zero, List.length_replicate, List.map_replicate]
    exact ⟨by simp, .inr ⟨Y, nk, _, rfl, Nat.zero_le _, hYb, Nat.le_refl _, by unfold maxLen; omega, by rw [size_madeCells]; omega, by rw [made_list]; simp⟩⟩

set_option maxRecDepth 100000 in
set_option maxHeartbeats 4000000 in
theorem begin_any (c : CfgG) (w : World) (hc : cfgOk c = true) :
    Calls Try.prog 16 #[cfgV c] w fun e w' => ∃ p V, e = .returned (.pointer (some ⟨p, 0, none⟩)) ∧ BookAt w' p V (startB c) ∧ Chg (fun _ => False) w w' ∧ ∀ k, V.foot p k → w.heap.size ≤ k := by
  unfold cfgV
  obtain ⟨⟨a1, a2⟩, ⟨a3, a4⟩, ⟨a5, a6⟩, ⟨a7, a8⟩, a9, a10⟩ := cfgOk_true hc
  obtain ⟨tk, cap, res, ten, quo⟩ := c
  simp only at *
  obtain ⟨nt, rfl⟩ := Int.eq_ofNat_of_zero_le (show 0 ≤ ten by omega)
  obtain ⟨nk, rfl⟩ := Int.eq_ofNat_of_zero_le (show 0 ≤ tk by omega)
  have hmk1 := run_make_row' (P := Try.prog) 64 4 (.bool false) 1 Try.underlying64 infoBool rfl .i64 .i64 nt (by omega) (by omega)
  have hmk2 := run_make_row' (P := Try.prog) 27 3 (.int .i64 0) 8 Try.underlying27 infoInt' rfl .i64 .i64 nk (by omega) (by omega)
  clear hc
  go_enter Try.func16, Try.ntmps16
  go_wp2_with fail
  obtain ⟨w1, hw1⟩ : ∃ w1, w1 = w.alloc (.cells #[.int .i64 (nk : Int), .int .i64 cap, .int .i64 res, .int .i64 (nt : Int), .int .i64 quo] 38) := ⟨_, rfl⟩
  rw [← hw1]
  have hb1 : w1.heap[w.heap.size]? = some (.cells #[.int .i64 (nk : Int), .int .i64 cap, .int .i64 res, .int .i64 (nt : Int), .int .i64 quo] 38 (0, 0)) := by rw [hw1]; exact heap_alloc_new w _
  have HC1 : Hid (Chg (fun _ => False) w w1) := by rw [hw1]; exact (Chg.refl _ _).alloc _
  have hs1 : w1.heap.size = w.heap.size + 1 := by rw [hw1]; simp
  have HS1 := hide hs1
  have q0 : w1.cell? ⟨w.heap.size, 0, none⟩ = some (.int .i64 (nk : Int)) := by unfold World.cell?; rw [hb1]; rfl
  have q1 : w1.cell? ⟨w.heap.size, 1, none⟩ = some (.int .i64 cap) := by unfold World.cell?; rw [hb1]; rfl
  have q2 : w1.cell? ⟨w.heap.size, 2, none⟩ = some (.int .i64 res) := by unfold World.cell?; rw [hb1]; rfl
  have q3 : w1.cell? ⟨w.heap.size, 3, none⟩ = some (.int .i64 (nt : Int)) := by unfold World.cell?; rw [hb1]; rfl
  have q4 : w1.cell? ⟨w.heap.size, 4, none⟩ = some (.int .i64 quo) := by unfold World.cell?; rw [hb1]; rfl
  have n1 : w1.heap.size ≠ w.heap.size := by omega
  have n2 : w1.heap.size + 1 ≠ w.heap.size := by omega
  have n3 : w1.heap.size + 2 ≠ w.heap.size := by omega
  have n4 : w.heap.size ≠ w1.heap.size + 2 := by omega
  have n5 : w.heap.size ≠ w1.heap.size + 1 := by omega
  have n6 : w.heap.size ≠ w1.heap.size := by omega
  have n7 : w1.heap.size + 1 + 1 ≠ w.heap.size := by omega
  have hk1 : ∀ x f, (w1.alloc x).cell? ⟨w.heap.size, f, none⟩ = w1.cell? ⟨w.heap.size, f, none⟩ := fun x f => World.cell?_alloc_lt _ _ _ (by show w.heap.size < _; omega)
  have hk2 : ∀ x y f, ((w1.alloc x).alloc y).cell? ⟨w.heap.size, f, none⟩ = w1.cell? ⟨w.heap.size, f, none⟩ := fun x y f => by rw [World.cell?_alloc_lt _ _ _ (by show w.heap.size < _; simp; omega)]; exact hk1 x f
  have hk3 : ∀ x y z f, (((w1.alloc x).alloc y).alloc z).cell? ⟨w.heap.size, f, none⟩ = w1.cell? ⟨w.heap.size, f, none⟩ := fun x y z f => by rw [World.cell?_alloc_lt _ _ _ (by show w.heap.size < _; simp; omega)]; exact hk2 x y f
  have HB1 := hide hb1
  clear hw1 hb1 hs1
  go_region_held3 (fun w' => w'.cell? ⟨w.heap.size, 0, none⟩ = some (.int .i64 (nk : Int)) ∧ w'.cell? ⟨w.heap.size, 1, none⟩ = some (.int .i64 cap) ∧ w'.cell? ⟨w.heap.size, 2, none⟩ = some (.int .i64 res) ∧ w'.cell? ⟨w.heap.size, 3, none⟩ = some (.int .i64 (nt : Int)) ∧ w'.cell? ⟨w.heap.size, 4, none⟩ = some (.int .i64 quo)) (go_keep) (fail)
  · obtain ⟨W, hW⟩ : ∃ W, W = (((w1.alloc (.cells (madeCells #[.bool false] nt) 4)).alloc (.cells (madeCells #[.int .i64 0] nk) 3)).alloc (.cells #[.int .i64 (nk : Int), .int .i64 cap, .int .i64 res, .int .i64 (nt : Int), .int .i64 quo, .slice none 0 0, .slice (some ⟨w1.heap.size, 0, none⟩) nt nt, .slice (some ⟨w1.heap.size + 1, 0, none⟩) nk nk] 66)).drew := ⟨_, rfl⟩
    rw [← hW]
    obtain ⟨t0, t1, t2⟩ := three_alloc w1 (.cells (madeCells #[.bool false] nt) 4) (.cells (madeCells #[.int .i64 0] nk) 3) (.cells #[.int .i64 (nk : Int), .int .i64 cap, .int .i64 res, .int .i64 (nt : Int), .int .i64 quo, .slice none 0 0, .slice (some ⟨w1.heap.size, 0, none⟩) nt nt, .slice (some ⟨w1.heap.size + 1, 0, none⟩) nk nk] 66)
    have hbk := begin_mk (by omega) (by omega) (W := (((w1.alloc (.cells (madeCells #[.bool false] nt) 4)).alloc (.cells (madeCells #[.int .i64 0] nk) 3)).alloc (.cells #[.int .i64 (nk : Int), .int .i64 cap, .int .i64 res, .int .i64 (nt : Int), .int .i64 quo, .slice none 0 0, .slice (some ⟨w1.heap.size, 0, none⟩) nt nt, .slice (some ⟨w1.heap.size + 1, 0, none⟩) nk nk] 66)).drew) t2 t0 t1
    rw [← hW] at hbk
    have hcW : Chg (fun _ => False) w1 W := by rw [hW]; exact ((((Chg.refl _ w1).alloc _).alloc _).alloc _).drew
    have HBK := hide hbk
    have HCW := hide hcW
    clear t0 t1 t2 hW hbk hcW q0 q1 q2 q3 q4 hmk1 hmk2 hk1 hk2 hk3 n1 n2 n3 n4 n5 n6 n7
    go_wp2
    go_loopw [4] (fun y wr => ∃ k : Nat, k ≤ nk ∧ y = .int .i64 k ∧ BookAt wr (w1.heap.size + 1 + 1) ⟨.slice none 0 0, .slice (some ⟨w1.heap.size, 0, none⟩) nt nt, .slice (some ⟨w1.heap.size + 1, 0, none⟩) nk nk⟩ ⟨⟨nk, cap, res, nt, quo⟩, [], List.replicate nt false, fillU nk k cap⟩ ∧ Chg (fun _ => False) w1 wr) (fun y _ => nk - (intOf y).toNat)
    case atStart => exact ⟨0, by omega, rfl, HBK.out, HCW.out⟩
    case round =>
      clear HBK HCW
      obtain ⟨k, hk, rfl, hbk, hch⟩ := hrel
      have hbr := (hch.block _ (by have := HS1.out; omega) (fun h => h)).trans HB1.out
      have q0 : wr.cell? ⟨w.heap.size, 0, none⟩ = some (.int .i64 (nk : Int)) := by unfold World.cell?; rw [hbr]; rfl
      have q1 : wr.cell? ⟨w.heap.size, 1, none⟩ = some (.int .i64 cap) := by unfold World.cell?; rw [hbr]; rfl
      have HBK := hide hbk
      have HCH := hide hch
      by_cases hlt : k < nk
      · have hul : k < (fillU nk k cap).length := by simp [fillU]; exact hlt
        obtain ⟨g, gc, hv, hown, hgl, hcl, hfr⟩ := hbk.unitCell (i := k) hul
        have hgg : w1.heap.size + 1 = g := by simpa [Value.ownBlock] using hown
        subst hgg
        have c7 : wr.cell? ⟨w1.heap.size + 1 + 1, 7, none⟩ = some (.slice (some ⟨w1.heap.size + 1, 0, none⟩) nk nk) := hbk.cell 7
        have HN := hide (show BookAt _ _ _ _ from hbk.setUnit (u := cap) hul hown)
        have k0 : (0 : Int) ≤ (k : Int) := by omega
        have k1 : (k : Int) < (nk : Int) := by omega
        have ne1 : w1.heap.size + 1 ≠ w.heap.size := by have := HS1.out; omega
        have ne2 : w1.heap.size + 1 ≠ w1.heap.size + 1 + 1 := by omega
        clear hbk hch hbr hv hown
        go_wp2
        go_region_held3 (fun w' => w'.cell? ⟨w.heap.size, 1, none⟩ = some (.int .i64 cap) ∧ w'.cell? ⟨w1.heap.size + 1 + 1, 7, none⟩ = some (.slice (some ⟨w1.heap.size + 1, 0, none⟩) nk nk)) (go_keep) (fail)
        all_goals
          go_wp2
          go_roundw
          case rel => first | exact ⟨k + 1, by omega, by go_num, by rw [← fillU_succ nk k cap hlt]; exact HN.out, HCH.out.setCell (.inr (by dsimp only; omega)) _⟩ | exact ⟨k + 1, by omega, by go_num, by rw [← fillU_succ nk k cap hlt]; exact HN.out.chg0 ((Chg.refl _ _).drew), (HCH.out.setCell (.inr (by dsimp only; omega)) _).drew⟩
          case measure => simp [intOf]; omega
      · have hkn : k = nk := by omega
        have HK := hide hkn
        clear hbk hch hbr hkn
        go_wp2
        go_ret
        have hfb := HBK.out
        rw [HK.out, fillU_all] at hfb
        refine ⟨w1.heap.size + 1 + 1, ⟨.slice none 0 0, .slice (some ⟨w1.heap.size, 0, none⟩) nt nt, .slice (some ⟨w1.heap.size + 1, 0, none⟩) nk nk⟩, rfl, ?_, HC1.out.trans HCH.out (fun _ _ h => h), fun x hx => ?_⟩
        · unfold startB
          simp only [Int.toNat_natCast]
          exact hfb
        · have := HS1.out
          rcases hx with h | h | h | h
          · omega
          · simp [Value.ownBlock] at h
          · simp [Value.ownBlock] at h; omega
          · simp [Value.ownBlock] at h; omega
  · obtain ⟨W, hW⟩ : ∃ W, W = (((w1.alloc (.cells (madeCells #[.int .i64 0] nk) 3)).alloc (.cells (madeCells #[.bool false] nt) 4)).alloc (.cells #[.int .i64 (nk : Int), .int .i64 cap, .int .i64 res, .int .i64 (nt : Int), .int .i64 quo, .slice none 0 0, .slice (some ⟨w1.heap.size + 1, 0, none⟩) nt nt, .slice (some ⟨w1.heap.size, 0, none⟩) nk nk] 66)).drew := ⟨_, rfl⟩
    rw [← hW]
    obtain ⟨t0, t1, t2⟩ := three_alloc w1 (.cells (madeCells #[.int .i64 0] nk) 3) (.cells (madeCells #[.bool false] nt) 4) (.cells #[.int .i64 (nk : Int), .int .i64 cap, .int .i64 res, .int .i64 (nt : Int), .int .i64 quo, .slice none 0 0, .slice (some ⟨w1.heap.size + 1, 0, none⟩) nt nt, .slice (some ⟨w1.heap.size, 0, none⟩) nk nk] 66)
    have hbk := begin_mk (by omega) (by omega) (W := (((w1.alloc (.cells (madeCells #[.int .i64 0] nk) 3)).alloc (.cells (madeCells #[.bool false] nt) 4)).alloc (.cells #[.int .i64 (nk : Int), .int .i64 cap, .int .i64 res, .int .i64 (nt : Int), .int .i64 quo, .slice none 0 0, .slice (some ⟨w1.heap.size + 1, 0, none⟩) nt nt, .slice (some ⟨w1.heap.size, 0, none⟩) nk nk] 66)).drew) t2 t1 t0
    rw [← hW] at hbk
    have hcW : Chg (fun _ => False) w1 W := by rw [hW]; exact ((((Chg.refl _ w1).alloc _).alloc _).alloc _).drew
    have HBK := hide hbk
    have HCW := hide hcW
    clear t0 t1 t2 hW hbk hcW q0 q1 q2 q3 q4 hmk1 hmk2 hk1 hk2 hk3 n1 n2 n3 n4 n5 n6 n7
    go_wp2
    go_loopw [4] (fun y wr => ∃ k : Nat, k ≤ nk ∧ y = .int .i64 k ∧ BookAt wr (w1.heap.size + 1 + 1) ⟨.slice none 0 0, .slice (some ⟨w1.heap.size + 1, 0, none⟩) nt nt, .slice (some ⟨w1.heap.size, 0, none⟩) nk nk⟩ ⟨⟨nk, cap, res, nt, quo⟩, [], List.replicate nt false, fillU nk k cap⟩ ∧ Chg (fun _ => False) w1 wr) (fun y _ => nk - (intOf y).toNat)
    case atStart => exact ⟨0, by omega, rfl, HBK.out, HCW.out⟩
    case round =>
      clear HBK HCW
      obtain ⟨k, hk, rfl, hbk, hch⟩ := hrel
      have hbr := (hch.block _ (by have := HS1.out; omega) (fun h => h)).trans HB1.out
      have q0 : wr.cell? ⟨w.heap.size, 0, none⟩ = some (.int .i64 (nk : Int)) := by unfold World.cell?; rw [hbr]; rfl
      have q1 : wr.cell? ⟨w.heap.size, 1, none⟩ = some (.int .i64 cap) := by unfold World.cell?; rw [hbr]; rfl
      have HBK := hide hbk
      have HCH := hide hch
      by_cases hlt : k < nk
      · have hul : k < (fillU nk k cap).length := by simp [fillU]; exact hlt
        obtain ⟨g, gc, hv, hown, hgl, hcl, hfr⟩ := hbk.unitCell (i := k) hul
        have hgg : w1.heap.size = g := by simpa [Value.ownBlock] using hown
        subst hgg
        have c7 : wr.cell? ⟨w1.heap.size + 1 + 1, 7, none⟩ = some (.slice (some ⟨w1.heap.size, 0, none⟩) nk nk) := hbk.cell 7
        have HN := hide (show BookAt _ _ _ _ from hbk.setUnit (u := cap) hul hown)
        have k0 : (0 : Int) ≤ (k : Int) := by omega
        have k1 : (k : Int) < (nk : Int) := by omega
        have ne1 : w1.heap.size ≠ w.heap.size := by have := HS1.out; omega
        have ne2 : w1.heap.size ≠ w1.heap.size + 1 + 1 := by omega
        clear hbk hch hbr hv hown
        go_wp2
        go_region_held3 (fun w' => w'.cell? ⟨w.heap.size, 1, none⟩ = some (.int .i64 cap) ∧ w'.cell? ⟨w1.heap.size + 1 + 1, 7, none⟩ = some (.slice (some ⟨w1.heap.size, 0, none⟩) nk nk)) (go_keep) (fail)
        all_goals
          go_wp2
          go_roundw
          case rel => first | exact ⟨k + 1, by omega, by go_num, by rw [← fillU_succ nk k cap hlt]; exact HN.out, HCH.out.setCell (.inr (by dsimp only; omega)) _⟩ | exact ⟨k + 1, by omega, by go_num, by rw [← fillU_succ nk k cap hlt]; exact HN.out.chg0 ((Chg.refl _ _).drew), (HCH.out.setCell (.inr (by dsimp only; omega)) _).drew⟩
          case measure => simp [intOf]; omega
      · have hkn : k = nk := by omega
        have HK := hide hkn
        clear hbk hch hbr hkn
        go_wp2
        go_ret
        have hfb := HBK.out
        rw [HK.out, fillU_all] at hfb
        refine ⟨w1.heap.size + 1 + 1, ⟨.slice none 0 0, .slice (some ⟨w1.heap.size + 1, 0, none⟩) nt nt, .slice (some ⟨w1.heap.size, 0, none⟩) nk nk⟩, rfl, ?_, HC1.out.trans HCH.out (fun _ _ h => h), fun x hx => ?_⟩
        · unfold startB
          simp only [Int.toNat_natCast]
          exact hfb
        · have := HS1.out
          rcases hx with h | h | h | h
          · omega
          · simp [Value.ownBlock] at h
          · simp [Value.ownBlock] at h; omega
          · simp [Value.ownBlock] at h; omega
end Go.Proofs.Ytminceigjejipaa

/-
  yardkeep: 'notes'.
-/
namespace Go.Proofs.Ytminceigjejipaa
open Go.RowKit

/-- a bid that was submitted at step i -/
def knownNew (i now : Int) (s : StepG) : KnownG := ⟨s.a, s.b, s.job, atOf now s.job, i, 1, -1, false⟩
/-- what a step, answered so, makes of the book -/
def noteB (b : BookG) (i : Int) (s : StepG) (z now : Int) : BookG :=
  if z = 0 ∧ s.kind = 1 then { b with bids := b.bids ++ [knownNew i now s] }
  else if z = 0 ∧ s.kind = 3 then { b with susp := b.susp.set s.a.toNat (evenB s.b) }
  else if z = 0 ∧ s.kind = 4 then { b with units := unitsTo b.units s.a s.b s.c }
  else b
structure NoteOk (b : BookG) (s : StepG) (z now : Int) : Prop where
  k1 : z = 0 → s.kind = 1 → (0 ≤ s.a ∧ s.a < b.c.ten) ∧ jobIn b.c.ticks s.job = true ∧ atOf now s.job + s.job.len ≤ s.job.dl
  k3 : z = 0 → s.kind = 3 → 0 ≤ s.a ∧ s.a < b.c.ten
  k4 : z = 0 → s.kind = 4 → now ≤ s.a ∧ s.a < s.b ∧ s.b ≤ b.c.ticks

theorem infoKnown : (Try.prog.info? 70).map (fun i => (i.zero, i.size, i.bytes)) = some (some (.agg #[.int .i64 0, .int .i64 0, .int .i64 0, .int .i64 0, .int .i64 0, .int .i64 0, .int .i64 0, .int .i64 0, .int .i64 0, .int .i64 0, .int .i64 0, .bool false]), 12, 96) := by kernel_rfl

set_option maxRecDepth 100000 in
set_option maxHeartbeats 2000000 in
theorem notes_err (p : Nat) (V : BV) (b : BookG) (i z now : Int) (s : StepG) (w : World) (hb : BookAt w p V b) (hz : z ≠ 0) :
    Calls Try.prog 19 #[.pointer (some ⟨p, 0, none⟩), .int .i64 i, stepV s, .int .i64 z, .int .i64 now] w fun e w' => e = .returned (.bool true) ∧ BookTo w p V b w' := by
  obtain ⟨k, sa, sb, sc, j⟩ := s
  unfold stepV
  have HB := hide hb
  have hz1 : (z == 0) = false := by simpa using hz
  clear hb
  go_enter Try.func19, Try.ntmps19
  go_wp2
  go_ret
  exact ⟨rfl, BookTo.same HB.out ((Chg.refl _ _).alloc _)⟩

set_option maxRecDepth 100000 in
set_option maxHeartbeats 2000000 in
theorem notes_none (p : Nat) (V : BV) (b : BookG) (i now : Int) (s : StepG) (w : World) (hb : BookAt w p V b) (h1 : s.kind ≠ 1) (h3 : s.kind ≠ 3) (h4 : s.kind ≠ 4) :
    Calls Try.prog 19 #[.pointer (some ⟨p, 0, none⟩), .int .i64 i, stepV s, .int .i64 0, .int .i64 now] w fun e w' => e = .returned (.bool true) ∧ BookTo w p V b w' := by
  obtain ⟨k, sa, sb, sc, j⟩ := s
  simp only at h1 h3 h4
  unfold stepV
  have HB := hide hb
  have e1 : (k == 1) = false := by simpa using h1
  have e3 : (k == 3) = false := by simpa using h3
  have e4 : (k == 4) = false := by simpa using h4
  clear hb
  go_enter Try.func19, Try.ntmps19
  go_wp2
  go_ret
  exact ⟨rfl, BookTo.same HB.out ((Chg.refl _ _).alloc _)⟩

set_option maxRecDepth 100000 in
set_option maxHeartbeats 4000000 in
theorem notes_susp (p : Nat) (V : BV) (b : BookG) (i now sa sb sc : Int) (j : JobG) (w : World) (hb : BookAt w p V b) (ha : 0 ≤ sa ∧ sa < b.c.ten) (hl : b.susp.length = b.c.ten.toNat) :
    Calls Try.prog 19 #[.pointer (some ⟨p, 0, none⟩), .int .i64 i, stepV ⟨3, sa, sb, sc, j⟩, .int .i64 0, .int .i64 now] w fun e w' => e = .returned (.bool true) ∧ BookTo w p V { b with susp := b.susp.set sa.toNat (evenB sb) } w' := by
  unfold stepV
  obtain ⟨n, hn⟩ := Int.eq_ofNat_of_zero_le ha.1
  have hnl : n < b.susp.length := by omega
  have HB := hide hb
  have hpl := hb.lt
  obtain ⟨g, cap, hv, hown, hgl, hcl, hfr⟩ := hb.suspCell hnl
  have HOW := hide hown
  have c3 : w.cell? ⟨p, 3, none⟩ = some (.int .i64 b.c.ten) := hb.cell 3
  have c6 : w.cell? ⟨p, 6, none⟩ = some (.slice (some ⟨g, 0, none⟩) b.susp.length cap) := by rw [← hv]; exact hb.cell 6
  have d1 : decide (sa < 0) = false := by simp; omega
  have d2 : decide (b.c.ten ≤ sa) = false := by simp; omega
  have d1' : decide ((n : Int) < 0) = false := by simp
  have d2' : decide (b.c.ten ≤ (n : Int)) = false := by simp; omega
  have n0 : (0 : Int) ≤ (n : Int) := by omega
  have n1 : (n : Int) < (b.susp.length : Int) := by omega
  obtain ⟨w1, hw1⟩ : ∃ w1, w1 = w.alloc (.cells #[.int .i64 3, .int .i64 sa, .int .i64 sb, .int .i64 sc, .int .i64 j.arr, .int .i64 j.dl, .int .i64 j.len, .int .i64 j.units, .int .i64 j.val] 56) := ⟨_, rfl⟩
  have HC1 : Hid (Chg (fun _ => False) w w1) := by rw [hw1]; exact (Chg.refl _ _).alloc _
  have hb1 : w1.heap[w.heap.size]? = some (.cells #[.int .i64 3, .int .i64 sa, .int .i64 sb, .int .i64 sc, .int .i64 j.arr, .int .i64 j.dl, .int .i64 j.len, .int .i64 j.units, .int .i64 j.val] 56 (0, 0)) := by rw [hw1]; exact heap_alloc_new w _
  have q1 : w1.cell? ⟨w.heap.size, 1, none⟩ = some (.int .i64 (n : Int)) := by rw [← hn]; unfold World.cell?; rw [hb1]; rfl
  have q2 : w1.cell? ⟨w.heap.size, 2, none⟩ = some (.int .i64 sb) := by unfold World.cell?; rw [hb1]; rfl
  have q0 : w1.cell? ⟨w.heap.size, 0, none⟩ = some (.int .i64 3) := by unfold World.cell?; rw [hb1]; rfl
  have x3 : w1.cell? ⟨p, 3, none⟩ = some (.int .i64 b.c.ten) := by rw [HC1.out.cell (by exact hpl) (fun h => h)]; exact c3
  have x6 : w1.cell? ⟨p, 6, none⟩ = some (.slice (some ⟨g, 0, none⟩) b.susp.length cap) := by rw [HC1.out.cell (by exact hpl) (fun h => h)]; exact c6
  have xg : w1.cell? ⟨g, n, none⟩ = some (.bool (b.susp.getD n false)) := by rw [HC1.out.cell (by exact hgl) (fun h => h)]; exact hcl
  have xf : w1.frozen? ⟨g, n, none⟩ = false := by rw [HC1.out.frozen (by exact hgl) (fun h => h)]; exact hfr
  have HSET := hide (fun (s : Bool) => (HB.out.chg0 HC1.out).setSusp (s := s) hnl HOW.out)
  have hgn : g ≠ w.heap.size := by omega
  have hgp : g ≠ p := fun e => ownsRow_box hb.susp hb.box (by decide) (e ▸ hown)
  have hpn : p ≠ w.heap.size := by omega
  have hev : evenB sb = (sb.tmod 2 == 0) := rfl
  have HEV := hide hev
  have hnn : sa.toNat = n := by omega
  rw [hnn]
  subst hn
  clear hb hv hown hcl hfr c3 c6 hgl hev hl
  generalize b.susp.length = nl at *
  go_enter Try.func19, Try.ntmps19
  go_wp2
  rw [← hw1]
  clear hw1 hb1
  go_quiet (fail)
  go_wp2
  obtain ⟨w2, hw2⟩ : ∃ w2, w2 = w1.drewN nq := ⟨_, rfl⟩
  rw [← hw2]
  have HC2 : Hid (Chg (fun _ => False) w1 w2) := by rw [hw2]; exact (Chg.refl _ _).drewN _
  have y6 : w2.cell? ⟨p, 6, none⟩ = some (.slice (some ⟨g, 0, none⟩) nl cap) := by rw [hw2]; exact x6
  have y1 : w2.cell? ⟨w.heap.size, 1, none⟩ = some (.int .i64 (n : Int)) := by rw [hw2]; exact q1
  have y2 : w2.cell? ⟨w.heap.size, 2, none⟩ = some (.int .i64 sb) := by rw [hw2]; exact q2
  have yg : w2.cell? ⟨g, n, none⟩ = some (.bool (b.susp.getD n false)) := by rw [hw2]; exact xg
  have yf : w2.frozen? ⟨g, n, none⟩ = false := by rw [hw2]; exact xf
  have HSET2 := hide (fun (s : Bool) => show BookAt (w2.setCell ⟨g, n, none⟩ (.bool s)) p V { b with susp := b.susp.set n s } from by rw [hw2]; exact (HSET.out s).frame (fun k _ => rfl))
  clear hw2 x6 q1 q2 xg xf q0 x3 HSET d1 d2 d1' d2'
  have n2 : n < nl := by omega
  go_region_held3 (fun w' => w'.cell? ⟨p, 6, none⟩ = some (.slice (some ⟨g, 0, none⟩) nl cap) ∧ w'.cell? ⟨w.heap.size, 1, none⟩ = some (.int .i64 (n : Int)) ∧ w'.cell? ⟨w.heap.size, 2, none⟩ = some (.int .i64 sb)) (go_keep) (fail)
  all_goals
    go_wp2
    go_ret
    refine ⟨rfl, V, ?_, ?_, fun _ hk => .inl hk⟩
    · first | exact HSET2.out _ | exact (HSET2.out _).chg0 ((Chg.refl _ _).drew)
    · first | exact (((HC1.out.trans HC2.out (fun _ _ h => h)).mono (O' := V.foot p) (fun _ _ h => h.elim)).setCell (.inl (.inr (.inr (.inl HOW.out)))) _) | exact (((HC1.out.trans HC2.out (fun _ _ h => h)).mono (O' := V.foot p) (fun _ _ h => h.elim)).setCell (.inl (.inr (.inr (.inl HOW.out)))) _).drew

set_option maxRecDepth 100000 in
set_option maxHeartbeats 4000000 in
theorem notes_units (p : Nat) (V : BV) (b : BookG) (i now sa sb sc : Int) (j : JobG) (w : World) (hb : BookAt w p V b) (ha : now ≤ sa ∧ sa < sb ∧ sb ≤ b.c.ticks) (h0 : 0 ≤ now) (hl : b.units.length = b.c.ticks.toNat) (h64 : b.c.ticks ≤ 64) :
    Calls Try.prog 19 #[.pointer (some ⟨p, 0, none⟩), .int .i64 i, stepV ⟨4, sa, sb, sc, j⟩, .int .i64 0, .int .i64 now] w fun e w' => e = .returned (.bool true) ∧ BookTo w p V { b with units := unitsTo b.units sa sb sc } w' := by
  unfold stepV
  obtain ⟨n, rfl⟩ := Int.eq_ofNat_of_zero_le (show 0 ≤ sa by omega)
  obtain ⟨e, rfl⟩ := Int.eq_ofNat_of_zero_le (show 0 ≤ sb by omega)
  have hel : e ≤ b.units.length := by omega
  have hul : b.units.length ≤ 64 := by omega
  have HB := hide hb
  have hpl := hb.lt
  have c0 : w.cell? ⟨p, 0, none⟩ = some (.int .i64 b.c.ticks) := hb.cell 0
  have d1 : decide ((n : Int) < now) = false := by simp; omega
  have d2 : decide ((e : Int) ≤ (n : Int)) = false := by simp; omega
  have d2' : decide (e ≤ n) = false := by simp; omega
  have d3 : decide (b.c.ticks < (e : Int)) = false := by simp; omega
  have hne : n < e := by omega
  obtain ⟨w1, hw1⟩ : ∃ w1, w1 = w.alloc (.cells #[.int .i64 4, .int .i64 (n : Int), .int .i64 (e : Int), .int .i64 sc, .int .i64 j.arr, .int .i64 j.dl, .int .i64 j.len, .int .i64 j.units, .int .i64 j.val] 56) := ⟨_, rfl⟩
  have HC1 : Hid (Chg (fun _ => False) w w1) := by rw [hw1]; exact (Chg.refl _ _).alloc _
  have hb1 : w1.heap[w.heap.size]? = some (.cells #[.int .i64 4, .int .i64 (n : Int), .int .i64 (e : Int), .int .i64 sc, .int .i64 j.arr, .int .i64 j.dl, .int .i64 j.len, .int .i64 j.units, .int .i64 j.val] 56 (0, 0)) := by rw [hw1]; exact heap_alloc_new w _
  have hl1 : w.heap.size < w1.heap.size := (Array.getElem?_eq_some_iff.1 hb1).1
  have q0 : w1.cell? ⟨w.heap.size, 0, none⟩ = some (.int .i64 4) := by unfold World.cell?; rw [hb1]; rfl
  have q1 : w1.cell? ⟨w.heap.size, 1, none⟩ = some (.int .i64 (n : Int)) := by unfold World.cell?; rw [hb1]; rfl
  have q2 : w1.cell? ⟨w.heap.size, 2, none⟩ = some (.int .i64 (e : Int)) := by unfold World.cell?; rw [hb1]; rfl
  have x0 : w1.cell? ⟨p, 0, none⟩ = some (.int .i64 b.c.ticks) := by rw [HC1.out.cell (by exact hpl) (fun h => h)]; exact c0
  have HB1 := hide hb1
  have hbkx := HB.out.chg0 HC1.out
  have HBK1 := hide hbkx
  clear hb hb1 c0 hbkx hl
  go_enter Try.func19, Try.ntmps19
  go_wp2
  rw [← hw1]
  clear hw1
  go_quiet (fail)
  go_wp2
  obtain ⟨w2, hw2⟩ : ∃ w2, w2 = w1.drewN nq := ⟨_, rfl⟩
  rw [← hw2]
  have HC2 : Hid (Chg (fun _ => False) w1 w2) := by rw [hw2]; exact (Chg.refl _ _).drewN _
  clear hw2 q0 q1 x0 q2 d1 d2 d3 d2'
  go_loopw [13] (fun y wr => ∃ k : Nat, n ≤ k ∧ k ≤ e ∧ y = .int .i64 k ∧ BookAt wr p V { b with units := unitsTo b.units n k sc } ∧ Chg (V.foot p) w1 wr) (fun y _ => e - (intOf y).toNat)
  case atStart => exact ⟨n, Nat.le_refl _, by omega, rfl, by rw [unitsTo_start]; exact HBK1.out.chg0 HC2.out, HC2.out.mono (fun _ _ h => h.elim)⟩
  case round =>
    obtain ⟨k, hk1, hk2, rfl, hbk, hch⟩ := hrel
    have hnf : ¬ V.foot p w.heap.size := fun h => by have := HB.out.foot_lt _ h; omega
    have hbr := (hch.block _ hl1 hnf).trans HB1.out
    have q2 : wr.cell? ⟨w.heap.size, 2, none⟩ = some (.int .i64 (e : Int)) := by unfold World.cell?; rw [hbr]; rfl
    have q3 : wr.cell? ⟨w.heap.size, 3, none⟩ = some (.int .i64 sc) := by unfold World.cell?; rw [hbr]; rfl
    have HBK := hide hbk
    have HCH := hide hch
    by_cases hlt : k < e
    · have hlen : (unitsTo b.units n k sc).length = b.units.length := unitsTo_len _ _ _ _
      have hkl : k < (unitsTo b.units n k sc).length := by rw [hlen]; omega
      obtain ⟨g, gc, hv, hown, hgl, hcl, hfr⟩ := hbk.unitCell (i := k) hkl
      have c7 : wr.cell? ⟨p, 7, none⟩ = some (.slice (some ⟨g, 0, none⟩) b.units.length gc) := by rw [← hlen, ← show V.uv = .slice (some ⟨g, 0, none⟩) (unitsTo b.units n k sc).length gc from hv]; exact hbk.cell 7
      have HN := hide (hbk.setUnit (u := sc) hkl hown)
      have HOW := hide hown
      have k0 : (0 : Int) ≤ (k : Int) := by omega
      have k1 : (k : Int) < (b.units.length : Int) := by omega
      have k2 : k < b.units.length := by omega
      have ne1 : g ≠ w.heap.size := fun e => hnf (e ▸ .inr (.inr (.inr hown)))
      have ne2 : g ≠ p := fun e => ownsRow_box hbk.units hbk.box (by decide) (e ▸ hown)
      clear hbk hch hbr hv hown hlen hkl hnf
      generalize b.units.length = ul at *
      go_wp2
      go_region_held3 (fun w' => w'.cell? ⟨w.heap.size, 3, none⟩ = some (.int .i64 sc) ∧ w'.cell? ⟨p, 7, none⟩ = some (.slice (some ⟨g, 0, none⟩) ul gc)) (go_keep) (fail)
      all_goals
        go_wp2
        go_roundw
        case rel => first | exact ⟨k + 1, by omega, by omega, by go_num, by have := HN.out; simp only [unitsTo_step b.units n k sc hk1] at this; exact this, HCH.out.setCell (.inl (.inr (.inr (.inr HOW.out)))) _⟩ | exact ⟨k + 1, by omega, by omega, by go_num, by have := HN.out; simp only [unitsTo_step b.units n k sc hk1] at this; exact this.chg0 ((Chg.refl _ _).drew), (HCH.out.setCell (.inl (.inr (.inr (.inr HOW.out)))) _).drew⟩
        case measure => simp [intOf]; omega
    · have hke : k = e := by omega
      have HK := hide hke
      clear hbk hch hbr hke
      go_wp2
      go_ret
      exact ⟨rfl, V, by rw [← HK.out]; exact HBK.out, (HC1.out.mono (O' := V.foot p) (fun _ _ h => h.elim)).trans HCH.out (fun _ _ h => h), fun _ hk => .inl hk⟩
end Go.Proofs.Ytminceigjejipaa

/-
  yardkeep: 'notes' of a bid: the region that lays the bid into the book, over a frame that is a variable.
-/
namespace Go.Proofs.Ytminceigjejipaa
open Go.RowKit

/-- the region of that number -/
noncomputable def regionOf (n : Nat) : Code → Option (Array Oper)
  | .region i ops _ => if i == n then some ops else none
  | .seq a b => match regionOf n a with | some o => some o | none => regionOf n b
  | .cond _ a b => match regionOf n a with | some o => some o | none => regionOf n b
  | .block _ a => regionOf n a
  | .loop a => regionOf n a
  | .scope a => regionOf n a
  | _ => none
noncomputable def opsOf (f : Func) (n : Nat) : Array Oper := ((f.body.bind (regionOf n)).getD #[])

section
variable {P : Program} {ops : Array Oper} {Q : Exit → Act → World → Prop} {S : World → Prop} {md : Region.Mode}
theorem take_op {i : Nat} {fuel : Nat} {listed : Array Bool} {a : Act} {w : World} (oi : Oper) (d : Nat) (v : Value) (hi : ops[i]? = some oi) (hd : oi.dst = some d) (hg : oi.guard = none)
    (hs : Region.noSelect ops = true) (hf : Region.free md ops listed i = true) (hr : (Region.ready md ops listed).contains i = true)
    (hQ : ∀ c a d v w, Q (.panic c) (Act.put a d v) w → Q (.panic c) a w) (hy : ∀ w, S w → (execOp a.eval oi).run P w = .ok (.value v) w) (hS : S w)
    (h : wpAnyH P md ops Q S fuel (listed.setIfInBounds i true) (a.put (some d) v) w) : wpAnyH P md ops Q S (fuel + 1) listed a w :=
  wpAnyH_take hi hs hf hr (fun c a w => hQ c a _ v w) (.inl ⟨by simp [Region.wanted, hg], hy⟩) hS (by rw [hd]; exact h)
theorem ready_val {i : Nat} {fuel : Nat} {listed : Array Bool} {a : Act} {w w' : World} {rs : List Nat} (oi : Oper) (d : Nat) (v : Value) (hi : ops[i]? = some oi) (hd : oi.dst = some d) (hg : oi.guard = none)
    (hy : (execOp a.eval oi).run P w = .ok (.value v) w') (hS : S w') (h : wpAnyH P md ops Q S fuel (listed.setIfInBounds i true) (a.put (some d) v) w') (hs : AllReadyH P md ops Q S fuel listed a w rs) : AllReadyH P md ops Q S fuel listed a w (i :: rs) :=
  AllReadyH.cons hi (fun K hK => by
    rw [if_pos (by simp [Region.wanted, hg])]
    unfold Oper.wp
    rw [hy]
    show K (a.put oi.dst v) w'
    rw [hd]
    exact hK.out _ _ hS (fun _ => h)) hs
theorem ready_skip {i : Nat} {fuel : Nat} {listed : Array Bool} {a : Act} {w w' : World} {rs : List Nat} (oi : Oper) (hi : ops[i]? = some oi) (hd : oi.dst = none) (hg : oi.guard = none)
    (hy : (execOp a.eval oi).run P w = .ok .skip w') (hS : S w') (h : wpAnyH P md ops Q S fuel (listed.setIfInBounds i true) a w') (hs : AllReadyH P md ops Q S fuel listed a w rs) : AllReadyH P md ops Q S fuel listed a w (i :: rs) :=
  AllReadyH.cons hi (fun K hK => by
    rw [if_pos (by simp [Region.wanted, hg])]
    unfold Oper.wp
    rw [hy]
    show K (a.put oi.dst undef) w'
    rw [hd]
    exact hK.out _ _ hS (fun _ => h)) hs
theorem ready_wp {i : Nat} {fuel : Nat} {listed : Array Bool} {a : Act} {w : World} {rs : List Nat} (oi : Oper) (hi : ops[i]? = some oi) (hg : oi.guard = none)
    (h : ∀ K : Act → World → Prop, (∀ a w, S w → wpAnyH P md ops Q S fuel (listed.setIfInBounds i true) a w → K a w) → oi.wp P a w K Q) (hs : AllReadyH P md ops Q S fuel listed a w rs) : AllReadyH P md ops Q S fuel listed a w (i :: rs) :=
  AllReadyH.cons hi (fun K hK => by
    rw [if_pos (by simp [Region.wanted, hg])]
    exact h K (fun a w hS hW => hK.out a w hS (fun _ => hW))) hs
theorem run_move' {o : Oper} {a : Act} {v : Value} (x : Operand) (h : o.op = .move x) (hx : a.eval x = v) (w : World) : (execOp a.eval o).run P w = .ok (.value v) w := by
  rw [BigFrame.run_move x h, hx]
theorem run_nil' {o : Oper} {a : Act} {ad : Addr} (x : Operand) (h : o.op = .nilCheck x) (hx : a.eval x = .pointer (some ad)) (w : World) : (execOp a.eval o).run P w = .ok (.value (.pointer (some ad))) w := by
  unfold execOp
  rw [h]
  simp only [hx]
  rfl
theorem run_fld {o : Oper} {a : Act} {ad : Addr} {v : Value} (T : TypeId) (x : Operand) (f : Nat) (h : o.op = .fieldAddr T x f) (hx : a.eval x = .pointer (some ad)) (hr : ∀ w, (Instr.fieldAt T (.pointer (some ad)) f).run P w = .ok v w) (w : World) : (execOp a.eval o).run P w = .ok (.value v) w := by
  unfold execOp
  rw [h]
  simp only [hx, Sem.run_bind, hr, Result.andThen_ok]
  rfl
theorem run_ld {o : Oper} {a : Act} {ad : Addr} {v : Value} (T : TypeId) (x : Operand) (h : o.op = .load T x) (hx : a.eval x = .pointer (some ad)) (w : World) (hr : (Instr.loadAt T (.pointer (some ad))).run P w = .ok v w) : (execOp a.eval o).run P w = .ok (.value v) w := by
  unfold execOp
  rw [h]
  simp only [hx, Sem.run_bind, hr, Result.andThen_ok]
  rfl
theorem run_bsl {o : Oper} {a : Act} {v : Value} (T : TypeId) (n : Nat) (ps : Array (Nat × Operand)) (vs : Array (Nat × Value)) (h : o.op = .buildSlice T n ps) (hx : (ps.map fun (i, x) => (i, a.eval x)) = vs) (w w' : World) (hr : (Instr.buildSlice T n vs).run P w = .ok v w') : (execOp a.eval o).run P w = .ok (.value v) w' := by
  unfold execOp
  rw [h]
  simp only [hx, Sem.run_bind, hr, Result.andThen_ok]
  rfl
theorem run_sto {o : Oper} {a : Act} {u v : Value} (T : TypeId) (x y : Operand) (h : o.op = .store T x y) (hx : a.eval x = u) (hy : a.eval y = v) (w w' : World) (hr : (Instr.storeAt T u v).run P w = .ok () w') : (execOp a.eval o).run P w = .ok .skip w' := by
  unfold execOp
  rw [h]
  simp only [hx, hy, Sem.run_bind, hr, Result.andThen_ok]
  rfl
theorem run_bld {o : Oper} {a : Act} {v : Value} (T : TypeId) (ps : Array (Nat × Operand)) (vs : Array (Nat × Value)) (h : o.op = .build T ps) (hx : (ps.map fun (i, x) => (i, a.eval x)) = vs) (w : World) (hr : (Instr.build T vs).run P w = .ok v w) : (execOp a.eval o).run P w = .ok (.value v) w := by
  unfold execOp
  rw [h]
  simp only [hx, Sem.run_bind, hr, Result.andThen_ok]
  rfl
end

noncomputable def o11 : Array Oper := opsOf Try.f19 11

theorem fld_book (p : Nat) (w : World) : (Instr.fieldAt 66 (.pointer (some ⟨p, 0, none⟩)) 1).run Try.prog w = .ok (.pointer (some ⟨p, 5, none⟩)) w := by go_simp
theorem fld_step1 (p : Nat) (w : World) : (Instr.fieldAt 56 (.pointer (some ⟨p, 0, none⟩)) 1).run Try.prog w = .ok (.pointer (some ⟨p, 1, none⟩)) w := by go_simp
theorem fld_step2 (p : Nat) (w : World) : (Instr.fieldAt 56 (.pointer (some ⟨p, 0, none⟩)) 2).run Try.prog w = .ok (.pointer (some ⟨p, 2, none⟩)) w := by go_simp
theorem ld_int (p k : Nat) (z : Int) (w : World) (h : w.cell? ⟨p, k, none⟩ = some (.int .i64 z)) : (Instr.loadAt 3 (.pointer (some ⟨p, k, none⟩))).run Try.prog w = .ok (.int .i64 z) w := by go_simp
theorem ld_known (p k : Nat) (v : Value) (w : World) (h : w.cell? ⟨p, k, none⟩ = some v) : (Instr.loadAt 63 (.pointer (some ⟨p, k, none⟩))).run Try.prog w = .ok v w := by go_simp
theorem ld_job (r : Nat) (ja jd jl ju jv : Int) (w : World) (z0 : w.cell? ⟨r, 0, none⟩ = some (.int .i64 ja)) (z1 : w.cell? ⟨r, 1, none⟩ = some (.int .i64 jd)) (z2 : w.cell? ⟨r, 2, none⟩ = some (.int .i64 jl)) (z3 : w.cell? ⟨r, 3, none⟩ = some (.int .i64 ju)) (z4 : w.cell? ⟨r, 4, none⟩ = some (.int .i64 jv)) : (Instr.loadAt 54 (.pointer (some ⟨r, 0, none⟩))).run Try.prog w = .ok (.agg #[.int .i64 ja, .int .i64 jd, .int .i64 jl, .int .i64 ju, .int .i64 jv]) w := by go_simp
theorem bld_bid (w : World) : (Instr.build 68 #[(0, .int .i64 1), (1, .int .i64 (-1))]).run Try.prog w = .ok (.agg #[.int .i64 1, .int .i64 (-1)]) w := by go_simp
theorem bld_known (a b ja jd jl ju jv t i : Int) (w : World) : (Instr.build 70 #[(0, .int .i64 a), (1, .int .i64 b), (2, .agg #[.int .i64 ja, .int .i64 jd, .int .i64 jl, .int .i64 ju, .int .i64 jv]), (3, .int .i64 t), (4, .int .i64 i), (5, .agg #[.int .i64 1, .int .i64 (-1)])]).run Try.prog w = .ok (.agg #[.int .i64 a, .int .i64 b, .int .i64 ja, .int .i64 jd, .int .i64 jl, .int .i64 ju, .int .i64 jv, .int .i64 t, .int .i64 i, .int .i64 1, .int .i64 (-1), .bool false]) w := by go_simp

theorem bsl_known (a b ja jd jl ju jv t i : Int) (w : World) : (Instr.buildSlice 63 1 #[(0, .agg #[.int .i64 a, .int .i64 b, .int .i64 ja, .int .i64 jd, .int .i64 jl, .int .i64 ju, .int .i64 jv, .int .i64 t, .int .i64 i, .int .i64 1, .int .i64 (-1), .bool false])]).run Try.prog w = .ok (.slice (some ⟨w.heap.size, 0, none⟩) 1 1) (w.alloc (.cells #[.int .i64 a, .int .i64 b, .int .i64 ja, .int .i64 jd, .int .i64 jl, .int .i64 ju, .int .i64 jv, .int .i64 t, .int .i64 i, .int .i64 1, .int .i64 (-1), .bool false] 70)) := by go_simp
theorem sto_known (p k n c : Nat) (ao : Option Addr) (v : Value) (w : World) (h : w.cell? ⟨p, k, none⟩ = some v) (hf : w.frozen? ⟨p, k, none⟩ = false) : (Instr.storeAt 63 (.pointer (some ⟨p, k, none⟩)) (.slice ao n c)).run Try.prog w = .ok () (w.setCell ⟨p, k, none⟩ (.slice ao n c)) := by go_simp

/-- the cells that are read -/
def BidS (q r : Nat) (sa sb ja jd jl ju jv : Int) : World → Prop := (fun w' : World => w'.cell? ⟨q, 1, none⟩ = some (.int .i64 sa) ∧ w'.cell? ⟨q, 2, none⟩ = some (.int .i64 sb) ∧ w'.cell? ⟨r, 0, none⟩ = some (.int .i64 ja) ∧ w'.cell? ⟨r, 1, none⟩ = some (.int .i64 jd) ∧ w'.cell? ⟨r, 2, none⟩ = some (.int .i64 jl) ∧ w'.cell? ⟨r, 3, none⟩ = some (.int .i64 ju) ∧ w'.cell? ⟨r, 4, none⟩ = some (.int .i64 jv))
theorem BidS.grow {q r : Nat} {sa sb ja jd jl ju jv : Int} {w w' : World} {ob : Option Nat} (h : BidS q r sa sb ja jd jl ju jv w) (hg : w.grownBy w' ob) (hq : ob ≠ some q) (hr : ob ≠ some r) : BidS q r sa sb ja jd jl ju jv w' := by
  have lt : ∀ (b k : Nat) (v : Value), w.cell? ⟨b, k, none⟩ = some v → b < w.heap.size := fun b k v hv => by
    rcases Nat.lt_or_ge b w.heap.size with e | e
    · exact e
    · unfold World.cell? at hv
      rw [Array.getElem?_eq_none e] at hv
      simp at hv
  have far : ∀ (b k : Nat) (v : Value), ob ≠ some b → w.cell? ⟨b, k, none⟩ = some v → w'.cell? ⟨b, k, none⟩ = some v := fun b k v hb hv => (hg.cell_far ⟨b, k, none⟩ (lt b k v hv) (Ne.symm hb)).trans hv
  exact ⟨far _ _ _ hq h.1, far _ _ _ hq h.2.1, far _ _ _ hr h.2.2.1, far _ _ _ hr h.2.2.2.1, far _ _ _ hr h.2.2.2.2.1, far _ _ _ hr h.2.2.2.2.2.1, far _ _ _ hr h.2.2.2.2.2.2⟩
theorem BidS.alloc {q r : Nat} {sa sb ja jd jl ju jv : Int} {w : World} (h : BidS q r sa sb ja jd jl ju jv w) (o : Obj) : BidS q r sa sb ja jd jl ju jv (w.alloc o) := by
  have far : ∀ (b k : Nat) (v : Value), w.cell? ⟨b, k, none⟩ = some v → (w.alloc o).cell? ⟨b, k, none⟩ = some v := fun b k v hv => (World.cell?_alloc_some w _ o (by rw [hv]; rfl)).trans hv
  exact ⟨far _ _ _ h.1, far _ _ _ h.2.1, far _ _ _ h.2.2.1, far _ _ _ h.2.2.2.1, far _ _ _ h.2.2.2.2.1, far _ _ _ h.2.2.2.2.2.1, far _ _ _ h.2.2.2.2.2.2⟩
theorem BidS.set {q r : Nat} {sa sb ja jd jl ju jv : Int} {w : World} (h : BidS q r sa sb ja jd jl ju jv w) {p k : Nat} (hq : p ≠ q) (hr : p ≠ r) (v : Value) : BidS q r sa sb ja jd jl ju jv (w.setCell ⟨p, k, none⟩ v) := by
  have far : ∀ (b j : Nat) (u : Value), p ≠ b → w.cell? ⟨b, j, none⟩ = some u → (w.setCell ⟨p, k, none⟩ v).cell? ⟨b, j, none⟩ = some u := fun b j u hb hv => (World.cell?_setCell_far w _ _ v hb).trans hv
  exact ⟨far _ _ _ hq h.1, far _ _ _ hq h.2.1, far _ _ _ hr h.2.2.1, far _ _ _ hr h.2.2.2.1, far _ _ _ hr h.2.2.2.2.1, far _ _ _ hr h.2.2.2.2.2.1, far _ _ _ hr h.2.2.2.2.2.2⟩

set_option maxRecDepth 100000 in
set_option maxHeartbeats 4000000 in
theorem bid_tail {Q : Exit → Act → World → Prop} (B : Act) (w2 w3 : World) (p q r n bc : Nat) (ba : Option Addr) (V : BV) (b : BookG) (sa sb ja jd jl ju jv at' i : Int) (o : KnownG) (hsz : B.tmps.size = 190)
    (b107 : B.eval (.tmp 107) = .pointer (some ⟨p, 0, none⟩)) (b111 : B.eval (.tmp 111) = .slice ba n bc) (b121 : B.eval (.tmp 121) = .slice (some ⟨w2.heap.size, 0, none⟩) 1 1)
    (hb : BookAt w2 p V b) (hv : V.bv = .slice ba b.bids.length bc) (hn : n = b.bids.length) (hnb : n ≤ 300) (hc : Chg (fun _ => False) w2 w3) (hal : w3.heap[w2.heap.size]? = some (.cells #[.int .i64 sa, .int .i64 sb, .int .i64 ja, .int .i64 jd, .int .i64 jl, .int .i64 ju, .int .i64 jv, .int .i64 at', .int .i64 i, .int .i64 1, .int .i64 (-1), .bool false] 70 (0, 0)))
    (hq : Value.ownBlock (.slice ba n bc) ≠ some q) (hr : Value.ownBlock (.slice ba n bc) ≠ some r) (hpq : p ≠ q) (hpr : p ≠ r)
    (hS : BidS q r sa sb ja jd jl ju jv w3)
    (ho : knownCells o = [.int .i64 sa, .int .i64 sb, .int .i64 ja, .int .i64 jd, .int .i64 jl, .int .i64 ju, .int .i64 jv, .int .i64 at', .int .i64 i, .int .i64 1, .int .i64 (-1), .bool false])
    (hQ : ∀ c a d v w, Q (.panic c) (Act.put a d v) w → Q (.panic c) a w)
    (hK : ∀ (v : Value) (w' : World), BookTo w2 p V { b with bids := b.bids ++ [o] } w' → Q .normal (((B.put (some 122) v).put (some 123) (.pointer (some ⟨p, 0, none⟩))).put (some 124) (.pointer (some ⟨p, 5, none⟩))) w')
    (listed : Array Bool) (hl : listed = #[true, true, true, true, true, true, true, true, true, true, true, true, true, true, true, false, false, false, false]) :
    wpAnyH Try.prog .any o11 Q (BidS q r sa sb ja jd jl ju jv) 4 listed B w3 := by
  subst hl
  obtain ⟨i0', hi, hz0, hz1, hz2⟩ := info_parts infoKnown
  refine wpAnyH_ready (rs := [15]) (by kernel_rfl) (by simp) (ready_wp (i := 15) (o11.getD 15 default) rfl rfl (fun K hk => ?_) AllReadyH.nil)
  refine wp_append_lies _ (.tmp 111) (.tmp 121) 63 rfl 0 70 i0' (.agg #[.int .i64 0, .int .i64 0, .int .i64 0, .int .i64 0, .int .i64 0, .int .i64 0, .int .i64 0, .int .i64 0, .int .i64 0, .int .i64 0, .int .i64 0, .bool false]) 12 96 Try.underlying63 hi hz0 hz1 hz2 rfl (by decide) (.slice ba n bc) n (b.bids.flatMap knownCells) b111 (by rw [hn, ← hv]; exact (hb.chg0 hc).bids) ⟨w2.heap.size, 0, none⟩ 1 1 [.int .i64 sa, .int .i64 sb, .int .i64 ja, .int .i64 jd, .int .i64 jl, .int .i64 ju, .int .i64 jv, .int .i64 at', .int .i64 i, .int .i64 1, .int .i64 (-1), .bool false] b121 rfl (World.news_of_block hal) (by simp [Value.oneCell']) (by decide) (by unfold maxLen; omega) (by omega) (Nat.zero_le _) w3.heap.size rfl ?_
  intro g cap' w6 hown hgrow hat2 hlt2
  rw [← ho] at hown
  obtain ⟨s1, s2, s3⟩ := book_arm hb hv hn hc hown hgrow hat2 hc.size
  have hS6 := hS.grow hgrow hq hr
  refine hk _ _ hS6 ?_
  show wpAnyH _ _ _ _ _ _ _ (B.put (some 122) _) _
  refine take_op (i := 16) (o11.getD 16 default) 123 (.pointer (some ⟨p, 0, none⟩)) rfl rfl rfl (by kernel_rfl) (by kernel_rfl) (by kernel_rfl) hQ (fun w _ => run_nil' (.tmp 107) rfl (by simp [Act.eval_put_ne, b107]) w) hS6 ?_
  refine take_op (i := 17) (o11.getD 17 default) 124 (.pointer (some ⟨p, 5, none⟩)) rfl rfl rfl (by kernel_rfl) (by kernel_rfl) (by kernel_rfl) hQ (fun w _ => run_fld 66 (.tmp 123) 1 rfl (by simp [Act.eval_put_same, Act.size_put, hsz]) (fld_book p) w) hS6 ?_
  refine wpAnyH_ready (rs := [18]) (by kernel_rfl) (by simp) (ready_skip (i := 18) (o11.getD 18 default) rfl rfl rfl (run_sto 63 (.tmp 124) (.tmp 122) rfl (by simp [Act.eval_put_same, Act.size_put, hsz]) (by simp [Act.eval_put_ne, Act.eval_put_same, hsz]) w6 _ (sto_known p 5 (n + 1) cap' (some ⟨g, 0, none⟩) _ w6 s1 s2)) (hS6.set hpq hpr _) ?_ AllReadyH.nil)
  refine wpAnyH_done (by kernel_rfl) ?_ _
  exact hK _ _ s3.out

set_option maxRecDepth 100000 in
set_option maxHeartbeats 4000000 in
theorem bid_region {Q : Exit → Act → World → Prop} (A : Act) (w2 : World) (p q r n bc : Nat) (ba : Option Addr) (V : BV) (b : BookG) (sa sb ja jd jl ju jv at' i : Int) (o : KnownG) (hsz : A.tmps.size = 190)
    (e0 : A.eval (.tmp 0) = .pointer (some ⟨p, 0, none⟩)) (e1 : A.eval (.tmp 1) = .int .i64 i) (e7 : A.eval (.tmp 7) = .pointer (some ⟨q, 0, none⟩)) (e11 : A.eval (.tmp 11) = .pointer (some ⟨r, 0, none⟩)) (e12 : A.eval (.tmp 12) = .int .i64 at')
    (hb : BookAt w2 p V b) (hv : V.bv = .slice ba b.bids.length bc) (hn : n = b.bids.length) (hnb : n ≤ 300)
    (y1 : w2.cell? ⟨q, 1, none⟩ = some (.int .i64 sa)) (y2 : w2.cell? ⟨q, 2, none⟩ = some (.int .i64 sb))
    (z0 : w2.cell? ⟨r, 0, none⟩ = some (.int .i64 ja)) (z1 : w2.cell? ⟨r, 1, none⟩ = some (.int .i64 jd)) (z2 : w2.cell? ⟨r, 2, none⟩ = some (.int .i64 jl)) (z3 : w2.cell? ⟨r, 3, none⟩ = some (.int .i64 ju)) (z4 : w2.cell? ⟨r, 4, none⟩ = some (.int .i64 jv))
    (hq : Value.ownBlock (.slice ba n bc) ≠ some q) (hr : Value.ownBlock (.slice ba n bc) ≠ some r) (hpq : p ≠ q) (hpr : p ≠ r)
    (ho : knownCells o = [.int .i64 sa, .int .i64 sb, .int .i64 ja, .int .i64 jd, .int .i64 jl, .int .i64 ju, .int .i64 jv, .int .i64 at', .int .i64 i, .int .i64 1, .int .i64 (-1), .bool false])
    (hK : ∀ (v107 v108 v109 v110 v112 v113 v114 v115 v116 v117 v118 v119 v120 v111 v121 v122 v123 v124 : Value) (w' : World), BookTo w2 p V { b with bids := b.bids ++ [o] } w' → Q .normal ((((((((((((((((((A.put (some 107) v107).put (some 108) v108).put (some 109) v109).put (some 110) v110).put (some 112) v112).put (some 113) v113).put (some 114) v114).put (some 115) v115).put (some 116) v116).put (some 117) v117).put (some 118) v118).put (some 119) v119).put (some 120) v120).put (some 111) v111).put (some 121) v121).put (some 122) v122).put (some 123) v123).put (some 124) v124) w') :
    (Code.region 11 o11 true).wp Try.prog Q A w2 := by
  have c5 : w2.drew.cell? ⟨p, 5, none⟩ = some (.slice ba n bc) := by rw [hn, ← hv]; exact hb.cell 5
  refine wp_region_noPanic ?_
  have hQ : ∀ c a d v w, NoPanic Q (.panic c) (Act.put a d v) w → NoPanic Q (.panic c) a w := fun _ _ _ _ _ h => h
  refine wp_region_held_drew (S := BidS q r sa sb ja jd jl ju jv) (by kernel_rfl) ⟨y1, y2, z0, z1, z2, z3, z4⟩ (fun hS => ?_)
  refine take_op (i := 0) (o11.getD 0 default) 107 (.pointer (some ⟨p, 0, none⟩)) rfl rfl rfl (by kernel_rfl) (by kernel_rfl) (by kernel_rfl) hQ (fun w _ => run_move' (.tmp 0) rfl (by simp [e0]) w) hS ?_
  refine take_op (i := 1) (o11.getD 1 default) 108 (.pointer (some ⟨p, 0, none⟩)) rfl rfl rfl (by kernel_rfl) (by kernel_rfl) (by kernel_rfl) hQ (fun w _ => run_move' (.tmp 0) rfl (by simp [Act.eval_put_ne, e0]) w) hS ?_
  refine take_op (i := 2) (o11.getD 2 default) 109 (.pointer (some ⟨p, 0, none⟩)) rfl rfl rfl (by kernel_rfl) (by kernel_rfl) (by kernel_rfl) hQ (fun w _ => run_nil' (.tmp 108) rfl (by simp [Act.eval_put_same, Act.size_put, hsz]) w) hS ?_
  refine take_op (i := 3) (o11.getD 3 default) 110 (.pointer (some ⟨p, 5, none⟩)) rfl rfl rfl (by kernel_rfl) (by kernel_rfl) (by kernel_rfl) hQ (fun w _ => run_fld 66 (.tmp 109) 1 rfl (by simp [Act.eval_put_same, Act.size_put, hsz]) (fld_book p) w) hS ?_
  refine take_op (i := 5) (o11.getD 5 default) 112 (.pointer (some ⟨q, 1, none⟩)) rfl rfl rfl (by kernel_rfl) (by kernel_rfl) (by kernel_rfl) hQ (fun w _ => run_fld 56 (.tmp 7) 1 rfl (by simp [Act.eval_put_ne, e7]) (fld_step1 q) w) hS ?_
  refine take_op (i := 6) (o11.getD 6 default) 113 (.int .i64 sa) rfl rfl rfl (by kernel_rfl) (by kernel_rfl) (by kernel_rfl) hQ (fun w hS => run_ld 3 (.tmp 112) rfl (by simp [Act.eval_put_same, Act.size_put, hsz]) w (ld_int q 1 sa w hS.1)) hS ?_
  refine take_op (i := 7) (o11.getD 7 default) 114 (.pointer (some ⟨q, 2, none⟩)) rfl rfl rfl (by kernel_rfl) (by kernel_rfl) (by kernel_rfl) hQ (fun w _ => run_fld 56 (.tmp 7) 2 rfl (by simp [Act.eval_put_ne, e7]) (fld_step2 q) w) hS ?_
  refine take_op (i := 8) (o11.getD 8 default) 115 (.int .i64 sb) rfl rfl rfl (by kernel_rfl) (by kernel_rfl) (by kernel_rfl) hQ (fun w hS => run_ld 3 (.tmp 114) rfl (by simp [Act.eval_put_same, Act.size_put, hsz]) w (ld_int q 2 sb w hS.2.1)) hS ?_
  refine take_op (i := 9) (o11.getD 9 default) 116 (.agg #[.int .i64 ja, .int .i64 jd, .int .i64 jl, .int .i64 ju, .int .i64 jv]) rfl rfl rfl (by kernel_rfl) (by kernel_rfl) (by kernel_rfl) hQ (fun w hS => run_ld 54 (.tmp 11) rfl (by simp [Act.eval_put_ne, e11]) w (ld_job r ja jd jl ju jv w hS.2.2.1 hS.2.2.2.1 hS.2.2.2.2.1 hS.2.2.2.2.2.1 hS.2.2.2.2.2.2)) hS ?_
  refine take_op (i := 10) (o11.getD 10 default) 117 (.int .i64 at') rfl rfl rfl (by kernel_rfl) (by kernel_rfl) (by kernel_rfl) hQ (fun w _ => run_move' (.tmp 12) rfl (by simp [Act.eval_put_ne, e12]) w) hS ?_
  refine take_op (i := 11) (o11.getD 11 default) 118 (.int .i64 i) rfl rfl rfl (by kernel_rfl) (by kernel_rfl) (by kernel_rfl) hQ (fun w _ => run_move' (.tmp 1) rfl (by simp [Act.eval_put_ne, e1]) w) hS ?_
  refine take_op (i := 12) (o11.getD 12 default) 119 (.agg #[.int .i64 1, .int .i64 (-1)]) rfl rfl rfl (by kernel_rfl) (by kernel_rfl) (by kernel_rfl) hQ (fun w _ => run_bld 68 #[(0, .const (.int .i64 1)), (1, .const (.int .i64 (-1)))] #[(0, .int .i64 1), (1, .int .i64 (-1))] rfl (by simp [Act.eval]) w (bld_bid w)) hS ?_
  refine take_op (i := 13) (o11.getD 13 default) 120 (.agg #[.int .i64 sa, .int .i64 sb, .int .i64 ja, .int .i64 jd, .int .i64 jl, .int .i64 ju, .int .i64 jv, .int .i64 at', .int .i64 i, .int .i64 1, .int .i64 (-1), .bool false]) rfl rfl rfl (by kernel_rfl) (by kernel_rfl) (by kernel_rfl) hQ (fun w _ => run_bld 70 #[(0, .tmp 113), (1, .tmp 115), (2, .tmp 116), (3, .tmp 117), (4, .tmp 118), (5, .tmp 119)] #[(0, .int .i64 sa), (1, .int .i64 sb), (2, .agg #[.int .i64 ja, .int .i64 jd, .int .i64 jl, .int .i64 ju, .int .i64 jv]), (3, .int .i64 at'), (4, .int .i64 i), (5, .agg #[.int .i64 1, .int .i64 (-1)])] rfl (by simp [Act.eval_put_ne, Act.eval_put_same, Act.size_put, hsz]) w (bld_known sa sb ja jd jl ju jv at' i w)) hS ?_
  refine wpAnyH_ready (rs := [4, 14]) (by kernel_rfl) (by simp) ?_
  refine ready_val (i := 4) (o11.getD 4 default) 111 (.slice ba n bc) rfl rfl rfl (run_ld 63 (.tmp 110) rfl (by simp [Act.eval_put_ne, Act.eval_put_same, Act.size_put, hsz]) _ (ld_known p 5 _ _ c5)) hS ?_ ?_
  · refine wpAnyH_ready (rs := [14]) (by kernel_rfl) (by simp) (ready_val (i := 14) (o11.getD 14 default) 121 (.slice (some ⟨w2.heap.size, 0, none⟩) 1 1) rfl rfl rfl (run_bsl 63 1 #[(0, .tmp 120)] #[(0, .agg #[.int .i64 sa, .int .i64 sb, .int .i64 ja, .int .i64 jd, .int .i64 jl, .int .i64 ju, .int .i64 jv, .int .i64 at', .int .i64 i, .int .i64 1, .int .i64 (-1), .bool false])] rfl (by simp [Act.eval_put_ne, Act.eval_put_same, Act.size_put, hsz]) _ _ (bsl_known sa sb ja jd jl ju jv at' i _)) (hS.alloc _) ?_ AllReadyH.nil)
    exact bid_tail _ w2 _ p q r n bc ba V b sa sb ja jd jl ju jv at' i o (by simp [Act.size_put, hsz]) (by simp [Act.eval_put_ne, Act.eval_put_same, hsz]) (by simp [Act.eval_put_ne, Act.eval_put_same, Act.size_put, hsz]) (by simp [Act.eval_put_same, Act.size_put, hsz]) hb hv hn hnb ((Chg.refl _ _).drew.alloc _) (heap_alloc_new w2.drew _) hq hr hpq hpr (hS.alloc _) ho hQ (fun v w' h => NoPanic.normal (hK _ _ _ _ _ _ _ _ _ _ _ _ _ _ _ _ _ _ w' h)) _ (by kernel_rfl)
  refine ready_val (i := 14) (o11.getD 14 default) 121 (.slice (some ⟨w2.heap.size, 0, none⟩) 1 1) rfl rfl rfl (run_bsl 63 1 #[(0, .tmp 120)] #[(0, .agg #[.int .i64 sa, .int .i64 sb, .int .i64 ja, .int .i64 jd, .int .i64 jl, .int .i64 ju, .int .i64 jv, .int .i64 at', .int .i64 i, .int .i64 1, .int .i64 (-1), .bool false])] rfl (by simp [Act.eval_put_same, Act.size_put, hsz]) _ _ (bsl_known sa sb ja jd jl ju jv at' i _)) (hS.alloc _) ?_ AllReadyH.nil
  refine wpAnyH_ready (rs := [4]) (by kernel_rfl) (by simp) (ready_val (i := 4) (o11.getD 4 default) 111 (.slice ba n bc) rfl rfl rfl (run_ld 63 (.tmp 110) rfl (by simp [Act.eval_put_ne, Act.eval_put_same, Act.size_put, hsz]) _ (ld_known p 5 _ _ ((World.cell?_alloc_some w2.drew _ _ (by rw [c5]; rfl)).trans c5))) (hS.alloc _) ?_ AllReadyH.nil)
  rw [Act.put_comm _ _ _ (by intro d hd; cases hd; decide)]
  exact bid_tail _ w2 _ p q r n bc ba V b sa sb ja jd jl ju jv at' i o (by simp [Act.size_put, hsz]) (by simp [Act.eval_put_ne, Act.eval_put_same, hsz]) (by simp [Act.eval_put_ne, Act.eval_put_same, Act.size_put, hsz]) (by simp [Act.eval_put_same, Act.size_put, hsz]) hb hv hn hnb ((Chg.refl _ _).drew.alloc _) (heap_alloc_new w2.drew _) hq hr hpq hpr (hS.alloc _) ho hQ (fun v w' h => NoPanic.normal (hK _ _ _ _ _ _ _ _ _ _ _ _ _ _ _ _ _ _ w' h)) _ (by kernel_rfl)
end Go.Proofs.Ytminceigjejipaa
