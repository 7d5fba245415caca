import Derived.Test.YtminceigjejipaaKpA
/-
  yardkeep: OPEN ('works', 'right', 'Case.open'): a market, where the configuration is right.
-/
namespace Go.Proofs.Ytminceigjejipaa
open Go.RowKit

def jobW (c : CfgG) : JobG := ⟨0, c.ticks, 1, 1, 1048576⟩

/-- a fresh market works -/
theorem works_pure {c : CfgG} (hc : cfgOk c = true) {z1 z2 z3 : Int} {m1 m2 m3 : MkG} {names : List (Int × Int)} (h1 : CapacityRes (openM c) 0 c.ticks 1 z1 m1) (h2 : SubmitRes m1 0 1 (jobW c) z2 m2) (h3 : TickRes m2 z3 names m3) :
    z1 = 0 ∧ z2 = 0 ∧ z3 = 0 ∧ names = [(0, 1)] ∧ lookE m3 0 1 = 0 ∧ lookS m3 0 1 = 2 ∧ lookT m3 0 1 = 0 := by
  have hq := cfgOk_true hc
  have hok0 := GoodM.open hc
  have hok1 := hok0.capacity h1
  have hok2 := hok1.submit h2
  have hca : capArg (openM c) 0 c.ticks 1 = false := by simp [capArg, openM]; omega
  have hco : capOk (openM c) 0 c.ticks 1 := fun t _ _ => by simp [openM, usedL]
  obtain ⟨e1, em1⟩ := h1.unique (.inr ⟨by simp [openM], .inr (.inr ⟨hca, hco, rfl, rfl⟩)⟩)
  have hsus : suspAt m1 0 = false := by
    rw [em1]
    show (List.replicate c.ten.toNat false).getD 0 false = false
    cases c.ten.toNat with
    | zero => rfl
    | succ n => rfl
  have hbid : m1.bids = [] := by rw [em1]; rfl
  have htim : m1.time = 0 := by rw [em1]; rfl
  have hcc : m1.c = c := by rw [em1]; rfl
  have hten : m1.tenB 0 = true := by simp [MkG.tenB, hcc]; omega
  have hlog : m1.log.length = 1 := by rw [em1]; rfl
  have hrf : refB m1 0 1 = false := by simp [refB, hbid, findZ, findL]
  have hjb : m1.jobB (jobW c) = true := by simp [MkG.jobB, jobIn, atOf, htim, hcc, jobW]; omega
  have hse : submitE m1 0 1 (jobW c) = 0 := by
    have : ¬ m1.c.quo ≤ pendL m1.bids 0 := by rw [hcc, hbid]; simp [pendL]; omega
    simp [submitE, hten, hsus, hrf, hjb, this]
  obtain ⟨b0, hb0⟩ : ∃ b0, b0 = newBid m1 0 1 (jobW c) := ⟨_, rfl⟩
  obtain ⟨e2, em2⟩ := LogRes.unique h2 (.inr ⟨by omega, rfl, rfl⟩)
  rw [hse] at e2
  have hm2 : m2 = { m1.logs (callSubmit 0 1 (jobW c)) with bids := [b0] } := by
    rw [em2, submitM]
    simp only [hse, if_pos]
    rw [hb0]
    simp [MkG.logs, hbid]
  have hb2 : m2.bids = [b0] := by rw [hm2]
  have hc2 : m2.c = c := by rw [hm2]; exact hcc
  have ht2 : m2.time = 0 := by rw [hm2]; exact htim
  have hl2 : m2.log.length = 2 := by rw [hm2]; simp [MkG.logs, hlog]
  have hg2 : m2.ghost = -1 := hok2.ghost
  have f0 : b0.ten = 0 ∧ b0.ref = 1 ∧ b0.job = jobW c ∧ b0.arrival = 0 ∧ b0.state = 1 ∧ b0.entry = 1 := by
    rw [hb0]
    refine ⟨rfl, rfl, rfl, ?_, rfl, ?_⟩
    · simp [newBid, atOf, htim, jobW]
    · simp [newBid, hlog]
  obtain ⟨f1, f2, f3, f4, f5, f6⟩ := f0
  have hsu2 : suspAt m2 0 = false := by rw [hm2]; exact hsus
  have hcand : candB m2 0 b0 = true := by
    simp [candB, BidG.openB, f1, f3, f4, f5, f6, hg2, hsu2, jobW]
    omega
  have hord : IsOrder m2 m2.time [0] := by
    refine ⟨fun i => ⟨fun hi => ?_, fun ⟨b, hb, _⟩ => ?_⟩, by simp⟩
    · simp at hi
      subst hi
      exact ⟨b0, by rw [hb2]; rfl, by rw [ht2]; exact hcand⟩
    · rw [hb2] at hb
      have := (List.getElem?_eq_some_iff.1 hb).1
      simp at this ⊢
      omega
  obtain ⟨e3, en3, em3⟩ := h3.unique (.inr (.inr ⟨by omega, by rw [hc2, ht2]; omega, rfl, [0], hord, rfl, rfl⟩))
  have hgi : ghostI (m2.logs callTick) m2.time = none := ghostI_none (hok2.ok.logs (by omega) _) hg2 _
  have hun : m2.units.getD 0 0 = 1 := by
    have hnu : (openM c).units.length = c.ticks.toNat := by simp [openM]
    rw [hm2, em1]
    show ((List.range (openM c).units.length).map fun i : Nat => if (0 : Int) ≤ (i : Int) ∧ (i : Int) < c.ticks then (1 : Int) else (openM c).units.getD i 0).getD 0 0 = 1
    rw [hnu, List.getD, List.getElem?_map, List.getElem?_range (by omega)]
    simp
    omega
  have hfit : fitsB (m2.logs callTick) b0 0 = true := by
    simp only [fitsB, List.all_eq_true, List.mem_range, decide_eq_true_eq]
    intro s hs
    have hs0 : s = 0 := by rw [f3] at hs; simp [jobW] at hs; omega
    subst hs0
    have : freeV (m2.logs callTick) (0 + ((0 : Nat) : Int)) = 1 := by
      show freeV (m2.logs callTick) 0 = 1
      rw [freeV, if_neg (by show ¬ ((0 : Int) < 0 ∨ m2.c.ticks ≤ 0); rw [hc2]; omega)]
      show m2.units.getD 0 0 - usedL m2.bids 0 = 1
      rw [hun, hb2]
      simp [usedL, BidG.runs, f5]
    rw [this, f3]
    simp [jobW]
  have hwin : b0.winB (m2.logs callTick).c.res = true := by
    show decide (m2.c.res * sizeJ b0.job ≤ b0.job.val) = true
    rw [hc2, f3]
    simp [sizeJ, jobW]
    omega
  have hfold : tickFold m2.time none (m2.logs callTick) [0] = (startM (m2.logs callTick) 0 0, [(0, 1)]) := by
    rw [ht2]
    have hb : (m2.logs callTick).bids[0]? = some b0 := by show m2.bids[0]? = _; rw [hb2]; rfl
    simp only [tickFold, List.foldl, tickOne, hb, hfit, hwin, f1, f2]
    rfl
  have htk : tickM m2 [0] = (tickEnd 0 (startM (m2.logs callTick) 0 0), [(0, 1)]) := by
    rw [ht2] at hgi hfold
    unfold tickM
    simp only [ht2, hgi, hfold, wantEnd]
  rw [htk] at en3 em3
  have hb3 : m3.bids = [({ b0 with state := 2, start := 0 } : BidG)] := by
    rw [em3]
    have hb : (m2.logs callTick).bids[0]? = some b0 := by show m2.bids[0]? = _; rw [hb2]; rfl
    show ((startM (m2.logs callTick) 0 0).bids.map fun b => b.expire (0 + 1)) = _
    rw [startM_eq hb]
    show ((m2.bids.set 0 { b0 with state := 2, start := 0 }).map fun b => b.expire (0 + 1)) = _
    rw [hb2]
    simp [BidG.expire]
  have hc3 : m3.c = c := by
    rw [em3]
    have hb : (m2.logs callTick).bids[0]? = some b0 := by show m2.bids[0]? = _; rw [hb2]; rfl
    show (startM (m2.logs callTick) 0 0).c = c
    rw [startM_eq hb]
    exact hc2
  have hfz : findZ m3.bids 0 1 = 0 := by
    rw [hb3]
    simp [findZ, findL, BidG.is, f1, f2, List.findIdx?_cons]
  have hE : lookE m3 0 1 = 0 := by
    have : m3.tenB 0 = true := by simp [MkG.tenB, hc3]; omega
    simp [lookE, this, hfz]
  refine ⟨e1, e2, e3, en3, hE, ?_, ?_⟩
  · rw [lookS, hE, if_pos rfl, hfz]
    simp [stateAt, hb3]
  · rw [lookT, hE, if_pos rfl, hfz]
    simp [startAt, hb3]

set_option maxRecDepth 100000 in
set_option maxHeartbeats 1000000 in
theorem right_any (c : CfgG) (w : World) :
    Calls Try.prog 43 #[cfgV c] w fun e w' => e = .returned (.bool (cfgOk c)) ∧ Chg (fun _ => False) w w' := by
  unfold cfgV
  have hz : (ckZ c.ticks c.cap c.res c.ten c.quo == 0) = cfgOk c := by
    cases h : cfgOk c
    · simp only [cfgOk] at h
      simp [ckZ, h]
    · simp only [cfgOk] at h
      simp [ckZ, h]
  go_enter Try.func43, Try.ntmps43
  go_wp2_with (go_at_call 66; refine (refCheck_any _ _ _ _ _ _).mono ?_; rintro e w1 ⟨rfl, hq⟩; have HQ := hide (((Chg.refl _ _).alloc _).trans hq (fun _ _ h => h)); clear hq)
  go_ret
  exact ⟨rfl, HQ.out⟩

/-- a market of one's own, in blocks that are new -/
structure OwnY (YAt : World → Nat → (Nat → Prop) → MkG → Prop) (w : World) (y : Nat) (F : Nat → Prop) (m : MkG) (w' : World) : Prop where
  yard : YAt w' y F m
  good : GoodM m
  chg : Chg (fun _ => False) w w'
  new : ∀ k, F k → w.heap.size ≤ k
theorem OwnY.to {YAt : World → Nat → (Nat → Prop) → MkG → Prop} {w w1 w2 : World} {y : Nat} {F : Nat → Prop} {m m' : MkG} (h : OwnY YAt w y F m w1) (hg : GoodM m') (ht : YTo YAt w1 y F m' w2) : ∃ F', OwnY YAt w y F' m' w2 := by
  obtain ⟨F', a1, a2, a3⟩ := ht
  have hs := h.chg.size
  refine ⟨F', a1, hg, h.chg.trans a2 (fun x hx e => by have := h.new x e; omega), fun k hk => ?_⟩
  rcases a3 k hk with e | e
  · exact h.new k e
  · omega
theorem OwnY.told {YAt : World → Nat → (Nat → Prop) → MkG → Prop} {w w1 w2 : World} {y : Nat} {F F' : Nat → Prop} {m m' : MkG} {names : List (Int × Int)} {bills : List InvG} {nv bv : Value} (h : OwnY YAt w y F m w1) (hg : GoodM m') (ht : ToldAt YAt w1 y F m' names bills nv bv F' w2) : OwnY YAt w y F' m' w2 := by
  have hs := h.chg.size
  refine ⟨ht.yard, hg, h.chg.trans ht.chg (fun x hx e => by have := h.new x e; omega), fun k hk => ?_⟩
  rcases ht.foot k hk with e | e
  · exact h.new k e
  · omega
theorem OwnY.chg0 {YAt : World → Nat → (Nat → Prop) → MkG → Prop} (hY : YardSpec YAt) {w w1 w2 : World} {y : Nat} {F : Nat → Prop} {m : MkG} {X : Nat → Prop} (h : OwnY YAt w y F m w1) (hc : Chg X w1 w2) (hX : ∀ k, X k → w.heap.size ≤ k ∧ ¬ F k) : OwnY YAt w y F m w2 :=
  ⟨hY.frame _ _ _ _ _ h.yard (fun k hk => hc.block k (hY.lt _ _ _ _ h.yard k hk) (fun e => (hX k e).2 hk)), h.good, h.chg.trans hc (fun x hx e => by have := (hX x e).1; omega), h.new⟩

theorem pair_cells' {w : World} {v : Value} {a b : Int} (h : w.ownsRow 0 90 2 v [(a, b)].length ([(a, b)].flatMap nameCells)) : ∃ g cap, v = .slice (some ⟨g, 0, none⟩) 1 cap ∧ g < w.heap.size ∧ w.cell? ⟨g, 0, none⟩ = some (.int .i64 a) ∧ w.cell? ⟨g, 1, none⟩ = some (.int .i64 b) := by
  rcases h.2 with ⟨hv, h0⟩ | ⟨g, cap, cur, hv, hg, hh, r⟩
  · simp at h0
  · refine ⟨g, cap, hv, (Array.getElem?_eq_some_iff.1 hh).1, ?_, ?_⟩
    · have := h.cells (g := g) (by rw [hv]; rfl) 0 (.int .i64 a) (by simp [nameCells])
      rwa [Addr.add_lit, Nat.zero_add] at this
    · have := h.cells (g := g) (by rw [hv]; rfl) 1 (.int .i64 b) (by simp [nameCells])
      rwa [Addr.add_lit, Nat.zero_add] at this

set_option maxRecDepth 100000 in
set_option maxHeartbeats 4000000 in
theorem works_any {YAt : World → Nat → (Nat → Prop) → MkG → Prop} (hY : YardSpec YAt) (hT : TickY YAt) (c : CfgG) (w : World) (hc : cfgOk c = true) :
    Calls Try.prog 44 #[cfgV c] w fun e w' => e = .returned (.bool true) ∧ Chg (fun _ => False) w w' := by
  have HY := hide hY
  have HT := hide hT
  have HC := hide hc
  have hq := cfgOk_true hc
  have k1 : I64 c.ticks := by unfold I64; omega
  clear hY hT hc hq
  unfold cfgV
  go_enter Try.func44, Try.ntmps44
  go_wp2_with fail
  obtain ⟨w0, hw0⟩ : ∃ w0, w0 = w.alloc (.cells #[.int .i64 c.ticks, .int .i64 c.cap, .int .i64 c.res, .int .i64 c.ten, .int .i64 c.quo] 38) := ⟨_, rfl⟩
  rw [← hw0]
  have hb0 : w0.heap[w.heap.size]? = some (.cells #[.int .i64 c.ticks, .int .i64 c.cap, .int .i64 c.res, .int .i64 c.ten, .int .i64 c.quo] 38 (0, 0)) := by rw [hw0]; exact heap_alloc_new w _
  have HC0 : Hid (Chg (fun _ => False) w w0) := by rw [hw0]; exact (Chg.refl _ _).alloc _
  have hl0 : w.heap.size < w0.heap.size := (Array.getElem?_eq_some_iff.1 hb0).1
  have HBX := hide (fun (w' : World) (h : Chg (fun _ => False) w0 w') => show w'.cell? ⟨w.heap.size, 0, none⟩ = some (.int .i64 c.ticks) from by
    unfold World.cell?
    rw [h.block _ hl0 (fun h => h), hb0]
    rfl)
  clear hw0 hb0
  refine (HY.out.open_ok c w0 HC.out).mono ?_
  rintro e w1 ⟨y, F1, rfl, hy1, hc1, hf1⟩
  have H1 := hide (show OwnY YAt w0 y F1 (openM c) w1 from ⟨hy1, GoodM.open HC.out, hc1, hf1⟩)
  have x1 := HBX.out w1 hc1
  clear hy1 hc1 hf1
  go_wp2_with fail
  refine (HY.out.capacity w1 y F1 (openM c) 0 c.ticks 1 H1.out.yard H1.out.good.ok (by unfold I64; omega) k1 (by unfold I64; omega)).mono ?_
  rintro e w2 ⟨z1, m1, rfl, hres1, hto1⟩
  have HR1 := hide hres1
  obtain ⟨F2, h2⟩ := H1.out.to (H1.out.good.capacity hres1) hto1
  have H2 := hide h2
  have x2 := HBX.out w2 h2.chg
  clear hres1 hto1 h2 x1 H1
  go_wp2_with fail
  refine (HY.out.submit w2 y F2 m1 0 1 (jobW c) H2.out.yard H2.out.good.ok (by unfold I64; omega) (by unfold I64; omega) (by unfold JobI64 jobW I64 at *; simp only; omega)).mono ?_
  rintro e w3 ⟨z2, m2, rfl, hres2, hto2⟩
  have HR2 := hide hres2
  obtain ⟨F3, h3⟩ := H2.out.to (H2.out.good.submit hres2) hto2
  have H3 := hide h3
  clear hres2 hto2 h3 x2 H2
  go_wp2_with fail
  refine (HT.out w3 y F3 m2 H3.out.yard H3.out.good.ok H3.out.good.ghost).mono ?_
  rintro e w4 ⟨lv, names, z3, m3, F4, rfl, hres3, b1, b2, b3, b4, b5, _⟩
  have HR3 := hide hres3
  have HT3 := hide (show ToldAt YAt w3 y F3 m3 names [] lv (.slice none 0 0) F4 w4 from ⟨b1, b2, b3, b4, World.ownsRow_nil _ _ _ _, b5, fun k hk => by simp [Value.ownBlock] at hk⟩)
  have H4 := hide (H3.out.told (H3.out.good.tick hres3) HT3.out)
  obtain ⟨e1, e2, e3, e4, e5, e6, e7⟩ := works_pure HC.out HR1.out HR2.out hres3
  subst e1 e2 e3 e4
  obtain ⟨g, cap, hlv, hgl, n0, n1⟩ := pair_cells' b4
  subst hlv
  have HE := hide (And.intro e5 (And.intro e6 e7))
  clear hres3 b1 b2 b3 b4 e5 e6 e7 H3 HR1 HR2 HR3
  go_wp2_with fail
  refine (HY.out.look w4 y F4 m3 0 1 H4.out.yard H4.out.good.ok (by unfold I64; omega) (by unfold I64; omega)).mono ?_
  rintro e w5 ⟨rfl, hto5⟩
  rw [HE.out.1, HE.out.2.1, HE.out.2.2]
  have hng : ¬ F4 g := (b5 g rfl).2
  have hk5 : Chg F4 w4 w5 := by obtain ⟨F', _, a2, _⟩ := hto5; exact a2
  have m0 : w5.cell? ⟨g, 0, none⟩ = some (.int .i64 0) := by rw [hk5.cell (by exact hgl) hng]; exact n0
  have m1' : w5.cell? ⟨g, 1, none⟩ = some (.int .i64 1) := by rw [hk5.cell (by exact hgl) hng]; exact n1
  have hgl5 : g < w5.heap.size := Nat.lt_of_lt_of_le hgl hk5.size
  have m0' : ∀ o, (w5.alloc o).cell? ⟨g, 0, none⟩ = some (.int .i64 0) := fun o => by rw [World.cell?_alloc_lt _ _ _ (by exact hgl5)]; exact m0
  have m1'' : ∀ o, (w5.alloc o).cell? ⟨g, 1, none⟩ = some (.int .i64 1) := fun o => by rw [World.cell?_alloc_lt _ _ _ (by exact hgl5)]; exact m1'
  obtain ⟨F5, h5⟩ := H4.out.to H4.out.good hto5
  have H5 := hide h5
  clear hto5 h5 H4 hk5 n0 n1 hng b5 HE HT3
  go_wp2
  go_ret
  exact ⟨rfl, (HC0.out.trans H5.out.chg (fun _ _ h => h)).alloc _⟩

set_option maxRecDepth 100000 in
set_option maxHeartbeats 2000000 in
/-- 'open': nothing, where the configuration is not right; else a market -/
theorem open_bad' {YAt : World → Nat → (Nat → Prop) → MkG → Prop} (hY : YardSpec YAt) (c : CfgG) (sv : Value) (w : World) (hc : cfgOk c = false) (hsv : ∃ a l k, sv = .slice a l k) :
    Calls Try.prog 15 #[.agg #[.int .i64 c.ticks, .int .i64 c.cap, .int .i64 c.res, .int .i64 c.ten, .int .i64 c.quo, sv]] w fun e w' => e = .returned (.tuple #[.pointer none, .bool true]) ∧ Chg (fun _ => False) w w' := by
  have HY := hide hY
  have HC := hide hc
  obtain ⟨sa, sl, sk, rfl⟩ := hsv
  clear hY hc
  go_enter Try.func15, Try.ntmps15
  go_wp2_with fail
  obtain ⟨w0, hw0⟩ : ∃ w0, w0 = w.alloc (.cells #[.int .i64 c.ticks, .int .i64 c.cap, .int .i64 c.res, .int .i64 c.ten, .int .i64 c.quo, .slice sa sl sk] 41) := ⟨_, rfl⟩
  rw [← hw0]
  have hb0 : w0.heap[w.heap.size]? = some (.cells #[.int .i64 c.ticks, .int .i64 c.cap, .int .i64 c.res, .int .i64 c.ten, .int .i64 c.quo, .slice sa sl sk] 41 (0, 0)) := by rw [hw0]; exact heap_alloc_new w _
  have HC0 : Hid (Chg (fun _ => False) w w0) := by rw [hw0]; exact (Chg.refl _ _).alloc _
  have hl0 : w.heap.size < w0.heap.size := (Array.getElem?_eq_some_iff.1 hb0).1
  clear hw0
  refine (HY.out.open_bad c w0 HC.out).mono ?_
  rintro e w1 ⟨rfl, hq⟩
  have hb1 := (hq.block _ hl0 (fun h => h)).trans hb0
  have q0 : w1.cell? ⟨w.heap.size, 0, none⟩ = some (.int .i64 c.ticks) := by unfold World.cell?; rw [hb1]; rfl
  have q1 : w1.cell? ⟨w.heap.size, 1, none⟩ = some (.int .i64 c.cap) := by unfold World.cell?; rw [hb1]; rfl
  have q2 : w1.cell? ⟨w.heap.size, 2, none⟩ = some (.int .i64 c.res) := by unfold World.cell?; rw [hb1]; rfl
  have q3 : w1.cell? ⟨w.heap.size, 3, none⟩ = some (.int .i64 c.ten) := by unfold World.cell?; rw [hb1]; rfl
  have q4 : w1.cell? ⟨w.heap.size, 4, none⟩ = some (.int .i64 c.quo) := by unfold World.cell?; rw [hb1]; rfl
  have HQ := hide (HC0.out.trans hq (fun _ _ h => h))
  clear hq hb0 hb1 hl0
  go_wp2_with fail
  refine (right_any c w1).mono ?_
  rintro e w2 ⟨rfl, hq2⟩
  rw [HC.out]
  have HQ2 := hide (HQ.out.trans hq2 (fun _ _ h => h))
  clear hq2 q0 q1 q2 q3 q4
  go_wp2
  go_ret2
  exact ⟨rfl, HQ2.out⟩

set_option maxRecDepth 100000 in
set_option maxHeartbeats 2000000 in
theorem open_ok' {YAt : World → Nat → (Nat → Prop) → MkG → Prop} (hY : YardSpec YAt) (hT : TickY YAt) (c : CfgG) (sv : Value) (w : World) (hc : cfgOk c = true) (hsv : ∃ a l k, sv = .slice a l k) :
    Calls Try.prog 15 #[.agg #[.int .i64 c.ticks, .int .i64 c.cap, .int .i64 c.res, .int .i64 c.ten, .int .i64 c.quo, sv]] w fun e w' => ∃ y F, e = .returned (.tuple #[.pointer (some ⟨y, 0, none⟩), .bool true]) ∧ OwnY YAt w y F (openM c) w' := by
  have HY := hide hY
  have HT := hide hT
  have HC := hide hc
  obtain ⟨sa, sl, sk, rfl⟩ := hsv
  clear hY hT hc
  go_enter Try.func15, Try.ntmps15
  go_wp2_with fail
  obtain ⟨w0, hw0⟩ : ∃ w0, w0 = w.alloc (.cells #[.int .i64 c.ticks, .int .i64 c.cap, .int .i64 c.res, .int .i64 c.ten, .int .i64 c.quo, .slice sa sl sk] 41) := ⟨_, rfl⟩
  rw [← hw0]
  have hb0 : w0.heap[w.heap.size]? = some (.cells #[.int .i64 c.ticks, .int .i64 c.cap, .int .i64 c.res, .int .i64 c.ten, .int .i64 c.quo, .slice sa sl sk] 41 (0, 0)) := by rw [hw0]; exact heap_alloc_new w _
  have HC0 : Hid (Chg (fun _ => False) w w0) := by rw [hw0]; exact (Chg.refl _ _).alloc _
  have hl0 : w.heap.size < w0.heap.size := (Array.getElem?_eq_some_iff.1 hb0).1
  clear hw0
  have HBX := hide (fun (w' : World) (h : Chg (fun _ => False) w0 w') => show w'.heap[w.heap.size]? = some (.cells #[.int .i64 c.ticks, .int .i64 c.cap, .int .i64 c.res, .int .i64 c.ten, .int .i64 c.quo, .slice sa sl sk] 41 (0, 0)) from (h.block _ hl0 (fun h => h)).trans hb0)
  clear hb0 hl0
  refine (HY.out.open_ok c w0 HC.out).mono ?_
  rintro e w1 ⟨y, F, rfl, hy1, hc1, hf1⟩
  have H1 := hide (show OwnY YAt w y F (openM c) w1 from ⟨hy1, GoodM.open HC.out, HC0.out.trans hc1 (fun _ _ h => h), fun k hk => Nat.le_trans HC0.out.size (hf1 k hk)⟩)
  have hb1 := HBX.out w1 hc1
  have q0 : w1.cell? ⟨w.heap.size, 0, none⟩ = some (.int .i64 c.ticks) := by unfold World.cell?; rw [hb1]; rfl
  have q1 : w1.cell? ⟨w.heap.size, 1, none⟩ = some (.int .i64 c.cap) := by unfold World.cell?; rw [hb1]; rfl
  have q2 : w1.cell? ⟨w.heap.size, 2, none⟩ = some (.int .i64 c.res) := by unfold World.cell?; rw [hb1]; rfl
  have q3 : w1.cell? ⟨w.heap.size, 3, none⟩ = some (.int .i64 c.ten) := by unfold World.cell?; rw [hb1]; rfl
  have q4 : w1.cell? ⟨w.heap.size, 4, none⟩ = some (.int .i64 c.quo) := by unfold World.cell?; rw [hb1]; rfl
  have HC1 := hide hc1
  clear hy1 hc1 hf1 hb1
  go_wp2_with fail
  refine (right_any c w1).mono ?_
  rintro e w2 ⟨rfl, hq2⟩
  rw [HC.out]
  have H2 := hide (H1.out.chg0 HY.out hq2 (fun _ h => h.elim))
  have HC2 := hide (HC1.out.trans hq2 (fun _ _ h => h))
  have hb2 := HBX.out w2 HC2.out
  clear hq2 q0 q1 q2 q3 q4 H1 HC1
  have q0 : w2.cell? ⟨w.heap.size, 0, none⟩ = some (.int .i64 c.ticks) := by unfold World.cell?; rw [hb2]; rfl
  have q1 : w2.cell? ⟨w.heap.size, 1, none⟩ = some (.int .i64 c.cap) := by unfold World.cell?; rw [hb2]; rfl
  have q2 : w2.cell? ⟨w.heap.size, 2, none⟩ = some (.int .i64 c.res) := by unfold World.cell?; rw [hb2]; rfl
  have q3 : w2.cell? ⟨w.heap.size, 3, none⟩ = some (.int .i64 c.ten) := by unfold World.cell?; rw [hb2]; rfl
  have q4 : w2.cell? ⟨w.heap.size, 4, none⟩ = some (.int .i64 c.quo) := by unfold World.cell?; rw [hb2]; rfl
  clear hb2
  go_wp2_with fail
  refine (works_any HY.out HT.out c w2 HC.out).mono ?_
  rintro e w3 ⟨rfl, hq3⟩
  have H3 := hide (H2.out.chg0 HY.out hq3 (fun _ h => h.elim))
  clear hq3 q0 q1 q2 q3 q4
  go_wp2
  go_ret2
  exact ⟨y, F, rfl, H3.out⟩
end Go.Proofs.Ytminceigjejipaa
