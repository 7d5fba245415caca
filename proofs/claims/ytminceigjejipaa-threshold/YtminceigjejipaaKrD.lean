import Derived.Test.YtminceigjejipaaKrC
import Derived.Test.YtminceigjejipaaKqC
/-
  yardkeep: a bid that has won: its price, and other values (priced).
-/
namespace Go.Proofs.Ytminceigjejipaa
open Go.RowKit

/-- the case made once more, as a test of the price -/
theorem kwins_price {YAt : World → Nat → (Nat → Prop) → MkG → Prop} (hY : YardSpec YAt) (hT : TickY YAt) (hP : PaidY YAt) (c : CfgG) (sa : Option Addr) (sl sc : Nat) (Z : Nat → Int) (q : Nat) (w : World) (hc : cfgOk c = true) (hs : CaseAt w q c sa sl sc Z) (hsl : sl < 5000000000000)
    {m : MkG} {b : BookG} (hst : StepsOk (stepZ Z) sl m b) (hg : GoodM m) (hmc : m.c = c) (hrel : BookRel m b) {j : Nat} {o : KnownG} {x : BidG} (ho : b.bids[j]? = some o) (hx : m.bids[j]? = some x) (hw : x.state = 2) (v : Int) (h1 : 1 ≤ v) (h2 : v ≤ 1048576) :
    Calls Try.prog 60 #[.agg #[.int .i64 c.ticks, .int .i64 c.cap, .int .i64 c.res, .int .i64 c.ten, .int .i64 c.quo, .slice sa sl sc], .int .i64 o.step, .int .i64 v] w fun e w' => e = .returned (.bool (decide (priceM m x.entry ≤ v))) ∧ Chg (fun _ => False) w w' := by
  obtain ⟨i, a1, a2, _, a4, a5, _, _, _⟩ := hst.bid j o x ho hx
  obtain ⟨r1, r2, _, _⟩ := hrel.bid j o x ho hx
  rw [a1]
  refine (kwins_any hY hT hP c sa sl sc Z q i v w hc hs hsl a2 (by constructor <;> omega)).mono ?_
  rintro e w' ⟨m2, g2, hc2, hl2, rfl, hch⟩
  have h := hst.wins hg g2 (hc2.trans hmc.symm) ho hx ⟨r1, r2⟩ hw a1 h1 h2 hl2
  refine ⟨?_, hch⟩
  congr 2
  rw [a4, a5, Bool.eq_iff_iff, Bool.and_eq_true, decide_eq_true_eq, decide_eq_true_eq, decide_eq_true_eq]
  exact h

set_option maxRecDepth 100000 in
set_option maxHeartbeats 8000000 in
theorem priced_any {YAt : World → Nat → (Nat → Prop) → MkG → Prop} (hY : YardSpec YAt) (hT : TickY YAt) (hP : PaidY YAt) (c : CfgG) (sa : Option Addr) (sl sc : Nat) (Z : Nat → Int) (q : Nat) (y : Nat) (F : Nat → Prop) (v0 : Int) (w0 w : World) (hc : cfgOk c = true) (hs : CaseAt w0 q c sa sl sc Z) (hch : Chg (fun _ => False) w0 w) (hnew : ∀ k, F k → w0.heap.size ≤ k) (hsl : sl < 5000000000000) (hv0 : I64 v0)
    {m : MkG} {b : BookG} (hy : YAt w y F m) (hst : StepsOk (stepZ Z) sl m b) (hg : GoodM m) (hso : SoundM m) (hmc : m.c = c) (hrel : BookRel m b) {j : Nat} {o : KnownG} {x : BidG} (ho : b.bids[j]? = some o) (hx : m.bids[j]? = some x) (hw : x.state = 2) :
    Calls Try.prog 26 #[.agg #[.int .i64 c.ticks, .int .i64 c.cap, .int .i64 c.res, .int .i64 c.ten, .int .i64 c.quo, .slice sa sl sc], .pointer (some ⟨y, 0, none⟩), .agg #[.int .i64 o.ten, .int .i64 o.ref, .int .i64 o.job.arr, .int .i64 o.job.dl, .int .i64 o.job.len, .int .i64 o.job.units, .int .i64 o.job.val, .int .i64 o.arrival, .int .i64 o.step, .int .i64 o.wasS, .int .i64 o.wasT, .bool o.charged], .int .i64 v0] w fun e w' => e = .returned (.bool true) ∧ YTo YAt w y F m w' := by
  obtain ⟨r1, r2, r3, r4⟩ := hrel.bid j o x ho hx
  clear r4
  have hbo := hg.ok.bid x (List.mem_of_getElem? hx)
  obtain ⟨l1, l2, l3⟩ := hso.look hg.ok hx
  clear l3
  have hpr := hg.cash.hist.price hg.ok hx hw
  have hrs := hg.cash.hist.reserve hg.ok hx hw
  obtain ⟨⟨z1, z2⟩, ⟨v1, v2⟩, hln⟩ := job_nums hg.ok (List.mem_of_getElem? hx)
  clear hln
  have hcf := cfgOk_true hc
  rw [← r1, ← r2] at l1 l2
  have hpe : priceE m o.ten o.ref = 0 := by rw [priceE, if_pos l1, l2, if_pos hw]
  have hpv : priceV m o.ten o.ref = priceM m x.entry := by
    rw [priceV, if_pos hpe]
    congr 1
    obtain ⟨_, i, b', hf, hb'⟩ := lookE_zero l1
    have : i = j := by
      have h1 := hso.look hg.ok hx
      have hfz : findZ m.bids x.ten x.ref = j := findZ_some hx (by simp [BidG.is]) (fun k u hk hu => by
        cases hi : u.is x.ten x.ref
        · rfl
        · simp [BidG.is] at hi
          have := hso.uniq k j u x hu hx hi.1 hi.2
          omega)
      rw [← r1, ← r2, hf] at hfz
      omega
    subst this
    rw [hf]
    simp [entryAt, hx]
  have HW := hide (fun (w' : World) (h : CaseAt w' q c sa sl sc Z) (v : Int) (h1 : 1 ≤ v) (h2 : v ≤ 1048576) => kwins_price hY hT hP c sa sl sc Z q w' hc h hsl hst hg hmc hrel ho hx hw v h1 h2)
  have HPR := hide (fun (w' : World) (h : YAt w' y F m) => hP.price w' y F m o.ten o.ref h hg (by have h1 := hbo.t0; have h2 := hbo.t1; rw [← r1] at h1 h2; rw [hmc] at h2; constructor <;> omega) (by have h1 := hbo.r0; have h2 := hbo.r1; rw [← r2] at h1 h2; constructor <;> omega))
  rw [hpe, hpv] at HPR
  obtain ⟨P, hPd⟩ : ∃ P, P = priceM m x.entry := ⟨_, rfl⟩
  rw [← hPd] at HW HPR hpr hrs
  have hsz : sizeJ x.job = sizeJ o.job := by rw [r3]
  rw [hsz] at hrs z1 z2
  rw [← r3] at hpr v1 v2
  rw [hmc] at hrs
  have HSZ := hide (fun (w' : World) => ksz_any o.job w' z2 (by omega))
  have hwr : IntKind.i64.wrap (c.res * sizeJ o.job) = c.res * sizeJ o.job := by
    have h3 : c.res * sizeJ o.job ≤ 1000 * 64000 := Int.mul_le_mul (by omega) (by omega) (by omega) (by omega)
    have h4 : 0 ≤ c.res * sizeJ o.job := Int.mul_nonneg (by omega) (by omega)
    rw [IntKind.wrap_i64]
    omega
  have g1 : decide (P < 1) = false := by simp; omega
  have g2 : decide (o.job.val < P) = false := by simp; omega
  have g3 : decide (P < c.res * sizeJ o.job) = false := by simp; omega
  obtain ⟨p1, p2⟩ := hpr
  have hP2 : P ≤ 1048576 := by omega
  obtain ⟨sz, hszd⟩ : ∃ sz, sz = sizeJ o.job := ⟨_, rfl⟩
  rw [← hszd] at hwr g3 HSZ
  have HY := hide hY
  have HYA := hide hy
  have HCA := hide hs
  have HCH := hide hch
  have HNEW := hide hnew
  have HV0 := hide hv0
  have HFL := hide (fun k (hk : F k) => show k < w.heap.size from hY.lt _ _ _ _ hy k hk)
  clear hY hT hP hs hch hnew hv0 hy hst hg hso hrel ho hx hw r1 r2 r3 hbo l1 l2 hrs z1 z2 hcf hpe hpv hPd hsz hszd v1 v2 hsl hc hmc
  obtain ⟨w2, hw2⟩ : ∃ w2, w2 = (w.alloc (.cells #[.int .i64 c.ticks, .int .i64 c.cap, .int .i64 c.res, .int .i64 c.ten, .int .i64 c.quo, .slice sa sl sc] 41)).alloc (.cells #[.int .i64 o.ten, .int .i64 o.ref, .int .i64 o.job.arr, .int .i64 o.job.dl, .int .i64 o.job.len, .int .i64 o.job.units, .int .i64 o.job.val, .int .i64 o.arrival, .int .i64 o.step, .int .i64 o.wasS, .int .i64 o.wasT, .bool o.charged] 70) := ⟨_, rfl⟩
  have hc2 : Chg (fun _ => False) w w2 := by rw [hw2]; exact ((Chg.refl _ _).alloc _).alloc _
  have hbA : w2.heap[w.heap.size]? = some (.cells #[.int .i64 c.ticks, .int .i64 c.cap, .int .i64 c.res, .int .i64 c.ten, .int .i64 c.quo, .slice sa sl sc] 41 (0, 0)) := by rw [hw2, Below.heap_alloc _ _ _ (by simp)]; exact heap_alloc_new w _
  have hbB : w2.heap[w.heap.size + 1]? = some (.cells #[.int .i64 o.ten, .int .i64 o.ref, .int .i64 o.job.arr, .int .i64 o.job.dl, .int .i64 o.job.len, .int .i64 o.job.units, .int .i64 o.job.val, .int .i64 o.arrival, .int .i64 o.step, .int .i64 o.wasS, .int .i64 o.wasT, .bool o.charged] 70 (0, 0)) := by rw [hw2]; exact heap_at_new (by simp)
  have HC2 := hide hc2
  have HW2 := hide hw2
  have hsA : w.heap.size < w2.heap.size := (Array.getElem?_eq_some_iff.1 hbA).1
  have hsB : w.heap.size + 1 < w2.heap.size := (Array.getElem?_eq_some_iff.1 hbB).1
  have HBA := hide hbA
  have HBB := hide hbB
  have HY2 := hide (HY.out.frame _ w2 _ _ _ HYA.out (fun k hk => hc2.block k (HFL.out k hk) (fun h => h)))
  clear hw2 hc2 hbA hbB
  go_enter Try.func26, Try.ntmps26
  go_wp2_with fail
  rw [← HW2.out]
  refine (HPR.out w2 HY2.out).mono ?_
  rintro e w3 ⟨rfl, F3, hy3, hc3, hf3⟩
  have HY3 := hide hy3
  have HF3 := hide (show ∀ k, F3 k → F k ∨ w.heap.size ≤ k from fun k hk => by
    rcases hf3 k hk with h | h
    · exact .inl h
    · exact .inr (Nat.le_trans HC2.out.size h))
  have HCW3 := hide (show Chg F w w3 from (HC2.out.mono (fun _ _ h => h.elim)).trans hc3 (fun _ _ h => h))
  have hA3 := (hc3.block _ hsA (fun h => by have := HFL.out _ h; omega)).trans HBA.out
  have hB3 := (hc3.block _ hsB (fun h => by have := HFL.out _ h; omega)).trans HBB.out
  have HA3 := hide hA3
  have HB3 := hide hB3
  have HS3 := hide (show w.heap.size < w3.heap.size ∧ w.heap.size + 1 < w3.heap.size from ⟨Nat.lt_of_lt_of_le hsA hc3.size, Nat.lt_of_lt_of_le hsB hc3.size⟩)
  have HC03 := hide (show Chg (fun _ => False) w0 w3 from HCH.out.trans HCW3.out (fun k hk h => by have := HNEW.out k h; omega))
  -- behind it nothing turns but what is new
  have HEND := hide (fun (w' : World) (h : Chg (fun _ => False) w3 w') => show YTo YAt w y F m w' from ⟨F3, HY.out.frame _ w' _ _ _ HY3.out (fun k hk => h.block k (HY.out.lt _ _ _ _ HY3.out k hk) (fun h => h)), HCW3.out.trans h (fun _ _ h => h.elim), HF3.out⟩)
  have HCAS := hide (fun (w' : World) (h : Chg (fun _ => False) w3 w') => show CaseAt w' q c sa sl sc Z from HCA.out.chg (HC03.out.trans h (fun _ _ h => h)))
  have HBOX := hide (fun (w' : World) (h : Chg (fun _ => False) w3 w') => show w'.heap[w.heap.size]? = some (.cells #[.int .i64 c.ticks, .int .i64 c.cap, .int .i64 c.res, .int .i64 c.ten, .int .i64 c.quo, .slice sa sl sc] 41 (0, 0)) ∧ w'.heap[w.heap.size + 1]? = some (.cells #[.int .i64 o.ten, .int .i64 o.ref, .int .i64 o.job.arr, .int .i64 o.job.dl, .int .i64 o.job.len, .int .i64 o.job.units, .int .i64 o.job.val, .int .i64 o.arrival, .int .i64 o.step, .int .i64 o.wasS, .int .i64 o.wasT, .bool o.charged] 70 (0, 0)) from ⟨(h.block _ HS3.out.1 (fun h => h)).trans HA3.out, (h.block _ HS3.out.2 (fun h => h)).trans HB3.out⟩)
  have cr : w3.cell? ⟨w.heap.size, 2, none⟩ = some (.int .i64 c.res) := by unfold World.cell?; rw [hA3]; rfl
  have x2 : w3.cell? ⟨w.heap.size + 1, 2, none⟩ = some (.int .i64 o.job.arr) := by unfold World.cell?; rw [hB3]; rfl
  have x3 : w3.cell? ⟨w.heap.size + 1, 3, none⟩ = some (.int .i64 o.job.dl) := by unfold World.cell?; rw [hB3]; rfl
  have x4 : w3.cell? ⟨w.heap.size + 1, 4, none⟩ = some (.int .i64 o.job.len) := by unfold World.cell?; rw [hB3]; rfl
  have x5 : w3.cell? ⟨w.heap.size + 1, 5, none⟩ = some (.int .i64 o.job.units) := by unfold World.cell?; rw [hB3]; rfl
  have x6 : w3.cell? ⟨w.heap.size + 1, 6, none⟩ = some (.int .i64 o.job.val) := by unfold World.cell?; rw [hB3]; rfl
  clear hy3 hc3 hf3 hA3 hB3 HPR
  go_wp2
  go_region_held3 (fun w' => w'.cell? ⟨w.heap.size, 2, none⟩ = some (.int .i64 c.res) ∧ w'.cell? ⟨w.heap.size + 1, 2, none⟩ = some (.int .i64 o.job.arr) ∧ w'.cell? ⟨w.heap.size + 1, 3, none⟩ = some (.int .i64 o.job.dl) ∧ w'.cell? ⟨w.heap.size + 1, 4, none⟩ = some (.int .i64 o.job.len) ∧ w'.cell? ⟨w.heap.size + 1, 5, none⟩ = some (.int .i64 o.job.units) ∧ w'.cell? ⟨w.heap.size + 1, 6, none⟩ = some (.int .i64 o.job.val)) (go_keep)
    (first | (go_at_call 54; refine (HSZ.out _).mono ?_; rintro e w4 ⟨rfl, hq⟩; have hk4 := hq.keep; have HQ4 := hide (show Chg (fun _ => False) w3 w4 from ⟨hq.os, hq.tape, hq.output, hq.size, hq.block⟩); clear hq; have y2 := hk4 _ _ cr; have y20 := hk4 _ _ x2; have y30 := hk4 _ _ x3; have y40 := hk4 _ _ x4; have y50 := hk4 _ _ x5; have y60 := hk4 _ _ x6; clear hk4))
  clear cr y2 x2 y20 x3 y30 x4 y40 x5 y50 x6 y60
  go_wp2_with fail
  refine (kpick_any v0 1048576 _ HV0.out.1 HV0.out.2 (by decide)).mono ?_
  rintro e w5 ⟨rfl, hw5⟩
  subst w5
  have hpl := pickZ_lt v0 1048576 (by decide)
  obtain ⟨pv, hpvd⟩ : ∃ pv, pv = pickZ v0 1048576 := ⟨_, rfl⟩
  rw [← hpvd] at hpl ⊢
  have hwv : IntKind.i64.wrap (1 + pv) = 1 + pv := by rw [IntKind.wrap_i64]; omega
  obtain ⟨u1, u2⟩ := hpl
  clear hpvd
  have b4 := HBOX.out w4 HQ4.out
  have c40 : w4.cell? ⟨w.heap.size, 0, none⟩ = some (.int .i64 c.ticks) := by unfold World.cell?; rw [b4.1]; rfl
  have c41 : w4.cell? ⟨w.heap.size, 1, none⟩ = some (.int .i64 c.cap) := by unfold World.cell?; rw [b4.1]; rfl
  have c42 : w4.cell? ⟨w.heap.size, 2, none⟩ = some (.int .i64 c.res) := by unfold World.cell?; rw [b4.1]; rfl
  have c43 : w4.cell? ⟨w.heap.size, 3, none⟩ = some (.int .i64 c.ten) := by unfold World.cell?; rw [b4.1]; rfl
  have c44 : w4.cell? ⟨w.heap.size, 4, none⟩ = some (.int .i64 c.quo) := by unfold World.cell?; rw [b4.1]; rfl
  have c45 : w4.cell? ⟨w.heap.size, 5, none⟩ = some (.slice sa sl sc) := by unfold World.cell?; rw [b4.1]; rfl
  have s48 : w4.cell? ⟨w.heap.size + 1, 8, none⟩ = some (.int .i64 o.step) := by unfold World.cell?; rw [b4.2]; rfl
  clear b4
  have HW5 := hide (HW.out w4 (HCAS.out w4 HQ4.out) P (by omega) hP2)
  rw [show decide (P ≤ P) = true by simp] at HW5
  go_wp2_with fail
  refine HW5.out.mono ?_
  rintro e w6 ⟨rfl, hq6⟩
  have HQ6 := hide (HQ4.out.trans hq6 (fun _ _ h => h))
  clear hq6 HW5 c40 c41 c42 c43 c44 c45 s48
  have b6 := HBOX.out w6 HQ6.out
  have c60 : w6.cell? ⟨w.heap.size, 0, none⟩ = some (.int .i64 c.ticks) := by unfold World.cell?; rw [b6.1]; rfl
  have c61 : w6.cell? ⟨w.heap.size, 1, none⟩ = some (.int .i64 c.cap) := by unfold World.cell?; rw [b6.1]; rfl
  have c62 : w6.cell? ⟨w.heap.size, 2, none⟩ = some (.int .i64 c.res) := by unfold World.cell?; rw [b6.1]; rfl
  have c63 : w6.cell? ⟨w.heap.size, 3, none⟩ = some (.int .i64 c.ten) := by unfold World.cell?; rw [b6.1]; rfl
  have c64 : w6.cell? ⟨w.heap.size, 4, none⟩ = some (.int .i64 c.quo) := by unfold World.cell?; rw [b6.1]; rfl
  have c65 : w6.cell? ⟨w.heap.size, 5, none⟩ = some (.slice sa sl sc) := by unfold World.cell?; rw [b6.1]; rfl
  have s68 : w6.cell? ⟨w.heap.size + 1, 8, none⟩ = some (.int .i64 o.step) := by unfold World.cell?; rw [b6.2]; rfl
  clear b6
  have HW7 := hide (HW.out w6 (HCAS.out w6 HQ6.out) (1 + pv) (by omega) (by omega))
  go_wp2_with fail
  refine HW7.out.mono ?_
  rintro e w8 ⟨rfl, hq8⟩
  have HQ8 := hide (HQ6.out.trans hq8 (fun _ _ h => h))
  clear hq8 HW7 c60 c61 c62 c63 c64 c65 s68
  have b8 := HBOX.out w8 HQ8.out
  have c80 : w8.cell? ⟨w.heap.size, 0, none⟩ = some (.int .i64 c.ticks) := by unfold World.cell?; rw [b8.1]; rfl
  have c81 : w8.cell? ⟨w.heap.size, 1, none⟩ = some (.int .i64 c.cap) := by unfold World.cell?; rw [b8.1]; rfl
  have c82 : w8.cell? ⟨w.heap.size, 2, none⟩ = some (.int .i64 c.res) := by unfold World.cell?; rw [b8.1]; rfl
  have c83 : w8.cell? ⟨w.heap.size, 3, none⟩ = some (.int .i64 c.ten) := by unfold World.cell?; rw [b8.1]; rfl
  have c84 : w8.cell? ⟨w.heap.size, 4, none⟩ = some (.int .i64 c.quo) := by unfold World.cell?; rw [b8.1]; rfl
  have c85 : w8.cell? ⟨w.heap.size, 5, none⟩ = some (.slice sa sl sc) := by unfold World.cell?; rw [b8.1]; rfl
  have s88 : w8.cell? ⟨w.heap.size + 1, 8, none⟩ = some (.int .i64 o.step) := by unfold World.cell?; rw [b8.2]; rfl
  clear b8
  by_cases hone : P = 1
  · have h1 : (P == 1) = true := by simpa using hone
    have hle : decide (P ≤ 1 + pv) = true := by simp; omega
    clear hone
    go_wp2
    go_ret
    exact ⟨rfl, HEND.out _ HQ8.out⟩
  · have h1 : (P == 1) = false := by simpa using hone
    have hw1 : IntKind.i64.wrap (P - 1) = P - 1 := by rw [IntKind.wrap_i64]; omega
    have HW9 := hide (HW.out w8 (HCAS.out w8 HQ8.out) (P - 1) (by omega) (by omega))
    rw [show decide (P ≤ P - 1) = false by simp; omega] at HW9
    clear hone
    cases hle : decide (P ≤ 1 + pv)
    · go_wp2_with fail
      refine HW9.out.mono ?_
      rintro e w10 ⟨rfl, hq10⟩
      have HQ10 := hide (HQ8.out.trans hq10 (fun _ _ h => h))
      clear hq10 HW9 c80 c81 c82 c83 c84 c85 s88
      go_wp2
      go_ret
      exact ⟨rfl, HEND.out _ HQ10.out⟩
    · go_wp2_with fail
      refine HW9.out.mono ?_
      rintro e w10 ⟨rfl, hq10⟩
      have HQ10 := hide (HQ8.out.trans hq10 (fun _ _ h => h))
      clear hq10 HW9 c80 c81 c82 c83 c84 c85 s88
      go_wp2
      go_ret
      exact ⟨rfl, HEND.out _ HQ10.out⟩
end Go.Proofs.Ytminceigjejipaa
