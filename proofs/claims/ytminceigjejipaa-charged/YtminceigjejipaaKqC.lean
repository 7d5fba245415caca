import Derived.Test.YtminceigjejipaaKqB
import Derived.Deep.CutRange
/-
  yardkeep: started: what a Tick has told.
-/
namespace Go.Proofs.Ytminceigjejipaa
open Go.RowKit

/-- a yard that looks go to, the blocks of a book, the names that were told -/
structure LkSt (YAt : World → Nat → (Nat → Prop) → MkG → Prop) (w0 : World) (y : Nat) (F0 : Nat → Prop) (m : MkG) (F : Nat → Prop) (wr : World) : Prop where
  yard : YAt wr y F m
  chg : Chg F0 w0 wr
  foot : ∀ k, F k → F0 k ∨ w0.heap.size ≤ k
section
variable {YAt : World → Nat → (Nat → Prop) → MkG → Prop} {w0 wr w2 : World} {y : Nat} {F0 F : Nat → Prop} {m : MkG}
theorem LkSt.yto (h : LkSt YAt w0 y F0 m F wr) (ht : YTo YAt wr y F m w2) : ∃ F', LkSt YAt w0 y F0 m F' w2 ∧ (∀ k, k < wr.heap.size → ¬ F k → w2.heap[k]? = wr.heap[k]?) := by
  obtain ⟨F', a1, a2, a3⟩ := ht
  refine ⟨F', ⟨a1, h.chg.trans a2 (fun k hk hf => ?_), fun k hk => ?_⟩, fun k hk hn => a2.block k hk hn⟩
  · rcases h.foot k hf with e | e
    · exact e
    · omega
  · rcases a3 k hk with e | e
    · exact h.foot k e
    · exact .inr (Nat.le_trans h.chg.size e)
theorem LkSt.chg0 (hY : YardSpec YAt) (h : LkSt YAt w0 y F0 m F wr) (hc : Chg (fun _ => False) wr w2) : LkSt YAt w0 y F0 m F w2 :=
  ⟨hY.frame _ _ _ _ _ h.yard (fun k hk => hc.block k (hY.lt _ _ _ _ h.yard k hk) (fun h => h)), h.chg.trans hc (fun _ _ h => h.elim), h.foot⟩
theorem LkSt.book {p : Nat} {V : BV} {b : BookG} (h : LkSt YAt w0 y F0 m F wr) (hb : BookAt w0 p V b) (hd : ∀ k, V.foot p k → ¬ F0 k) : BookAt wr p V b := hb.chg h.chg hd
theorem LkSt.out {k : Nat} (h : LkSt YAt w0 y F0 m F wr) (hk : k < w0.heap.size) (hn : ¬ F0 k) : ¬ F k := fun hf => by
  rcases h.foot k hf with e | e
  · exact hn e
  · omega
end

theorem job_nums {m : MkG} {x : BidG} (hok : MkOk m) (hx : x ∈ m.bids) : (1 ≤ sizeJ x.job ∧ sizeJ x.job ≤ 64000) ∧ (1 ≤ x.job.val ∧ x.job.val ≤ 1048576) ∧ (1 ≤ x.job.len ∧ x.job.len ≤ 64) := by
  obtain ⟨_, _, h3, h4, h5⟩ := (hok.bid x hx).nums hok
  refine ⟨?_, h5, h3⟩
  unfold sizeJ
  have h6 : x.job.len * 1 ≤ x.job.len * x.job.units := Int.mul_le_mul_of_nonneg_left (by omega) (by omega)
  have h7 : x.job.len * x.job.units ≤ 64 * 1000 := Int.mul_le_mul (by omega) (by omega) (by omega) (by omega)
  omega

/-- the names that are told, one by one -/
structure Told1 (m m' : MkG) (b : BookG) (names : List (Int × Int)) (js : List Nat) : Prop where
  tk : TkdK m m' names js
  good : GoodM m'
  sound : SoundM m'
  rel : BookRel m' b
  seen : ∀ (i : Nat) (o : KnownG) (x : BidG), b.bids[i]? = some o → m.bids[i]? = some x → o.wasS = x.state
  msusp : m'.susp = m.susp
  mc : m'.c = m.c
  nl : names.length ≤ 300

theorem Told1.at {m m' : MkG} {b : BookG} {names : List (Int × Int)} {js : List Nat} (h : Told1 m m' b names js) {k : Nat} (hk : k < names.length) : ∃ (j : Nat) (o : KnownG) (x : BidG), js[k]? = some j ∧ b.bids[j]? = some o ∧ m.bids[j]? = some x ∧ m'.bids[j]? = some (setWon m.time x) ∧ names[k]? = some (o.ten, o.ref) ∧ o.ten = x.ten ∧ o.ref = x.ref ∧ o.job = x.job ∧ o.wasS = 1 ∧ suspAt m' x.ten = false ∧ m.c.res * sizeJ x.job ≤ x.job.val ∧
    (∀ (i : Nat) (u : KnownG), i < j → b.bids[i]? = some u → ¬ (u.ten = o.ten ∧ u.ref = o.ref)) ∧ lookE m' o.ten o.ref = 0 ∧ lookS m' o.ten o.ref = 2 ∧ lookT m' o.ten o.ref = m.time := by
  have hkj : k < js.length := by have := h.tk.names; rw [this, List.length_map] at hk; exact hk
  obtain ⟨x, hx, hop, hwin⟩ := h.tk.cand js[k] (List.getElem_mem hkj)
  have hxw := h.tk.bids js[k] x hx
  rw [if_pos (List.getElem_mem hkj)] at hxw
  have hjl : js[k] < b.bids.length := by rw [h.rel.len, h.tk.len]; exact (List.getElem?_eq_some_iff.1 hx).1
  have ho := List.getElem?_eq_getElem hjl
  obtain ⟨r1, r2, r3, r4⟩ := h.rel.bid js[k] _ _ ho hxw
  have hs := h.seen js[k] _ x ho hx
  simp only [BidG.openB, Bool.and_eq_true, beq_iff_eq, decide_eq_true_eq, Bool.not_eq_true'] at hop
  obtain ⟨⟨⟨q1, q2⟩, q3⟩, q4⟩ := hop
  obtain ⟨l1, l2, l3⟩ := h.sound.look h.good.ok hxw
  have e1 : b.bids[js[k]].ten = x.ten := r1
  have e2 : b.bids[js[k]].ref = x.ref := r2
  refine ⟨js[k], b.bids[js[k]], x, List.getElem?_eq_getElem hkj, ho, hx, hxw, ?_, r1, r2, r3, by rw [hs]; exact q1, ?_, ?_, fun i u hi hu hnn => ?_, ?_, ?_, ?_⟩
  · rw [h.tk.names, List.getElem?_map, List.getElem?_eq_getElem hkj, Option.map_some, nameAt, hx, e1, e2]
  · unfold suspAt
    rw [h.msusp]
    exact q2
  · unfold BidG.winB at hwin
    simpa using hwin
  · have hil : i < m'.bids.length := by rw [← h.rel.len]; exact (List.getElem?_eq_some_iff.1 hu).1
    obtain ⟨s1, s2, _, _⟩ := h.rel.bid i u _ hu (List.getElem?_eq_getElem hil)
    have := h.sound.uniq i js[k] _ _ (List.getElem?_eq_getElem hil) hxw (by rw [← s1, hnn.1]; exact r1) (by rw [← s2, hnn.2]; exact r2)
    omega
  · rw [e1, e2]; exact l1
  · rw [e1, e2]; exact l2
  · rw [e1, e2]; exact l3
theorem Told1.ahead {m m' : MkG} {b : BookG} {names : List (Int × Int)} {js : List Nat} (h : Told1 m m' b names js) {k i j : Nat} {x z : BidG} (hi : js[k]? = some i) (hj : js[k + 1]? = some j) (hx : m.bids[i]? = some x) (hz : m.bids[j]? = some z) : aheadJ x.job z.job i j = true := by
  have h1 := (List.getElem?_eq_some_iff.1 hi)
  have h2 := (List.getElem?_eq_some_iff.1 hj)
  have := List.pairwise_iff_getElem.1 h.tk.ahead k (k + 1) h1.1 h2.1 (by omega)
  rw [h1.2, h2.2] at this
  unfold aheadI at this
  rw [hx, hz] at this
  exact this

def lastZ (js : List Nat) (k : Nat) : Int := match k with | 0 => -1 | k + 1 => match js[k]? with | some j => j | none => -1

set_option maxRecDepth 100000 in
set_option maxHeartbeats 16000000 in
theorem started_any {YAt : World → Nat → (Nat → Prop) → MkG → Prop} (hY : YardSpec YAt) (y : Nat) (F0 : Nat → Prop) (m m' : MkG) (p : Nat) (V : BV) (b : BookG) (names : List (Int × Int)) (js : List Nat) (nv : Value) (w : World) (hy : YAt w y F0 m') (hbk : BookAt w p V b) (hdis : ∀ k, V.foot p k → ¬ F0 k)
    (hnv : w.ownsRow 0 90 2 nv names.length (names.flatMap nameCells)) (hnd : ∀ k, nv.ownBlock = some k → ¬ F0 k) (h1 : Told1 m m' b names js) :
    Calls Try.prog 21 #[.pointer (some ⟨p, 0, none⟩), .pointer (some ⟨y, 0, none⟩), nv, .int .i64 m.time] w fun e w' => e = .returned (.bool true) ∧ ∃ F, LkSt YAt w y F0 m' F w' := by
  obtain ⟨na, nc, hnf⟩ := ownsRow_form hnv
  subst hnf
  obtain ⟨n, hn⟩ : ∃ n, n = names.length := ⟨_, rfl⟩
  have HN := hide hn
  rw [← hn] at hnv hnd ⊢
  have HNV := hide hnv
  have HND := hide hnd
  have HY := hide hY
  have HBK := hide hbk
  have HDIS := hide hdis
  have H1 := hide h1
  have hnl : n ≤ 300 := by rw [hn]; exact h1.nl
  have HST0 := hide (show LkSt YAt w y F0 m' F0 w from ⟨hy, Chg.refl _ _, fun _ h => .inl h⟩)
  obtain ⟨tm, htm⟩ : ∃ tm, tm = m.time := ⟨_, rfl⟩
  have HTM := hide htm
  rw [← htm]
  clear hY hbk hdis h1 hy hnv hnd hn htm
  go_enter Try.func21, Try.ntmps21
  go_wp2
  go_loopw [9, 10] (fun la i wr => ∃ (k : Nat) (F : Nat → Prop), k ≤ n ∧ i = .int .i64 k ∧ la = .int .i64 (lastZ js k) ∧ LkSt YAt w y F0 m' F wr) (fun _ i _ => n - (intOf i).toNat)
  case atStart => exact ⟨0, F0, by omega, rfl, rfl, HST0.out⟩
  case round =>
    obtain ⟨k, F, hk, rfl, rfl, hst⟩ := hrel
    have HST := hide hst
    clear hst
    by_cases hlt : k < n
    · obtain ⟨j, o, x, hj, ho, hx, hxw, hnm, e1, e2, e3, e4, e5, e6, e7, e8, e9, e10⟩ := H1.out.at (k := k) (by rw [← HN.out]; exact hlt)
      have hbkr := HST.out.book HBK.out HDIS.out
      have hok := H1.out.good.ok
      have hxm := List.mem_of_getElem? hxw
      obtain ⟨⟨z1, z2⟩, ⟨v1, v2⟩, ⟨u1, u2⟩⟩ := job_nums hok hxm
      have hjob : (setWon m.time x).job = x.job := rfl
      rw [hjob, ← e3] at z1 z2 v1 v2
      have hbl : b.bids.length ≤ 300 := by rw [H1.out.rel.len]; exact hok.bl
      have hjl : j < b.bids.length := (List.getElem?_eq_some_iff.1 ho).1
      -- the name that is told
      have hnr : wr.ownsRow 0 90 2 (.slice na n nc) n (names.flatMap nameCells) := ownsRow_keep HNV.out (fun q hq => HST.out.chg.block q (HNV.out.lt q hq).2 (HND.out q hq))
      obtain ⟨gn, hna, g0, g1⟩ : ∃ gn, na = some ⟨gn, 0, none⟩ ∧ wr.cell? ⟨gn, k * 2, none⟩ = some (.int .i64 o.ten) ∧ wr.cell? ⟨gn, k * 2 + 1, none⟩ = some (.int .i64 o.ref) := by
        rcases hnr.2 with ⟨hv, h0⟩ | ⟨g, cap, cur, hv, hg, hh, r⟩
        · omega
        · simp at hv
          obtain ⟨rfl, rfl⟩ := hv
          have h0 := hnr.cells (g := g) rfl (k * 2) (.int .i64 o.ten) (by
            have := flat_get nameCells 2 (fun _ => rfl) names k _ 0 hnm (by omega)
            rw [Nat.add_zero] at this
            rw [this]; rfl)
          have h1 := hnr.cells (g := g) rfl (k * 2 + 1) (.int .i64 o.ref) (by rw [flat_get nameCells 2 (fun _ => rfl) names k _ 1 hnm (by omega)]; rfl)
          rw [Addr.add_lit, Nat.zero_add] at h0 h1
          exact ⟨g, rfl, h0, h1⟩
      subst hna
      have k0 : (0 : Int) ≤ (k : Int) := by omega
      have k1 : (k : Int) < (n : Int) := by omega
      have hd : decide ((k : Int) < (n : Int)) = true := by simpa using k1
      have HIX := hide (index_at p V b j o o.ten o.ref wr hbkr hbl ho rfl rfl e7)
      have HBR := hide hbkr
      -- what the last one was
      have HLA := hide (show (k = 0 ∧ lastZ js k = -1) ∨ ∃ (i : Nat) (u : KnownG) (zz : BidG), lastZ js k = i ∧ b.bids[i]? = some u ∧ u.job = zz.job ∧ m.bids[i]? = some zz ∧ aheadJ zz.job x.job i j = true from by
        cases k with
        | zero => exact .inl ⟨rfl, rfl⟩
        | succ k' =>
          obtain ⟨i, u, zz, hi, hu, hz, hzw, _, _, _, ej, _⟩ := H1.out.at (k := k') (by rw [← HN.out]; omega)
          exact .inr ⟨i, u, zz, by simp [lastZ, hi], hu, ej, hz, H1.out.ahead hi hj hz hx⟩)
      have HJ := hide hj
      have HO := hide ho
      have HXM := hide hxw
      have HE := hide (show o.ten = x.ten ∧ o.job = x.job ∧ o.wasS = 1 ∧ suspAt m' x.ten = false ∧ m.c.res * sizeJ x.job ≤ x.job.val from ⟨e1, e3, e4, e5, e6⟩)
      have HLK := hide (show lookE m' o.ten o.ref = 0 ∧ lookS m' o.ten o.ref = 2 ∧ lookT m' o.ten o.ref = tm from ⟨e8, e9, e10.trans HTM.out.symm⟩)
      have HNZ := hide (show (1 ≤ sizeJ o.job ∧ sizeJ o.job ≤ 64000) ∧ 1 ≤ o.job.val ∧ o.job.val ≤ 1048576 from ⟨⟨z1, z2⟩, v1, v2⟩)
      clear hj ho hx hxw hnm e1 e2 e3 e4 e5 e6 e7 e8 e9 e10 hxm z1 z2 v1 v2 u1 u2 hjob hbkr hnr hok
      go_wp2_with fail
      refine HIX.out.mono ?_
      rintro e w2 ⟨rfl, hq2⟩
      have HST2 := hide (HST.out.chg0 HY.out hq2)
      have hb2 := HBR.out.chg0 hq2
      have HB2 := hide hb2
      have m0 := hq2.keep _ _ g0
      have m1 := hq2.keep _ _ g1
      -- susp, was
      obtain ⟨ti, hti⟩ := Int.eq_ofNat_of_zero_le (show 0 ≤ o.ten by rw [HE.out.1]; exact (H1.out.good.ok.bid _ (List.mem_of_getElem? HXM.out)).t0)
      have hsl : ti < b.susp.length := by
        have h1 := (H1.out.good.ok.bid _ (List.mem_of_getElem? HXM.out)).t1
        have h2 := H1.out.good.ok.ns
        have h3 : (setWon m.time x).ten = x.ten := rfl
        rw [H1.out.rel.susp, h2]
        rw [h3, ← HE.out.1] at h1
        omega
      obtain ⟨gs, scap, hsv, _, _, hsc, _⟩ := hb2.suspCell hsl
      have hsf : b.susp.getD ti false = false := by
        have h1 := HE.out.2.2.2.1
        unfold suspAt at h1
        rw [← HE.out.1, hti, Int.toNat_natCast, ← H1.out.rel.susp] at h1
        exact h1
      rw [hsf] at hsc
      obtain ⟨gb, bcap, hbv, hbo, hbl2, hbc, _⟩ := hb2.bidCell HO.out
      have c6 : w2.cell? ⟨p, 6, none⟩ = some (.slice (some ⟨gs, 0, none⟩) b.susp.length scap) := by rw [← hsv]; exact hb2.cell 6
      have c5 : w2.cell? ⟨p, 5, none⟩ = some (.slice (some ⟨gb, 0, none⟩) b.bids.length bcap) := by rw [← hbv]; exact hb2.cell 5
      rw [hti] at m0
      have t0 : (0 : Int) ≤ (ti : Int) := by omega
      have t1 : (ti : Int) < (b.susp.length : Int) := by omega
      have j0 : (0 : Int) ≤ (j : Int) := by omega
      have j1 : (j : Int) < (b.bids.length : Int) := by omega
      have jd : decide ((j : Int) < 0) = false := by simp
      have b0 : w2.cell? ⟨gb, j * 12, none⟩ = some (.int .i64 o.ten) := hbc 0 _ rfl
      have b1 : w2.cell? ⟨gb, j * 12 + 1, none⟩ = some (.int .i64 o.ref) := hbc 1 _ rfl
      have b2 : w2.cell? ⟨gb, j * 12 + 2, none⟩ = some (.int .i64 o.job.arr) := hbc 2 _ rfl
      have b3 : w2.cell? ⟨gb, j * 12 + 3, none⟩ = some (.int .i64 o.job.dl) := hbc 3 _ rfl
      have b4 : w2.cell? ⟨gb, j * 12 + 4, none⟩ = some (.int .i64 o.job.len) := hbc 4 _ rfl
      have b5 : w2.cell? ⟨gb, j * 12 + 5, none⟩ = some (.int .i64 o.job.units) := hbc 5 _ rfl
      have b6 : w2.cell? ⟨gb, j * 12 + 6, none⟩ = some (.int .i64 o.job.val) := hbc 6 _ rfl
      have b7 : w2.cell? ⟨gb, j * 12 + 7, none⟩ = some (.int .i64 o.arrival) := hbc 7 _ rfl
      have b8 : w2.cell? ⟨gb, j * 12 + 8, none⟩ = some (.int .i64 o.step) := hbc 8 _ rfl
      have b9 : w2.cell? ⟨gb, j * 12 + 9, none⟩ = some (.int .i64 o.wasS) := hbc 9 _ rfl
      have b10 : w2.cell? ⟨gb, j * 12 + 10, none⟩ = some (.int .i64 o.wasT) := hbc 10 _ rfl
      have b11 : w2.cell? ⟨gb, j * 12 + 11, none⟩ = some (.bool o.charged) := hbc 11 _ rfl
      have b9' : w2.cell? ⟨gb, j * 12 + 9, none⟩ = some (.int .i64 1) := by rw [← HE.out.2.2.1]; exact b9
      have HTI := hide hti
      have HBV := hide hbv
      clear hq2 hb2 hsv hbv hbo hbc hsf hti HIX g0 g1
      have HCB := hide (show b.c.res = m.c.res ∧ 0 ≤ m.c.res ∧ m.c.res ≤ 1000 from by
        have h1 := cfgOk_true H1.out.good.ok.ck
        rw [H1.out.mc] at h1
        exact ⟨by rw [H1.out.rel.c, H1.out.mc], by omega, by omega⟩)
      generalize b.susp.length = ns at *
      obtain ⟨nb, hnb⟩ : ∃ nb, nb = b.bids.length := ⟨_, rfl⟩
      rw [← hnb] at j1 c5 hjl hbl HBV
      have HNB := hide hnb
      clear hnb b9
      go_wp2
      go_quiet (fail)
      obtain ⟨w3, hw3⟩ : ∃ w3, w3 = w2.drewN nq := ⟨_, rfl⟩
      rw [← hw3]
      have hq3 : Chg (fun _ => False) w2 w3 := by rw [hw3]; exact (Chg.refl _ _).drewN _
      have HST3 := hide (HST2.out.chg0 HY.out hq3)
      have HB3 := hide (HB2.out.chg0 hq3)
      have hk3 := hq3.keep
      have c5' := hk3 _ _ c5
      have f0 := hk3 _ _ b0
      have f1 := hk3 _ _ b1
      have f2 := hk3 _ _ b2
      have f3 := hk3 _ _ b3
      have f4 := hk3 _ _ b4
      have f5 := hk3 _ _ b5
      have f6 := hk3 _ _ b6
      have f7 := hk3 _ _ b7
      have f8 := hk3 _ _ b8
      have f10 := hk3 _ _ b10
      have f11 := hk3 _ _ b11
      have f9 := hk3 _ _ b9'
      clear hw3 hq3 hk3 c5 c6 m0 m1 hsc b0 b1 b2 b3 b4 b5 b6 b7 b8 b10 b11 b9' HB2 HST2
      obtain ⟨w4, hw4⟩ : ∃ w4, w4 = w3.alloc (.cells #[.int .i64 o.ten, .int .i64 o.ref, .int .i64 o.job.arr, .int .i64 o.job.dl, .int .i64 o.job.len, .int .i64 o.job.units, .int .i64 o.job.val, .int .i64 o.arrival, .int .i64 o.step, .int .i64 1, .int .i64 o.wasT, .bool o.charged] 70) := ⟨_, rfl⟩
      have hq4 : Chg (fun _ => False) w3 w4 := by rw [hw4]; exact (Chg.refl _ _).alloc _
      have hbx4 : w4.heap[w3.heap.size]? = some (.cells #[.int .i64 o.ten, .int .i64 o.ref, .int .i64 o.job.arr, .int .i64 o.job.dl, .int .i64 o.job.len, .int .i64 o.job.units, .int .i64 o.job.val, .int .i64 o.arrival, .int .i64 o.step, .int .i64 1, .int .i64 o.wasT, .bool o.charged] 70 (0, 0)) := by rw [hw4]; exact heap_alloc_new w3 _
      have HST4 := hide (HST3.out.chg0 HY.out hq4)
      have HB4 := hide (HB3.out.chg0 hq4)
      have hs4 : w3.heap.size < w4.heap.size := (Array.getElem?_eq_some_iff.1 hbx4).1
      have HNF := hide (show ¬ F w3.heap.size from fun h => by have := HY.out.lt _ _ _ _ HST3.out.yard _ h; omega)
      have HLOOK := hide (HY.out.look w4 y F m' o.ten o.ref HST4.out.yard H1.out.good.ok (by have h1 := (H1.out.good.ok.bid _ (List.mem_of_getElem? HXM.out)).t0; have h2 := (H1.out.good.ok.bid _ (List.mem_of_getElem? HXM.out)).t1; have h3 := cfgOk_true H1.out.good.ok.ck; have h4 : (setWon m.time x).ten = o.ten := HE.out.1.symm; rw [h4] at h1 h2; constructor <;> omega) (by
        obtain ⟨_, r2, _⟩ := H1.out.rel.bid j o _ HO.out HXM.out
        have h1 := (H1.out.good.ok.bid _ (List.mem_of_getElem? HXM.out)).r0
        have h2 := (H1.out.good.ok.bid _ (List.mem_of_getElem? HXM.out)).r1
        rw [← r2] at h1 h2
        constructor <;> omega))
      rw [HLK.out.1, HLK.out.2.1, HLK.out.2.2] at HLOOK
      have HBX4 := hide hbx4
      have HW4 := hide hw4
      clear hq4 hbx4 hw4
      go_wp2_with fail
      rw [← HW4.out]
      refine HLOOK.out.mono ?_
      rintro e w5 ⟨rfl, hto⟩
      obtain ⟨F5, hst5, hfar⟩ := HST4.out.yto hto
      have HST5 := hide hst5
      have hbx5 := (hfar _ hs4 HNF.out).trans HBX4.out
      have hs5 : w3.heap.size < w5.heap.size := (Array.getElem?_eq_some_iff.1 hbx5).1
      have HB5 := hide (hst5.book HBK.out HDIS.out)
      obtain ⟨w6, hw6⟩ : ∃ w6, w6 = w5.alloc (.cells #[.int .i64 2, .int .i64 tm] 68) := ⟨_, rfl⟩
      have hq6 : Chg (fun _ => False) w5 w6 := by rw [hw6]; exact (Chg.refl _ _).alloc _
      have hbd6 : w6.heap[w5.heap.size]? = some (.cells #[.int .i64 2, .int .i64 tm] 68 (0, 0)) := by rw [hw6]; exact heap_alloc_new w5 _
      have hbx6 := (hq6.block _ hs5 (fun h => h)).trans hbx5
      have HST6 := hide (hst5.chg0 HY.out hq6)
      have hb6 := HB5.out.chg0 hq6
      have HB6 := hide hb6
      have HW6 := hide hw6
      have d0 : w6.cell? ⟨w5.heap.size, 0, none⟩ = some (.int .i64 2) := by unfold World.cell?; rw [hbd6]; rfl
      have d1 : w6.cell? ⟨w5.heap.size, 1, none⟩ = some (.int .i64 tm) := by unfold World.cell?; rw [hbd6]; rfl
      have x2 : w6.cell? ⟨w3.heap.size, 2, none⟩ = some (.int .i64 o.job.arr) := by unfold World.cell?; rw [hbx6]; rfl
      have x3 : w6.cell? ⟨w3.heap.size, 3, none⟩ = some (.int .i64 o.job.dl) := by unfold World.cell?; rw [hbx6]; rfl
      have x4 : w6.cell? ⟨w3.heap.size, 4, none⟩ = some (.int .i64 o.job.len) := by unfold World.cell?; rw [hbx6]; rfl
      have x5 : w6.cell? ⟨w3.heap.size, 5, none⟩ = some (.int .i64 o.job.units) := by unfold World.cell?; rw [hbx6]; rfl
      have x6 : w6.cell? ⟨w3.heap.size, 6, none⟩ = some (.int .i64 o.job.val) := by unfold World.cell?; rw [hbx6]; rfl
      have cr : w6.cell? ⟨p, 2, none⟩ = some (.int .i64 b.c.res) := hb6.cell 2
      have hwr : IntKind.i64.wrap (b.c.res * sizeJ o.job) = b.c.res * sizeJ o.job := by
        have h1 := HCB.out
        have h2 := HNZ.out
        have h3 : b.c.res * sizeJ o.job ≤ 1000 * 64000 := Int.mul_le_mul (by omega) (by omega) (by omega) (by omega)
        have h4 : 0 ≤ b.c.res * sizeJ o.job := Int.mul_nonneg (by omega) (by omega)
        rw [IntKind.wrap_i64]
        omega
      have hvd : decide (o.job.val < b.c.res * sizeJ o.job) = false := by
        have h1 := HE.out.2.2.2.2
        rw [← HE.out.2.1, ← HCB.out.1] at h1
        simp
        exact h1
      have HSZ := hide (fun (w' : World) => ksz_any o.job w' HNZ.out.1.2 (by have := HNZ.out.1.1; omega))
      obtain ⟨sz, hsz⟩ : ∃ sz, sz = sizeJ o.job := ⟨_, rfl⟩
      rw [← hsz] at hwr hvd HSZ
      obtain ⟨rs, hrs⟩ : ∃ rs, rs = b.c.res := ⟨_, rfl⟩
      rw [← hrs] at hwr hvd cr
      clear hto hst5 hfar hbx5 hq6 hbd6 hbx6 hb6 hw6 hsz hrs c5' HLOOK HBX4 HW4 f0 f1 f2 f3 f4 f5 f6 f7 f8 f10 f11 f9
      go_wp2
      rw [← HW6.out]
      go_region_held3 (fun w' => w'.cell? ⟨w5.heap.size, 0, none⟩ = some (.int .i64 2) ∧ w'.cell? ⟨w5.heap.size, 1, none⟩ = some (.int .i64 tm) ∧ w'.cell? ⟨p, 2, none⟩ = some (.int .i64 rs) ∧ w'.cell? ⟨w3.heap.size, 2, none⟩ = some (.int .i64 o.job.arr) ∧ w'.cell? ⟨w3.heap.size, 3, none⟩ = some (.int .i64 o.job.dl) ∧ w'.cell? ⟨w3.heap.size, 4, none⟩ = some (.int .i64 o.job.len) ∧ w'.cell? ⟨w3.heap.size, 5, none⟩ = some (.int .i64 o.job.units) ∧ w'.cell? ⟨w3.heap.size, 6, none⟩ = some (.int .i64 o.job.val)) (go_keep)
        (first | (go_at_call 54; refine (HSZ.out _).mono ?_; rintro e w7 ⟨rfl, hq⟩; have hk7 := hq.keep; have HQ7 := hide (show Chg (fun _ => False) w6 w7 from ⟨hq.os, hq.tape, hq.output, hq.size, hq.block⟩); clear hq; have y0 := hk7 _ _ d0; have y1 := hk7 _ _ d1; have y2 := hk7 _ _ cr; have z2 := hk7 _ _ x2; have z3 := hk7 _ _ x3; have z4 := hk7 _ _ x4; have z5 := hk7 _ _ x5; have z6 := hk7 _ _ x6; clear hk7))
      have HST7 := hide (HST6.out.chg0 HY.out HQ7.out)
      have HB7 := hide (HB6.out.chg0 HQ7.out)
      clear d0 d1 cr x2 x3 x4 x5 x6 y0 y1 y2 HQ7 HSZ hwr hvd
      have HLZ := hide (show lastZ js (k + 1) = j by simp [lastZ, HJ.out])
      rcases HLA.out with ⟨_, hla⟩ | ⟨i, u, zz, hla, hu, huj, hz, hah⟩
      · rw [hla]
        clear hla z2 z3 z4 z5 z6
        go_wp2
        go_quiet (fail)
        go_wp2
        go_roundw
        case rel => exact ⟨k + 1, F5, by omega, by go_num, by rw [HLZ.out], HST7.out.chg0 HY.out ((Chg.refl _ _).drewN _)⟩
        case measure => simp [intOf]; omega
      · rw [hla]
        have hzm : ∃ zw, m'.bids[i]? = some zw ∧ zw.job = zz.job := by
          have h1 := H1.out.tk.bids i zz hz
          refine ⟨_, h1, ?_⟩
          split
          · rfl
          · unfold BidG.expire; split <;> rfl
        obtain ⟨zw, hzw, hzj⟩ := hzm
        obtain ⟨⟨s1, s2⟩, ⟨v1, v2⟩, _⟩ := job_nums H1.out.good.ok (List.mem_of_getElem? hzw)
        rw [hzj, ← huj] at s1 s2 v1 v2
        have hil : i < nb := by rw [HNB.out]; exact (List.getElem?_eq_some_iff.1 hu).1
        obtain ⟨gu, ucap, huv, _, _, huc, _⟩ := HB7.out.bidCell hu
        have c5 : w7.cell? ⟨p, 5, none⟩ = some (.slice (some ⟨gu, 0, none⟩) nb ucap) := by rw [HNB.out, ← huv]; exact HB7.out.cell 5
        have i0 : (0 : Int) ≤ (i : Int) := by omega
        have i1 : (i : Int) < (nb : Int) := by omega
        have hgd : decide ((0 : Int) ≤ (i : Int)) = true := by simp
        have u2 : w7.cell? ⟨gu, i * 12 + 2, none⟩ = some (.int .i64 u.job.arr) := huc 2 _ rfl
        have u3 : w7.cell? ⟨gu, i * 12 + 3, none⟩ = some (.int .i64 u.job.dl) := huc 3 _ rfl
        have u4 : w7.cell? ⟨gu, i * 12 + 4, none⟩ = some (.int .i64 u.job.len) := huc 4 _ rfl
        have u5 : w7.cell? ⟨gu, i * 12 + 5, none⟩ = some (.int .i64 u.job.units) := huc 5 _ rfl
        have u6 : w7.cell? ⟨gu, i * 12 + 6, none⟩ = some (.int .i64 u.job.val) := huc 6 _ rfl
        have HBF := hide (fun (w' : World) => before_any u.job o.job i j w' ⟨s1, s2⟩ HNZ.out.1 ⟨v1, v2⟩ HNZ.out.2)
        rw [show aheadJ u.job o.job i j = true by rw [huj, HE.out.2.1]; exact hah] at HBF
        clear hla hu huj hz hah hzw hzj huv huc s1 s2 v1 v2
        go_wp2
        go_region_held3 (fun w' => w'.cell? ⟨p, 5, none⟩ = some (.slice (some ⟨gu, 0, none⟩) nb ucap) ∧ w'.cell? ⟨gu, i * 12 + 2, none⟩ = some (.int .i64 u.job.arr) ∧ w'.cell? ⟨gu, i * 12 + 3, none⟩ = some (.int .i64 u.job.dl) ∧ w'.cell? ⟨gu, i * 12 + 4, none⟩ = some (.int .i64 u.job.len) ∧ w'.cell? ⟨gu, i * 12 + 5, none⟩ = some (.int .i64 u.job.units) ∧ w'.cell? ⟨gu, i * 12 + 6, none⟩ = some (.int .i64 u.job.val) ∧ w'.cell? ⟨w3.heap.size, 2, none⟩ = some (.int .i64 o.job.arr) ∧ w'.cell? ⟨w3.heap.size, 3, none⟩ = some (.int .i64 o.job.dl) ∧ w'.cell? ⟨w3.heap.size, 4, none⟩ = some (.int .i64 o.job.len) ∧ w'.cell? ⟨w3.heap.size, 5, none⟩ = some (.int .i64 o.job.units) ∧ w'.cell? ⟨w3.heap.size, 6, none⟩ = some (.int .i64 o.job.val)) (go_keep)
          (first | (go_at_call 55; refine (HBF.out _).mono ?_; rintro e w8 ⟨rfl, hq⟩; have hk8 := hq.keep; have HQ8 := hide (show Chg (fun _ => False) w7 w8 from ⟨hq.os, hq.tape, hq.output, hq.size, hq.block⟩); clear hq; have q5 := hk8 _ _ c5; have r2 := hk8 _ _ u2; have t2 := hk8 _ _ z2; have r3 := hk8 _ _ u3; have t3 := hk8 _ _ z3; have r4 := hk8 _ _ u4; have t4 := hk8 _ _ z4; have r5 := hk8 _ _ u5; have t5 := hk8 _ _ z5; have r6 := hk8 _ _ u6; have t6 := hk8 _ _ z6; clear hk8))
        clear u2 u3 u4 u5 u6 c5 q5 z2 z3 z4 z5 z6 r2 t2 r3 t3 r4 t4 r5 t5 r6 t6
        have HST8 := hide (HST7.out.chg0 HY.out HQ8.out)
        go_wp2
        go_roundw
        case rel => exact ⟨k + 1, F5, by omega, by go_num, by rw [HLZ.out], HST8.out⟩
        case measure => simp [intOf]; omega
    · have hd : decide ((k : Int) < (n : Int)) = false := by simp; omega
      go_wp2
      go_ret
      exact ⟨rfl, F, HST.out⟩
end Go.Proofs.Ytminceigjejipaa
