import Derived.Test.YtminceigjejipaaG13
import Derived.Test.YtminceigjejipaaG2
import Derived.Deep.CutRange
namespace Go.Proofs.Ytminceigjejipaa
open Go.RowKit

/-- what was there is there -/
theorem chg_keep {w w' : World} (h : Chg (fun _ => False) w w') : ∀ p v, w.cell? p = some v → w'.cell? p = some v := by
  intro p v hv
  have hl : p.block < w.heap.size := by
    rcases Nat.lt_or_ge p.block w.heap.size with e | e
    · exact e
    · unfold World.cell? at hv
      rw [Array.getElem?_eq_none e] at hv
      simp at hv
  rw [h.cell hl (fun h => h)]
  exact hv
theorem usedTo_zero (m : MkG) (n : Nat) : usedTo m n 0 = List.replicate n (.int .i64 0) := by
  apply List.ext_getElem?
  intro i
  by_cases hi : i < n <;> simp [usedTo, usedL, hi]
theorem usedMid_start {m : MkG} {n k : Nat} {x : BidG} {t : Nat} (h : x.start = (t : Int)) : usedMid m n k x t = usedTo m n k := by
  apply List.ext_getElem?
  intro i
  by_cases hi : i < n
  · simp only [usedMid, usedTo, List.getElem?_map, List.getElem?_range hi, Option.map_some]
    rw [if_neg (by omega)]
    simp
  · simp [usedMid, usedTo, hi]
theorem usedMid_step {m : MkG} {n k : Nat} {x : BidG} {t : Nat} (h : x.start ≤ (t : Int)) (ht : t < n) : (usedMid m n k x t).set t (.int .i64 (usedL (m.bids.take k) (t : Int) + x.job.units)) = usedMid m n k x (t + 1) := by
  apply List.ext_getElem?
  intro i
  rw [List.getElem?_set]
  by_cases hi : i < n
  · by_cases e : t = i
    · subst e
      simp only [usedMid, List.length_map, List.length_range, hi, if_true, List.getElem?_map, List.getElem?_range hi, Option.map_some]
      rw [if_pos ⟨h, by omega⟩]
    · rw [if_neg e]
      simp only [usedMid, List.getElem?_map, List.getElem?_range hi, Option.map_some]
      have : (x.start ≤ (i : Int) ∧ i < t) ↔ (x.start ≤ (i : Int) ∧ i < t + 1) := by omega
      simp only [this]
  · by_cases e : t = i
    · omega
    · simp [usedMid, hi, e]
theorem usedTo_succ {m : MkG} {n k : Nat} {x : BidG} (hx : m.bids[k]? = some x) (h2 : x.state ≠ 2) : usedTo m n (k + 1) = usedTo m n k := by
  apply List.ext_getElem?
  intro i
  by_cases hi : i < n
  · simp only [usedTo, List.getElem?_map, List.getElem?_range hi, Option.map_some]
    rw [take_snoc hx, usedL_snoc, if_neg (by simp [BidG.runs, h2])]
    simp
  · simp [usedTo, hi]
theorem usedMid_end {m : MkG} {n k : Nat} {x : BidG} {t : Nat} (hx : m.bids[k]? = some x) (h2 : x.state = 2) (ht : (t : Int) = x.start + x.job.len) : usedMid m n k x t = usedTo m n (k + 1) := by
  apply List.ext_getElem?
  intro i
  by_cases hi : i < n
  · simp only [usedMid, usedTo, List.getElem?_map, List.getElem?_range hi, Option.map_some]
    rw [take_snoc hx, usedL_snoc]
    have : (x.start ≤ (i : Int) ∧ i < t) ↔ x.runs (i : Int) = true := by simp [BidG.runs, h2]; omega
    by_cases e : x.runs (i : Int) = true
    · rw [if_pos (this.2 e), if_pos e]
    · rw [if_neg (fun h => e (this.1 h)), if_neg e]
  · simp [usedMid, usedTo, hi]

set_option maxRecDepth 100000 in
set_option maxHeartbeats 16000000 in
theorem sound_any {YAt : World → Nat → (Nat → Prop) → MkG → Prop} (hY : YardSpec YAt) (y : Nat) (F0 : Nat → Prop) (m : MkG) (p : Nat) (V : BV) (b : BookG) (w : World) (hy : YAt w y F0 m) (hg : GoodM m) (hs : SoundM m) (hbk : BookAt w p V b) (hrel : BookRel m b) (hdis : ∀ k, V.foot p k → ¬ F0 k) :
    Calls Try.prog 20 #[.pointer (some ⟨p, 0, none⟩), .pointer (some ⟨y, 0, none⟩)] w fun e w' => e = .returned (.bool true) ∧ ∃ F, YAt w' y F m ∧ BookAt w' p V (seenB m b) ∧ Chg (fun k => F0 k ∨ V.foot p k) w w' ∧ (∀ k, F k → F0 k ∨ w.heap.size ≤ k) ∧ ∀ k, V.foot p k → ¬ F k := by
  have HY := hide hY
  have HG := hide hg
  have HSM := hide hs
  have HREL := hide hrel
  have hcf := cfgOk_true hg.ok.ck
  have hnb := hg.ok.bl
  have HFL := hide (hY.lt _ _ _ _ hy)
  obtain ⟨n, hn⟩ := Int.eq_ofNat_of_zero_le (show 0 ≤ m.c.ticks by omega)
  have hn1 : 1 ≤ n := by omega
  have hn2 : n ≤ 64 := by omega
  have HN := hide hn
  have c0 : w.cell? ⟨p, 0, none⟩ = some (.int .i64 (n : Int)) := by rw [← hn, ← hrel.c]; exact hbk.cell 0
  have hmk := run_make_row' (P := Try.prog) 27 3 (.int .i64 0) 8 Try.underlying27 infoInt' rfl .i64 .i64 n (by omega) (by omega)
  obtain ⟨nb, hnb2⟩ : ∃ nb, nb = m.bids.length := ⟨_, rfl⟩
  rw [← hnb2] at hnb
  have HNB := hide hnb2
  obtain ⟨w1, hw1⟩ : ∃ w1, w1 = w.alloc (.cells (madeCells #[.int .i64 0] n) 3) := ⟨_, rfl⟩
  have HST0 := hide (show SoSt YAt w y F0 m p V { b with bids := seenTo m b.bids 0 } w.heap.size n (usedTo m n 0) F0 w1 from by
    have hc : Chg (fun _ => False) w w1 := by rw [hw1]; exact (Chg.refl _ _).alloc _
    have hal : w1.heap[w.heap.size]? = some (.cells (madeCells #[.int .i64 0] n) 3 (0, 0)) := by rw [hw1]; exact heap_alloc_new w _
    refine ⟨hY.frame _ _ _ _ _ hy (fun k hk => hc.block k (hY.lt _ _ _ _ hy k hk) (fun e => e)), by rw [seenTo_zero]; exact hbk.chg0 hc, ?_, hc.mono (fun _ _ e => e.elim), fun k hk => .inl hk, fun e => by have := hY.lt _ _ _ _ hy _ e; omega, Nat.le_refl _, fun k hk => ⟨hdis k hk, hbk.foot_lt k hk⟩⟩
    rw [usedTo_zero]
    exact ⟨by simp, .inr ⟨w.heap.size, n, _, rfl, Nat.zero_le _, hal, Nat.le_refl _, by unfold maxLen; omega, by rw [size_madeCells]; omega, by rw [made_list]; simp⟩⟩)
  clear hY hg hs hbk hrel hdis hy hcf hn hnb2
  go_enter Try.func20, Try.ntmps20
  go_wp2
  rw [← hw1]
  clear hw1 c0 hmk
  go_loopw [6] (fun v wr => ∃ (k : Nat) (F : Nat → Prop), k ≤ nb ∧ v = .int .i64 k ∧ SoSt YAt w y F0 m p V { b with bids := seenTo m b.bids k } w.heap.size n (usedTo m n k) F wr) (fun v _ => nb - (intOf v).toNat)
  case atStart => exact ⟨0, F0, by omega, rfl, HST0.out⟩
  case round =>
    clear HST0
    obtain ⟨k, F, hk, rfl, hst⟩ := hrel
    have HST := hide hst
    have hlen : (seenTo m b.bids k).length = nb := by rw [seenTo_len, HREL.out.len, HNB.out]
    by_cases hlt : k < nb
    · obtain ⟨x, hx⟩ : ∃ x, m.bids[k]? = some x := ⟨_, List.getElem?_eq_getElem (by rw [← HNB.out]; exact hlt)⟩
      obtain ⟨o, ho⟩ : ∃ o, b.bids[k]? = some o := ⟨_, List.getElem?_eq_getElem (by rw [HREL.out.len, ← HNB.out]; exact hlt)⟩
      have ho2 : (seenTo m b.bids k)[k]? = some o := by rw [seenTo_get]; exact ho
      obtain ⟨g, cap, hv, hown, hgl, hcl, hfr⟩ := hst.book.bidCell ho2
      have hv' : V.bv = .slice (some ⟨g, 0, none⟩) nb cap := by rw [← hlen]; exact hv
      obtain ⟨e1, e2, e3, e4⟩ := HREL.out.bid k o x ho hx
      have hxo := HG.out.ok.bid x (List.mem_of_getElem? hx)
      have hj := jobIn_true hxo.job
      have hcf := cfgOk_true HG.out.ok.ck
      have ha0 := hxo.a0
      have ha1 := hxo.a1
      have hjd : (0 ≤ x.job.dl ∧ x.job.dl ≤ 64) ∧ (1 ≤ x.job.len ∧ x.job.len ≤ 64) ∧ (1 ≤ x.job.units ∧ x.job.units ≤ 1000) := by omega
      have HLOOK := hide (HSM.out.look HG.out.ok hx)
      have HTURN := hide (show TurnOk o.wasS o.wasT x.state x.start o from ⟨HREL.out.was k o x ho hx, fun _ h2 => by have := HSM.out.won x (List.mem_of_getElem? hx) h2; rw [e3, e4]; omega, fun h1 h2 => ⟨HSM.out.oth x (List.mem_of_getElem? hx) h2, by have := hxo.s0; have := hxo.s1; omega⟩⟩)
      have I1 : I64 x.ten := by have := hxo.t0; have := hxo.t1; unfold I64; omega
      have I2 : I64 x.ref := by have := hxo.r0; have := hxo.r1; unfold I64; omega
      have c5 : wr.cell? ⟨p, 5, none⟩ = some (.slice (some ⟨g, 0, none⟩) nb cap) := by rw [← hv']; exact hst.book.cell 5
      have b0 : wr.cell? ⟨g, k * 12, none⟩ = some (.int .i64 x.ten) := by rw [← e1]; exact hcl 0 _ rfl
      have b1 : wr.cell? ⟨g, k * 12 + 1, none⟩ = some (.int .i64 x.ref) := by rw [← e2]; exact hcl 1 _ rfl
      have k0 : (0 : Int) ≤ (k : Int) := by omega
      have k1 : (k : Int) < (nb : Int) := by omega
      have n3 : wr.heap.size ≠ p := by have := hst.book.lt; omega
      have n4 : wr.heap.size ≠ g := by omega
      have hgF : ¬ F g := (hst.fb g (.inr (.inl hown))).1
      have hpF : ¬ F p := (hst.fb p (.inl rfl)).1
      have hpl : p < wr.heap.size := hst.book.lt
      have HFw := hide (HY.out.lt _ _ _ _ hst.yard)
      have HLK := hide (fun (w' : World) (h : Chg (fun _ => False) wr w') => HY.out.look w' y F m x.ten x.ref (HST.out.chg0 HY.out h).yard HG.out.ok I1 I2)
      have HYT := hide (fun (w' w2 : World) (h : Chg (fun _ => False) wr w') (ht : YTo YAt w' y F m w2) => (HST.out.chg0 HY.out h).yto ht)
      have HSZ := hide (show w.heap.size ≤ wr.heap.size ∧ wr.heap.size ≠ w.heap.size from ⟨hst.chg.size, by have := hst.ltU; omega⟩)
      have HLK2 := hide (fun (w' : World) (h : Chg (fun _ => False) wr w') => show Calls Try.prog 23 #[.pointer (some ⟨y, 0, none⟩), .int .i64 x.ten, .int .i64 x.ref] w' (fun e w2 => e = .returned (.tuple #[.agg #[.int .i64 x.state, .int .i64 x.start], .int .i64 0]) ∧ ∃ F2, SoSt YAt w y F0 m p V { b with bids := seenTo m b.bids k } w.heap.size n (usedTo m n k) F2 w2 ∧ w2.cell? ⟨p, 5, none⟩ = some (.slice (some ⟨g, 0, none⟩) nb cap) ∧ w2.cell? ⟨g, k * 12, none⟩ = some (.int .i64 x.ten) ∧ w2.cell? ⟨g, k * 12 + 1, none⟩ = some (.int .i64 x.ref) ∧ w2.heap.size ≠ p ∧ w2.heap.size ≠ g ∧ (∀ q, wr.heap.size ≤ q → q < w'.heap.size → w2.heap[q]? = w'.heap[q]? ∧ ¬ F2 q) ∧ wr.heap.size ≤ w2.heap.size) from
        (HLK.out w' h).mono (fun e w2 ⟨he, ht⟩ => by
          have hkq : Chg F w' w2 := by obtain ⟨_, _, a2, _⟩ := ht; exact a2
          obtain ⟨F2, hst2, hF2⟩ := HYT.out w' w2 h ht
          refine ⟨by rw [he, HLOOK.out.1, HLOOK.out.2.1, HLOOK.out.2.2], F2, hst2, ?_, ?_, ?_, ?_, ?_, fun q h1 h2 => ⟨hkq.block q h2 (fun e => by have := HFw.out q e; omega), fun e => by rcases hF2 q e with e | e; (have := HFw.out q e; omega); omega⟩, Nat.le_trans h.size hkq.size⟩
          · have := hst2.book.cell 5
            rw [show (bookBox V { b with bids := seenTo m b.bids k })[5]? = some V.bv from rfl, hv'] at this
            exact this
          · obtain ⟨g', cap', _, hown', _, hcl', _⟩ := hst2.book.bidCell ho2
            obtain rfl : g' = g := by rw [hown] at hown'; exact (Option.some.inj hown').symm
            rw [← e1]
            exact hcl' 0 _ rfl
          · obtain ⟨g', cap', _, hown', _, hcl', _⟩ := hst2.book.bidCell ho2
            obtain rfl : g' = g := by rw [hown] at hown'; exact (Option.some.inj hown').symm
            rw [← e2]
            exact hcl' 1 _ rfl
          · have := hst2.book.lt; omega
          · have := (hst2.book.bids.lt g hown).2; omega))
      have HBV := hide hv'
      have HX := hide hx
      have HO := hide ho
      have HO2 := hide ho2
      have HOW := hide hown
      have HJ := hide hjd
      have HE := hide (And.intro e3 e4)
      have HE12 := hide (And.intro e1 e2)
      clear hst hv hv' hcl hfr hown hx ho ho2 hxo hj hcf ha0 ha1 hjd e1 e2 e3 e4 hlen
      go_upto_region 5 with fail
      go_cut [7, 8] from 20 to 120 (fun q e8 wx => ∃ (Q : Nat) (F2 : Nat → Prop), q = .pointer (some ⟨Q, 0, none⟩) ∧ e8 = .int .i64 0 ∧ SoSt YAt w y F0 m p V { b with bids := seenTo m b.bids k } w.heap.size n (usedTo m n k) F2 wx ∧ wx.heap[Q]? = some (.cells #[.int .i64 x.state, .int .i64 x.start] 68 (0, 0)) ∧ wr.heap.size ≤ Q ∧ ¬ F2 Q)
      case first =>
        go_region_held3 (fun w' => w'.cell? ⟨p, 5, none⟩ = some (.slice (some ⟨g, 0, none⟩) nb cap) ∧ w'.cell? ⟨g, k * 12, none⟩ = some (.int .i64 x.ten) ∧ w'.cell? ⟨g, k * 12 + 1, none⟩ = some (.int .i64 x.ref)) (go_keep)
          (first
            | (go_at_call 23; refine (HLK2.out _ (by exact ((Chg.refl _ wr).alloc _).drew)).mono ?_; rintro e w2 ⟨rfl, F2, hst2, y5, y0, y1, n1, n2, hq, hsz⟩; have hnq := (hq wr.heap.size (Nat.le_refl _) (by simp)).2; have hbk := (hq wr.heap.size (Nat.le_refl _) (by simp)).1.trans (heap_alloc_new wr (.cells #[.int .i64 0, .int .i64 0] 68)); have z0 : w2.cell? ⟨wr.heap.size, 0, none⟩ = some (.int .i64 0) := (by unfold World.cell?; rw [hbk]; rfl); have z1 : w2.cell? ⟨wr.heap.size, 1, none⟩ = some (.int .i64 0) := (by unfold World.cell?; rw [hbk]; rfl); have zf0 : w2.frozen? ⟨wr.heap.size, 0, none⟩ = false := (by unfold World.frozen?; rw [hbk]; simp); have zf1 : w2.frozen? ⟨wr.heap.size, 1, none⟩ = false := (by unfold World.frozen?; rw [hbk]; simp); have HBK := hide hbk; have HNQ := hide hnq; have HST2 := hide hst2; clear hst2 hq hbk hnq hsz)
            | (go_at_call 23; refine (HLK2.out _ (by first | exact Chg.refl _ _ | exact (Chg.refl _ _).drew)).mono ?_; rintro e w2 ⟨rfl, F2, hst2, y5, y0, y1, n1, n2, hq, hsz⟩; have HSZ2 := hide hsz; have HST2 := hide hst2; clear hst2 hq hsz))
        · go_wp2_with fail
          go_meet
          case rel => exact ⟨w2.heap.size, F2, rfl, rfl, HST2.out.chg0 HY.out ((Chg.refl _ _).alloc _), heap_alloc_new w2 _, HSZ2.out, fun e => Nat.lt_irrefl _ (HY.out.lt _ _ _ _ HST2.out.yard _ e)⟩
        · go_wp2_with fail
          go_meet
          case rel => exact ⟨wr.heap.size, F2, rfl, rfl, HST2.out.fresh HY.out (q := wr.heap.size) (((Chg.refl (fun k => k = wr.heap.size) w2).setCell (p := ⟨wr.heap.size, 0, none⟩) (.inl rfl) _).setCell (p := ⟨wr.heap.size, 1, none⟩) (.inl rfl) _) HSZ.out.1 HNQ.out HSZ.out.2, box_set (f := 1) (box_set (f := 0) HBK.out _) _, Nat.le_refl _, HNQ.out⟩
      case rest =>
        obtain ⟨Q, F2, rfl, rfl, hst2, hbq, hQ1, hQ2⟩ := hcut
        have HS2 := hide hst2
        clear c5 b0 b1
        obtain ⟨g', cap', hv', hown', hgl2, hcl, hfr⟩ := hst2.book.bidCell HO2.out
        obtain rfl : g' = g := by rw [HOW.out] at hown'; exact (Option.some.inj hown').symm
        have hcap : cap' = cap := by rw [HBV.out] at hv'; simp at hv'; exact hv'.2.symm
        subst hcap
        have c5 : wc.cell? ⟨p, 5, none⟩ = some (.slice (some ⟨g', 0, none⟩) nb cap') := by rw [← HBV.out]; exact hst2.book.cell 5
        have q0 : wc.cell? ⟨Q, 0, none⟩ = some (.int .i64 x.state) := by unfold World.cell?; rw [hbq]; rfl
        have q1 : wc.cell? ⟨Q, 1, none⟩ = some (.int .i64 x.start) := by unfold World.cell?; rw [hbq]; rfl
        have f0 : wc.cell? ⟨g', k * 12, none⟩ = some (.int .i64 o.ten) := hcl 0 _ rfl
        have f1 : wc.cell? ⟨g', k * 12 + 1, none⟩ = some (.int .i64 o.ref) := hcl 1 _ rfl
        have f2 : wc.cell? ⟨g', k * 12 + 2, none⟩ = some (.int .i64 o.job.arr) := hcl 2 _ rfl
        have f3 : wc.cell? ⟨g', k * 12 + 3, none⟩ = some (.int .i64 o.job.dl) := hcl 3 _ rfl
        have f4 : wc.cell? ⟨g', k * 12 + 4, none⟩ = some (.int .i64 o.job.len) := hcl 4 _ rfl
        have f5 : wc.cell? ⟨g', k * 12 + 5, none⟩ = some (.int .i64 o.job.units) := hcl 5 _ rfl
        have f6 : wc.cell? ⟨g', k * 12 + 6, none⟩ = some (.int .i64 o.job.val) := hcl 6 _ rfl
        have f7 : wc.cell? ⟨g', k * 12 + 7, none⟩ = some (.int .i64 o.arrival) := hcl 7 _ rfl
        have f8 : wc.cell? ⟨g', k * 12 + 8, none⟩ = some (.int .i64 o.step) := hcl 8 _ rfl
        have f9 : wc.cell? ⟨g', k * 12 + 9, none⟩ = some (.int .i64 o.wasS) := hcl 9 _ rfl
        have f10 : wc.cell? ⟨g', k * 12 + 10, none⟩ = some (.int .i64 o.wasT) := hcl 10 _ rfl
        have f11 : wc.cell? ⟨g', k * 12 + 11, none⟩ = some (.bool o.charged) := hcl 11 _ rfl
        have HTA := hide (fun (w' : World) => turned_any o.wasS o.wasT x.state x.start o w' HTURN.out (by rw [HE.out.1]; exact HJ.out.1) (by rw [HE.out.1]; exact HJ.out.2.1))
        unfold bidV knownV at HTA
        have HBQ := hide hbq
        clear hst2 hcl hfr hv' hown' hbq
        go_wp2_with fail
        go_region_held3 (fun w' => w'.cell? ⟨p, 5, none⟩ = some (.slice (some ⟨g', 0, none⟩) nb cap') ∧ w'.cell? ⟨Q, 0, none⟩ = some (.int .i64 x.state) ∧ w'.cell? ⟨Q, 1, none⟩ = some (.int .i64 x.start) ∧ w'.cell? ⟨g', k * 12, none⟩ = some (.int .i64 o.ten) ∧ w'.cell? ⟨g', k * 12 + 1, none⟩ = some (.int .i64 o.ref) ∧ w'.cell? ⟨g', k * 12 + 2, none⟩ = some (.int .i64 o.job.arr) ∧ w'.cell? ⟨g', k * 12 + 3, none⟩ = some (.int .i64 o.job.dl) ∧ w'.cell? ⟨g', k * 12 + 4, none⟩ = some (.int .i64 o.job.len) ∧ w'.cell? ⟨g', k * 12 + 5, none⟩ = some (.int .i64 o.job.units) ∧ w'.cell? ⟨g', k * 12 + 6, none⟩ = some (.int .i64 o.job.val) ∧ w'.cell? ⟨g', k * 12 + 7, none⟩ = some (.int .i64 o.arrival) ∧ w'.cell? ⟨g', k * 12 + 8, none⟩ = some (.int .i64 o.step) ∧ w'.cell? ⟨g', k * 12 + 9, none⟩ = some (.int .i64 o.wasS) ∧ w'.cell? ⟨g', k * 12 + 10, none⟩ = some (.int .i64 o.wasT) ∧ w'.cell? ⟨g', k * 12 + 11, none⟩ = some (.bool o.charged)) (go_keep)
          (first | (go_at_call 52; refine (HTA.out _).mono ?_; rintro e w3 ⟨rfl, hq⟩; have hk3 := chg_keep hq; have HQ := hide hq; have y5 := hk3 _ _ c5; have yq0 := hk3 _ _ q0; have yq1 := hk3 _ _ q1; have h0 := hk3 _ _ f0; have h1 := hk3 _ _ f1; have h2 := hk3 _ _ f2; have h3 := hk3 _ _ f3; have h4 := hk3 _ _ f4; have h5 := hk3 _ _ f5; have h6 := hk3 _ _ f6; have h7 := hk3 _ _ f7; have h8 := hk3 _ _ f8; have h9 := hk3 _ _ f9; have h10 := hk3 _ _ f10; have h11 := hk3 _ _ f11; clear hk3 hq))
        all_goals
          have HC3 : Hid (Chg (fun _ => False) wc w3) := ⟨HQ.out.os, HQ.out.tape, HQ.out.output, HQ.out.size, HQ.out.block⟩
          have HS3 := hide (HS2.out.chg0 HY.out HC3.out)
          have hb3 : w3.heap[Q]? = some (.cells #[.int .i64 x.state, .int .i64 x.start] 68 (0, 0)) := (HC3.out.block _ (Array.getElem?_eq_some_iff.1 HBQ.out).1 (fun h => h)).trans HBQ.out
          obtain ⟨g2, cap2, _, hown2, hgl3, hcl3, hfr3⟩ := HS3.out.book.bidCell HO2.out
          obtain rfl : g2 = g' := by rw [HOW.out] at hown2; exact (Option.some.inj hown2).symm
          have ff9 := hfr3 (k * 12 + 9)
          have ff10 := hfr3 (k * 12 + 10)
          have ngp : g2 ≠ p := fun e => ownsRow_box HS3.out.book.bids HS3.out.book.box (by decide) (e ▸ hown2)
          have ngQ : g2 ≠ Q := by have := (HS3.out.fb g2 (.inr (.inl hown2))).2; have := HSZ.out.1; omega
          have HB3 := hide hb3
          have HS4 := hide (HS3.out.see HY.out (i := k) (x := x) HO2.out HOW.out)
          have HSUC := hide (seenTo_succ HO.out HX.out)
          clear hcl3 hfr3 hown2 HQ c5 q0 q1 f0 f1 f2 f3 f4 f5 f6 f7 f8 f9 f10 f11 HTA hb3
          go_wp2
          go_region_held3 (fun w' => w'.cell? ⟨p, 5, none⟩ = some (.slice (some ⟨g2, 0, none⟩) nb cap') ∧ w'.cell? ⟨Q, 0, none⟩ = some (.int .i64 x.state) ∧ w'.cell? ⟨Q, 1, none⟩ = some (.int .i64 x.start)) (go_keep) (fail)
          all_goals
            obtain ⟨w4, hw4⟩ : ∃ w4, w4 = ((w3.setCell ⟨g2, k * 12 + 9, none⟩ (.int .i64 x.state)).setCell ⟨g2, k * 12 + 9 + 1, none⟩ (.int .i64 x.start)).drew := ⟨_, rfl⟩
            rw [← hw4]
            have HS5 := hide (show SoSt YAt w y F0 m p V { b with bids := seenTo m b.bids (k + 1) } w.heap.size n (usedTo m n k) F2 w4 from by
              rw [hw4, HSUC.out]
              exact HS4.out.chg0 HY.out ((Chg.refl _ _).drew))
            have HB4 : Hid (w4.heap[Q]? = some (.cells #[.int .i64 x.state, .int .i64 x.start] 68 (0, 0))) := by
              rw [hw4]
              show ((w3.setCell _ _).setCell _ _).heap[Q]? = _
              rw [Below.heap_setCell _ _ _ _ (Ne.symm ngQ), Below.heap_setCell _ _ _ _ (Ne.symm ngQ)]
              exact HB3.out
            have qq0 : w4.cell? ⟨Q, 0, none⟩ = some (.int .i64 x.state) := by unfold World.cell?; rw [HB4.out]; rfl
            have qq1 : w4.cell? ⟨Q, 1, none⟩ = some (.int .i64 x.start) := by unfold World.cell?; rw [HB4.out]; rfl
            clear hw4 HS4 HS3 HB3 y5 yq0 yq1 h0 h1 h2 h3 h4 h5 h6 h7 h8 h9 h10 h11 ff9 ff10
            by_cases hs2 : x.state = 2
            rotate_left
            · have e2 : (x.state == 2) = false := by simpa using hs2
              have HU := hide (usedTo_succ (n := n) HX.out hs2)
              go_wp2
              go_loopw [10] (fun v wr => v = .int .i64 x.start ∧ wr = w4) (fun _ _ => 0)
              case atStart => exact ⟨rfl, rfl⟩
              case round =>
                obtain ⟨rfl, hwr⟩ := hrel
                subst hwr
                go_wp2
                go_quiet (fail)
                go_wp2
                go_roundw
                case rel => exact ⟨k + 1, F2, by omega, by go_num, by rw [HU.out]; exact HS5.out.chg0 HY.out ((Chg.refl _ _).drewN _)⟩
                case measure => simp [intOf]; omega
            · have hwon := HSM.out.won x (List.mem_of_getElem? HX.out) hs2
              have hxo := HG.out.ok.bid x (List.mem_of_getElem? HX.out)
              have hj := jobIn_true hxo.job
              have ha0 := hxo.a0
              have hNN := HN.out
              obtain ⟨a, ha⟩ := Int.eq_ofNat_of_zero_le (show 0 ≤ x.start by omega)
              obtain ⟨E, hE⟩ : ∃ E : Nat, (E : Int) = x.start + x.job.len := ⟨(x.start + x.job.len).toNat, by omega⟩
              have hEn : E ≤ n := by omega
              have haE : a ≤ E := by omega
              have HA := hide ha
              have HEE := hide hE
              have HST2' := hide hs2
              have hlb := hxo.st1
              have hub := HJ.out.2.1.2
              rw [ha] at qq1
              rw [hs2] at qq0
              clear hwon hxo hj ha0 hNN
              go_wp2
              go_loopw [10] (fun v wr => ∃ t : Nat, a ≤ t ∧ t ≤ E ∧ v = .int .i64 t ∧ SoSt YAt w y F0 m p V { b with bids := seenTo m b.bids (k + 1) } w.heap.size n (usedMid m n k x t) F2 wr ∧ wr.heap[Q]? = some (.cells #[.int .i64 x.state, .int .i64 x.start] 68 (0, 0))) (fun v _ => E - (intOf v).toNat)
              case atStart => exact ⟨a, Nat.le_refl _, haE, rfl, by rw [usedMid_start HA.out]; exact HS5.out, HB4.out⟩
              case round =>
                clear qq0 qq1
                obtain ⟨t, ht1, ht2, rfl, hst6, hb6⟩ := hrel
                have HS6 := hide hst6
                have HB6 := hide hb6
                have hk6 : (seenTo m b.bids (k + 1))[k]? = some (seeO o x) := by rw [HSUC.out, List.getElem?_set, if_pos rfl, if_pos (List.getElem?_eq_some_iff.1 HO2.out).1]
                obtain ⟨g3, cap3, hv3, hown3, hgl4, hcl4, _⟩ := hst6.book.bidCell hk6
                obtain rfl : g3 = g2 := by rw [HOW.out] at hown3; exact (Option.some.inj hown3).symm
                have z5 : wr.cell? ⟨p, 5, none⟩ = some (.slice (some ⟨g3, 0, none⟩) nb cap') := by rw [← HBV.out]; exact hst6.book.cell 5
                have zl : wr.cell? ⟨g3, k * 12 + 4, none⟩ = some (.int .i64 x.job.len) := by rw [← HE.out.1]; exact hcl4 4 _ rfl
                have zu : wr.cell? ⟨g3, k * 12 + 5, none⟩ = some (.int .i64 x.job.units) := by rw [← HE.out.1]; exact hcl4 5 _ rfl
                have qq0 : wr.cell? ⟨Q, 0, none⟩ = some (.int .i64 2) := by rw [← HST2'.out]; unfold World.cell?; rw [hb6]; rfl
                have qq1 : wr.cell? ⟨Q, 1, none⟩ = some (.int .i64 (a : Int)) := by rw [← HA.out]; unfold World.cell?; rw [hb6]; rfl
                have hws : IntKind.i64.wrap ((a : Int) + x.job.len) = (a : Int) + x.job.len := by rw [IntKind.wrap_i64]; omega
                have hEa : (E : Int) = (a : Int) + x.job.len := by rw [HEE.out, HA.out]
                have HEA := hide hEa
                by_cases hlt2 : t < E
                · have hus := usedL_le m.c (t : Int) (m.bids.take k) (fun bb hbb => HG.out.ok.bid bb (List.mem_of_mem_take hbb))
                  have hul : (m.bids.take k).length ≤ 300 := Nat.le_trans (List.length_take_le _ _) (by omega)
                  obtain ⟨u, hu⟩ : ∃ u, u = usedL (m.bids.take k) (t : Int) := ⟨_, rfl⟩
                  have zU : wr.cell? ⟨w.heap.size, t, none⟩ = some (.int .i64 u) := by
                    have := hst6.used.cells (g := w.heap.size) rfl t (.int .i64 u) (by
                      simp only [usedMid, List.getElem?_map, List.getElem?_range (show t < n by omega), Option.map_some]
                      rw [if_neg (by omega), hu]
                      simp)
                    rwa [Addr.add_lit, Nat.zero_add] at this
                  have zf : wr.frozen? ⟨w.heap.size, t, none⟩ = false := by
                    obtain ⟨cu, hcu⟩ := ownsRow_block hst6.used (k := w.heap.size) rfl
                    unfold World.frozen?
                    rw [hcu]
                    simp
                  have hu1 : 0 ≤ u ∧ u ≤ 300000 := by rw [hu]; omega
                  have hwu : IntKind.i64.wrap (u + x.job.units) = u + x.job.units := by have := HJ.out.2.2; rw [IntKind.wrap_i64]; omega
                  have t0 : (0 : Int) ≤ (t : Int) := by omega
                  have t1 : (t : Int) < (n : Int) := by omega
                  have d1 : decide ((t : Int) < (a : Int) + x.job.len) = true := by simp; omega
                  have HMK := hide (show SoSt YAt w y F0 m p V { b with bids := seenTo m b.bids (k + 1) } w.heap.size n (usedMid m n k x (t + 1)) F2 (wr.setCell ⟨w.heap.size, t, none⟩ (.int .i64 (u + x.job.units))) from by
                    rw [← usedMid_step (by rw [HA.out]; omega) (show t < n by omega), ← hu]
                    exact HS6.out.mark HY.out (by omega))
                  have HQU := hide (show Q ≠ w.heap.size by have := HSZ.out; omega)
                  have hpU : p ≠ w.heap.size := by have := (HS6.out.fb p (.inl rfl)).2; omega
                  have hgU : g3 ≠ w.heap.size := by have := (HS6.out.fb g3 (.inr (.inl HOW.out))).2; omega
                  clear hst6 hb6 hk6 hv3 hown3 hcl4 hus hu hEa hul
                  go_wp2
                  go_quiet (fail)
                  go_wp2
                  obtain ⟨w7, hw7⟩ : ∃ w7, w7 = wr.drewN nq := ⟨_, rfl⟩
                  rw [← hw7]
                  have v5 : w7.cell? ⟨p, 5, none⟩ = some (.slice (some ⟨g3, 0, none⟩) nb cap') := by rw [hw7]; exact z5
                  have vu : w7.cell? ⟨g3, k * 12 + 5, none⟩ = some (.int .i64 x.job.units) := by rw [hw7]; exact zu
                  have vU : w7.cell? ⟨w.heap.size, t, none⟩ = some (.int .i64 u) := by rw [hw7]; exact zU
                  have vf : w7.frozen? ⟨w.heap.size, t, none⟩ = false := by rw [hw7]; exact zf
                  have HM7 := hide (show SoSt YAt w y F0 m p V { b with bids := seenTo m b.bids (k + 1) } w.heap.size n (usedMid m n k x (t + 1)) F2 (w7.setCell ⟨w.heap.size, t, none⟩ (.int .i64 (u + x.job.units))) from by rw [hw7]; exact HMK.out.chg0 HY.out ⟨rfl, rfl, rfl, Nat.le_refl _, fun _ _ _ => rfl⟩)
                  have HB7 := hide (show (w7.setCell ⟨w.heap.size, t, none⟩ (.int .i64 (u + x.job.units))).heap[Q]? = some (.cells #[.int .i64 x.state, .int .i64 x.start] 68 (0, 0)) from by rw [Below.heap_setCell _ _ _ _ HQU.out, hw7]; exact HB6.out)
                  clear hw7 z5 zu zU zf zl qq0 qq1 d1 HMK
                  go_big_region
                  all_goals
                    go_wp2
                    go_roundw
                    case rel => first | exact ⟨t + 1, by omega, by omega, by go_num, HM7.out, HB7.out⟩ | exact ⟨t + 1, by omega, by omega, by go_num, HM7.out.chg0 HY.out ((Chg.refl _ _).drewN _), HB7.out⟩
                    case measure => simp [intOf]; omega
                · have htE : t = E := by omega
                  have d1 : decide ((t : Int) < (a : Int) + x.job.len) = false := by simp; omega
                  have HFI := hide (show usedMid m n k x t = usedTo m n (k + 1) from usedMid_end HX.out HST2'.out (by rw [htE]; exact HEE.out))
                  clear hst6 hb6 hk6 hv3 hown3 hcl4 hEa htE
                  go_wp2
                  go_quiet (fail)
                  go_wp2
                  go_roundw
                  case rel => exact ⟨k + 1, F2, by omega, by go_num, by rw [← HFI.out]; exact HS6.out.chg0 HY.out ((Chg.refl _ _).drewN _)⟩
                  case measure => simp [intOf]; omega
    · have hkn : k = nb := by omega
      have c0 : wr.cell? ⟨p, 0, none⟩ = some (.int .i64 (n : Int)) := by
        have := hst.book.cell 0
        rw [← HN.out, ← HREL.out.c]
        exact this
      have c5 : ∃ ao cap, wr.cell? ⟨p, 5, none⟩ = some (.slice ao nb cap) := by
        obtain ⟨ao, cap, hv⟩ := hst.book.bidForm
        exact ⟨ao, cap, by rw [← hlen, ← show V.bv = .slice ao (seenTo m b.bids k).length cap from hv]; exact hst.book.cell 5⟩
      obtain ⟨ao, cap, c5⟩ := c5
      have HK := hide hkn
      clear hst hlen hkn
      go_wp2
      clear c5 c0
      go_loopw [11] (fun v wr => ∃ (t : Nat) (F : Nat → Prop), t ≤ n ∧ v = .int .i64 t ∧ SoSt YAt w y F0 m p V { b with bids := seenTo m b.bids k } w.heap.size n (usedTo m n k) F wr) (fun v _ => n - (intOf v).toNat)
      case atStart => exact ⟨0, F, by omega, rfl, HST.out⟩
      case round =>
        clear HST
        obtain ⟨t, F3, ht, rfl, hst3⟩ := hrel
        have HST3 := hide hst3
        have c0 : wr.cell? ⟨p, 0, none⟩ = some (.int .i64 (n : Int)) := by
          have := hst3.book.cell 0
          rw [← HN.out, ← HREL.out.c]
          exact this
        by_cases hlt3 : t < n
        · have hnn := HN.out
          have hnu := HG.out.ok.nu
          have hfree := HSM.out.free (t : Int) (by omega) (by omega)
          obtain ⟨us, hus⟩ : ∃ us, us = usedL m.bids (t : Int) := ⟨_, rfl⟩
          obtain ⟨un, hun⟩ : ∃ un, un = m.units.getD t 0 := ⟨_, rfl⟩
          have hE1 : freeE m (t : Int) = 0 := by rw [freeE, if_neg (by omega)]
          have hV1 : freeV m (t : Int) = un - us := by rw [freeV, if_neg (by omega), hus, hun]; simp
          have hub := HG.out.ok.un un (by rw [hun]; simp [List.getD, List.getElem?_eq_getElem (show t < m.units.length by omega)])
          have hlb := usedL_le m.c (t : Int) m.bids HG.out.ok.bid
          rw [← hus] at hlb
          simp only [Int.toNat_natCast] at hfree
          rw [← hus, ← hun] at hfree
          have HFR := hide (fun (w' : World) (h : Chg (fun _ => False) wr w') => HY.out.free w' y F3 m (t : Int) (HST3.out.chg0 HY.out h).yard HG.out.ok (by unfold I64; omega))
          have HYT := hide (fun (w' w2 : World) (h : Chg (fun _ => False) wr w') (ht : YTo YAt w' y F3 m w2) => (HST3.out.chg0 HY.out h).yto ht)
          have HCU := hide (fun (w2 : World) (F4 : Nat → Prop) (h : SoSt YAt w y F0 m p V { b with bids := seenTo m b.bids k } w.heap.size n (usedTo m n k) F4 w2) => show ∃ gu gc, w2.cell? ⟨p, 7, none⟩ = some (.slice (some ⟨gu, 0, none⟩) n gc) ∧ w2.cell? ⟨gu, t, none⟩ = some (.int .i64 un) ∧ w2.cell? ⟨w.heap.size, t, none⟩ = some (.int .i64 us) from by
            have hul : b.units.length = n := by rw [HREL.out.units]; omega
            obtain ⟨gu, gc, hv, _, _, hcl, _⟩ := h.book.unitCell (i := t) (show t < b.units.length by omega)
            refine ⟨gu, gc, ?_, ?_, ?_⟩
            · rw [← hul, ← show V.uv = .slice (some ⟨gu, 0, none⟩) b.units.length gc from hv]
              exact h.book.cell 7
            · rw [hun, ← HREL.out.units]
              exact hcl
            · have := h.used.cells (g := w.heap.size) rfl t (.int .i64 us) (by
                simp only [usedTo, List.getElem?_map, List.getElem?_range hlt3, Option.map_some]
                rw [HK.out, HNB.out, List.take_length, hus])
              rwa [Addr.add_lit, Nat.zero_add] at this)
          clear hst3 hus hun hnu
          go_wp2_with fail
          refine (HFR.out _ (by first | exact Chg.refl _ _ | exact (Chg.refl _ _).drew)).mono ?_
          rintro e w2 ⟨rfl, hto⟩
          rw [hE1, hV1]
          obtain ⟨F4, hst4, _⟩ := HYT.out _ w2 (by first | exact Chg.refl _ _ | exact (Chg.refl _ _).drew) hto
          have HST4 := hide hst4
          obtain ⟨gu, gc, x7, xu, xU⟩ := HCU.out w2 F4 hst4
          have t0 : (0 : Int) ≤ (t : Int) := by omega
          have t1 : (t : Int) < (n : Int) := by omega
          have d1 : decide (un - us < 0) = false := by simp; omega
          have hws : IntKind.i64.wrap (un - us) = un - us := by rw [IntKind.wrap_i64]; omega
          have d2 : (un - us == un - us) = true := by simp
          clear hto hst4 c0 hE1 hV1 HFR HYT HCU hlb hub hfree hnn
          go_wp2
          go_quiet (fail)
          go_wp2
          go_roundw
          case rel => exact ⟨t + 1, F4, by omega, by go_num, HST4.out.chg0 HY.out ((Chg.refl _ _).drewN _)⟩
          case measure => simp [intOf]; omega
        · have hl0 : b.bids.length = k := by rw [HREL.out.len, ← HNB.out, HK.out]
          have HFI := hide (show ∃ F, YAt wr y F m ∧ BookAt wr p V (seenB m b) ∧ Chg (fun k => F0 k ∨ V.foot p k) w wr ∧ (∀ k, F k → F0 k ∨ w.heap.size ≤ k) ∧ ∀ k, V.foot p k → ¬ F k from
            ⟨F3, hst3.yard, by unfold seenB; rw [hl0]; exact hst3.book, hst3.chg, hst3.foot, fun k hk => (hst3.fb k hk).1⟩)
          clear hst3
          go_wp2
          go_ret
          exact ⟨rfl, HFI.out⟩
end Go.Proofs.Ytminceigjejipaa
