import Derived.Test.YtminceigjejipaaG16
import Derived.Test.YtminceigjejipaaG14
import Derived.Deep.LoopGhost
/-
  Charged: its walk.
-/
namespace Go.Proofs.Ytminceigjejipaa
open Go.ChangeShapes Go.WideShapes Go.ChangeAt Go.RowKit Go.Deep

theorem due_at {m : MkG} {b : BookG} (hp : KeepP m b) {t : Nat} {d : InvG} (hd : (dueL m m.bids)[t]? = some d) : ∃ (j : Nat) (o : KnownG), b.bids[j]? = some o ∧ (d.ten = o.ten ∧ d.ref = o.ref) ∧ ∀ (i : Nat) (x : KnownG), b.bids[i]? = some x → x.ten = o.ten → x.ref = o.ref → i = j := by
  have hm := List.mem_of_getElem? hd
  unfold dueL at hm
  obtain ⟨x, hx, rfl⟩ := List.mem_map.1 hm
  obtain ⟨j, hj⟩ := List.getElem?_of_mem (List.mem_filter.1 hx).1
  obtain ⟨o, ho⟩ : ∃ o, b.bids[j]? = some o := ⟨_, List.getElem?_eq_getElem (by rw [hp.rel.len]; exact (List.getElem?_eq_some_iff.1 hj).1)⟩
  obtain ⟨r1, r2, _⟩ := hp.rel.bid j o x ho hj
  refine ⟨j, o, ho, ⟨r1.symm, r2.symm⟩, fun i u hu h1 h2 => ?_⟩
  obtain ⟨v, hv⟩ : ∃ v, m.bids[i]? = some v := ⟨_, List.getElem?_eq_getElem (by rw [← hp.rel.len]; exact (List.getElem?_eq_some_iff.1 hu).1)⟩
  obtain ⟨s1, s2, _⟩ := hp.rel.bid i u v hu hv
  exact hp.sound.uniq i j v x hv hj (by rw [← s1, h1, r1]) (by rw [← s2, h2, r2])

set_option maxRecDepth 100000 in
set_option maxHeartbeats 4000000 in
theorem charged_bad {YAt : World → Nat → (Nat → Prop) → MkG → Prop} (hY : YardSpec YAt) (c : CfgG) (sa : Option Addr) (sl sc : Nat) (w : World) (hc : cfgOk c = false) :
    Calls Try.prog 8 #[caseV c (.slice sa sl sc)] w fun e w' => e = .returned (.bool true) ∧ Below w.heap.size w w' := by
  have HY := hide hY
  have HC := hide hc
  clear hY hc
  unfold caseV caseC
  go_enter Try.func8, Try.ntmps8
  go_wp2_with fail
  refine (open_bad' HY.out c (.slice sa sl sc) _ HC.out ⟨_, _, _, rfl⟩).mono ?_
  rintro e w1 ⟨rfl, hc1⟩
  have HC1 := hide hc1
  clear hc1
  go_wp2
  go_ret
  exact ⟨rfl, (((Chg.refl (fun _ => False) w).alloc _).trans HC1.out (fun _ _ h => h)).below (Nat.le_refl _) (fun _ h => h.elim)⟩

set_option maxRecDepth 100000 in
set_option maxHeartbeats 16000000 in
theorem charged_ok {YAt : World → Nat → (Nat → Prop) → MkG → Prop} (hY : YardSpec YAt) (hT : TickY YAt) (hP : PaidY YAt) (c : CfgG) (sa : Option Addr) (sl sc : Nat) (w : World) (hc : cfgOk c = true) (hs : IntRows w 9 sa sl) (hsl : sl < 5000000000000) :
    Calls Try.prog 8 #[caseV c (.slice sa sl sc)] w fun e w' => e = .returned (.bool true) ∧ Below w.heap.size w w' := by
  have HY := hide hY
  have HT := hide hT
  have HP := hide hP
  have HC := hide hc
  have hcf := cfgOk_true hc
  obtain ⟨n, hn⟩ := Int.eq_ofNat_of_zero_le (show 0 ≤ c.ten by omega)
  have hnb : 1 ≤ n ∧ n ≤ 64 := by omega
  have HN := hide hn
  obtain ⟨Z, hcase⟩ := caseAt_new (c := c) (sc := sc) hs
  obtain ⟨w0, hw0⟩ : ∃ w0, w0 = w.alloc (.cells (caseC c (.slice sa sl sc)) 41) := ⟨_, rfl⟩
  rw [← hw0] at hcase
  have HC0 : Hid (Chg (fun _ => False) w w0) := by rw [hw0]; exact (Chg.refl _ _).alloc _
  have HCA := hide hcase
  have HW0 := hide hw0
  have hmk := run_make_row' (P := Try.prog) 27 3 (.int .i64 0) 8 Try.underlying27 infoInt' rfl .i64 .i64 n (by omega) (by omega)
  clear hY hT hP hc hs hcase hw0 hcf hn
  unfold caseV caseC
  go_enter Try.func8, Try.ntmps8
  go_wp2_with fail
  refine (open_ok' HY.out HT.out c (.slice sa sl sc) _ HC.out ⟨_, _, _, rfl⟩).mono ?_
  rintro e w1 ⟨y, F1, rfl, hown1⟩
  have hown1' : OwnY YAt w0 y F1 (openM c) w1 := by rw [HW0.out]; exact hown1
  have HO1 := hide hown1'
  have HCA1 := hide (HCA.out.chg hown1'.chg)
  have k0 : w1.cell? ⟨w.heap.size, 0, none⟩ = some (.int .i64 c.ticks) := HCA1.out.cell 0
  have k1 : w1.cell? ⟨w.heap.size, 1, none⟩ = some (.int .i64 c.cap) := HCA1.out.cell 1
  have k2 : w1.cell? ⟨w.heap.size, 2, none⟩ = some (.int .i64 c.res) := HCA1.out.cell 2
  have k3 : w1.cell? ⟨w.heap.size, 3, none⟩ = some (.int .i64 c.ten) := HCA1.out.cell 3
  have k4 : w1.cell? ⟨w.heap.size, 4, none⟩ = some (.int .i64 c.quo) := HCA1.out.cell 4
  clear hown1 hown1'
  go_wp2_with fail
  refine (begin_any c w1 HC.out).mono ?_
  rintro e w2 ⟨p, V2, rfl, hbk2, hc2, hnew2⟩
  have hkm : KeepM YAt w0 y p w2 (openM c) F1 V2 (startB c) := by
    have hs := HO1.out.chg.size
    exact ⟨HY.out.frame _ _ _ _ _ HO1.out.yard (fun k hk => hc2.block k (HY.out.lt _ _ _ _ HO1.out.yard k hk) (fun e => e)), hbk2, fun k hk e => (by have := hnew2 k hk; have := HY.out.lt _ _ _ _ HO1.out.yard k e; omega), HO1.out.new, fun k hk => (by have := hnew2 k hk; omega), HO1.out.chg.trans hc2 (fun _ _ e => e)⟩
  have k3' : w2.cell? ⟨w.heap.size, 3, none⟩ = some (.int .i64 (n : Int)) := by rw [← HN.out]; exact (HCA.out.chg hkm.chg).cell 3
  obtain ⟨pg, hpg⟩ : ∃ pg, pg = w2.heap.size := ⟨_, rfl⟩
  obtain ⟨w3, hw3⟩ : ∃ w3, w3 = w2.alloc (.cells (madeCells #[.int .i64 0] n) 3) := ⟨_, rfl⟩
  have HK0 : Hid (ChSt YAt w0 y p w3 (openM c) F1 V2 (startB c) (.slice none 0 0) [] pg n (openM c).paid) := by
    have hca : Chg (fun _ => False) w2 w3 := by rw [hw3]; exact (Chg.refl _ _).alloc _
    have hal : w3.heap[pg]? = some (.cells (madeCells #[.int .i64 0] n) 3 (0, 0)) := by rw [hw3, hpg]; exact heap_alloc_new w2 _
    have hnn : c.ten.toNat = n := by have := HN.out; omega
    refine ⟨hkm.chg0 HY.out hca, ⟨World.ownsRow_nil _ _ _ _, fun k hk => by simp [Value.ownBlock] at hk⟩, ?_, ⟨by rw [hpg]; exact hkm.chg.size, (Array.getElem?_eq_some_iff.1 hal).1, fun e => by have := HY.out.lt _ _ _ _ hkm.yard _ e; omega, fun e => by have := hkm.book.foot_lt _ e; omega⟩⟩
    show w3.ownsRow 0 3 1 _ n ((List.replicate c.ten.toNat (0 : Int)).map (Value.int .i64))
    rw [List.map_replicate, hnn]
    exact ⟨by simp, .inr ⟨pg, n, _, rfl, Nat.zero_le _, hal, Nat.le_refl _, by unfold maxLen; omega, by rw [size_madeCells]; omega, by rw [made_list]; simp⟩⟩
  have HPG := hide hpg
  clear hbk2 hc2 hnew2 k0 k1 k2 k3 k4 hkm HO1 HCA1
  go_wp2
  rw [← hw3, ← hpg]
  clear hw3 hpg k3' hmk
  go_loopg [6, 8] sl (fun gk av i wr => ∃ (k : Nat) (m : MkG) (F : Nat → Prop) (V : BV) (b : BookG), gk = sl - k ∧ k ≤ sl ∧ i = .int .i64 k ∧ ChSt YAt w0 y p wr m F V b av m.charges pg n m.paid ∧ KeepP m b ∧ ChRel m b ∧ m.c = c)
  case atStart => exact ⟨0, openM c, F1, V2, startB c, rfl, Nat.zero_le _, rfl, HK0.out, ⟨GoodM.open HC.out, SoundM.open HC.out, BookRel.start c⟩, rfl, rfl⟩
  case round =>
    obtain ⟨k, m, F, V, b, hgk, hk, rfl, hst, hkp, hch, hmc⟩ := hrel
    have HGK := hide hgk
    clear hgk
    have HK := hide hst
    have HKP := hide hkp
    have HCH := hide hch
    have HMC := hide hmc
    have HCR := hide (HCA.out.chg hst.keep.chg)
    have c5 : wr.cell? ⟨w.heap.size, 5, none⟩ = some (.slice sa sl sc) := HCR.out.cell 5
    obtain ⟨aa, ac, hav⟩ := ownsRow_form hst.all.own
    obtain ⟨na0, hna0⟩ : ∃ x, x = m.charges.length := ⟨_, rfl⟩
    rw [← hna0] at hav
    subst hav
    have HNA := hide hna0
    clear hst hkp hch hmc HK0 hna0
    by_cases hlt : k < sl
    · obtain ⟨sb, off, hsa, hst⟩ := HCA.out.step hlt
      subst hsa
      have hi := stepZ_i64 HCA.out.i64 hlt
      obtain ⟨s, hst', hi'⟩ : ∃ s, StepAt w0 sb (off + k * 9) s ∧ StepI64 s := ⟨_, hst, hi⟩
      clear hst hi
      obtain ⟨kd, A, B, C, ⟨ja, jd, jl, ju, jv⟩⟩ := s
      have HST := hide hst'
      have HI := hide hi'
      clear hst' hi'
      have n0 : (0 : Int) ≤ (k : Int) := by omega
      have n1 : (k : Int) < (sl : Int) := by omega
      obtain ⟨_, q0, q1, q2, q3, q4, q5, q6, q7, q8⟩ := HST.out.chg HK.out.keep.chg (fun e => e)
      simp only at q0 q1 q2 q3 q4 q5 q6 q7 q8
      obtain ⟨Q, hQ⟩ : ∃ Q, Q = wr.heap.size := ⟨_, rfl⟩
      obtain ⟨w4, hw4⟩ : ∃ w4, w4 = wr.alloc (.cells #[.int .i64 kd, .int .i64 A, .int .i64 B, .int .i64 C, .int .i64 ja, .int .i64 jd, .int .i64 jl, .int .i64 ju, .int .i64 jv] 56) := ⟨_, rfl⟩
      have HC4 : Hid (Chg (fun _ => False) wr w4) := by rw [hw4]; exact (Chg.refl _ _).alloc _
      have HK4 := hide (HK.out.chg0 HY.out HC4.out)
      have HB4 := hide (show SideB w0 F V p w4 Q #[.int .i64 kd, .int .i64 A, .int .i64 B, .int .i64 C, .int .i64 ja, .int .i64 jd, .int .i64 jl, .int .i64 ju, .int .i64 jv] 56 from by
        have hal : w4.heap[Q]? = some (.cells #[.int .i64 kd, .int .i64 A, .int .i64 B, .int .i64 C, .int .i64 ja, .int .i64 jd, .int .i64 jl, .int .i64 ju, .int .i64 jv] 56 (0, 0)) := by rw [hw4, hQ]; exact heap_alloc_new wr _
        exact ⟨hal, HK.out.newK HY.out (by omega) (Array.getElem?_eq_some_iff.1 hal).1⟩)
      have HW4 := hide hw4
      have HQ := hide hQ
      clear hw4 hQ
      go_wp2_with fail
      rw [← HW4.out, ← HQ.out]
      refine (HY.out.now w4 y F m HK4.out.keep.yard HKP.out.good.ok).mono ?_
      rintro e w5 ⟨rfl, hto⟩
      obtain ⟨F5, hst5, hkp5⟩ := HK4.out.yto hto
      have HK5 := hide hst5
      have HB5 := hide (HB4.out.to hkp5)
      have o0 : w5.cell? ⟨Q, 0, none⟩ = some (.int .i64 kd) := HB5.out.cell 0
      have o1 : w5.cell? ⟨Q, 1, none⟩ = some (.int .i64 A) := HB5.out.cell 1
      have o2 : w5.cell? ⟨Q, 2, none⟩ = some (.int .i64 B) := HB5.out.cell 2
      have o3 : w5.cell? ⟨Q, 3, none⟩ = some (.int .i64 C) := HB5.out.cell 3
      have o4 : w5.cell? ⟨Q, 4, none⟩ = some (.int .i64 ja) := HB5.out.cell 4
      have o5 : w5.cell? ⟨Q, 5, none⟩ = some (.int .i64 jd) := HB5.out.cell 5
      have o6 : w5.cell? ⟨Q, 6, none⟩ = some (.int .i64 jl) := HB5.out.cell 6
      have o7 : w5.cell? ⟨Q, 7, none⟩ = some (.int .i64 ju) := HB5.out.cell 7
      have o8 : w5.cell? ⟨Q, 8, none⟩ = some (.int .i64 jv) := HB5.out.cell 8
      clear hto hst5 hkp5 q0 q1 q2 q3 q4 q5 q6 q7 q8 c5
      go_upto_if 59 with fail
      go_cut [11, 12] from 59 to 65 (fun dv i12 wx => ∃ (DV : Value) (F6 : Nat → Prop), dv = DV ∧ i12 = .bool true ∧ ChSt YAt w0 y p wx m F6 V b (.slice aa na0 ac) m.charges pg n m.paid ∧ SideB w0 F6 V p wx Q #[.int .i64 kd, .int .i64 A, .int .i64 B, .int .i64 C, .int .i64 ja, .int .i64 jd, .int .i64 jl, .int .i64 ju, .int .i64 jv] 56 ∧ (kd = 6 → SideL w0 F6 V p wx DV (dueL m m.bids) ∧ (∀ k, Value.ownBlock (.slice aa na0 ac) = some k → DV.ownBlock ≠ some k) ∧ (dueL m m.bids = [] → DV = .slice none 0 0)))
      case first =>
        cases h6 : kd == 6
        · have hn6 : kd ≠ 6 := by simpa using h6
          go_wp2_with fail
          go_meet
          case rel => exact ⟨_, F5, rfl, rfl, HK5.out, HB5.out, fun h => absurd h hn6⟩
        · go_wp2_with fail
          refine (kdue_any HY.out HP.out y F5 m p V b w5 HK5.out.keep.yard HK5.out.keep.book HK5.out.keep.apart HKP.out.good HKP.out.sound HKP.out.rel (fun i o x ho hx => HCH.out.at ho hx)).mono ?_
          rintro e w6 ⟨dv, F6, rfl, hdue, hnil⟩
          obtain ⟨hst6, hkp6, hsl6, hne6⟩ := HK5.out.due hdue
          have HREL := hide (And.intro hst6 (And.intro (HB5.out.to hkp6) (And.intro hsl6 (And.intro hne6 hnil))))
          clear hdue hnil hst6 hkp6 hsl6 hne6
          go_wp2_with fail
          go_meet
          case rel => exact ⟨_, F6, rfl, rfl, HREL.out.1, HREL.out.2.1, fun _ => ⟨HREL.out.2.2.1, HREL.out.2.2.2.1, HREL.out.2.2.2.2⟩⟩
      case rest =>
        obtain ⟨DV, F6, rfl, rfl, hst6, hb6, hdue⟩ := hcut
        have HK6 := hide hst6
        have HB6 := hide hb6
        have HDUE := hide hdue
        clear hst6 hb6 hdue o0 o1 o2 o3 o4 o5 o6 o7 o8
        have o0 : wc.cell? ⟨Q, 0, none⟩ = some (.int .i64 kd) := HB6.out.cell 0
        have o1 : wc.cell? ⟨Q, 1, none⟩ = some (.int .i64 A) := HB6.out.cell 1
        have o2 : wc.cell? ⟨Q, 2, none⟩ = some (.int .i64 B) := HB6.out.cell 2
        have o3 : wc.cell? ⟨Q, 3, none⟩ = some (.int .i64 C) := HB6.out.cell 3
        have o4 : wc.cell? ⟨Q, 4, none⟩ = some (.int .i64 ja) := HB6.out.cell 4
        have o5 : wc.cell? ⟨Q, 5, none⟩ = some (.int .i64 jd) := HB6.out.cell 5
        have o6 : wc.cell? ⟨Q, 6, none⟩ = some (.int .i64 jl) := HB6.out.cell 6
        have o7 : wc.cell? ⟨Q, 7, none⟩ = some (.int .i64 ju) := HB6.out.cell 7
        have o8 : wc.cell? ⟨Q, 8, none⟩ = some (.int .i64 jv) := HB6.out.cell 8
        go_wp2_with fail
        refine (does_any HY.out HT.out HP.out y F6 m ⟨kd, A, B, C, ⟨ja, jd, jl, ju, jv⟩⟩ wc HK6.out.keep.yard HKP.out.good HI.out).mono ?_
        rintro e w7 ⟨z, names, bills, m', F7, nv, bv, rfl, hres, htold⟩
        obtain ⟨na, nc, hnv⟩ := ownsRow_form htold.ns
        obtain ⟨ba, bc, hbv⟩ := ownsRow_form htold.bs
        subst hnv
        subst hbv
        obtain ⟨hst7, hkp7, hbl7⟩ := HK6.out.told htold
        have HRES := hide hres
        obtain ⟨T, hT⟩ : ∃ T, T = w7.heap.size := ⟨_, rfl⟩
        obtain ⟨w8, hw8⟩ : ∃ w8, w8 = w7.alloc (.cells #[.int .i64 z, .slice na names.length nc, .slice ba bills.length bc] 51) := ⟨_, rfl⟩
        have hc8 : Chg (fun _ => False) w7 w8 := by rw [hw8]; exact (Chg.refl _ _).alloc _
        have HK8 := hide (hst7.chg0 HY.out hc8)
        have HB8 := hide ((HB6.out.to hkp7).to (Kept.chg0 hc8))
        have HBL8 := hide (hbl7.to (Kept.chg0 hc8))
        have HT8 := hide (show SideB w0 F7 V p w8 T #[.int .i64 z, .slice na names.length nc, .slice ba bills.length bc] 51 from by
          have hal : w8.heap[T]? = some (.cells #[.int .i64 z, .slice na names.length nc, .slice ba bills.length bc] 51 (0, 0)) := by rw [hw8, hT]; exact heap_alloc_new w7 _
          exact ⟨hal, hst7.newK HY.out (by omega) (Array.getElem?_eq_some_iff.1 hal).1⟩)
        have HD8 := hide (fun h => And.intro (((HDUE.out h).1.to hkp7).to (Kept.chg0 hc8)) (HDUE.out h).2)
        have HW8 := hide hw8
        have HTT := hide hT
        clear hw8 hT hc8 hst7 hkp7 hbl7 htold hres o0 o1 o2 o3 o4 o5 o6 o7 o8 HDUE
        go_upto_region 17 with fail
        rw [← HW8.out, ← HTT.out]
        have o0 : w8.cell? ⟨Q, 0, none⟩ = some (.int .i64 kd) := HB8.out.cell 0
        have o1 : w8.cell? ⟨Q, 1, none⟩ = some (.int .i64 A) := HB8.out.cell 1
        have o2 : w8.cell? ⟨Q, 2, none⟩ = some (.int .i64 B) := HB8.out.cell 2
        have o3 : w8.cell? ⟨Q, 3, none⟩ = some (.int .i64 C) := HB8.out.cell 3
        have o4 : w8.cell? ⟨Q, 4, none⟩ = some (.int .i64 ja) := HB8.out.cell 4
        have o5 : w8.cell? ⟨Q, 5, none⟩ = some (.int .i64 jd) := HB8.out.cell 5
        have o6 : w8.cell? ⟨Q, 6, none⟩ = some (.int .i64 jl) := HB8.out.cell 6
        have o7 : w8.cell? ⟨Q, 7, none⟩ = some (.int .i64 ju) := HB8.out.cell 7
        have o8 : w8.cell? ⟨Q, 8, none⟩ = some (.int .i64 jv) := HB8.out.cell 8
        have t0 : w8.cell? ⟨T, 0, none⟩ = some (.int .i64 z) := HT8.out.cell 0
        go_wp2_with fail
        refine (notes_does p V b k ⟨kd, A, B, C, ⟨ja, jd, jl, ju, jv⟩⟩ w8 HK8.out.keep.book HKP.out HRES.out).mono ?_
        rintro e w9 ⟨rfl, hto⟩
        obtain ⟨V9, hst9, hkp9⟩ := ChSt.note HY.out HK8.out hto
        have HK9 := hide hst9
        have HB9 := hide (HB8.out.to hkp9)
        have HT9 := hide (HT8.out.to hkp9)
        have HBL9 := hide (HBL8.out.to hkp9)
        have HD9 := hide (fun h => And.intro ((HD8.out h).1.to hkp9) (HD8.out h).2)
        have HKP9 := hide (HKP.out.step HRES.out k)
        have hmc9 : m'.c = c := HRES.out.logd.2.trans HMC.out
        clear hto hst9 hkp9 o0 o1 o2 o3 o4 o5 o6 o7 o8 t0 HD8
        have o0 : w9.cell? ⟨Q, 0, none⟩ = some (.int .i64 kd) := HB9.out.cell 0
        have t0 : w9.cell? ⟨T, 0, none⟩ = some (.int .i64 z) := HT9.out.cell 0
        obtain ⟨B1, hB1⟩ : ∃ B1, B1 = ((kd == 6) && (z == 0)) := ⟨_, rfl⟩
        have HB1 := hide hB1
        clear hB1
        go_upto_region 20 with fail
        go_cut [89] from 82 to 88 (fun s wx => s = .bool B1 ∧ wx = w9)
        case first =>
          cases h1 : kd == 6
          · have e1 : B1 = false := by rw [HB1.out, h1]; rfl
            go_wp2_with fail
            go_meet
            case rel => exact ⟨by rw [e1], rfl⟩
          · cases h2 : z == 0
            · have e1 : B1 = false := by rw [HB1.out, h1, h2]; rfl
              go_wp2_with fail
              go_meet
              case rel => exact ⟨by rw [e1], rfl⟩
            · have e1 : B1 = true := by rw [HB1.out, h1, h2]; rfl
              go_wp2_with fail
              go_meet
              case rel => exact ⟨by rw [e1], rfl⟩
        case rest =>
          obtain ⟨rfl, hwc9⟩ := hcut
          have hwc9' := hwc9.symm
          subst hwc9'
          go_upto_if 89 with fail
          go_cut [6, 14, 15] from 89 to 123 (fun a2 _ _ wx => ∃ (AV : Value) (b9 : BookG), AV = a2 ∧ ChSt YAt w0 y p wx m' F7 V9 b9 AV m'.charges pg n m.paid ∧ KeepP m' b9 ∧ ChRel m' b9 ∧ SideB w0 F7 V9 p wx Q #[.int .i64 kd, .int .i64 A, .int .i64 B, .int .i64 C, .int .i64 ja, .int .i64 jd, .int .i64 jl, .int .i64 ju, .int .i64 jv] 56 ∧ SideB w0 F7 V9 p wx T #[.int .i64 z, .slice na names.length nc, .slice ba bills.length bc] 51)
          case first =>
            cases hB : B1
            · have HR9 := hide (show ChSt YAt w0 y p w9 m' F7 V9 (noteB b k ⟨kd, A, B, C, ⟨ja, jd, jl, ju, jv⟩⟩ z m.time) (.slice aa na0 ac) m'.charges pg n m.paid ∧ ChRel m' (noteB b k ⟨kd, A, B, C, ⟨ja, jd, jl, ju, jv⟩⟩ z m.time) from by
                have h6 : ¬ (kd = 6 ∧ z = 0) := by
                  rintro ⟨rfl, rfl⟩
                  have := HB1.out
                  rw [hB] at this
                  simp at this
                by_cases h7 : kd = 7 ∧ z = 0
                · obtain ⟨a1, a2, _⟩ := ch_pay HCH.out HRES.out h7.1 h7.2 k
                  rw [a2]
                  exact ⟨HK9.out, a1⟩
                · obtain ⟨a1, a2, _⟩ := ch_same HCH.out HKP.out.good HRES.out h6 h7 k
                  rw [a2]
                  exact ⟨HK9.out, a1⟩)
              go_wp2_with fail
              go_meet
              case rel => exact ⟨_, _, rfl, HR9.out.1, HKP9.out, HR9.out.2, HB9.out, HT9.out⟩
            · have hkz : kd = 6 ∧ z = 0 := by
                have := HB1.out
                rw [hB] at this
                simpa using this.symm
              obtain ⟨hbills, hnote, hch', hchg', _⟩ := ch_bill HCH.out HKP.out HRES.out hkz.1 hkz.2 k
              rw [hnote] at HK9 HKP9
              obtain ⟨hds, hne, hnil⟩ := HD9.out hkz.1
              rw [← hbills] at hds hnil
              obtain ⟨no, hno⟩ : ∃ no, no = bills.length := ⟨_, rfl⟩
              obtain ⟨da, dc, hdv⟩ := ownsRow_form hds.own
              rw [← hno] at hdv
              subst hdv
              have hnol : no ≤ 300 := by rw [hno]; exact (HRES.out.lists HKP.out.good.ok).2
              have t2 : w9.cell? ⟨T, 2, none⟩ = some (.slice ba bills.length bc) := HT9.out.cell 2
              have HDS := hide hds
              have HNE := hide hne
              have HNIL := hide hnil
              have HBI := hide hbills
              have HNO := hide hno
              have HCH' := hide hch'
              have HCHG := hide hchg'
              have HNC := hide (show na0 ≤ 300 by rw [HNA.out]; exact HKP.out.good.cash.chg.len)
              clear hds hne hnil hbills hno hch' hchg' hnote hkz o0 t0
              go_wp2_with fail
              refine (ksame_any bills _ _ w9 HBL9.out.own HDS.out.own (by rw [← HNO.out]; exact hnol)).mono ?_
              rintro e w10 ⟨rfl, hc10⟩
              have HC10 := hide hc10
              have HK10 := hide (HK9.out.chg0 HY.out hc10)
              have HDS10 := hide (HDS.out.to (Kept.chg0 hc10))
              have HB10 := hide (HB9.out.to (Kept.chg0 hc10))
              have HT10 := hide (HT9.out.to (Kept.chg0 hc10))
              clear hc10 t2 HDS HK9
              go_upto_region 24 with fail
              go_cut [6] from 96 to 98 (fun a2 wx => ∃ (a3 : Option Addr) (c3 : Nat), a2 = .slice a3 (na0 + no) c3 ∧ ChSt YAt w0 y p wx m' F7 V9 b (.slice a3 (na0 + no) c3) (m.charges ++ bills) pg n m.paid ∧ SideL w0 F7 V9 p wx (.slice da no dc) bills ∧ SideB w0 F7 V9 p wx Q #[.int .i64 kd, .int .i64 A, .int .i64 B, .int .i64 C, .int .i64 ja, .int .i64 jd, .int .i64 jl, .int .i64 ju, .int .i64 jv] 56 ∧ SideB w0 F7 V9 p wx T #[.int .i64 z, .slice na names.length nc, .slice ba bills.length bc] 51)
              case first =>
                obtain ⟨i0', hi, hz0', hz1, hz2⟩ := info_parts infoInvoice
                have HROW : Hid (w10.ownsRow 0 88 3 (.slice aa na0 ac) na0 (m.charges.flatMap invCells)) := by rw [HNA.out]; exact HNA.out ▸ HK10.out.all.own
                by_cases hemp : bills = []
                · have hv0 := HNIL.out hemp
                  have hv1 : da = none ∧ no = 0 ∧ dc = 0 := by simpa using hv0
                  obtain ⟨rfl, rfl, rfl⟩ := hv1
                  have HM := hide (show m.charges ++ bills = m.charges by rw [hemp]; simp)
                  clear hemp hv0
                  go_wp2_with (first | (at_builtin; refine wpList_append_own_none rfl (.tmp 96) (.tmp 97) 49 rfl 0 88 i0' 3 Try.underlying49 hi (.slice aa na0 ac) na0 (m.charges.flatMap invCells) rfl HROW.out rfl ?_))
                  go_meet
                  case rel => exact ⟨aa, ac, rfl, by rw [HM.out]; exact HK10.out, HDS10.out, HB10.out, HT10.out⟩
                · have hnp : 0 < no := by rw [HNO.out]; exact List.length_pos_iff.2 hemp
                  have hof : ∃ go, da = some ⟨go, 0, none⟩ ∧ ∀ j u, (bills.flatMap invCells)[j]? = some u → w10.cell? ((⟨go, 0, none⟩ : Addr).add j) = some u := by
                    rcases HDS10.out.own.2 with ⟨_, h0⟩ | ⟨go, co, cur, hv, _⟩
                    · have := HNO.out; omega
                    · simp at hv
                      exact ⟨go, hv.1, fun j u hu => HDS10.out.own.cells (g := go) (by rw [hv.1]; rfl) j u hu⟩
                  obtain ⟨go, rfl, hcells⟩ := hof
                  have HCELLS := hide hcells
                  have HL3 := hide (show (bills.flatMap invCells).length = no * 3 by rw [HDS10.out.own.1, HNO.out])
                  have HONE := hide (show ∀ u ∈ bills.flatMap invCells, u.oneCell' = true by
                    intro u hu
                    obtain ⟨x, _, hx⟩ := List.mem_flatMap.1 hu
                    simp [invCells] at hx
                    rcases hx with rfl | rfl | rfl <;> rfl)
                  have hnc := HNC.out
                  clear hcells hemp
                  go_wp2_with (first | (at_builtin; refine wpList_append_lies _ rfl (.tmp 96) (.tmp 97) 49 rfl 0 88 i0' (.agg #[.int .i64 0, .int .i64 0, .int .i64 0]) 3 24 Try.underlying49 hi hz0' hz1 hz2 rfl (by decide) (.slice aa na0 ac) na0 (m.charges.flatMap invCells) rfl HROW.out ⟨go, 0, none⟩ no dc (bills.flatMap invCells) rfl HL3.out HCELLS.out HONE.out hnp (by unfold maxLen; omega) (by omega) (Nat.zero_le _) _ rfl ?_; intro g capn w11 hown hgrow hat2 hlt3; have HG := hide (ch_grow HY.out HK10.out HNA.out HNO.out hown hgrow hat2 (Nat.le_refl _)); clear hown hgrow hat2 hlt3))
                  go_meet
                  case rel =>
                    have hboxne : ∀ {Q : Nat} {cs : Array Value} {T : TypeId}, SideB w0 F7 V9 p w10 Q cs T → T ≠ 88 → Value.ownBlock (.slice aa na0 ac) ≠ some Q := fun hb hT => ownsRow_box HROW.out hb.box (Ne.symm hT)
                    refine ⟨_, capn, rfl, HG.out.1, ⟨ownsRow_keep HDS10.out.own (fun k hk => (HG.out.2 k (HDS10.out.side k hk) (fun e => HNE.out k e hk)).2), fun k hk => (HG.out.2 k (HDS10.out.side k hk) (fun e => HNE.out k e hk)).1⟩, ⟨(HG.out.2 _ HB10.out.side (hboxne HB10.out (by decide))).2.trans HB10.out.box, (HG.out.2 _ HB10.out.side (hboxne HB10.out (by decide))).1⟩, ⟨(HG.out.2 _ HT10.out.side (hboxne HT10.out (by decide))).2.trans HT10.out.box, (HG.out.2 _ HT10.out.side (hboxne HT10.out (by decide))).1⟩⟩
              case rest =>
                obtain ⟨a3, c3, rfl, hst11, hds11, hb11, ht11⟩ := hcut
                obtain ⟨w11, hw11⟩ : ∃ w11, w11 = wc := ⟨_, rfl⟩
                subst hw11
                have HK11 := hide hst11
                have HDS11 := hide hds11
                have HB11 := hide hb11
                have HT11 := hide ht11
                clear hst11 hds11 hb11 ht11 HK10 HDS10 HB10 HT10
                go_wp2
                go_loopw [15] (fun v wr => ∃ t : Nat, t ≤ no ∧ v = .int .i64 t ∧ ChSt YAt w0 y p wr m' F7 V9 (chMarkB b (bills.take t)) (.slice a3 (na0 + no) c3) (m.charges ++ bills) pg n m.paid ∧ Kept w0 p F7 V9 w11 F7 V9 wr) (fun v _ => no - (intOf v).toNat)
                case atStart => exact ⟨0, Nat.zero_le _, rfl, by rw [List.take_zero, chMarkB_nil]; exact HK11.out, Kept.chg0 (Chg.refl _ _)⟩
                case round =>
                  obtain ⟨t, ht, rfl, hst12, hkp12⟩ := hrel
                  have HK12 := hide hst12
                  have HKP12 := hide hkp12
                  by_cases hlt2 : t < no
                  · obtain ⟨d, hd⟩ : ∃ d, bills[t]? = some d := ⟨_, List.getElem?_eq_getElem (by rw [← HNO.out]; exact hlt2)⟩
                    obtain ⟨j, o, ho, hdo, huq⟩ := due_at HKP.out (show (dueL m m.bids)[t]? = some d by rw [← HBI.out]; exact hd)
                    obtain ⟨gd, dcap, hdv, _, _, hdc⟩ := invRow_cell (HDS11.out.to hkp12).own hd
                    have hda : da = some ⟨gd, 0, none⟩ := by simp at hdv; exact hdv.1
                    subst hda
                    have d0 : wr.cell? ⟨gd, t * 3, none⟩ = some (.int .i64 d.ten) := hdc 0 _ rfl
                    have d1 : wr.cell? ⟨gd, t * 3 + 1, none⟩ = some (.int .i64 d.ref) := hdc 1 _ rfl
                    have ho' : (chMarkB b (bills.take t)).bids[j]? = some (chMarkO (bills.take t) o) := chMark_get ho
                    obtain ⟨f1, f2, _⟩ := chMarkO_fields (bills.take t) o
                    obtain ⟨nb, hnb2⟩ : ∃ nb, nb = (chMarkB b (bills.take t)).bids.length := ⟨_, rfl⟩
                    have hjl : j < nb := by rw [hnb2]; exact (List.getElem?_eq_some_iff.1 ho').1
                    have hbl3 : (chMarkB b (bills.take t)).bids.length ≤ 300 := by
                      show (b.bids.map _).length ≤ 300
                      rw [List.length_map, HKP.out.rel.len]
                      exact HKP.out.good.ok.bl
                    obtain ⟨gb, bcap, hbv, hbo, hgl, hbc, hbf⟩ := hst12.keep.book.bidCell ho'
                    rw [← hnb2] at hbv
                    have c5b : wr.cell? ⟨p, 5, none⟩ = some (.slice (some ⟨gb, 0, none⟩) nb bcap) := by rw [← hbv]; exact hst12.keep.book.cell 5
                    have ngp : gb ≠ p := fun e => ownsRow_box hst12.keep.book.bids hst12.keep.book.box (by decide) (e ▸ hbo)
                    have ngd : gb ≠ gd := fun e => ((HDS11.out.to hkp12).side gd rfl).nv (.inr (.inl (e ▸ hbo)))
                    have HIX := hide (fun (w' : World) (h : Chg (fun _ => False) wr w') => index_at p V9 (chMarkB b (bills.take t)) j (chMarkO (bills.take t) o) d.ten d.ref w' ((hst12.chg0 HY.out h).keep.book) hbl3 ho' (by rw [f1]; exact hdo.1.symm) (by rw [f2]; exact hdo.2.symm) (fun i x hij hx hxx => by
                      obtain ⟨x0, hx0, rfl⟩ := chMark_inv hx
                      obtain ⟨g1, g2, _⟩ := chMarkO_fields (bills.take t) x0
                      rw [g1, g2] at hxx
                      have := huq i x0 hx0 (by rw [hxx.1]; exact hdo.1) (by rw [hxx.2]; exact hdo.2)
                      omega))
                    have HAT := hide (fun (w' : World) (h : Chg (fun _ => False) wr w') => show w'.cell? ⟨gb, j * 12 + 11, none⟩ = some (.bool (chMarkO (bills.take t) o).charged) ∧ w'.frozen? ⟨gb, j * 12 + 11, none⟩ = false from by
                      obtain ⟨g', _, _, hbo', _, hbc', hbf'⟩ := (hst12.chg0 HY.out h).keep.book.bidCell ho'
                      obtain rfl : g' = gb := by rw [hbo] at hbo'; exact (Option.some.inj hbo').symm
                      exact ⟨hbc' 11 _ rfl, hbf' _⟩)
                    have HSTEP := hide (chMark_step hd ho hdo huq)
                    have HO' := hide ho'
                    have HBO := hide hbo
                    have j0 : (0 : Int) ≤ (j : Int) := by omega
                    have j1 : (j : Int) < (nb : Int) := by omega
                    have m0 : (0 : Int) ≤ (t : Int) := by omega
                    have m1 : (t : Int) < (no : Int) := by omega
                    have HNB2 := hide hnb2
                    clear hst12 hkp12 hd ho hdo huq hdv hdc ho' f1 f2 hbv hbo hgl hbc hbf hnb2 hbl3
                    go_wp2_with fail
                    go_region_held3 (fun w' => w'.cell? ⟨p, 5, none⟩ = some (.slice (some ⟨gb, 0, none⟩) nb bcap) ∧ w'.cell? ⟨gd, t * 3, none⟩ = some (.int .i64 d.ten) ∧ w'.cell? ⟨gd, t * 3 + 1, none⟩ = some (.int .i64 d.ref)) (go_keep)
                      (first | (go_at_call 34; refine (HIX.out _ (by first | exact Chg.refl _ _ | exact (Chg.refl _ _).drew)).mono ?_; rintro e w13 ⟨rfl, hq⟩; have hq' : Chg (fun _ => False) wr w13 := (by first | exact ((Chg.refl _ _).drew).trans hq (fun _ _ h => h) | exact hq); have HQ13 := hide hq'; have hk13 := chg_keep hq'; have y5 := hk13 _ _ c5b; have y0 := hk13 _ _ d0; have y1 := hk13 _ _ d1; obtain ⟨z11, zf11⟩ := HAT.out _ hq'; clear hk13 hq hq'))
                    all_goals
                      clear c5b d0 d1 y5 y0 y1 z11 zf11
                      go_wp2
                      go_roundw
                      case rel =>
                        have h13 := (HK12.out.chg0 HY.out HQ13.out).mark HY.out HO'.out HBO.out
                        have hbk : { chMarkB b (bills.take t) with bids := (chMarkB b (bills.take t)).bids.set j { chMarkO (bills.take t) o with charged := true } } = chMarkB b (bills.take (t + 1)) := by
                          unfold chMarkB
                          rw [HSTEP.out]
                        rw [hbk] at h13
                        first
                          | exact ⟨t + 1, by omega, by go_num, h13.1, (HKP12.out.trans (Kept.chg0 HQ13.out)).trans h13.2⟩
                          | exact ⟨t + 1, by omega, by go_num, h13.1.chg0 HY.out ((Chg.refl _ _).drew), ((HKP12.out.trans (Kept.chg0 HQ13.out)).trans h13.2).trans (Kept.chg0 ((Chg.refl _ _).drew))⟩
                      case measure => simp [intOf]; omega
                  · have htn : t = bills.length := by have := HNO.out; omega
                    have HF := hide (show ChSt YAt w0 y p wr m' F7 V9 (chMarkB b bills) (.slice a3 (na0 + no) c3) m'.charges pg n m.paid by
                      rw [HCHG.out]
                      have := HK12.out
                      rw [htn, List.take_length] at this
                      exact this)
                    clear htn hst12 hkp12
                    go_wp2_with fail
                    go_meet
                    case rel => exact ⟨_, _, rfl, HF.out, HKP9.out.mark bills, HCH'.out, HB11.out.to HKP12.out, HT11.out.to HKP12.out⟩
          case rest =>
            obtain ⟨AV, b9, rfl, hst9, hkp9, hch9, hb9, ht9⟩ := hcut
            obtain ⟨w14, hw14⟩ : ∃ w14, w14 = wc := ⟨_, rfl⟩
            subst hw14
            have HK14 := hide hst9
            have HKP14 := hide hkp9
            have HCH14 := hide hch9
            have HB14 := hide hb9
            clear o0 t0
            have o0 : w14.cell? ⟨Q, 0, none⟩ = some (.int .i64 kd) := hb9.cell 0
            have o1 : w14.cell? ⟨Q, 1, none⟩ = some (.int .i64 A) := hb9.cell 1
            have o2 : w14.cell? ⟨Q, 2, none⟩ = some (.int .i64 B) := hb9.cell 2
            have t0 : w14.cell? ⟨T, 0, none⟩ = some (.int .i64 z) := ht9.cell 0
            have x3 : w14.cell? ⟨w.heap.size, 3, none⟩ = some (.int .i64 (n : Int)) := by rw [← HN.out]; exact (HCA.out.chg hst9.keep.chg).cell 3
            obtain ⟨B2, hB2⟩ : ∃ B2, B2 = ((kd == 7) && (z == 0)) := ⟨_, rfl⟩
            have HB2 := hide hB2
            clear hB2 hst9 hkp9 hch9 hb9 ht9 HK9 HD9 HBL9 HKP9 HB9 HT9
            go_upto_region 29 with fail
            go_cut [131] from 124 to 130 (fun s wx => s = .bool B2 ∧ wx = w14)
            case first =>
              cases h1 : kd == 7
              · have e1 : B2 = false := by rw [HB2.out, h1]; rfl
                go_wp2_with fail
                go_meet
                case rel => exact ⟨by rw [e1], rfl⟩
              · cases h2 : z == 0
                · have e1 : B2 = false := by rw [HB2.out, h1, h2]; rfl
                  go_wp2_with fail
                  go_meet
                  case rel => exact ⟨by rw [e1], rfl⟩
                · have e1 : B2 = true := by rw [HB2.out, h1, h2]; rfl
                  go_wp2_with fail
                  go_meet
                  case rel => exact ⟨by rw [e1], rfl⟩
            case rest =>
              obtain ⟨rfl, hwc14⟩ := hcut
              have hwc14' := hwc14.symm
              subst hwc14'
              go_upto_if 131 with fail
              go_cut [6] from 131 to 164 (fun a2 wx => a2 = AV ∧ ChSt YAt w0 y p wx m' F7 V9 b9 AV m'.charges pg n m'.paid)
              case first =>
                cases hB : B2
                · have HR14 := hide (show m'.paid = m.paid from by
                    have h7 : ¬ (kd = 7 ∧ z = 0) := by
                      rintro ⟨rfl, rfl⟩
                      have := HB2.out
                      rw [hB] at this
                      simp at this
                    by_cases h6 : kd = 6 ∧ z = 0
                    · exact (ch_bill HCH.out HKP.out HRES.out h6.1 h6.2 k).2.2.2.2
                    · exact (ch_same HCH.out HKP.out.good HRES.out h6 h7 k).2.2)
                  go_wp2_with fail
                  go_meet
                  case rel => exact ⟨rfl, by rw [HR14.out]; exact HK14.out⟩
                · have hkz : kd = 7 ∧ z = 0 := by
                    have := HB2.out
                    rw [hB] at this
                    simpa using this.symm
                  obtain ⟨_, _, hpd, hA, hBb⟩ := ch_pay HCH.out HRES.out hkz.1 hkz.2 k
                  simp only at hpd hA hBb
                  obtain ⟨a, ha⟩ := Int.eq_ofNat_of_zero_le hA.1
                  have hA2 := hA.2
                  rw [HMC.out, HN.out, ha] at hA2
                  have han : a < n := by omega
                  have hat : A.toNat = a := by omega
                  rw [hat] at hpd
                  have hpl : m.paid.length = n := by rw [HKP.out.good.ok.np, HMC.out, HN.out]; rfl
                  obtain ⟨pc, pf⟩ := HK14.out.paidCell (i := a) (by rw [hpl]; exact han)
                  have hpb : 0 ≤ m.paid.getD a 0 ∧ m.paid.getD a 0 ≤ 322122547200 := by
                    have hm : m.paid.getD a 0 ∈ m.paid := by
                      rw [List.getD, List.getElem?_eq_getElem (by rw [hpl]; exact han)]
                      simp
                    have h1 := HKP.out.good.cash.paid _ hm
                    have h2 := HKP.out.good.ok.nl
                    omega
                  obtain ⟨P, hP⟩ : ∃ P, P = m.paid.getD a 0 := ⟨_, rfl⟩
                  rw [← hP] at pc hpb hpd
                  have hwp : IntKind.i64.wrap (P + B) = P + B := by rw [IntKind.wrap_i64]; omega
                  have HPD := hide hpd
                  rw [ha] at o1
                  have a0 : (0 : Int) ≤ (a : Int) := by omega
                  have a1 : (a : Int) < (n : Int) := by omega
                  have g1 : decide ((a : Int) < 0) = false := by simp
                  have g2 : decide ((n : Int) ≤ (a : Int)) = false := by simp; omega
                  have g3 : decide (B < 1) = false := by simp; omega
                  have g4 : decide (1073741824 < B) = false := by simp; omega
                  clear hpd hA hA2 hat hpl hkz hP hpb ha
                  go_wp2_with fail
                  go_big_region
                  all_goals
                    go_wp2_with fail
                    go_meet
                    case rel =>
                      have h := HK14.out.pay HY.out han (P + B)
                      rw [← HPD.out] at h
                      first
                        | exact ⟨rfl, h⟩
                        | exact ⟨rfl, h.chg0 HY.out ((Chg.refl _ _).drew)⟩
                        | exact ⟨rfl, h.chg0 HY.out ((Chg.refl _ _).drewN _)⟩
              case rest =>
                obtain ⟨ha2, hst15⟩ := hcut
                have ha2' := ha2.symm
                subst ha2'
                obtain ⟨w15, hw15⟩ : ∃ w15, w15 = wc := ⟨_, rfl⟩
                subst hw15
                have HK15 := hide hst15
                have HCN := hide (And.intro HKP14.out.good.cash.chg (And.intro HKP14.out.good.cash.paid (And.intro HKP14.out.good.ok.nl (show m'.paid.length = n by rw [HKP14.out.good.ok.np, hmc9, HN.out]; rfl))))
                clear hst15 o0 o1 o2 t0 x3 HK14 HB14
                go_wp2
                go_loopw [16] (fun v wr => ∃ (a : Nat) (F3 : Nat → Prop), a ≤ n ∧ v = .int .i64 a ∧ ChSt YAt w0 y p wr m' F3 V9 b9 AV m'.charges pg n m'.paid) (fun v _ => n - (intOf v).toNat)
                case atStart => exact ⟨0, F7, Nat.zero_le _, rfl, HK15.out⟩
                case round =>
                  obtain ⟨a, F3, ha, rfl, hst⟩ := hrel
                  have HK16 := hide hst
                  have x3 : wr.cell? ⟨w.heap.size, 3, none⟩ = some (.int .i64 (n : Int)) := by rw [← HN.out]; exact (HCA.out.chg hst.keep.chg).cell 3
                  clear hst
                  by_cases hlt3 : a < n
                  · have hten : m'.tenB (a : Int) = true := by
                      unfold MkG.tenB
                      rw [hmc9, HN.out]
                      simp
                      omega
                    have hIE : invE m' (a : Int) = 0 := by simp [invE, hten]
                    have hIL : invL m' (a : Int) = ofTen m'.charges (a : Int) := by simp [invL, hten]
                    have hBV : balV m' (a : Int) = m'.paid.getD a 0 - sumC (ofTen m'.charges (a : Int)) := by simp [balV, hten]
                    have hI : I64 (a : Int) := by constructor <;> omega
                    have hsb := sumC_le (ofTen m'.charges (a : Int)) (fun c h => HCN.out.1.cents c (List.mem_filter.1 h).1)
                    have hfl : (ofTen m'.charges (a : Int)).length ≤ 300 := Nat.le_trans (List.length_filter_le _ _) HCN.out.1.len
                    have hpb : 0 ≤ m'.paid.getD a 0 ∧ m'.paid.getD a 0 ≤ 322122547200 := by
                      have hm : m'.paid.getD a 0 ∈ m'.paid := by
                        rw [List.getD, List.getElem?_eq_getElem (by rw [HCN.out.2.2.2]; exact hlt3)]
                        simp
                      have h1 := HCN.out.2.1 _ hm
                      have h2 := HCN.out.2.2.1
                      omega
                    obtain ⟨P, hP⟩ : ∃ P, P = m'.paid.getD a 0 := ⟨_, rfl⟩
                    obtain ⟨S, hS⟩ : ∃ S, S = sumC (ofTen m'.charges (a : Int)) := ⟨_, rfl⟩
                    rw [← hP, ← hS] at hBV
                    rw [← hS] at hsb
                    rw [← hP] at hpb
                    have hwp : IntKind.i64.wrap (P - S) = P - S := by rw [IntKind.wrap_i64]; omega
                    have a0 : (0 : Int) ≤ (a : Int) := by omega
                    have a1 : (a : Int) < (n : Int) := by omega
                    have HPS := hide (And.intro hP hS)
                    have HFL := hide hfl
                    have HIL := hide (And.intro hIE (And.intro hIL hBV))
                    have HI' := hide hI
                    have g1 : ((P - S) != (P - S)) = false := by simp
                    clear hten hIE hIL hBV hI hsb hfl hpb hP hS
                    go_wp2_with fail
                    refine (kof_any m'.charges AV (a : Int) wr HK16.out.all.own HCN.out.1.len HCN.out.1.cents).mono ?_
                    rintro e w17 ⟨lv, rfl, hinv⟩
                    rw [← HPS.out.2]
                    obtain ⟨hst17, hsl17⟩ := HK16.out.invs HY.out hinv
                    have HK17 := hide hst17
                    have HSL17 := hide hsl17
                    clear hinv hst17 hsl17 x3
                    go_wp2_with fail
                    refine (HP.out.invoices w17 y F3 m' (a : Int) HK17.out.keep.yard HKP14.out.good HI'.out).mono ?_
                    rintro e w18 ⟨lv8, F8, rfl, hout⟩
                    rw [HIL.out.1]
                    obtain ⟨hst18, hkp18⟩ := HK17.out.yto' hout.yard hout.chg hout.foot
                    have HK18 := hide hst18
                    have HSL18 := hide (HSL17.out.to hkp18)
                    have HIN18 := hide (show SideL w0 F8 V9 p w18 lv8 (ofTen m'.charges (a : Int)) from by
                      have ho := hout.own
                      rw [HIL.out.2.1] at ho
                      refine ⟨ho, fun k hk => ⟨Nat.le_trans HK17.out.keep.chg.size (hout.new k hk).1, (ho.lt k hk).2, (hout.new k hk).2, fun e => ?_⟩⟩
                      have := HK17.out.keep.book.foot_lt k e
                      have := (hout.new k hk).1
                      omega)
                    clear hout hst18 hkp18
                    go_wp2_with fail
                    refine (HP.out.balance w18 y F8 m' (a : Int) HK18.out.keep.yard HKP14.out.good HI'.out).mono ?_
                    rintro e w19 ⟨rfl, hto⟩
                    rw [HIL.out.1, HIL.out.2.2]
                    obtain ⟨F9, hst19, hkp19⟩ := HK18.out.yto hto
                    have HK19 := hide hst19
                    have HSL19 := hide (HSL18.out.to hkp19)
                    have HIN19 := hide (HIN18.out.to hkp19)
                    clear hto hst19 hkp19
                    go_wp2_with fail
                    refine (ksame_any (ofTen m'.charges (a : Int)) lv8 lv w19 HIN19.out.own HSL19.out.own HFL.out).mono ?_
                    rintro e w20 ⟨rfl, hc20⟩
                    have hst20 := HK19.out.chg0 HY.out hc20
                    have pc : w20.cell? ⟨pg, a, none⟩ = some (.int .i64 P) := by rw [HPS.out.1]; exact (hst20.paidCell (i := a) (by rw [HCN.out.2.2.2]; exact hlt3)).1
                    have HK20 := hide hst20
                    clear hc20 hst20
                    go_wp2
                    go_roundw
                    case rel => exact ⟨a + 1, F9, by omega, by go_num, HK20.out⟩
                    case measure => simp [intOf]; omega
                  · have HNL := hide hlt3
                    have hd3 : decide ((a : Int) < (n : Int)) = false := by simp; omega
                    clear hlt3
                    go_wp2
                    go_roundg (sl - (k + 1))
                    case measure => rw [HGK.out]; omega
                    case rel => exact ⟨k + 1, m', F3, V9, b9, rfl, by omega, by go_num, HK16.out, HKP14.out, HCH14.out, hmc9⟩
    · have HNL := hide hlt
      clear hlt
      go_wp2
      go_ret
      exact ⟨rfl, (HC0.out.trans HK.out.keep.chg (fun _ _ h => h)).below (Nat.le_refl _) (fun _ h => h.elim)⟩
end Go.Proofs.Ytminceigjejipaa
