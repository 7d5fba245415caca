import Derived.Test.YtminceigjejipaaG20
import Derived.Test.YtminceigjejipaaKqD
/-
  Packed: its walk.
-/
namespace Go.Proofs.Ytminceigjejipaa
open Go.ChangeShapes Go.WideShapes Go.ChangeAt Go.RowKit Go.Deep

set_option maxRecDepth 100000 in
set_option maxHeartbeats 4000000 in
theorem packed_bad {YAt : World → Nat → (Nat → Prop) → MkG → Prop} (hY : YardSpec YAt) (c : CfgG) (sa : Option Addr) (sl sc : Nat) (w : World) (hc : cfgOk c = false) :
    Calls Try.prog 5 #[caseV c (.slice sa sl sc)] w fun e w' => e = .returned (.bool true) ∧ Below w.heap.size w w' := by
  have HY := hide hY
  have HC := hide hc
  clear hY hc
  unfold caseV caseC
  go_enter Try.func5, Try.ntmps5
  go_wp2_with fail
  refine (open_bad' HY.out c (.slice sa sl sc) _ HC.out ⟨_, _, _, rfl⟩).mono ?_
  rintro e w1 ⟨rfl, hc1⟩
  have HC1 := hide hc1
  clear hc1
  go_wp2
  go_ret
  exact ⟨rfl, (((Chg.refl (fun _ => False) w).alloc _).trans HC1.out (fun _ _ h => h)).below (Nat.le_refl _) (fun _ h => h.elim)⟩

set_option maxRecDepth 100000 in
set_option maxHeartbeats 8000000 in
theorem packed_ok {YAt : World → Nat → (Nat → Prop) → MkG → Prop} (hY : YardSpec YAt) (hT : TickY YAt) (hP : PaidY YAt) (c : CfgG) (sa : Option Addr) (sl sc : Nat) (w : World) (hc : cfgOk c = true) (hs : IntRows w 9 sa sl) (hsl : sl < 5000000000000) :
    Calls Try.prog 5 #[caseV c (.slice sa sl sc)] w fun e w' => e = .returned (.bool true) ∧ Below w.heap.size w w' := by
  have HY := hide hY
  have HT := hide hT
  have HP := hide hP
  have HC := hide hc
  obtain ⟨Z, hcase⟩ := caseAt_new (c := c) (sc := sc) hs
  obtain ⟨w0, hw0⟩ : ∃ w0, w0 = w.alloc (.cells (caseC c (.slice sa sl sc)) 41) := ⟨_, rfl⟩
  rw [← hw0] at hcase
  have HC0 : Hid (Chg (fun _ => False) w w0) := by rw [hw0]; exact (Chg.refl _ _).alloc _
  have HCA := hide hcase
  have HW0 := hide hw0
  clear hY hT hP hc hs hcase hw0
  unfold caseV caseC
  go_enter Try.func5, Try.ntmps5
  go_wp2_with fail
  refine (open_ok' HY.out HT.out c (.slice sa sl sc) _ HC.out ⟨_, _, _, rfl⟩).mono ?_
  rintro e w1 ⟨y, F1, rfl, hown1⟩
  have hown1' : OwnY YAt w0 y F1 (openM c) w1 := by rw [HW0.out]; exact hown1
  have HO1 := hide hown1'
  have HCA1 := hide (HCA.out.chg hown1'.chg)
  have k0 : w1.cell? ⟨w.heap.size, 0, none⟩ = some (.int .i64 c.ticks) := HCA1.out.cell 0
  have k1 : w1.cell? ⟨w.heap.size, 1, none⟩ = some (.int .i64 c.cap) := HCA1.out.cell 1
  have k2 : w1.cell? ⟨w.heap.size, 2, none⟩ = some (.int .i64 c.res) := HCA1.out.cell 2
  have k3 : w1.cell? ⟨w.heap.size, 3, none⟩ = some (.int .i64 c.ten) := HCA1.out.cell 3
  have k4 : w1.cell? ⟨w.heap.size, 4, none⟩ = some (.int .i64 c.quo) := HCA1.out.cell 4
  clear hown1 hown1'
  go_wp2_with fail
  refine (begin_any c w1 HC.out).mono ?_
  rintro e w2 ⟨p, V2, rfl, hbk2, hc2, hnew2⟩
  have HK0 : Hid (∃ F V, KeepM YAt w0 y p w2 (openM c) F V (startB c)) := by
    have hs := HO1.out.chg.size
    exact ⟨F1, V2, HY.out.frame _ _ _ _ _ HO1.out.yard (fun k hk => hc2.block k (HY.out.lt _ _ _ _ HO1.out.yard k hk) (fun e => e)), hbk2, fun k hk e => (by have := hnew2 k hk; have := HY.out.lt _ _ _ _ HO1.out.yard k e; omega), HO1.out.new, fun k hk => (by have := hnew2 k hk; omega), HO1.out.chg.trans hc2 (fun _ _ e => e)⟩
  clear hbk2 hc2 hnew2 k0 k1 k2 k3 k4
  go_wp2
  go_loopw [6] (fun i wr => ∃ (k : Nat) (m : MkG) (F : Nat → Prop) (V : BV) (b : BookG), k ≤ sl ∧ i = .int .i64 k ∧ KeepM YAt w0 y p wr m F V b ∧ KeepP m b ∧ StartLt m ∧ SeenAll m b) (fun i _ => sl - (intOf i).toNat)
  case atStart =>
    obtain ⟨F, V, h⟩ := HK0.out
    exact ⟨0, openM c, F, V, startB c, Nat.zero_le _, rfl, h, ⟨GoodM.open HC.out, SoundM.open HC.out, BookRel.start c⟩, StartLt.open c, SeenAll.start c⟩
  case round =>
    obtain ⟨k, m, F, V, b, hk, rfl, hkm, hkp, hsl0, hse0⟩ := hrel
    have HSL := hide hsl0
    have HSE := hide hse0
    clear hsl0 hse0
    have HK := hide hkm
    have HKP := hide hkp
    have HCR := hide (HCA.out.chg hkm.chg)
    have c5 : wr.cell? ⟨w.heap.size, 5, none⟩ = some (.slice sa sl sc) := HCR.out.cell 5
    clear hkm hkp HK0 HO1 HCA1
    by_cases hlt : k < sl
    · obtain ⟨sb, off, hsa, hst⟩ := HCA.out.step hlt
      subst hsa
      have hi := stepZ_i64 HCA.out.i64 hlt
      obtain ⟨s, hst', hi'⟩ : ∃ s, StepAt w0 sb (off + k * 9) s ∧ StepI64 s := ⟨_, hst, hi⟩
      clear hst hi
      obtain ⟨kd, A, B, C, ⟨ja, jd, jl, ju, jv⟩⟩ := s
      have HST := hide hst'
      have HI := hide hi'
      clear hst' hi'
      have n0 : (0 : Int) ≤ (k : Int) := by omega
      have n1 : (k : Int) < (sl : Int) := by omega
      go_wp2_with fail
      refine (HY.out.now wr y F m HK.out.yard HKP.out.good.ok).mono ?_
      rintro e w3 ⟨rfl, hto⟩
      obtain ⟨F3, hk3, _, _⟩ := HK.out.yto hto
      have HK3 := hide hk3
      have c5 : w3.cell? ⟨w.heap.size, 5, none⟩ = some (.slice (some ⟨sb, off, none⟩) sl sc) := (HCA.out.chg hk3.chg).cell 5
      obtain ⟨_, q0, q1, q2, q3, q4, q5, q6, q7, q8⟩ := HST.out.chg hk3.chg (fun e => e)
      simp only at q0 q1 q2 q3 q4 q5 q6 q7 q8
      clear hk3 hto
      go_wp2_with fail
      refine (does_any HY.out HT.out HP.out y F3 m ⟨kd, A, B, C, ⟨ja, jd, jl, ju, jv⟩⟩ w3 HK3.out.yard HKP.out.good HI.out).mono ?_
      rintro e w4 ⟨z, names, bills, m', F4, nv, bv, rfl, hres, htold⟩
      obtain ⟨na, nc, hnv⟩ := ownsRow_form htold.ns
      obtain ⟨ba, bc, hbv⟩ := ownsRow_form htold.bs
      subst hnv
      subst hbv
      obtain ⟨hk4, hnb4, _⟩ := HK3.out.told htold
      have HNB4 := hide hnb4
      have HNN4 := hide htold.nn
      have HNS4 := hide htold.ns
      have HCH34 := hide htold.chg
      have HRES := hide hres
      obtain ⟨w5, hw5⟩ : ∃ w5, w5 = w4.alloc (.cells #[.int .i64 z, .slice na names.length nc, .slice ba bills.length bc] 51) := ⟨_, rfl⟩
      have hk5 : KeepM YAt w0 y p w5 m' F4 V b := by rw [hw5]; exact hk4.chg0 HY.out ((Chg.refl _ _).alloc _)
      have hb5 : w5.heap[w4.heap.size]? = some (.cells #[.int .i64 z, .slice na names.length nc, .slice ba bills.length bc] 51 (0, 0)) := by rw [hw5]; exact heap_alloc_new w4 _
      have hnf : ¬ V.foot p w4.heap.size := fun e => Nat.lt_irrefl _ (hk4.book.foot_lt _ e)
      have HK5 := hide hk5
      have HC45 : Hid (Chg (fun _ => False) w4 w5) := by rw [hw5]; exact (Chg.refl _ _).alloc _
      have HF4 := hide (fun q (hq : F4 q) => HY.out.lt _ _ _ _ hk4.yard q hq)
      have HB5 := hide hb5
      have HNF := hide hnf
      have HW5 := hide hw5
      clear hk4 hnb4 hres htold q0 q1 q2 q3 q4 q5 q6 q7 q8 c5 hw5
      go_wp2
      rw [← HW5.out]
      have t0 : w5.cell? ⟨w4.heap.size, 0, none⟩ = some (.int .i64 z) := by unfold World.cell?; rw [HB5.out]; rfl
      have c5 : w5.cell? ⟨w.heap.size, 5, none⟩ = some (.slice (some ⟨sb, off, none⟩) sl sc) := (HCA.out.chg hk5.chg).cell 5
      obtain ⟨_, q0, q1, q2, q3, q4, q5, q6, q7, q8⟩ := HST.out.chg hk5.chg (fun e => e)
      simp only at q0 q1 q2 q3 q4 q5 q6 q7 q8
      clear hk5 hb5 hnf HW5
      go_region_held3 (fun w' => w'.cell? ⟨w4.heap.size, 0, none⟩ = some (.int .i64 z) ∧ w'.cell? ⟨w.heap.size, 5, none⟩ = some (.slice (some ⟨sb, off, none⟩) sl sc) ∧ w'.cell? ⟨sb, off + k * 9, none⟩ = some (.int .i64 kd) ∧ w'.cell? ⟨sb, off + k * 9 + 1, none⟩ = some (.int .i64 A) ∧ w'.cell? ⟨sb, off + k * 9 + 2, none⟩ = some (.int .i64 B) ∧ w'.cell? ⟨sb, off + k * 9 + 3, none⟩ = some (.int .i64 C) ∧ w'.cell? ⟨sb, off + k * 9 + 4, none⟩ = some (.int .i64 ja) ∧ w'.cell? ⟨sb, off + k * 9 + 5, none⟩ = some (.int .i64 jd) ∧ w'.cell? ⟨sb, off + k * 9 + 6, none⟩ = some (.int .i64 jl) ∧ w'.cell? ⟨sb, off + k * 9 + 7, none⟩ = some (.int .i64 ju) ∧ w'.cell? ⟨sb, off + k * 9 + 8, none⟩ = some (.int .i64 jv)) (go_keep)
        (first | (go_at_call 19; refine (notes_does p V b k ⟨kd, A, B, C, ⟨ja, jd, jl, ju, jv⟩⟩ _ (by first | exact HK5.out.book.chg0 ((Chg.refl _ _).drew) | exact HK5.out.book) HKP.out HRES.out).mono ?_; rintro e w6 ⟨rfl, hto⟩; obtain ⟨V6, hk6, hch6, _⟩ := KeepM.note HY.out (by first | exact HK5.out.chg0 HY.out ((Chg.refl _ _).drew) | exact HK5.out) hto; have HK6 := hide hk6; have HCH6 := hide hch6; have t0' : w6.cell? ⟨w4.heap.size, 0, none⟩ = some (.int .i64 z) := (by rw [hch6.cell (by exact (Array.getElem?_eq_some_iff.1 HB5.out).1) HNF.out]; exact t0); have c5' : w6.cell? ⟨w.heap.size, 5, none⟩ = some (.slice (some ⟨sb, off, none⟩) sl sc) := (HCA.out.chg hk6.chg).cell 5; obtain ⟨_, r0, r1, r2, r3, r4, r5, r6, r7, r8⟩ := HST.out.chg hk6.chg (fun e => e); simp only at r0 r1 r2 r3 r4 r5 r6 r7 r8; clear hk6 hch6 hto))
      have HKP6 := hide (HKP.out.step HRES.out k)
      have HSL6 := hide (HSL.out.does HKP.out.good HRES.out)
      -- what the step has told lies there still
      have hbt6 : w6.heap[w4.heap.size]? = some (.cells #[.int .i64 z, .slice na names.length nc, .slice ba bills.length bc] 51 (0, 0)) := by
        have h1 := HCH6.out.block w4.heap.size (Array.getElem?_eq_some_iff.1 HB5.out).1 HNF.out
        first | exact h1.trans HB5.out | exact h1.trans (HB5.out)
      have hns6 : w6.ownsRow 0 90 2 (.slice na names.length nc) names.length (names.flatMap nameCells) := by
        refine ownsRow_keep HNS4.out (fun q hq => ?_)
        have hql := (HNS4.out.lt q hq).2
        have hq5 : w5.heap[q]? = w4.heap[q]? := HC45.out.block q hql (fun h => h)
        have hq6 := HCH6.out.block q (Nat.lt_of_lt_of_le hql HC45.out.size) (HNB4.out q hq).2
        first | exact hq6.trans hq5
      have HBT6 := hide hbt6
      have HNS6 := hide hns6
      have e1 : w6.cell? ⟨w4.heap.size, 0, none⟩ = some (.int .i64 z) := by unfold World.cell?; rw [hbt6]; rfl
      have e2 : w6.cell? ⟨w4.heap.size, 1, none⟩ = some (.slice na names.length nc) := by unfold World.cell?; rw [hbt6]; rfl
      have hlt4 : w4.heap.size < w6.heap.size := (Array.getElem?_eq_some_iff.1 hbt6).1
      clear t0 c5 q0 q1 q2 q3 q4 q5 q6 q7 q8 t0' r1 r2 r3 r4 r5 r6 r7 r8 hbt6 hns6
      have SND := hide (fun (F9 : Nat → Prop) (w9 : World) (h : KeepM YAt w0 y p w9 m' F9 V6 (noteB b k ⟨kd, A, B, C, ⟨ja, jd, jl, ju, jv⟩⟩ z m.time)) => sound_any HY.out y F9 m' p V6 _ w9 h.yard HKP6.out.good HKP6.out.sound h.book HKP6.out.rel h.apart)
      have HEND := hide (fun (F7 : Nat → Prop) (w7 : World) (h : KeepM YAt w0 y p w7 m' F7 V6 (seenB m' (noteB b k ⟨kd, A, B, C, ⟨ja, jd, jl, ju, jv⟩⟩ z m.time))) => show ∃ (k' : Nat) (m2 : MkG) (F : Nat → Prop) (V : BV) (b2 : BookG), k' ≤ sl ∧ Value.int .i64 ((k : Int) + 1) = .int .i64 k' ∧ KeepM YAt w0 y p w7 m2 F V b2 ∧ KeepP m2 b2 ∧ StartLt m2 ∧ SeenAll m2 b2 from ⟨k + 1, m', F7, V6, _, by omega, by simp, h, HKP6.out.seen, HSL6.out, SeenAll.seen _ _⟩)
      by_cases hkd : kd = 5
      rotate_left
      · have hd5 : (kd == 5) = false := by simpa using hkd
        clear e1 e2
        go_wp2_with fail
        refine (SND.out F4 w6 HK6.out).mono ?_
        rintro e w7 ⟨rfl, F7, h1, h2, h3, h4, h5⟩
        have HK7 := hide (HK6.out.seen h1 h2 h3 h4 h5)
        clear h1 h2 h3 h4 h5 SND c5' r0
        go_wp2
        go_roundw
        case rel => exact HEND.out F7 _ HK7.out
        case measure => simp [intOf]; omega
      subst hkd
      by_cases hz : z = 0
      rotate_left
      · have hdz : (z == 0) = false := by simpa using hz
        clear e2
        go_wp2_with fail
        refine (SND.out F4 w6 HK6.out).mono ?_
        rintro e w7 ⟨rfl, F7, h1, h2, h3, h4, h5⟩
        have HK7 := hide (HK6.out.seen h1 h2 h3 h4 h5)
        clear h1 h2 h3 h4 h5 SND c5' r0 e1
        go_wp2
        go_roundw
        case rel => exact HEND.out F7 _ HK7.out
        case measure => simp [intOf]; omega
      subst hz
      have htr := doesRes_tick HRES.out rfl
      have hnb : noteB b k ⟨5, A, B, C, ⟨ja, jd, jl, ju, jv⟩⟩ 0 m.time = b := noteB_kind (by simp) (by simp) (by simp)
      have hkpb : KeepP m' b := by have h1 := HKP6.out; rw [hnb] at h1; exact h1
      obtain ⟨js, htold1⟩ := told1_of HKP.out HSE.out htr hkpb
      have HTK := hide htold1.tk
      have hbk6 : BookAt w6 p V6 b := by have h1 := HK6.out.book; rw [hnb] at h1; exact h1
      have HSTA := hide (started_any HY.out y F4 m m' p V6 b names js (.slice na names.length nc) w6 HK6.out.yard hbk6 HK6.out.apart HNS6.out (fun q hq => (HNN4.out q hq).2) htold1)
      have HPK := hide (fun (F9 : Nat → Prop) (w9 : World) (h : KeepM YAt w0 y p w9 m' F9 V6 b) => packed_any HY.out y F9 m' m.time p V6 b w9 h.yard h.book h.apart hkpb.good hkpb.sound hkpb.rel HKP.out.good.ok.t0 (by rw [htold1.mc]; exact htold1.tk.lt) (fun i x' hx' => htold1.tk.left htold1.msusp htold1.mc hx'))
      rw [htold1.tk.count HSL.out] at HPK
      have HK6b : Hid (KeepM YAt w0 y p w6 m' F4 V6 b) := by have h1 := HK6.out; rw [hnb] at h1; exact h1
      have hbig : 0 ≤ m.time ∧ m.time ≤ 64 := by
        have h1 := cfgOk_true HKP.out.good.ok.ck
        have h2 := HKP.out.good.ok.t0
        have h3 := HKP.out.good.ok.t1
        omega
      have hnln : names.length ≤ 300 := htold1.nl
      have HT4 := hide (show ¬ F4 w4.heap.size from fun h => by have h1 := HF4.out _ h; omega)
      have HMT := hide htold1.tk.time
      have HGD := hide hkpb.good
      obtain ⟨tm, htm⟩ : ∃ tm, tm = m.time := ⟨_, rfl⟩
      have HTM := hide htm
      rw [← htm] at HSTA HPK hbig
      have hwt : IntKind.i64.wrap (tm + 1) = tm + 1 := by rw [IntKind.wrap_i64]; omega
      have HNBE := hide hnb
      rw [← htm]
      clear htr hnb hkpb htold1 hbk6 htm
      obtain ⟨nn, hnn⟩ : ∃ nn, nn = names.length := ⟨_, rfl⟩
      rw [← hnn] at HSTA HPK e2 hnln HBT6
      clear hnn
      go_wp2_with fail
      refine HSTA.out.mono ?_
      rintro e w7 ⟨rfl, F7, hl7⟩
      obtain ⟨G7, hk7, hch7, hft7⟩ := HK6b.out.yto ⟨F7, hl7.yard, hl7.chg, hl7.foot⟩
      have HK7 := hide hk7
      have hbt7 := (hch7.block _ hlt4 HT4.out).trans HBT6.out
      have hlt7 : w4.heap.size < w7.heap.size := (Array.getElem?_eq_some_iff.1 hbt7).1
      have HT7 := hide (show ¬ G7 w4.heap.size from fun h => by
        rcases hft7 _ h with h1 | h1
        · exact HT4.out h1
        · omega)
      have HBT7 := hide hbt7
      have HPK7 := hide (HPK.out G7 w7 hk7)
      clear hl7 hk7 hch7 hft7 hbt7 HSTA e1 e2 c5' r0
      go_wp2_with fail
      refine HPK7.out.mono ?_
      rintro e w8 ⟨rfl, F8, hl8⟩
      obtain ⟨G8, hk8, hch8, hft8⟩ := HK7.out.yto ⟨F8, hl8.yard, hl8.chg, hl8.foot⟩
      have HK8 := hide hk8
      have hbt8 := (hch8.block _ hlt7 HT7.out).trans HBT7.out
      have hlt8 : w4.heap.size < w8.heap.size := (Array.getElem?_eq_some_iff.1 hbt8).1
      have HT8 := hide (show ¬ G8 w4.heap.size from fun h => by
        rcases hft8 _ h with h1 | h1
        · exact HT7.out h1
        · omega)
      have HBT8 := hide hbt8
      have HNOW := hide (HY.out.now w8 y G8 m' hk8.yard HGD.out.ok)
      rw [HMT.out, ← HTM.out] at HNOW
      clear hl8 hk8 hch8 hft8 hbt8 HPK7 HPK
      go_wp2_with fail
      refine HNOW.out.mono ?_
      rintro e w9 ⟨rfl, hto9⟩
      obtain ⟨G9, hk9, hch9, _⟩ := HK8.out.yto hto9
      have hbt9 := (hch9.block _ hlt8 HT8.out).trans HBT8.out
      have e3 : w9.cell? ⟨w4.heap.size, 1, none⟩ = some (.slice na nn nc) := by unfold World.cell?; rw [hbt9]; rfl
      have hk9' : KeepM YAt w0 y p w9 m' G9 V6 (noteB b k ⟨5, A, B, C, ⟨ja, jd, jl, ju, jv⟩⟩ 0 m.time) := by rw [HNBE.out]; exact hk9
      have HK9 := hide hk9'
      clear hto9 hk9 hch9 hbt9 HNOW hk9'
      go_wp2_with fail
      refine (SND.out G9 w9 HK9.out).mono ?_
      rintro e w10 ⟨rfl, F10, h1, h2, h3, h4, h5⟩
      have HK10 := hide (HK9.out.seen h1 h2 h3 h4 h5)
      clear h1 h2 h3 h4 h5 SND e3
      go_wp2
      go_roundw
      case rel => exact HEND.out F10 _ HK10.out
      case measure => simp [intOf]; omega
    · have HNL := hide hlt
      clear hlt
      go_wp2
      go_ret
      exact ⟨rfl, (HC0.out.trans HK.out.chg (fun _ _ h => h)).below (Nat.le_refl _) (fun _ h => h.elim)⟩
end Go.Proofs.Ytminceigjejipaa
