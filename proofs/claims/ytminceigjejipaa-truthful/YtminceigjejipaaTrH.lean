import Derived.Test.YtminceigjejipaaG16
import Derived.Deep.CutRange
import Derived.Deep.LoopGhost
/-
  yardkeep, Truthful: gain.
-/
namespace Go.Proofs.Ytminceigjejipaa
open Go.RowKit

/-- what 'gain' leaves -/
def GainRes (c : CfgG) (a : Int) (j : JobG) (st : Nat → StepG) (N p : Nat) (worth : Int) (w : World) (e : Ending) (w' : World) : Prop :=
  ∃ m d, Gained c a j (logU st p) (restU st p N) m ∧ (d = true ↔ submitE (replay c (logU st p)) a 1 j = 0) ∧ e = .returned (.tuple #[.int .i64 (gainZ worth d m a), .bool d, .bool true]) ∧ Chg (fun _ => False) w w'

set_option maxRecDepth 100000 in
set_option maxHeartbeats 8000000 in
theorem kgain_any {YAt : World → Nat → (Nat → Prop) → MkG → Prop} (hY : YardSpec YAt) (hT : TickY YAt) (hP : PaidY YAt) (c : CfgG) (sa : Option Addr) (sl sc : Nat) (st : Nat → StepG) (N : Nat) (la : Option Addr) (lc p : Nat) (a : Int) (j : JobG) (worth : Int) (w : World) (hc : cfgOk c = true)
    (hs : ∀ k, k < N → ∃ b off, la = some ⟨b, off, none⟩ ∧ StepAt w b (off + k * 9) (st k)) (hi : ∀ k, k < N → StepI64 (st k)) (hnl : N < 5000000000000) (hp : p ≤ N) (ha0 : 0 ≤ a) (ha1 : a < c.ten) (hno : NoStep a st N) (hlog : (logU st N).length + 1 < 300)
    (hj : 0 ≤ j.arr ∧ j.arr ≤ 1000 ∧ 1 ≤ j.len ∧ j.len ≤ 1000 ∧ -1000 ≤ j.dl ∧ j.dl ≤ c.ticks ∧ 1 ≤ j.units ∧ j.units ≤ 10000 ∧ 1 ≤ j.val ∧ j.val ≤ 1048576) (hwo : 1 ≤ worth ∧ worth ≤ 1048576) :
    Calls Try.prog 31 #[.agg #[.int .i64 c.ticks, .int .i64 c.cap, .int .i64 c.res, .int .i64 c.ten, .int .i64 c.quo, .slice sa sl sc], .slice la N lc, .int .i64 p, .int .i64 a, .agg #[.int .i64 j.arr, .int .i64 j.dl, .int .i64 j.len, .int .i64 j.units, .int .i64 j.val], .int .i64 worth] w (GainRes c a j st N p worth w) := by
  have HY := hide hY
  have HT := hide hT
  have HP := hide hP
  have HC := hide hc
  have hcf := cfgOk_true hc
  have hia : I64 a := by constructor <;> omega
  have hi1 : I64 1 := by constructor <;> omega
  have hji : JobI64 j := by refine ⟨?_, ?_, ?_, ?_, ?_⟩ <;> constructor <;> omega
  have HIA := hide hia
  have HI1 := hide hi1
  have HJI := hide hji
  have HJ := hide hj
  have HA := hide (And.intro ha0 ha1)
  have HNO := hide hno
  have HLG := hide hlog
  have HWO := hide hwo
  have HSI := hide hi
  obtain ⟨w0, hw0⟩ : ∃ w0, w0 = (w.alloc (.cells #[.int .i64 c.ticks, .int .i64 c.cap, .int .i64 c.res, .int .i64 c.ten, .int .i64 c.quo, .slice sa sl sc] 41)).alloc (.cells #[.int .i64 j.arr, .int .i64 j.dl, .int .i64 j.len, .int .i64 j.units, .int .i64 j.val] 54) := ⟨_, rfl⟩
  have HC0 : Hid (Chg (fun _ => False) w w0) := by rw [hw0]; exact ((Chg.refl _ _).alloc _).alloc _
  have bA : w0.heap[w.heap.size]? = some (.cells #[.int .i64 c.ticks, .int .i64 c.cap, .int .i64 c.res, .int .i64 c.ten, .int .i64 c.quo, .slice sa sl sc] 41 (0, 0)) := by rw [hw0, Below.heap_alloc _ _ _ (by simp)]; exact heap_alloc_new w _
  have bB : w0.heap[w.heap.size + 1]? = some (.cells #[.int .i64 j.arr, .int .i64 j.dl, .int .i64 j.len, .int .i64 j.units, .int .i64 j.val] 54 (0, 0)) := by rw [hw0]; exact heap_at_new (by simp)
  have HBX := hide (fun (w' : World) (h : Chg (fun _ => False) w0 w') => show w'.cell? ⟨w.heap.size, 0, none⟩ = some (.int .i64 c.ticks) ∧ w'.cell? ⟨w.heap.size + 1, 0, none⟩ = some (.int .i64 j.arr) ∧ w'.cell? ⟨w.heap.size + 1, 1, none⟩ = some (.int .i64 j.dl) ∧ w'.cell? ⟨w.heap.size + 1, 2, none⟩ = some (.int .i64 j.len) ∧ w'.cell? ⟨w.heap.size + 1, 3, none⟩ = some (.int .i64 j.units) ∧ w'.cell? ⟨w.heap.size + 1, 4, none⟩ = some (.int .i64 j.val) from by
    have g1 := (h.block _ (Array.getElem?_eq_some_iff.1 bA).1 (fun e => e)).trans bA
    have g2 := (h.block _ (Array.getElem?_eq_some_iff.1 bB).1 (fun e => e)).trans bB
    refine ⟨?_, ?_, ?_, ?_, ?_, ?_⟩
    · unfold World.cell?; rw [g1]; rfl
    · unfold World.cell?; rw [g2]; rfl
    · unfold World.cell?; rw [g2]; rfl
    · unfold World.cell?; rw [g2]; rfl
    · unfold World.cell?; rw [g2]; rfl
    · unfold World.cell?; rw [g2]; rfl)
  have HSA := hide (fun (k : Nat) (hk : k < N) => show ∃ b off, la = some ⟨b, off, none⟩ ∧ StepAt w0 b (off + k * 9) (st k) from by
    obtain ⟨b, off, e, h⟩ := hs k hk
    exact ⟨b, off, e, h.chg HC0.out (fun e => e)⟩)
  have HOP := hide (fun (w' : World) => HY.out.open_ok c w' HC.out)
  have HW0 := hide hw0
  clear hY hT hP hc hs hi hno hlog hj hwo hcf hia hi1 hji hw0 bA bB ha0 ha1
  unfold cfgV at HOP
  go_enter Try.func31, Try.ntmps31
  go_wp2_with fail
  rw [← HW0.out]
  refine (HOP.out _).mono ?_
  rintro e w1 ⟨y, F1, rfl, hy1, hch1, hnew1⟩
  have HO1 := hide (show OwnY YAt w0 y F1 (openM c) w1 from ⟨hy1, GoodM.open HC.out, hch1, hnew1⟩)
  clear hy1 hch1 hnew1 HOP
  go_wp2
  go_loopg [17, 18, 19] (N + 1) (fun gk su dn i wr => ∃ (k : Nat) (m : MkG) (F : Nat → Prop) (s d b : Bool) (k2 : Nat), gk = N + 1 - k ∧ k ≤ N + 1 ∧ su = .bool s ∧ dn = .bool d ∧ i = .int .i64 k ∧ OwnY YAt w0 y F m wr ∧ (b = true ↔ p < k) ∧ (k2 = if k ≤ N then k else N) ∧ GainS c a j st p b k2 m s d)
  case atStart => exact ⟨0, openM c, F1, false, false, false, 0, rfl, by omega, rfl, rfl, rfl, HO1.out, by simp, by simp, GainS.start HC.out HA.out.1⟩
  case round =>
    obtain ⟨k, m, F, s, d, b, k2, hgk, hk, rfl, rfl, rfl, hown, hb, hk2, hgs⟩ := hrel
    have HGK := hide hgk
    have HO := hide hown
    have HB := hide hb
    clear hgk hown hb HO1
    by_cases hle : k ≤ N
    · rw [if_pos hle] at hk2
      subst hk2
      have HGS := hide hgs
      clear hgs
      have d0 : decide ((k2 : Int) ≤ (N : Int)) = true := by simpa using hle
      go_upto_if 47 with fail
      go_cut [18] from 39 to 133 (fun dn wx => ∃ (m1 : MkG) (F1 : Nat → Prop) (d1 b1 : Bool), dn = .bool d1 ∧ OwnY YAt w0 y F1 m1 wx ∧ (b1 = true ↔ p ≤ k2) ∧ GainS c a j st p b1 k2 m1 s d1)
      case first =>
        by_cases hkp : k2 = p
        · have hkd : ((k2 : Int) == (p : Int)) = true := by simp [hkp]
          have hbf : b = false := by
            cases hbb : b
            · rfl
            · have := HB.out.1 hbb
              omega
          have HGP := hide (show GainS c a j st p false p m s d from by have := HGS.out; rw [hbf, hkp] at this; exact this)
          have HKP := hide hkp
          clear hbf hkp
          go_wp2_with fail
          refine (HY.out.now wr y F m HO.out.yard HO.out.good.ok).mono ?_
          rintro e w2 ⟨rfl, hto⟩
          obtain ⟨F2, ho2⟩ := HO.out.to HO.out.good hto
          have HO2 := hide ho2
          obtain ⟨xT, x0, x1, x2, x3, x4⟩ := HBX.out w2 ho2.chg
          clear hto ho2
          go_wp2_with fail
          refine (HY.out.submit w2 y F2 m a 1 j HO2.out.yard HO2.out.good.ok HIA.out HI1.out HJI.out).mono ?_
          rintro e w3 ⟨z, m3, rfl, hres, hto3⟩
          obtain ⟨hz, hg3⟩ := HGP.out.submit (by have h1 := logU_le st hp; have h2 := HLG.out; omega) hres
          obtain ⟨F3, ho3⟩ := HO2.out.to hg3.good hto3
          have hmay := HGP.out.may (fun n hn => HNO.out n (by omega)) HA.out.1 HA.out.2 HJ.out.1 HJ.out.2.2.1 HJ.out.2.2.2.2.2.2.1 HJ.out.2.2.2.2.2.2.2.2.1 HJ.out.2.2.2.2.2.2.2.2.2 HJ.out.2.2.2.2.2.1
          obtain ⟨D, hD⟩ : ∃ D, D = decide (submitE m a 1 j = 0) := ⟨_, rfl⟩
          rw [← hD] at hg3 hmay
          have hzd : (z == 0) = D := by rw [hD, hz]; rfl
          have HO3 := hide ho3
          have HG3 := hide hg3
          have HMAY := hide hmay
          obtain ⟨yT, y0, y1, y2, y3, y4⟩ := HBX.out w3 ho3.chg
          obtain ⟨tm, htm⟩ : ∃ tm, tm = m.time := ⟨_, rfl⟩
          rw [← htm] at HMAY ⊢
          obtain ⟨AT, hAT⟩ : ∃ AT, AT = atOf tm j := ⟨_, rfl⟩
          have HAT := hide hAT
          clear hres hto3 ho3 hg3 hmay hD hz xT x0 x1 x2 x3 x4 htm hAT
          go_upto_if 60 with fail
          go_cut [21] from 39 to 133 (fun v wx => v = .int .i64 AT ∧ wx = w3)
          case first =>
            by_cases hat : j.arr < tm
            · have HE := hide (show AT = tm by rw [HAT.out]; unfold atOf; rw [if_pos hat])
              go_wp2_with fail
              go_meet
              case rel => exact ⟨by rw [HE.out], rfl⟩
            · have HE := hide (show AT = j.arr by rw [HAT.out]; unfold atOf; rw [if_neg hat])
              have hat2 : tm ≤ j.arr := by omega
              go_wp2_with fail
              go_meet
              case rel => exact ⟨by rw [HE.out], rfl⟩
          case rest =>
            obtain ⟨rfl, hwc⟩ := hcut
            have hwc' := hwc.symm
            subst hwc'
            have hwr : IntKind.i64.wrap (j.dl - j.len) = j.dl - j.len := by have h1 := HJ.out; have h2 := cfgOk_true HC.out; rw [IntKind.wrap_i64]; omega
            have HM := hide (show D = (!s && decide (j.len ≤ c.ticks) && decide (j.units ≤ 1000) && decide (j.len ≤ j.dl) && decide (AT ≤ j.dl - j.len)) by rw [HMAY.out, HAT.out]; rfl)
            clear HMAY
            cases s
            · go_upto_region 16 with fail
              go_cut [22] from 39 to 133 (fun v wx => v = .bool D ∧ wx = w3)
              case first =>
                cases h2 : decide (j.len ≤ c.ticks)
                · have e1 := hide (show D = false by rw [HM.out, h2]; rfl)
                  go_wp2_with fail
                  go_meet
                  case rel => exact ⟨by rw [e1.out], rfl⟩
                · cases h3 : decide (j.units ≤ 1000)
                  · have e1 := hide (show D = false by rw [HM.out, h2, h3]; rfl)
                    go_wp2_with fail
                    go_meet
                    case rel => exact ⟨by rw [e1.out], rfl⟩
                  · cases h4 : decide (j.len ≤ j.dl)
                    · have e1 := hide (show D = false by rw [HM.out, h2, h3, h4]; rfl)
                      go_wp2_with fail
                      go_meet
                      case rel => exact ⟨by rw [e1.out], rfl⟩
                    · cases h5 : decide (AT ≤ j.dl - j.len)
                      · have e1 := hide (show D = false by rw [HM.out, h2, h3, h4, h5]; rfl)
                        go_wp2_with fail
                        go_meet
                        case rel => exact ⟨by rw [e1.out], rfl⟩
                      · have e1 := hide (show D = true by rw [HM.out, h2, h3, h4, h5]; rfl)
                        go_wp2_with fail
                        go_meet
                        case rel => exact ⟨by rw [e1.out], rfl⟩
              case rest =>
                obtain ⟨rfl, hwc⟩ := hcut
                have hwc' := hwc.symm
                subst hwc'
                have hdd : (D != D) = false := by simp
                clear yT y0 y1 y2 y3 y4
                go_wp2_with fail
                go_meet
                case rel => exact ⟨m3, F3, D, true, rfl, HO3.out, by have := HKP.out; simp; omega, by have := HG3.out; rw [← HKP.out] at this ⊢; exact this⟩
            · have e1 : D = false := by rw [HM.out]; rfl
              subst e1
              go_wp2_with fail
              go_meet
              case rel => exact ⟨m3, F3, false, true, rfl, HO3.out, by have := HKP.out; simp; omega, by have := HG3.out; rw [← HKP.out] at this ⊢; exact this⟩
        · have hkd : ((k2 : Int) == (p : Int)) = false := by simp; omega
          go_wp2_with fail
          go_meet
          case rel => exact ⟨m, F, d, b, rfl, HO.out, by rw [HB.out]; omega, HGS.out⟩
      case rest =>
        obtain ⟨m1, F1', d1, b1, rfl, ho1, hb1, hg1⟩ := hcut
        have HO1 := hide ho1
        have HB1 := hide hb1
        have HG1 := hide hg1
        clear HO HB HGS ho1 hb1 hg1
        by_cases hlt : k2 < N
        · obtain ⟨sb, off, hsa, hst⟩ := HSA.out k2 hlt
          subst hsa
          have HST := hide hst
          have hi := HSI.out k2 hlt
          have HG2 := hide (fun (z : Int) (names : List (Int × Int)) (bills : List InvG) (m' : MkG) (hr : DoesRes m1 (st k2) z names bills m') => HG1.out.step HA.out.1 HA.out.2 (by have h1 := logU_le st (show k2 + 1 ≤ N by omega); have h2 := HLG.out; omega) hr)
          obtain ⟨s0, hs0⟩ : ∃ s0, s0 = st k2 := ⟨_, rfl⟩
          rw [← hs0] at HST hi HG2
          have HI := hide hi
          obtain ⟨kd, A, B, C, ⟨ja, jd, jl, ju, jv⟩⟩ := s0
          have n0 : (0 : Int) ≤ (k2 : Int) := by omega
          have n1 : (k2 : Int) < (N : Int) := by omega
          obtain ⟨_, q0, q1, q2, q3, q4, q5, q6, q7, q8⟩ := HST.out.chg HO1.out.chg (fun e => e)
          simp only at q0 q1 q2 q3 q4 q5 q6 q7 q8
          clear hst hi hs0
          go_wp2_with fail
          refine (does_any HY.out HT.out HP.out y F1' m1 ⟨kd, A, B, C, ⟨ja, jd, jl, ju, jv⟩⟩ wc HO1.out.yard HO1.out.good HI.out).mono ?_
          rintro e w4 ⟨z, names, bills, m', F4, nv, bv, rfl, hres, htold⟩
          obtain ⟨na, nc, hnv⟩ := ownsRow_form htold.ns
          obtain ⟨ba, bc, hbv⟩ := ownsRow_form htold.bs
          subst hnv
          subst hbv
          have hg4 := HG2.out _ _ _ _ hres
          have ho4 := HO1.out.told hg4.good htold
          obtain ⟨w5, hw5⟩ : ∃ w5, w5 = w4.alloc (.cells #[.int .i64 z, .slice na names.length nc, .slice ba bills.length bc] 51) := ⟨_, rfl⟩
          have HO5 := hide (show OwnY YAt w0 y F4 m' w5 from by rw [hw5]; exact ho4.chg0 HY.out ((Chg.refl (fun _ => False) _).alloc _) (fun _ h => h.elim))
          have HT5 := hide (show w5.cell? ⟨w4.heap.size, 0, none⟩ = some (.int .i64 z) from by rw [hw5]; unfold World.cell?; rw [heap_alloc_new]; rfl)
          have HW5 := hide hw5
          have HG4 := hide hg4
          clear hres htold hg4 ho4 hw5 q0 q1 q2 q3 q4 q5 q6 q7 q8
          go_upto_region 21 with fail
          rw [← HW5.out]
          obtain ⟨_, q0, q1, q2, _, _, _, _, _, _⟩ := HST.out.chg HO5.out.chg (fun e => e)
          simp only at q0 q1 q2
          have t0 := HT5.out
          obtain ⟨BB, hBB⟩ : ∃ BB, BB = ((kd == 3) && (A == a) && (z == 0)) := ⟨_, rfl⟩
          have HBB := hide hBB
          obtain ⟨E, hE⟩ : ∃ E, E = (B.tmod 2 == 0) := ⟨_, rfl⟩
          have HSU := hide (show (if kd = 3 ∧ A = a ∧ z = 0 then evenB B else s) = if BB = true then E else s from by
            rw [hBB, hE]
            simp only [Bool.and_eq_true, beq_iff_eq, and_assoc]
            rfl)
          have HE := hide hE
          clear hBB hE
          go_cut [126] from 39 to 133 (fun v wx => v = .bool BB ∧ wx = w5)
          case first =>
            cases h1 : kd == 3
            · have e1 : BB = false := by rw [HBB.out, h1]; rfl
              go_wp2_with fail
              go_meet
              case rel => exact ⟨by rw [e1], rfl⟩
            · cases h2 : A == a
              · have e1 : BB = false := by rw [HBB.out, h1, h2]; rfl
                go_wp2_with fail
                go_meet
                case rel => exact ⟨by rw [e1], rfl⟩
              · cases h3 : z == 0
                · have e1 : BB = false := by rw [HBB.out, h1, h2, h3]; rfl
                  go_wp2_with fail
                  go_meet
                  case rel => exact ⟨by rw [e1], rfl⟩
                · have e1 : BB = true := by rw [HBB.out, h1, h2, h3]; rfl
                  go_wp2_with fail
                  go_meet
                  case rel => exact ⟨by rw [e1], rfl⟩
          case rest =>
            obtain ⟨rfl, hwc⟩ := hcut
            have hwc' := hwc.symm
            subst hwc'
            cases hB : BB
            · have HS2 := hide (show (if kd = 3 ∧ A = a ∧ z = 0 then evenB B else s) = s from by rw [HSU.out, hB]; rfl)
              go_wp2
              go_roundg (N + 1 - (k2 + 1))
              case rel => exact ⟨k2 + 1, m', F4, s, d1, b1, k2 + 1, rfl, by omega, rfl, rfl, by go_num, HO5.out, by rw [HB1.out]; omega, by rw [if_pos (by omega)], by have := HG4.out; rw [HS2.out] at this; exact this⟩
              case measure => rw [HGK.out]; omega
            · have HS2 := hide (show (if kd = 3 ∧ A = a ∧ z = 0 then evenB B else s) = E from by rw [HSU.out, hB]; rfl)
              have hE := HE.out.symm
              go_wp2
              go_roundg (N + 1 - (k2 + 1))
              case rel => exact ⟨k2 + 1, m', F4, E, d1, b1, k2 + 1, rfl, by omega, by first | rfl | rw [HE.out], rfl, by go_num, HO5.out, by rw [HB1.out]; omega, by rw [if_pos (by omega)], by have := HG4.out; rw [HS2.out] at this; exact this⟩
              case measure => rw [HGK.out]; omega
        · have hkn : k2 = N := by omega
          have HKN := hide hkn
          clear hkn
          go_wp2
          go_roundg (N + 1 - (k2 + 1))
          case rel => exact ⟨k2 + 1, m1, F1', s, d1, b1, k2, rfl, by omega, rfl, rfl, by go_num, HO1.out, by rw [HB1.out]; omega, by rw [if_neg (by have := HKN.out; omega)]; exact HKN.out, HG1.out⟩
          case measure => rw [HGK.out]; omega
    · rw [if_neg hle] at hk2
      subst hk2
      have hbt : b = true := HB.out.2 (by omega)
      subst hbt
      have HGS := hide hgs
      have hd0 : decide ((k : Int) ≤ (k2 : Int)) = false := by simp; omega
      obtain ⟨lk1, lk2⟩ := hgs.looks HNO.out HA.out.1 HA.out.2
      have HLK := hide (HY.out.look wr y F m a 1 HO.out.yard HO.out.good.ok HIA.out HI1.out)
      have HFIN := hide (show Gained c a j (logU st p) (restU st p k2) m ∧ (d = true ↔ submitE (replay c (logU st p)) a 1 j = 0) from ⟨hgs.gained HNO.out HA.out.1 HA.out.2, (hgs.high rfl).2.2⟩)
      obtain ⟨lS, hlS⟩ : ∃ x, x = lookS m a 1 := ⟨_, rfl⟩
      obtain ⟨lT, hlT⟩ : ∃ x, x = lookT m a 1 := ⟨_, rfl⟩
      obtain ⟨lE, hlE⟩ : ∃ x, x = lookE m a 1 := ⟨_, rfl⟩
      rw [← hlS, ← hlT, ← hlE] at HLK
      rw [← hlE] at lk1 lk2
      rw [← hlS] at lk2
      have HLS := hide hlS
      have HK1 := hide lk1
      have HK2 := hide lk2
      clear hgs hlS hlT hlE lk1 lk2
      go_wp2_with fail
      refine HLK.out.mono ?_
      rintro e w2 ⟨rfl, hto⟩
      obtain ⟨F2, ho2⟩ := HO.out.to HO.out.good hto
      obtain ⟨w3, hw3⟩ : ∃ w3, w3 = w2.alloc (.cells #[.int .i64 lS, .int .i64 lT] 68) := ⟨_, rfl⟩
      have HO3 := hide (show OwnY YAt w0 y F2 m w3 from by rw [hw3]; exact ho2.chg0 HY.out ((Chg.refl (fun _ => False) _).alloc _) (fun _ h => h.elim))
      have HW3 := hide hw3
      have HZ3 := hide (show w3.cell? ⟨w2.heap.size, 0, none⟩ = some (.int .i64 lS) from by rw [hw3]; unfold World.cell?; rw [heap_alloc_new]; rfl)
      clear hto ho2 hw3
      go_upto_region 24 with fail
      rw [← HW3.out]
      cases hd : d
      · have hE5 := HK1.out hd
        subst hE5
        have HR := hide (show gainZ worth false m a = 0 from by unfold gainZ; rw [if_neg (fun h => by cases h.1)])
        go_wp2
        refine bodyPost_ret (v := .tuple #[.int .i64 0, .bool false, .bool true]) (by simp [results, Try.results31, go_sem]) rfl ⟨m, false, HFIN.out.1, by have h := HFIN.out.2; rw [hd] at h; exact h, by rw [HR.out], HC0.out.trans HO3.out.chg (fun _ _ h => h)⟩
      · obtain ⟨hE0, hpr⟩ := HK2.out hd
        subst hE0
        have HPR := hide hpr
        have z0 := HZ3.out
        clear hpr
        cases hS : lS == 2
        · have hS1 : (lS != 2) = true := by simp [bne, hS]
          have HR := hide (show gainZ worth true m a = 0 from by
            unfold gainZ
            rw [← HLS.out, if_neg (fun h => by rw [h.2] at hS; simp at hS)])
          go_wp2
          refine bodyPost_ret (v := .tuple #[.int .i64 0, .bool true, .bool true]) (by simp [results, Try.results31, go_sem]) rfl ⟨m, true, HFIN.out.1, by have h := HFIN.out.2; rw [hd] at h; exact h, by rw [HR.out], HC0.out.trans HO3.out.chg (fun _ _ h => h)⟩
        · have hS1 : (lS != 2) = false := by simp [bne, hS]
          have hS2 : lS = 2 := by simpa using hS
          obtain ⟨hp1, hp2, hp3⟩ := HPR.out hS2
          have HPC := hide (HP.out.price w3 y F2 m a 1 HO3.out.yard HO3.out.good HIA.out HI1.out)
          rw [hp1] at HPC
          have HR := hide (show gainZ worth true m a = worth - priceV m a 1 from by
            unfold gainZ
            rw [← HLS.out, if_pos ⟨rfl, hS2⟩])
          obtain ⟨P, hPd⟩ : ∃ P, P = priceV m a 1 := ⟨_, rfl⟩
          rw [← hPd] at hp2 hp3 HPC HR
          have hwp : IntKind.i64.wrap (worth - P) = worth - P := by have := HWO.out; rw [IntKind.wrap_i64]; omega
          clear hPd hp1 hS2
          go_wp2_with fail
          refine HPC.out.mono ?_
          rintro e w4 ⟨rfl, hto⟩
          obtain ⟨F4, ho4⟩ := HO3.out.to HO3.out.good hto
          have HO4 := hide ho4
          clear hto ho4
          go_wp2
          refine bodyPost_ret (v := .tuple #[.int .i64 (worth - P), .bool true, .bool true]) (by simp [results, Try.results31, go_sem]) rfl ⟨m, true, HFIN.out.1, by have h := HFIN.out.2; rw [hd] at h; exact h, by rw [HR.out], HC0.out.trans HO4.out.chg (fun _ _ h => h)⟩
end Go.Proofs.Ytminceigjejipaa
