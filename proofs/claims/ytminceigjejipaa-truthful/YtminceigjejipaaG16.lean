import Derived.Test.YtminceigjejipaaG14
import Derived.Test.YtminceigjejipaaKrC
import Derived.Deep.LoopGhost
import Derived.Deep.AppendLies
/-
  yardkeep, Truthful: logged, without.
-/
namespace Go.Proofs.Ytminceigjejipaa
open Go.RowKit

def noStep : StepG := ⟨0, 0, 0, 0, noJob⟩
def stL (L : List StepG) (k : Nat) : StepG := L.getD k noStep
theorem stL_get {L : List StepG} {k : Nat} (h : k < L.length) : L[k]? = some (stL L k) := by
  rw [List.getElem?_eq_getElem h]
  simp [stL, List.getD, h]
theorem stL_of {L : List StepG} {k : Nat} {s : StepG} (h : L[k]? = some s) : stL L k = s := by
  simp [stL, List.getD, h]
def stepCells (s : StepG) : List Value := [.int .i64 s.kind, .int .i64 s.a, .int .i64 s.b, .int .i64 s.c, .int .i64 s.job.arr, .int .i64 s.job.dl, .int .i64 s.job.len, .int .i64 s.job.units, .int .i64 s.job.val]
theorem infoStep : (Try.prog.info? 56).map (fun i => (i.zero, i.size, i.bytes)) = some (some (.agg #[.int .i64 0, .int .i64 0, .int .i64 0, .int .i64 0, .int .i64 0, .int .i64 0, .int .i64 0, .int .i64 0, .int .i64 0]), 9, 72) := by kernel_rfl

/-- a list of steps in memory -/
def StepsIn (w : World) (sa : Option Addr) (L : List StepG) : Prop := ∀ k, k < L.length → ∃ b off, sa = some ⟨b, off, none⟩ ∧ StepAt w b (off + k * 9) (stL L k)
def StepsI (L : List StepG) : Prop := ∀ k, k < L.length → StepI64 (stL L k)
theorem StepsIn.chg {w w' : World} {sa : Option Addr} {L : List StepG} (h : StepsIn w sa L) (hc : Chg (fun _ => False) w w') : StepsIn w' sa L := fun k hk => by
  obtain ⟨b, off, e, hs⟩ := h k hk
  exact ⟨b, off, e, hs.chg hc (fun e => e)⟩
theorem caseL {Z : Nat → Int} {sl k : Nat} (hk : k < sl) : stL ((List.range sl).map (stepZ Z)) k = stepZ Z k := stL_of (by simp [hk])
theorem CaseAt.stepsIn {w : World} {q : Nat} {c : CfgG} {sa : Option Addr} {sl sc : Nat} {Z : Nat → Int} (h : CaseAt w q c sa sl sc Z) : StepsIn w sa ((List.range sl).map (stepZ Z)) ∧ StepsI ((List.range sl).map (stepZ Z)) := by
  refine ⟨fun k hk => ?_, fun k hk => ?_⟩
  · have hk' : k < sl := by simpa using hk
    rw [caseL hk']
    exact h.step hk'
  · have hk' : k < sl := by simpa using hk
    rw [caseL hk']
    exact stepZ_i64 h.i64 hk'

/-- a list of steps that grows in a block of its own -/
structure StepSt (w : World) (l : List StepG) (lv : Value) (wr : World) : Prop where
  chg : Chg (fun _ => False) w wr
  own : wr.ownsRow 0 56 9 lv l.length (l.flatMap stepCells)
  new : ∀ k, lv.ownBlock = some k → w.heap.size ≤ k
theorem StepSt.chg0 {w wr w' : World} {l : List StepG} {lv : Value} (h : StepSt w l lv wr) (hc : Chg (fun _ => False) wr w') : StepSt w l lv w' :=
  ⟨h.chg.trans hc (fun _ _ h => h), ownsRow_keep h.own (fun k hk => hc.block k (h.own.lt k hk).2 (fun h => h)), h.new⟩
theorem StepSt.nil {w wr : World} (hc : Chg (fun _ => False) w wr) : StepSt w [] (.slice none 0 0) wr := ⟨hc, World.ownsRow_nil _ _ _ _, fun k hk => by simp [Value.ownBlock] at hk⟩
theorem step_arm {w wr wa w3 : World} {l : List StepG} {x : StepG} {ao : Option Addr} {cap cap' g H nn : Nat} (h : StepSt w l (.slice ao nn cap) wr) (hn : nn = l.length) (hc : Chg (fun _ => False) wr wa)
    (hown : w3.ownsRow 0 56 9 (.slice (some ⟨g, 0, none⟩) (nn + 1) cap') (nn + 1) (l.flatMap stepCells ++ stepCells x)) (hgrow : wa.grownBy w3 (Value.ownBlock (.slice ao nn cap))) (hat : Value.ownBlock (.slice ao nn cap) = some g ∨ g = H) (hH : wr.heap.size ≤ H) :
    Hid (StepSt w (l ++ [x]) (.slice (some ⟨g, 0, none⟩) (nn + 1) cap') w3) := by
  subst hn
  have hc3 : Chg (fun k => Value.ownBlock (.slice ao l.length cap) = some k) wr w3 := (hc.mono (fun _ _ h => h.elim)).grown hgrow (fun k hk => .inl hk)
  have hs := h.chg.size
  refine ⟨h.chg.trans hc3 (fun k hk e => by have := h.new k e; omega), ?_, ?_⟩
  · rw [List.length_append, List.flatMap_append]
    simp only [List.flatMap_cons, List.flatMap_nil, List.append_nil, List.length_cons, List.length_nil, Nat.zero_add]
    exact hown
  · intro k hk
    simp [Value.ownBlock] at hk
    subst hk
    rcases hat with e | e
    · exact h.new g e
    · omega
theorem StepSt.stepsIn {w wr : World} {l : List StepG} {sa : Option Addr} {n sc : Nat} (h : StepSt w l (.slice sa n sc) wr) : StepsIn wr sa l := fun i hi => by
  have hc := stL_get hi
  rcases h.own.2 with ⟨hv, h0⟩ | ⟨g, cap, cur, hv, hg, hh, _⟩
  · omega
  · have e : sa = some ⟨g, 0, none⟩ := by
      simp at hv
      exact hv.1
    have hgl := (Array.getElem?_eq_some_iff.1 hh).1
    have cl : ∀ r u, (stepCells (stL l i))[r]? = some u → wr.cell? ⟨g, 0 + i * 9 + r, none⟩ = some u := fun r u hu => by
      have hr : r < 9 := by
        have := (List.getElem?_eq_some_iff.1 hu).1
        simpa [stepCells] using this
      have := h.own.cells (g := g) (by rw [e]; rfl) (i * 9 + r) u (by rw [flat_get stepCells 9 (fun _ => rfl) l i _ r hc hr]; exact hu)
      rw [Addr.add_lit, Nat.zero_add] at this
      rw [Nat.zero_add]
      exact this
    exact ⟨g, 0, e, hgl, cl 0 _ rfl, cl 1 _ rfl, cl 2 _ rfl, cl 3 _ rfl, cl 4 _ rfl, cl 5 _ rfl, cl 6 _ rfl, cl 7 _ rfl, cl 8 _ rfl⟩

/-- the steps but those with which a tenant submits or cancels -/
def outB (a : Int) (s : StepG) : Bool := ((s.kind == 1) || (s.kind == 2)) && (s.a == a)
def withoutL (a : Int) (L : List StepG) : List StepG := L.filter fun s => !outB a s
theorem withoutL_snoc {a : Int} {L : List StepG} {k : Nat} (h : k < L.length) : withoutL a (L.take (k + 1)) = withoutL a (L.take k) ++ (if outB a (stL L k) = true then [] else [stL L k]) := by
  have e : L.take (k + 1) = L.take k ++ [stL L k] := by
    rw [List.take_add_one, stL_get h]
    rfl
  unfold withoutL
  rw [e, List.filter_append]
  congr 1
  cases hb : outB a (stL L k) <;> simp [hb]
theorem withoutL_len {a : Int} (L : List StepG) : (withoutL a L).length ≤ L.length := List.length_filter_le _ _
theorem withoutL_no {a : Int} (L : List StepG) : NoStep a (stL (withoutL a L)) (withoutL a L).length := fun n hn hk e => by
  have hm := List.mem_of_getElem? (stL_get hn)
  have := (List.mem_filter.1 hm).2
  simp [outB] at this
  rcases this with ⟨h1, h2⟩ | h3
  · rcases hk with hk | hk
    · exact h1 hk
    · exact h2 hk
  · exact h3 e
theorem withoutL_i64 {a : Int} {L : List StepG} (h : StepsI L) : StepsI (withoutL a L) := fun n hn => by
  have hm : stL (withoutL a L) n ∈ L := (List.mem_filter.1 (List.mem_of_getElem? (stL_get hn))).1
  obtain ⟨k, hk⟩ := List.getElem?_of_mem hm
  rw [← stL_of hk]
  exact h k (List.getElem?_eq_some_iff.1 hk).1

theorem logU_cap (st : Nat → StepG) : ∀ k, (logU st k).length ≤ k
  | 0 => Nat.le_refl _
  | k + 1 => by
    have := logU_cap st k
    simp only [logU, List.length_append]
    split <;> simp <;> omega

set_option maxRecDepth 100000 in
set_option maxHeartbeats 4000000 in
theorem klogged_any (L : List StepG) (sa : Option Addr) (sc : Nat) (w : World) (hs : StepsIn w sa L) (hl : L.length < 5000000000000) :
    Calls Try.prog 28 #[.slice sa L.length sc] w fun e w' => e = .returned (.int .i64 ((logU (stL L) L.length).length : Nat)) ∧ w' = w := by
  obtain ⟨N, hN⟩ : ∃ N, N = L.length := ⟨_, rfl⟩
  have HS := hide hs
  have HN := hide hN
  rw [← hN] at hl ⊢
  clear hs hN
  go_enter Try.func28, Try.ntmps28
  go_wp2
  go_loopg [3, 4] N (fun gk c y wr => ∃ k : Nat, gk = N - k ∧ k ≤ N ∧ y = .int .i64 k ∧ c = .int .i64 ((logU (stL L) k).length : Nat) ∧ wr = w)
  case atStart => exact ⟨0, rfl, by omega, rfl, rfl, rfl⟩
  case round =>
    obtain ⟨k, hgk, hk, rfl, rfl, hwr⟩ := hrel
    have HGK := hide hgk
    clear hgk
    subst hwr
    have hcap := logU_cap (stL L) k
    obtain ⟨C, hC⟩ : ∃ C, C = (logU (stL L) k).length := ⟨_, rfl⟩
    rw [← hC] at hcap ⊢
    have HCN := hide hC
    clear hC
    by_cases hlt : k < N
    · obtain ⟨b, off, hsa, hst⟩ := HS.out k (by rw [← HN.out]; exact hlt)
      subst hsa
      have q0 := hst.c0
      obtain ⟨kd, hkd⟩ : ∃ kd, kd = (stL L k).kind := ⟨_, rfl⟩
      rw [← hkd] at q0
      have k0 : (0 : Int) ≤ (k : Int) := by omega
      have k1 : (k : Int) < (N : Int) := by omega
      have HE := hide (show logU (stL L) (k + 1) = logU (stL L) k ++ (if 1 ≤ kd ∧ kd ≤ 7 then [callOfS (stL L k)] else []) by rw [hkd]; rfl)
      clear hst hkd
      by_cases h1 : 1 ≤ kd
      · by_cases h2 : kd ≤ 7
        · have HL := hide (show (logU (stL L) (k + 1)).length = C + 1 by rw [HE.out, if_pos ⟨h1, h2⟩, HCN.out]; simp)
          have d1 : decide (1 ≤ kd) = true := by simpa using h1
          have d2 : decide (kd ≤ 7) = true := by simpa using h2
          go_wp2
          go_roundg (N - (k + 1))
          case rel => exact ⟨k + 1, rfl, by omega, by go_num, by rw [HL.out]; go_num, rfl⟩
          case measure => rw [HGK.out]; omega
        · have HL := hide (show (logU (stL L) (k + 1)).length = C by rw [HE.out, if_neg (fun h => h2 h.2), HCN.out]; simp)
          have d1 : decide (1 ≤ kd) = true := by simpa using h1
          have d2 : decide (kd ≤ 7) = false := by simp; omega
          go_wp2
          go_roundg (N - (k + 1))
          case rel => exact ⟨k + 1, rfl, by omega, by go_num, by rw [HL.out], rfl⟩
          case measure => rw [HGK.out]; omega
      · have HL := hide (show (logU (stL L) (k + 1)).length = C by rw [HE.out, if_neg (fun h => h1 h.1), HCN.out]; simp)
        have d1 : decide (1 ≤ kd) = false := by simp; omega
        go_wp2
        go_roundg (N - (k + 1))
        case rel => exact ⟨k + 1, rfl, by omega, by go_num, by rw [HL.out], rfl⟩
        case measure => rw [HGK.out]; omega
    · have hkN : k = N := by omega
      have HE := hide (show (logU (stL L) N).length = C by rw [← hkN, HCN.out])
      clear hkN
      go_wp2
      go_ret
      exact ⟨by rw [HE.out]; rfl, rfl⟩

set_option maxRecDepth 100000 in
set_option maxHeartbeats 4000000 in
theorem kwithout_any (L : List StepG) (sa : Option Addr) (sc : Nat) (ten : Int) (w : World) (hs : StepsIn w sa L) (hl : L.length * 72 ≤ 140737488351232) :
    Calls Try.prog 27 #[.slice sa L.length sc, .int .i64 ten] w fun e w' => ∃ lv, e = .returned lv ∧ StepSt w (withoutL ten L) lv w' := by
  obtain ⟨N, hN⟩ : ∃ N, N = L.length := ⟨_, rfl⟩
  have HS := hide hs
  have HN := hide hN
  rw [← hN] at hl ⊢
  clear hs hN
  go_enter Try.func27, Try.ntmps27
  go_wp2
  go_loopg [5, 6] N (fun gk lv y wr => ∃ k : Nat, gk = N - k ∧ k ≤ N ∧ y = .int .i64 k ∧ StepSt w (withoutL ten (L.take k)) lv wr)
  case atStart => exact ⟨0, rfl, by omega, rfl, StepSt.nil (Chg.refl _ _)⟩
  case round =>
    obtain ⟨k, hgk, hk, rfl, hst⟩ := hrel
    have HGK := hide hgk
    have HST := hide hst
    have HSR := hide (HS.out.chg hst.chg)
    have hflt : (withoutL ten (L.take k)).length ≤ k := by
      have := withoutL_len (a := ten) (L.take k)
      rw [List.length_take] at this
      omega
    obtain ⟨oa, oc, hov⟩ := ownsRow_form hst.own
    subst hov
    obtain ⟨no, hno⟩ : ∃ no, no = (withoutL ten (L.take k)).length := ⟨_, rfl⟩
    rw [← hno] at hflt HST ⊢
    have HNO := hide hno
    clear hst hno hgk
    by_cases hlt : k < N
    · obtain ⟨b, off, hsa, hstep⟩ := HSR.out k (by rw [← HN.out]; exact hlt)
      subst hsa
      have HW := hide (withoutL_snoc (a := ten) (L := L) (k := k) (by rw [← HN.out]; exact hlt))
      obtain ⟨s, hs⟩ : ∃ s, s = stL L k := ⟨_, rfl⟩
      rw [← hs] at hstep HW
      clear hs
      obtain ⟨kd, A, B, C, ⟨ja, jd, jl, ju, jv⟩⟩ := s
      obtain ⟨_, q0, q1, q2, q3, q4, q5, q6, q7, q8⟩ := hstep
      simp only at q0 q1 q2 q3 q4 q5 q6 q7 q8
      have k0 : (0 : Int) ≤ (k : Int) := by omega
      have k1 : (k : Int) < (N : Int) := by omega
      obtain ⟨OB, hOB⟩ : ∃ OB, OB = (((kd == 1) || (kd == 2)) && (A == ten)) := ⟨_, rfl⟩
      have HOB := hide hOB
      clear hOB
      go_upto_region 5 with fail
      go_cut [35] from 7 to 42 (fun s wx => s = .bool OB ∧ wx = wr)
      case first =>
        cases h1 : kd == 1
        · cases h2 : kd == 2
          · have e1 : OB = false := by rw [HOB.out, h1, h2]; rfl
            go_wp2_with fail
            go_meet
            case rel => exact ⟨by rw [e1], rfl⟩
          · cases h3 : A == ten
            · have e1 : OB = false := by rw [HOB.out, h1, h2, h3]; rfl
              go_wp2_with fail
              go_meet
              case rel => exact ⟨by rw [e1], rfl⟩
            · have e1 : OB = true := by rw [HOB.out, h1, h2, h3]; rfl
              go_wp2_with fail
              go_meet
              case rel => exact ⟨by rw [e1], rfl⟩
        · cases h3 : A == ten
          · have e1 : OB = false := by rw [HOB.out, h1, h3]; rfl
            go_wp2_with fail
            go_meet
            case rel => exact ⟨by rw [e1], rfl⟩
          · have e1 : OB = true := by rw [HOB.out, h1, h3]; rfl
            go_wp2_with fail
            go_meet
            case rel => exact ⟨by rw [e1], rfl⟩
      case rest =>
        obtain ⟨rfl, hwc⟩ := hcut
        have hwc' := hwc.symm
        subst hwc'
        cases hB : OB
        · have HE := hide (show withoutL ten (L.take (k + 1)) = withoutL ten (L.take k) ++ [⟨kd, A, B, C, ⟨ja, jd, jl, ju, jv⟩⟩] by
            rw [HW.out, if_neg (by unfold outB; rw [← HOB.out, hB]; decide)])
          have HOUT : Hid (wr.ownsRow 0 56 9 (.slice oa no oc) no ((withoutL ten (L.take k)).flatMap stepCells)) := by rw [HNO.out]; exact HNO.out ▸ HST.out.own
          obtain ⟨i0', hi, hz0', hz1, hz2⟩ := info_parts infoStep
          clear hB
          go_wp2_with (first | (at_builtin; refine wpList_append_lies _ rfl (.tmp 36) (.tmp 41) 39 rfl 0 56 i0' (.agg #[.int .i64 0, .int .i64 0, .int .i64 0, .int .i64 0, .int .i64 0, .int .i64 0, .int .i64 0, .int .i64 0, .int .i64 0]) 9 72 Try.underlying39 hi hz0' hz1 hz2 rfl (by decide) (.slice oa no oc) no ((withoutL ten (L.take k)).flatMap stepCells) rfl (HOUT.out.alloc _) ⟨wr.heap.size, 0, none⟩ 1 1 (stepCells ⟨kd, A, B, C, ⟨ja, jd, jl, ju, jv⟩⟩) rfl rfl (World.news_of_block (heap_alloc_new wr _)) (by simp [stepCells, Value.oneCell']) (by decide) (by unfold maxLen; omega) (by omega) (Nat.zero_le _) _ rfl ?_; intro g capn w7 hown hgrow hat2 hlt; have HST8 := step_arm HST.out HNO.out ((Chg.refl _ _).alloc _) hown hgrow hat2 (by simp); clear hown hgrow hat2 hlt))
          all_goals
            clear q0 q1 q2 q3 q4 q5 q6 q7 q8
            go_wp2
            go_roundg (N - (k + 1))
            case measure => rw [HGK.out]; omega
            case rel => exact ⟨k + 1, rfl, by omega, by go_num, by rw [HE.out]; exact HST8.out⟩
        · have HE := hide (show withoutL ten (L.take (k + 1)) = withoutL ten (L.take k) by
            rw [HW.out, if_pos (by unfold outB; rw [← HOB.out, hB]), List.append_nil])
          go_wp2
          go_roundg (N - (k + 1))
          case measure => rw [HGK.out]; omega
          case rel => exact ⟨k + 1, rfl, by omega, by go_num, by rw [HE.out]; exact HST.out⟩
    · have hkN : k = N := by omega
      have HE := hide (show withoutL ten L = withoutL ten (L.take k) by rw [hkN, HN.out, List.take_length])
      clear hkN
      go_wp2
      go_ret
      exact ⟨_, rfl, by rw [HE.out]; exact HST.out⟩
end Go.Proofs.Ytminceigjejipaa

/-
  WHAT 'gain' KEEPS, round by round: nothing of the program but a step's data.
-/
namespace Go.Proofs.Ytminceigjejipaa
open Go.RowKit

/-- behind k steps, with the Submit (b) or without it -/
structure GainS (c : CfgG) (a : Int) (j : JobG) (st : Nat → StepG) (p : Nat) (b : Bool) (k : Nat) (m : MkG) (su dn : Bool) : Prop where
  good : GoodM m
  mc : m.c = c
  su : su = suspAt m a
  low : b = false → m.log = logU st k ∧ dn = false
  high : b = true → p ≤ k ∧ m.log = logU st p ++ callSubmit a 1 j :: restU st p k ∧ (dn = true ↔ submitE (replay c (logU st p)) a 1 j = 0)

theorem restU_snoc (st : Nat → StepG) {p k : Nat} (h : p ≤ k) : restU st p (k + 1) = restU st p k ++ (if 1 ≤ (st k).kind ∧ (st k).kind ≤ 7 then [callOfS (st k)] else []) := by
  unfold restU
  rw [show k + 1 - p = (k - p) + 1 by omega]
  simp only [logU]
  rw [show p + (k - p) = k by omega]
theorem restU_self (st : Nat → StepG) (p : Nat) : restU st p p = [] := by
  unfold restU
  rw [Nat.sub_self]
  rfl
theorem restU_len (st : Nat → StepG) {p k : Nat} (h : p ≤ k) : (logU st p).length + (restU st p k).length = (logU st k).length := by
  rw [logU_rest st h, List.length_append]

section
variable {c : CfgG} {a : Int} {j : JobG} {st : Nat → StepG} {p : Nat} {b : Bool} {k : Nat} {m m' : MkG} {su dn : Bool}
theorem GainS.start (hc : cfgOk c = true) (_ha0 : 0 ≤ a) : GainS c a j st p false 0 (openM c) false false := by
  refine ⟨GoodM.open hc, rfl, ?_, fun _ => ⟨rfl, rfl⟩, fun h => by cases h⟩
  show false = (List.replicate c.ten.toNat false).getD a.toNat false
  rw [List.getD, List.getElem?_replicate]
  split <;> rfl
theorem GainS.step (h : GainS c a j st p b k m su dn) (ha0 : 0 ≤ a) (ha1 : a < c.ten) (hl : (logU st (k + 1)).length + 1 < 300) {z : Int} {names : List (Int × Int)} {bills : List InvG} (hr : DoesRes m (st k) z names bills m') :
    GainS c a j st p b (k + 1) m' (if (st k).kind = 3 ∧ (st k).a = a ∧ z = 0 then evenB (st k).b else su) dn := by
  obtain ⟨l1, l2⟩ := hr.logd
  have hmono := logU_le st (show k ≤ k + 1 by omega)
  refine ⟨hr.good h.good, l2.trans h.mc, ?_, fun hb => ?_, fun hb => ?_⟩
  · rw [hr.suspended h.good.ok ha0 (by rw [h.mc]; exact ha1), h.su]
  · obtain ⟨g1, g2⟩ := h.low hb
    refine ⟨?_, g2⟩
    rw [l1, g1]
    simp only [logU, logStep]
    by_cases hk : 1 ≤ (st k).kind ∧ (st k).kind ≤ 7
    · rw [if_pos hk, if_pos ⟨by omega, hk⟩]
    · rw [if_neg hk, if_neg (fun hx => hk hx.2), List.append_nil]
  · obtain ⟨g0, g1, g2⟩ := h.high hb
    refine ⟨by omega, ?_, g2⟩
    have hlen := restU_len st g0
    rw [l1, g1, restU_snoc st g0]
    unfold logStep
    by_cases hk : 1 ≤ (st k).kind ∧ (st k).kind ≤ 7
    · rw [if_pos hk, if_pos ⟨by simp; omega, hk⟩]
      simp
    · rw [if_neg hk, if_neg (fun hx => hk hx.2), List.append_nil]
/-- may the Submit be done? -/
def mayB (c : CfgG) (su : Bool) (t : Int) (j : JobG) : Bool := !su && decide (j.len ≤ c.ticks) && decide (j.units ≤ 1000) && decide (j.len ≤ j.dl) && decide (atOf t j ≤ j.dl - j.len)
theorem GainS.bidless (h : GainS c a j st p false k m su dn) (hno : NoStep a st k) : ∀ x ∈ m.bids, x.ten ≠ a := no_bids h.good (by rw [(h.low rfl).1]; exact hno.call)
theorem GainS.may (h : GainS c a j st p false k m su dn) (hno : NoStep a st k) (ha0 : 0 ≤ a) (ha1 : a < c.ten) (j1 : 0 ≤ j.arr) (j2 : 1 ≤ j.len) (j3 : 1 ≤ j.units) (j4 : 1 ≤ j.val) (j5 : j.val ≤ 1048576) (j6 : j.dl ≤ c.ticks) : decide (submitE m a 1 j = 0) = mayB c su m.time j := by
  have hs := submit_may h.good.ok ha0 (by rw [h.mc]; exact ha1) (h.bidless hno) j1 j2 j3 j4 j5 (by rw [h.mc]; exact j6)
  rw [Bool.eq_iff_iff, decide_eq_true_eq, hs, ← h.su, h.mc]
  unfold mayB
  simp only [Bool.and_eq_true, decide_eq_true_eq, Bool.not_eq_true', and_assoc]
theorem GainS.submit (h : GainS c a j st p false p m su dn) (hl : (logU st p).length < 300) {z : Int} (hr : SubmitRes m a 1 j z m') : z = submitE m a 1 j ∧ GainS c a j st p true p m' su (decide (submitE m a 1 j = 0)) := by
  obtain ⟨g1, _⟩ := h.low rfl
  have hlm : m.log.length < 300 := by rw [g1]; exact hl
  have hg := h.good.submit hr
  rcases hr with ⟨hx, _⟩ | ⟨_, hz, hm⟩
  · omega
  refine ⟨hz, hg, ?_, ?_, fun hb => (by cases hb), fun _ => ⟨Nat.le_refl _, ?_, ?_⟩⟩
  · rw [hm]
    unfold submitM
    simp only
    split <;> exact h.mc
  · rw [hm, h.su]
    unfold submitM suspAt
    simp only
    split <;> rfl
  · rw [hm, restU_self]
    have : (submitM m a 1 j).log = m.log ++ [callSubmit a 1 j] := by
      unfold submitM
      simp only
      split <;> rfl
    rw [this, g1]
  · rw [decide_eq_true_eq]
    have hh : HistM m (replay c (logU st p)) := by
      have := h.good.cash.hist
      unfold Hist at this
      rw [h.mc, g1] at this
      exact this
    rw [submitE_hist hh]
theorem GainS.gained {N : Nat} (h : GainS c a j st p true N m su dn) (hno : NoStep a st N) (ha0 : 0 ≤ a) (ha1 : a < c.ten) : Gained c a j (logU st p) (restU st p N) m := by
  obtain ⟨g0, g1, _⟩ := h.high rfl
  exact ⟨h.good, h.mc, g1, NoStep.call (fun n hn => hno n (by omega)), hno.rest, ha0, ha1⟩
/-- what the looks tell behind all steps -/
theorem GainS.looks {N : Nat} (h : GainS c a j st p true N m su dn) (hno : NoStep a st N) (ha0 : 0 ≤ a) (ha1 : a < c.ten) : (dn = false → lookE m a 1 = 5) ∧ (dn = true → lookE m a 1 = 0 ∧ (lookS m a 1 = 2 → priceE m a 1 = 0 ∧ 1 ≤ priceV m a 1 ∧ priceV m a 1 ≤ 1048576)) := by
  have hG := h.gained hno ha0 ha1
  obtain ⟨_, _, g2⟩ := h.high rfl
  refine ⟨fun hd => hG.none (fun hx => ?_), fun hd => ?_⟩
  · have := g2.2 hx
    rw [hd] at this
    cases this
  · have hz := g2.1 hd
    obtain ⟨w1, w2, w3⟩ := hG.won hz
    refine ⟨w1, fun hs => ?_⟩
    have h5 := w2.1 hs
    have h6 := w3 hs
    have hjv := (submitE_done hz).2.2.2.1
    unfold MkG.jobB at hjv
    rw [Bool.and_eq_true] at hjv
    have hjb := jobIn_true hjv.1
    rw [h6.2]
    exact ⟨h6.1, by omega, by omega⟩
end
end Go.Proofs.Ytminceigjejipaa
