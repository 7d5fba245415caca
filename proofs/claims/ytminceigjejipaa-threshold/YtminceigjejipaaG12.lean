import Derived.Test.YtminceigjejipaaYt2
import Derived.Test.YtminceigjejipaaYt3
import Derived.Test.YtminceigjejipaaYt5
import Derived.Test.YtminceigjejipaaG6
namespace Go.Proofs.Ytminceigjejipaa
open Go.RowKit

set_option maxRecDepth 100000 in
set_option maxHeartbeats 8000000 in
theorem expire_any (V : YV) (m : MkG) (w : World) (hm : YmAt w V m) (hok : MkOk m) (ht : m.time ≤ 64) :
    Calls Try.prog 79 #[.pointer (some ⟨V.q, 0, none⟩)] w fun e w' => e = .returned (.tuple #[]) ∧ YmAt w' V { m with bids := m.bids.map fun b => b.expire m.time } ∧ Chg V.foot w w' := by
  obtain ⟨n, hn⟩ : ∃ n, n = m.bids.length := ⟨_, rfl⟩
  obtain ⟨ba, bc, hbv, _⟩ := hm.bid_form
  have c6 : w.cell? ⟨V.q, 6, none⟩ = some (.slice ba n bc) := by rw [hn, ← hbv]; exact hm.cell 6
  have hnb := hok.bl
  rw [← hn] at hnb
  have ht0 := hok.t0
  have HM := hide hm
  have HOK := hide hok
  have HN := hide hn
  clear hm hok hbv hn
  go_enter Try.func79, Try.ntmps79
  go_wp2
  go_loopw [8] (fun y wr => ∃ k : Nat, k ≤ n ∧ y = .int .i64 k ∧ YmAt wr V { m with bids := expTo m.bids k m.time } ∧ Chg V.foot w wr) (fun y _ => n - (intOf y).toNat)
  case atStart => exact ⟨0, by omega, rfl, by rw [expTo_zero]; exact HM.out, Chg.refl _ _⟩
  case round =>
    obtain ⟨k, hk, rfl, hmr, hch⟩ := hrel
    clear c6
    have HMR := hide hmr
    have HCH := hide hch
    clear hch
    by_cases hlt : k < n
    · obtain ⟨b, hb⟩ : ∃ b, m.bids[k]? = some b := ⟨_, List.getElem?_eq_getElem (by rw [← HN.out]; exact hlt)⟩
      have hb2 : (expTo m.bids k m.time)[k]? = some b := by rw [expTo_get]; exact hb
      obtain ⟨gb, cap, hv, hown, hgbl, hbcl, hbfr⟩ := hmr.bidCell hb2
      have hlk : (expTo m.bids k m.time).length = n := by rw [expTo_len]; exact HN.out.symm
      have c6 : wr.cell? ⟨V.q, 6, none⟩ = some (.slice (some ⟨gb, 0, none⟩) n cap) := by rw [← hlk, ← show V.bv = .slice (some ⟨gb, 0, none⟩) (expTo m.bids k m.time).length cap from hv]; exact hmr.cell 6
      have hbok := HOK.out.bid b (List.mem_of_getElem? hb)
      obtain ⟨_, _, n3, _, _⟩ := hbok.nums HOK.out
      have b2 : wr.cell? ⟨gb, k * 9 + 2, none⟩ = some (.int .i64 b.job.arr) := hbcl 2 _ rfl
      have b3 : wr.cell? ⟨gb, k * 9 + 3, none⟩ = some (.int .i64 b.job.dl) := hbcl 3 _ rfl
      have b4 : wr.cell? ⟨gb, k * 9 + 4, none⟩ = some (.int .i64 b.job.len) := hbcl 4 _ rfl
      have b5 : wr.cell? ⟨gb, k * 9 + 5, none⟩ = some (.int .i64 b.job.units) := hbcl 5 _ rfl
      have b6 : wr.cell? ⟨gb, k * 9 + 6, none⟩ = some (.int .i64 b.job.val) := hbcl 6 _ rfl
      have b7 : wr.cell? ⟨gb, k * 9 + 7, none⟩ = some (.int .i64 b.state) := hbcl 7 _ rfl
      have k0 : (0 : Int) ≤ (k : Int) := by omega
      have k1 : (k : Int) < (n : Int) := by omega
      have HB := hide hb
      have HB2 := hide hb2
      have HOW := hide hown
      have HGL := hide hgbl
      have HFR := hide hbfr
      have HIT := hide (inTime_any V { m with bids := expTo m.bids k m.time } b.job wr hmr ht0 ht n3)
      clear hmr hv hown hbcl hbfr hbok hb hb2 hlk hgbl
      cases h1 : b.state == 1
      · have E := hide (show expTo m.bids (k + 1) m.time = expTo m.bids k m.time from expTo_same HB.out (by unfold BidG.expire; rw [h1]; rfl))
        go_wp2
        go_roundw
        case rel => exact ⟨k + 1, by omega, by go_num, by rw [E.out]; exact HMR.out, HCH.out⟩
        case measure => simp [intOf]; omega
      · have h1' : b.state = 1 := by simpa using h1
        by_cases h2 : m.time + b.job.len ≤ b.job.dl
        · have E := hide (show expTo m.bids (k + 1) m.time = expTo m.bids k m.time from expTo_same HB.out (by unfold BidG.expire; rw [h1]; simp; omega))
          have d2 : decide (m.time + b.job.len ≤ b.job.dl) = true := by simpa using h2
          simp only [d2] at HIT
          go_wp2_with (go_at_call 80; refine HIT.out.mono ?_; rintro e w2 ⟨rfl, hq⟩; have HQ := hide hq; clear hq)
          go_roundw
          case rel => exact ⟨k + 1, by omega, by go_num, by rw [E.out]; exact HMR.out.chg0 HQ.out, HCH.out.trans HQ.out (fun _ _ h => h.elim)⟩
          case measure => simp [intOf]; omega
        · have d2 : decide (m.time + b.job.len ≤ b.job.dl) = false := by simpa using h2
          simp only [d2] at HIT
          have E := hide (show expTo m.bids (k + 1) m.time = (expTo m.bids k m.time).set k { b with state := 4 } by rw [expTo_succ HB.out, show b.expire m.time = { b with state := 4 } by unfold BidG.expire; rw [h1, if_pos (by simp; omega)]])
          have HST := hide (fun (w2 : World) (hq : Chg (fun _ => False) wr w2) => (HMR.out.chg0 hq).setState' (s := 4) HB2.out (by omega) (by omega) HOW.out)
          have HLT := hide HMR.out.lt
          go_wp2_with (go_at_call 80; refine HIT.out.mono ?_; rintro e w2 ⟨rfl, hq⟩; have HQ := hide hq; have x6 := hq.cell (p := ⟨V.q, 6, none⟩) HLT.out (fun h => h); rw [c6] at x6; have x7 := hq.cell (p := ⟨gb, k * 9 + 7, none⟩) HGL.out (fun h => h); rw [b7] at x7; have xf := hq.frozen (p := ⟨gb, k * 9 + 7, none⟩) HGL.out (fun h => h); rw [HFR.out] at xf; clear hq)
          go_roundw
          case rel => exact ⟨k + 1, by omega, by go_num, by rw [E.out]; exact HST.out _ HQ.out, (HCH.out.trans HQ.out (fun _ _ h => h.elim)).setCell (.inl (.inr (.inr (.inr (.inr (.inl HOW.out)))))) _⟩
          case measure => simp [intOf]; omega
    · have HFIN := hide (show YmAt wr V { m with bids := m.bids.map fun b => b.expire m.time } by
        rw [← expTo_all, ← HN.out, show n = k by omega]; exact HMR.out)
      clear hmr
      go_wp2
      go_end0
      exact ⟨rfl, HFIN.out, HCH.out⟩
end Go.Proofs.Ytminceigjejipaa

namespace Go.Proofs.Ytminceigjejipaa
open Go.RowKit

/-- in the midst of the program's tick: the market, the order, the list that will come out -/
structure YTk (w1 : World) (V : YV) (m : MkG) (l : List Nat) (ordv : Value) (out : List (Int × Int)) (ov : Value) (wr : World) : Prop where
  mkt : YmAt wr V m
  ord : wr.ownsRow 0 3 1 ordv l.length (ordCells l)
  out : wr.ownsRow 0 90 2 ov out.length (out.flatMap nameCells)
  chg : Chg V.foot w1 wr
  fl : ∀ k, V.foot k → k < w1.heap.size
  on : ∀ k, ordv.ownBlock = some k → w1.heap.size ≤ k
  ov : ∀ k, ov.ownBlock = some k → w1.heap.size ≤ k

section
variable {w1 wr w' : World} {V : YV} {m m' : MkG} {l : List Nat} {ordv ov : Value} {out : List (Int × Int)}
theorem YTk.step (h : YTk w1 V m l ordv out ov wr) (hm : YmAt w' V m') (hc : Chg V.foot wr w') : YTk w1 V m' l ordv out ov w' :=
  ⟨hm, ownsRow_keep h.ord (fun k hk => hc.block k (h.ord.lt k hk).2 (fun e => by have := h.fl k e; have := h.on k hk; omega)), ownsRow_keep h.out (fun k hk => hc.block k (h.out.lt k hk).2 (fun e => by have := h.fl k e; have := h.ov k hk; omega)), h.chg.trans hc (fun _ _ e => e), h.fl, h.on, h.ov⟩
theorem YTk.chg0 (h : YTk w1 V m l ordv out ov wr) (hc : Chg (fun _ => False) wr w') : YTk w1 V m l ordv out ov w' := h.step (h.mkt.chg0 hc) (hc.mono (fun _ _ e => e.elim))
theorem YTk.apart (h : YTk w1 V m l ordv out ov wr) (k : Nat) (hk : ov.ownBlock = some k) : ordv.ownBlock ≠ some k := fun e => ownsRow_apart h.out h.ord (by decide) hk e
theorem YTk.more {wa w3 : World} {x : Int × Int} {g cap : Nat} (h : YTk w1 V m l ordv out ov wr) (hc : Chg (fun _ => False) wr wa)
    (hown : w3.ownsRow 0 90 2 (.slice (some ⟨g, 0, none⟩) (out.length + 1) cap) (out.length + 1) (out.flatMap nameCells ++ nameCells x)) (hgrow : wa.grownBy w3 ov.ownBlock) (hat : ov.ownBlock = some g ∨ wr.heap.size ≤ g) :
    YTk w1 V m l ordv (out ++ [x]) (.slice (some ⟨g, 0, none⟩) (out.length + 1) cap) w3 := by
  have hc3 : Chg (fun k => ov.ownBlock = some k) wr w3 := (hc.mono (fun _ _ h => h.elim)).grown hgrow (fun k hk => .inl hk)
  have hs := h.chg.size
  refine ⟨h.mkt.chg hc3 (fun k hk e => by have := h.ov k e; have := h.fl k hk; omega), ownsRow_keep h.ord (fun k hk => hc3.block k (h.ord.lt k hk).2 (fun e => h.apart k e hk)), ?_, h.chg.trans hc3 (fun k hk e => by have := h.ov k e; omega), h.fl, h.on, ?_⟩
  · rw [List.length_append, List.flatMap_append]
    simp only [List.flatMap_cons, List.flatMap_nil, List.append_nil, List.length_cons, List.length_nil, Nat.zero_add]
    exact hown
  · intro k hk
    simp [Value.ownBlock] at hk
    subst hk
    rcases hat with e | e
    · exact h.ov g e
    · omega
theorem YTk.ordAt (h : YTk w1 V m l ordv out ov wr) : ∃ ao cap, ordv = .slice ao l.length cap ∧ ∀ (i x : Nat), l[i]? = some x → ∃ g, ao = some ⟨g, 0, none⟩ ∧ wr.cell? ⟨g, i, none⟩ = some (.int .i64 (x : Int)) := by
  rcases h.ord.2 with ⟨hv, h0⟩ | ⟨g, cap, cur, hv, hg, hh, r⟩
  · refine ⟨none, 0, by rw [hv, h0], fun i x hx => ?_⟩
    have := (List.getElem?_eq_some_iff.1 hx).1
    omega
  · refine ⟨some ⟨g, 0, none⟩, cap, hv, fun i x hx => ⟨g, rfl, ?_⟩⟩
    have := h.ord.cells (g := g) (by rw [hv]; rfl) i (.int .i64 (x : Int)) (by simp [ordCells, hx])
    rwa [Addr.add_lit, Nat.zero_add] at this
end
theorem ytick_arm {w1 wr wa w3 : World} {V : YV} {m : MkG} {l : List Nat} {ordv : Value} {out : List (Int × Int)} {ao : Option Addr} {nn cap cap' g H : Nat} {x : Int × Int} (h : YTk w1 V m l ordv out (.slice ao nn cap) wr) (hn : nn = out.length) (hc : Chg (fun _ => False) wr wa)
    (hown : w3.ownsRow 0 90 2 (.slice (some ⟨g, 0, none⟩) (nn + 1) cap') (nn + 1) (out.flatMap nameCells ++ nameCells x)) (hgrow : wa.grownBy w3 (Value.ownBlock (.slice ao nn cap))) (hat : Value.ownBlock (.slice ao nn cap) = some g ∨ g = H) (hH : wr.heap.size ≤ H) :
    Hid (YTk w1 V m l ordv (out ++ [x]) (.slice (some ⟨g, 0, none⟩) (nn + 1) cap') w3) := by
  subst hn
  exact h.more hc hown hgrow (by rcases hat with h | h; exact .inl h; exact .inr (by omega))

theorem tickOne_none (t : Int) (s : TkS) (i : Nat) (b : BidG) (hb : s.1.bids[i]? = some b) (ht : s.1.time = t) : tickOne t none s i = if startedB s.1 b then (startM s.1 i t, s.2 ++ [(b.ten, b.ref)]) else s := by
  unfold tickOne startedB
  rw [hb, ht]

/-- what the market's tick tells and leaves -/
def YTickRes (m : MkG) (z : Int) (names : List (Int × Int)) (m' : MkG) : Prop :=
  (m.c.ticks ≤ m.time ∧ z = 11 ∧ names = [] ∧ m' = m) ∨
  (m.time < m.c.ticks ∧ z = 0 ∧ ∃ l, IsOrder m m.time l ∧ m' = tickEnd m.time (tickFold m.time none m l).1 ∧ names = (tickFold m.time none m l).2)

set_option maxRecDepth 100000 in
set_option maxHeartbeats 16000000 in
theorem ytick_any (V : YV) (m : MkG) (w : World) (hm : YmAt w V m) (hok : MkOk m) (har : ArrOk m) (hgh : m.ghost = -1) :
    Calls Try.prog 69 #[.pointer (some ⟨V.q, 0, none⟩)] w fun e w' => ∃ lv z names m', e = .returned (.tuple #[lv, .int .i64 z]) ∧ YTickRes m z names m' ∧ YmAt w' V m' ∧ Chg V.foot w w' ∧
      w'.ownsRow 0 90 2 lv names.length (names.flatMap nameCells) ∧ (∀ k, lv.ownBlock = some k → w.heap.size ≤ k) ∧ (z ≠ 0 → lv = .slice none 0 0) := by
  have c0 : w.cell? ⟨V.q, 0, none⟩ = some (.int .i64 m.c.ticks) := hm.cell 0
  have c5 : w.cell? ⟨V.q, 5, none⟩ = some (.int .i64 m.time) := hm.cell 5
  have HM := hide hm
  have HOK := hide hok
  have HAR := hide har
  have HGH := hide hgh
  have hcf := cfgOk_true hok.ck
  have ht0 := hok.t0
  have hnb := hok.bl
  clear hm hok har hgh
  by_cases hov : m.c.ticks ≤ m.time
  · have d : decide (m.c.ticks ≤ m.time) = true := by simpa using hov
    have HO := hide hov
    clear hov hcf ht0 hnb
    go_enter Try.func69, Try.ntmps69
    go_wp2
    go_quiet (fail)
    go_wp2
    go_ret2
    exact ⟨_, 11, [], m, rfl, .inl ⟨HO.out, rfl, rfl, rfl⟩, HM.out.chg0 ((Chg.refl _ _).drewN _), (Chg.refl _ _).drewN _, World.ownsRow_nil _ _ _ _, fun k hk => by simp [Value.ownBlock] at hk, fun _ => rfl⟩
  · have d : decide (m.c.ticks ≤ m.time) = false := by simpa using hov
    have htk : m.time ≤ 63 := by omega
    have HTK := hide (show m.time < m.c.ticks by omega)
    clear hov hcf
    go_enter Try.func69, Try.ntmps69
    go_wp2
    go_quiet (fail)
    go_wp2_with fail
    refine (candidates_any V m _ (HM.out.chg0 ((Chg.refl _ _).drewN _)) HOK.out HAR.out HGH.out).mono ?_
    rintro e w1 ⟨l, v, rfl, hord, hll, hst⟩
    have HORD := hide hord
    have hl3 : l.length ≤ 300 := by omega
    have hc1 : Chg (fun _ => False) w w1 := ((Chg.refl _ w).drewN _).trans hst.chg (fun _ _ h => h)
    have HST0 := hide (show YTk w V m l v [] (.slice none 0 0) w1 from ⟨HM.out.chg0 hc1, hst.row, World.ownsRow_nil _ _ _ _, hc1.mono (fun _ _ h => h.elim), fun k hk => HM.out.foot_lt k hk, hst.new, fun k hk => by simp [Value.ownBlock] at hk⟩)
    obtain ⟨oa, oc, hov2, _⟩ := HST0.out.ordAt
    subst hov2
    obtain ⟨no, hno⟩ : ∃ no, no = l.length := ⟨_, rfl⟩
    rw [← hno] at HST0 hl3 ⊢
    have HNO := hide hno
    clear hord hll hst hc1 c0 c5 d hno
    go_wp2
    go_loopw [4, 22] (fun ov y wr => ∃ (k : Nat) (mr : MkG) (out : List (Int × Int)), k ≤ no ∧ y = .int .i64 k ∧ tickFold m.time none m (l.take k) = (mr, out) ∧ out.length ≤ k ∧ YTk w V mr l (.slice oa no oc) out ov wr) (fun _ y _ => no - (intOf y).toNat)
    case atStart => exact ⟨0, m, [], by omega, rfl, rfl, by simp, HST0.out⟩
    case round =>
      clear HST0
      obtain ⟨k, mr, out, hk, rfl, hfold, hol, hst⟩ := hrel
      have hokr : MkOk mr := by have := MkOk.fold none (t := m.time) (by omega) (by omega) (l.take k) (m, []) HOK.out; rw [show (l.take k).foldl (tickOne m.time none) (m, []) = (mr, out) from hfold] at this; exact this
      have halr : AlikeM m mr (l.take k) := by have := AlikeM.fold m.time none (l.take k) (m, []); rw [show (l.take k).foldl (tickOne m.time none) (m, []) = (mr, out) from hfold] at this; exact this
      have HST := hide hst
      have HOKR := hide hokr
      have HALR := hide halr
      have HFOLD := hide hfold
      clear hokr halr hfold
      by_cases hlt : k < no
      · obtain ⟨i, hi⟩ : ∃ i, l[k]? = some i := ⟨_, List.getElem?_eq_getElem (by rw [← HNO.out]; exact hlt)⟩
        obtain ⟨ao2, cap2, hov2, hel⟩ := hst.ordAt
        obtain ⟨g, hao, hcl⟩ := hel k i hi
        have hoa : oa = some ⟨g, 0, none⟩ := by simp at hov2; rw [hov2.1]; exact hao
        subst hoa
        obtain ⟨b, hb, hcand⟩ := (HORD.out.mem i).1 (List.mem_of_getElem? hi)
        have hsplit : l = l.take k ++ i :: l.drop (k + 1) := by
          have h1 : k < l.length := (List.getElem?_eq_some_iff.1 hi).1
          have h2 : l[k] = i := (List.getElem?_eq_some_iff.1 hi).2
          rw [← h2, ← List.drop_eq_getElem_cons h1, List.take_append_drop]
        have hni : i ∉ l.take k := fun hx => by
          have hp := HORD.out.sorted
          rw [hsplit, List.pairwise_append] at hp
          have := hp.2.2 i hx i (by simp)
          rw [aheadI_irrefl] at this
          cases this
        have hbr : mr.bids[i]? = some b := (HALR.out.bid i hni).trans hb
        have htm : mr.time = m.time := HALR.out.time
        have hop : b.openB mr mr.time = true := by
          have := HALR.out.cand m.time b
          rw [hcand] at this
          unfold candB at this
          simp only [Bool.and_eq_true] at this
          rw [htm]
          exact this.1
        have htake := take_snoc hi
        have hil : (i : Int) < (mr.bids.length : Int) := by have := (List.getElem?_eq_some_iff.1 hbr).1; omega
        have i0 : (0 : Int) ≤ (i : Int) := by omega
        have k0 : (0 : Int) ≤ (k : Int) := by omega
        have k1 : (k : Int) < (no : Int) := by omega
        have HSA := hide (start_any V mr i b wr hst.mkt HOKR.out hbr hop)
        have HE := hide (show tickFold m.time none m (l.take (k + 1)) = if startedB mr b then (startM mr i m.time, out ++ [(b.ten, b.ref)]) else (mr, out) by
          rw [htake, tickFold_snoc, HFOLD.out]
          exact tickOne_none m.time (mr, out) i b hbr htm)
        have HBR := hide hbr
        have HTM := hide htm
        clear hst hov2 hel hao hi hb hcand hsplit hni hbr htm hop htake HALR HFOLD
        cases hsb : startedB mr b
        · rw [hsb] at HSA HE
          have hsm : startedM mr i b = mr := by rw [startedM, hsb]; rfl
          rw [hsm] at HSA
          clear hsm hsb
          go_wp2_with (go_at_call 78; refine HSA.out.mono ?_; rintro e w2 ⟨rfl, hm2, hq2⟩; have HST2 := hide (HST.out.step hm2 hq2); clear hm2 hq2)
          go_roundw
          case rel => exact ⟨k + 1, mr, out, by omega, by go_num, HE.out, by omega, HST2.out⟩
          case measure => simp [intOf]; omega
        · rw [hsb] at HSA HE
          have hsm : startedM mr i b = startM mr i m.time := by rw [startedM, hsb, HTM.out]; rfl
          rw [hsm] at HSA
          clear hsm hsb
          go_wp2_with fail
          refine HSA.out.mono ?_
          rintro e w2 ⟨rfl, hm2, hq2⟩
          have HST2 := hide (HST.out.step hm2 hq2)
          have hlb : i < mr.bids.length := (List.getElem?_eq_some_iff.1 HBR.out).1
          have hb7 : (startM mr i m.time).bids[i]? = some { b with state := 2, start := m.time } := by rw [startM_eq HBR.out]; simp [hlb]
          obtain ⟨gb2, cap3, hv, hown', hgbl, hbcl, _⟩ := hm2.bidCell hb7
          have hlen7 : (startM mr i m.time).bids.length = mr.bids.length := by rw [startM_eq HBR.out]; simp
          obtain ⟨n, hn⟩ : ∃ n, n = mr.bids.length := ⟨_, rfl⟩
          rw [hlen7, ← hn] at hv
          rw [← hn] at hil
          have c6 : w2.cell? ⟨V.q, 6, none⟩ = some (.slice (some ⟨gb2, 0, none⟩) n cap3) := by rw [← hv]; exact hm2.cell 6
          have b0 : w2.cell? ⟨gb2, i * 9, none⟩ = some (.int .i64 b.ten) := hbcl 0 _ rfl
          have b1 : w2.cell? ⟨gb2, i * 9 + 1, none⟩ = some (.int .i64 b.ref) := hbcl 1 _ rfl
          obtain ⟨sa, sc, hov⟩ := ownsRow_form HST2.out.out
          subst hov
          obtain ⟨nn, hnn⟩ : ∃ nn, nn = out.length := ⟨_, rfl⟩
          have HOUT : Hid (w2.ownsRow 0 90 2 (.slice sa nn sc) nn (out.flatMap nameCells)) := by rw [hnn]; exact HST2.out.out
          rw [← hnn] at HST2 ⊢
          have HNN := hide hnn
          have hol3 : nn ≤ 300 := by rw [hnn]; omega
          obtain ⟨i0', hi, hz0', hz1, hz2⟩ := info_parts infoName
          clear hm2 hq2 hb7 hv hown' hbcl hlen7 hn hnn hgbl hlb HSA HST hcl
          go_wp2_with (first | (at_builtin; refine wpList_append_lies _ rfl (.tmp 29) (.tmp 38) 48 rfl 0 90 i0' (.agg #[.int .i64 0, .int .i64 0]) 2 16 Try.underlying48 hi hz0' hz1 hz2 rfl (by decide) (.slice sa nn sc) nn (out.flatMap nameCells) rfl (HOUT.out.alloc _) ⟨w2.heap.size, 0, none⟩ 1 1 (nameCells (b.ten, b.ref)) rfl rfl (World.news_of_block (heap_alloc_new w2 _)) (by simp [nameCells, Value.oneCell']) (by decide) (by unfold maxLen; omega) (by omega) (Nat.zero_le _) _ rfl ?_; intro g7 capn w7 hown hgrow hat2 hlt; have HST8 := ytick_arm HST2.out HNN.out ((Chg.refl _ _).alloc _) hown hgrow hat2 (by simp); clear hown hgrow hat2 hlt))
          go_roundw
          case rel => exact ⟨k + 1, _, _, by omega, by go_num, HE.out, by simp; omega, HST8.out⟩
          case measure => simp [intOf]; omega
      · have hkn : k = no := by omega
        have hft : tickFold m.time none m l = (mr, out) := by rw [← HFOLD.out, hkn, HNO.out, List.take_length]
        have htm : mr.time = m.time := HALR.out.time
        have c5 : wr.cell? ⟨V.q, 5, none⟩ = some (.int .i64 m.time) := by rw [← htm]; exact hst.mkt.cell 5
        have f5 : wr.frozen? ⟨V.q, 5, none⟩ = false := hst.mkt.free 5
        have hwt : IntKind.i64.wrap (m.time + 1) = m.time + 1 := by rw [IntKind.wrap_i64]; omega
        have HS2 := hide (HST.out.step (hst.mkt.setTime (t := m.time + 1)) ((Chg.refl V.foot wr).setCell (.inl (.inl rfl)) _))
        have hcm : mr.c = m.c := HALR.out.c
        have HOK2 := hide (show MkOk { mr with time := m.time + 1 } from ⟨HOKR.out.ck, HOKR.out.nu, HOKR.out.ns, HOKR.out.np, HOKR.out.nl, HOKR.out.nb, by simp only; omega, by have := HTK.out; simp only; rw [hcm]; omega, HOKR.out.un, HOKR.out.bid⟩)
        have HEX := hide (expire_any V { mr with time := m.time + 1 } _ HS2.out.mkt HOK2.out (by simp only; omega))
        have HFT := hide hft
        clear hst htm hcm hft HALR HFOLD
        go_wp2_with (go_at_call 79; refine HEX.out.mono ?_; rintro e w3 ⟨rfl, hm3, hq3⟩; have HST3 := hide (HS2.out.step hm3 hq3); clear hm3 hq3)
        go_ret2
        exact ⟨_, 0, out, tickEnd m.time mr, rfl, .inr ⟨HTK.out, rfl, l, HORD.out, by rw [HFT.out], by rw [HFT.out]⟩, HST3.out.mkt, HST3.out.chg, HST3.out.out, HST3.out.ov, fun h => absurd rfl h⟩
end Go.Proofs.Ytminceigjejipaa
