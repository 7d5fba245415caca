import Derived.Test.YtminceigjejipaaYt3
import Derived.Test.YtminceigjejipaaYt4
import Derived.Test.YtminceigjejipaaYt5
import Derived.Test.YtminceigjejipaaG6
import Derived.Test.YtminceigjejipaaG13
import Derived.Test.YtminceigjejipaaYp4
import Derived.Test.YtminceigjejipaaG17
import Derived.Test.YtminceigjejipaaYd6
import Derived.Test.YtminceigjejipaaYd7
namespace Go.Proofs.Ytminceigjejipaa
open Go.RowKit

/-- in the midst of the program's tick: the market, the order, the list that will come out -/
structure YTk (w1 : World) (V : YV) (m : MkG) (l : List Nat) (ordv : Value) (out : List (Int × Int)) (ov : Value) (wr : World) : Prop where
  mkt : YmAt wr V m
  ord : wr.ownsRow 0 3 1 ordv l.length (ordCells l)
  out : wr.ownsRow 0 90 2 ov out.length (out.flatMap nameCells)
  chg : Chg V.foot w1 wr
  fl : ∀ k, V.foot k → k < w1.heap.size
  on : ∀ k, ordv.ownBlock = some k → w1.heap.size ≤ k
  ov : ∀ k, ov.ownBlock = some k → w1.heap.size ≤ k

section
variable {w1 wr w' : World} {V : YV} {m m' : MkG} {l : List Nat} {ordv ov : Value} {out : List (Int × Int)}
theorem YTk.step (h : YTk w1 V m l ordv out ov wr) (hm : YmAt w' V m') (hc : Chg V.foot wr w') : YTk w1 V m' l ordv out ov w' :=
  ⟨hm, ownsRow_keep h.ord (fun k hk => hc.block k (h.ord.lt k hk).2 (fun e => by have := h.fl k e; have := h.on k hk; omega)), ownsRow_keep h.out (fun k hk => hc.block k (h.out.lt k hk).2 (fun e => by have := h.fl k e; have := h.ov k hk; omega)), h.chg.trans hc (fun _ _ e => e), h.fl, h.on, h.ov⟩
theorem YTk.chg0 (h : YTk w1 V m l ordv out ov wr) (hc : Chg (fun _ => False) wr w') : YTk w1 V m l ordv out ov w' := h.step (h.mkt.chg0 hc) (hc.mono (fun _ _ e => e.elim))
theorem YTk.apart (h : YTk w1 V m l ordv out ov wr) (k : Nat) (hk : ov.ownBlock = some k) : ordv.ownBlock ≠ some k := fun e => ownsRow_apart h.out h.ord (by decide) hk e
theorem YTk.more {wa w3 : World} {x : Int × Int} {g cap : Nat} (h : YTk w1 V m l ordv out ov wr) (hc : Chg (fun _ => False) wr wa)
    (hown : w3.ownsRow 0 90 2 (.slice (some ⟨g, 0, none⟩) (out.length + 1) cap) (out.length + 1) (out.flatMap nameCells ++ nameCells x)) (hgrow : wa.grownBy w3 ov.ownBlock) (hat : ov.ownBlock = some g ∨ wr.heap.size ≤ g) :
    YTk w1 V m l ordv (out ++ [x]) (.slice (some ⟨g, 0, none⟩) (out.length + 1) cap) w3 := by
  have hc3 : Chg (fun k => ov.ownBlock = some k) wr w3 := (hc.mono (fun _ _ h => h.elim)).grown hgrow (fun k hk => .inl hk)
  have hs := h.chg.size
  refine ⟨h.mkt.chg hc3 (fun k hk e => by have := h.ov k e; have := h.fl k hk; omega), ownsRow_keep h.ord (fun k hk => hc3.block k (h.ord.lt k hk).2 (fun e => h.apart k e hk)), ?_, h.chg.trans hc3 (fun k hk e => by have := h.ov k e; omega), h.fl, h.on, ?_⟩
  · rw [List.length_append, List.flatMap_append]
    simp only [List.flatMap_cons, List.flatMap_nil, List.append_nil, List.length_cons, List.length_nil, Nat.zero_add]
    exact hown
  · intro k hk
    simp [Value.ownBlock] at hk
    subst hk
    rcases hat with e | e
    · exact h.ov g e
    · omega
theorem YTk.ordAt (h : YTk w1 V m l ordv out ov wr) : ∃ ao cap, ordv = .slice ao l.length cap ∧ ∀ (i x : Nat), l[i]? = some x → ∃ g, ao = some ⟨g, 0, none⟩ ∧ wr.cell? ⟨g, i, none⟩ = some (.int .i64 (x : Int)) := by
  rcases h.ord.2 with ⟨hv, h0⟩ | ⟨g, cap, cur, hv, hg, hh, r⟩
  · refine ⟨none, 0, by rw [hv, h0], fun i x hx => ?_⟩
    have := (List.getElem?_eq_some_iff.1 hx).1
    omega
  · refine ⟨some ⟨g, 0, none⟩, cap, hv, fun i x hx => ⟨g, rfl, ?_⟩⟩
    have := h.ord.cells (g := g) (by rw [hv]; rfl) i (.int .i64 (x : Int)) (by simp [ordCells, hx])
    rwa [Addr.add_lit, Nat.zero_add] at this
end
theorem ytick_arm {w1 wr wa w3 : World} {V : YV} {m : MkG} {l : List Nat} {ordv : Value} {out : List (Int × Int)} {ao : Option Addr} {nn cap cap' g H : Nat} {x : Int × Int} (h : YTk w1 V m l ordv out (.slice ao nn cap) wr) (hn : nn = out.length) (hc : Chg (fun _ => False) wr wa)
    (hown : w3.ownsRow 0 90 2 (.slice (some ⟨g, 0, none⟩) (nn + 1) cap') (nn + 1) (out.flatMap nameCells ++ nameCells x)) (hgrow : wa.grownBy w3 (Value.ownBlock (.slice ao nn cap))) (hat : Value.ownBlock (.slice ao nn cap) = some g ∨ g = H) (hH : wr.heap.size ≤ H) :
    Hid (YTk w1 V m l ordv (out ++ [x]) (.slice (some ⟨g, 0, none⟩) (nn + 1) cap') w3) := by
  subst hn
  exact h.more hc hown hgrow (by rcases hat with h | h; exact .inl h; exact .inr (by omega))

theorem tickOne_none (t : Int) (s : TkS) (i : Nat) (b : BidG) (hb : s.1.bids[i]? = some b) (ht : s.1.time = t) : tickOne t none s i = if startedB s.1 b then (startM s.1 i t, s.2 ++ [(b.ten, b.ref)]) else s := by
  unfold tickOne startedB
  rw [hb, ht]

/-- what the market's tick tells and leaves -/
def YTickRes (m : MkG) (z : Int) (names : List (Int × Int)) (m' : MkG) : Prop :=
  (m.c.ticks ≤ m.time ∧ z = 11 ∧ names = [] ∧ m' = m) ∨
  (m.time < m.c.ticks ∧ z = 0 ∧ ∃ l, IsOrder m m.time l ∧ m' = tickEnd m.time (tickFold m.time none m l).1 ∧ names = (tickFold m.time none m l).2)

set_option maxRecDepth 100000 in
set_option maxHeartbeats 16000000 in
theorem ytick_any (V : YV) (m : MkG) (w : World) (hm : YmAt w V m) (hok : MkOk m) (har : ArrOk m) (hgh : m.ghost = -1) :
    Calls Try.prog 69 #[.pointer (some ⟨V.q, 0, none⟩)] w fun e w' => ∃ lv z names m', e = .returned (.tuple #[lv, .int .i64 z]) ∧ YTickRes m z names m' ∧ YmAt w' V m' ∧ Chg V.foot w w' ∧
      w'.ownsRow 0 90 2 lv names.length (names.flatMap nameCells) ∧ (∀ k, lv.ownBlock = some k → w.heap.size ≤ k) ∧ (z ≠ 0 → lv = .slice none 0 0) := by
  have c0 : w.cell? ⟨V.q, 0, none⟩ = some (.int .i64 m.c.ticks) := hm.cell 0
  have c5 : w.cell? ⟨V.q, 5, none⟩ = some (.int .i64 m.time) := hm.cell 5
  have HM := hide hm
  have HOK := hide hok
  have HAR := hide har
  have HGH := hide hgh
  have hcf := cfgOk_true hok.ck
  have ht0 := hok.t0
  have hnb := hok.bl
  clear hm hok har hgh
  by_cases hov : m.c.ticks ≤ m.time
  · have d : decide (m.c.ticks ≤ m.time) = true := by simpa using hov
    have HO := hide hov
    clear hov hcf ht0 hnb
    go_enter Try.func69, Try.ntmps69
    go_wp2
    go_quiet (fail)
    go_wp2
    go_ret2
    exact ⟨_, 11, [], m, rfl, .inl ⟨HO.out, rfl, rfl, rfl⟩, HM.out.chg0 ((Chg.refl _ _).drewN _), (Chg.refl _ _).drewN _, World.ownsRow_nil _ _ _ _, fun k hk => by simp [Value.ownBlock] at hk, fun _ => rfl⟩
  · have d : decide (m.c.ticks ≤ m.time) = false := by simpa using hov
    have htk : m.time ≤ 63 := by omega
    have HTK := hide (show m.time < m.c.ticks by omega)
    clear hov hcf
    go_enter Try.func69, Try.ntmps69
    go_wp2
    go_quiet (fail)
    go_wp2_with fail
    refine (candidates_any V m _ (HM.out.chg0 ((Chg.refl _ _).drewN _)) HOK.out HAR.out HGH.out).mono ?_
    rintro e w1 ⟨l, v, rfl, hord, hll, hst⟩
    have HORD := hide hord
    have hl3 : l.length ≤ 300 := by omega
    have hc1 : Chg (fun _ => False) w w1 := ((Chg.refl _ w).drewN _).trans hst.chg (fun _ _ h => h)
    have HST0 := hide (show YTk w V m l v [] (.slice none 0 0) w1 from ⟨HM.out.chg0 hc1, hst.row, World.ownsRow_nil _ _ _ _, hc1.mono (fun _ _ h => h.elim), fun k hk => HM.out.foot_lt k hk, hst.new, fun k hk => by simp [Value.ownBlock] at hk⟩)
    obtain ⟨oa, oc, hov2, _⟩ := HST0.out.ordAt
    subst hov2
    obtain ⟨no, hno⟩ : ∃ no, no = l.length := ⟨_, rfl⟩
    rw [← hno] at HST0 hl3 ⊢
    have HNO := hide hno
    clear hord hll hst hc1 c0 c5 d hno
    go_wp2
    go_loopw [4, 22] (fun ov y wr => ∃ (k : Nat) (mr : MkG) (out : List (Int × Int)), k ≤ no ∧ y = .int .i64 k ∧ tickFold m.time none m (l.take k) = (mr, out) ∧ out.length ≤ k ∧ YTk w V mr l (.slice oa no oc) out ov wr) (fun _ y _ => no - (intOf y).toNat)
    case atStart => exact ⟨0, m, [], by omega, rfl, rfl, by simp, HST0.out⟩
    case round =>
      clear HST0
      obtain ⟨k, mr, out, hk, rfl, hfold, hol, hst⟩ := hrel
      have hokr : MkOk mr := by have := MkOk.fold none (t := m.time) (by omega) (by omega) (l.take k) (m, []) HOK.out; rw [show (l.take k).foldl (tickOne m.time none) (m, []) = (mr, out) from hfold] at this; exact this
      have halr : AlikeM m mr (l.take k) := by have := AlikeM.fold m.time none (l.take k) (m, []); rw [show (l.take k).foldl (tickOne m.time none) (m, []) = (mr, out) from hfold] at this; exact this
      have HST := hide hst
      have HOKR := hide hokr
      have HALR := hide halr
      have HFOLD := hide hfold
      clear hokr halr hfold
      by_cases hlt : k < no
      · obtain ⟨i, hi⟩ : ∃ i, l[k]? = some i := ⟨_, List.getElem?_eq_getElem (by rw [← HNO.out]; exact hlt)⟩
        obtain ⟨ao2, cap2, hov2, hel⟩ := hst.ordAt
        obtain ⟨g, hao, hcl⟩ := hel k i hi
        have hoa : oa = some ⟨g, 0, none⟩ := by simp at hov2; rw [hov2.1]; exact hao
        subst hoa
        obtain ⟨b, hb, hcand⟩ := (HORD.out.mem i).1 (List.mem_of_getElem? hi)
        have hsplit : l = l.take k ++ i :: l.drop (k + 1) := by
          have h1 : k < l.length := (List.getElem?_eq_some_iff.1 hi).1
          have h2 : l[k] = i := (List.getElem?_eq_some_iff.1 hi).2
          rw [← h2, ← List.drop_eq_getElem_cons h1, List.take_append_drop]
        have hni : i ∉ l.take k := fun hx => by
          have hp := HORD.out.sorted
          rw [hsplit, List.pairwise_append] at hp
          have := hp.2.2 i hx i (by simp)
          rw [aheadI_irrefl] at this
          cases this
        have hbr : mr.bids[i]? = some b := (HALR.out.bid i hni).trans hb
        have htm : mr.time = m.time := HALR.out.time
        have hop : b.openB mr mr.time = true := by
          have := HALR.out.cand m.time b
          rw [hcand] at this
          unfold candB at this
          simp only [Bool.and_eq_true] at this
          rw [htm]
          exact this.1
        have htake := take_snoc hi
        have hil : (i : Int) < (mr.bids.length : Int) := by have := (List.getElem?_eq_some_iff.1 hbr).1; omega
        have i0 : (0 : Int) ≤ (i : Int) := by omega
        have k0 : (0 : Int) ≤ (k : Int) := by omega
        have k1 : (k : Int) < (no : Int) := by omega
        have HSA := hide (start_any V mr i b wr hst.mkt HOKR.out hbr hop)
        have HE := hide (show tickFold m.time none m (l.take (k + 1)) = if startedB mr b then (startM mr i m.time, out ++ [(b.ten, b.ref)]) else (mr, out) by
          rw [htake, tickFold_snoc, HFOLD.out]
          exact tickOne_none m.time (mr, out) i b hbr htm)
        have HBR := hide hbr
        have HTM := hide htm
        clear hst hov2 hel hao hi hb hcand hsplit hni hbr htm hop htake HALR HFOLD
        cases hsb : startedB mr b
        · rw [hsb] at HSA HE
          have hsm : startedM mr i b = mr := by rw [startedM, hsb]; rfl
          rw [hsm] at HSA
          clear hsm hsb
          go_wp2_with (go_at_call 78; refine HSA.out.mono ?_; rintro e w2 ⟨rfl, hm2, hq2⟩; have HST2 := hide (HST.out.step hm2 hq2); clear hm2 hq2)
          go_roundw
          case rel => exact ⟨k + 1, mr, out, by omega, by go_num, HE.out, by omega, HST2.out⟩
          case measure => simp [intOf]; omega
        · rw [hsb] at HSA HE
          have hsm : startedM mr i b = startM mr i m.time := by rw [startedM, hsb, HTM.out]; rfl
          rw [hsm] at HSA
          clear hsm hsb
          go_wp2_with fail
          refine HSA.out.mono ?_
          rintro e w2 ⟨rfl, hm2, hq2⟩
          have HST2 := hide (HST.out.step hm2 hq2)
          have hlb : i < mr.bids.length := (List.getElem?_eq_some_iff.1 HBR.out).1
          have hb7 : (startM mr i m.time).bids[i]? = some { b with state := 2, start := m.time } := by rw [startM_eq HBR.out]; simp [hlb]
          obtain ⟨gb2, cap3, hv, hown', hgbl, hbcl, _⟩ := hm2.bidCell hb7
          have hlen7 : (startM mr i m.time).bids.length = mr.bids.length := by rw [startM_eq HBR.out]; simp
          obtain ⟨n, hn⟩ : ∃ n, n = mr.bids.length := ⟨_, rfl⟩
          rw [hlen7, ← hn] at hv
          rw [← hn] at hil
          have c6 : w2.cell? ⟨V.q, 6, none⟩ = some (.slice (some ⟨gb2, 0, none⟩) n cap3) := by rw [← hv]; exact hm2.cell 6
          have b0 : w2.cell? ⟨gb2, i * 9, none⟩ = some (.int .i64 b.ten) := hbcl 0 _ rfl
          have b1 : w2.cell? ⟨gb2, i * 9 + 1, none⟩ = some (.int .i64 b.ref) := hbcl 1 _ rfl
          obtain ⟨sa, sc, hov⟩ := ownsRow_form HST2.out.out
          subst hov
          obtain ⟨nn, hnn⟩ : ∃ nn, nn = out.length := ⟨_, rfl⟩
          have HOUT : Hid (w2.ownsRow 0 90 2 (.slice sa nn sc) nn (out.flatMap nameCells)) := by rw [hnn]; exact HST2.out.out
          rw [← hnn] at HST2 ⊢
          have HNN := hide hnn
          have hol3 : nn ≤ 300 := by rw [hnn]; omega
          obtain ⟨i0', hi, hz0', hz1, hz2⟩ := info_parts infoName
          clear hm2 hq2 hb7 hv hown' hbcl hlen7 hn hnn hgbl hlb HSA HST hcl
          go_wp2_with (first | (at_builtin; refine wpList_append_lies _ rfl (.tmp 29) (.tmp 38) 48 rfl 0 90 i0' (.agg #[.int .i64 0, .int .i64 0]) 2 16 Try.underlying48 hi hz0' hz1 hz2 rfl (by decide) (.slice sa nn sc) nn (out.flatMap nameCells) rfl (HOUT.out.alloc _) ⟨w2.heap.size, 0, none⟩ 1 1 (nameCells (b.ten, b.ref)) rfl rfl (World.news_of_block (heap_alloc_new w2 _)) (by simp [nameCells, Value.oneCell']) (by decide) (by unfold maxLen; omega) (by omega) (Nat.zero_le _) _ rfl ?_; intro g7 capn w7 hown hgrow hat2 hlt; have HST8 := ytick_arm HST2.out HNN.out ((Chg.refl _ _).alloc _) hown hgrow hat2 (by simp); clear hown hgrow hat2 hlt))
          go_roundw
          case rel => exact ⟨k + 1, _, _, by omega, by go_num, HE.out, by simp; omega, HST8.out⟩
          case measure => simp [intOf]; omega
      · have hkn : k = no := by omega
        have hft : tickFold m.time none m l = (mr, out) := by rw [← HFOLD.out, hkn, HNO.out, List.take_length]
        have htm : mr.time = m.time := HALR.out.time
        have c5 : wr.cell? ⟨V.q, 5, none⟩ = some (.int .i64 m.time) := by rw [← htm]; exact hst.mkt.cell 5
        have f5 : wr.frozen? ⟨V.q, 5, none⟩ = false := hst.mkt.free 5
        have hwt : IntKind.i64.wrap (m.time + 1) = m.time + 1 := by rw [IntKind.wrap_i64]; omega
        have HS2 := hide (HST.out.step (hst.mkt.setTime (t := m.time + 1)) ((Chg.refl V.foot wr).setCell (.inl (.inl rfl)) _))
        have hcm : mr.c = m.c := HALR.out.c
        have HOK2 := hide (show MkOk { mr with time := m.time + 1 } from ⟨HOKR.out.ck, HOKR.out.nu, HOKR.out.ns, HOKR.out.np, HOKR.out.nl, HOKR.out.nb, by simp only; omega, by have := HTK.out; simp only; rw [hcm]; omega, HOKR.out.un, HOKR.out.bid⟩)
        have HEX := hide (expire_any V { mr with time := m.time + 1 } _ HS2.out.mkt HOK2.out (by simp only; omega))
        have HFT := hide hft
        clear hst htm hcm hft HALR HFOLD
        go_wp2_with (go_at_call 79; refine HEX.out.mono ?_; rintro e w3 ⟨rfl, hm3, hq3⟩; have HST3 := hide (HS2.out.step hm3 hq3); clear hm3 hq3)
        go_ret2
        exact ⟨_, 0, out, tickEnd m.time mr, rfl, .inr ⟨HTK.out, rfl, l, HORD.out, by rw [HFT.out], by rw [HFT.out]⟩, HST3.out.mkt, HST3.out.chg, HST3.out.out, HST3.out.ov, fun h => absurd rfl h⟩
end Go.Proofs.Ytminceigjejipaa

/-
  A CALL, MADE OF THE PROGRAM's MARKET ('answer'), for the first time or in a replay.
-/
namespace Go.Proofs.Ytminceigjejipaa
open Go.RowKit

theorem IsOrder.logs {m : MkG} {t : Int} {l : List Nat} {c : CallG} (h : IsOrder (m.logs c) t l) : IsOrder m t l := ⟨h.mem, h.sorted⟩
theorem YTickRes.res {m m' : MkG} {z : Int} {names : List (Int × Int)} (hok : MkOk (m.logs callTick)) (hg : m.ghost = -1) (hl : m.log.length < 300) (h : YTickRes (m.logs callTick) z names m') : TickRes m z names m' := by
  rcases h with ⟨h1, rfl, rfl, rfl⟩ | ⟨h1, rfl, l, hl', rfl, rfl⟩
  · exact .inr (.inl ⟨hl, h1, rfl, rfl, rfl⟩)
  · refine .inr (.inr ⟨hl, h1, rfl, l, hl'.logs, ?_, ?_⟩)
    · unfold tickM
      simp only
      rw [ghostI_none hok hg]
      rfl
    · unfold tickM
      simp only
      rw [ghostI_none hok hg]
      rfl

section
variable (V : YV) (m : MkG) (w : World)
set_option maxRecDepth 100000 in
set_option maxHeartbeats 2000000 in
theorem answer_submit (ten ref : Int) (j : JobG) (hm : YmAt w V m) (hok : MkOk m) :
    Calls Try.prog 76 #[.pointer (some ⟨V.q, 0, none⟩), .agg #[.int .i64 1, .int .i64 ten, .int .i64 ref, .int .i64 j.arr, .int .i64 j.dl, .int .i64 j.len, .int .i64 j.units, .int .i64 j.val, .int .i64 0, .int .i64 0, .int .i64 0, .bool false]] w fun e w' => e = .returned (.int .i64 (submitE m ten ref j)) ∧ YmTo w V (submitM m ten ref j) w' := by
  have HC := hide ((Chg.refl (fun _ => False) w).alloc (.cells #[.int .i64 1, .int .i64 ten, .int .i64 ref, .int .i64 j.arr, .int .i64 j.dl, .int .i64 j.len, .int .i64 j.units, .int .i64 j.val, .int .i64 0, .int .i64 0, .int .i64 0, .bool false] 132))
  have HSUB := hide (ysubmit_any V m ten ref j _ (hm.chg0 HC.out) hok)
  clear hm hok
  go_enter Try.func76, Try.ntmps76
  go_wp2_with fail
  refine HSUB.out.mono ?_
  rintro e w1 ⟨rfl, hto⟩
  have HTO := hide (YmTo.start HC.out hto)
  clear hto HSUB
  go_wp2
  go_ret
  exact ⟨rfl, HTO.out⟩
set_option maxRecDepth 100000 in
set_option maxHeartbeats 2000000 in
theorem answer_cancel (ten ref : Int) (hm : YmAt w V m) (hok : MkOk m) :
    Calls Try.prog 76 #[.pointer (some ⟨V.q, 0, none⟩), .agg #[.int .i64 2, .int .i64 ten, .int .i64 ref, .int .i64 0, .int .i64 0, .int .i64 0, .int .i64 0, .int .i64 0, .int .i64 0, .int .i64 0, .int .i64 0, .bool false]] w fun e w' => e = .returned (.int .i64 (cancelE m ten ref)) ∧ YmTo w V (cancelM m ten ref) w' := by
  have HC := hide ((Chg.refl (fun _ => False) w).alloc (.cells #[.int .i64 2, .int .i64 ten, .int .i64 ref, .int .i64 0, .int .i64 0, .int .i64 0, .int .i64 0, .int .i64 0, .int .i64 0, .int .i64 0, .int .i64 0, .bool false] 132))
  have HSUB := hide (ycancel_any V m ten ref _ (hm.chg0 HC.out) hok)
  clear hm hok
  go_enter Try.func76, Try.ntmps76
  go_wp2_with fail
  refine HSUB.out.mono ?_
  rintro e w1 ⟨rfl, hto⟩
  have HTO := hide (YmTo.start HC.out hto)
  clear hto HSUB
  go_wp2
  go_ret
  exact ⟨rfl, HTO.out⟩
set_option maxRecDepth 100000 in
set_option maxHeartbeats 2000000 in
theorem answer_cap (f t u : Int) (hm : YmAt w V m) (hok : MkOk m) :
    Calls Try.prog 76 #[.pointer (some ⟨V.q, 0, none⟩), .agg #[.int .i64 3, .int .i64 0, .int .i64 0, .int .i64 0, .int .i64 0, .int .i64 0, .int .i64 0, .int .i64 0, .int .i64 f, .int .i64 t, .int .i64 u, .bool false]] w fun e w' => ∃ z, e = .returned (.int .i64 z) ∧ CapRes m f t u z (capM m f t u) ∧ YmTo w V (capM m f t u) w' := by
  have HC := hide ((Chg.refl (fun _ => False) w).alloc (.cells #[.int .i64 3, .int .i64 0, .int .i64 0, .int .i64 0, .int .i64 0, .int .i64 0, .int .i64 0, .int .i64 0, .int .i64 f, .int .i64 t, .int .i64 u, .bool false] 132))
  have HSUB := hide (ycapacity_any V m f t u _ (hm.chg0 HC.out) hok)
  clear hm hok
  go_enter Try.func76, Try.ntmps76
  go_wp2_with fail
  refine HSUB.out.mono ?_
  rintro e w1 ⟨z, m', rfl, hr, hto⟩
  have hm' := hr.fn
  subst hm'
  have HTO := hide (YmTo.start HC.out hto)
  have HR := hide hr
  clear hto HSUB hr
  go_wp2
  go_ret
  exact ⟨z, rfl, HR.out, HTO.out⟩
set_option maxRecDepth 100000 in
set_option maxHeartbeats 2000000 in
theorem answer_susp (ten : Int) (on : Bool) (hm : YmAt w V m) (hok : MkOk m) :
    Calls Try.prog 76 #[.pointer (some ⟨V.q, 0, none⟩), .agg #[.int .i64 4, .int .i64 ten, .int .i64 0, .int .i64 0, .int .i64 0, .int .i64 0, .int .i64 0, .int .i64 0, .int .i64 0, .int .i64 0, .int .i64 0, .bool on]] w fun e w' => e = .returned (.int .i64 (suspendE m ten)) ∧ YmTo w V (suspendM m ten on) w' := by
  have HC := hide ((Chg.refl (fun _ => False) w).alloc (.cells #[.int .i64 4, .int .i64 ten, .int .i64 0, .int .i64 0, .int .i64 0, .int .i64 0, .int .i64 0, .int .i64 0, .int .i64 0, .int .i64 0, .int .i64 0, .bool on] 132))
  have HSUB := hide (ysuspend_any V m ten on _ (hm.chg0 HC.out) hok)
  clear hm hok
  go_enter Try.func76, Try.ntmps76
  go_wp2_with fail
  refine HSUB.out.mono ?_
  rintro e w1 ⟨rfl, hto⟩
  have HTO := hide (YmTo.start HC.out hto)
  clear hto HSUB
  go_wp2
  go_ret
  exact ⟨rfl, HTO.out⟩
set_option maxRecDepth 100000 in
set_option maxHeartbeats 2000000 in
theorem answer_tick (hm : YmAt w V m) (hok : MkOk m) (har : ArrOk m) (hg : m.ghost = -1) (hl : m.log.length < 300) :
    Calls Try.prog 76 #[.pointer (some ⟨V.q, 0, none⟩), .agg #[.int .i64 5, .int .i64 0, .int .i64 0, .int .i64 0, .int .i64 0, .int .i64 0, .int .i64 0, .int .i64 0, .int .i64 0, .int .i64 0, .int .i64 0, .bool false]] w fun e w' => ∃ z, e = .returned (.int .i64 z) ∧ YmTo w V (tickF m) w' := by
  have HC := hide ((Chg.refl (fun _ => False) w).alloc (.cells #[.int .i64 5, .int .i64 0, .int .i64 0, .int .i64 0, .int .i64 0, .int .i64 0, .int .i64 0, .int .i64 0, .int .i64 0, .int .i64 0, .int .i64 0, .bool false] 132))
  have HSUB := hide (ytick_any V (m.logs callTick) _ ((hm.chg0 HC.out).logs callTick) (hok.logs hl _) (har.logs _) hg)
  have HRES := hide (fun z names m' (h : YTickRes (m.logs callTick) z names m') => show m' = tickF m from (h.res (hok.logs hl _) hg hl).fn hok hl)
  clear hm hok har hg
  go_enter Try.func76, Try.ntmps76
  go_wp2_with fail
  refine HSUB.out.mono ?_
  rintro e w1 ⟨lv, z, names, m', rfl, hres, hm3, hc3, _, _, _⟩
  have e1 := HRES.out z names m' hres
  subst e1
  have HTO := hide (show YmTo w V (tickF m) w1 from YmTo.start HC.out ⟨V, rfl, hm3, hc3, fun _ h => .inl h⟩)
  clear hres hm3 hc3 HSUB HRES
  go_wp2
  go_ret
  exact ⟨z, rfl, HTO.out⟩
set_option maxRecDepth 100000 in
set_option maxHeartbeats 2000000 in
theorem answer_none (hm : YmAt w V m) :
    Calls Try.prog 76 #[.pointer (some ⟨V.q, 0, none⟩), .agg #[.int .i64 0, .int .i64 0, .int .i64 0, .int .i64 0, .int .i64 0, .int .i64 0, .int .i64 0, .int .i64 0, .int .i64 0, .int .i64 0, .int .i64 0, .bool false]] w fun e w' => e = .returned (.int .i64 0) ∧ YmTo w V m w' := by
  have HC := hide ((Chg.refl (fun _ => False) w).alloc (.cells #[.int .i64 0, .int .i64 0, .int .i64 0, .int .i64 0, .int .i64 0, .int .i64 0, .int .i64 0, .int .i64 0, .int .i64 0, .int .i64 0, .int .i64 0, .bool false] 132))
  have HM := hide hm
  clear hm
  go_enter Try.func76, Try.ntmps76
  go_wp2
  go_ret
  exact ⟨rfl, YmTo.same HM.out HC.out⟩

/-- in a replay -/
theorem answer_any (c : CallG) (hm : YmAt w V m) (hok : MkOk m) (har : ArrOk m) (hg : m.ghost = -1) (hl : m.log.length < 300) :
    Calls Try.prog 76 #[.pointer (some ⟨V.q, 0, none⟩), ycgV (ycallOf c)] w fun e w' => ∃ z, e = .returned (.int .i64 z) ∧ YmTo w V (againM m c) w' := by
  unfold againM
  rw [if_neg (by omega)]
  by_cases k1 : c.kind = 1
  · rw [if_pos k1, show ycallOf c = ⟨1, c.a, c.b, c.job, 0, 0, 0, false⟩ by simp [ycallOf, k1]]
    exact (answer_submit V m w c.a c.b c.job hm hok).mono (fun e w' ⟨h1, h2⟩ => ⟨_, h1, h2⟩)
  rw [if_neg k1]
  by_cases k2 : c.kind = 2
  · rw [if_pos k2, show ycallOf c = ⟨2, c.a, c.b, noJob, 0, 0, 0, false⟩ by simp [ycallOf, k2]]
    exact (answer_cancel V m w c.a c.b hm hok).mono (fun e w' ⟨h1, h2⟩ => ⟨_, h1, h2⟩)
  rw [if_neg k2]
  by_cases k3 : c.kind = 3
  · rw [if_pos k3, show ycallOf c = ⟨3, 0, 0, noJob, c.a, c.b, c.c, false⟩ by simp [ycallOf, k3]]
    exact (answer_cap V m w c.a c.b c.c hm hok).mono (fun e w' ⟨z, h1, _, h2⟩ => ⟨z, h1, h2⟩)
  rw [if_neg k3]
  by_cases k4 : c.kind = 4
  · rw [if_pos k4, show ycallOf c = ⟨4, c.a, 0, noJob, 0, 0, 0, c.on⟩ by simp [ycallOf, k4]]
    exact (answer_susp V m w c.a c.on hm hok).mono (fun e w' ⟨h1, h2⟩ => ⟨_, h1, h2⟩)
  rw [if_neg k4]
  by_cases k5 : c.kind = 5
  · rw [if_pos k5, show ycallOf c = ⟨5, 0, 0, noJob, 0, 0, 0, false⟩ by simp [ycallOf, k5]]
    exact answer_tick V m w hm hok har hg hl
  rw [if_neg k5, show ycallOf c = ⟨0, 0, 0, noJob, 0, 0, 0, false⟩ by simp [ycallOf, k1, k2, k3, k4, k5]]
  exact (answer_none V m w hm).mono (fun e w' ⟨h1, h2⟩ => ⟨_, h1, h2.logs c⟩)
end
end Go.Proofs.Ytminceigjejipaa
