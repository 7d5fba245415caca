import Derived.Test.YtminceigjejipaaG13
import Derived.Test.YtminceigjejipaaG9
/-
  A CASE's MARKET WITH ANOTHER VALUE: a bid that has won wins again just if its price is no more; the price is no less than the reserve cost. Nothing of the program but the book's data.
-/
namespace Go.Proofs.Ytminceigjejipaa
open Go.RowKit

/-- what has won is worth the reserve cost -/
def WinOk (X : MkG) : Prop := ∀ b ∈ X.bids, b.state = 2 → b.winB X.c.res = true
theorem WinOk.of_bids {m m' : MkG} (h : WinOk m) (hb : m'.bids = m.bids) (hc : m'.c = m.c) : WinOk m' := fun b hm => by
  rw [hb] at hm
  rw [hc]
  exact h b hm
theorem WinOk.tick {X : MkG} (h : WinOk X) (hr : RepOk X) (hl : X.log.length < 300) : WinOk (tickF X) := by
  unfold tickF
  split
  · exact h.of_bids rfl rfl
  · have hok := hr.ok
    have hok1 := hok.logs hl callTick
    have hord := orderL_is (t := X.time) hok.sizes
    obtain ⟨js, hp⟩ := pk_fold X.time (orderL X X.time) (X.logs callTick, []) hord.nodup (fun i hi => by
      obtain ⟨b, hb, hc⟩ := (hord.mem i).1 hi
      refine ⟨b, hb, ?_⟩
      unfold candB at hc
      rw [Bool.and_eq_true] at hc
      exact hc.1) (fun b hb => by
        have := jobIn_true (hok.bid b hb).job
        omega)
    unfold tickM
    simp only
    rw [ghostI_none hok1 hr.gh]
    simp only [wantEnd, tickFold]
    have hal := AlikeM.fold X.time none (orderL X X.time) (X.logs callTick, [])
    intro b' hb' hs
    obtain ⟨b1, hb1, rfl⟩ := List.mem_map.1 hb'
    have hc : (tickEnd X.time ((orderL X X.time).foldl (tickOne X.time none) (X.logs callTick, [])).1).c = X.c := hal.c
    rw [hc]
    obtain ⟨k, hk⟩ := List.getElem?_of_mem hb1
    have hkl : k < X.bids.length := by
      have := (List.getElem?_eq_some_iff.1 hk).1
      rw [hal.len] at this
      exact this
    have hb := List.getElem?_eq_getElem hkl
    have hx := hp.bids k _ hb
    rw [hk] at hx
    have e := Option.some.inj hx
    have hst : b1.state = 2 ∧ (b1.expire (X.time + 1)).job = b1.job := by
      unfold BidG.expire at hs ⊢
      split at hs
      · simp at hs
      · rename_i hn
        rw [if_neg hn]
        exact ⟨hs, rfl⟩
    have hj : (b1.expire (X.time + 1)).winB X.c.res = b1.winB X.c.res := by unfold BidG.winB; rw [hst.2]
    rw [hj]
    by_cases ej : k ∈ js
    · rw [if_pos ej] at e
      have := hp.win k ej _ hb
      rw [e]
      exact this
    · rw [if_neg ej] at e
      rw [e]
      exact h _ (List.mem_of_getElem? hb) (by rw [← e]; exact hst.1)
theorem WinOk.again {X : MkG} (h : WinOk X) (hr : RepOk X) (hl : X.log.length < 300) (c : CallG) : WinOk (againM X c) := by
  unfold againM
  split
  · exact h
  · split
    · unfold submitM
      simp only
      split
      · intro b hb
        rcases List.mem_append.1 hb with hb | hb
        · exact h b hb
        · simp at hb
          subst hb
          intro hs
          simp [newBid] at hs
      · exact h.of_bids rfl rfl
    · split
      · unfold cancelM
        simp only
        split
        · intro b hb
          have hb' : b ∈ setState X.bids (findZ X.bids c.a c.b).toNat 3 := hb
          unfold setState at hb'
          split at hb'
          · rcases List.mem_or_eq_of_mem_set hb' with hb2 | rfl
            · exact h b hb2
            · intro hs
              simp at hs
          · exact h b hb'
        · exact h.of_bids rfl rfl
      · split
        · unfold capM
          split
          · exact h.of_bids rfl rfl
          · split <;> exact h.of_bids rfl rfl
        · split
          · unfold suspendM
            simp only
            split <;> exact h.of_bids rfl rfl
          · split
            · exact h.tick hr hl
            · exact h.of_bids rfl rfl
theorem WinOk.fold : ∀ (l : List CallG) {X : MkG}, WinOk X → RepOk X → X.log.length + l.length ≤ 300 → WinOk (l.foldl againM X)
  | [], _, h, _, _ => h
  | c :: l, X, h, hr, hl => by
    simp only [List.length_cons] at hl
    have h1 := again_log (m := X) (by omega) c
    exact WinOk.fold l (h.again hr (by omega) c) (hr.again (by omega) c) (by omega)
theorem again_c {X : MkG} (hr : RepOk X) (hl : X.log.length < 300) (c : CallG) : (againM X c).c = X.c := by
  unfold againM
  split
  · rfl
  · split
    · unfold submitM; simp only; split <;> rfl
    · split
      · unfold cancelM; simp only; split <;> rfl
      · split
        · unfold capM
          split
          · rfl
          · split <;> rfl
        · split
          · unfold suspendM; simp only; split <;> rfl
          · split
            · unfold tickF
              split
              · rfl
              · have g1 : ghostI (X.logs callTick) X.time = none := ghostI_none (hr.ok.logs hl callTick) hr.gh X.time
                unfold tickM
                simp only [g1, wantEnd]
                exact (AlikeM.fold X.time none (orderL X X.time) (X.logs callTick, [])).c
            · rfl
theorem fold_c : ∀ (l : List CallG) {X : MkG}, RepOk X → X.log.length + l.length ≤ 300 → (l.foldl againM X).c = X.c
  | [], _, _, _ => rfl
  | c :: l, X, hr, hl => by
    simp only [List.length_cons] at hl
    have h1 := again_log (m := X) (by omega) c
    rw [List.foldl_cons, fold_c l (hr.again (by omega) c) (by omega), again_c hr (by omega) c]

/-- a call as it is logged -/
def nfC (c : CallG) : CallG :=
  if c.kind = 1 then callSubmit c.a c.b c.job
  else if c.kind = 2 then callCancel c.a c.b
  else if c.kind = 3 then callCapacity c.a c.b c.c
  else if c.kind = 4 then callSuspend c.a c.on
  else if c.kind = 5 then callTick
  else c
theorem again_log' {X : MkG} (hl : X.log.length < 300) (c : CallG) : (againM X c).log = X.log ++ [nfC c] := by
  unfold againM nfC
  rw [if_neg (by omega)]
  split
  · unfold submitM; simp only; split <;> rfl
  · split
    · unfold cancelM; simp only; split <;> rfl
    · split
      · unfold capM
        split
        · rfl
        · split <;> rfl
      · split
        · unfold suspendM; simp only; split <;> rfl
        · split
          · exact tickF_log' X
          · rfl
theorem fold_log' : ∀ (l : List CallG) (X : MkG), X.log.length + l.length ≤ 300 → (l.foldl againM X).log = X.log ++ l.map nfC
  | [], _, _ => by simp
  | c :: l, X, h => by
    simp only [List.length_cons] at h
    have h1 := again_log' (X := X) (by omega) c
    have h2 := again_log (m := X) (by omega) c
    rw [List.foldl_cons, fold_log' l (againM X c) (by omega), h1]
    simp

/-- the price of what has won is no less than its reserve cost -/
theorem Hist.reserve {m : MkG} (h : Hist m) (hok : MkOk m) {i : Nat} {b : BidG} (hb : m.bids[i]? = some b) (hw : b.state = 2) : m.c.res * sizeJ b.job ≤ priceM m b.entry := by
  have hpr := h.price hok hb hw
  obtain ⟨e, he, hle, hwin⟩ := h.wins hok hb hw
  have hj := jobIn_true (hok.bid b (List.mem_of_getElem? hb)).job
  have h1 : 1 ≤ priceM m b.entry := hpr.1
  have h2 : priceM m b.entry ≤ 1048576 := by omega
  have hR : (replay m.c m.log).bids[i]? = some (unc b) := by rw [HistM.get h, hb]; rfl
  have hrep : RepOk (replayV m.c e (priceM m b.entry) m.log) := RepOk.replayV hok.ck hok.nl e _
  obtain ⟨k, b2, hb2, g1, g2, g3⟩ := own_replayV (c := m.c) (v := priceM m b.entry) hok.nl hle ⟨unc b, List.mem_of_getElem? hR, he⟩ h1 h2
  have hls := (hwin (priceM m b.entry) h1 h2).2 (Int.le_refl _)
  have hbo := hrep.ok.bid b2 (List.mem_of_getElem? hb2)
  have hfz : findZ (replayV m.c e (priceM m b.entry) m.log).bids b.ten b.ref = k := findZ_some hb2 (by simp [BidG.is, g1, g2]) (fun k' x hk hx => by
    cases hi : x.is b.ten b.ref
    · rfl
    · simp [BidG.is] at hi
      have := hrep.chd.uniq k' k x b2 hx hb2 (by rw [hi.1, g1]) (by rw [hi.2, g2])
      omega)
  have hs2 : b2.state = 2 := by
    unfold lookS at hls
    split at hls
    · rw [hfz] at hls
      simpa [stateAt, hb2] using hls
    · omega
  have hwo : WinOk (replayV m.c e (priceM m b.entry) m.log) := by
    rw [replayV_eq]
    exact WinOk.fold _ (fun b hb => by simp [openM] at hb) (RepOk.open hok.ck) (by rw [logV_len]; simp [openM]; exact hok.nl)
  have hc : (replayV m.c e (priceM m b.entry) m.log).c = m.c := by
    rw [replayV_eq, fold_c _ (RepOk.open hok.ck) (by rw [logV_len]; simp [openM]; exact hok.nl)]
    rfl
  have hwb := hwo b2 (List.mem_of_getElem? hb2) hs2
  rw [hc] at hwb
  -- its job is the bid's own, but for the value
  have hsub : SubOk (replayV m.c e (priceM m b.entry) m.log) := by
    rw [replayV_eq]
    exact SubOk.fold _ (SubOk.open m.c)
  obtain ⟨e2, he2, hl2⟩ := hsub k b2 hb2
  rw [replayV_eq, fold_log' _ _ (by rw [logV_len]; simp [openM]; exact hok.nl)] at hl2
  simp only [openM, List.nil_append, List.getElem?_map, logV_get] at hl2
  have ee : e2 = e := by rw [g3] at he2; omega
  rw [ee, hle] at hl2
  simp only [Option.map_some, if_true, Option.some.injEq] at hl2
  have hjob : b2.job = { b.job with val := priceM m b.entry } := (congrArg CallG.job hl2).symm
  unfold BidG.winB at hwb
  rw [hjob] at hwb
  exact of_decide_eq_true hwb
/-- the case made once more, with another value -/
theorem StepsOk.wins {st : Nat → StepG} {sl : Nat} {m m2 : MkG} {b : BookG} (h : StepsOk st sl m b) (hg : GoodM m) (hg2 : GoodM m2) (hc2 : m2.c = m.c) {j : Nat} {o : KnownG} {x : BidG} (ho : b.bids[j]? = some o) (hx : m.bids[j]? = some x) (hnm : o.ten = x.ten ∧ o.ref = x.ref) (hw : x.state = 2) {i : Nat} (hi : o.step = i) {v : Int} (h1 : 1 ≤ v) (h2 : v ≤ 1048576) (hl2 : m2.log = logN (stV st i v) sl) :
    (lookE m2 o.ten o.ref = 0 ∧ lookS m2 o.ten o.ref = 2) ↔ priceM m x.entry ≤ v := by
  obtain ⟨i', a1, a2, a3, _, _, _, a7, a8⟩ := h.bid j o x ho hx
  have ei : i' = i := by rw [hi] at a1; omega
  subst ei
  obtain ⟨e, he, _, hwin⟩ := Hist.wins hg.cash.hist hg.ok hx hw
  have ee : e = (logN st i').length := by rw [he] at a7; omega
  rw [logN_high st i' v a3 a8 sl a2, ← h.log, ← ee] at hl2
  have hH2 : HistM m2 (replayV m.c e v m.log) := by
    have := hg2.cash.hist
    unfold Hist replay at this
    rw [hl2, hc2] at this
    exact this
  have hfind : findZ (replayV m.c e v m.log).bids o.ten o.ref = findZ m2.bids o.ten o.ref := hH2.find _ _
  have hE : lookE (replayV m.c e v m.log) o.ten o.ref = lookE m2 o.ten o.ref := by unfold lookE; rw [hH2.tenB, hfind]
  have hS : lookS (replayV m.c e v m.log) o.ten o.ref = lookS m2 o.ten o.ref := by unfold lookS; rw [hE, hfind, hH2.state]
  have hw2 := hwin v h1 h2
  rw [← hnm.1, ← hnm.2, hS] at hw2
  rw [← hw2]
  constructor
  · exact fun h => h.2
  · intro hs
    refine ⟨?_, hs⟩
    by_cases h0 : lookE m2 o.ten o.ref = 0
    · exact h0
    · unfold lookS at hs
      rw [if_neg h0] at hs
      omega
end Go.Proofs.Ytminceigjejipaa

/-
  TWO BIDS THAT NEVER START, LAID INTO ONE MARKET: the one that asks for no more needs no more. Nothing of the program.
-/
namespace Go.Proofs.Ytminceigjejipaa

/-! ### a ghost that has not been submitted yet changes nothing -/
def withG (B : MkG) (e : Int) : MkG := { B with ghost := e }
theorem pre_one (t : Int) (B : MkG) (e : Int) (o : List (Int × Int)) (i : Nat) : tickOne t none (withG B e, o) i = (withG (tickOne t none (B, o) i).1 e, (tickOne t none (B, o) i).2) := by
  unfold tickOne
  simp only
  cases hb : B.bids[i]? with
  | none =>
    rw [show (withG B e).bids[i]? = none from hb]
  | some b =>
    rw [show (withG B e).bids[i]? = some b from hb]
    simp only
    have hs : startM (withG B e) i t = withG (startM B i t) e := by
      rw [startM_set hb, startM_set (m := withG B e) hb]
      rfl
    rw [hs, show fitsB (withG B e) b t = fitsB B b t from rfl, show (withG B e).c = B.c from rfl]
    split <;> rfl
theorem pre_fold (t : Int) (e : Int) : ∀ (l : List Nat) (B : MkG) (o : List (Int × Int)), l.foldl (tickOne t none) (withG B e, o) = (withG (l.foldl (tickOne t none) (B, o)).1 e, (l.foldl (tickOne t none) (B, o)).2)
  | [], _, _ => rfl
  | i :: l, B, o => by
    rw [List.foldl_cons, pre_one, List.foldl_cons]
    exact pre_fold t e l _ _
theorem pre_tick {B : MkG} (hok : MkOk B) (hent : EntOk B) (hg : B.ghost = -1) {e : Nat} (he : B.log.length ≤ e) (hl : B.log.length < 300) : tickF (withG B e) = withG (tickF B) e := by
  have hcand : ∀ b ∈ B.bids, candB (withG B e) B.time b = candB B B.time b := fun b hb => by
    unfold candB
    have h := hent.in' b hb
    rw [show b.openB (withG B e) B.time = b.openB B B.time from rfl, hg, show (withG B e).ghost = (e : Int) from rfl]
    have h1 : (b.entry != (e : Int)) = true := by
      have : b.entry ≠ (e : Int) := by omega
      simpa using this
    have h2 : (b.entry != (-1 : Int)) = true := by
      have : b.entry ≠ (-1 : Int) := by omega
      simpa using this
    rw [h1, h2]
  have hord := orderL_is (m := B) (t := B.time) hok.sizes
  have hord2 : IsOrder (withG B e) B.time (orderL B B.time) := by
    refine ⟨fun i => ?_, hord.sorted⟩
    rw [hord.mem i]
    constructor
    · rintro ⟨b, hb, hc⟩
      exact ⟨b, hb, by rw [hcand b (List.mem_of_getElem? hb)]; exact hc⟩
    · rintro ⟨b, hb, hc⟩
      have hb' : B.bids[i]? = some b := hb
      exact ⟨b, hb', by rw [← hcand b (List.mem_of_getElem? hb')]; exact hc⟩
  have e1 : orderL (withG B e) B.time = orderL B B.time := (orderL_is (m := withG B e) (t := B.time) hok.sizes).unique hord2
  have g1 : ghostI (B.logs callTick) B.time = none := ghostI_none (hok.logs hl callTick) hg B.time
  have g2 : ghostI ((withG B e).logs callTick) B.time = none := by
    unfold ghostI
    rw [List.findIdx?_eq_none_iff]
    intro b hb
    have h := hent.in' b hb
    have : (b.entry == (e : Int)) = false := by
      have : b.entry ≠ (e : Int) := by omega
      simpa using this
    rw [show ((withG B e).logs callTick).ghost = (e : Int) from rfl, this, Bool.and_false]
  unfold tickF
  rw [show (withG B e).c = B.c from rfl, show (withG B e).time = B.time from rfl]
  split
  · rfl
  · unfold tickM
    simp only [show (withG B e).time = B.time from rfl, g1, g2, e1]
    have := pre_fold B.time e (orderL B B.time) (B.logs callTick) []
    unfold tickFold
    rw [show (withG B e).logs callTick = withG (B.logs callTick) e from rfl, this]
    rfl
theorem pre_again {B : MkG} (hr : RepOk B) {e : Nat} (he : B.log.length ≤ e) (hl : B.log.length < 300) (c : CallG) : againM (withG B e) c = withG (againM B c) e := by
  rw [againM_in (m := B) hl, againM_in (m := withG B e) hl]
  split
  · unfold submitM
    simp only [show submitE (withG B e) c.a c.b c.job = submitE B c.a c.b c.job from rfl]
    split <;> rfl
  · split
    · unfold cancelM
      simp only [show cancelE (withG B e) c.a c.b = cancelE B c.a c.b from rfl]
      split <;> rfl
    · split
      · unfold capM
        rw [show capArg (withG B e) c.a c.b c.c = capArg B c.a c.b c.c from rfl, show capB (withG B e) c.a c.b c.c = capB B c.a c.b c.c from rfl]
        split
        · rfl
        · split <;> rfl
      · split
        · unfold suspendM
          simp only [show suspendE (withG B e) c.a = suspendE B c.a from rfl]
          split <;> rfl
        · split
          · exact pre_tick hr.ok hr.ent hr.gh he hl
          · rfl
theorem pre_foldl {e : Nat} (he : e ≤ 300) : ∀ (l : List CallG) {B : MkG}, RepOk B → B.log.length + l.length ≤ e → l.foldl againM (withG B e) = withG (l.foldl againM B) e
  | [], _, _, _ => rfl
  | c :: l, B, hr, hl => by
    simp only [List.length_cons] at hl
    have h1 := again_log (m := B) (by omega) c
    rw [List.foldl_cons, pre_again hr (by omega) (by omega) c, List.foldl_cons]
    exact pre_foldl he l (hr.again (by omega) c) (by omega)
/-- with no ghost there is no need -/
theorem need_keep {X : MkG} (hr : RepOk X) (hl : X.log.length < 300) (c : CallG) : (againM X c).need = X.need := by
  rw [againM_in hl]
  split
  · unfold submitM; simp only; split <;> rfl
  · split
    · unfold cancelM; simp only; split <;> rfl
    · split
      · unfold capM
        split
        · rfl
        · split <;> rfl
      · split
        · unfold suspendM; simp only; split <;> rfl
        · split
          · unfold tickF
            split
            · rfl
            · have g1 : ghostI (X.logs callTick) X.time = none := ghostI_none (hr.ok.logs hl callTick) hr.gh X.time
              unfold tickM
              simp only [g1, wantEnd]
              exact need_none X.time (orderL X X.time) (X.logs callTick, [])
          · rfl
theorem need_zero : ∀ (l : List CallG) {X : MkG}, RepOk X → X.log.length + l.length ≤ 300 → (l.foldl againM X).need = X.need
  | [], _, _, _ => rfl
  | c :: l, X, hr, hl => by
    simp only [List.length_cons] at hl
    have h1 := again_log (m := X) (by omega) c
    rw [List.foldl_cons, need_zero l (hr.again (by omega) c) (by omega), need_keep hr (by omega) c]
theorem need_other {m : MkG} {c : CallG} (hk : c.kind ≠ 5) : (againM m c).need = m.need := by
  unfold againM
  split
  · rfl
  · split
    · unfold submitM; simp only; split <;> rfl
    · split
      · unfold cancelM; simp only; split <;> rfl
      · split
        · unfold capM
          split
          · rfl
          · split <;> rfl
        · split
          · unfold suspendM; simp only; split <;> rfl
          · first | rfl | rw [if_neg hk]; rfl | (split <;> first | rfl | contradiction)

/-! ### from its Submit on -/
theorem Ins.begin {B : MkG} (hg : B.ghost = -1) {ten ref : Int} {j : JobG} (hE : submitE B ten ref j = 0) : Ins B.bids.length (newBid B ten ref j) B (submitM (withG B B.log.length) ten ref j) := by
  have e1 : submitM (withG B B.log.length) ten ref j = { (withG B B.log.length).logs (callSubmit ten ref j) with bids := B.bids ++ [newBid B ten ref j] } := by
    unfold submitM
    simp only [show submitE (withG B B.log.length) ten ref j = submitE B ten ref j from rfl]
    rw [if_pos hE]
    rfl
  rw [e1]
  refine ⟨rfl, rfl, rfl, rfl, by simp [withG, MkG.logs], by simp, Nat.le_refl _, by simp, fun i => ?_, rfl, hg, by simp [newBid]⟩
  show ((B.bids ++ [newBid B ten ref j])[sh B.bids.length i]?).map nent = _
  unfold sh
  split
  · rename_i hi
    rw [List.getElem?_append_left hi]
  · rename_i hi
    rw [List.getElem?_eq_none (by simp; omega), List.getElem?_eq_none (by omega)]
/-- what becomes of it -/
def nextB (R : MkG) (c : CallG) (bg : BidG) : BidG := if c.kind = 5 ∧ ¬ R.c.ticks ≤ R.time then bg.expire (R.time + 1) else bg
theorem again_time {R : MkG} (hl : R.log.length < 300) (c : CallG) : (againM R c).time = if c.kind = 5 ∧ ¬ R.c.ticks ≤ R.time then R.time + 1 else R.time := by
  rw [againM_in hl]
  by_cases k1 : c.kind = 1
  · rw [if_pos k1, if_neg (by omega)]
    unfold submitM; simp only; split <;> rfl
  rw [if_neg k1]
  by_cases k2 : c.kind = 2
  · rw [if_pos k2, if_neg (by omega)]
    unfold cancelM; simp only; split <;> rfl
  rw [if_neg k2]
  by_cases k3 : c.kind = 3
  · rw [if_pos k3, if_neg (by omega)]
    unfold capM
    split
    · rfl
    · split <;> rfl
  rw [if_neg k3]
  by_cases k4 : c.kind = 4
  · rw [if_pos k4, if_neg (by omega)]
    unfold suspendM; simp only; split <;> rfl
  rw [if_neg k4]
  by_cases k5 : c.kind = 5
  · rw [if_pos k5]
    unfold tickF
    by_cases ht : R.c.ticks ≤ R.time
    · rw [if_pos ht, if_neg (by omega)]
      rfl
    · rw [if_neg ht, if_pos ⟨k5, ht⟩]
      rfl
  · rw [if_neg k5, if_neg (by omega)]
    rfl
theorem Ins.again {g : Nat} {bg : BidG} {R G : MkG} (h : Ins g bg R G) (hr : RepOk R) (hog : MkOk G) (hg : EntOk G) (hl : R.log.length < 299) {c : CallG} (hc : c.kind = 1 ∨ c.kind = 2 → c.a ≠ bg.ten) : Ins g (nextB R c bg) (againM R c) (againM G c) := by
  rw [againM_in (m := R) (by omega), againM_in (m := G) (by rw [h.log]; omega)]
  unfold nextB
  by_cases k1 : c.kind = 1
  · rw [if_pos k1, if_pos k1, if_neg (by omega)]
    exact h.submit (hc (.inl k1)) _ _
  rw [if_neg k1, if_neg k1]
  by_cases k2 : c.kind = 2
  · rw [if_pos k2, if_pos k2, if_neg (by omega)]
    exact h.cancel (hc (.inr k2)) _
  rw [if_neg k2, if_neg k2]
  by_cases k3 : c.kind = 3
  · rw [if_pos k3, if_pos k3, if_neg (by omega)]
    exact h.cap _ _ _
  rw [if_neg k3, if_neg k3]
  by_cases k4 : c.kind = 4
  · rw [if_pos k4, if_pos k4, if_neg (by omega)]
    exact h.suspend _ _
  rw [if_neg k4, if_neg k4]
  by_cases k5 : c.kind = 5
  · rw [if_pos k5, if_pos k5]
    by_cases ht : R.c.ticks ≤ R.time
    · rw [if_neg (by omega)]
      unfold tickF
      rw [h.c, h.time, if_pos ht, if_pos ht]
      exact h.logs _ _
    · rw [if_pos ⟨k5, ht⟩]
      exact h.tick hr.ok hog hr.ent hg (by omega) ht
  · rw [if_neg k5, if_neg k5, if_neg (by omega)]
    exact h.logs _ _

/-! ### what the one needs, and the other -/
theorem lq_le {gT gK q q' : Nat} {jT jK jq jq' : JobG} (hs : sizeJ jT ≤ sizeJ jK) (h0 : 0 < sizeJ jT) (hg : gT ≤ gK) (hq : 0 < sizeJ jq) (hq' : 0 < sizeJ jq') (v0 : 0 ≤ jq.val) (v0' : 0 ≤ jq'.val) (h : (q = q' ∧ jq = jq') ∨ aheadJ jq jq' q q' = true) : lq gT (sh gT q') jT jq' ≤ lq gK (sh gK q) jK jq := by
  refine (least_iff h0 hq' v0').1 ?_
  have a := (least_iff (gi := gK) (k := sh gK q) (jg := jK) (jk := jq) (v := lq gK (sh gK q) jK jq) (by omega) hq v0).2 (Int.le_refl _)
  generalize lq gK (sh gK q) jK jq = v at *
  rw [aheadJ_iff] at a ⊢
  have eK : sizeJ { jK with val := v } = sizeJ jK := rfl
  have eT : sizeJ { jT with val := v } = sizeJ jT := rfl
  simp only [eK] at a
  simp only [eT]
  have hb : jq'.val * sizeJ jq < jq.val * sizeJ jq' ∨ (jq.val * sizeJ jq' = jq'.val * sizeJ jq ∧ q ≤ q') := by
    rcases h with ⟨rfl, rfl⟩ | h
    · exact .inr ⟨rfl, Nat.le_refl _⟩
    · rw [aheadJ_iff] at h
      rcases h with h | ⟨h, h'⟩
      · exact .inl h
      · exact .inr ⟨h, by omega⟩
  clear h
  generalize sizeJ jT = sT at *
  generalize sizeJ jK = sK at *
  generalize sizeJ jq = s at *
  generalize sizeJ jq' = s' at *
  generalize jq.val = V at *
  generalize jq'.val = V' at *
  have a1 : V * sK ≤ v * s := by omega
  have b1 : V' * s ≤ V * s' := by omega
  have h1 : (V * sK) * s' ≤ (v * s) * s' := Int.mul_le_mul_of_nonneg_right a1 (by omega)
  have h2 : (V' * s) * sK ≤ (V * s') * sK := Int.mul_le_mul_of_nonneg_right b1 (by omega)
  have h3 : (V' * s) * sT ≤ (V' * s) * sK := Int.mul_le_mul_of_nonneg_left hs (Int.mul_nonneg v0' (by omega))
  have e1 : (v * s) * s' = s * (v * s') := by rw [Int.mul_comm v s, Int.mul_assoc]
  have e2 : (V * sK) * s' = (V * s') * sK := Int.mul_right_comm _ _ _
  have e3 : (V' * s) * sT = s * (V' * sT) := by rw [Int.mul_comm V' s, Int.mul_assoc]
  have hle : V' * sT ≤ v * s' := Int.le_of_mul_le_mul_left (a := s) (by omega) hq
  rcases Int.lt_or_le (V' * sT) (v * s') with hx | hx
  · exact .inl hx
  · right
    have hX : v * s' = V' * sT := by omega
    rw [hX] at e1
    have a2 : gK < sh gK q := by
      rcases a with a | a
      · have := Int.mul_lt_mul_of_pos_right a hq'
        omega
      · exact a.2
    have b2 : q ≤ q' := by
      rcases hb with hb | hb
      · have := Int.mul_lt_mul_of_pos_right hb (show 0 < sK by omega)
        omega
      · exact hb.2
    refine ⟨hX, ?_⟩
    unfold sh at a2 ⊢
    split at a2
    · omega
    · rw [if_neg (by omega)]
      omega
theorem wq_mono {res : Int} {jT jK : JobG} {x y : Int} (h : x ≤ y) (hs : sizeJ jT ≤ sizeJ jK) (hr : 0 ≤ res) : wq res jT x ≤ wq res jK y := by
  have h1 := (wq_le (res := res) (jg := jK) (x := y) (v := wq res jK y)).1 (Int.le_refl _)
  have h2 : res * sizeJ jT ≤ res * sizeJ jK := Int.mul_le_mul_of_nonneg_left hs hr
  exact wq_le.2 ⟨by omega, by omega, h1.2.2⟩
theorem fits_less {m : MkG} {bT bK : BidG} {t : Int} (hl : bT.job.len ≤ bK.job.len) (hu : bT.job.units ≤ bK.job.units) (h : fitsB m bK t = true) : fitsB m bT t = true := by
  rw [fitsB_iff] at h ⊢
  intro s hs
  have := h s (by omega)
  omega
theorem Ins.fits2 {gT gK : Nat} {bT bK : BidG} {B G H : MkG} (hT : Ins gT bT B G) (hK : Ins gK bK B H) {t : Int} (hl : bT.job.len ≤ bK.job.len) (hu : bT.job.units ≤ bK.job.units) (h : fitsB H bK t = true) : fitsB G bT t = true := by
  rw [hK.fits (b := bK) rfl] at h
  rw [hT.fits (b := bT) rfl]
  exact fits_less hl hu h

theorem cmp_fold {t : Int} {gT gK : Nat} {bT bK : BidG} (hl : bT.job.len ≤ bK.job.len) (hu : bT.job.units ≤ bK.job.units) : ∀ (l : List Nat) (B G H : MkG) (_o o1 o2 : List (Int × Int)), Ins gT bT B G → Ins gK bK B H → fitsB H bK t = true → l.Pairwise (fun i k => i ≠ k) → l.Pairwise (fun i k => aheadI B.bids i k = true) → Fresh G (l.map (sh gT)) → Fresh H (l.map (sh gK)) →
    (fitsB ((l.map (sh gK)).foldl (tickOne t (some gK)) (H, o2)).1 bK t = true ∧ ((l.map (sh gK)).foldl (tickOne t (some gK)) (H, o2)).1.need = H.need ∧ fitsB ((l.map (sh gT)).foldl (tickOne t (some gT)) (G, o1)).1 bT t = true ∧ ((l.map (sh gT)).foldl (tickOne t (some gT)) (G, o1)).1.need = G.need) ∨
    (fitsB ((l.map (sh gK)).foldl (tickOne t (some gK)) (H, o2)).1 bK t = false ∧ ∃ (q : Nat) (jq : JobG), (B.bids[q]?).map BidG.job = some jq ∧ ((l.map (sh gK)).foldl (tickOne t (some gK)) (H, o2)).1.need = minN H.need (wq B.c.res bK.job (lq gK (sh gK q) bK.job jq)) ∧
      ((fitsB ((l.map (sh gT)).foldl (tickOne t (some gT)) (G, o1)).1 bT t = true ∧ ((l.map (sh gT)).foldl (tickOne t (some gT)) (G, o1)).1.need = G.need) ∨
       (fitsB ((l.map (sh gT)).foldl (tickOne t (some gT)) (G, o1)).1 bT t = false ∧ ∃ (q' : Nat) (jq' : JobG), (B.bids[q']?).map BidG.job = some jq' ∧ (q = q' ∨ aheadI B.bids q q' = true) ∧ ((l.map (sh gT)).foldl (tickOne t (some gT)) (G, o1)).1.need = minN G.need (wq B.c.res bT.job (lq gT (sh gT q') bT.job jq')))))
  | [], B, G, H, o, o1, o2, hT, hK, hf, _, _, _, _ => .inl ⟨hf, rfl, hT.fits2 hK hl hu hf, rfl⟩
  | i :: l, B, G, H, o, o1, o2, hT, hK, hf, hp, hs, hfG, hfH => by
    have hpG : ((i :: l).map (sh gT)).Pairwise (fun i k => i ≠ k) := List.pairwise_map.2 (hp.imp (fun hab e => hab (sh_inj e)))
    have hpH : ((i :: l).map (sh gK)).Pairwise (fun i k => i ≠ k) := List.pairwise_map.2 (hp.imp (fun hab e => hab (sh_inj e)))
    have hnG : gT ∉ (i :: l).map (sh gT) := fun hx => by
      obtain ⟨k, _, e⟩ := List.mem_map.1 hx
      exact sh_ne gT k e
    have hnH : gK ∉ l.map (sh gK) := fun hx => by
      obtain ⟨k, _, e⟩ := List.mem_map.1 hx
      exact sh_ne gK k e
    have hGf := ghost_fold (t := t) ((i :: l).map (sh gT)) G o1 hT.bid hnG hpG hfG
    have h1 := ghost_one (o := o2) (t := t) hK.bid (fun e => sh_ne gK i e.symm) (i := sh gK i) (fun k hk b hb => hfH k (by simp at hk; subst hk; simp) b hb)
    have h1G := ghost_one (o := o1) (t := t) hT.bid (fun e => sh_ne gT i e.symm) (i := sh gT i) (fun k hk b hb => hfG k (by simp at hk; subst hk; simp) b hb)
    have hT1 := hT.one t (some gT) o o1 i
    have hK1 := hK.one t (some gK) o o2 i
    have hal := AlikeM.one t none (B, o) i
    rw [List.pairwise_cons] at hp hs
    have hil : i ∉ l := fun h => hp.1 i h rfl
    have hiG : sh gT i ∉ l.map (sh gT) := fun hx => by
      obtain ⟨k, hk, e⟩ := List.mem_map.1 hx
      rw [sh_inj e] at hk
      exact hil hk
    have hiH : sh gK i ∉ l.map (sh gK) := fun hx => by
      obtain ⟨k, hk, e⟩ := List.mem_map.1 hx
      rw [sh_inj e] at hk
      exact hil hk
    have hfG1 : Fresh (tickOne t (some gT) (G, o1) (sh gT i)).1 (l.map (sh gT)) := Fresh.one (s := (G, o1)) hfG hiG
    have hfH1 : Fresh (tickOne t (some gK) (H, o2) (sh gK i)).1 (l.map (sh gK)) := Fresh.one (s := (H, o2)) hfH hiH
    rw [List.map_cons, List.map_cons, List.foldl_cons, List.foldl_cons]
    rcases h1 with ⟨a1, a2⟩ | ⟨a1, a2, b, hb, a3⟩
    · have hf1 : fitsB (tickOne t (some gK) (H, o2) (sh gK i)).1 bK t = true := a1.trans hf
      have hfT := hT1.fits2 hK1 hl hu hf1
      have hnT : (tickOne t (some gT) (G, o1) (sh gT i)).1.need = G.need := by
        rcases h1G with ⟨_, c2⟩ | ⟨_, c2, _⟩
        · exact c2
        · rw [hfT] at c2; cases c2
      have ih := cmp_fold (t := t) hl hu l (tickOne t none (B, o) i).1 (tickOne t (some gT) (G, o1) (sh gT i)).1 (tickOne t (some gK) (H, o2) (sh gK i)).1 (tickOne t none (B, o) i).2 (tickOne t (some gT) (G, o1) (sh gT i)).2 (tickOne t (some gK) (H, o2) (sh gK i)).2 hT1 hK1 hf1 hp.2 (by
        have : (fun a k => aheadI (tickOne t none (B, o) i).1.bids a k = true) = fun a k => aheadI B.bids a k = true := by
          funext a b
          rw [hal.ahead]
        rw [this]
        exact hs.2) hfG1 hfH1
      rw [hnT, a2] at ih
      have hc : (tickOne t none (B, o) i).1.c = B.c := hal.c
      rcases ih with ih | ⟨i1, q, jq, i2, i3, i4⟩
      · exact .inl ih
      · right
        rw [hal.job q] at i2
        rw [hc] at i3 i4
        refine ⟨i1, q, jq, i2, i3, ?_⟩
        rcases i4 with i4 | ⟨k1, q', jq', k2, k3, k4⟩
        · exact .inl i4
        · right
          rw [hal.job q'] at k2
          rw [hal.ahead] at k3
          exact ⟨k1, q', jq', k2, k3, k4⟩
    · right
      have hrest := ghost_fold (t := t) (l.map (sh gK)) (tickOne t (some gK) (H, o2) (sh gK i)).1 (tickOne t (some gK) (H, o2) (sh gK i)).2 hK1.bid hnH (List.pairwise_cons.1 hpH).2 hfH1
      have hR : fitsB ((l.map (sh gK)).foldl (tickOne t (some gK)) (tickOne t (some gK) (H, o2) (sh gK i))).1 bK t = false ∧ ((l.map (sh gK)).foldl (tickOne t (some gK)) (tickOne t (some gK) (H, o2) (sh gK i))).1.need = (tickOne t (some gK) (H, o2) (sh gK i)).1.need := by
        rcases hrest with ⟨c1, c2⟩ | ⟨c1, _⟩
        · exact ⟨c1.trans a2, c2⟩
        · rw [a2] at c1; cases c1
      obtain ⟨b0, hb0, e0⟩ := hK.down hb
      refine ⟨hR.1, i, b.job, by rw [hb0]; exact congrArg some (nent_job e0).symm, by rw [hR.2, a3, hK.c], ?_⟩
      rw [List.map_cons, List.foldl_cons] at hGf
      rcases hGf with ⟨c1, c2⟩ | ⟨_, c2, q, hq, bq, hbq, c3⟩
      · exact .inl ⟨c1.trans (hT.fits2 hK hl hu hf), c2⟩
      · right
        obtain ⟨q', hq', rfl⟩ := List.mem_map.1 (show q ∈ (i :: l).map (sh gT) from hq)
        obtain ⟨b1, hb1, e1⟩ := hT.down hbq
        refine ⟨c2, q', bq.job, by rw [hb1]; exact congrArg some (nent_job e1).symm, ?_, by rw [c3, hT.c]⟩
        rcases List.mem_cons.1 hq' with rfl | hq'
        · exact .inl rfl
        · exact .inr (hs.1 q' hq')
end Go.Proofs.Ytminceigjejipaa

/-
  NOBODY GAINS BY LYING, the heart of it: a bid that starts no earlier, must end no later, is no shorter and no smaller, and comes no sooner, needs no less. Nothing of the program.
-/
namespace Go.Proofs.Ytminceigjejipaa

theorem ghostI_one {m : MkG} (hent : EntOk m) {g : Nat} {b : BidG} (hb : m.bids[g]? = some b) (he : b.entry = m.ghost) (t : Int) : ghostI m t = if b.openB m t = true then some g else none := by
  have hlt := (List.getElem?_eq_some_iff.1 hb).1
  have hge := (List.getElem?_eq_some_iff.1 hb).2
  unfold ghostI
  split
  · rename_i ho
    refine List.findIdx?_eq_some_iff_getElem.2 ⟨hlt, ?_, fun j hj => ?_⟩
    · rw [hge]
      simp [ho, he]
    · have hjl : j < m.bids.length := by omega
      have hbj := List.getElem?_eq_getElem hjl
      have : m.bids[j].entry ≠ m.ghost := fun e => by
        have := hent.uniq hbj hb (by rw [e, he])
        omega
      simp [this]
  · rename_i ho
    rw [List.findIdx?_eq_none_iff]
    intro x hx
    obtain ⟨k, hk⟩ := List.getElem?_of_mem hx
    by_cases e : x.entry = m.ghost
    · have hkg := hent.uniq hk hb (by rw [e, he])
      subst hkg
      rw [hk] at hb
      obtain rfl := Option.some.inj hb
      simp [ho]
    · simp [e]

/-! ### a need is never below 0 -/
theorem nn_want (m : MkG) (g : Nat) (x : Int) (h : 0 ≤ m.need) : 0 ≤ (wantM m g x).need := by
  have := wantV_pos m g x
  rw [want_need]
  unfold minN
  split <;> omega
theorem nn_one (t : Int) (g : Option Nat) (s : TkS) (i : Nat) (h : 0 ≤ s.1.need) : 0 ≤ (tickOne t g s i).1.need := by
  unfold tickOne
  split
  · exact h
  · split
    · cases g with
      | none => rw [need_start]; exact h
      | some gi =>
        simp only
        split
        · exact nn_want _ _ _ (by rw [need_start]; exact h)
        · rw [need_start]; exact h
    · exact h
theorem nn_fold (t : Int) (g : Option Nat) : ∀ (l : List Nat) (s : TkS), 0 ≤ s.1.need → 0 ≤ (l.foldl (tickOne t g) s).1.need
  | [], _, h => h
  | i :: l, s, h => nn_fold t g l _ (nn_one t g s i h)
theorem nn_tick (m : MkG) (h : 0 ≤ m.need) : 0 ≤ (tickF m).need := by
  unfold tickF
  split
  · exact h
  · have h1 := nn_fold m.time (ghostI (m.logs callTick) m.time) (orderL m m.time) (m.logs callTick, []) h
    show 0 ≤ (wantEnd m.time (ghostI (m.logs callTick) m.time) (tickFold m.time (ghostI (m.logs callTick) m.time) (m.logs callTick) (orderL m m.time)).1).need
    unfold tickFold wantEnd
    cases hg : ghostI (m.logs callTick) m.time with
    | none => rw [hg] at h1; exact h1
    | some gi =>
      rw [hg] at h1
      simp only
      split
      · exact nn_want _ _ _ h1
      · exact h1
theorem again_five {m : MkG} (hl : m.log.length < 300) {c : CallG} (hk : c.kind = 5) : againM m c = tickF m := by
  rw [againM_in hl, if_neg (by omega), if_neg (by omega), if_neg (by omega), if_neg (by omega), if_pos hk]
theorem nn_again {m : MkG} (hl : m.log.length < 300) (c : CallG) (h : 0 ≤ m.need) : 0 ≤ (againM m c).need := by
  by_cases hk : c.kind = 5
  · rw [again_five hl hk]
    exact nn_tick m h
  · rw [need_other hk]
    exact h
theorem minN_cmp {G H x y : Int} (h : H = 0 ∨ (0 < G ∧ G ≤ H)) (hg : 0 ≤ G) (hx : 1 ≤ x) (hy : x ≤ y) : minN H y = 0 ∨ (0 < minN G x ∧ minN G x ≤ minN H y) := by
  unfold minN
  split <;> split <;> omega

/-! ### both -/
structure Both (gT gK : Nat) (bT bK : BidG) (B G H : MkG) : Prop where
  rep : RepOk B
  okG : MkOk G
  okH : MkOk H
  entG : EntOk G
  entH : EntOk H
  iT : Ins gT bT B G
  iK : Ins gK bK B H
  le : gT ≤ gK
  ten : bT.ten = bK.ten
  arr : bT.arrival ≤ bK.arrival
  len : bT.job.len ≤ bK.job.len
  units : bT.job.units ≤ bK.job.units
  dl : bK.job.dl ≤ bT.job.dl
  st : bK.state = 1 → bT.state = 1
  g0 : 0 ≤ G.need
  need : H.need = 0 ∨ (0 < G.need ∧ G.need ≤ H.need)
section
variable {gT gK : Nat} {bT bK : BidG} {B G H : MkG}
theorem Both.sizes (h : Both gT gK bT bK B G H) : 0 < sizeJ bT.job ∧ sizeJ bT.job ≤ sizeJ bK.job := by
  have h1 := h.okG.sizes bT (List.mem_of_getElem? h.iT.bid)
  refine ⟨h1, ?_⟩
  have hj := jobIn_true (h.okG.bid bT (List.mem_of_getElem? h.iT.bid)).job
  have hjK := jobIn_true (h.okH.bid bK (List.mem_of_getElem? h.iK.bid)).job
  have hl := h.len
  have hu := h.units
  unfold sizeJ
  have a1 : bT.job.len * bT.job.units ≤ bK.job.len * bT.job.units := Int.mul_le_mul_of_nonneg_right hl (by omega)
  have a2 : bK.job.len * bT.job.units ≤ bK.job.len * bK.job.units := Int.mul_le_mul_of_nonneg_left hu (by omega)
  omega
theorem ins_end {g : Nat} {bg : BidG} {R G : MkG} (h : Ins g bg R G) (t : Int) : (wantEnd t (some g) G).need = if fitsB G bg t = true then minN G.need (wq R.c.res bg.job 0) else G.need := by
  unfold wantEnd
  simp only [roomB, h.bid]
  by_cases hf : fitsB G bg t = true
  · rw [if_pos hf, if_pos hf, want_need, wantV_eq h.bid, h.c]
  · rw [if_neg hf, if_neg hf]
theorem Ins.fresh {g : Nat} {bg : BidG} {R G : MkG} (h : Ins g bg R G) {c : CfgG} (hok : ∀ b ∈ R.bids, BidOk c b) {t : Int} {l : List Nat} (hl : IsOrder R t l) : Fresh G (l.map (sh g)) := fun i hi b hb => by
  obtain ⟨k, hk, rfl⟩ := List.mem_map.1 hi
  obtain ⟨b0, hb0, e⟩ := h.down hb
  obtain ⟨b1, hb1, hc⟩ := (hl.mem k).1 hk
  rw [hb0] at hb1
  obtain rfl := Option.some.inj hb1
  unfold candB BidG.openB at hc
  simp only [Bool.and_eq_true] at hc
  have hs : b0.state = 1 := by simpa using hc.1.1.1.1
  have := jobIn_true (hok b0 (List.mem_of_getElem? hb0)).job
  rw [nent_state e, nent_job e]
  exact ⟨by omega, by omega⟩
theorem Both.tick (h : Both gT gK bT bK B G H) (ht : ¬ B.c.ticks ≤ B.time) : (tickF H).need = 0 ∨ (0 < (tickF G).need ∧ (tickF G).need ≤ (tickF H).need) := by
  have hsame : (tickF H).need = H.need → (tickF H).need = 0 ∨ (0 < (tickF G).need ∧ (tickF G).need ≤ (tickF H).need) := fun e => by
    rw [e]
    rcases h.need with a | a
    · exact .inl a
    · right
      have := need_tick G a.1
      omega
  have ho := orderL_is (m := B) (t := B.time) h.rep.ok.sizes
  have eG : orderL G B.time = (orderL B B.time).map (sh gT) := (orderL_is (m := G) (t := B.time) h.okG.sizes).unique (h.iT.order h.rep.ent h.entG ho)
  have eH : orderL H B.time = (orderL B B.time).map (sh gK) := (orderL_is (m := H) (t := B.time) h.okH.sizes).unique (h.iK.order h.rep.ent h.entH ho)
  have gH : ghostI (H.logs callTick) B.time = if bK.openB H B.time = true then some gK else none := ghostI_one h.entH h.iK.bid h.iK.gh.symm B.time
  have gG : ghostI (G.logs callTick) B.time = if bT.openB G B.time = true then some gT else none := ghostI_one h.entG h.iT.bid h.iT.gh.symm B.time
  have tH : (tickF H).need = (wantEnd B.time (ghostI (H.logs callTick) B.time) (((orderL B B.time).map (sh gK)).foldl (tickOne B.time (ghostI (H.logs callTick) B.time)) (H.logs callTick, [])).1).need := by
    unfold tickF
    rw [h.iK.c, h.iK.time, if_neg ht, eH]
    unfold tickM
    simp only [h.iK.time]
    rfl
  have tG : (tickF G).need = (wantEnd B.time (ghostI (G.logs callTick) B.time) (((orderL B B.time).map (sh gT)).foldl (tickOne B.time (ghostI (G.logs callTick) B.time)) (G.logs callTick, [])).1).need := by
    unfold tickF
    rw [h.iT.c, h.iT.time, if_neg ht, eG]
    unfold tickM
    simp only [h.iT.time]
    rfl
  by_cases hoK : bK.openB H B.time = true
  · have hoT : bT.openB G B.time = true := by
      unfold BidG.openB suspAt at hoK ⊢
      simp only [Bool.and_eq_true, decide_eq_true_eq, beq_iff_eq] at hoK ⊢
      obtain ⟨⟨⟨k1, k2⟩, k3⟩, k4⟩ := hoK
      have := h.arr
      have := h.len
      have := h.dl
      refine ⟨⟨⟨h.st k1, ?_⟩, by omega⟩, by omega⟩
      rw [h.iT.susp, h.ten, ← h.iK.susp]
      exact k2
    rw [if_pos hoK] at gH
    rw [if_pos hoT] at gG
    rw [gH] at tH
    rw [gG] at tG
    have iT1 := h.iT.logs callTick callTick
    have iK1 := h.iK.logs callTick callTick
    have fT := iT1.fresh h.rep.ok.bid (t := B.time) (l := orderL B B.time) ⟨ho.mem, ho.sorted⟩
    have fK := iK1.fresh h.rep.ok.bid (t := B.time) (l := orderL B B.time) ⟨ho.mem, ho.sorted⟩
    have eT := ins_end (Ins.fold B.time (some gT) (orderL B B.time) (B.logs callTick, []) (G.logs callTick, []) iT1) B.time
    have eK := ins_end (Ins.fold B.time (some gK) (orderL B B.time) (B.logs callTick, []) (H.logs callTick, []) iK1) B.time
    have hcB : ((orderL B B.time).foldl (tickOne B.time none) (B.logs callTick, [])).1.c = B.c := (AlikeM.fold B.time none (orderL B B.time) (B.logs callTick, [])).c
    rw [hcB] at eT eK
    rw [← tG] at eT
    rw [← tH] at eK
    have hpw : (orderL B B.time).Pairwise (fun i k => i ≠ k) := List.Pairwise.imp (fun {a b} hab => by rintro rfl; rw [aheadI_irrefl] at hab; cases hab) ho.sorted
    obtain ⟨hs1, hs2⟩ := h.sizes
    have hres := (cfgOk_true h.rep.ok.ck).2.2.1.1
    by_cases hf : fitsB (H.logs callTick) bK B.time = true
    · have hc := cmp_fold (t := B.time) h.len h.units (orderL B B.time) (B.logs callTick) (G.logs callTick) (H.logs callTick) [] [] [] iT1 iK1 hf hpw ho.sorted fT fK
      rcases hc with ⟨c1, c2, c3, c4⟩ | ⟨c1, q, jq, c2, c3, c4⟩
      · rw [if_pos c1, c2] at eK
        rw [if_pos c3, c4] at eT
        rw [eK, eT]
        exact minN_cmp h.need h.g0 (wq_pos _ _ _) (wq_mono (Int.le_refl _) hs2 hres)
      · rw [if_neg (by rw [c1]; decide), c3] at eK
        have hq : ∀ (q : Nat) (jq : JobG), ((B.logs callTick).bids[q]?).map BidG.job = some jq → 0 < sizeJ jq ∧ 0 ≤ jq.val ∧ ∃ b, B.bids[q]? = some b ∧ b.job = jq := fun q jq hq => by
          cases hb : B.bids[q]? with
          | none =>
            rw [show (B.logs callTick).bids[q]? = none from hb] at hq
            cases hq
          | some b =>
            rw [show (B.logs callTick).bids[q]? = some b from hb] at hq
            obtain rfl := Option.some.inj hq
            have hm := List.mem_of_getElem? hb
            have := jobIn_true (h.rep.ok.bid b hm).job
            exact ⟨h.rep.ok.sizes b hm, by show 0 ≤ b.job.val; omega, b, rfl, rfl⟩
        obtain ⟨q1, q2, b, hb, eb⟩ := hq q jq c2
        have hl0 : 0 ≤ lq gK (sh gK q) bK.job jq := by
          have hv : 0 ≤ jq.val * sizeJ bK.job := Int.mul_nonneg q2 (by omega)
          have : 0 ≤ (jq.val * sizeJ bK.job).tdiv (sizeJ jq) := Int.tdiv_nonneg hv (by omega)
          unfold lq
          simp only
          split <;> omega
        rcases c4 with ⟨c4, c5⟩ | ⟨c4, q', jq', c5, c6, c7⟩
        · rw [if_pos c4, c5] at eT
          rw [eK, eT]
          exact minN_cmp h.need h.g0 (wq_pos _ _ _) (wq_mono hl0 hs2 hres)
        · rw [if_neg (by rw [c4]; decide), c7] at eT
          rw [eK, eT]
          obtain ⟨r1, r2, b', hb', eb'⟩ := hq q' jq' c5
          refine minN_cmp h.need h.g0 (wq_pos _ _ _) (wq_mono (lq_le hs2 hs1 h.le q1 r1 q2 r2 ?_) hs2 hres)
          rcases c6 with rfl | c6
          · left
            rw [hb] at hb'
            obtain rfl := Option.some.inj hb'
            exact ⟨rfl, by rw [← eb, ← eb']⟩
          · right
            obtain ⟨x, y, hx, hy, hxy⟩ := aheadI_some c6
            have hx' : B.bids[q]? = some x := hx
            have hy' : B.bids[q']? = some y := hy
            rw [hb] at hx'
            rw [hb'] at hy'
            obtain rfl := Option.some.inj hx'
            obtain rfl := Option.some.inj hy'
            rw [← eb, ← eb']
            exact hxy
    · apply hsame
      have hf' : fitsB (H.logs callTick) bK B.time = false := by simpa using hf
      have hnH : gK ∉ (orderL B B.time).map (sh gK) := fun hx => by
        obtain ⟨k, _, e⟩ := List.mem_map.1 hx
        exact sh_ne gK k e
      rcases ghost_fold (t := B.time) ((orderL B B.time).map (sh gK)) (H.logs callTick) [] iK1.bid hnH (List.pairwise_map.2 (hpw.imp (fun hab e => hab (sh_inj e)))) fK with ⟨a1, a2⟩ | ⟨a1, _⟩
      · rw [a1, hf', if_neg (by decide), a2] at eK
        exact eK
      · rw [hf'] at a1; cases a1
  · apply hsame
    rw [if_neg hoK] at gH
    rw [tH, gH]
    exact need_none B.time _ (H.logs callTick, [])
end
theorem nextB_key (R : MkG) (c : CallG) (b : BidG) : (nextB R c b).ten = b.ten ∧ (nextB R c b).arrival = b.arrival ∧ (nextB R c b).job = b.job := by
  unfold nextB BidG.expire
  split
  · split <;> exact ⟨rfl, rfl, rfl⟩
  · exact ⟨rfl, rfl, rfl⟩
section
variable {gT gK : Nat} {bT bK : BidG} {B G H : MkG}
theorem Both.again (h : Both gT gK bT bK B G H) (hl : B.log.length < 299) {c : CallG} (hc : c.kind = 1 ∨ c.kind = 2 → c.a ≠ bT.ten) : Both gT gK (nextB B c bT) (nextB B c bK) (againM B c) (againM G c) (againM H c) := by
  have lG := h.iT.log
  have lH := h.iK.log
  obtain ⟨t1, t2, t3⟩ := nextB_key B c bT
  obtain ⟨k1, k2, k3⟩ := nextB_key B c bK
  refine ⟨h.rep.again (by omega) c, h.okG.again c, h.okH.again c, h.entG.again (by omega) c, h.entH.again (by omega) c, h.iT.again h.rep h.okG h.entG hl hc, h.iK.again h.rep h.okH h.entH hl (fun x => by rw [← h.ten]; exact hc x), h.le, by rw [t1, k1]; exact h.ten, by rw [t2, k2]; exact h.arr, by rw [t3, k3]; exact h.len, by rw [t3, k3]; exact h.units, by rw [t3, k3]; exact h.dl, ?_, nn_again (by omega) c h.g0, ?_⟩
  · unfold nextB
    split
    · intro hx
      have h1 := h.len
      have h2 := h.dl
      have h3 := h.st
      unfold BidG.expire at hx ⊢
      simp only [Bool.and_eq_true, decide_eq_true_eq, beq_iff_eq] at hx ⊢
      split at hx
      · simp at hx
      · rename_i hn
        have := h3 hx
        rw [if_neg (by omega)]
        exact this
    · exact h.st
  · by_cases hk : c.kind = 5
    · rw [again_five (by omega) hk, again_five (by omega) hk]
      by_cases ht : B.c.ticks ≤ B.time
      · have e1 : (tickF G).need = G.need := by unfold tickF; rw [h.iT.c, h.iT.time, if_pos ht]; rfl
        have e2 : (tickF H).need = H.need := by unfold tickF; rw [h.iK.c, h.iK.time, if_pos ht]; rfl
        rw [e1, e2]
        exact h.need
      · exact h.tick ht
    · rw [need_other hk, need_other hk]
      exact h.need
theorem Both.fold : ∀ (l : List CallG) {bT bK : BidG} {B G H : MkG}, Both gT gK bT bK B G H → B.log.length + l.length ≤ 299 → (∀ x ∈ l, x.kind = 1 ∨ x.kind = 2 → x.a ≠ bT.ten) → ∃ bT' bK', Both gT gK bT' bK' (l.foldl againM B) (l.foldl againM G) (l.foldl againM H)
  | [], bT, bK, _, _, _, h, _, _ => ⟨bT, bK, h⟩
  | c :: l, bT, bK, B, _, _, h, hl, hc => by
    simp only [List.length_cons] at hl
    have h1 := again_log (m := B) (by omega) c
    exact Both.fold l (h.again (by omega) (hc c List.mem_cons_self)) (by omega) (fun x hx => by rw [(nextB_key B c bT).1]; exact hc x (List.mem_cons_of_mem _ hx))

/-! ### the one that was submitted first, alone -/
structure One (g : Nat) (bT : BidG) (B G : MkG) : Prop where
  rep : RepOk B
  okG : MkOk G
  entG : EntOk G
  iT : Ins g bT B G
  g0 : 0 ≤ G.need
  live : bT.state = 1 ∨ bT.job.dl < B.time + bT.job.len
  arr : bT.arrival ≤ B.time ∨ bT.arrival ≤ bT.job.arr
theorem One.again {g : Nat} (h : One g bT B G) (hl : B.log.length < 299) {c : CallG} (hc : c.kind = 1 ∨ c.kind = 2 → c.a ≠ bT.ten) : One g (nextB B c bT) (againM B c) (againM G c) := by
  have lG := h.iT.log
  obtain ⟨t1, t2, t3⟩ := nextB_key B c bT
  have htm := again_time (R := B) (by omega) c
  have hmono : B.time ≤ (againM B c).time := by rw [htm]; split <;> omega
  refine ⟨h.rep.again (by omega) c, h.okG.again c, h.entG.again (by omega) c, h.iT.again h.rep h.okG h.entG hl hc, nn_again (by omega) c h.g0, ?_, ?_⟩
  · rw [t3]
    rcases h.live with hs | hs
    · unfold nextB
      by_cases hcd : c.kind = 5 ∧ ¬ B.c.ticks ≤ B.time
      · rw [if_pos hcd]
        rw [if_pos hcd] at htm
        unfold BidG.expire
        by_cases hx : (bT.state == 1 && decide (bT.job.dl < B.time + 1 + bT.job.len)) = true
        · right
          simp only [Bool.and_eq_true, decide_eq_true_eq] at hx
          omega
        · left
          rw [if_neg hx]
          exact hs
      · rw [if_neg hcd]
        exact .inl hs
    · right
      omega
  · rw [t2, t3]
    rcases h.arr with ha | ha
    · left
      omega
    · exact .inr ha
theorem One.fold {g : Nat} : ∀ (l : List CallG) {bT : BidG} {B G : MkG}, One g bT B G → B.log.length + l.length ≤ 299 → (∀ x ∈ l, x.kind = 1 ∨ x.kind = 2 → x.a ≠ bT.ten) → ∃ bT', One g bT' (l.foldl againM B) (l.foldl againM G) ∧ bT'.ten = bT.ten ∧ bT'.job = bT.job
  | [], bT, _, _, h, _, _ => ⟨bT, h, rfl, rfl⟩
  | c :: l, bT, B, _, h, hl, hc => by
    simp only [List.length_cons] at hl
    have h1 := again_log (m := B) (by omega) c
    obtain ⟨k1, _, k3⟩ := nextB_key B c bT
    obtain ⟨b', h2, h3, h4⟩ := One.fold l (h.again (by omega) (hc c List.mem_cons_self)) (by omega) (fun x hx => by rw [k1]; exact hc x (List.mem_cons_of_mem _ hx))
    exact ⟨b', h2, h3.trans k1, h4.trans k3⟩
end
theorem withG_ok {B : MkG} (h : RepOk B) (e : Int) : MkOk (withG B e) ∧ EntOk (withG B e) :=
  ⟨⟨h.ok.ck, h.ok.nu, h.ok.ns, h.ok.np, h.ok.nl, h.ok.nb, h.ok.t0, h.ok.t1, h.ok.un, h.ok.bid⟩, ⟨h.ent.lt, h.ent.in'⟩⟩
theorem submitE_done {m : MkG} {ten ref : Int} {j : JobG} (h : submitE m ten ref j = 0) : m.tenB ten = true ∧ suspAt m ten = false ∧ refB m ten ref = false ∧ m.jobB j = true ∧ pendL m.bids ten < m.c.quo := by
  cases hT : m.tenB ten
  · simp [submitE, hT] at h
  cases hS : suspAt m ten
  · cases hR : refB m ten ref
    · cases hJ : m.jobB j
      · simp [submitE, hT, hS, hR, hJ] at h
      · simp [submitE, hT, hS, hR, hJ] at h
        exact ⟨rfl, rfl, rfl, rfl, h⟩
    · simp [submitE, hT, hS, hR] at h
  · simp [submitE, hT, hS] at h

/-- THE HEART: a job that asks for more needs no less -/
theorem need_le {c : CfgG} (hc : cfgOk c = true) {pre mid post : List CallG} {a r : Int} {jT jK : JobG} (hlen : pre.length + mid.length + post.length + 1 ≤ 300) (hno : ∀ x ∈ mid ++ post, x.kind = 1 ∨ x.kind = 2 → x.a ≠ a) (hT : submitE (replay c pre) a r jT = 0) (hK : submitE (replay c (pre ++ mid)) a r jK = 0) (harr : jT.arr ≤ jK.arr) (hdl : jK.dl ≤ jT.dl) (hln : jT.len ≤ jK.len) (hun : jT.units ≤ jK.units) :
    (replayG c ((pre ++ mid).length : Nat) (pre ++ mid ++ callSubmit a r jK :: post)).need = 0 ∨ (0 < (replayG c (pre.length : Nat) (pre ++ callSubmit a r jT :: (mid ++ post))).need ∧ (replayG c (pre.length : Nat) (pre ++ callSubmit a r jT :: (mid ++ post))).need ≤ (replayG c ((pre ++ mid).length : Nat) (pre ++ mid ++ callSubmit a r jK :: post)).need) := by
  have hlo : (openM c).log.length = 0 := rfl
  have hr0 := RepOk.open hc
  have hrP : RepOk (replay c pre) := hr0.fold _ (by omega)
  have hrM : RepOk (replay c (pre ++ mid)) := hr0.fold _ (by rw [List.length_append]; omega)
  have hlP : (replay c pre).log.length = pre.length := by
    unfold replay
    rw [fold_log _ _ (by omega)]
    omega
  have hlM : (replay c (pre ++ mid)).log.length = (pre ++ mid).length := by
    unfold replay
    rw [fold_log _ _ (by rw [List.length_append]; omega)]
    omega
  have eM : replay c (pre ++ mid) = mid.foldl againM (replay c pre) := by
    unfold replay
    rw [List.foldl_append]
  -- the true one, submitted
  have sT : againM (withG (replay c pre) (pre.length : Nat)) (callSubmit a r jT) = submitM (withG (replay c pre) (replay c pre).log.length) a r jT := by
    rw [hlP]
    exact again_submit (R := withG (replay c pre) (pre.length : Nat)) (by show (replay c pre).log.length < 300; omega) a r jT
  have eT : replayG c (pre.length : Nat) (pre ++ callSubmit a r jT :: (mid ++ post)) = post.foldl againM (mid.foldl againM (submitM (withG (replay c pre) (replay c pre).log.length) a r jT)) := by
    unfold replayG
    rw [List.foldl_append, List.foldl_cons, List.foldl_append, ← sT]
    rw [show ghostOpen c (pre.length : Nat) = withG (openM c) (pre.length : Nat) from rfl, pre_foldl (by omega) pre hr0 (by omega)]
    rfl
  have sK : againM (withG (replay c (pre ++ mid)) ((pre ++ mid).length : Nat)) (callSubmit a r jK) = submitM (withG (replay c (pre ++ mid)) (replay c (pre ++ mid)).log.length) a r jK := by
    rw [hlM]
    exact again_submit (R := withG (replay c (pre ++ mid)) ((pre ++ mid).length : Nat)) (by show (replay c (pre ++ mid)).log.length < 300; rw [hlM, List.length_append]; omega) a r jK
  have eK : replayG c ((pre ++ mid).length : Nat) (pre ++ mid ++ callSubmit a r jK :: post) = post.foldl againM (submitM (withG (replay c (pre ++ mid)) (replay c (pre ++ mid)).log.length) a r jK) := by
    unfold replayG
    rw [List.foldl_append, List.foldl_cons, ← sK]
    rw [show ghostOpen c ((pre ++ mid).length : Nat) = withG (openM c) ((pre ++ mid).length : Nat) from rfl, pre_foldl (by rw [List.length_append]; omega) (pre ++ mid) hr0 (by omega)]
    rfl
  have okT : MkOk (submitM (withG (replay c pre) (replay c pre).log.length) a r jT) ∧ EntOk (submitM (withG (replay c pre) (replay c pre).log.length) a r jT) := by
    rw [← sT]
    have hw := withG_ok hrP ((pre.length : Nat) : Int)
    exact ⟨hw.1.again _, hw.2.again (by show (replay c pre).log.length < 300; omega) _⟩
  have okK : MkOk (submitM (withG (replay c (pre ++ mid)) (replay c (pre ++ mid)).log.length) a r jK) ∧ EntOk (submitM (withG (replay c (pre ++ mid)) (replay c (pre ++ mid)).log.length) a r jK) := by
    rw [← sK]
    have hw := withG_ok hrM (((pre ++ mid).length : Nat) : Int)
    exact ⟨hw.1.again _, hw.2.again (by show (replay c (pre ++ mid)).log.length < 300; rw [hlM, List.length_append]; omega) _⟩
  have hn0 : ∀ (B : MkG) (e : Int) (j : JobG), (submitM (withG B e) a r j).need = B.need := fun B e j => by
    unfold submitM; simp only; split <;> rfl
  have nP : (replay c pre).need = 0 := by
    unfold replay
    rw [need_zero _ hr0 (by omega)]
    rfl
  have nM : (replay c (pre ++ mid)).need = 0 := by
    unfold replay
    rw [need_zero _ hr0 (by rw [List.length_append]; omega)]
    rfl
  have one0 : One (replay c pre).bids.length (newBid (replay c pre) a r jT) (replay c pre) (submitM (withG (replay c pre) (replay c pre).log.length) a r jT) := by
    refine ⟨hrP, okT.1, okT.2, Ins.begin hrP.gh hT, by rw [hn0, nP]; decide, .inl rfl, ?_⟩
    show atOf (replay c pre).time jT ≤ (replay c pre).time ∨ atOf (replay c pre).time jT ≤ jT.arr
    unfold atOf
    split <;> omega
  obtain ⟨bT, one1, hten, hjob⟩ := One.fold mid one0 (by omega) (fun x hx => hno x (List.mem_append_left _ hx))
  have hten' : bT.ten = a := hten
  have hjob' : bT.job = jT := hjob
  rw [← eM] at one1
  have iK := Ins.begin (ref := r) hrM.gh hK
  have hjK := (submitE_done hK).2.2.2.1
  have hjb : atOf (replay c (pre ++ mid)).time jK + jK.len ≤ jK.dl := by
    unfold MkG.jobB at hjK
    rw [Bool.and_eq_true] at hjK
    exact of_decide_eq_true hjK.2
  have hat : (replay c (pre ++ mid)).time ≤ atOf (replay c (pre ++ mid)).time jK ∧ jK.arr ≤ atOf (replay c (pre ++ mid)).time jK := by
    unfold atOf
    split <;> omega
  have both0 : Both (replay c pre).bids.length (replay c (pre ++ mid)).bids.length bT (newBid (replay c (pre ++ mid)) a r jK) (replay c (pre ++ mid)) (mid.foldl againM (submitM (withG (replay c pre) (replay c pre).log.length) a r jT)) (submitM (withG (replay c (pre ++ mid)) (replay c (pre ++ mid)).log.length) a r jK) := by
    refine ⟨hrM, one1.okG, okK.1, one1.entG, okK.2, one1.iT, iK, one1.iT.gl, hten', ?_, by rw [hjob']; exact hln, by rw [hjob']; exact hun, by rw [hjob']; exact hdl, fun _ => ?_, one1.g0, .inl (by rw [hn0, nM])⟩
    · show bT.arrival ≤ atOf (replay c (pre ++ mid)).time jK
      rcases one1.arr with h | h
      · omega
      · rw [hjob'] at h
        omega
    · rcases one1.live with h | h
      · exact h
      · rw [hjob'] at h
        omega
  have hb := Both.fold post both0 (by rw [hlM, List.length_append]; omega) (fun x hx => by rw [hten']; exact hno x (List.mem_append_right _ hx))
  obtain ⟨_, _, hb⟩ := hb
  rw [eT, eK]
  exact hb.need
end Go.Proofs.Ytminceigjejipaa

/-
  WHAT A TENANT GAINS, of the log of a market: nothing of the program but a step's data.
-/
namespace Go.Proofs.Ytminceigjejipaa
open Go.RowKit

/-! ### the calls of a case's steps -/
def logU (st : Nat → StepG) : Nat → List CallG
  | 0 => []
  | k + 1 => logU st k ++ (if 1 ≤ (st k).kind ∧ (st k).kind ≤ 7 then [callOfS (st k)] else [])
theorem logU_add (st : Nat → StepG) (i : Nat) : ∀ k, logU st (i + k) = logU st i ++ logU (fun n => st (i + n)) k
  | 0 => by simp [logU]
  | k + 1 => by
    rw [← Nat.add_assoc]
    simp only [logU]
    rw [logU_add st i k, List.append_assoc]
theorem logU_congr {st st' : Nat → StepG} : ∀ k, (∀ n, n < k → st n = st' n) → logU st k = logU st' k
  | 0, _ => rfl
  | k + 1, h => by
    simp only [logU]
    rw [logU_congr k (fun n hn => h n (by omega)), h k (by omega)]
theorem logU_le (st : Nat → StepG) {i k : Nat} (h : i ≤ k) : (logU st i).length ≤ (logU st k).length := by
  obtain ⟨d, rfl⟩ := Nat.exists_eq_add_of_le h
  rw [logU_add, List.length_append]
  omega
theorem logN_logU (st : Nat → StepG) : ∀ k, (logU st k).length ≤ 300 → logN st k = logU st k
  | 0, _ => rfl
  | k + 1, h => by
    have h1 := logU_le st (show k ≤ k + 1 by omega)
    have ih := logN_logU st k (by omega)
    simp only [logN, logU] at h ⊢
    rw [ih]
    unfold logStep
    by_cases hk : 1 ≤ (st k).kind ∧ (st k).kind ≤ 7
    · rw [if_pos hk] at h ⊢
      rw [if_pos ⟨by simp at h; omega, hk⟩]
    · rw [if_neg hk, if_neg (fun hx => hk hx.2), List.append_nil]
theorem logU_mem {st : Nat → StepG} {x : CallG} : ∀ {k : Nat}, x ∈ logU st k → ∃ n, n < k ∧ x = callOfS (st n)
  | 0, h => by simp [logU] at h
  | k + 1, h => by
    simp only [logU] at h
    rcases List.mem_append.1 h with h | h
    · obtain ⟨n, hn, e⟩ := logU_mem h
      exact ⟨n, by omega, e⟩
    · split at h
      · simp at h
        exact ⟨k, by omega, h⟩
      · simp at h
/-- another step, ahead of step p -/
def stI (st : Nat → StepG) (p : Nat) (s : StepG) (n : Nat) : StepG := if n < p then st n else if n = p then s else st (n - 1)
def restU (st : Nat → StepG) (p k : Nat) : List CallG := logU (fun n => st (p + n)) (k - p)
theorem logU_rest (st : Nat → StepG) {p k : Nat} (h : p ≤ k) : logU st k = logU st p ++ restU st p k := by
  unfold restU
  conv => lhs; rw [show k = p + (k - p) by omega]
  exact logU_add st p (k - p)
theorem logU_low {st : Nat → StepG} {p : Nat} {s : StepG} {k : Nat} (h : k ≤ p) : logU (stI st p s) k = logU st k := logU_congr k (fun n hn => by unfold stI; rw [if_pos (by omega)])
theorem logU_stI {st : Nat → StepG} {p : Nat} {s : StepG} {k : Nat} (hs : s.kind = 1) (h : p ≤ k) : logU (stI st p s) (k + 1) = logU st p ++ callOfS s :: restU st p k := by
  rw [show k + 1 = p + (1 + (k - p)) by omega, logU_add, logU_low (Nat.le_refl _), logU_add]
  congr 1
  have e1 : logU (fun n => stI st p s (p + n)) 1 = [callOfS s] := by
    have : stI st p s (p + 0) = s := by unfold stI; rw [if_neg (by omega), if_pos (by omega)]
    simp only [logU, List.nil_append, this]
    rw [if_pos (by omega)]
  have e2 : logU (fun n => stI st p s (p + (1 + n))) (k - p) = restU st p k := by
    unfold restU
    refine logU_congr _ (fun n _ => ?_)
    unfold stI
    rw [if_neg (by omega), if_neg (by omega), show p + (1 + n) - 1 = p + n by omega]
  rw [e1, e2]
  rfl
theorem restU_split (st : Nat → StepG) {p q k : Nat} (h : p ≤ q) (h2 : q ≤ k) : restU st p k = restU st p q ++ restU st q k := by
  unfold restU
  rw [show k - p = (q - p) + (k - q) by omega, logU_add]
  congr 1
  refine logU_congr _ (fun n _ => ?_)
  show st (p + ((q - p) + n)) = st (q + n)
  congr 1
  omega

/-! ### who has bids -/
/-- no call of these is one with which tenant a submits or cancels -/
def NoCall (a : Int) (l : List CallG) : Prop := ∀ x ∈ l, x.kind = 1 ∨ x.kind = 2 → x.a ≠ a
def NoStep (a : Int) (st : Nat → StepG) (k : Nat) : Prop := ∀ n, n < k → (st n).kind = 1 ∨ (st n).kind = 2 → (st n).a ≠ a
theorem callOfS_a {s : StepG} (h : (callOfS s).kind = 1 ∨ (callOfS s).kind = 2) : (s.kind = 1 ∨ s.kind = 2) ∧ (callOfS s).a = s.a := by
  unfold callOfS at h ⊢
  by_cases k1 : s.kind = 1
  · rw [if_pos k1]
    exact ⟨.inl k1, rfl⟩
  rw [if_neg k1] at h ⊢
  by_cases k2 : s.kind = 2
  · rw [if_pos k2]
    exact ⟨.inr k2, rfl⟩
  rw [if_neg k2] at h ⊢
  exfalso
  revert h
  repeat' split
  all_goals simp [callSuspend, callCapacity, callTick, callBill, callPay]
theorem NoStep.call {a : Int} {st : Nat → StepG} {k : Nat} (h : NoStep a st k) : NoCall a (logU st k) := fun x hx hk => by
  obtain ⟨n, hn, rfl⟩ := logU_mem hx
  obtain ⟨h1, h2⟩ := callOfS_a hk
  rw [h2]
  exact h n hn h1
theorem NoStep.rest {a : Int} {st : Nat → StepG} {p k : Nat} (h : NoStep a st k) : NoCall a (restU st p k) := by
  refine NoStep.call (fun n hn => ?_)
  exact h (p + n) (by omega)
theorem sub_of {m : MkG} (hg : GoodM m) {i : Nat} {b : BidG} (hb : m.bids[i]? = some b) : ∃ e : Nat, b.entry = e ∧ m.log[e]? = some (callSubmit b.ten b.ref b.job) := by
  have h := hg.cash.hist
  have hR : (replay m.c m.log).bids[i]? = some (unc b) := by rw [HistM.get h, hb]; rfl
  obtain ⟨e, he, hle⟩ := SubOk.fold m.log (SubOk.open m.c) i _ hR
  have hlog : (replay m.c m.log).log = m.log := HistM.log h
  exact ⟨e, he, by rw [← hlog]; exact hle⟩
theorem no_bids {m : MkG} (hg : GoodM m) {a : Int} (h : NoCall a m.log) : ∀ b ∈ m.bids, b.ten ≠ a := fun b hb e => by
  obtain ⟨i, hi⟩ := List.getElem?_of_mem hb
  obtain ⟨n, _, hn⟩ := sub_of hg hi
  exact h _ (List.mem_of_getElem? hn) (.inl rfl) e
theorem tenB_in {m : MkG} {a : Int} (h0 : 0 ≤ a) (h1 : a < m.c.ten) : m.tenB a = true := by
  simp only [MkG.tenB, Bool.and_eq_true, decide_eq_true_eq]
  exact ⟨h0, h1⟩
theorem find_no {m : MkG} {a r : Int} (h : ∀ b ∈ m.bids, b.ten ≠ a) : findZ m.bids a r = -1 := findZ_none (fun i b hb => by
  have := h b (List.mem_of_getElem? hb)
  simp [BidG.is, this])
theorem look_no {m : MkG} {a r : Int} (h0 : 0 ≤ a) (h1 : a < m.c.ten) (h : ∀ b ∈ m.bids, b.ten ≠ a) : lookE m a r = 5 := by
  unfold lookE
  rw [tenB_in h0 h1, find_no h]
  rfl
/-- when a Submit is done -/
theorem submit_may {m : MkG} (hok : MkOk m) {a : Int} (h0 : 0 ≤ a) (h1 : a < m.c.ten) (h : ∀ b ∈ m.bids, b.ten ≠ a) {j : JobG} (j1 : 0 ≤ j.arr) (j2 : 1 ≤ j.len) (j3 : 1 ≤ j.units) (j4 : 1 ≤ j.val) (j5 : j.val ≤ 1048576) (j6 : j.dl ≤ m.c.ticks) :
    submitE m a 1 j = 0 ↔ (suspAt m a = false ∧ j.len ≤ m.c.ticks ∧ j.units ≤ 1000 ∧ j.len ≤ j.dl ∧ atOf m.time j ≤ j.dl - j.len) := by
  have hT := tenB_in h0 h1
  have hR : refB m a 1 = false := by
    unfold refB
    rw [find_no h]
    decide
  have hP : pendL m.bids a = 0 := by
    unfold pendL
    rw [List.countP_eq_zero.2]
    · rfl
    · intro b hb
      have := h b hb
      simp [BidG.pends, this]
  have hq := (cfgOk_true hok.ck).2.2.2.2.1
  have hat : 0 ≤ atOf m.time j := by unfold atOf; split <;> omega
  constructor
  · intro hx
    obtain ⟨_, s2, _, s4, _⟩ := submitE_done hx
    unfold MkG.jobB at s4
    rw [Bool.and_eq_true] at s4
    have := jobIn_true s4.1
    have h3 := of_decide_eq_true s4.2
    exact ⟨s2, by omega, by omega, by omega, by omega⟩
  · rintro ⟨s1, s2, s3, s4, s5⟩
    have hJ : m.jobB j = true := by
      unfold MkG.jobB jobIn
      simp only [Bool.and_eq_true, decide_eq_true_eq]
      omega
    unfold submitE
    rw [hT, s1, hR, hJ, hP, if_neg (by decide), if_neg (by decide), if_neg (by decide), if_neg (by decide), if_neg (by omega)]
theorem submitE_hist {m R : MkG} (h : HistM m R) (ten ref : Int) (j : JobG) : submitE R ten ref j = submitE m ten ref j := by
  unfold submitE refB suspAt MkG.jobB
  rw [h.tenB, h.susp, h.find, h.pend, h.c, h.time]

/-! ### behind all steps -/
/-- a market whose log holds one Submit of tenant a, with the job j -/
structure Gained (c : CfgG) (a : Int) (j : JobG) (pre rest : List CallG) (m : MkG) : Prop where
  good : GoodM m
  mc : m.c = c
  log : m.log = pre ++ callSubmit a 1 j :: rest
  npre : NoCall a pre
  nrest : NoCall a rest
  a0 : 0 ≤ a
  a1 : a < c.ten
section
variable {c : CfgG} {a : Int} {j : JobG} {pre rest : List CallG} {m : MkG}
theorem Gained.len (h : Gained c a j pre rest m) : pre.length + 1 + rest.length ≤ 300 := by
  have := h.good.ok.nl
  rw [h.log] at this
  simp at this
  omega
theorem Gained.ck (h : Gained c a j pre rest m) : cfgOk c = true := by rw [← h.mc]; exact h.good.ok.ck
theorem Gained.hist (h : Gained c a j pre rest m) : HistM m (replay c (pre ++ callSubmit a 1 j :: rest)) := by
  have := h.good.cash.hist
  unfold Hist at this
  rw [h.mc, h.log] at this
  exact this
theorem Gained.split (_h : Gained c a j pre rest m) (hl : pre.length < 300) (hp : (replay c pre).log.length = pre.length) : replay c (pre ++ callSubmit a 1 j :: rest) = rest.foldl againM (submitM (replay c pre) a 1 j) := by
  unfold replay at hp ⊢
  rw [List.foldl_append, List.foldl_cons, again_submit (by omega)]
theorem Gained.prelen (h : Gained c a j pre rest m) : (replay c pre).log.length = pre.length := by
  have := h.len
  unfold replay
  rw [fold_log _ _ (by show 0 + pre.length ≤ 300; omega)]
  show 0 + pre.length = _
  omega
/-- the Submit was refused: there is no bid -/
theorem Gained.none (h : Gained c a j pre rest m) (hd : submitE (replay c pre) a 1 j ≠ 0) : lookE m a 1 = 5 := by
  have hlen := h.len
  have hp := h.prelen
  refine look_no h.a0 (by rw [h.mc]; exact h.a1) (fun b hb e => ?_)
  obtain ⟨i, hi⟩ := List.getElem?_of_mem hb
  obtain ⟨n, hn, hln⟩ := sub_of h.good hi
  rw [h.log] at hln
  have hne : n = pre.length := by
    rcases Nat.lt_trichotomy n pre.length with hx | hx | hx
    · rw [List.getElem?_append_left hx] at hln
      exact absurd e (h.npre _ (List.mem_of_getElem? hln) (.inl rfl))
    · exact hx
    · rw [List.getElem?_append_right (by omega), show n - pre.length = (n - pre.length - 1) + 1 by omega, List.getElem?_cons_succ] at hln
      exact absurd e (h.nrest _ (List.mem_of_getElem? hln) (.inl rfl))
  have hR : (replay c (pre ++ callSubmit a 1 j :: rest)).bids[i]? = some (unc b) := by rw [h.hist.get, hi]; rfl
  rw [h.split (by omega) hp] at hR
  have hrP : RepOk (replay c pre) := (RepOk.open h.ck).fold _ (by show 0 + pre.length ≤ 300; omega)
  have hsb : (submitM (replay c pre) a 1 j).bids = (replay c pre).bids ∧ (submitM (replay c pre) a 1 j).log.length = pre.length + 1 := by
    unfold submitM
    simp only
    rw [if_neg hd]
    exact ⟨rfl, by simp [MkG.logs, hp]⟩
  have hno : NoE (pre.length : Nat) (submitM (replay c pre) a 1 j) := fun x hx => by
    rw [hsb.1] at hx
    have := (hrP.ent.in' x hx).2
    omega
  have := NoE.fold rest hno (by rw [hsb.2]; omega) (by rw [hsb.2]; omega) _ (List.mem_of_getElem? hR)
  exact this (by show b.entry = _; rw [hn, hne])
/-- the Submit was done: there is its bid -/
theorem Gained.own (h : Gained c a j pre rest m) (hd : submitE (replay c pre) a 1 j = 0) : ∃ (i : Nat) (x : BidG), m.bids[i]? = some x ∧ findZ m.bids a 1 = i ∧ x.entry = (pre.length : Nat) ∧ x.job = j := by
  have hlen := h.len
  have hp := h.prelen
  have hO : OwnE (pre.length : Nat) a 1 (replay c (pre ++ callSubmit a 1 j :: rest)) := by
    rw [h.split (by omega) hp]
    refine OwnE.fold _ ?_
    unfold submitM
    simp only
    rw [if_pos hd]
    refine ⟨(replay c pre).bids.length, newBid (replay c pre) a 1 j, ?_, rfl, rfl, by simp [newBid, hp]⟩
    show ((replay c pre).bids ++ [newBid (replay c pre) a 1 j])[(replay c pre).bids.length]? = _
    simp
  have hrep : RepOk (replay c (pre ++ callSubmit a 1 j :: rest)) := (RepOk.open h.ck).fold _ (by show 0 + _ ≤ 300; simp; omega)
  obtain ⟨k, b, hb, g1, g2, g3⟩ := hO
  have hb0 := hb
  rw [h.hist.get] at hb
  cases hx : m.bids[k]? with
  | none => rw [hx] at hb; cases hb
  | some x =>
    rw [hx] at hb
    obtain rfl := Option.some.inj hb
    obtain ⟨e, he, hle⟩ := sub_of h.good hx
    have he' : e = pre.length := by
      have : x.entry = (pre.length : Nat) := g3
      omega
    rw [h.log, he', List.getElem?_append_right (Nat.le_refl _)] at hle
    simp at hle
    refine ⟨k, x, hx, ?_, g3, ?_⟩
    · refine findZ_some hx (by have h1 : x.ten = a := g1; have h2 : x.ref = 1 := g2; simp [BidG.is, h1, h2]) (fun i y hi hy => ?_)
      cases his : y.is a 1
      · rfl
      · simp [BidG.is] at his
        have hyR : (replay c (pre ++ callSubmit a 1 j :: rest)).bids[i]? = some (unc y) := by rw [h.hist.get, hy]; rfl
        have := hrep.chd.uniq i k (unc y) (unc x) hyR hb0 (by show y.ten = _; rw [his.1, g1]) (by show y.ref = _; rw [his.2, g2])
        omega
    · exact (congrArg CallG.job hle).symm
theorem Gained.won (h : Gained c a j pre rest m) (hd : submitE (replay c pre) a 1 j = 0) :
    lookE m a 1 = 0 ∧ (lookS m a 1 = 2 ↔ (0 < (replayG c (pre.length : Nat) (pre ++ callSubmit a 1 j :: rest)).need ∧ (replayG c (pre.length : Nat) (pre ++ callSubmit a 1 j :: rest)).need ≤ j.val)) ∧ (lookS m a 1 = 2 → priceE m a 1 = 0 ∧ priceV m a 1 = (replayG c (pre.length : Nat) (pre ++ callSubmit a 1 j :: rest)).need) := by
  have hlen := h.len
  obtain ⟨i, x, hx, hf, he, hj⟩ := h.own hd
  have hE : lookE m a 1 = 0 := by
    unfold lookE
    rw [tenB_in h.a0 (by rw [h.mc]; exact h.a1), hf, if_neg (by decide), if_neg (by omega)]
  have hS : lookS m a 1 = x.state := by
    unfold lookS
    rw [if_pos hE, hf]
    simp [stateAt, hx]
  have hjv := (submitE_done hd).2.2.2.1
  unfold MkG.jobB at hjv
  rw [Bool.and_eq_true] at hjv
  have hjb := jobIn_true hjv.1
  have hrep : RepOk (replay c (pre ++ callSubmit a 1 j :: rest)) := (RepOk.open h.ck).fold _ (by show 0 + _ ≤ 300; simp; omega)
  have hxR : (replay c (pre ++ callSubmit a 1 j :: rest)).bids[i]? = some (unc x) := by rw [h.hist.get, hx]; rfl
  have hlk : (pre ++ callSubmit a 1 j :: rest)[pre.length]? = some (callSubmit a 1 j) := by
    rw [List.getElem?_append_right (Nat.le_refl _)]
    simp
  have key := replay_threshold (c := c) h.ck (e := pre.length) (v := j.val) (by omega) (by omega) (log := pre ++ callSubmit a 1 j :: rest) (by simp; omega) (fun y hy => by rw [hlk] at hy; obtain rfl := Option.some.inj hy; exact ⟨rfl, by show 1 ≤ j.val; omega, by show j.val ≤ 1048576; omega⟩)
  have e1 : replayV c pre.length j.val (pre ++ callSubmit a 1 j :: rest) = replay c (pre ++ callSubmit a 1 j :: rest) := replayV_same (x := callSubmit a 1 j) hlk
  rw [e1] at key
  refine ⟨hE, ?_, fun hw => ?_⟩
  · rw [← key, hS]
    constructor
    · intro hs
      exact ⟨i, unc x, hxR, he, hs⟩
    · rintro ⟨k, b, hb, hbe, hbs⟩
      have hk := hrep.ent.uniq hb hxR (by rw [hbe]; exact he.symm)
      subst hk
      rw [hxR] at hb
      obtain rfl := Option.some.inj hb
      exact hbs
  · have hpE : priceE m a 1 = 0 := by
      unfold priceE
      rw [if_pos hE, if_pos hw]
    refine ⟨hpE, ?_⟩
    unfold priceV
    rw [if_pos hpE, hf]
    have : entryAt m (i : Int) = (pre.length : Nat) := by simp [entryAt, hx, he]
    rw [this]
    unfold priceM
    rw [h.mc, h.log]
end

/-- what the tenant gains -/
def gainZ (worth : Int) (d : Bool) (m : MkG) (a : Int) : Int := if d = true ∧ lookS m a 1 = 2 then worth - priceV m a 1 else 0
/-- P19 -/
theorem truthful_pure {c : CfgG} {a : Int} {jT jK : JobG} {pre mid post : List CallG} {mT mK : MkG} (hT : Gained c a jT pre (mid ++ post) mT) (hK : Gained c a jK (pre ++ mid) post mK) (harr : jT.arr ≤ jK.arr) (hdl : jK.dl ≤ jT.dl) (hln : jT.len ≤ jK.len) (hun : jT.units ≤ jK.units) {dT dK : Bool} (hdT : dT = true ↔ submitE (replay c pre) a 1 jT = 0) (hdK : dK = true ↔ submitE (replay c (pre ++ mid)) a 1 jK = 0) :
    dT = false ∨ (0 ≤ gainZ jT.val dT mT a ∧ gainZ jT.val dK mK a ≤ gainZ jT.val dT mT a) := by
  cases dT with
  | false => exact .inl rfl
  | true =>
    right
    have hd := hdT.1 rfl
    obtain ⟨_, t2, t3⟩ := hT.won hd
    have hlen := hT.len
    rw [List.length_append] at hlen
    have h0 : 0 ≤ gainZ jT.val true mT a := by
      unfold gainZ
      split
      · rename_i hx
        have h4 := (t3 hx.2).2
        have h5 := t2.1 hx.2
        rw [h4]
        omega
      · omega
    refine ⟨h0, ?_⟩
    by_cases hk : dK = true ∧ lookS mK a 1 = 2
    · obtain ⟨k1, k2⟩ := hk
      have hd2 := hdK.1 k1
      obtain ⟨_, w2, w3⟩ := hK.won hd2
      have hnl := need_le hT.ck (pre := pre) (mid := mid) (post := post) (a := a) (r := 1) (jT := jT) (jK := jK) (by omega) (fun x hx => hT.nrest x hx) hd hd2 harr hdl hln hun
      have h5 := w2.1 k2
      have h6 := (w3 k2).2
      have eK : gainZ jT.val dK mK a = jT.val - priceV mK a 1 := by
        unfold gainZ
        rw [if_pos ⟨k1, k2⟩]
      rw [eK, h6]
      by_cases hw : lookS mT a 1 = 2
      · have eT : gainZ jT.val true mT a = jT.val - priceV mT a 1 := by
          unfold gainZ
          rw [if_pos ⟨rfl, hw⟩]
        rw [eT, (t3 hw).2]
        omega
      · have h7 : ¬ (0 < (replayG c (pre.length : Nat) (pre ++ callSubmit a 1 jT :: (mid ++ post))).need ∧ (replayG c (pre.length : Nat) (pre ++ callSubmit a 1 jT :: (mid ++ post))).need ≤ jT.val) := fun hx => hw (t2.2 hx)
        omega
    · have eK : gainZ jT.val dK mK a = 0 := by
        unfold gainZ
        rw [if_neg hk]
      rw [eK]
      exact h0
/-- who is suspended, behind a step -/
theorem DoesRes.suspended {m m' : MkG} {s : StepG} {z : Int} {names : List (Int × Int)} {bills : List InvG} (h : DoesRes m s z names bills m') (hok : MkOk m) {a : Int} (h0 : 0 ≤ a) (h1 : a < m.c.ten) : suspAt m' a = if s.kind = 3 ∧ s.a = a ∧ z = 0 then evenB s.b else suspAt m a := by
  have keep : m'.susp = m.susp → (s.kind = 3 → s.a = a → z ≠ 0) → suspAt m' a = if s.kind = 3 ∧ s.a = a ∧ z = 0 then evenB s.b else suspAt m a := fun e hx => by
    rw [if_neg (fun hh => hx hh.1 hh.2.1 hh.2.2)]
    unfold suspAt
    rw [e]
  rcases h with ⟨e, h, _⟩ | ⟨e, h, _⟩ | ⟨e, h, _⟩ | ⟨e, h, _⟩ | ⟨e, h, _⟩ | ⟨e, h, _⟩ | ⟨e, h, _⟩ | ⟨e, _, rfl, _⟩
  · refine keep ?_ (fun x => by omega)
    rcases h with ⟨_, _, rfl⟩ | ⟨_, _, rfl⟩
    · rfl
    · unfold submitM
      simp only
      split <;> rfl
  · refine keep ?_ (fun x => by omega)
    rcases h with ⟨_, _, rfl⟩ | ⟨_, _, rfl⟩
    · rfl
    · unfold cancelM
      simp only
      split <;> rfl
  · rcases h with ⟨_, hz, rfl⟩ | ⟨hl, hz, rfl⟩
    · exact keep rfl (fun _ _ => by omega)
    · by_cases hE : suspendE m s.a = 0
      · have hs : (suspendM m s.a (evenB s.b)).susp = m.susp.set s.a.toNat (evenB s.b) := by
          unfold suspendM
          simp only
          rw [if_pos hE]
          rfl
        by_cases ha : s.a = a
        · rw [if_pos ⟨e, ha, by omega⟩]
          unfold suspAt
          rw [hs, ha]
          have hlen : a.toNat < m.susp.length := by rw [hok.ns]; omega
          simp [List.getD, hlen]
        · rw [if_neg (fun hh => ha hh.2.1)]
          have hT : m.tenB s.a = true := by
            unfold suspendE at hE
            cases hx : m.tenB s.a
            · rw [hx] at hE
              simp at hE
            · rfl
          simp only [MkG.tenB, Bool.and_eq_true, decide_eq_true_eq] at hT
          unfold suspAt
          rw [hs]
          simp only [List.getD, List.getElem?_set]
          rw [if_neg (by omega)]
      · refine keep ?_ (fun _ _ => by omega)
        unfold suspendM
        simp only
        rw [if_neg hE]
        rfl
  · refine keep ?_ (fun x => by omega)
    rcases h with ⟨_, _, rfl⟩ | ⟨_, h⟩
    · rfl
    · rcases h with ⟨_, _, rfl⟩ | ⟨_, _, _, rfl⟩ | ⟨_, _, _, rfl⟩ <;> rfl
  · refine keep ?_ (fun x => by omega)
    rcases h with ⟨_, _, _, rfl⟩ | ⟨_, _, _, _, rfl⟩ | ⟨hl, _, _, l, _, rfl, _⟩
    · rfl
    · rfl
    · have hal := AlikeM.fold m.time (ghostI (m.logs callTick) m.time) l (m.logs callTick, [])
      unfold tickM
      simp only
      show (wantEnd m.time (ghostI (m.logs callTick) m.time) (tickFold m.time (ghostI (m.logs callTick) m.time) (m.logs callTick) l).1).susp = _
      have : ∀ (g : Option Nat) (X : MkG), (wantEnd m.time g X).susp = X.susp := fun g X => by
        unfold wantEnd
        split
        · split
          · unfold wantM
            first | rfl | (split <;> rfl)
          · rfl
        · rfl
      rw [this]
      exact hal.susp
  · refine keep ?_ (fun x => by omega)
    rcases h with ⟨_, _, _, rfl⟩ | ⟨_, _, _, rfl⟩ <;> rfl
  · refine keep ?_ (fun x => by omega)
    rcases h with ⟨_, _, rfl⟩ | ⟨_, _, rfl⟩
    · rfl
    · unfold payM
      simp only
      split <;> rfl
  · exact keep rfl (fun x => by omega)
end Go.Proofs.Ytminceigjejipaa
