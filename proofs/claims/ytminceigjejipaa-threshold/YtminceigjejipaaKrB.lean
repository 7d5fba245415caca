import Derived.Test.YtminceigjejipaaKrA
/-
  A CASE's MARKET WITH ANOTHER VALUE: a bid that has won wins again just if its price is no more; the price is no less than the reserve cost. Nothing of the program but the book's data.
-/
namespace Go.Proofs.Ytminceigjejipaa
open Go.RowKit

/-- what has won is worth the reserve cost -/
def WinOk (X : MkG) : Prop := ∀ b ∈ X.bids, b.state = 2 → b.winB X.c.res = true
theorem WinOk.of_bids {m m' : MkG} (h : WinOk m) (hb : m'.bids = m.bids) (hc : m'.c = m.c) : WinOk m' := fun b hm => by
  rw [hb] at hm
  rw [hc]
  exact h b hm
theorem WinOk.tick {X : MkG} (h : WinOk X) (hr : RepOk X) (hl : X.log.length < 300) : WinOk (tickF X) := by
  unfold tickF
  split
  · exact h.of_bids rfl rfl
  · have hok := hr.ok
    have hok1 := hok.logs hl callTick
    have hord := orderL_is (t := X.time) hok.sizes
    obtain ⟨js, hp⟩ := pk_fold X.time (orderL X X.time) (X.logs callTick, []) hord.nodup (fun i hi => by
      obtain ⟨b, hb, hc⟩ := (hord.mem i).1 hi
      refine ⟨b, hb, ?_⟩
      unfold candB at hc
      rw [Bool.and_eq_true] at hc
      exact hc.1) (fun b hb => by
        have := jobIn_true (hok.bid b hb).job
        omega)
    unfold tickM
    simp only
    rw [ghostI_none hok1 hr.gh]
    simp only [wantEnd, tickFold]
    have hal := AlikeM.fold X.time none (orderL X X.time) (X.logs callTick, [])
    intro b' hb' hs
    obtain ⟨b1, hb1, rfl⟩ := List.mem_map.1 hb'
    have hc : (tickEnd X.time ((orderL X X.time).foldl (tickOne X.time none) (X.logs callTick, [])).1).c = X.c := hal.c
    rw [hc]
    obtain ⟨k, hk⟩ := List.getElem?_of_mem hb1
    have hkl : k < X.bids.length := by
      have := (List.getElem?_eq_some_iff.1 hk).1
      rw [hal.len] at this
      exact this
    have hb := List.getElem?_eq_getElem hkl
    have hx := hp.bids k _ hb
    rw [hk] at hx
    have e := Option.some.inj hx
    have hst : b1.state = 2 ∧ (b1.expire (X.time + 1)).job = b1.job := by
      unfold BidG.expire at hs ⊢
      split at hs
      · simp at hs
      · rename_i hn
        rw [if_neg hn]
        exact ⟨hs, rfl⟩
    have hj : (b1.expire (X.time + 1)).winB X.c.res = b1.winB X.c.res := by unfold BidG.winB; rw [hst.2]
    rw [hj]
    by_cases ej : k ∈ js
    · rw [if_pos ej] at e
      have := hp.win k ej _ hb
      rw [e]
      exact this
    · rw [if_neg ej] at e
      rw [e]
      exact h _ (List.mem_of_getElem? hb) (by rw [← e]; exact hst.1)
theorem WinOk.again {X : MkG} (h : WinOk X) (hr : RepOk X) (hl : X.log.length < 300) (c : CallG) : WinOk (againM X c) := by
  unfold againM
  split
  · exact h
  · split
    · unfold submitM
      simp only
      split
      · intro b hb
        rcases List.mem_append.1 hb with hb | hb
        · exact h b hb
        · simp at hb
          subst hb
          intro hs
          simp [newBid] at hs
      · exact h.of_bids rfl rfl
    · split
      · unfold cancelM
        simp only
        split
        · intro b hb
          have hb' : b ∈ setState X.bids (findZ X.bids c.a c.b).toNat 3 := hb
          unfold setState at hb'
          split at hb'
          · rcases List.mem_or_eq_of_mem_set hb' with hb2 | rfl
            · exact h b hb2
            · intro hs
              simp at hs
          · exact h b hb'
        · exact h.of_bids rfl rfl
      · split
        · unfold capM
          split
          · exact h.of_bids rfl rfl
          · split <;> exact h.of_bids rfl rfl
        · split
          · unfold suspendM
            simp only
            split <;> exact h.of_bids rfl rfl
          · split
            · exact h.tick hr hl
            · exact h.of_bids rfl rfl
theorem WinOk.fold : ∀ (l : List CallG) {X : MkG}, WinOk X → RepOk X → X.log.length + l.length ≤ 300 → WinOk (l.foldl againM X)
  | [], _, h, _, _ => h
  | c :: l, X, h, hr, hl => by
    simp only [List.length_cons] at hl
    have h1 := again_log (m := X) (by omega) c
    exact WinOk.fold l (h.again hr (by omega) c) (hr.again (by omega) c) (by omega)
theorem again_c {X : MkG} (hr : RepOk X) (hl : X.log.length < 300) (c : CallG) : (againM X c).c = X.c := by
  unfold againM
  split
  · rfl
  · split
    · unfold submitM; simp only; split <;> rfl
    · split
      · unfold cancelM; simp only; split <;> rfl
      · split
        · unfold capM
          split
          · rfl
          · split <;> rfl
        · split
          · unfold suspendM; simp only; split <;> rfl
          · split
            · unfold tickF
              split
              · rfl
              · have g1 : ghostI (X.logs callTick) X.time = none := ghostI_none (hr.ok.logs hl callTick) hr.gh X.time
                unfold tickM
                simp only [g1, wantEnd]
                exact (AlikeM.fold X.time none (orderL X X.time) (X.logs callTick, [])).c
            · rfl
theorem fold_c : ∀ (l : List CallG) {X : MkG}, RepOk X → X.log.length + l.length ≤ 300 → (l.foldl againM X).c = X.c
  | [], _, _, _ => rfl
  | c :: l, X, hr, hl => by
    simp only [List.length_cons] at hl
    have h1 := again_log (m := X) (by omega) c
    rw [List.foldl_cons, fold_c l (hr.again (by omega) c) (by omega), again_c hr (by omega) c]

/-- a call as it is logged -/
def nfC (c : CallG) : CallG :=
  if c.kind = 1 then callSubmit c.a c.b c.job
  else if c.kind = 2 then callCancel c.a c.b
  else if c.kind = 3 then callCapacity c.a c.b c.c
  else if c.kind = 4 then callSuspend c.a c.on
  else if c.kind = 5 then callTick
  else c
theorem again_log' {X : MkG} (hl : X.log.length < 300) (c : CallG) : (againM X c).log = X.log ++ [nfC c] := by
  unfold againM nfC
  rw [if_neg (by omega)]
  split
  · unfold submitM; simp only; split <;> rfl
  · split
    · unfold cancelM; simp only; split <;> rfl
    · split
      · unfold capM
        split
        · rfl
        · split <;> rfl
      · split
        · unfold suspendM; simp only; split <;> rfl
        · split
          · exact tickF_log' X
          · rfl
theorem fold_log' : ∀ (l : List CallG) (X : MkG), X.log.length + l.length ≤ 300 → (l.foldl againM X).log = X.log ++ l.map nfC
  | [], _, _ => by simp
  | c :: l, X, h => by
    simp only [List.length_cons] at h
    have h1 := again_log' (X := X) (by omega) c
    have h2 := again_log (m := X) (by omega) c
    rw [List.foldl_cons, fold_log' l (againM X c) (by omega), h1]
    simp

/-- the price of what has won is no less than its reserve cost -/
theorem Hist.reserve {m : MkG} (h : Hist m) (hok : MkOk m) {i : Nat} {b : BidG} (hb : m.bids[i]? = some b) (hw : b.state = 2) : m.c.res * sizeJ b.job ≤ priceM m b.entry := by
  have hpr := h.price hok hb hw
  obtain ⟨e, he, hle, hwin⟩ := h.wins hok hb hw
  have hj := jobIn_true (hok.bid b (List.mem_of_getElem? hb)).job
  have h1 : 1 ≤ priceM m b.entry := hpr.1
  have h2 : priceM m b.entry ≤ 1048576 := by omega
  have hR : (replay m.c m.log).bids[i]? = some (unc b) := by rw [HistM.get h, hb]; rfl
  have hrep : RepOk (replayV m.c e (priceM m b.entry) m.log) := RepOk.replayV hok.ck hok.nl e _
  obtain ⟨k, b2, hb2, g1, g2, g3⟩ := own_replayV (c := m.c) (v := priceM m b.entry) hok.nl hle ⟨unc b, List.mem_of_getElem? hR, he⟩ h1 h2
  have hls := (hwin (priceM m b.entry) h1 h2).2 (Int.le_refl _)
  have hbo := hrep.ok.bid b2 (List.mem_of_getElem? hb2)
  have hfz : findZ (replayV m.c e (priceM m b.entry) m.log).bids b.ten b.ref = k := findZ_some hb2 (by simp [BidG.is, g1, g2]) (fun k' x hk hx => by
    cases hi : x.is b.ten b.ref
    · rfl
    · simp [BidG.is] at hi
      have := hrep.chd.uniq k' k x b2 hx hb2 (by rw [hi.1, g1]) (by rw [hi.2, g2])
      omega)
  have hs2 : b2.state = 2 := by
    unfold lookS at hls
    split at hls
    · rw [hfz] at hls
      simpa [stateAt, hb2] using hls
    · omega
  have hwo : WinOk (replayV m.c e (priceM m b.entry) m.log) := by
    rw [replayV_eq]
    exact WinOk.fold _ (fun b hb => by simp [openM] at hb) (RepOk.open hok.ck) (by rw [logV_len]; simp [openM]; exact hok.nl)
  have hc : (replayV m.c e (priceM m b.entry) m.log).c = m.c := by
    rw [replayV_eq, fold_c _ (RepOk.open hok.ck) (by rw [logV_len]; simp [openM]; exact hok.nl)]
    rfl
  have hwb := hwo b2 (List.mem_of_getElem? hb2) hs2
  rw [hc] at hwb
  -- its job is the bid's own, but for the value
  have hsub : SubOk (replayV m.c e (priceM m b.entry) m.log) := by
    rw [replayV_eq]
    exact SubOk.fold _ (SubOk.open m.c)
  obtain ⟨e2, he2, hl2⟩ := hsub k b2 hb2
  rw [replayV_eq, fold_log' _ _ (by rw [logV_len]; simp [openM]; exact hok.nl)] at hl2
  simp only [openM, List.nil_append, List.getElem?_map, logV_get] at hl2
  have ee : e2 = e := by rw [g3] at he2; omega
  rw [ee, hle] at hl2
  simp only [Option.map_some, if_true, Option.some.injEq] at hl2
  have hjob : b2.job = { b.job with val := priceM m b.entry } := (congrArg CallG.job hl2).symm
  unfold BidG.winB at hwb
  rw [hjob] at hwb
  exact of_decide_eq_true hwb
/-- the case made once more, with another value -/
theorem StepsOk.wins {st : Nat → StepG} {sl : Nat} {m m2 : MkG} {b : BookG} (h : StepsOk st sl m b) (hg : GoodM m) (hg2 : GoodM m2) (hc2 : m2.c = m.c) {j : Nat} {o : KnownG} {x : BidG} (ho : b.bids[j]? = some o) (hx : m.bids[j]? = some x) (hnm : o.ten = x.ten ∧ o.ref = x.ref) (hw : x.state = 2) {i : Nat} (hi : o.step = i) {v : Int} (h1 : 1 ≤ v) (h2 : v ≤ 1048576) (hl2 : m2.log = logN (stV st i v) sl) :
    (lookE m2 o.ten o.ref = 0 ∧ lookS m2 o.ten o.ref = 2) ↔ priceM m x.entry ≤ v := by
  obtain ⟨i', a1, a2, a3, _, _, _, a7, a8⟩ := h.bid j o x ho hx
  have ei : i' = i := by rw [hi] at a1; omega
  subst ei
  obtain ⟨e, he, _, hwin⟩ := Hist.wins hg.cash.hist hg.ok hx hw
  have ee : e = (logN st i').length := by rw [he] at a7; omega
  rw [logN_high st i' v a3 a8 sl a2, ← h.log, ← ee] at hl2
  have hH2 : HistM m2 (replayV m.c e v m.log) := by
    have := hg2.cash.hist
    unfold Hist replay at this
    rw [hl2, hc2] at this
    exact this
  have hfind : findZ (replayV m.c e v m.log).bids o.ten o.ref = findZ m2.bids o.ten o.ref := hH2.find _ _
  have hE : lookE (replayV m.c e v m.log) o.ten o.ref = lookE m2 o.ten o.ref := by unfold lookE; rw [hH2.tenB, hfind]
  have hS : lookS (replayV m.c e v m.log) o.ten o.ref = lookS m2 o.ten o.ref := by unfold lookS; rw [hE, hfind, hH2.state]
  have hw2 := hwin v h1 h2
  rw [← hnm.1, ← hnm.2, hS] at hw2
  rw [← hw2]
  constructor
  · exact fun h => h.2
  · intro hs
    refine ⟨?_, hs⟩
    by_cases h0 : lookE m2 o.ten o.ref = 0
    · exact h0
    · unfold lookS at hs
      rw [if_neg h0] at hs
      omega
end Go.Proofs.Ytminceigjejipaa
