import Derived.Test.YtminceigjejipaaG9
/-
  A MARKET IS THE REPLAY OF ITS LOG; a bid's entry in the log is its Submit; a bid that has won has a price from 1 to its value. Nothing of the program.
-/
namespace Go.Proofs.Ytminceigjejipaa

/-- what never changes of a bid -/
def keyB (b : BidG) : Int × Int × JobG × Int × Int × Bool := (b.ten, b.ref, b.job, b.arrival, b.entry, b.charged)
theorem key_set {l : List BidG} {i : Nat} {b b' : BidG} (hb : l[i]? = some b) (hk : keyB b' = keyB b) (k : Nat) : ((l.set i b')[k]?).map keyB = (l[k]?).map keyB := by
  rw [List.getElem?_set]
  by_cases e : i = k
  · subst e
    rw [if_pos rfl, if_pos (List.getElem?_eq_some_iff.1 hb).1, hb]
    simp [hk]
  · rw [if_neg e]
theorem key_start (m : MkG) (i : Nat) (t : Int) (k : Nat) : ((startM m i t).bids[k]?).map keyB = (m.bids[k]?).map keyB := by
  unfold startM
  cases hb : m.bids[i]? with
  | none => rfl
  | some b => exact key_set (b' := { b with state := 2, start := t }) hb rfl k
theorem key_one (t : Int) (g : Option Nat) (s : TkS) (i k : Nat) : ((tickOne t g s i).1.bids[k]?).map keyB = (s.1.bids[k]?).map keyB := by
  unfold tickOne
  split
  · rfl
  · split
    · cases g with
      | none => exact key_start _ _ _ _
      | some gi =>
        simp only
        split
        · rw [ent_want]; exact key_start _ _ _ _
        · exact key_start _ _ _ _
    · rfl
theorem key_fold (t : Int) (g : Option Nat) (k : Nat) : ∀ (l : List Nat) (s : TkS), ((l.foldl (tickOne t g) s).1.bids[k]?).map keyB = (s.1.bids[k]?).map keyB
  | [], _ => rfl
  | i :: l, s => (key_fold t g k l _).trans (key_one t g s i k)
theorem key_tick (m : MkG) (k : Nat) : ((tickF m).bids[k]?).map keyB = (m.bids[k]?).map keyB := by
  unfold tickF
  split
  · rfl
  · show ((List.map (fun b => b.expire (m.time + 1)) (wantEnd m.time _ (tickFold m.time _ _ _).1).bids)[k]?).map keyB = _
    rw [(wantEnd_bids _ _ _).1, List.getElem?_map, Option.map_map]
    have : (keyB ∘ fun b => b.expire (m.time + 1)) = keyB := by
      funext b
      simp only [Function.comp, BidG.expire]
      split <;> rfl
    rw [this]
    unfold tickFold
    exact key_fold m.time (ghostI (m.logs callTick) m.time) k (orderL m m.time) (m.logs callTick, [])
theorem tickF_log' (m : MkG) : (tickF m).log = m.log ++ [callTick] := by
  unfold tickF
  split
  · rfl
  · show (wantEnd m.time _ (tickFold m.time _ _ _).1).log = _
    rw [(wantEnd_bids _ _ _).2]
    unfold tickFold
    rw [(AlikeM.fold m.time (ghostI (m.logs callTick) m.time) (orderL m m.time) (m.logs callTick, [])).log]
    rfl
theorem key_cancel (m : MkG) (ten ref : Int) (k : Nat) : ((cancelM m ten ref).bids[k]?).map keyB = (m.bids[k]?).map keyB := by
  unfold cancelM
  simp only
  split
  · show ((setState m.bids _ 3)[k]?).map keyB = _
    unfold setState
    split
    · rename_i b hb
      exact key_set (b' := { b with state := 3 }) hb rfl k
    · rfl
  · rfl

/-- a bid's entry in the log is its Submit -/
def SubOk (m : MkG) : Prop := ∀ (k : Nat) (b : BidG), m.bids[k]? = some b → ∃ e : Nat, b.entry = e ∧ m.log[e]? = some (callSubmit b.ten b.ref b.job)
theorem SubOk.of_key {m m' : MkG} {c : CallG} (h : SubOk m) (hk : ∀ k : Nat, (m'.bids[k]?).map keyB = (m.bids[k]?).map keyB) (hl : m'.log = m.log ++ [c]) : SubOk m' := by
  intro k b hb
  have := hk k
  rw [hb] at this
  cases hx : m.bids[k]? with
  | none => rw [hx] at this; cases this
  | some b0 =>
    rw [hx] at this
    simp only [Option.map_some, Option.some.injEq, keyB, Prod.mk.injEq] at this
    obtain ⟨h1, h2, h3, _, h5, _⟩ := this
    obtain ⟨e, he, hle⟩ := h k b0 hx
    refine ⟨e, by rw [h5]; exact he, ?_⟩
    rw [hl, List.getElem?_append_left (List.getElem?_eq_some_iff.1 hle).1, h1, h2, h3]
    exact hle
theorem SubOk.submit {m : MkG} (h : SubOk m) (ten ref : Int) (j : JobG) : SubOk (submitM m ten ref j) := by
  unfold submitM
  simp only
  split
  · intro k b hb
    rw [List.getElem?_append] at hb
    by_cases e : k < (m.logs (callSubmit ten ref j)).bids.length
    · rw [if_pos e] at hb
      obtain ⟨x, hx, hlx⟩ := h k b hb
      refine ⟨x, hx, ?_⟩
      show (m.log ++ [callSubmit ten ref j])[x]? = _
      rw [List.getElem?_append_left (List.getElem?_eq_some_iff.1 hlx).1]
      exact hlx
    · rw [if_neg e] at hb
      obtain rfl : b = newBid m ten ref j := by
        have := List.mem_of_getElem? hb
        simpa using this
      exact ⟨m.log.length, rfl, by show (m.log ++ [callSubmit ten ref j])[m.log.length]? = _; simp [newBid]⟩
  · exact h.of_key (m' := m.logs (callSubmit ten ref j)) (c := callSubmit ten ref j) (fun _ => rfl) rfl
theorem SubOk.again {m : MkG} (h : SubOk m) (c : CallG) : SubOk (againM m c) := by
  unfold againM
  split
  · exact h
  · split
    · exact h.submit _ _ _
    · split
      · refine h.of_key (c := callCancel c.a c.b) (key_cancel m _ _) ?_
        unfold cancelM
        simp only
        split <;> rfl
      · split
        · refine h.of_key (c := callCapacity c.a c.b c.c) (fun k => ?_) ?_
          · unfold capM
            split
            · rfl
            · split <;> rfl
          · unfold capM
            split
            · rfl
            · split <;> rfl
        · split
          · refine h.of_key (c := callSuspend c.a c.on) (fun k => ?_) ?_
            · unfold suspendM
              simp only
              split <;> rfl
            · unfold suspendM
              simp only
              split <;> rfl
          · split
            · exact h.of_key (key_tick m) (tickF_log' m)
            · exact h.of_key (m' := m.logs c) (c := c) (fun _ => rfl) rfl
theorem SubOk.fold : ∀ (l : List CallG) {m : MkG}, SubOk m → SubOk (l.foldl againM m)
  | [], _, h => h
  | c :: l, _, h => SubOk.fold l (h.again c)
theorem SubOk.open (c : CfgG) : SubOk (openM c) := fun k b hb => by simp [openM] at hb

/-- the market is the replay of its log -/
def replay (c : CfgG) (log : List CallG) : MkG := log.foldl againM (openM c)
def Hist (m : MkG) : Prop := HistM m (replay m.c m.log)

theorem replayV_same {c : CfgG} {log : List CallG} {e : Nat} {x : CallG} (hx : log[e]? = some x) : replayV c e x.job.val log = replay c log := by
  unfold replayV replay
  congr 1
  apply List.ext_getElem?
  intro i
  rw [List.getElem?_mapIdx]
  by_cases h : i = e
  · subst h
    rw [hx]
    simp [withV]
  · cases log[i]? <;> simp [h]

/-- THE PRICE OF WHAT HAS WON lies between 1 and the bid's value -/
theorem Hist.price {m : MkG} (h : Hist m) (hok : MkOk m) {k : Nat} {b : BidG} (hb : m.bids[k]? = some b) (hw : b.state = 2) : 1 ≤ priceM m b.entry ∧ priceM m b.entry ≤ b.job.val := by
  have hR : (replay m.c m.log).bids[k]? = some (unc b) := by rw [HistM.get h, hb]; rfl
  obtain ⟨e, he, hle⟩ := SubOk.fold m.log (SubOk.open m.c) k _ hR
  have hlog : (replay m.c m.log).log = m.log := HistM.log h
  have hle' : m.log[e]? = some (callSubmit b.ten b.ref b.job) := by rw [← hlog]; exact hle
  have he' : b.entry = e := he
  have hj := jobIn_true (hok.bid b (List.mem_of_getElem? hb)).job
  have key := replay_threshold (c := m.c) hok.ck (e := e) (v := b.job.val) (by omega) (by omega) (log := m.log) hok.nl (fun x hx => by rw [hle'] at hx; obtain rfl := Option.some.inj hx; exact ⟨rfl, by show 1 ≤ b.job.val; omega, by show b.job.val ≤ 1048576; omega⟩)
  have e1 : replayV m.c e b.job.val m.log = replay m.c m.log := replayV_same (x := callSubmit b.ten b.ref b.job) hle'
  rw [e1] at key
  have := key.1 ⟨k, unc b, hR, he, hw⟩
  unfold priceM
  rw [he']
  omega
end Go.Proofs.Ytminceigjejipaa

/-
  WHAT HOLDS OF EVERY MARKET as calls go by: it is the replay of its log; what is paid, what is charged are bounded. Nothing of the program.
-/
namespace Go.Proofs.Ytminceigjejipaa

theorem key_list {l l' : List BidG} (h : ∀ k : Nat, (l'[k]?).map keyB = (l[k]?).map keyB) : l'.map keyB = l.map keyB := by
  apply List.ext_getElem?
  intro k
  rw [List.getElem?_map, List.getElem?_map]
  exact h k
theorem key_count {l l' : List BidG} (h : ∀ k : Nat, (l'[k]?).map keyB = (l[k]?).map keyB) : l'.countP (·.charged) = l.countP (·.charged) := by
  have e : ∀ x : List BidG, x.countP (·.charged) = (x.map keyB).countP (fun y => y.2.2.2.2.2) := fun x => by
    rw [List.countP_map]
    rfl
  rw [e, e, key_list h]
theorem bill_count (time : Int) : ∀ l : List BidG, (l.map fun b => b.bill time).countP (·.charged) = l.countP (·.charged) + (l.filter fun b => b.dueB time).length
  | [] => rfl
  | b :: l => by
    have ih := bill_count time l
    simp only [List.map_cons, List.countP_cons, List.filter_cons, ih]
    by_cases hd : b.dueB time = true
    · have hc : b.charged = false := by
        unfold BidG.dueB at hd
        simp at hd
        exact hd.1.2
      have hb : (b.bill time).charged = true := by unfold BidG.bill; rw [if_pos hd]
      rw [if_pos hd, hb, hc]
      simp
      omega
    · have hb : b.bill time = b := by unfold BidG.bill; rw [if_neg hd]
      rw [if_neg hd, hb]
      omega

structure CashOk (m : MkG) : Prop where
  ok : MkOk m
  hist : Hist m
  paid : PaidOk m
  cents : ∀ c ∈ m.charges, 1 ≤ c.cents ∧ c.cents ≤ 1048576
  cnt : m.charges.length = m.bids.countP (·.charged)

theorem CashOk.chg {m : MkG} (h : CashOk m) : ChgOk m := by
  refine ⟨?_, fun c hc => by have := h.cents c hc; omega⟩
  rw [h.cnt]
  exact Nat.le_trans List.countP_le_length (Nat.le_trans h.ok.nb h.ok.nl)
theorem Hist.ghost {m : MkG} (h : Hist m) : m.ghost = -1 := HistM.gm h
theorem Hist.step {m m' : MkG} {c : CallG} (hc : m'.c = m.c) (hl : m'.log = m.log ++ [c]) (hm : HistM m' (againM (replay m.c m.log) c)) : Hist m' := by
  unfold Hist replay
  rw [hc, hl, List.foldl_append]
  exact hm
theorem paid_more {m m' : MkG} {c : CallG} (h : PaidOk m) (hp : m'.paid = m.paid) (hl : m'.log = m.log ++ [c]) : PaidOk m' := by
  intro x hx
  rw [hp] at hx
  have := h x hx
  rw [hl, List.length_append]
  simp only [List.length_cons, List.length_nil]
  omega
section
variable {R : MkG} (hl : R.log.length < 300)
include hl
theorem again_submit (ten ref : Int) (j : JobG) : againM R (callSubmit ten ref j) = submitM R ten ref j := by
  unfold againM
  rw [if_neg (by omega)]
  rfl
theorem again_cancel (ten ref : Int) : againM R (callCancel ten ref) = cancelM R ten ref := by
  unfold againM
  rw [if_neg (by omega)]
  rfl
theorem again_cap (f t u : Int) : againM R (callCapacity f t u) = capM R f t u := by
  unfold againM
  rw [if_neg (by omega)]
  rfl
theorem again_suspend (ten : Int) (on : Bool) : againM R (callSuspend ten on) = suspendM R ten on := by
  unfold againM
  rw [if_neg (by omega)]
  rfl
theorem again_tick : againM R callTick = tickF R := by
  unfold againM
  rw [if_neg (by omega)]
  rfl
theorem again_bill : againM R callBill = R.logs callBill := by
  unfold againM
  rw [if_neg (by omega)]
  rfl
theorem again_pay (ten cents : Int) : againM R (callPay ten cents) = R.logs (callPay ten cents) := by
  unfold againM
  rw [if_neg (by omega)]
  rfl
end

section
variable {m : MkG}
theorem CashOk.rlog (h : CashOk m) (hl : m.log.length < 300) : (replay m.c m.log).log.length < 300 := by rw [HistM.log h.hist]; exact hl
theorem CashOk.rok (h : CashOk m) : MkOk (replay m.c m.log) := MkOk.fold_again m.log (MkOk.open h.ok.ck)
theorem CashOk.open {c : CfgG} (hc : cfgOk c = true) : CashOk (openM c) := by
  refine ⟨MkOk.open hc, ⟨rfl, rfl, rfl, rfl, rfl, rfl, rfl, rfl⟩, fun x hx => ?_, fun c hc => by simp [openM] at hc, rfl⟩
  have : x = 0 := by
    simp [openM] at hx
    exact hx.2
  subst this
  simp [openM]
theorem CashOk.submit (h : CashOk m) (hl : m.log.length < 300) (ten ref : Int) (j : JobG) : CashOk (submitM m ten ref j) := by
  have hlog : (submitM m ten ref j).log = m.log ++ [callSubmit ten ref j] := by unfold submitM; simp only; split <;> rfl
  have hc : (submitM m ten ref j).c = m.c := by unfold submitM; simp only; split <;> rfl
  have hp : (submitM m ten ref j).paid = m.paid := by unfold submitM; simp only; split <;> rfl
  have hch : (submitM m ten ref j).charges = m.charges := by unfold submitM; simp only; split <;> rfl
  refine ⟨h.ok.submit (z := submitE m ten ref j) (.inr ⟨hl, rfl, rfl⟩), Hist.step hc hlog ?_, paid_more h.paid hp hlog, by rw [hch]; exact h.cents, ?_⟩
  · rw [again_submit (h.rlog hl)]
    exact HistM.submit h.hist ten ref j
  · rw [hch, h.cnt]
    unfold submitM
    simp only
    split
    · show _ = (m.bids ++ [newBid m ten ref j]).countP (·.charged)
      rw [List.countP_append]
      simp [newBid]
    · rfl
theorem CashOk.cancel (h : CashOk m) (hl : m.log.length < 300) (ten ref : Int) : CashOk (cancelM m ten ref) := by
  have hlog : (cancelM m ten ref).log = m.log ++ [callCancel ten ref] := by unfold cancelM; simp only; split <;> rfl
  have hc : (cancelM m ten ref).c = m.c := by unfold cancelM; simp only; split <;> rfl
  have hp : (cancelM m ten ref).paid = m.paid := by unfold cancelM; simp only; split <;> rfl
  have hch : (cancelM m ten ref).charges = m.charges := by unfold cancelM; simp only; split <;> rfl
  refine ⟨h.ok.cancel (z := cancelE m ten ref) (.inr ⟨hl, rfl, rfl⟩), Hist.step hc hlog ?_, paid_more h.paid hp hlog, by rw [hch]; exact h.cents, ?_⟩
  · rw [again_cancel (h.rlog hl)]
    exact HistM.cancel h.hist ten ref
  · rw [hch, h.cnt, key_count (key_cancel m ten ref)]
theorem CashOk.suspend (h : CashOk m) (hl : m.log.length < 300) (ten : Int) (on : Bool) : CashOk (suspendM m ten on) := by
  have hlog : (suspendM m ten on).log = m.log ++ [callSuspend ten on] := by unfold suspendM; simp only; split <;> rfl
  have hc : (suspendM m ten on).c = m.c := by unfold suspendM; simp only; split <;> rfl
  have hp : (suspendM m ten on).paid = m.paid := by unfold suspendM; simp only; split <;> rfl
  have hch : (suspendM m ten on).charges = m.charges := by unfold suspendM; simp only; split <;> rfl
  have hb : (suspendM m ten on).bids = m.bids := by unfold suspendM; simp only; split <;> rfl
  refine ⟨h.ok.suspend (z := suspendE m ten) (.inr ⟨hl, rfl, rfl⟩), Hist.step hc hlog ?_, paid_more h.paid hp hlog, by rw [hch]; exact h.cents, by rw [hch, hb]; exact h.cnt⟩
  rw [again_suspend (h.rlog hl)]
  exact HistM.suspend h.hist ten on
theorem CashOk.cap (h : CashOk m) (hl : m.log.length < 300) (f t u : Int) : CashOk (capM m f t u) := by
  have hlog : (capM m f t u).log = m.log ++ [callCapacity f t u] := by unfold capM; split; · rfl
                                                                       · split <;> rfl
  have hc : (capM m f t u).c = m.c := by unfold capM; split; · rfl
                                         · split <;> rfl
  have hp : (capM m f t u).paid = m.paid := by unfold capM; split; · rfl
                                               · split <;> rfl
  have hch : (capM m f t u).charges = m.charges := by unfold capM; split; · rfl
                                                      · split <;> rfl
  have hb : (capM m f t u).bids = m.bids := by unfold capM; split; · rfl
                                               · split <;> rfl
  obtain ⟨z, hz⟩ := capM_res m f t u
  refine ⟨h.ok.capacity (z := z) (.inr ⟨hl, hz⟩), Hist.step hc hlog ?_, paid_more h.paid hp hlog, by rw [hch]; exact h.cents, by rw [hch, hb]; exact h.cnt⟩
  rw [again_cap (h.rlog hl)]
  exact HistM.cap h.hist f t u
theorem CashOk.tick (h : CashOk m) (hl : m.log.length < 300) : CashOk (tickF m) := by
  obtain ⟨z, names, hz⟩ := tickF_res h.ok hl
  have hrest : (tickF m).c = m.c ∧ (tickF m).paid = m.paid ∧ (tickF m).charges = m.charges := by
    unfold tickF
    split
    · exact ⟨rfl, rfl, rfl⟩
    · have g1 : ghostI (m.logs callTick) m.time = none := ghostI_none (h.ok.logs hl callTick) h.hist.ghost m.time
      unfold tickM
      simp only [g1, wantEnd]
      have := AlikeM.fold m.time none (orderL m m.time) (m.logs callTick, [])
      exact ⟨this.c, this.paid, this.charges⟩
  refine ⟨(h.ok.tick hz).1, Hist.step hrest.1 (tickF_log' m) ?_, paid_more h.paid hrest.2.1 (tickF_log' m), by rw [hrest.2.2]; exact h.cents, by rw [hrest.2.2, h.cnt, key_count (key_tick m)]⟩
  rw [again_tick (h.rlog hl)]
  exact HistM.tick h.hist h.ok h.rok hl
theorem CashOk.bill (h : CashOk m) (hl : m.log.length < 300) : CashOk (billM m) := by
  have hok : MkOk (billM m) := by
    have h1 := (h.ok.logs hl callBill)
    refine ⟨h1.ck, h1.nu, h1.ns, h1.np, h1.nl, by show (m.bids.map _).length ≤ _; rw [List.length_map]; exact h1.nb, h1.t0, h1.t1, h1.un, fun b hb => ?_⟩
    obtain ⟨b0, hb0, rfl⟩ := List.mem_map.1 hb
    exact (h.ok.bid b0 hb0).bill m.time
  have hH : Hist (m.logs callBill) := by
    refine Hist.step (m := m) (c := callBill) rfl rfl ?_
    rw [again_bill (h.rlog hl)]
    exact HistM.logs h.hist callBill
  refine ⟨hok, Hist.step (m := m) (m' := billM m) (c := callBill) rfl rfl ?_, paid_more (m' := billM m) (c := callBill) h.paid rfl rfl, fun c hc => ?_, ?_⟩
  · rw [again_bill (h.rlog hl)]
    exact HistM.bill h.hist
  · rcases List.mem_append.1 hc with hc | hc
    · exact h.cents c hc
    · unfold billL dueL at hc
      obtain ⟨b, hb, rfl⟩ := List.mem_map.1 hc
      obtain ⟨hb1, hb2⟩ := List.mem_filter.1 hb
      obtain ⟨k, hk⟩ := List.getElem?_of_mem hb1
      have hw : b.state = 2 := by
        unfold BidG.dueB at hb2
        simp at hb2
        exact hb2.1.1
      have := Hist.price hH (h.ok.logs hl callBill) (k := k) hk hw
      have hj := jobIn_true (h.ok.bid b hb1).job
      show 1 ≤ priceM (m.logs callBill) b.entry ∧ priceM (m.logs callBill) b.entry ≤ 1048576
      omega
  · show (m.charges ++ billL m).length = (m.bids.map fun b => b.bill m.time).countP (·.charged)
    rw [bill_count, List.length_append, h.cnt, billL, dueL, List.length_map]
    rfl
theorem CashOk.pay (h : CashOk m) (hl : m.log.length < 300) (ten cents : Int) : CashOk (payM m ten cents) := by
  have hlog : (payM m ten cents).log = m.log ++ [callPay ten cents] := by unfold payM; simp only; split <;> rfl
  have hc : (payM m ten cents).c = m.c := by unfold payM; simp only; split <;> rfl
  have hch : (payM m ten cents).charges = m.charges := by unfold payM; simp only; split <;> rfl
  have hb : (payM m ten cents).bids = m.bids := by unfold payM; simp only; split <;> rfl
  refine ⟨?_, Hist.step hc hlog ?_, ?_, by rw [hch]; exact h.cents, by rw [hch, hb]; exact h.cnt⟩
  · have h1 := (h.ok.logs hl (callPay ten cents))
    unfold payM
    simp only
    split
    · exact ⟨h1.ck, h1.nu, h1.ns, by show (m.paid.set _ _).length = _; rw [List.length_set]; exact h1.np, h1.nl, h1.nb, h1.t0, h1.t1, h1.un, h1.bid⟩
    · exact h1
  · rw [again_pay (h.rlog hl)]
    exact HistM.pay h.hist ten cents
  · unfold payM
    simp only
    split
    · rename_i hE
      intro x hx
      show 0 ≤ x ∧ x ≤ ((m.log ++ [callPay ten cents]).length : Nat) * 1073741824
      rw [List.length_append]
      simp only [List.length_cons, List.length_nil]
      have hce : 1 ≤ cents ∧ cents ≤ 1073741824 := by
        unfold payE at hE
        split at hE
        · omega
        · split at hE
          · omega
          · omega
      rcases List.mem_or_eq_of_mem_set hx with hx | hx
      · have := h.paid x hx
        omega
      · have h0 : 0 ≤ m.paid.getD ten.toNat 0 ∧ m.paid.getD ten.toNat 0 ≤ m.log.length * 1073741824 := by
          by_cases hi : ten.toNat < m.paid.length
          · exact h.paid _ (by simp [List.getD, List.getElem?_eq_getElem hi])
          · rw [List.getD, List.getElem?_eq_none (by omega)]
            simp
            omega
        have e1 : x = m.paid.getD ten.toNat 0 + cents := hx
        omega
    · exact paid_more h.paid rfl rfl
end
end Go.Proofs.Ytminceigjejipaa

/-
  WHAT IS KEPT OF EVERY MARKET as the calls go by: GoodM, for the statements on prices: CashOk. Nothing of the program.
-/
namespace Go.Proofs.Ytminceigjejipaa

def GoodM (m : MkG) : Prop := CashOk m
section
variable {m m' : MkG} {z : Int}
theorem GoodM.cash (h : GoodM m) : CashOk m := h
theorem GoodM.ok (h : GoodM m) : MkOk m := CashOk.ok h
theorem GoodM.ghost (h : GoodM m) : m.ghost = -1 := (CashOk.hist h).ghost
theorem GoodM.open {c : CfgG} (h : cfgOk c = true) : GoodM (openM c) := CashOk.open h
theorem GoodM.submit (h : GoodM m) {ten ref : Int} {j : JobG} (hr : SubmitRes m ten ref j z m') : GoodM m' := by
  rcases hr with ⟨_, _, rfl⟩ | ⟨hl, _, rfl⟩
  · exact h
  · exact CashOk.submit h hl _ _ _
theorem GoodM.cancel (h : GoodM m) {ten ref : Int} (hr : CancelRes m ten ref z m') : GoodM m' := by
  rcases hr with ⟨_, _, rfl⟩ | ⟨hl, _, rfl⟩
  · exact h
  · exact CashOk.cancel h hl _ _
theorem GoodM.suspend (h : GoodM m) {ten : Int} {on : Bool} (hr : SuspendRes m ten on z m') : GoodM m' := by
  rcases hr with ⟨_, _, rfl⟩ | ⟨hl, _, rfl⟩
  · exact h
  · exact CashOk.suspend h hl _ _
theorem GoodM.capacity (h : GoodM m) {f t u : Int} (hr : CapacityRes m f t u z m') : GoodM m' := by
  rcases hr with ⟨_, _, rfl⟩ | ⟨hl, hr⟩
  · exact h
  · rw [hr.fn]
    exact CashOk.cap h hl _ _ _
theorem GoodM.tick (h : GoodM m) {names : List (Int × Int)} (hr : TickRes m z names m') : GoodM m' := by
  by_cases hl : m.log.length < 300
  · rw [hr.fn (CashOk.ok h) hl]
    exact CashOk.tick h hl
  · rcases hr with ⟨_, _, _, rfl⟩ | ⟨a, _⟩ | ⟨a, _⟩
    · exact h
    · omega
    · omega
end
end Go.Proofs.Ytminceigjejipaa

/-
  WHAT THE LAWS ASK OF THE PROGRAM's CALLS OF MONEY (stage 4): a contract a call, over the same predicate YAt; the document's calls in the same words.
-/
namespace Go.Proofs.Ytminceigjejipaa
open Go.RowKit

def PayRes (m : MkG) (ten cents : Int) (z : Int) (m' : MkG) : Prop := LogRes m (payE m ten cents) (payM m ten cents) z m'
def BillRes (m : MkG) (z : Int) (l : List InvG) (m' : MkG) : Prop := (m.log.length = 300 ∧ z = 2 ∧ l = [] ∧ m' = m) ∨ (m.log.length < 300 ∧ z = 0 ∧ l = billL m ∧ m' = billM m)
theorem BillRes.unique {m : MkG} {z z2 : Int} {l l2 : List InvG} {m1 m2 : MkG} (h : BillRes m z l m1) (h2 : BillRes m z2 l2 m2) : z = z2 ∧ l = l2 ∧ m1 = m2 := by
  rcases h with ⟨a, rfl, rfl, rfl⟩ | ⟨a, rfl, rfl, rfl⟩ <;> rcases h2 with ⟨b, rfl, rfl, rfl⟩ | ⟨b, rfl, rfl, rfl⟩ <;> first | exact ⟨rfl, rfl, rfl⟩ | (exfalso; omega)
theorem BillRes.len {m : MkG} {z : Int} {l : List InvG} {m' : MkG} (h : BillRes m z l m') (hok : MkOk m) : l.length ≤ 300 := by
  rcases h with ⟨_, _, rfl, _⟩ | ⟨_, _, rfl, _⟩
  · simp
  · exact Nat.le_trans (dueL_len _ _) hok.bl
theorem GoodM.bill {m m' : MkG} {z : Int} {l : List InvG} (h : GoodM m) (hr : BillRes m z l m') : GoodM m' := by
  rcases hr with ⟨_, _, _, rfl⟩ | ⟨hl, _, _, rfl⟩
  · exact h
  · exact CashOk.bill h hl
theorem GoodM.pay {m m' : MkG} {z ten cents : Int} (h : GoodM m) (hr : PayRes m ten cents z m') : GoodM m' := by
  rcases hr with ⟨_, _, rfl⟩ | ⟨hl, _, rfl⟩
  · exact h
  · exact CashOk.pay h hl _ _

/-- a list of invoices that has come out of the program -/
structure InvOut (YAt : World → Nat → (Nat → Prop) → MkG → Prop) (w : World) (p : Nat) (F : Nat → Prop) (m' : MkG) (z : Int) (l : List InvG) (lv : Value) (F' : Nat → Prop) (w' : World) : Prop where
  yard : YAt w' p F' m'
  chg : Chg F w w'
  foot : ∀ k, F' k → F k ∨ w.heap.size ≤ k
  own : w'.ownsRow 0 88 3 lv l.length (l.flatMap invCells)
  new : ∀ k, lv.ownBlock = some k → w.heap.size ≤ k ∧ ¬ F' k
  nil : z ≠ 0 → lv = .slice none 0 0

structure PaidY (YAt : World → Nat → (Nat → Prop) → MkG → Prop) : Prop where
  price : ∀ w p F m ten ref, YAt w p F m → GoodM m → I64 ten → I64 ref → Calls Try.prog 24 #[.pointer (some ⟨p, 0, none⟩), .int .i64 ten, .int .i64 ref] w fun e w' => e = .returned (.tuple #[.int .i64 (priceV m ten ref), .int .i64 (priceE m ten ref)]) ∧ YTo YAt w p F m w'
  bill : ∀ w p F m, YAt w p F m → GoodM m → Calls Try.prog 50 #[.pointer (some ⟨p, 0, none⟩)] w fun e w' => ∃ lv l z m' F', e = .returned (.tuple #[lv, .int .i64 z]) ∧ BillRes m z l m' ∧ InvOut YAt w p F m' z l lv F' w'
  pay : ∀ w p F m ten cents, YAt w p F m → GoodM m → I64 ten → I64 cents → Calls Try.prog 51 #[.pointer (some ⟨p, 0, none⟩), .int .i64 ten, .int .i64 cents] w fun e w' => ∃ z m', e = .returned (.int .i64 z) ∧ PayRes m ten cents z m' ∧ YTo YAt w p F m' w'
  balance : ∀ w p F m ten, YAt w p F m → GoodM m → I64 ten → Calls Try.prog 37 #[.pointer (some ⟨p, 0, none⟩), .int .i64 ten] w fun e w' => e = .returned (.tuple #[.int .i64 (balV m ten), .int .i64 (invE m ten)]) ∧ YTo YAt w p F m w'
  invoices : ∀ w p F m ten, YAt w p F m → GoodM m → I64 ten → Calls Try.prog 36 #[.pointer (some ⟨p, 0, none⟩), .int .i64 ten] w fun e w' => ∃ lv F', e = .returned (.tuple #[lv, .int .i64 (invE m ten)]) ∧ InvOut YAt w p F m (invE m ten) (invL m ten) lv F' w'

end Go.Proofs.Ytminceigjejipaa

namespace Go.Proofs.Ytminceigjejipaa
open Go.RowKit

section
variable (YAt : World → Nat → (Nat → Prop) → MkG → Prop)

end

/-- the two boxes of 'bid' and 'looked' -/
structure Bx (w : World) (q y r : Nat) (a b c d : Int) (j : JobG) : Prop where
  y : w.cell? ⟨q, 0, none⟩ = some (.pointer (some ⟨y, 0, none⟩))
  r : w.cell? ⟨q, 1, none⟩ = some (.pointer (some ⟨r, 0, none⟩))
  b : w.cell? ⟨q + 1, 2, none⟩ = some (.int .i64 b)
  c : w.cell? ⟨q + 1, 3, none⟩ = some (.int .i64 c)
  d : w.cell? ⟨q + 1, 4, none⟩ = some (.int .i64 d)
  j0 : w.cell? ⟨q + 1, 5, none⟩ = some (.int .i64 j.arr)
  j1 : w.cell? ⟨q + 1, 6, none⟩ = some (.int .i64 j.dl)
  j2 : w.cell? ⟨q + 1, 7, none⟩ = some (.int .i64 j.len)
  j3 : w.cell? ⟨q + 1, 8, none⟩ = some (.int .i64 j.units)
  j4 : w.cell? ⟨q + 1, 9, none⟩ = some (.int .i64 j.val)
  lt : q + 1 < w.heap.size

theorem Bx.chg {w w' : World} {O : Nat → Prop} {q y r : Nat} {a b c d : Int} {j : JobG} (h : Bx w q y r a b c d j) (hc : Chg O w w') (hO : ∀ k, O k → k < q) : Bx w' q y r a b c d j := by
  have hl := h.lt
  have e0 : ∀ f, w'.cell? ⟨q, f, none⟩ = w.cell? ⟨q, f, none⟩ := fun f => hc.cell (by show q < _; omega) (fun hx => by have := hO _ hx; simp at this)
  have e1 : ∀ f, w'.cell? ⟨q + 1, f, none⟩ = w.cell? ⟨q + 1, f, none⟩ := fun f => hc.cell (by show q + 1 < _; omega) (fun hx => by have := hO _ hx; simp at this; omega)
  exact ⟨(e0 0).trans h.y, (e0 1).trans h.r, (e1 2).trans h.b, (e1 3).trans h.c, (e1 4).trans h.d, (e1 5).trans h.j0, (e1 6).trans h.j1, (e1 7).trans h.j2, (e1 8).trans h.j3, (e1 9).trans h.j4, Nat.lt_of_lt_of_le h.lt hc.size⟩

end Go.Proofs.Ytminceigjejipaa

/-
  A TICK, BETWEEN THE PROGRAM AND THE DOCUMENT: what the program's Tick must do (TickY), the document's in the same words.
-/
namespace Go.Proofs.Ytminceigjejipaa
open Go.RowKit

/-- what the laws ask of the program's Tick -/
def TickY (YAt : World → Nat → (Nat → Prop) → MkG → Prop) : Prop :=
  ∀ w p F m, YAt w p F m → MkOk m → m.ghost = -1 → Calls Try.prog 49 #[.pointer (some ⟨p, 0, none⟩)] w fun e w' =>
    ∃ lv names z m' F', e = .returned (.tuple #[lv, .int .i64 z]) ∧ TickRes m z names m' ∧ YAt w' p F' m' ∧ Chg F w w' ∧ (∀ k, F' k → F k ∨ w.heap.size ≤ k) ∧
      w'.ownsRow 0 90 2 lv names.length (names.flatMap nameCells) ∧ (∀ k, lv.ownBlock = some k → w.heap.size ≤ k ∧ ¬ F' k) ∧ (z ≠ 0 → lv = .slice none 0 0)
end Go.Proofs.Ytminceigjejipaa
