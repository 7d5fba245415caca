import Derived.Test.YtminceigjejipaaG4
import Derived.Test.YtminceigjejipaaG6
/-
  THE ORDER AS A FUNCTION; a call of the log, made again, as a function. Nothing of the program.
-/
namespace Go.Proofs.Ytminceigjejipaa

/-- the bids that are looked at, one by one -/
def orderGo (m : MkG) (t : Int) : Nat → List Nat → List Nat
  | 0, done => done
  | f + 1, done =>
    let z := nextGo m t (inL done) m.bids.length
    if z < 0 then done else orderGo m t f (done ++ [z.toNat])
def orderL (m : MkG) (t : Int) : List Nat := orderGo m t (m.bids.length + 1) []

theorem orderGo_is {m : MkG} {t : Int} (hs : SizesOk m.bids) : ∀ (f : Nat) (done : List Nat), Sel m t done → remL m.bids.length done < f → IsOrder m t (orderGo m t f done)
  | 0, _, _, h => by omega
  | f + 1, done, hsel, hf => by
    have hb := nextGo_best (t := t) (lk := inL done) hs m.bids.length
    have hl := nextGo_lt m t (inL done) m.bids.length
    unfold orderGo
    simp only
    split
    · rename_i hz
      exact hsel.done rfl hb hz
    · rename_i hz
      obtain ⟨i, hi⟩ := Int.eq_ofNat_of_zero_le (show 0 ≤ nextGo m t (inL done) m.bids.length by omega)
      rw [hi] at hb hl ⊢
      obtain ⟨h1, h2, _⟩ := hsel.snoc rfl hb
      have := remL_lt (n := m.bids.length) (by omega) h2
      exact orderGo_is hs f _ h1 (by simpa using by omega)
theorem orderL_is {m : MkG} {t : Int} (hs : SizesOk m.bids) : IsOrder m t (orderL m t) := by
  refine orderGo_is hs _ _ (Sel.nil _ _) ?_
  have : remL m.bids.length [] ≤ (List.range m.bids.length).length := List.countP_le_length
  simp at this
  omega

/-- units in use, as a test -/
def capB (m : MkG) (f t u : Int) : Bool := (List.range (t - f).toNat).all fun s => decide (usedL m.bids (f + s) ≤ u)
theorem capB_iff {m : MkG} {f t u : Int} : capB m f t u = true ↔ capOk m f t u := by
  simp only [capB, List.all_eq_true, List.mem_range, decide_eq_true_eq, capOk]
  constructor
  · intro h s h1 h2
    have := h (s - f).toNat (by omega)
    rw [show f + ((s - f).toNat : Int) = s by omega] at this
    exact this
  · intro h s hs
    exact h (f + s) (by omega) (by omega)
def capM (m : MkG) (f t u : Int) : MkG :=
  if capArg m f t u = true then m.logs (callCapacity f t u) else if capB m f t u = true then { m.logs (callCapacity f t u) with units := (List.range m.units.length).map fun i : Nat => if f ≤ (i : Int) ∧ (i : Int) < t then u else m.units.getD i 0 } else m.logs (callCapacity f t u)
theorem CapRes.fn {m m' : MkG} {f t u z : Int} (h : CapRes m f t u z m') : m' = capM m f t u := by
  unfold capM
  rcases h with ⟨a, _, rfl⟩ | ⟨a, b, _, rfl⟩ | ⟨a, b, _, rfl⟩
  · rw [if_pos a]
  · rw [if_neg (by rw [a]; simp), if_neg (by rw [capB_iff]; exact b)]
  · rw [if_neg (by rw [a]; simp), if_pos (capB_iff.2 b)]

/-- a tick, as a function -/
def tickF (m : MkG) : MkG := if m.c.ticks ≤ m.time then m.logs callTick else (tickM m (orderL m m.time)).1
theorem TickRes.fn {m m' : MkG} {z : Int} {names : List (Int × Int)} (hok : MkOk m) (hl : m.log.length < 300) (h : TickRes m z names m') : m' = tickF m := by
  unfold tickF
  rcases h with ⟨a, _⟩ | ⟨_, b, _, _, rfl⟩ | ⟨_, b, _, l, hord, rfl, _⟩
  · omega
  · rw [if_pos b]
  · rw [if_neg (by omega), hord.unique (orderL_is hok.sizes)]

/-- a call of the log, made again (a Bill or Pay is just logged) -/
def againM (m : MkG) (c : CallG) : MkG :=
  if 300 ≤ m.log.length then m
  else if c.kind = 1 then submitM m c.a c.b c.job
  else if c.kind = 2 then cancelM m c.a c.b
  else if c.kind = 3 then capM m c.a c.b c.c
  else if c.kind = 4 then suspendM m c.a c.on
  else if c.kind = 5 then tickF m
  else m.logs c
/-- a market in which the bid of entry g never starts -/
def ghostOpen (c : CfgG) (g : Int) : MkG := { openM c with ghost := g }
def replayG (c : CfgG) (g : Int) (log : List CallG) : MkG := log.foldl againM (ghostOpen c g)
/-- a market in which that bid's Value is v -/
def withV (c : CallG) (v : Int) : CallG := { c with job := { c.job with val := v } }
def replayV (c : CfgG) (g : Nat) (v : Int) (log : List CallG) : MkG := (log.mapIdx fun i x => if i = g then withV x v else x).foldl againM (openM c)

theorem capM_res (m : MkG) (f t u : Int) : ∃ z, CapRes m f t u z (capM m f t u) := by
  unfold capM
  by_cases a : capArg m f t u = true
  · rw [if_pos a]
    exact ⟨9, .inl ⟨a, rfl, rfl⟩⟩
  · rw [if_neg a]
    have a' : capArg m f t u = false := by simpa using a
    by_cases b : capB m f t u = true
    · rw [if_pos b]
      exact ⟨0, .inr (.inr ⟨a', capB_iff.1 b, rfl, rfl⟩)⟩
    · rw [if_neg b]
      exact ⟨10, .inr (.inl ⟨a', fun h => b (capB_iff.2 h), rfl, rfl⟩)⟩
theorem tickF_res {m : MkG} (hok : MkOk m) (hl : m.log.length < 300) : ∃ z names, TickRes m z names (tickF m) := by
  unfold tickF
  by_cases b : m.c.ticks ≤ m.time
  · rw [if_pos b]
    exact ⟨11, [], .inr (.inl ⟨hl, b, rfl, rfl, rfl⟩)⟩
  · rw [if_neg b]
    exact ⟨0, _, .inr (.inr ⟨hl, by omega, rfl, _, orderL_is hok.sizes, rfl, rfl⟩)⟩
theorem MkOk.again {m : MkG} (h : MkOk m) (c : CallG) : MkOk (againM m c) := by
  unfold againM
  split
  · exact h
  · rename_i hl
    have hl' : m.log.length < 300 := by omega
    split
    · exact h.submit (z := submitE m c.a c.b c.job) (.inr ⟨hl', rfl, rfl⟩)
    · split
      · exact h.cancel (z := cancelE m c.a c.b) (.inr ⟨hl', rfl, rfl⟩)
      · split
        · obtain ⟨z, hz⟩ := capM_res m c.a c.b c.c
          exact h.capacity (z := z) (.inr ⟨hl', hz⟩)
        · split
          · exact h.suspend (z := suspendE m c.a) (.inr ⟨hl', rfl, rfl⟩)
          · split
            · obtain ⟨z, names, hz⟩ := tickF_res h hl'
              exact (h.tick hz).1
            · exact h.logs hl' c
theorem MkOk.ghostOpen {c : CfgG} (h : cfgOk c = true) (g : Int) : MkOk (ghostOpen c g) := by
  have := MkOk.open h
  exact ⟨this.ck, this.nu, this.ns, this.np, this.nl, this.nb, this.t0, this.t1, this.un, this.bid⟩
theorem MkOk.fold_again : ∀ (l : List CallG) {m : MkG}, MkOk m → MkOk (l.foldl againM m)
  | [], _, h => h
  | c :: l, _, h => MkOk.fold_again l (h.again c)
end Go.Proofs.Ytminceigjejipaa

/-
  A BID WITH ANOTHER VALUE: up to the tick at which it starts all is as in the market in which it never starts. Nothing of the program.
-/
namespace Go.Proofs.Ytminceigjejipaa

def setV (b : BidG) (v : Int) : BidG := { b with job := { b.job with val := v } }
/-- the bid of entry e has the value v -/
def al (e v : Int) (b : BidG) : BidG := if b.entry = e then setV b v else b

section
variable (e v : Int) (b : BidG)
theorem al_ten : (al e v b).ten = b.ten := by unfold al; split <;> rfl
theorem al_ref : (al e v b).ref = b.ref := by unfold al; split <;> rfl
theorem al_arrival : (al e v b).arrival = b.arrival := by unfold al; split <;> rfl
theorem al_state : (al e v b).state = b.state := by unfold al; split <;> rfl
theorem al_start : (al e v b).start = b.start := by unfold al; split <;> rfl
theorem al_entry : (al e v b).entry = b.entry := by unfold al; split <;> rfl
theorem al_len : (al e v b).job.len = b.job.len := by unfold al; split <;> rfl
theorem al_units : (al e v b).job.units = b.job.units := by unfold al; split <;> rfl
theorem al_dl : (al e v b).job.dl = b.job.dl := by unfold al; split <;> rfl
theorem al_size : sizeJ (al e v b).job = sizeJ b.job := by unfold sizeJ; rw [al_len, al_units]
end
theorem al_ne {e v : Int} {b : BidG} (h : b.entry ≠ e) : al e v b = b := by unfold al; rw [if_neg h]
theorem al_eq {e v : Int} {b : BidG} (h : b.entry = e) : al e v b = setV b v := by unfold al; rw [if_pos h]
theorem al_set (e v : Int) (b : BidG) (s st : Int) : al e v { b with state := s, start := st } = { al e v b with state := s, start := st } := by
  unfold al
  by_cases h : b.entry = e
  · rw [if_pos h, if_pos h]; rfl
  · rw [if_neg h, if_neg h]
theorem al_setS (e v : Int) (b : BidG) (s : Int) : al e v { b with state := s } = { al e v b with state := s } := by
  unfold al
  by_cases h : b.entry = e
  · rw [if_pos h, if_pos h]; rfl
  · rw [if_neg h, if_neg h]

/-- R is G, but that in R the bid of entry e has the value v, and may start -/
structure MAl (e v : Int) (G R : MkG) : Prop where
  c : R.c = G.c
  time : R.time = G.time
  units : R.units = G.units
  susp : R.susp = G.susp
  log : R.log.length = G.log.length
  bids : R.bids = G.bids.map (al e v)
  gh : G.ghost = e
  rg : R.ghost = -1

section
variable {e v : Int} {G R : MkG}
theorem MAl.get (h : MAl e v G R) (i : Nat) : R.bids[i]? = (G.bids[i]?).map (al e v) := by rw [h.bids, List.getElem?_map]
theorem usedL_al (l : List BidG) (t : Int) : usedL (l.map (al e v)) t = usedL l t := by
  unfold usedL
  rw [List.map_map]
  congr 1
  apply List.map_congr_left
  intro b _
  have hr : (al e v b).runs t = b.runs t := by simp only [BidG.runs, al_state, al_start, al_len]
  simp only [Function.comp, hr, al_units]
theorem MAl.used (h : MAl e v G R) (t : Int) : usedL R.bids t = usedL G.bids t := by rw [h.bids, usedL_al]
theorem MAl.free (h : MAl e v G R) (t : Int) : freeV R t = freeV G t := by
  unfold freeV
  rw [h.c, h.units, h.used]
theorem MAl.fits (h : MAl e v G R) (b : BidG) (t : Int) : fitsB R (al e v b) t = fitsB G b t := by
  unfold fitsB
  rw [al_len]
  congr 1
  funext s
  rw [al_units, h.free]
theorem MAl.openB (h : MAl e v G R) (b : BidG) (t : Int) : (al e v b).openB R t = b.openB G t := by
  unfold BidG.openB suspAt
  rw [al_state, al_ten, al_arrival, al_len, al_dl, h.susp]
theorem MAl.find (h : MAl e v G R) (ten ref : Int) : findZ R.bids ten ref = findZ G.bids ten ref := by
  unfold findZ findL
  rw [h.bids, List.findIdx?_map]
  have : ((fun b => BidG.is b ten ref) ∘ al e v) = fun b => BidG.is b ten ref := by
    funext b
    simp only [Function.comp, BidG.is, al_ten, al_ref]
  rw [this]
theorem MAl.pend (h : MAl e v G R) (ten : Int) : pendL R.bids ten = pendL G.bids ten := by
  unfold pendL
  rw [h.bids, List.countP_map]
  have : ((fun b => BidG.pends b ten) ∘ al e v) = fun b => BidG.pends b ten := by
    funext b
    simp only [Function.comp, BidG.pends, al_ten, al_state]
  rw [this]
theorem MAl.tenB (h : MAl e v G R) (k : Int) : R.tenB k = G.tenB k := by unfold MkG.tenB; rw [h.c]
theorem MAl.state (h : MAl e v G R) (i : Int) : stateAt R i = stateAt G i := by
  unfold stateAt
  rw [h.get]
  cases G.bids[i.toNat]? with
  | none => rfl
  | some b => simp [al_state]
theorem MAl.logs (h : MAl e v G R) (c c' : CallG) : MAl e v (G.logs c) (R.logs c') :=
  ⟨h.c, h.time, h.units, h.susp, by simp [MkG.logs, h.log], h.bids, h.gh, h.rg⟩
theorem MAl.need (h : MAl e v G R) (x : Int) : MAl e v { G with need := x } R := ⟨h.c, h.time, h.units, h.susp, h.log, h.bids, h.gh, h.rg⟩
theorem MAl.want (h : MAl e v G R) (g : Nat) (x : Int) : MAl e v (wantM G g x) R := by
  unfold wantM
  split
  · exact h.need _
  · exact h
theorem MAl.wantEnd (h : MAl e v G R) (t : Int) (g : Option Nat) : MAl e v (wantEnd t g G) R := by
  unfold Go.Proofs.Ytminceigjejipaa.wantEnd
  cases g with
  | none => exact h
  | some gi =>
    simp only
    split
    · exact h.want _ _
    · exact h

/-! ### the calls but Tick -/
theorem MAl.submit (h : MAl e v G R) (ten ref : Int) (j j' : JobG) (hj : (G.log.length ≠ e ∧ j' = j) ∨ ((G.log.length : Int) = e ∧ j' = { j with val := v } ∧ 1 ≤ v ∧ v ≤ 1048576 ∧ 1 ≤ j.val ∧ j.val ≤ 1048576)) : MAl e v (submitM G ten ref j) (submitM R ten ref j') := by
  have hjb : R.jobB j' = G.jobB j := by
    unfold MkG.jobB atOf
    rw [h.c, h.time]
    rcases hj with ⟨_, rfl⟩ | ⟨_, rfl, h1, h2, h3, h4⟩
    · rfl
    · have : jobIn G.c.ticks { j with val := v } = jobIn G.c.ticks j := by
        rw [Bool.eq_iff_iff]
        simp only [jobIn, Bool.and_eq_true, decide_eq_true_eq]
        omega
      rw [this]
  have hE : submitE R ten ref j' = submitE G ten ref j := by
    unfold submitE refB suspAt
    rw [h.tenB, h.susp, h.find, hjb, h.pend, h.c]
  have hl := h.logs (callSubmit ten ref j) (callSubmit ten ref j')
  unfold submitM
  simp only [hE]
  split
  · refine ⟨hl.c, hl.time, hl.units, hl.susp, hl.log, ?_, hl.gh, hl.rg⟩
    show R.bids ++ [newBid R ten ref j'] = (G.bids ++ [newBid G ten ref j]).map (al e v)
    rw [List.map_append, ← h.bids]
    congr 1
    simp only [List.map_cons, List.map_nil, List.cons.injEq, and_true]
    rcases hj with ⟨h1, rfl⟩ | ⟨h1, rfl, _⟩
    · rw [al_ne (b := newBid G ten ref j') (by simpa [newBid] using h1)]
      simp only [newBid, h.time, h.log]
    · rw [al_eq (b := newBid G ten ref j) (by simpa [newBid] using h1)]
      simp only [newBid, setV, atOf, h.time, h.log]
  · exact hl
theorem MAl.cancel (h : MAl e v G R) (ten ref : Int) : MAl e v (cancelM G ten ref) (cancelM R ten ref) := by
  have hE : cancelE R ten ref = cancelE G ten ref := by
    unfold cancelE
    rw [h.tenB, h.find, h.state]
  have hl := h.logs (callCancel ten ref) (callCancel ten ref)
  unfold cancelM
  simp only [hE, h.find]
  split
  · refine ⟨hl.c, hl.time, hl.units, hl.susp, hl.log, ?_, hl.gh, hl.rg⟩
    show setState R.bids _ 3 = (setState G.bids _ 3).map (al e v)
    unfold setState
    rw [h.get]
    cases hb : G.bids[(findZ G.bids ten ref).toNat]? with
    | none => exact h.bids
    | some b =>
      simp only [Option.map_some]
      rw [List.map_set, h.bids]
      exact congrArg _ (al_setS e v b 3).symm
  · exact hl
theorem MAl.suspend (h : MAl e v G R) (ten : Int) (on : Bool) : MAl e v (suspendM G ten on) (suspendM R ten on) := by
  have hE : suspendE R ten = suspendE G ten := by
    unfold suspendE
    rw [h.tenB]
  have hl := h.logs (callSuspend ten on) (callSuspend ten on)
  unfold suspendM
  simp only [hE]
  split
  · exact ⟨hl.c, hl.time, hl.units, by show R.susp.set _ _ = G.susp.set _ _; rw [h.susp], hl.log, hl.bids, hl.gh, hl.rg⟩
  · exact hl
theorem MAl.cap (h : MAl e v G R) (f t u : Int) : MAl e v (capM G f t u) (capM R f t u) := by
  have hA : capArg R f t u = capArg G f t u := by
    unfold capArg
    rw [h.time, h.c]
  have hB : capB R f t u = capB G f t u := by
    unfold capB
    congr 1
    funext s
    rw [h.used]
  have hl := h.logs (callCapacity f t u) (callCapacity f t u)
  unfold capM
  rw [hA, hB]
  split
  · exact hl
  · split
    · exact ⟨hl.c, hl.time, by show (List.range R.units.length).map _ = (List.range G.units.length).map _; rw [h.units], hl.susp, hl.log, hl.bids, hl.gh, hl.rg⟩
    · exact hl

/-! ### a tick, bid by bid -/
theorem MAl.start (h : MAl e v G R) (i : Nat) (t : Int) : MAl e v (startM G i t) (startM R i t) := by
  unfold startM
  rw [h.get]
  cases hb : G.bids[i]? with
  | none => exact h
  | some b =>
    refine ⟨h.c, h.time, h.units, h.susp, h.log, ?_, h.gh, h.rg⟩
    show R.bids.set i { al e v b with state := 2, start := t } = (G.bids.set i { b with state := 2, start := t }).map (al e v)
    rw [List.map_set, h.bids]
    exact congrArg _ (al_set e v b 2 t).symm
theorem MAl.one (h : MAl e v G R) (t : Int) (g : Option Nat) (o o' : List (Int × Int)) (i : Nat) (hi : ∀ b, G.bids[i]? = some b → b.entry ≠ e) : MAl e v (tickOne t g (G, o) i).1 (tickOne t none (R, o') i).1 := by
  unfold tickOne
  simp only
  rw [h.get]
  cases hb : G.bids[i]? with
  | none => exact h
  | some b =>
    simp only [Option.map_some]
    rw [h.fits, h.c, al_ne (hi b hb)]
    split
    · cases g with
      | none => exact h.start i t
      | some gi =>
        simp only
        split
        · exact (h.start i t).want _ _
        · exact h.start i t
    · exact h
end
end Go.Proofs.Ytminceigjejipaa

/-
  THE LEAST VALUE WITH WHICH A BID STARTS AT A TICK. Nothing of the program.
-/
namespace Go.Proofs.Ytminceigjejipaa

/-! ### what a tick's loop leaves alone -/
theorem ent_start (m : MkG) (i : Nat) (t : Int) (k : Nat) : ((startM m i t).bids[k]?).map BidG.entry = (m.bids[k]?).map BidG.entry := by
  unfold startM
  cases hb : m.bids[i]? with
  | none => rfl
  | some b =>
    simp only [List.getElem?_set]
    by_cases e : i = k
    · subst e
      have hl := (List.getElem?_eq_some_iff.1 hb).1
      rw [if_pos rfl, if_pos hl, hb]
      rfl
    · rw [if_neg e]
theorem ent_want (m : MkG) (g : Nat) (x : Int) : (wantM m g x).bids = m.bids := by
  unfold wantM
  split <;> rfl
theorem ent_one (t : Int) (g : Option Nat) (s : TkS) (i k : Nat) : ((tickOne t g s i).1.bids[k]?).map BidG.entry = (s.1.bids[k]?).map BidG.entry := by
  unfold tickOne
  split
  · rfl
  · split
    · cases g with
      | none => exact ent_start _ _ _ _
      | some gi =>
        simp only
        split
        · rw [ent_want]; exact ent_start _ _ _ _
        · exact ent_start _ _ _ _
    · rfl
def NotE (e : Int) (m : MkG) (l : List Nat) : Prop := ∀ i ∈ l, ∀ b, m.bids[i]? = some b → b.entry ≠ e
theorem NotE.step {e : Int} {m m' : MkG} {l : List Nat} (h : NotE e m l) (hm : ∀ k : Nat, (m'.bids[k]?).map BidG.entry = (m.bids[k]?).map BidG.entry) : NotE e m' l := by
  intro i hi b hb
  have := hm i
  rw [hb] at this
  cases hb' : m.bids[i]? with
  | none => rw [hb'] at this; cases this
  | some b' =>
    rw [hb'] at this
    simp only [Option.map_some, Option.some.injEq] at this
    rw [this]
    exact h i hi b' hb'
theorem MAl.fold {e v : Int} (t : Int) (g : Option Nat) : ∀ (l : List Nat) {G R : MkG} (o o' : List (Int × Int)), MAl e v G R → NotE e G l → MAl e v (l.foldl (tickOne t g) (G, o)).1 (l.foldl (tickOne t none) (R, o')).1
  | [], _, _, _, _, h, _ => h
  | i :: l, G, R, o, o', h, hn => by
    have h1 := h.one t g o o' i (fun b hb => hn i List.mem_cons_self b hb)
    have hn1 : NotE e (tickOne t g (G, o) i).1 l := NotE.step (m := G) (fun k hk => hn k (List.mem_cons_of_mem _ hk)) (fun k => ent_one t g (G, o) i k)
    exact MAl.fold t g l (tickOne t g (G, o) i).2 (tickOne t none (R, o') i).2 h1 hn1

/-! ### the order with the bid in it -/
theorem split_sorted {S : Nat → Nat → Prop} {A : Nat → Bool} {P : Nat → Prop} : ∀ l : List Nat, l.Pairwise S → (∀ x ∈ l, A x = false → P x) → (∀ x y, P x → S x y → P y) → ∃ l1 l2, l = l1 ++ l2 ∧ (∀ x ∈ l1, A x = true) ∧ ∀ y ∈ l2, P y
  | [], _, _, _ => ⟨[], [], rfl, fun _ h => by simp at h, fun _ h => by simp at h⟩
  | x :: l, hp, hA, hS => by
    rw [List.pairwise_cons] at hp
    cases hx : A x
    · refine ⟨[], x :: l, rfl, fun _ h => by simp at h, fun y hy => ?_⟩
      have hPx := hA x List.mem_cons_self hx
      rcases List.mem_cons.1 hy with rfl | hy
      · exact hPx
      · exact hS x y hPx (hp.1 y hy)
    · obtain ⟨l1, l2, h1, h2, h3⟩ := split_sorted l hp.2 (fun y hy => hA y (List.mem_cons_of_mem _ hy)) hS
      refine ⟨x :: l1, l2, by rw [h1]; rfl, fun y hy => ?_, h3⟩
      rcases List.mem_cons.1 hy with rfl | hy
      · exact hx
      · exact h2 y hy

theorem MAl.sizes {e v : Int} {G R : MkG} (h : MAl e v G R) (hs : SizesOk G.bids) : SizesOk R.bids := by
  intro b hb
  rw [h.bids, List.mem_map] at hb
  obtain ⟨b', hb', rfl⟩ := hb
  rw [al_size]
  exact hs b' hb'
/-- among bids of other entries the order is the same -/
theorem MAl.ahead {e v : Int} {G R : MkG} (h : MAl e v G R) {i k : Nat} (hi : ∀ b, G.bids[i]? = some b → b.entry ≠ e) (hk : ∀ b, G.bids[k]? = some b → b.entry ≠ e) : aheadI R.bids i k = aheadI G.bids i k := by
  unfold aheadI
  rw [h.get, h.get]
  cases h1 : G.bids[i]? with
  | none => rfl
  | some a =>
    cases h2 : G.bids[k]? with
    | none => rfl
    | some b => simp only [Option.map_some, al_ne (hi a h1), al_ne (hk b h2)]
theorem MAl.cand {e v : Int} {G R : MkG} (h : MAl e v G R) (t : Int) {b : BidG} (h0 : 0 ≤ b.entry) : candB R t (al e v b) = b.openB G t := by
  unfold candB
  rw [h.openB, al_entry, h.rg]
  have : (b.entry != -1) = true := by simp; omega
  rw [this, Bool.and_true]

theorem order_insert {e v : Int} {G R : MkG} (h : MAl e v G R) (hs : SizesOk G.bids) (h0 : ∀ b ∈ G.bids, 0 ≤ b.entry) {t : Int} {gi : Nat} {bg : BidG} (hbg : G.bids[gi]? = some bg) (he : bg.entry = e) (ho : bg.openB G t = true) (hu : ∀ (i : Nat) b, G.bids[i]? = some b → b.entry = e → i = gi) {l : List Nat} (hl : IsOrder G t l) :
    ∃ l1 l2, l = l1 ++ l2 ∧ IsOrder R t (l1 ++ gi :: l2) ∧ (∀ x ∈ l1, aheadI R.bids x gi = true) ∧ ∀ y ∈ l2, aheadI R.bids gi y = true := by
  have hne : ∀ x ∈ l, x ≠ gi ∧ ∃ b, G.bids[x]? = some b ∧ b.entry ≠ e ∧ b.openB G t = true := fun x hx => by
    obtain ⟨b, hb, hc⟩ := (hl.mem x).1 hx
    unfold candB at hc
    rw [Bool.and_eq_true, h.gh] at hc
    have h2 : b.entry ≠ e := by simpa using hc.2
    exact ⟨fun hxg => by subst hxg; rw [hbg] at hb; obtain rfl := Option.some.inj hb; exact h2 he, b, hb, h2, hc.1⟩
  have hnE : ∀ x ∈ l, ∀ b, G.bids[x]? = some b → b.entry ≠ e := fun x hx b hb => by
    obtain ⟨_, b', hb', h2, _⟩ := hne x hx
    rw [hb] at hb'
    obtain rfl := Option.some.inj hb'
    exact h2
  have hsR := h.sizes hs
  have hgR : R.bids[gi]? = some (al e v bg) := by rw [h.get, hbg]; rfl
  have hpR : l.Pairwise (fun i k => aheadI R.bids i k = true) := List.Pairwise.imp_of_mem (fun {a b} ha hb hab => by rw [h.ahead (hnE a ha) (hnE b hb)]; exact hab) hl.sorted
  obtain ⟨l1, l2, h1, h2, h3⟩ := split_sorted (A := fun x => aheadI R.bids x gi) (P := fun y => aheadI R.bids gi y = true) l hpR (fun x hx hA => by
    obtain ⟨hxg, b, hb, _⟩ := hne x hx
    rcases aheadI_total (l := R.bids) (i := x) (k := gi) (a := al e v b) (by rw [h.get, hb]; rfl) hgR hxg with h' | h'
    · rw [hA] at h'; cases h'
    · exact h') (fun x y h1 h2 => aheadI_trans hsR h1 h2)
  refine ⟨l1, l2, h1, ⟨fun i => ?_, ?_⟩, h2, h3⟩
  · have hmem : i ∈ l1 ++ gi :: l2 ↔ i ∈ l ∨ i = gi := by
      rw [h1]
      simp only [List.mem_append, List.mem_cons]
      constructor
      · rintro (a | a | a)
        · exact .inl (.inl a)
        · exact .inr a
        · exact .inl (.inr a)
      · rintro ((a | a) | a)
        · exact .inl a
        · exact .inr (.inr a)
        · exact .inr (.inl a)
    rw [hmem]
    constructor
    · rintro (hi | rfl)
      · obtain ⟨_, b, hb, _, hob⟩ := hne i hi
        exact ⟨al e v b, by rw [h.get, hb]; rfl, by rw [h.cand t (h0 b (List.mem_of_getElem? hb))]; exact hob⟩
      · exact ⟨al e v bg, hgR, by rw [h.cand t (h0 bg (List.mem_of_getElem? hbg))]; exact ho⟩
    · rintro ⟨b', hb', hc⟩
      rw [h.get] at hb'
      cases hb : G.bids[i]? with
      | none => rw [hb] at hb'; cases hb'
      | some b =>
        rw [hb] at hb'
        obtain rfl := Option.some.inj hb'
        rw [h.cand t (h0 b (List.mem_of_getElem? hb))] at hc
        by_cases hbe : b.entry = e
        · exact .inr (hu i b hb hbe)
        · refine .inl ((hl.mem i).2 ⟨b, hb, ?_⟩)
          unfold candB
          rw [hc, h.gh]
          simpa using hbe
  · rw [h1, List.pairwise_append] at hpR
    rw [List.pairwise_append]
    refine ⟨hpR.1, List.pairwise_cons.2 ⟨h3, hpR.2.1⟩, fun a ha b hb => ?_⟩
    rcases List.mem_cons.1 hb with rfl | hb
    · exact h2 a ha
    · exact hpR.2.2 a ha b hb
theorem order_same {e v : Int} {G R : MkG} (h : MAl e v G R) (h0 : ∀ b ∈ G.bids, 0 ≤ b.entry) {t : Int} (hno : ∀ b ∈ G.bids, b.entry = e → b.openB G t = false) {l : List Nat} (hl : IsOrder G t l) : IsOrder R t l := by
  have hnE : ∀ x ∈ l, ∀ b, G.bids[x]? = some b → b.entry ≠ e := fun x hx b hb hbe => by
    obtain ⟨b', hb', hc⟩ := (hl.mem x).1 hx
    rw [hb] at hb'
    obtain rfl := Option.some.inj hb'
    unfold candB at hc
    rw [hno b (List.mem_of_getElem? hb) hbe] at hc
    cases hc
  refine ⟨fun i => ?_, List.Pairwise.imp_of_mem (fun {a b} ha hb hab => by rw [h.ahead (hnE a ha) (hnE b hb)]; exact hab) hl.sorted⟩
  rw [hl.mem i]
  constructor
  · rintro ⟨b, hb, hc⟩
    unfold candB at hc
    rw [Bool.and_eq_true] at hc
    exact ⟨al e v b, by rw [h.get, hb]; rfl, by rw [h.cand t (h0 b (List.mem_of_getElem? hb))]; exact hc.1⟩
  · rintro ⟨b', hb', hc⟩
    rw [h.get] at hb'
    cases hb : G.bids[i]? with
    | none => rw [hb] at hb'; cases hb'
    | some b =>
      rw [hb] at hb'
      obtain rfl := Option.some.inj hb'
      rw [h.cand t (h0 b (List.mem_of_getElem? hb))] at hc
      refine ⟨b, rfl, ?_⟩
      unfold candB
      rw [hc, h.gh, Bool.true_and]
      by_cases hbe : b.entry = e
      · rw [hno b (List.mem_of_getElem? hb) hbe] at hc
        cases hc
      · simpa using hbe

/-! ### the least value -/
def lq (gi k : Nat) (jg jk : JobG) : Int :=
  let n := jk.val * sizeJ jg
  let d := sizeJ jk
  if n.tmod d = 0 ∧ gi < k then n.tdiv d else n.tdiv d + 1
theorem least_iff {gi k : Nat} {jg jk : JobG} {v : Int} (hg : 0 < sizeJ jg) (hk : 0 < sizeJ jk) (hv : 0 ≤ jk.val) : aheadJ { jg with val := v } jk gi k = true ↔ lq gi k jg jk ≤ v := by
  rw [aheadJ_iff]
  have es : sizeJ { jg with val := v } = sizeJ jg := rfl
  simp only [es]
  unfold lq
  simp only
  have hn : 0 ≤ jk.val * sizeJ jg := Int.mul_nonneg hv (by omega)
  generalize jk.val * sizeJ jg = n at *
  generalize sizeJ jk = d at *
  rw [Int.tmod_eq_emod_of_nonneg hn, Int.tdiv_eq_ediv_of_nonneg hn]
  have h1 := Int.emod_add_mul_ediv n d
  have h2 := Int.emod_nonneg n (show d ≠ 0 by omega)
  have h3 := Int.emod_lt_of_pos n hk
  generalize n / d = q at *
  generalize n % d = r at *
  have key : n < v * d ↔ q + 1 ≤ v := by
    constructor
    · intro h
      rcases Int.lt_or_le v (q + 1) with h' | h'
      · exfalso
        have : d * v ≤ d * q := Int.mul_le_mul_of_nonneg_left (by omega) (by omega)
        rw [Int.mul_comm v d] at h
        omega
      · exact h'
    · intro h
      have : d * (q + 1) ≤ d * v := Int.mul_le_mul_of_nonneg_left h (by omega)
      rw [Int.mul_add, Int.mul_one] at this
      rw [Int.mul_comm v d]
      omega
  have key2 : v * d = n → r = 0 ∧ v = q := by
    intro h
    have hq : ¬ q + 1 ≤ v := fun hx => by have := key.2 hx; omega
    have : v ≤ q := by omega
    rcases Int.lt_or_le v q with h' | h'
    · exfalso
      have : d * (v + 1) ≤ d * q := Int.mul_le_mul_of_nonneg_left (by omega) (by omega)
      rw [Int.mul_add, Int.mul_one] at this
      rw [Int.mul_comm v d] at h
      omega
    · have hvq : v = q := by omega
      subst hvq
      rw [Int.mul_comm] at h
      exact ⟨by omega, rfl⟩
  have key3 : r = 0 → q * d = n := fun h => by rw [Int.mul_comm]; omega
  by_cases hc : r = 0 ∧ gi < k
  · rw [if_pos hc, key]
    constructor
    · rintro (h | ⟨h, _⟩)
      · omega
      · have := key2 h; omega
    · intro h
      rcases Int.lt_or_le q v with h' | h'
      · exact .inl (by omega)
      · have : v = q := by omega
        subst this
        exact .inr ⟨key3 hc.1, hc.2⟩
  · rw [if_neg hc, key]
    constructor
    · rintro (h | ⟨h, h'⟩)
      · exact h
      · exact absurd ⟨(key2 h).1, h'⟩ hc
    · exact fun h => .inl h
end Go.Proofs.Ytminceigjejipaa

/-
  WHAT THE GHOST WANTS AT A TICK, AND WHAT THE BID DOES THERE. Nothing of the program.
-/
namespace Go.Proofs.Ytminceigjejipaa

/-! ### free units go down as bids start -/
theorem usedL_start (l : List BidG) (i : Nat) (b : BidG) (hb : l[i]? = some b) (t : Int) (h1 : b.state ≠ 2) (h2 : 0 ≤ b.job.units) (s : Int) : usedL l s ≤ usedL (l.set i { b with state := 2, start := t }) s := by
  induction l generalizing i with
  | nil => simp at hb
  | cons y l ih =>
    cases i with
    | zero =>
      simp at hb
      subst hb
      have hr : y.runs s = false := by simp [BidG.runs, h1]
      simp only [usedL, List.set_cons_zero, List.map_cons, List.sum_cons, hr]
      simp only [Bool.false_eq_true, if_false]
      split <;> omega
    | succ i =>
      simp only [List.getElem?_cons_succ] at hb
      have := ih i hb
      simp only [usedL, List.set_cons_succ, List.map_cons, List.sum_cons] at this ⊢
      omega
theorem startM_set {m : MkG} {i : Nat} {b : BidG} {t : Int} (h : m.bids[i]? = some b) : startM m i t = { m with bids := m.bids.set i { b with state := 2, start := t } } := by
  unfold startM
  rw [h]
theorem fits_start {m : MkG} {i : Nat} {b bg : BidG} {t : Int} (hb : m.bids[i]? = some b) (h1 : b.state ≠ 2) (h2 : 0 ≤ b.job.units) (h : fitsB (startM m i t) bg t = true) : fitsB m bg t = true := by
  rw [fitsB_iff] at h ⊢
  intro s hs
  have := h s hs
  unfold freeV at this ⊢
  rw [startM_set hb] at this
  simp only at this
  have hu := usedL_start m.bids i b hb t h1 h2 (t + s)
  split at this
  · rename_i hx
    rw [if_pos hx]
    exact this
  · rename_i hx
    rw [if_neg hx]
    omega
theorem fits_want (m : MkG) (g : Nat) (x : Int) (b : BidG) (t : Int) : fitsB (wantM m g x) b t = fitsB m b t := by
  unfold wantM
  split <;> rfl

/-! ### the ghost's need -/
def minN (N x : Int) : Int := if N = 0 ∨ x < N then x else N
def wq (res : Int) (jg : JobG) (x : Int) : Int :=
  let r := res * sizeJ jg
  let v1 := if x < r then r else x
  if v1 < 1 then 1 else v1
theorem wq_le {res : Int} {jg : JobG} {x v : Int} : wq res jg x ≤ v ↔ x ≤ v ∧ res * sizeJ jg ≤ v ∧ 1 ≤ v := by
  unfold wq
  simp only
  split <;> split <;> omega
theorem wq_pos (res : Int) (jg : JobG) (x : Int) : 1 ≤ wq res jg x := by
  unfold wq
  simp only
  split <;> split <;> omega
theorem want_need {m : MkG} {g : Nat} {x : Int} : (wantM m g x).need = minN m.need (wantV m g x) := by
  unfold wantM minN
  split <;> rfl
theorem wantV_eq {m : MkG} {g : Nat} {bg : BidG} (h : m.bids[g]? = some bg) (x : Int) : wantV m g x = wq m.c.res bg.job x := by
  unfold wantV wq
  rw [jobAt_eq h]
theorem leastV_eq {m : MkG} {g k : Nat} {bg bk : BidG} (h : m.bids[g]? = some bg) (hk : m.bids[k]? = some bk) : leastV m g k = lq g k bg.job bk.job := by
  unfold leastV lq
  rw [jobAt_eq h, jobAt_eq hk]

/-- a bid of the order, in the midst of a tick: it is pending still -/
def Fresh (m : MkG) (l : List Nat) : Prop := ∀ i ∈ l, ∀ b, m.bids[i]? = some b → b.state ≠ 2 ∧ 0 ≤ b.job.units

/-- one step of the ghost's tick -/
theorem ghost_one {m : MkG} {o : List (Int × Int)} {t : Int} {gi i : Nat} {bg : BidG} (hg : m.bids[gi]? = some bg) (hne : gi ≠ i) (hf : Fresh m [i]) :
    (fitsB (tickOne t (some gi) (m, o) i).1 bg t = fitsB m bg t ∧ (tickOne t (some gi) (m, o) i).1.need = m.need) ∨
    (fitsB m bg t = true ∧ fitsB (tickOne t (some gi) (m, o) i).1 bg t = false ∧ ∃ b, m.bids[i]? = some b ∧ (tickOne t (some gi) (m, o) i).1.need = minN m.need (wq m.c.res bg.job (lq gi i bg.job b.job))) := by
  unfold tickOne
  simp only
  cases hb : m.bids[i]? with
  | none => exact .inl ⟨rfl, rfl⟩
  | some b =>
    simp only
    obtain ⟨f1, f2⟩ := hf i (by simp) b hb
    have hgs : (startM m i t).bids[gi]? = some bg := ((AlikeM.start m i t).bid gi (by simp [hne])).trans hg
    have hl := (List.getElem?_eq_some_iff.1 hb).1
    have hbs : (startM m i t).bids[i]? = some { b with state := 2, start := t } := by
      unfold startM
      rw [hb]
      simp [hl]
    have hneed : (startM m i t).need = m.need := by unfold startM; rw [hb]
    have hc : (startM m i t).c = m.c := (AlikeM.start m i t).c
    split
    · have hr1 : roomB m (some gi) t = fitsB m bg t := by simp only [roomB, hg]
      have hr2 : roomB (startM m i t) (some gi) t = fitsB (startM m i t) bg t := by simp only [roomB, hgs]
      rw [hr1, hr2]
      by_cases hcd : (fitsB m bg t && !fitsB (startM m i t) bg t) = true
      · rw [if_pos hcd]
        simp only [Bool.and_eq_true, Bool.not_eq_true'] at hcd
        refine .inr ⟨hcd.1, by rw [fits_want]; exact hcd.2, b, rfl, ?_⟩
        rw [want_need, hneed, wantV_eq hgs, hc, leastV_eq hgs hbs]
      · rw [if_neg hcd]
        refine .inl ⟨?_, hneed⟩
        cases r1 : fitsB m bg t
        · cases r2 : fitsB (startM m i t) bg t
          · rfl
          · rw [fits_start hb f1 f2 r2] at r1; cases r1
        · cases r2 : fitsB (startM m i t) bg t
          · rw [r1, r2] at hcd; exact absurd rfl hcd
          · rfl
    · exact .inl ⟨rfl, rfl⟩

theorem Fresh.one {t : Int} {g : Option Nat} {s : TkS} {i : Nat} {l : List Nat} (h : Fresh s.1 (i :: l)) (hi : i ∉ l) : Fresh (tickOne t g s i).1 l := fun k hk b hb => by
  have := (AlikeM.one t g s i).bid k (by simp; intro e; subst e; exact hi hk)
  rw [this] at hb
  exact h k (List.mem_cons_of_mem _ hk) b hb
/-- all steps of it -/
theorem ghost_fold {t : Int} {gi : Nat} {bg : BidG} : ∀ (l : List Nat) (m : MkG) (o : List (Int × Int)), m.bids[gi]? = some bg → gi ∉ l → l.Pairwise (fun i k => i ≠ k) → Fresh m l →
    (fitsB (l.foldl (tickOne t (some gi)) (m, o)).1 bg t = fitsB m bg t ∧ (l.foldl (tickOne t (some gi)) (m, o)).1.need = m.need) ∨
    (fitsB m bg t = true ∧ fitsB (l.foldl (tickOne t (some gi)) (m, o)).1 bg t = false ∧ ∃ q ∈ l, ∃ b, m.bids[q]? = some b ∧ (l.foldl (tickOne t (some gi)) (m, o)).1.need = minN m.need (wq m.c.res bg.job (lq gi q bg.job b.job)))
  | [], _, _, _, _, _, _ => .inl ⟨rfl, rfl⟩
  | i :: l, m, o, hg, hn, hp, hf => by
    rw [List.pairwise_cons] at hp
    have hil : i ∉ l := fun h => hp.1 i h rfl
    have hne : gi ≠ i := fun h => hn (by rw [h]; exact List.mem_cons_self)
    have h1 := ghost_one (o := o) (t := t) hg hne (fun k hk b hb => hf k (by simp at hk; subst hk; exact List.mem_cons_self) b hb)
    have hal := AlikeM.one t (some gi) (m, o) i
    have hg1 : (tickOne t (some gi) (m, o) i).1.bids[gi]? = some bg := (hal.bid gi (by simp [hne])).trans hg
    have h2 := ghost_fold (t := t) l (tickOne t (some gi) (m, o) i).1 (tickOne t (some gi) (m, o) i).2 hg1 (fun h => hn (List.mem_cons_of_mem _ h)) hp.2 (Fresh.one (s := (m, o)) hf hil)
    simp only [List.foldl_cons]
    rcases h1 with ⟨a1, a2⟩ | ⟨a1, a2, b, hb, a3⟩
    · rcases h2 with ⟨b1, b2⟩ | ⟨b1, b2, q, hq, bq, hbq, b3⟩
      · exact .inl ⟨b1.trans a1, b2.trans a2⟩
      · refine .inr ⟨a1 ▸ b1, b2, q, List.mem_cons_of_mem _ hq, bq, ?_, ?_⟩
        · have := hal.bid q (by simp; intro e; subst e; exact hil hq)
          rw [this] at hbq
          exact hbq
        · rw [a2, show (tickOne t (some gi) (m, o) i).1.c = m.c from hal.c] at b3
          exact b3
    · rcases h2 with ⟨b1, b2⟩ | ⟨b1, _⟩
      · exact .inr ⟨a1, b1.trans a2, i, List.mem_cons_self, b, hb, b2.trans a3⟩
      · rw [a2] at b1; cases b1
end Go.Proofs.Ytminceigjejipaa
