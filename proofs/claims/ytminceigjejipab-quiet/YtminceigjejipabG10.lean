import Derived.Test.YtminceigjejipabG8
import Derived.Test.YtminceigjejipabG9
import Derived.Laws.AppendOwnNone
/-
  THE THRESHOLD. Nothing of the program.
-/
namespace Go.Proofs.Ytminceigjejipab

/-- the ghost's bid never wins -/
def NotWon (e : Int) (m : MkG) : Prop := ∀ b ∈ m.bids, b.entry = e → b.state ≠ 2
theorem notwon_tick {e : Int} {m : MkG} (h : NotWon e m) (hok : MkOk m) (hg : m.ghost = e) : NotWon e (tickF m) := by
  unfold tickF
  split
  · exact h
  · intro b hb hbe
    have hord := orderL_is (t := m.time) hok.sizes
    generalize orderL m m.time = l at *
    have hb' : b ∈ (wantEnd m.time (ghostI (m.logs callTick) m.time) (tickFold m.time (ghostI (m.logs callTick) m.time) (m.logs callTick) l).1).bids.map fun b => b.expire (m.time + 1) := hb
    rw [(wantEnd_bids _ _ _).1, List.mem_map] at hb'
    obtain ⟨x, hx, rfl⟩ := hb'
    have hxe : x.entry = e := by
      have : (x.expire (m.time + 1)).entry = x.entry := by unfold BidG.expire; split <;> rfl
      rw [← this]
      exact hbe
    obtain ⟨k, hk⟩ := List.getElem?_of_mem hx
    have hal := AlikeM.fold m.time (ghostI (m.logs callTick) m.time) l (m.logs callTick, [])
    have hent := ent_fold m.time (ghostI (m.logs callTick) m.time) k l (m.logs callTick, [])
    have hk' : (l.foldl (tickOne m.time (ghostI (m.logs callTick) m.time)) (m.logs callTick, [])).1.bids[k]? = some x := hk
    rw [hk'] at hent
    have hkl : k ∉ l := fun hx' => by
      obtain ⟨b0, hb0, hc⟩ := (hord.mem k).1 hx'
      rw [show ((m.logs callTick, ([] : List (Int × Int))).1.bids[k]?) = some b0 from hb0] at hent
      simp only [Option.map_some, Option.some.injEq] at hent
      unfold candB at hc
      rw [Bool.and_eq_true, hg] at hc
      have h2 : b0.entry ≠ e := by simpa using hc.2
      exact h2 (by rw [← hent]; exact hxe)
    have := hal.bid k hkl
    rw [hk'] at this
    have hst := h x (List.mem_of_getElem? this.symm) hxe
    unfold BidG.expire
    split
    · simp
    · exact hst

structure Phi (e v : Int) (G R : MkG) : Prop where
  ent : EntOk G
  ok : MkOk G
  st : (MAl e v G R ∧ NotWon e G ∧ (G.need = 0 ∨ v < G.need)) ∨ (WonE e R ∧ 0 < G.need ∧ G.need ≤ v)

theorem againM_in {m : MkG} (hl : m.log.length < 300) (c : CallG) : againM m c = if c.kind = 1 then submitM m c.a c.b c.job
  else if c.kind = 2 then cancelM m c.a c.b
  else if c.kind = 3 then capM m c.a c.b c.c
  else if c.kind = 4 then suspendM m c.a c.on
  else if c.kind = 5 then tickF m
  else m.logs c := by
  unfold againM
  rw [if_neg (by omega)]
/-- the call at place n -/
def callV (e n : Nat) (v : Int) (x : CallG) : CallG := if n = e then withV x v else x
theorem Phi.step {e : Nat} {v : Int} {G R : MkG} (h : Phi e v G R) (hv1 : 1 ≤ v) (hv2 : v ≤ 1048576) {n : Nat} (hn : G.log.length = n) (hl : n < 300) {x : CallG} (hx : n = e → x.kind = 1 ∧ 1 ≤ x.job.val ∧ x.job.val ≤ 1048576) : Phi e v (againM G x) (againM R (callV e n v x)) := by
  refine ⟨h.ent.again (by omega) x, h.ok.again x, ?_⟩
  rcases h.st with ⟨hM, hnw, hN⟩ | ⟨hw, hn1, hn2⟩
  rotate_left
  · have := need_again G x hn1
    exact .inr ⟨won_again hw _, this.1, by omega⟩
  have hlR : R.log.length = n := by rw [hM.log]; exact hn
  have hk : (callV e n v x).kind = x.kind := by unfold callV; split <;> rfl
  have ha : (callV e n v x).a = x.a := by unfold callV; split <;> rfl
  have hb : (callV e n v x).b = x.b := by unfold callV; split <;> rfl
  have hc : (callV e n v x).c = x.c := by unfold callV; split <;> rfl
  have ho : (callV e n v x).on = x.on := by unfold callV; split <;> rfl
  rw [againM_in (m := G) (by omega), againM_in (m := R) (by omega), hk, ha, hb, hc, ho]
  by_cases k1 : x.kind = 1
  · rw [if_pos k1, if_pos k1]
    left
    refine ⟨hM.submit x.a x.b x.job _ ?_, ?_, ?_⟩
    · rw [hn]
      unfold callV
      by_cases e1 : n = e
      · obtain ⟨_, h2, h3⟩ := hx e1
        rw [if_pos e1]
        exact .inr ⟨by rw [e1], rfl, hv1, hv2, h2, h3⟩
      · rw [if_neg e1]
        exact .inl ⟨by omega, rfl⟩
    · unfold submitM
      simp only
      split
      · intro b hb hbe
        rcases List.mem_append.1 hb with hb | hb
        · exact hnw b hb hbe
        · simp at hb
          subst hb
          simp [newBid]
      · exact hnw
    · unfold submitM
      simp only
      split <;> exact hN
  rw [if_neg k1, if_neg k1]
  have hne : n ≠ e := fun e1 => k1 (hx e1).1
  by_cases k2 : x.kind = 2
  · rw [if_pos k2, if_pos k2]
    left
    refine ⟨hM.cancel x.a x.b, ?_, ?_⟩
    · unfold cancelM
      simp only
      split
      · intro b hb hbe
        have hb' : b ∈ setState G.bids (findZ G.bids x.a x.b).toNat 3 := hb
        unfold setState at hb'
        split at hb'
        · rcases List.mem_or_eq_of_mem_set hb' with hb2 | rfl
          · exact hnw b hb2 hbe
          · simp
        · exact hnw b hb' hbe
      · exact hnw
    · unfold cancelM
      simp only
      split <;> exact hN
  rw [if_neg k2, if_neg k2]
  by_cases k3 : x.kind = 3
  · rw [if_pos k3, if_pos k3]
    left
    refine ⟨hM.cap x.a x.b x.c, ?_, ?_⟩
    · unfold capM
      split
      · exact hnw
      · split <;> exact hnw
    · unfold capM
      split
      · exact hN
      · split <;> exact hN
  rw [if_neg k3, if_neg k3]
  by_cases k4 : x.kind = 4
  · rw [if_pos k4, if_pos k4]
    left
    refine ⟨hM.suspend x.a x.on, ?_, ?_⟩
    · unfold suspendM
      simp only
      split <;> exact hnw
    · unfold suspendM
      simp only
      split <;> exact hN
  rw [if_neg k4, if_neg k4]
  by_cases k5 : x.kind = 5
  · rw [if_pos k5, if_pos k5]
    rcases tick_phase hM h.ok h.ent hv1 hN with ⟨h1, h2⟩ | h1
    · exact .inl ⟨h1, notwon_tick hnw h.ok hM.gh, h2⟩
    · exact .inr h1
  · rw [if_neg k5, if_neg k5]
    exact .inl ⟨hM.logs _ _, hnw, hN⟩

def mapFrom (e : Nat) (v : Int) : Nat → List CallG → List CallG
  | _, [] => []
  | n, x :: l => callV e n v x :: mapFrom e v (n + 1) l
theorem mapFrom_eq (e : Nat) (v : Int) : ∀ (l : List CallG) (n : Nat), l.mapIdx (fun i x => if i + n = e then withV x v else x) = mapFrom e v n l
  | [], _ => rfl
  | x :: l, n => by
    rw [List.mapIdx_cons, mapFrom]
    congr 1
    · simp [callV]
    · rw [← mapFrom_eq e v l (n + 1)]
      congr 1
      funext i x
      rw [show i + 1 + n = i + (n + 1) by omega]

theorem phi_fold {e : Nat} {v : Int} (hv1 : 1 ≤ v) (hv2 : v ≤ 1048576) : ∀ (l : List CallG) (n : Nat) {G R : MkG}, Phi e v G R → G.log.length = n → n + l.length ≤ 300 → (∀ (i : Nat) x, l[i]? = some x → n + i = e → x.kind = 1 ∧ 1 ≤ x.job.val ∧ x.job.val ≤ 1048576) → Phi e v (l.foldl againM G) ((mapFrom e v n l).foldl againM R)
  | [], _, _, _, h, _, _, _ => h
  | x :: l, n, G, R, h, hn, hl, hx => by
    simp only [List.length_cons] at hl
    have h1 := h.step hv1 hv2 hn (by omega) (x := x) (fun e1 => hx 0 x rfl (by omega))
    have hlog := again_log (m := G) (by omega) x
    simp only [List.foldl_cons, mapFrom]
    exact phi_fold hv1 hv2 l (n + 1) h1 (by omega) (by omega) (fun i y hy e1 => hx (i + 1) y (by simpa using hy) (by omega))

/-- THE THRESHOLD: in the replay with the value v the bid of entry e wins just if what its ghost needs is at most v -/
theorem replay_threshold {c : CfgG} (hc : cfgOk c = true) {e : Nat} {v : Int} (hv1 : 1 ≤ v) (hv2 : v ≤ 1048576) {log : List CallG} (hlen : log.length ≤ 300) (hcall : ∀ x, log[e]? = some x → x.kind = 1 ∧ 1 ≤ x.job.val ∧ x.job.val ≤ 1048576) :
    WonE e (replayV c e v log) ↔ (0 < (replayG c e log).need ∧ (replayG c e log).need ≤ v) := by
  have h0 : Phi e v (ghostOpen c e) (openM c) := by
    refine ⟨⟨fun i k b b' hb => by simp [ghostOpen, openM] at hb, fun b hb => by simp [ghostOpen, openM] at hb⟩, MkOk.ghostOpen hc e, .inl ⟨⟨rfl, rfl, rfl, rfl, rfl, rfl, rfl, rfl⟩, fun b hb => by simp [ghostOpen, openM] at hb, .inl rfl⟩⟩
  have h1 := phi_fold hv1 hv2 log 0 h0 rfl (by omega) (fun i x hx e1 => hcall x (by rw [← e1, Nat.zero_add]; exact hx))
  have e1 : replayV c e v log = (mapFrom e v 0 log).foldl againM (openM c) := by
    unfold replayV
    rw [← mapFrom_eq e v log 0]
    rfl
  rw [e1]
  unfold replayG
  rcases h1.st with ⟨hM, hnw, hN⟩ | ⟨hw, hn1, hn2⟩
  · constructor
    · rintro ⟨i, b, hb, hbe, hbs⟩
      rw [hM.get] at hb
      cases hi : (log.foldl againM (ghostOpen c e)).bids[i]? with
      | none => rw [hi] at hb; cases hb
      | some b0 =>
        rw [hi] at hb
        obtain rfl := Option.some.inj hb
        rw [al_entry] at hbe
        rw [al_state] at hbs
        exact absurd hbs (hnw b0 (List.mem_of_getElem? hi) hbe)
    · rintro ⟨h2, h3⟩
      omega
  · exact ⟨fun _ => ⟨hn1, hn2⟩, fun _ => hw⟩
end Go.Proofs.Ytminceigjejipab

/-
  A BILL AS PLAIN FUNCTIONS; the market in the midst of it.
-/
namespace Go.Proofs.Ytminceigjejipab
open Go.RowKit

def callBill : CallG := ⟨6, 0, 0, 0, noJob, false⟩
def BidG.dueB (b : BidG) (time : Int) : Bool := (b.state == 2) && !b.charged && decide (b.job.dl - b.job.len < time)
def BidG.bill (b : BidG) (time : Int) : BidG := if b.dueB time = true then { b with charged := true } else b
def invOf (m : MkG) (b : BidG) : InvG := ⟨b.ten, b.ref, priceM m b.entry⟩
def dueL (m : MkG) (l : List BidG) : List InvG := (l.filter fun b => b.dueB m.time).map (invOf m)
def billL (m : MkG) : List InvG := dueL (m.logs callBill) m.bids
def billM (m : MkG) : MkG := { m.logs callBill with bids := m.bids.map fun b => b.bill m.time, charges := m.charges ++ billL m }

def billTo (l : List BidG) (k : Nat) (time : Int) : List BidG := l.mapIdx fun i b => if i < k then b.bill time else b
theorem billTo_get (l : List BidG) (k : Nat) (time : Int) : (billTo l k time)[k]? = l[k]? := by
  simp [billTo, List.getElem?_mapIdx]
theorem billTo_len (l : List BidG) (k : Nat) (time : Int) : (billTo l k time).length = l.length := by simp [billTo]
theorem billTo_zero (l : List BidG) (time : Int) : billTo l 0 time = l := by
  apply List.ext_getElem?
  intro i
  simp [billTo, List.getElem?_mapIdx]
theorem billTo_all (l : List BidG) (time : Int) : billTo l l.length time = l.map fun b => b.bill time := by
  apply List.ext_getElem?
  intro i
  rw [billTo, List.getElem?_mapIdx, List.getElem?_map]
  by_cases hi : i < l.length
  · rw [List.getElem?_eq_getElem hi]
    simp [hi]
  · rw [List.getElem?_eq_none (by omega)]
    rfl
theorem billTo_succ {l : List BidG} {k : Nat} {time : Int} {b : BidG} (hb : l[k]? = some b) : billTo l (k + 1) time = (billTo l k time).set k (b.bill time) := by
  apply List.ext_getElem?
  intro i
  rw [List.getElem?_set, billTo_len]
  have hk := (List.getElem?_eq_some_iff.1 hb).1
  by_cases e : k = i
  · subst e
    rw [if_pos rfl, if_pos hk, billTo, List.getElem?_mapIdx, hb]
    simp
  · rw [if_neg e, billTo, billTo, List.getElem?_mapIdx, List.getElem?_mapIdx]
    by_cases h : i < k
    · simp [h, show i < k + 1 by omega]
    · simp [h, show ¬ i < k + 1 by omega]
theorem billTo_same {l : List BidG} {k : Nat} {time : Int} {b : BidG} (hb : l[k]? = some b) (he : b.bill time = b) : billTo l (k + 1) time = billTo l k time := by
  rw [billTo_succ hb, he]
  apply List.ext_getElem?
  intro i
  rw [List.getElem?_set, billTo_len]
  by_cases e : k = i
  · subst e
    rw [if_pos rfl, if_pos (List.getElem?_eq_some_iff.1 hb).1, billTo_get, hb]
  · rw [if_neg e]
theorem BidOk.bill {c : CfgG} {b : BidG} (h : BidOk c b) (time : Int) : BidOk c (b.bill time) := by
  unfold BidG.bill
  split
  · exact ⟨h.t0, h.t1, h.r0, h.r1, h.job, h.a0, h.a1, h.s0, h.s1, h.st0, h.st1, h.e0, h.e1⟩
  · exact h
theorem MkOk.billTo {m : MkG} (h : MkOk m) (k : Nat) (time : Int) : MkOk { m with bids := billTo m.bids k time } := by
  refine ⟨h.ck, h.nu, h.ns, h.np, h.nl, by rw [billTo_len]; exact h.nb, h.t0, h.t1, h.un, fun b hb => ?_⟩
  obtain ⟨i, hi⟩ := List.getElem?_of_mem hb
  rw [Go.Proofs.Ytminceigjejipab.billTo, List.getElem?_mapIdx] at hi
  cases hx : m.bids[i]? with
  | none => rw [hx] at hi; simp at hi
  | some b0 =>
    rw [hx] at hi
    simp at hi
    have h0 := h.bid b0 (List.mem_of_getElem? hx)
    split at hi
    · rw [← hi]; exact h0.bill time
    · rw [← hi]; exact h0
theorem dueL_snoc {m : MkG} {l : List BidG} {k : Nat} {b : BidG} (h : l[k]? = some b) : dueL m (l.take (k + 1)) = dueL m (l.take k) ++ if b.dueB m.time = true then [invOf m b] else [] := by
  rw [take_snoc h, dueL, List.filter_append, List.map_append]
  congr 1
  by_cases e : b.dueB m.time = true
  · simp [e]
  · simp [e]
theorem dueL_len (m : MkG) (l : List BidG) : (dueL m l).length ≤ l.length := by
  rw [dueL, List.length_map]
  exact List.length_filter_le _ _

section
variable {w1 wr w' : World} {p : Nat} {V : MV} {m : MkG} {out : List InvG} {ov : Value}
end
end Go.Proofs.Ytminceigjejipab

/-
  A MARKET AND THE REPLAY OF ITS LOG: they are one but for what has been charged and paid; what has won is charged between 1 and its value. Nothing of the program.
-/
namespace Go.Proofs.Ytminceigjejipab

def unc (b : BidG) : BidG := { b with charged := false }
theorem unc_expire (b : BidG) (now : Int) : (unc b).expire now = unc (b.expire now) := by
  have e : ((unc b).state == 1 && decide ((unc b).job.dl < now + (unc b).job.len)) = (b.state == 1 && decide (b.job.dl < now + b.job.len)) := rfl
  unfold BidG.expire
  rw [e]
  split <;> rfl
theorem unc_bill (b : BidG) (time : Int) : unc (b.bill time) = unc b := by
  unfold BidG.bill
  split <;> rfl
/-- R is m with nothing charged and nothing paid -/
structure HistM (m R : MkG) : Prop where
  c : R.c = m.c
  time : R.time = m.time
  units : R.units = m.units
  susp : R.susp = m.susp
  log : R.log = m.log
  bids : R.bids = m.bids.map unc
  gm : m.ghost = -1
  rg : R.ghost = -1

section
variable {m R : MkG}
theorem HistM.get (h : HistM m R) (i : Nat) : R.bids[i]? = (m.bids[i]?).map unc := by rw [h.bids, List.getElem?_map]
theorem HistM.used (h : HistM m R) (t : Int) : usedL R.bids t = usedL m.bids t := by
  rw [h.bids]
  unfold usedL
  rw [List.map_map]
  rfl
theorem HistM.free (h : HistM m R) (t : Int) : freeV R t = freeV m t := by
  unfold freeV
  rw [h.c, h.units, h.used]
theorem HistM.fits (h : HistM m R) (b : BidG) (t : Int) : fitsB R (unc b) t = fitsB m b t := by
  unfold fitsB
  show (List.range b.job.len.toNat).all _ = _
  congr 1
  funext s
  rw [h.free]
  rfl
theorem HistM.cand (h : HistM m R) (b : BidG) (t : Int) : candB R t (unc b) = candB m t b := by
  unfold candB BidG.openB suspAt
  rw [h.susp, h.gm, h.rg]
  rfl
theorem HistM.find (h : HistM m R) (ten ref : Int) : findZ R.bids ten ref = findZ m.bids ten ref := by
  unfold findZ findL
  rw [h.bids, List.findIdx?_map]
  rfl
theorem HistM.pend (h : HistM m R) (ten : Int) : pendL R.bids ten = pendL m.bids ten := by
  unfold pendL
  rw [h.bids, List.countP_map]
  rfl
theorem HistM.tenB (h : HistM m R) (k : Int) : R.tenB k = m.tenB k := by unfold MkG.tenB; rw [h.c]
theorem HistM.state (h : HistM m R) (i : Int) : stateAt R i = stateAt m i := by
  unfold stateAt
  rw [h.get]
  cases m.bids[i.toNat]? <;> rfl
theorem HistM.logs (h : HistM m R) (c : CallG) : HistM (m.logs c) (R.logs c) :=
  ⟨h.c, h.time, h.units, h.susp, by simp [MkG.logs, h.log], h.bids, h.gm, h.rg⟩
theorem HistM.submit (h : HistM m R) (ten ref : Int) (j : JobG) : HistM (submitM m ten ref j) (submitM R ten ref j) := by
  have hE : submitE R ten ref j = submitE m ten ref j := by
    unfold submitE refB suspAt MkG.jobB
    rw [h.tenB, h.susp, h.find, h.pend, h.c, h.time]
  have hl := h.logs (callSubmit ten ref j)
  unfold submitM
  simp only [hE]
  split
  · refine ⟨hl.c, hl.time, hl.units, hl.susp, hl.log, ?_, hl.gm, hl.rg⟩
    show R.bids ++ [newBid R ten ref j] = (m.bids ++ [newBid m ten ref j]).map unc
    rw [List.map_append, ← h.bids]
    congr 1
    simp only [List.map_cons, List.map_nil, newBid, unc, h.time, h.log]
  · exact hl
theorem HistM.cancel (h : HistM m R) (ten ref : Int) : HistM (cancelM m ten ref) (cancelM R ten ref) := by
  have hE : cancelE R ten ref = cancelE m ten ref := by
    unfold cancelE
    rw [h.tenB, h.find, h.state]
  have hl := h.logs (callCancel ten ref)
  unfold cancelM
  simp only [hE, h.find]
  split
  · refine ⟨hl.c, hl.time, hl.units, hl.susp, hl.log, ?_, hl.gm, hl.rg⟩
    show setState R.bids _ 3 = (setState m.bids _ 3).map unc
    unfold setState
    rw [h.get]
    cases hb : m.bids[(findZ m.bids ten ref).toNat]? with
    | none => exact h.bids
    | some b =>
      simp only [Option.map_some]
      rw [List.map_set, h.bids]
      rfl
  · exact hl
theorem HistM.suspend (h : HistM m R) (ten : Int) (on : Bool) : HistM (suspendM m ten on) (suspendM R ten on) := by
  have hE : suspendE R ten = suspendE m ten := by
    unfold suspendE
    rw [h.tenB]
  have hl := h.logs (callSuspend ten on)
  unfold suspendM
  simp only [hE]
  split
  · exact ⟨hl.c, hl.time, hl.units, by show R.susp.set _ _ = m.susp.set _ _; rw [h.susp], hl.log, hl.bids, hl.gm, hl.rg⟩
  · exact hl
theorem HistM.cap (h : HistM m R) (f t u : Int) : HistM (capM m f t u) (capM R f t u) := by
  have hA : capArg R f t u = capArg m f t u := by
    unfold capArg
    rw [h.time, h.c]
  have hB : capB R f t u = capB m f t u := by
    unfold capB
    congr 1
    funext s
    rw [h.used]
  have hl := h.logs (callCapacity f t u)
  unfold capM
  rw [hA, hB]
  split
  · exact hl
  · split
    · exact ⟨hl.c, hl.time, by show (List.range R.units.length).map _ = (List.range m.units.length).map _; rw [h.units], hl.susp, hl.log, hl.bids, hl.gm, hl.rg⟩
    · exact hl
theorem HistM.start (h : HistM m R) (i : Nat) (t : Int) : HistM (startM m i t) (startM R i t) := by
  unfold startM
  rw [h.get]
  cases hb : m.bids[i]? with
  | none => exact h
  | some b =>
    refine ⟨h.c, h.time, h.units, h.susp, h.log, ?_, h.gm, h.rg⟩
    show R.bids.set i { unc b with state := 2, start := t } = (m.bids.set i { b with state := 2, start := t }).map unc
    rw [List.map_set, h.bids]
    rfl
theorem HistM.one (h : HistM m R) (t : Int) (o o' : List (Int × Int)) (i : Nat) : HistM (tickOne t none (m, o) i).1 (tickOne t none (R, o') i).1 := by
  unfold tickOne
  simp only
  rw [h.get]
  cases hb : m.bids[i]? with
  | none => exact h
  | some b =>
    simp only [Option.map_some]
    rw [h.fits, h.c, show (unc b).winB m.c.res = b.winB m.c.res from rfl]
    split
    · exact h.start i t
    · exact h
theorem HistM.fold (t : Int) : ∀ (l : List Nat) (s s' : TkS), HistM s.1 s'.1 → HistM (l.foldl (tickOne t none) s).1 (l.foldl (tickOne t none) s').1
  | [], _, _, h => h
  | i :: l, s, s', h => HistM.fold t l _ _ (h.one t s.2 s'.2 i)
theorem HistM.ahead (h : HistM m R) (i k : Nat) : aheadI R.bids i k = aheadI m.bids i k := by
  unfold aheadI
  rw [h.get, h.get]
  cases m.bids[i]? <;> cases m.bids[k]? <;> rfl
theorem HistM.order (h : HistM m R) (t : Int) {l : List Nat} (hl : IsOrder m t l) : IsOrder R t l := by
  refine ⟨fun i => ?_, ?_⟩
  · rw [hl.mem, h.get]
    constructor
    · rintro ⟨b, hb, hc⟩
      exact ⟨unc b, by rw [hb]; rfl, by rw [h.cand]; exact hc⟩
    · rintro ⟨b, hb, hc⟩
      cases hx : m.bids[i]? with
      | none => rw [hx] at hb; cases hb
      | some b0 =>
        rw [hx] at hb
        obtain rfl := Option.some.inj hb
        exact ⟨b0, rfl, by rw [← h.cand]; exact hc⟩
  · have : (fun i k => aheadI R.bids i k = true) = fun i k => aheadI m.bids i k = true := by
      funext i k
      rw [h.ahead]
    rw [this]
    exact hl.sorted
theorem HistM.tick (h : HistM m R) (hok : MkOk m) (hor : MkOk R) (hl : m.log.length < 300) : HistM (tickF m) (tickF R) := by
  unfold tickF
  rw [h.c, h.time]
  split
  · exact h.logs callTick
  · have ho := orderL_is (m := m) (t := m.time) hok.sizes
    have hoR := h.order m.time ho
    have e1 : orderL R m.time = orderL m m.time := (orderL_is (m := R) (t := m.time) hor.sizes).unique hoR
    have g1 : ghostI (m.logs callTick) m.time = none := ghostI_none (hok.logs hl callTick) h.gm m.time
    have g2 : ghostI (R.logs callTick) m.time = none := ghostI_none (hor.logs (by rw [h.log]; exact hl) callTick) h.rg m.time
    unfold tickM
    simp only [h.time, g1, g2, e1, wantEnd]
    have hf := HistM.fold m.time (orderL m m.time) (m.logs callTick, []) (R.logs callTick, []) (h.logs callTick)
    show HistM (tickEnd m.time (tickFold m.time none (m.logs callTick) (orderL m m.time)).1) (tickEnd m.time (tickFold m.time none (R.logs callTick) (orderL m m.time)).1)
    unfold tickFold
    refine ⟨hf.c, rfl, hf.units, hf.susp, hf.log, ?_, hf.gm, hf.rg⟩
    unfold tickEnd
    simp only
    rw [hf.bids, List.map_map, List.map_map]
    apply List.map_congr_left
    intro b _
    exact unc_expire b _
theorem HistM.bill (h : HistM m R) : HistM (billM m) (R.logs callBill) := by
  have hl := h.logs callBill
  refine ⟨hl.c, hl.time, hl.units, hl.susp, hl.log, ?_, hl.gm, hl.rg⟩
  show R.bids = (m.bids.map fun b => b.bill m.time).map unc
  rw [h.bids, List.map_map]
  apply List.map_congr_left
  intro b _
  exact (unc_bill b _).symm
theorem HistM.pay (h : HistM m R) (ten cents : Int) : HistM (payM m ten cents) (R.logs (callPay ten cents)) := by
  have hl := h.logs (callPay ten cents)
  unfold payM
  simp only
  split
  · exact ⟨hl.c, hl.time, hl.units, hl.susp, hl.log, hl.bids, hl.gm, hl.rg⟩
  · exact hl
end
end Go.Proofs.Ytminceigjejipab

/-
  A MARKET IS THE REPLAY OF ITS LOG; a bid's entry in the log is its Submit; a bid that has won has a price from 1 to its value. Nothing of the program.
-/
namespace Go.Proofs.Ytminceigjejipab

/-- what never changes of a bid -/
def keyB (b : BidG) : Int × Int × JobG × Int × Int × Bool := (b.ten, b.ref, b.job, b.arrival, b.entry, b.charged)
theorem key_set {l : List BidG} {i : Nat} {b b' : BidG} (hb : l[i]? = some b) (hk : keyB b' = keyB b) (k : Nat) : ((l.set i b')[k]?).map keyB = (l[k]?).map keyB := by
  rw [List.getElem?_set]
  by_cases e : i = k
  · subst e
    rw [if_pos rfl, if_pos (List.getElem?_eq_some_iff.1 hb).1, hb]
    simp [hk]
  · rw [if_neg e]
theorem key_start (m : MkG) (i : Nat) (t : Int) (k : Nat) : ((startM m i t).bids[k]?).map keyB = (m.bids[k]?).map keyB := by
  unfold startM
  cases hb : m.bids[i]? with
  | none => rfl
  | some b => exact key_set (b' := { b with state := 2, start := t }) hb rfl k
theorem key_one (t : Int) (g : Option Nat) (s : TkS) (i k : Nat) : ((tickOne t g s i).1.bids[k]?).map keyB = (s.1.bids[k]?).map keyB := by
  unfold tickOne
  split
  · rfl
  · split
    · cases g with
      | none => exact key_start _ _ _ _
      | some gi =>
        simp only
        split
        · rw [ent_want]; exact key_start _ _ _ _
        · exact key_start _ _ _ _
    · rfl
theorem key_fold (t : Int) (g : Option Nat) (k : Nat) : ∀ (l : List Nat) (s : TkS), ((l.foldl (tickOne t g) s).1.bids[k]?).map keyB = (s.1.bids[k]?).map keyB
  | [], _ => rfl
  | i :: l, s => (key_fold t g k l _).trans (key_one t g s i k)
theorem key_tick (m : MkG) (k : Nat) : ((tickF m).bids[k]?).map keyB = (m.bids[k]?).map keyB := by
  unfold tickF
  split
  · rfl
  · show ((List.map (fun b => b.expire (m.time + 1)) (wantEnd m.time _ (tickFold m.time _ _ _).1).bids)[k]?).map keyB = _
    rw [(wantEnd_bids _ _ _).1, List.getElem?_map, Option.map_map]
    have : (keyB ∘ fun b => b.expire (m.time + 1)) = keyB := by
      funext b
      simp only [Function.comp, BidG.expire]
      split <;> rfl
    rw [this]
    unfold tickFold
    exact key_fold m.time (ghostI (m.logs callTick) m.time) k (orderL m m.time) (m.logs callTick, [])
theorem tickF_log' (m : MkG) : (tickF m).log = m.log ++ [callTick] := by
  unfold tickF
  split
  · rfl
  · show (wantEnd m.time _ (tickFold m.time _ _ _).1).log = _
    rw [(wantEnd_bids _ _ _).2]
    unfold tickFold
    rw [(AlikeM.fold m.time (ghostI (m.logs callTick) m.time) (orderL m m.time) (m.logs callTick, [])).log]
    rfl
theorem key_cancel (m : MkG) (ten ref : Int) (k : Nat) : ((cancelM m ten ref).bids[k]?).map keyB = (m.bids[k]?).map keyB := by
  unfold cancelM
  simp only
  split
  · show ((setState m.bids _ 3)[k]?).map keyB = _
    unfold setState
    split
    · rename_i b hb
      exact key_set (b' := { b with state := 3 }) hb rfl k
    · rfl
  · rfl

/-- a bid's entry in the log is its Submit -/
def SubOk (m : MkG) : Prop := ∀ (k : Nat) (b : BidG), m.bids[k]? = some b → ∃ e : Nat, b.entry = e ∧ m.log[e]? = some (callSubmit b.ten b.ref b.job)
theorem SubOk.of_key {m m' : MkG} {c : CallG} (h : SubOk m) (hk : ∀ k : Nat, (m'.bids[k]?).map keyB = (m.bids[k]?).map keyB) (hl : m'.log = m.log ++ [c]) : SubOk m' := by
  intro k b hb
  have := hk k
  rw [hb] at this
  cases hx : m.bids[k]? with
  | none => rw [hx] at this; cases this
  | some b0 =>
    rw [hx] at this
    simp only [Option.map_some, Option.some.injEq, keyB, Prod.mk.injEq] at this
    obtain ⟨h1, h2, h3, _, h5, _⟩ := this
    obtain ⟨e, he, hle⟩ := h k b0 hx
    refine ⟨e, by rw [h5]; exact he, ?_⟩
    rw [hl, List.getElem?_append_left (List.getElem?_eq_some_iff.1 hle).1, h1, h2, h3]
    exact hle
theorem SubOk.submit {m : MkG} (h : SubOk m) (ten ref : Int) (j : JobG) : SubOk (submitM m ten ref j) := by
  unfold submitM
  simp only
  split
  · intro k b hb
    rw [List.getElem?_append] at hb
    by_cases e : k < (m.logs (callSubmit ten ref j)).bids.length
    · rw [if_pos e] at hb
      obtain ⟨x, hx, hlx⟩ := h k b hb
      refine ⟨x, hx, ?_⟩
      show (m.log ++ [callSubmit ten ref j])[x]? = _
      rw [List.getElem?_append_left (List.getElem?_eq_some_iff.1 hlx).1]
      exact hlx
    · rw [if_neg e] at hb
      obtain rfl : b = newBid m ten ref j := by
        have := List.mem_of_getElem? hb
        simpa using this
      exact ⟨m.log.length, rfl, by show (m.log ++ [callSubmit ten ref j])[m.log.length]? = _; simp [newBid]⟩
  · exact h.of_key (m' := m.logs (callSubmit ten ref j)) (c := callSubmit ten ref j) (fun _ => rfl) rfl
theorem SubOk.again {m : MkG} (h : SubOk m) (c : CallG) : SubOk (againM m c) := by
  unfold againM
  split
  · exact h
  · split
    · exact h.submit _ _ _
    · split
      · refine h.of_key (c := callCancel c.a c.b) (key_cancel m _ _) ?_
        unfold cancelM
        simp only
        split <;> rfl
      · split
        · refine h.of_key (c := callCapacity c.a c.b c.c) (fun k => ?_) ?_
          · unfold capM
            split
            · rfl
            · split <;> rfl
          · unfold capM
            split
            · rfl
            · split <;> rfl
        · split
          · refine h.of_key (c := callSuspend c.a c.on) (fun k => ?_) ?_
            · unfold suspendM
              simp only
              split <;> rfl
            · unfold suspendM
              simp only
              split <;> rfl
          · split
            · exact h.of_key (key_tick m) (tickF_log' m)
            · exact h.of_key (m' := m.logs c) (c := c) (fun _ => rfl) rfl
theorem SubOk.fold : ∀ (l : List CallG) {m : MkG}, SubOk m → SubOk (l.foldl againM m)
  | [], _, h => h
  | c :: l, _, h => SubOk.fold l (h.again c)
theorem SubOk.open (c : CfgG) : SubOk (openM c) := fun k b hb => by simp [openM] at hb

/-- the market is the replay of its log -/
def replay (c : CfgG) (log : List CallG) : MkG := log.foldl againM (openM c)
def Hist (m : MkG) : Prop := HistM m (replay m.c m.log)

theorem replayV_same {c : CfgG} {log : List CallG} {e : Nat} {x : CallG} (hx : log[e]? = some x) : replayV c e x.job.val log = replay c log := by
  unfold replayV replay
  congr 1
  apply List.ext_getElem?
  intro i
  rw [List.getElem?_mapIdx]
  by_cases h : i = e
  · subst h
    rw [hx]
    simp [withV]
  · cases log[i]? <;> simp [h]

/-- THE PRICE OF WHAT HAS WON lies between 1 and the bid's value -/
theorem Hist.price {m : MkG} (h : Hist m) (hok : MkOk m) {k : Nat} {b : BidG} (hb : m.bids[k]? = some b) (hw : b.state = 2) : 1 ≤ priceM m b.entry ∧ priceM m b.entry ≤ b.job.val := by
  have hR : (replay m.c m.log).bids[k]? = some (unc b) := by rw [HistM.get h, hb]; rfl
  obtain ⟨e, he, hle⟩ := SubOk.fold m.log (SubOk.open m.c) k _ hR
  have hlog : (replay m.c m.log).log = m.log := HistM.log h
  have hle' : m.log[e]? = some (callSubmit b.ten b.ref b.job) := by rw [← hlog]; exact hle
  have he' : b.entry = e := he
  have hj := jobIn_true (hok.bid b (List.mem_of_getElem? hb)).job
  have key := replay_threshold (c := m.c) hok.ck (e := e) (v := b.job.val) (by omega) (by omega) (log := m.log) hok.nl (fun x hx => by rw [hle'] at hx; obtain rfl := Option.some.inj hx; exact ⟨rfl, by show 1 ≤ b.job.val; omega, by show b.job.val ≤ 1048576; omega⟩)
  have e1 : replayV m.c e b.job.val m.log = replay m.c m.log := replayV_same (x := callSubmit b.ten b.ref b.job) hle'
  rw [e1] at key
  have := key.1 ⟨k, unc b, hR, he, hw⟩
  unfold priceM
  rw [he']
  omega
end Go.Proofs.Ytminceigjejipab

/-
  WHAT HOLDS OF EVERY MARKET as calls go by: it is the replay of its log; what is paid, what is charged are bounded. Nothing of the program.
-/
namespace Go.Proofs.Ytminceigjejipab

theorem key_list {l l' : List BidG} (h : ∀ k : Nat, (l'[k]?).map keyB = (l[k]?).map keyB) : l'.map keyB = l.map keyB := by
  apply List.ext_getElem?
  intro k
  rw [List.getElem?_map, List.getElem?_map]
  exact h k
theorem key_count {l l' : List BidG} (h : ∀ k : Nat, (l'[k]?).map keyB = (l[k]?).map keyB) : l'.countP (·.charged) = l.countP (·.charged) := by
  have e : ∀ x : List BidG, x.countP (·.charged) = (x.map keyB).countP (fun y => y.2.2.2.2.2) := fun x => by
    rw [List.countP_map]
    rfl
  rw [e, e, key_list h]
theorem bill_count (time : Int) : ∀ l : List BidG, (l.map fun b => b.bill time).countP (·.charged) = l.countP (·.charged) + (l.filter fun b => b.dueB time).length
  | [] => rfl
  | b :: l => by
    have ih := bill_count time l
    simp only [List.map_cons, List.countP_cons, List.filter_cons, ih]
    by_cases hd : b.dueB time = true
    · have hc : b.charged = false := by
        unfold BidG.dueB at hd
        simp at hd
        exact hd.1.2
      have hb : (b.bill time).charged = true := by unfold BidG.bill; rw [if_pos hd]
      rw [if_pos hd, hb, hc]
      simp
      omega
    · have hb : b.bill time = b := by unfold BidG.bill; rw [if_neg hd]
      rw [if_neg hd, hb]
      omega

structure CashOk (m : MkG) : Prop where
  ok : MkOk m
  hist : Hist m
  paid : PaidOk m
  cents : ∀ c ∈ m.charges, 1 ≤ c.cents ∧ c.cents ≤ 1048576
  cnt : m.charges.length = m.bids.countP (·.charged)

theorem CashOk.chg {m : MkG} (h : CashOk m) : ChgOk m := by
  refine ⟨?_, fun c hc => by have := h.cents c hc; omega⟩
  rw [h.cnt]
  exact Nat.le_trans List.countP_le_length (Nat.le_trans h.ok.nb h.ok.nl)
theorem Hist.ghost {m : MkG} (h : Hist m) : m.ghost = -1 := HistM.gm h
theorem Hist.step {m m' : MkG} {c : CallG} (hc : m'.c = m.c) (hl : m'.log = m.log ++ [c]) (hm : HistM m' (againM (replay m.c m.log) c)) : Hist m' := by
  unfold Hist replay
  rw [hc, hl, List.foldl_append]
  exact hm
theorem paid_more {m m' : MkG} {c : CallG} (h : PaidOk m) (hp : m'.paid = m.paid) (hl : m'.log = m.log ++ [c]) : PaidOk m' := by
  intro x hx
  rw [hp] at hx
  have := h x hx
  rw [hl, List.length_append]
  simp only [List.length_cons, List.length_nil]
  omega
section
variable {R : MkG} (hl : R.log.length < 300)
include hl
theorem again_submit (ten ref : Int) (j : JobG) : againM R (callSubmit ten ref j) = submitM R ten ref j := by
  unfold againM
  rw [if_neg (by omega)]
  rfl
theorem again_cancel (ten ref : Int) : againM R (callCancel ten ref) = cancelM R ten ref := by
  unfold againM
  rw [if_neg (by omega)]
  rfl
theorem again_cap (f t u : Int) : againM R (callCapacity f t u) = capM R f t u := by
  unfold againM
  rw [if_neg (by omega)]
  rfl
theorem again_suspend (ten : Int) (on : Bool) : againM R (callSuspend ten on) = suspendM R ten on := by
  unfold againM
  rw [if_neg (by omega)]
  rfl
theorem again_tick : againM R callTick = tickF R := by
  unfold againM
  rw [if_neg (by omega)]
  rfl
theorem again_bill : againM R callBill = R.logs callBill := by
  unfold againM
  rw [if_neg (by omega)]
  rfl
theorem again_pay (ten cents : Int) : againM R (callPay ten cents) = R.logs (callPay ten cents) := by
  unfold againM
  rw [if_neg (by omega)]
  rfl
end

section
variable {m : MkG}
theorem CashOk.rlog (h : CashOk m) (hl : m.log.length < 300) : (replay m.c m.log).log.length < 300 := by rw [HistM.log h.hist]; exact hl
theorem CashOk.rok (h : CashOk m) : MkOk (replay m.c m.log) := MkOk.fold_again m.log (MkOk.open h.ok.ck)
theorem CashOk.open {c : CfgG} (hc : cfgOk c = true) : CashOk (openM c) := by
  refine ⟨MkOk.open hc, ⟨rfl, rfl, rfl, rfl, rfl, rfl, rfl, rfl⟩, fun x hx => ?_, fun c hc => by simp [openM] at hc, rfl⟩
  have : x = 0 := by
    simp [openM] at hx
    exact hx.2
  subst this
  simp [openM]
theorem CashOk.submit (h : CashOk m) (hl : m.log.length < 300) (ten ref : Int) (j : JobG) : CashOk (submitM m ten ref j) := by
  have hlog : (submitM m ten ref j).log = m.log ++ [callSubmit ten ref j] := by unfold submitM; simp only; split <;> rfl
  have hc : (submitM m ten ref j).c = m.c := by unfold submitM; simp only; split <;> rfl
  have hp : (submitM m ten ref j).paid = m.paid := by unfold submitM; simp only; split <;> rfl
  have hch : (submitM m ten ref j).charges = m.charges := by unfold submitM; simp only; split <;> rfl
  refine ⟨h.ok.submit (z := submitE m ten ref j) (.inr ⟨hl, rfl, rfl⟩), Hist.step hc hlog ?_, paid_more h.paid hp hlog, by rw [hch]; exact h.cents, ?_⟩
  · rw [again_submit (h.rlog hl)]
    exact HistM.submit h.hist ten ref j
  · rw [hch, h.cnt]
    unfold submitM
    simp only
    split
    · show _ = (m.bids ++ [newBid m ten ref j]).countP (·.charged)
      rw [List.countP_append]
      simp [newBid]
    · rfl
theorem CashOk.cancel (h : CashOk m) (hl : m.log.length < 300) (ten ref : Int) : CashOk (cancelM m ten ref) := by
  have hlog : (cancelM m ten ref).log = m.log ++ [callCancel ten ref] := by unfold cancelM; simp only; split <;> rfl
  have hc : (cancelM m ten ref).c = m.c := by unfold cancelM; simp only; split <;> rfl
  have hp : (cancelM m ten ref).paid = m.paid := by unfold cancelM; simp only; split <;> rfl
  have hch : (cancelM m ten ref).charges = m.charges := by unfold cancelM; simp only; split <;> rfl
  refine ⟨h.ok.cancel (z := cancelE m ten ref) (.inr ⟨hl, rfl, rfl⟩), Hist.step hc hlog ?_, paid_more h.paid hp hlog, by rw [hch]; exact h.cents, ?_⟩
  · rw [again_cancel (h.rlog hl)]
    exact HistM.cancel h.hist ten ref
  · rw [hch, h.cnt, key_count (key_cancel m ten ref)]
theorem CashOk.suspend (h : CashOk m) (hl : m.log.length < 300) (ten : Int) (on : Bool) : CashOk (suspendM m ten on) := by
  have hlog : (suspendM m ten on).log = m.log ++ [callSuspend ten on] := by unfold suspendM; simp only; split <;> rfl
  have hc : (suspendM m ten on).c = m.c := by unfold suspendM; simp only; split <;> rfl
  have hp : (suspendM m ten on).paid = m.paid := by unfold suspendM; simp only; split <;> rfl
  have hch : (suspendM m ten on).charges = m.charges := by unfold suspendM; simp only; split <;> rfl
  have hb : (suspendM m ten on).bids = m.bids := by unfold suspendM; simp only; split <;> rfl
  refine ⟨h.ok.suspend (z := suspendE m ten) (.inr ⟨hl, rfl, rfl⟩), Hist.step hc hlog ?_, paid_more h.paid hp hlog, by rw [hch]; exact h.cents, by rw [hch, hb]; exact h.cnt⟩
  rw [again_suspend (h.rlog hl)]
  exact HistM.suspend h.hist ten on
theorem CashOk.cap (h : CashOk m) (hl : m.log.length < 300) (f t u : Int) : CashOk (capM m f t u) := by
  have hlog : (capM m f t u).log = m.log ++ [callCapacity f t u] := by unfold capM; split; · rfl
                                                                       · split <;> rfl
  have hc : (capM m f t u).c = m.c := by unfold capM; split; · rfl
                                         · split <;> rfl
  have hp : (capM m f t u).paid = m.paid := by unfold capM; split; · rfl
                                               · split <;> rfl
  have hch : (capM m f t u).charges = m.charges := by unfold capM; split; · rfl
                                                      · split <;> rfl
  have hb : (capM m f t u).bids = m.bids := by unfold capM; split; · rfl
                                               · split <;> rfl
  obtain ⟨z, hz⟩ := capM_res m f t u
  refine ⟨h.ok.capacity (z := z) (.inr ⟨hl, hz⟩), Hist.step hc hlog ?_, paid_more h.paid hp hlog, by rw [hch]; exact h.cents, by rw [hch, hb]; exact h.cnt⟩
  rw [again_cap (h.rlog hl)]
  exact HistM.cap h.hist f t u
theorem CashOk.tick (h : CashOk m) (hl : m.log.length < 300) : CashOk (tickF m) := by
  obtain ⟨z, names, hz⟩ := tickF_res h.ok hl
  have hrest : (tickF m).c = m.c ∧ (tickF m).paid = m.paid ∧ (tickF m).charges = m.charges := by
    unfold tickF
    split
    · exact ⟨rfl, rfl, rfl⟩
    · have g1 : ghostI (m.logs callTick) m.time = none := ghostI_none (h.ok.logs hl callTick) h.hist.ghost m.time
      unfold tickM
      simp only [g1, wantEnd]
      have := AlikeM.fold m.time none (orderL m m.time) (m.logs callTick, [])
      exact ⟨this.c, this.paid, this.charges⟩
  refine ⟨(h.ok.tick hz).1, Hist.step hrest.1 (tickF_log' m) ?_, paid_more h.paid hrest.2.1 (tickF_log' m), by rw [hrest.2.2]; exact h.cents, by rw [hrest.2.2, h.cnt, key_count (key_tick m)]⟩
  rw [again_tick (h.rlog hl)]
  exact HistM.tick h.hist h.ok h.rok hl
theorem CashOk.bill (h : CashOk m) (hl : m.log.length < 300) : CashOk (billM m) := by
  have hok : MkOk (billM m) := by
    have h1 := (h.ok.logs hl callBill)
    refine ⟨h1.ck, h1.nu, h1.ns, h1.np, h1.nl, by show (m.bids.map _).length ≤ _; rw [List.length_map]; exact h1.nb, h1.t0, h1.t1, h1.un, fun b hb => ?_⟩
    obtain ⟨b0, hb0, rfl⟩ := List.mem_map.1 hb
    exact (h.ok.bid b0 hb0).bill m.time
  have hH : Hist (m.logs callBill) := by
    refine Hist.step (m := m) (c := callBill) rfl rfl ?_
    rw [again_bill (h.rlog hl)]
    exact HistM.logs h.hist callBill
  refine ⟨hok, Hist.step (m := m) (m' := billM m) (c := callBill) rfl rfl ?_, paid_more (m' := billM m) (c := callBill) h.paid rfl rfl, fun c hc => ?_, ?_⟩
  · rw [again_bill (h.rlog hl)]
    exact HistM.bill h.hist
  · rcases List.mem_append.1 hc with hc | hc
    · exact h.cents c hc
    · unfold billL dueL at hc
      obtain ⟨b, hb, rfl⟩ := List.mem_map.1 hc
      obtain ⟨hb1, hb2⟩ := List.mem_filter.1 hb
      obtain ⟨k, hk⟩ := List.getElem?_of_mem hb1
      have hw : b.state = 2 := by
        unfold BidG.dueB at hb2
        simp at hb2
        exact hb2.1.1
      have := Hist.price hH (h.ok.logs hl callBill) (k := k) hk hw
      have hj := jobIn_true (h.ok.bid b hb1).job
      show 1 ≤ priceM (m.logs callBill) b.entry ∧ priceM (m.logs callBill) b.entry ≤ 1048576
      omega
  · show (m.charges ++ billL m).length = (m.bids.map fun b => b.bill m.time).countP (·.charged)
    rw [bill_count, List.length_append, h.cnt, billL, dueL, List.length_map]
    rfl
theorem CashOk.pay (h : CashOk m) (hl : m.log.length < 300) (ten cents : Int) : CashOk (payM m ten cents) := by
  have hlog : (payM m ten cents).log = m.log ++ [callPay ten cents] := by unfold payM; simp only; split <;> rfl
  have hc : (payM m ten cents).c = m.c := by unfold payM; simp only; split <;> rfl
  have hch : (payM m ten cents).charges = m.charges := by unfold payM; simp only; split <;> rfl
  have hb : (payM m ten cents).bids = m.bids := by unfold payM; simp only; split <;> rfl
  refine ⟨?_, Hist.step hc hlog ?_, ?_, by rw [hch]; exact h.cents, by rw [hch, hb]; exact h.cnt⟩
  · have h1 := (h.ok.logs hl (callPay ten cents))
    unfold payM
    simp only
    split
    · exact ⟨h1.ck, h1.nu, h1.ns, by show (m.paid.set _ _).length = _; rw [List.length_set]; exact h1.np, h1.nl, h1.nb, h1.t0, h1.t1, h1.un, h1.bid⟩
    · exact h1
  · rw [again_pay (h.rlog hl)]
    exact HistM.pay h.hist ten cents
  · unfold payM
    simp only
    split
    · rename_i hE
      intro x hx
      show 0 ≤ x ∧ x ≤ ((m.log ++ [callPay ten cents]).length : Nat) * 1073741824
      rw [List.length_append]
      simp only [List.length_cons, List.length_nil]
      have hce : 1 ≤ cents ∧ cents ≤ 1073741824 := by
        unfold payE at hE
        split at hE
        · omega
        · split at hE
          · omega
          · omega
      rcases List.mem_or_eq_of_mem_set hx with hx | hx
      · have := h.paid x hx
        omega
      · have h0 : 0 ≤ m.paid.getD ten.toNat 0 ∧ m.paid.getD ten.toNat 0 ≤ m.log.length * 1073741824 := by
          by_cases hi : ten.toNat < m.paid.length
          · exact h.paid _ (by simp [List.getD, List.getElem?_eq_getElem hi])
          · rw [List.getD, List.getElem?_eq_none (by omega)]
            simp
            omega
        have e1 : x = m.paid.getD ten.toNat 0 + cents := hx
        omega
    · exact paid_more h.paid rfl rfl
end
end Go.Proofs.Ytminceigjejipab
