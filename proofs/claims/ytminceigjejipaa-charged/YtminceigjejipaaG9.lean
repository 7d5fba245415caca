import Derived.Test.YtminceigjejipaaG8
import Derived.Test.YtminceigjejipaaG7
import Derived.Laws.AppendOwnNone
/-
  THE THRESHOLD. Nothing of the program.
-/
namespace Go.Proofs.Ytminceigjejipaa

/-- the ghost's bid never wins -/
def NotWon (e : Int) (m : MkG) : Prop := ∀ b ∈ m.bids, b.entry = e → b.state ≠ 2
theorem notwon_tick {e : Int} {m : MkG} (h : NotWon e m) (hok : MkOk m) (hg : m.ghost = e) : NotWon e (tickF m) := by
  unfold tickF
  split
  · exact h
  · intro b hb hbe
    have hord := orderL_is (t := m.time) hok.sizes
    generalize orderL m m.time = l at *
    have hb' : b ∈ (wantEnd m.time (ghostI (m.logs callTick) m.time) (tickFold m.time (ghostI (m.logs callTick) m.time) (m.logs callTick) l).1).bids.map fun b => b.expire (m.time + 1) := hb
    rw [(wantEnd_bids _ _ _).1, List.mem_map] at hb'
    obtain ⟨x, hx, rfl⟩ := hb'
    have hxe : x.entry = e := by
      have : (x.expire (m.time + 1)).entry = x.entry := by unfold BidG.expire; split <;> rfl
      rw [← this]
      exact hbe
    obtain ⟨k, hk⟩ := List.getElem?_of_mem hx
    have hal := AlikeM.fold m.time (ghostI (m.logs callTick) m.time) l (m.logs callTick, [])
    have hent := ent_fold m.time (ghostI (m.logs callTick) m.time) k l (m.logs callTick, [])
    have hk' : (l.foldl (tickOne m.time (ghostI (m.logs callTick) m.time)) (m.logs callTick, [])).1.bids[k]? = some x := hk
    rw [hk'] at hent
    have hkl : k ∉ l := fun hx' => by
      obtain ⟨b0, hb0, hc⟩ := (hord.mem k).1 hx'
      rw [show ((m.logs callTick, ([] : List (Int × Int))).1.bids[k]?) = some b0 from hb0] at hent
      simp only [Option.map_some, Option.some.injEq] at hent
      unfold candB at hc
      rw [Bool.and_eq_true, hg] at hc
      have h2 : b0.entry ≠ e := by simpa using hc.2
      exact h2 (by rw [← hent]; exact hxe)
    have := hal.bid k hkl
    rw [hk'] at this
    have hst := h x (List.mem_of_getElem? this.symm) hxe
    unfold BidG.expire
    split
    · simp
    · exact hst

structure Phi (e v : Int) (G R : MkG) : Prop where
  ent : EntOk G
  ok : MkOk G
  st : (MAl e v G R ∧ NotWon e G ∧ (G.need = 0 ∨ v < G.need)) ∨ (WonE e R ∧ 0 < G.need ∧ G.need ≤ v)

theorem againM_in {m : MkG} (hl : m.log.length < 300) (c : CallG) : againM m c = if c.kind = 1 then submitM m c.a c.b c.job
  else if c.kind = 2 then cancelM m c.a c.b
  else if c.kind = 3 then capM m c.a c.b c.c
  else if c.kind = 4 then suspendM m c.a c.on
  else if c.kind = 5 then tickF m
  else m.logs c := by
  unfold againM
  rw [if_neg (by omega)]
/-- the call at place n -/
def callV (e n : Nat) (v : Int) (x : CallG) : CallG := if n = e then withV x v else x
theorem Phi.step {e : Nat} {v : Int} {G R : MkG} (h : Phi e v G R) (hv1 : 1 ≤ v) (hv2 : v ≤ 1048576) {n : Nat} (hn : G.log.length = n) (hl : n < 300) {x : CallG} (hx : n = e → x.kind = 1 ∧ 1 ≤ x.job.val ∧ x.job.val ≤ 1048576) : Phi e v (againM G x) (againM R (callV e n v x)) := by
  refine ⟨h.ent.again (by omega) x, h.ok.again x, ?_⟩
  rcases h.st with ⟨hM, hnw, hN⟩ | ⟨hw, hn1, hn2⟩
  rotate_left
  · have := need_again G x hn1
    exact .inr ⟨won_again hw _, this.1, by omega⟩
  have hlR : R.log.length = n := by rw [hM.log]; exact hn
  have hk : (callV e n v x).kind = x.kind := by unfold callV; split <;> rfl
  have ha : (callV e n v x).a = x.a := by unfold callV; split <;> rfl
  have hb : (callV e n v x).b = x.b := by unfold callV; split <;> rfl
  have hc : (callV e n v x).c = x.c := by unfold callV; split <;> rfl
  have ho : (callV e n v x).on = x.on := by unfold callV; split <;> rfl
  rw [againM_in (m := G) (by omega), againM_in (m := R) (by omega), hk, ha, hb, hc, ho]
  by_cases k1 : x.kind = 1
  · rw [if_pos k1, if_pos k1]
    left
    refine ⟨hM.submit x.a x.b x.job _ ?_, ?_, ?_⟩
    · rw [hn]
      unfold callV
      by_cases e1 : n = e
      · obtain ⟨_, h2, h3⟩ := hx e1
        rw [if_pos e1]
        exact .inr ⟨by rw [e1], rfl, hv1, hv2, h2, h3⟩
      · rw [if_neg e1]
        exact .inl ⟨by omega, rfl⟩
    · unfold submitM
      simp only
      split
      · intro b hb hbe
        rcases List.mem_append.1 hb with hb | hb
        · exact hnw b hb hbe
        · simp at hb
          subst hb
          simp [newBid]
      · exact hnw
    · unfold submitM
      simp only
      split <;> exact hN
  rw [if_neg k1, if_neg k1]
  have hne : n ≠ e := fun e1 => k1 (hx e1).1
  by_cases k2 : x.kind = 2
  · rw [if_pos k2, if_pos k2]
    left
    refine ⟨hM.cancel x.a x.b, ?_, ?_⟩
    · unfold cancelM
      simp only
      split
      · intro b hb hbe
        have hb' : b ∈ setState G.bids (findZ G.bids x.a x.b).toNat 3 := hb
        unfold setState at hb'
        split at hb'
        · rcases List.mem_or_eq_of_mem_set hb' with hb2 | rfl
          · exact hnw b hb2 hbe
          · simp
        · exact hnw b hb' hbe
      · exact hnw
    · unfold cancelM
      simp only
      split <;> exact hN
  rw [if_neg k2, if_neg k2]
  by_cases k3 : x.kind = 3
  · rw [if_pos k3, if_pos k3]
    left
    refine ⟨hM.cap x.a x.b x.c, ?_, ?_⟩
    · unfold capM
      split
      · exact hnw
      · split <;> exact hnw
    · unfold capM
      split
      · exact hN
      · split <;> exact hN
  rw [if_neg k3, if_neg k3]
  by_cases k4 : x.kind = 4
  · rw [if_pos k4, if_pos k4]
    left
    refine ⟨hM.suspend x.a x.on, ?_, ?_⟩
    · unfold suspendM
      simp only
      split <;> exact hnw
    · unfold suspendM
      simp only
      split <;> exact hN
  rw [if_neg k4, if_neg k4]
  by_cases k5 : x.kind = 5
  · rw [if_pos k5, if_pos k5]
    rcases tick_phase hM h.ok h.ent hv1 hN with ⟨h1, h2⟩ | h1
    · exact .inl ⟨h1, notwon_tick hnw h.ok hM.gh, h2⟩
    · exact .inr h1
  · rw [if_neg k5, if_neg k5]
    exact .inl ⟨hM.logs _ _, hnw, hN⟩

def mapFrom (e : Nat) (v : Int) : Nat → List CallG → List CallG
  | _, [] => []
  | n, x :: l => callV e n v x :: mapFrom e v (n + 1) l
theorem mapFrom_eq (e : Nat) (v : Int) : ∀ (l : List CallG) (n : Nat), l.mapIdx (fun i x => if i + n = e then withV x v else x) = mapFrom e v n l
  | [], _ => rfl
  | x :: l, n => by
    rw [List.mapIdx_cons, mapFrom]
    congr 1
    · simp [callV]
    · rw [← mapFrom_eq e v l (n + 1)]
      congr 1
      funext i x
      rw [show i + 1 + n = i + (n + 1) by omega]

theorem phi_fold {e : Nat} {v : Int} (hv1 : 1 ≤ v) (hv2 : v ≤ 1048576) : ∀ (l : List CallG) (n : Nat) {G R : MkG}, Phi e v G R → G.log.length = n → n + l.length ≤ 300 → (∀ (i : Nat) x, l[i]? = some x → n + i = e → x.kind = 1 ∧ 1 ≤ x.job.val ∧ x.job.val ≤ 1048576) → Phi e v (l.foldl againM G) ((mapFrom e v n l).foldl againM R)
  | [], _, _, _, h, _, _, _ => h
  | x :: l, n, G, R, h, hn, hl, hx => by
    simp only [List.length_cons] at hl
    have h1 := h.step hv1 hv2 hn (by omega) (x := x) (fun e1 => hx 0 x rfl (by omega))
    have hlog := again_log (m := G) (by omega) x
    simp only [List.foldl_cons, mapFrom]
    exact phi_fold hv1 hv2 l (n + 1) h1 (by omega) (by omega) (fun i y hy e1 => hx (i + 1) y (by simpa using hy) (by omega))

/-- THE THRESHOLD: in the replay with the value v the bid of entry e wins just if what its ghost needs is at most v -/
theorem replay_threshold {c : CfgG} (hc : cfgOk c = true) {e : Nat} {v : Int} (hv1 : 1 ≤ v) (hv2 : v ≤ 1048576) {log : List CallG} (hlen : log.length ≤ 300) (hcall : ∀ x, log[e]? = some x → x.kind = 1 ∧ 1 ≤ x.job.val ∧ x.job.val ≤ 1048576) :
    WonE e (replayV c e v log) ↔ (0 < (replayG c e log).need ∧ (replayG c e log).need ≤ v) := by
  have h0 : Phi e v (ghostOpen c e) (openM c) := by
    refine ⟨⟨fun i k b b' hb => by simp [ghostOpen, openM] at hb, fun b hb => by simp [ghostOpen, openM] at hb⟩, MkOk.ghostOpen hc e, .inl ⟨⟨rfl, rfl, rfl, rfl, rfl, rfl, rfl, rfl⟩, fun b hb => by simp [ghostOpen, openM] at hb, .inl rfl⟩⟩
  have h1 := phi_fold hv1 hv2 log 0 h0 rfl (by omega) (fun i x hx e1 => hcall x (by rw [← e1, Nat.zero_add]; exact hx))
  have e1 : replayV c e v log = (mapFrom e v 0 log).foldl againM (openM c) := by
    unfold replayV
    rw [← mapFrom_eq e v log 0]
    rfl
  rw [e1]
  unfold replayG
  rcases h1.st with ⟨hM, hnw, hN⟩ | ⟨hw, hn1, hn2⟩
  · constructor
    · rintro ⟨i, b, hb, hbe, hbs⟩
      rw [hM.get] at hb
      cases hi : (log.foldl againM (ghostOpen c e)).bids[i]? with
      | none => rw [hi] at hb; cases hb
      | some b0 =>
        rw [hi] at hb
        obtain rfl := Option.some.inj hb
        rw [al_entry] at hbe
        rw [al_state] at hbs
        exact absurd hbs (hnw b0 (List.mem_of_getElem? hi) hbe)
    · rintro ⟨h2, h3⟩
      omega
  · exact ⟨fun _ => ⟨hn1, hn2⟩, fun _ => hw⟩
end Go.Proofs.Ytminceigjejipaa

/-
  BALANCE IN THE REFERENCE.
-/
namespace Go.Proofs.Ytminceigjejipaa
open Go.RowKit

/-- what has been charged is bounded, bid by bid -/
structure ChgOk (m : MkG) : Prop where
  len : m.charges.length ≤ 300
  cents : ∀ c ∈ m.charges, 0 ≤ c.cents ∧ c.cents ≤ 1048576
def sumC (l : List InvG) : Int := (l.map (·.cents)).sum
theorem sumC_snoc (l : List InvG) (c : InvG) : sumC (l ++ [c]) = sumC l + c.cents := by simp [sumC]
theorem sumC_le : ∀ (l : List InvG), (∀ c ∈ l, 0 ≤ c.cents ∧ c.cents ≤ 1048576) → 0 ≤ sumC l ∧ sumC l ≤ l.length * 1048576
  | [], _ => by simp [sumC]
  | c :: l, h => by
    have h1 := h c (by simp)
    have h2 := sumC_le l (fun x hx => h x (by simp [hx]))
    have : sumC (c :: l) = c.cents + sumC l := by simp [sumC]
    rw [this, List.length_cons]
    omega
def balV (m : MkG) (ten : Int) : Int := if m.tenB ten = false then 0 else m.paid.getD ten.toNat 0 - sumC (ofTen m.charges ten)

end Go.Proofs.Ytminceigjejipaa

/-
  A BILL AS PLAIN FUNCTIONS; the market in the midst of it.
-/
namespace Go.Proofs.Ytminceigjejipaa
open Go.RowKit

def callBill : CallG := ⟨6, 0, 0, 0, noJob, false⟩
def BidG.dueB (b : BidG) (time : Int) : Bool := (b.state == 2) && !b.charged && decide (b.job.dl - b.job.len < time)
def BidG.bill (b : BidG) (time : Int) : BidG := if b.dueB time = true then { b with charged := true } else b
def invOf (m : MkG) (b : BidG) : InvG := ⟨b.ten, b.ref, priceM m b.entry⟩
def dueL (m : MkG) (l : List BidG) : List InvG := (l.filter fun b => b.dueB m.time).map (invOf m)
def billL (m : MkG) : List InvG := dueL (m.logs callBill) m.bids
def billM (m : MkG) : MkG := { m.logs callBill with bids := m.bids.map fun b => b.bill m.time, charges := m.charges ++ billL m }

def billTo (l : List BidG) (k : Nat) (time : Int) : List BidG := l.mapIdx fun i b => if i < k then b.bill time else b
theorem billTo_get (l : List BidG) (k : Nat) (time : Int) : (billTo l k time)[k]? = l[k]? := by
  simp [billTo, List.getElem?_mapIdx]
theorem billTo_len (l : List BidG) (k : Nat) (time : Int) : (billTo l k time).length = l.length := by simp [billTo]
theorem billTo_zero (l : List BidG) (time : Int) : billTo l 0 time = l := by
  apply List.ext_getElem?
  intro i
  simp [billTo, List.getElem?_mapIdx]
theorem billTo_all (l : List BidG) (time : Int) : billTo l l.length time = l.map fun b => b.bill time := by
  apply List.ext_getElem?
  intro i
  rw [billTo, List.getElem?_mapIdx, List.getElem?_map]
  by_cases hi : i < l.length
  · rw [List.getElem?_eq_getElem hi]
    simp [hi]
  · rw [List.getElem?_eq_none (by omega)]
    rfl
theorem billTo_succ {l : List BidG} {k : Nat} {time : Int} {b : BidG} (hb : l[k]? = some b) : billTo l (k + 1) time = (billTo l k time).set k (b.bill time) := by
  apply List.ext_getElem?
  intro i
  rw [List.getElem?_set, billTo_len]
  have hk := (List.getElem?_eq_some_iff.1 hb).1
  by_cases e : k = i
  · subst e
    rw [if_pos rfl, if_pos hk, billTo, List.getElem?_mapIdx, hb]
    simp
  · rw [if_neg e, billTo, billTo, List.getElem?_mapIdx, List.getElem?_mapIdx]
    by_cases h : i < k
    · simp [h, show i < k + 1 by omega]
    · simp [h, show ¬ i < k + 1 by omega]
theorem billTo_same {l : List BidG} {k : Nat} {time : Int} {b : BidG} (hb : l[k]? = some b) (he : b.bill time = b) : billTo l (k + 1) time = billTo l k time := by
  rw [billTo_succ hb, he]
  apply List.ext_getElem?
  intro i
  rw [List.getElem?_set, billTo_len]
  by_cases e : k = i
  · subst e
    rw [if_pos rfl, if_pos (List.getElem?_eq_some_iff.1 hb).1, billTo_get, hb]
  · rw [if_neg e]
theorem BidOk.bill {c : CfgG} {b : BidG} (h : BidOk c b) (time : Int) : BidOk c (b.bill time) := by
  unfold BidG.bill
  split
  · exact ⟨h.t0, h.t1, h.r0, h.r1, h.job, h.a0, h.a1, h.s0, h.s1, h.st0, h.st1, h.e0, h.e1⟩
  · exact h
theorem MkOk.billTo {m : MkG} (h : MkOk m) (k : Nat) (time : Int) : MkOk { m with bids := billTo m.bids k time } := by
  refine ⟨h.ck, h.nu, h.ns, h.np, h.nl, by rw [billTo_len]; exact h.nb, h.t0, h.t1, h.un, fun b hb => ?_⟩
  obtain ⟨i, hi⟩ := List.getElem?_of_mem hb
  rw [Go.Proofs.Ytminceigjejipaa.billTo, List.getElem?_mapIdx] at hi
  cases hx : m.bids[i]? with
  | none => rw [hx] at hi; simp at hi
  | some b0 =>
    rw [hx] at hi
    simp at hi
    have h0 := h.bid b0 (List.mem_of_getElem? hx)
    split at hi
    · rw [← hi]; exact h0.bill time
    · rw [← hi]; exact h0
theorem dueL_snoc {m : MkG} {l : List BidG} {k : Nat} {b : BidG} (h : l[k]? = some b) : dueL m (l.take (k + 1)) = dueL m (l.take k) ++ if b.dueB m.time = true then [invOf m b] else [] := by
  rw [take_snoc h, dueL, List.filter_append, List.map_append]
  congr 1
  by_cases e : b.dueB m.time = true
  · simp [e]
  · simp [e]
theorem dueL_len (m : MkG) (l : List BidG) : (dueL m l).length ≤ l.length := by
  rw [dueL, List.length_map]
  exact List.length_filter_le _ _

section
variable {w1 wr w' : World} {p : Nat} {V : MV} {m : MkG} {out : List InvG} {ov : Value}
end
end Go.Proofs.Ytminceigjejipaa

/-
  A MARKET AND THE REPLAY OF ITS LOG: they are one but for what has been charged and paid; what has won is charged between 1 and its value. Nothing of the program.
-/
namespace Go.Proofs.Ytminceigjejipaa

def unc (b : BidG) : BidG := { b with charged := false }
theorem unc_expire (b : BidG) (now : Int) : (unc b).expire now = unc (b.expire now) := by
  have e : ((unc b).state == 1 && decide ((unc b).job.dl < now + (unc b).job.len)) = (b.state == 1 && decide (b.job.dl < now + b.job.len)) := rfl
  unfold BidG.expire
  rw [e]
  split <;> rfl
theorem unc_bill (b : BidG) (time : Int) : unc (b.bill time) = unc b := by
  unfold BidG.bill
  split <;> rfl
/-- R is m with nothing charged and nothing paid -/
structure HistM (m R : MkG) : Prop where
  c : R.c = m.c
  time : R.time = m.time
  units : R.units = m.units
  susp : R.susp = m.susp
  log : R.log = m.log
  bids : R.bids = m.bids.map unc
  gm : m.ghost = -1
  rg : R.ghost = -1

section
variable {m R : MkG}
theorem HistM.get (h : HistM m R) (i : Nat) : R.bids[i]? = (m.bids[i]?).map unc := by rw [h.bids, List.getElem?_map]
theorem HistM.used (h : HistM m R) (t : Int) : usedL R.bids t = usedL m.bids t := by
  rw [h.bids]
  unfold usedL
  rw [List.map_map]
  rfl
theorem HistM.free (h : HistM m R) (t : Int) : freeV R t = freeV m t := by
  unfold freeV
  rw [h.c, h.units, h.used]
theorem HistM.fits (h : HistM m R) (b : BidG) (t : Int) : fitsB R (unc b) t = fitsB m b t := by
  unfold fitsB
  show (List.range b.job.len.toNat).all _ = _
  congr 1
  funext s
  rw [h.free]
  rfl
theorem HistM.cand (h : HistM m R) (b : BidG) (t : Int) : candB R t (unc b) = candB m t b := by
  unfold candB BidG.openB suspAt
  rw [h.susp, h.gm, h.rg]
  rfl
theorem HistM.find (h : HistM m R) (ten ref : Int) : findZ R.bids ten ref = findZ m.bids ten ref := by
  unfold findZ findL
  rw [h.bids, List.findIdx?_map]
  rfl
theorem HistM.pend (h : HistM m R) (ten : Int) : pendL R.bids ten = pendL m.bids ten := by
  unfold pendL
  rw [h.bids, List.countP_map]
  rfl
theorem HistM.tenB (h : HistM m R) (k : Int) : R.tenB k = m.tenB k := by unfold MkG.tenB; rw [h.c]
theorem HistM.state (h : HistM m R) (i : Int) : stateAt R i = stateAt m i := by
  unfold stateAt
  rw [h.get]
  cases m.bids[i.toNat]? <;> rfl
theorem HistM.logs (h : HistM m R) (c : CallG) : HistM (m.logs c) (R.logs c) :=
  ⟨h.c, h.time, h.units, h.susp, by simp [MkG.logs, h.log], h.bids, h.gm, h.rg⟩
theorem HistM.submit (h : HistM m R) (ten ref : Int) (j : JobG) : HistM (submitM m ten ref j) (submitM R ten ref j) := by
  have hE : submitE R ten ref j = submitE m ten ref j := by
    unfold submitE refB suspAt MkG.jobB
    rw [h.tenB, h.susp, h.find, h.pend, h.c, h.time]
  have hl := h.logs (callSubmit ten ref j)
  unfold submitM
  simp only [hE]
  split
  · refine ⟨hl.c, hl.time, hl.units, hl.susp, hl.log, ?_, hl.gm, hl.rg⟩
    show R.bids ++ [newBid R ten ref j] = (m.bids ++ [newBid m ten ref j]).map unc
    rw [List.map_append, ← h.bids]
    congr 1
    simp only [List.map_cons, List.map_nil, newBid, unc, h.time, h.log]
  · exact hl
theorem HistM.cancel (h : HistM m R) (ten ref : Int) : HistM (cancelM m ten ref) (cancelM R ten ref) := by
  have hE : cancelE R ten ref = cancelE m ten ref := by
    unfold cancelE
    rw [h.tenB, h.find, h.state]
  have hl := h.logs (callCancel ten ref)
  unfold cancelM
  simp only [hE, h.find]
  split
  · refine ⟨hl.c, hl.time, hl.units, hl.susp, hl.log, ?_, hl.gm, hl.rg⟩
    show setState R.bids _ 3 = (setState m.bids _ 3).map unc
    unfold setState
    rw [h.get]
    cases hb : m.bids[(findZ m.bids ten ref).toNat]? with
    | none => exact h.bids
    | some b =>
      simp only [Option.map_some]
      rw [List.map_set, h.bids]
      rfl
  · exact hl
theorem HistM.suspend (h : HistM m R) (ten : Int) (on : Bool) : HistM (suspendM m ten on) (suspendM R ten on) := by
  have hE : suspendE R ten = suspendE m ten := by
    unfold suspendE
    rw [h.tenB]
  have hl := h.logs (callSuspend ten on)
  unfold suspendM
  simp only [hE]
  split
  · exact ⟨hl.c, hl.time, hl.units, by show R.susp.set _ _ = m.susp.set _ _; rw [h.susp], hl.log, hl.bids, hl.gm, hl.rg⟩
  · exact hl
theorem HistM.cap (h : HistM m R) (f t u : Int) : HistM (capM m f t u) (capM R f t u) := by
  have hA : capArg R f t u = capArg m f t u := by
    unfold capArg
    rw [h.time, h.c]
  have hB : capB R f t u = capB m f t u := by
    unfold capB
    congr 1
    funext s
    rw [h.used]
  have hl := h.logs (callCapacity f t u)
  unfold capM
  rw [hA, hB]
  split
  · exact hl
  · split
    · exact ⟨hl.c, hl.time, by show (List.range R.units.length).map _ = (List.range m.units.length).map _; rw [h.units], hl.susp, hl.log, hl.bids, hl.gm, hl.rg⟩
    · exact hl
theorem HistM.start (h : HistM m R) (i : Nat) (t : Int) : HistM (startM m i t) (startM R i t) := by
  unfold startM
  rw [h.get]
  cases hb : m.bids[i]? with
  | none => exact h
  | some b =>
    refine ⟨h.c, h.time, h.units, h.susp, h.log, ?_, h.gm, h.rg⟩
    show R.bids.set i { unc b with state := 2, start := t } = (m.bids.set i { b with state := 2, start := t }).map unc
    rw [List.map_set, h.bids]
    rfl
theorem HistM.one (h : HistM m R) (t : Int) (o o' : List (Int × Int)) (i : Nat) : HistM (tickOne t none (m, o) i).1 (tickOne t none (R, o') i).1 := by
  unfold tickOne
  simp only
  rw [h.get]
  cases hb : m.bids[i]? with
  | none => exact h
  | some b =>
    simp only [Option.map_some]
    rw [h.fits, h.c, show (unc b).winB m.c.res = b.winB m.c.res from rfl]
    split
    · exact h.start i t
    · exact h
theorem HistM.fold (t : Int) : ∀ (l : List Nat) (s s' : TkS), HistM s.1 s'.1 → HistM (l.foldl (tickOne t none) s).1 (l.foldl (tickOne t none) s').1
  | [], _, _, h => h
  | i :: l, s, s', h => HistM.fold t l _ _ (h.one t s.2 s'.2 i)
theorem HistM.ahead (h : HistM m R) (i k : Nat) : aheadI R.bids i k = aheadI m.bids i k := by
  unfold aheadI
  rw [h.get, h.get]
  cases m.bids[i]? <;> cases m.bids[k]? <;> rfl
theorem HistM.order (h : HistM m R) (t : Int) {l : List Nat} (hl : IsOrder m t l) : IsOrder R t l := by
  refine ⟨fun i => ?_, ?_⟩
  · rw [hl.mem, h.get]
    constructor
    · rintro ⟨b, hb, hc⟩
      exact ⟨unc b, by rw [hb]; rfl, by rw [h.cand]; exact hc⟩
    · rintro ⟨b, hb, hc⟩
      cases hx : m.bids[i]? with
      | none => rw [hx] at hb; cases hb
      | some b0 =>
        rw [hx] at hb
        obtain rfl := Option.some.inj hb
        exact ⟨b0, rfl, by rw [← h.cand]; exact hc⟩
  · have : (fun i k => aheadI R.bids i k = true) = fun i k => aheadI m.bids i k = true := by
      funext i k
      rw [h.ahead]
    rw [this]
    exact hl.sorted
theorem HistM.tick (h : HistM m R) (hok : MkOk m) (hor : MkOk R) (hl : m.log.length < 300) : HistM (tickF m) (tickF R) := by
  unfold tickF
  rw [h.c, h.time]
  split
  · exact h.logs callTick
  · have ho := orderL_is (m := m) (t := m.time) hok.sizes
    have hoR := h.order m.time ho
    have e1 : orderL R m.time = orderL m m.time := (orderL_is (m := R) (t := m.time) hor.sizes).unique hoR
    have g1 : ghostI (m.logs callTick) m.time = none := ghostI_none (hok.logs hl callTick) h.gm m.time
    have g2 : ghostI (R.logs callTick) m.time = none := ghostI_none (hor.logs (by rw [h.log]; exact hl) callTick) h.rg m.time
    unfold tickM
    simp only [h.time, g1, g2, e1, wantEnd]
    have hf := HistM.fold m.time (orderL m m.time) (m.logs callTick, []) (R.logs callTick, []) (h.logs callTick)
    show HistM (tickEnd m.time (tickFold m.time none (m.logs callTick) (orderL m m.time)).1) (tickEnd m.time (tickFold m.time none (R.logs callTick) (orderL m m.time)).1)
    unfold tickFold
    refine ⟨hf.c, rfl, hf.units, hf.susp, hf.log, ?_, hf.gm, hf.rg⟩
    unfold tickEnd
    simp only
    rw [hf.bids, List.map_map, List.map_map]
    apply List.map_congr_left
    intro b _
    exact unc_expire b _
theorem HistM.bill (h : HistM m R) : HistM (billM m) (R.logs callBill) := by
  have hl := h.logs callBill
  refine ⟨hl.c, hl.time, hl.units, hl.susp, hl.log, ?_, hl.gm, hl.rg⟩
  show R.bids = (m.bids.map fun b => b.bill m.time).map unc
  rw [h.bids, List.map_map]
  apply List.map_congr_left
  intro b _
  exact (unc_bill b _).symm
theorem HistM.pay (h : HistM m R) (ten cents : Int) : HistM (payM m ten cents) (R.logs (callPay ten cents)) := by
  have hl := h.logs (callPay ten cents)
  unfold payM
  simp only
  split
  · exact ⟨hl.c, hl.time, hl.units, hl.susp, hl.log, hl.bids, hl.gm, hl.rg⟩
  · exact hl
end
end Go.Proofs.Ytminceigjejipaa

/-
  BILL IN THE REFERENCE.
-/
namespace Go.Proofs.Ytminceigjejipaa
open Go.RowKit

end Go.Proofs.Ytminceigjejipaa
