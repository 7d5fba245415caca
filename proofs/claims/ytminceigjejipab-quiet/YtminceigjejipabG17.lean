import Derived.Test.YtminceigjejipabG16
import Derived.Test.YtminceigjejipabG11
import Derived.Test.YtminceigjejipabKpB
/-
  THE BOOK GOES ON TELLING OF THE MARKET: what a step is noted as, and what it does. Nothing of the program's walks.
-/
namespace Go.Proofs.Ytminceigjejipab

/-- what a step leaves of a market as it was -/
structure Rest (m m' : MkG) : Prop where
  c : m'.c = m.c
  susp : m'.susp = m.susp
  units : m'.units = m.units
  len : m'.bids.length = m.bids.length

theorem tick_rest {m m' : MkG} (hg : GoodM m) {z : Int} {names : List (Int × Int)} (hr : TickRes m z names m') : Rest m m' := by
  rcases hr with ⟨_, _, _, rfl⟩ | ⟨_, _, _, _, rfl⟩ | ⟨hl, ht, _, l, hord, rfl, _⟩
  · exact ⟨rfl, rfl, rfl, rfl⟩
  · exact ⟨rfl, rfl, rfl, rfl⟩
  · unfold tickM
    simp only
    rw [ghostI_none (hg.ok.logs hl callTick) hg.ghost]
    simp only [wantEnd]
    have h := AlikeM.fold m.time none l (m.logs callTick, [])
    refine ⟨h.c, h.susp, h.units, ?_⟩
    show ((l.foldl (tickOne m.time none) (m.logs callTick, [])).1.bids.map fun b => b.expire (m.time + 1)).length = _
    rw [List.length_map, h.len]
    rfl
theorem cancel_rest (m : MkG) (ten ref : Int) : Rest m (cancelM m ten ref) := by
  unfold cancelM
  simp only
  split
  · refine ⟨rfl, rfl, rfl, ?_⟩
    show (setState m.bids (findZ m.bids ten ref).toNat 3).length = _
    unfold setState
    split
    · simp
    · rfl
  · exact ⟨rfl, rfl, rfl, rfl⟩

theorem submitE_zero {m : MkG} {ten ref : Int} {j : JobG} (h : submitE m ten ref j = 0) : m.tenB ten = true ∧ m.jobB j = true := by
  unfold submitE at h
  split at h
  · simp at h
  · rename_i h1
    split at h
    · simp at h
    · split at h
      · simp at h
      · split at h
        · simp at h
        · rename_i h4
          exact ⟨by cases e : m.tenB ten; exact absurd e h1; rfl, by cases e : m.jobB j; exact absurd e h4; rfl⟩

theorem noteOk_does {m m' : MkG} {b : BookG} (hrel : BookRel m b) {s : StepG} {z : Int} {names : List (Int × Int)} {bills : List InvG} (hr : DoesRes m s z names bills m') : NoteOk b s z m.time := by
  refine ⟨fun hz hk => ?_, fun hz hk => ?_, fun hz hk => ?_⟩
  · rcases hr with ⟨_, hr, _⟩ | ⟨h, _⟩ | ⟨h, _⟩ | ⟨h, _⟩ | ⟨h, _⟩ | ⟨h, _⟩ | ⟨h, _⟩ | ⟨h, _⟩ <;> try omega
    rcases hr with ⟨_, h, _⟩ | ⟨_, h, _⟩
    · omega
    · obtain ⟨h1, h2⟩ := submitE_zero (h.symm.trans hz)
      have ht := tenB_true h1
      simp only [MkG.jobB, Bool.and_eq_true, decide_eq_true_eq] at h2
      rw [hrel.c]
      exact ⟨ht, h2.1, h2.2⟩
  · rcases hr with ⟨h, _⟩ | ⟨h, _⟩ | ⟨_, hr, _⟩ | ⟨h, _⟩ | ⟨h, _⟩ | ⟨h, _⟩ | ⟨h, _⟩ | ⟨h, _⟩ <;> try omega
    rcases hr with ⟨_, h, _⟩ | ⟨_, h, _⟩
    · omega
    · rw [hz] at h
      have h1 : m.tenB s.a = true := by
        cases e : m.tenB s.a
        · simp [suspendE, e] at h
        · rfl
      rw [hrel.c]
      exact tenB_true h1
  · rcases hr with ⟨h, _⟩ | ⟨h, _⟩ | ⟨h, _⟩ | ⟨_, hr, _⟩ | ⟨h, _⟩ | ⟨h, _⟩ | ⟨h, _⟩ | ⟨h, _⟩ <;> try omega
    rcases hr with ⟨_, h, _⟩ | ⟨_, hr⟩
    · omega
    · rcases hr with ⟨_, h, _⟩ | ⟨_, _, h, _⟩ | ⟨ha, _, _, _⟩
      · omega
      · omega
      · obtain ⟨g1, g2, g3, _, _⟩ := capArg_false ha
        rw [hrel.c]
        exact ⟨by omega, by omega, by omega⟩

/-- nothing that the book tells of has turned -/
theorem BookRel.rest {m m' : MkG} {b : BookG} (h : BookRel m b) (hr : Rest m m') (hn : NoMove m m') : BookRel m' b := by
  refine ⟨h.c.trans hr.c.symm, h.susp.trans hr.susp.symm, h.units.trans hr.units.symm, h.len.trans hr.len.symm, fun i o x ho hx => ?_, fun i o x ho hx hs => ?_⟩
  · obtain ⟨y, hy⟩ : ∃ y, m.bids[i]? = some y := ⟨_, List.getElem?_eq_getElem (by have := (List.getElem?_eq_some_iff.1 ho).1; have := h.len; omega)⟩
    obtain ⟨y', a1, a2, _⟩ := hn i y hy
    rw [hx] at a1
    obtain rfl := Option.some.inj a1
    simp only [nameB, Prod.mk.injEq] at a2
    have := h.bid i o y ho hy
    exact ⟨by rw [a2.1]; exact this.1, by rw [a2.2.1]; exact this.2.1, by rw [a2.2.2.1]; exact this.2.2.1, by rw [a2.2.2.2.1]; exact this.2.2.2⟩
  · obtain ⟨y, hy⟩ : ∃ y, m.bids[i]? = some y := ⟨_, List.getElem?_eq_getElem (by have := (List.getElem?_eq_some_iff.1 ho).1; have := h.len; omega)⟩
    obtain ⟨y', a1, _, a3⟩ := hn i y hy
    rw [hx] at a1
    obtain rfl := Option.some.inj a1
    have hw := h.was i o y ho hy hs
    have := a3 (by omega)
    omega
theorem noteB_err {b : BookG} {i : Int} {s : StepG} {z now : Int} (hz : z ≠ 0) : noteB b i s z now = b := by
  unfold noteB
  rw [if_neg (by omega), if_neg (by omega), if_neg (by omega)]
theorem noteB_kind {b : BookG} {i : Int} {s : StepG} {z now : Int} (h1 : s.kind ≠ 1) (h3 : s.kind ≠ 3) (h4 : s.kind ≠ 4) : noteB b i s z now = b := by
  unfold noteB
  rw [if_neg (by omega), if_neg (by omega), if_neg (by omega)]

theorem BookRel.note {m m' : MkG} {b : BookG} (h : BookRel m b) (hg : GoodM m) (hs : SoundM m) {s : StepG} {z : Int} {names : List (Int × Int)} {bills : List InvG} (hr : DoesRes m s z names bills m') (i : Int) : BookRel m' (noteB b i s z m.time) := by
  have hn := (hs.does hg hr).2
  rcases hr with ⟨hk, hr, _⟩ | ⟨hk, hr, _⟩ | ⟨hk, hr, _⟩ | ⟨hk, hr, _⟩ | ⟨hk, hr, _⟩ | ⟨hk, hr, _⟩ | ⟨hk, hr, _⟩ | ⟨hk, _, rfl, _⟩
  · rcases hr with ⟨_, hz, rfl⟩ | ⟨_, hz, rfl⟩
    · rw [noteB_err (by omega)]
      exact h
    · by_cases he : submitE m s.a s.b s.job = 0
      · have hz0 : z = 0 := hz.trans he
        have e : submitM m s.a s.b s.job = { m.logs (callSubmit s.a s.b s.job) with bids := m.bids ++ [newBid m s.a s.b s.job] } := by
          unfold submitM
          simp only [he, if_true]
          rfl
        have hb : noteB b i s z m.time = { b with bids := b.bids ++ [knownNew i m.time s] } := by
          unfold noteB
          rw [if_pos ⟨hz0, hk⟩]
        rw [hb, e]
        have hl := h.len
        have get : ∀ (k : Nat) (o : KnownG) (x : BidG), (b.bids ++ [knownNew i m.time s])[k]? = some o → (m.bids ++ [newBid m s.a s.b s.job])[k]? = some x → (b.bids[k]? = some o ∧ m.bids[k]? = some x) ∨ (o = knownNew i m.time s ∧ x = newBid m s.a s.b s.job) := fun k o x ho hx => by
          rw [List.getElem?_append] at ho hx
          by_cases e : k < b.bids.length
          · rw [if_pos e] at ho
            rw [if_pos (by omega)] at hx
            exact .inl ⟨ho, hx⟩
          · rw [if_neg e] at ho
            rw [if_neg (by omega)] at hx
            have h1 := (List.getElem?_eq_some_iff.1 ho).1
            simp at h1
            have e0 : k - b.bids.length = 0 := by omega
            have e1 : k - m.bids.length = 0 := by omega
            rw [e0] at ho
            rw [e1] at hx
            simp at ho hx
            exact .inr ⟨ho.symm, hx.symm⟩
        refine ⟨h.c, h.susp, h.units, ?_, fun k o x ho hx => ?_, fun k o x ho hx hw => ?_⟩
        · show (b.bids ++ [_]).length = (m.bids ++ [_]).length
          simp [hl]
        · rcases get k o x ho hx with ⟨a1, a2⟩ | ⟨rfl, rfl⟩
          · exact h.bid k o x a1 a2
          · exact ⟨rfl, rfl, rfl, rfl⟩
        · rcases get k o x ho hx with ⟨a1, a2⟩ | ⟨rfl, rfl⟩
          · exact h.was k o x a1 a2 hw
          · exact absurd rfl hw
      · rw [noteB_err (by omega)]
        have e : submitM m s.a s.b s.job = m.logs (callSubmit s.a s.b s.job) := by
          unfold submitM
          simp only [he, if_false]
        rw [e] at hn ⊢
        exact h.rest ⟨rfl, rfl, rfl, rfl⟩ hn
  · rw [noteB_kind (by omega) (by omega) (by omega)]
    rcases hr with ⟨_, hz, rfl⟩ | ⟨_, hz, rfl⟩
    · exact h
    · exact h.rest (cancel_rest _ _ _) hn
  · rcases hr with ⟨_, hz, rfl⟩ | ⟨_, hz, rfl⟩
    · rw [noteB_err (by omega)]
      exact h
    · by_cases he : suspendE m s.a = 0
      · have hz0 : z = 0 := hz.trans he
        have e : suspendM m s.a (evenB s.b) = { m.logs (callSuspend s.a (evenB s.b)) with susp := m.susp.set s.a.toNat (evenB s.b) } := by
          unfold suspendM
          simp only [he, if_true]
          rfl
        have hb : noteB b i s z m.time = { b with susp := b.susp.set s.a.toNat (evenB s.b) } := by
          unfold noteB
          rw [if_neg (by omega), if_pos ⟨hz0, hk⟩]
        rw [hb, e]
        exact ⟨h.c, by show b.susp.set _ _ = m.susp.set _ _; rw [h.susp], h.units, h.len, h.bid, h.was⟩
      · rw [noteB_err (by omega)]
        have e : suspendM m s.a (evenB s.b) = m.logs (callSuspend s.a (evenB s.b)) := by
          unfold suspendM
          simp only [he, if_false]
        rw [e] at hn ⊢
        exact h.rest ⟨rfl, rfl, rfl, rfl⟩ hn
  · rcases hr with ⟨_, hz, rfl⟩ | ⟨_, hr⟩
    · rw [noteB_err (by omega)]
      exact h
    · rcases hr with ⟨_, hz, rfl⟩ | ⟨_, _, hz, rfl⟩ | ⟨_, _, hz, rfl⟩
      · rw [noteB_err (by omega)]
        exact h.rest ⟨rfl, rfl, rfl, rfl⟩ hn
      · rw [noteB_err (by omega)]
        exact h.rest ⟨rfl, rfl, rfl, rfl⟩ hn
      · have hb : noteB b i s z m.time = { b with units := unitsTo b.units s.a s.b s.c } := by
          unfold noteB
          rw [if_neg (by omega), if_neg (by omega), if_pos ⟨hz, hk⟩]
        rw [hb]
        exact ⟨h.c, h.susp, by show unitsTo b.units s.a s.b s.c = _; rw [h.units]; rfl, h.len, h.bid, h.was⟩
  · rw [noteB_kind (by omega) (by omega) (by omega)]
    exact h.rest (tick_rest hg hr) hn
  · rw [noteB_kind (by omega) (by omega) (by omega)]
    rcases hr with ⟨_, hz, _, rfl⟩ | ⟨_, hz, _, rfl⟩
    · exact h
    · exact h.rest ⟨rfl, rfl, rfl, by show (m.bids.map _).length = _; simp⟩ hn
  · rw [noteB_kind (by omega) (by omega) (by omega)]
    rcases hr with ⟨_, hz, rfl⟩ | ⟨_, hz, rfl⟩
    · exact h
    · refine h.rest ?_ hn
      unfold payM
      simp only
      split <;> exact ⟨rfl, rfl, rfl, rfl⟩
  · rw [noteB_kind (by omega) (by omega) (by omega)]
    exact h
/-- what 'sound' has seen -/
theorem BookRel.seen {m : MkG} {b : BookG} (h : BookRel m b) : BookRel m (seenB m b) := by
  have get : ∀ (i : Nat) (o : KnownG) (x : BidG), (seenB m b).bids[i]? = some o → m.bids[i]? = some x → ∃ o0, b.bids[i]? = some o0 ∧ o = seeO o0 x := fun i o x ho hx => by
    have ho' : (seenTo m b.bids b.bids.length)[i]? = some o := ho
    simp only [seenTo, List.getElem?_mapIdx] at ho'
    cases hb : b.bids[i]? with
    | none => rw [hb] at ho'; cases ho'
    | some o0 =>
      rw [hb] at ho'
      simp only [Option.map_some, Option.some.injEq] at ho'
      rw [if_pos (List.getElem?_eq_some_iff.1 hb).1, hx] at ho'
      exact ⟨o0, rfl, ho'.symm⟩
  refine ⟨h.c, h.susp, h.units, by show (seenTo m b.bids b.bids.length).length = _; rw [seenTo_len]; exact h.len, fun i o x ho hx => ?_, fun i o x ho hx _ => ?_⟩
  · obtain ⟨o0, h0, rfl⟩ := get i o x ho hx
    exact h.bid i o0 x h0 hx
  · obtain ⟨o0, h0, rfl⟩ := get i o x ho hx
    exact ⟨rfl, rfl⟩
theorem BookRel.start (c : CfgG) : BookRel (openM c) (startB c) :=
  ⟨rfl, rfl, rfl, rfl, fun i o x ho => by simp [startB] at ho, fun i o x ho => by simp [startB] at ho⟩
end Go.Proofs.Ytminceigjejipab

/-
  A TICK AS Packed LOOKS AT IT: which bids start, in which order; what is left pending. Nothing of the program.
-/
namespace Go.Proofs.Ytminceigjejipab
open Go.RowKit

def nameAt (l : List BidG) (i : Nat) : Int × Int := match l[i]? with | some b => (b.ten, b.ref) | none => (0, 0)
def setWon (t : Int) (b : BidG) : BidG := { b with state := 2, start := t }

theorem fits_mono {m m' : MkG} (h : ∀ x, freeV m' x ≤ freeV m x) {b : BidG} {t : Int} (hf : fitsB m b t = false) : fitsB m' b t = false := by
  cases hf' : fitsB m' b t
  · rfl
  · exfalso
    have : fitsB m b t = true := by
      simp only [fitsB, List.all_eq_true, List.mem_range, decide_eq_true_eq] at hf' ⊢
      intro s hs
      have := hf' s hs
      have := h (t + s)
      omega
    rw [this] at hf
    cases hf
theorem free_start {m : MkG} {i : Nat} {b : BidG} (hb : m.bids[i]? = some b) (h1 : b.state ≠ 2) (hu : 0 ≤ b.job.units) (t x : Int) : freeV (startM m i t) x ≤ freeV m x := by
  rw [startM_eq hb]
  unfold freeV
  simp only
  split
  · exact Int.le_refl _
  · rw [kused_start hb h1]
    split <;> omega

/-- the ticks' fold: those that start, out of those that are looked at -/
structure Pk (t : Int) (l : List Nat) (s s' : TkS) (js : List Nat) : Prop where
  sub : js.Sublist l
  names : s'.2 = s.2 ++ js.map (nameAt s.1.bids)
  bids : ∀ (k : Nat) (b : BidG), s.1.bids[k]? = some b → s'.1.bids[k]? = some (if k ∈ js then setWon t b else b)
  win : ∀ i ∈ js, ∀ b, s.1.bids[i]? = some b → b.winB s.1.c.res = true
  free : ∀ x, freeV s'.1 x ≤ freeV s.1 x
  fit : ∀ i ∈ l, i ∉ js → ∀ b, s.1.bids[i]? = some b → b.winB s.1.c.res = true → fitsB s'.1 b t = false

theorem pk_fold (t : Int) : ∀ (l : List Nat) (s : TkS), l.Nodup → (∀ i ∈ l, ∃ b, s.1.bids[i]? = some b ∧ b.openB s.1 t = true) → (∀ b ∈ s.1.bids, 0 ≤ b.job.units) → ∃ js, Pk t l s (l.foldl (tickOne t none) s) js
  | [], s, _, _, _ => ⟨[], List.Sublist.refl _, by simp, fun k b hb => by simpa using hb, fun i hi => by simp at hi, fun _ => Int.le_refl _, fun i hi => by simp at hi⟩
  | i :: l, s, hn, hc, hu => by
    obtain ⟨b, hb, ho⟩ := hc i List.mem_cons_self
    rw [List.nodup_cons] at hn
    have hst : b.state = 1 := by
      simp only [BidG.openB, Bool.and_eq_true, beq_iff_eq] at ho
      exact ho.1.1.1
    have hub := hu b (List.mem_of_getElem? hb)
    have hal := AlikeM.one t none s i
    have hnext : ∀ k ∈ l, ∃ x, (tickOne t none s i).1.bids[k]? = some x ∧ x.openB (tickOne t none s i).1 t = true := fun k hk => by
      obtain ⟨x, hx, hxo⟩ := hc k (List.mem_cons_of_mem _ hk)
      refine ⟨x, (hal.bid k (by simp; rintro rfl; exact hn.1 hk)).trans hx, ?_⟩
      unfold BidG.openB suspAt at hxo ⊢
      rw [hal.susp]
      exact hxo
    have hjob : ∀ x ∈ (tickOne t none s i).1.bids, 0 ≤ x.job.units := fun x hx => by
      obtain ⟨k, hk⟩ := List.getElem?_of_mem hx
      have := hal.job k
      rw [hk] at this
      cases hx0 : s.1.bids[k]? with
      | none => rw [hx0] at this; cases this
      | some x0 =>
        rw [hx0] at this
        simp only [Option.map_some, Option.some.injEq] at this
        rw [this]
        exact hu x0 (List.mem_of_getElem? hx0)
    obtain ⟨js, hp⟩ := pk_fold t l (tickOne t none s i) hn.2 hnext hjob
    have hij : i ∉ js := fun h => hn.1 (hp.sub.mem h)
    have e1 : tickOne t none s i = if fitsB s.1 b t && b.winB s.1.c.res then (startM s.1 i t, s.2 ++ [(b.ten, b.ref)]) else s := by
      unfold tickOne
      rw [hb]
    have hres : (tickOne t none s i).1.c = s.1.c := hal.c
    cases hw : fitsB s.1 b t && b.winB s.1.c.res
    · rw [hw] at e1
      simp only [Bool.false_eq_true, if_false] at e1
      rw [List.foldl_cons]
      rw [e1] at hp ⊢
      refine ⟨js, hp.sub.cons _, hp.names, hp.bids, hp.win, hp.free, fun k hk hkj x hx hxw => ?_⟩
      rcases List.mem_cons.1 hk with rfl | hk
      · rw [hb] at hx
        obtain rfl := Option.some.inj hx
        refine fits_mono hp.free ?_
        rw [hxw, Bool.and_true] at hw
        exact hw
      · exact hp.fit k hk hkj x hx hxw
    · rw [hw] at e1
      simp only [if_true] at e1
      rw [Bool.and_eq_true] at hw
      have hset : (startM s.1 i t).bids = s.1.bids.set i (setWon t b) := by rw [startM_eq hb]; rfl
      have hil := (List.getElem?_eq_some_iff.1 hb).1
      have hget : ∀ (k : Nat) (x : BidG), s.1.bids[k]? = some x → (startM s.1 i t).bids[k]? = some (if k = i then setWon t x else x) := fun k x hx => by
        rw [hset, List.getElem?_set]
        by_cases e : i = k
        · subst e
          rw [hb] at hx
          obtain rfl := Option.some.inj hx
          simp [hil]
        · rw [if_neg e, if_neg (Ne.symm e)]
          exact hx
      have hname : ∀ k, nameAt (startM s.1 i t).bids k = nameAt s.1.bids k := fun k => by
        unfold nameAt
        cases hx : s.1.bids[k]? with
        | none =>
          have : (startM s.1 i t).bids[k]? = none := by
            rw [hset, List.getElem?_eq_none (by rw [List.length_set]; exact List.getElem?_eq_none_iff.1 hx)]
          rw [this]
        | some x =>
          rw [hget k x hx]
          simp only
          split <;> rfl
      rw [List.foldl_cons]
      rw [e1] at hp hres ⊢
      refine ⟨i :: js, hp.sub.cons_cons _, ?_, fun k x hx => ?_, fun k hk x hx => ?_, fun x => Int.le_trans (hp.free x) (free_start hb (by omega) hub t x), fun k hk hkj x hx hxw => ?_⟩
      · rw [hp.names]
        have : nameAt s.1.bids i = (b.ten, b.ref) := by unfold nameAt; rw [hb]
        simp only [List.map_cons, this, List.append_assoc, List.singleton_append]
        congr 2
        exact List.map_congr_left (fun k _ => hname k)
      · rw [hp.bids k _ (hget k x hx)]
        congr 1
        by_cases e : k = i
        · subst e
          rw [if_neg hij, if_pos rfl, if_pos List.mem_cons_self]
        · rw [if_neg e]
          by_cases e2 : k ∈ js
          · rw [if_pos e2, if_pos (List.mem_cons_of_mem _ e2)]
          · rw [if_neg e2, if_neg (fun h => by rcases List.mem_cons.1 h with h | h; exact e h; exact e2 h)]
      · rcases List.mem_cons.1 hk with rfl | hk
        · rw [hb] at hx
          obtain rfl := Option.some.inj hx
          exact hw.2
        · have e : k ≠ i := fun e => hij (e ▸ hk)
          have := hp.win k hk x (by rw [hget k x hx, if_neg e])
          rw [hres] at this
          exact this
      · have hkj' : k ∉ js := fun h => hkj (List.mem_cons_of_mem _ h)
        have e : k ≠ i := fun e => hkj (e ▸ List.mem_cons_self)
        rcases List.mem_cons.1 hk with h | h
        · exact absurd h e
        · exact hp.fit k h hkj' x (by rw [hget k x hx, if_neg e]) (by rw [hres]; exact hxw)

/-- a tick that has gone by -/
structure TkdK (m m' : MkG) (names : List (Int × Int)) (js : List Nat) : Prop where
  lt : m.time < m.c.ticks
  time : m'.time = m.time + 1
  len : m'.bids.length = m.bids.length
  names : names = js.map (nameAt m.bids)
  ahead : js.Pairwise (fun i k => aheadI m.bids i k = true)
  cand : ∀ i ∈ js, ∃ b, m.bids[i]? = some b ∧ b.openB m m.time = true ∧ b.winB m.c.res = true
  bids : ∀ (k : Nat) (b : BidG), m.bids[k]? = some b → m'.bids[k]? = some (if k ∈ js then setWon m.time b else b.expire (m.time + 1))
  fit : ∀ (k : Nat) (b : BidG), k ∉ js → m.bids[k]? = some b → b.openB m m.time = true → b.winB m.c.res = true → fitsB m' b m.time = false
theorem TkdK.nodup {m m' : MkG} {names : List (Int × Int)} {js : List Nat} (h : TkdK m m' names js) : js.Nodup := by
  refine h.ahead.imp (fun {a b} hab e => ?_)
  subst e
  rw [aheadI_irrefl] at hab
  cases hab
theorem free_tickEnd (t : Int) (m : MkG) (x : Int) : freeV (tickEnd t m) x = freeV m x := by
  unfold freeV
  show (if x < 0 ∨ m.c.ticks ≤ x then 0 else m.units.getD x.toNat 0 - usedL (m.bids.map fun b => b.expire (t + 1)) x) = _
  rw [kused_map _ x m.bids (fun b _ => ⟨?_, by unfold BidG.expire; split <;> rfl⟩)]
  unfold BidG.runs BidG.expire
  split
  · rename_i hw; simp at hw; simp [hw.1]
  · rfl

theorem TickRes.ticked {m m' : MkG} {names : List (Int × Int)} (hr : TickRes m 0 names m') (hg : GoodM m) : ∃ js, TkdK m m' names js := by
  rcases hr with ⟨_, h, _⟩ | ⟨_, _, h, _⟩ | ⟨hl, ht, _, l, hord, rfl, rfl⟩
  · cases h
  · cases h
  · have hok := hg.ok
    have hok1 := hok.logs hl callTick
    have hopen : ∀ (i : Nat) (b : BidG), m.bids[i]? = some b → candB m m.time b = b.openB m m.time := fun i b hb => by
      have h0 := (hok.bid b (List.mem_of_getElem? hb)).e0
      have hgh := hg.ghost
      unfold candB
      rw [hgh]
      have : (b.entry != -1) = true := by simp; omega
      rw [this, Bool.and_true]
    obtain ⟨js, hp⟩ := pk_fold m.time l (m.logs callTick, []) hord.nodup (fun i hi => by
      obtain ⟨b, hb, hc⟩ := (hord.mem i).1 hi
      exact ⟨b, hb, by rw [hopen i b hb] at hc; exact hc⟩) (fun b hb => by
        have := jobIn_true (hok.bid b hb).job
        omega)
    unfold tickM
    simp only
    rw [ghostI_none hok1 hg.ghost]
    simp only [wantEnd, tickFold]
    have hal := AlikeM.fold m.time none l (m.logs callTick, [])
    refine ⟨js, ht, rfl, ?_, ?_, hord.sorted.sublist hp.sub, fun i hi => ?_, fun k b hb => ?_, fun k b hk hb ho hw => ?_⟩
    · show ((l.foldl (tickOne m.time none) (m.logs callTick, [])).1.bids.map _).length = _
      rw [List.length_map, hal.len]
      rfl
    · rw [hp.names]
      rfl
    · obtain ⟨b, hb, hc⟩ := (hord.mem i).1 (hp.sub.mem hi)
      exact ⟨b, hb, by rw [hopen i b hb] at hc; exact hc, hp.win i hi b hb⟩
    · show ((l.foldl (tickOne m.time none) (m.logs callTick, [])).1.bids.map fun b => b.expire (m.time + 1))[k]? = _
      rw [List.getElem?_map, hp.bids k b hb, Option.map_some]
      congr 1
      by_cases e : k ∈ js
      · rw [if_pos e, if_pos e]
        unfold BidG.expire setWon
        simp
      · rw [if_neg e, if_neg e]
    · have hkl : k ∈ l := (hord.mem k).2 ⟨b, hb, by rw [hopen k b hb]; exact ho⟩
      exact fits_mono (fun x => Int.le_of_eq (free_tickEnd m.time _ x)) (hp.fit k hkl hk b hb hw)

/-- what has won has started by now -/
def StartLt (m : MkG) : Prop := ∀ b ∈ m.bids, b.state = 2 → b.start < m.time
theorem StartLt.open (c : CfgG) : StartLt (openM c) := fun b hb => by simp [openM] at hb
theorem StartLt.of_bids {m m' : MkG} (h : StartLt m) (hb : m'.bids = m.bids) (ht : m'.time = m.time) : StartLt m' := fun b hm => by
  rw [hb] at hm
  rw [ht]
  exact h b hm
theorem StartLt.does {m m' : MkG} (h : StartLt m) (hg : GoodM m) {s : StepG} {z : Int} {names : List (Int × Int)} {bills : List InvG} (hr : DoesRes m s z names bills m') : StartLt m' := by
  rcases hr with ⟨_, hr, _⟩ | ⟨_, hr, _⟩ | ⟨_, hr, _⟩ | ⟨_, hr, _⟩ | ⟨_, hr, _⟩ | ⟨_, hr, _⟩ | ⟨_, hr, _⟩ | ⟨_, _, rfl, _⟩
  · rcases hr with ⟨_, _, rfl⟩ | ⟨_, _, rfl⟩
    · exact h
    · unfold submitM
      simp only
      split
      · intro b hb
        rcases List.mem_append.1 hb with hb | hb
        · exact h b hb
        · simp at hb
          subst hb
          intro hs
          simp [newBid] at hs
      · exact h.of_bids rfl rfl
  · rcases hr with ⟨_, _, rfl⟩ | ⟨_, _, rfl⟩
    · exact h
    · unfold cancelM
      simp only
      split
      · intro b hb
        have hb' : b ∈ setState m.bids (findZ m.bids s.a s.b).toNat 3 := hb
        unfold setState at hb'
        split at hb'
        · rcases List.mem_or_eq_of_mem_set hb' with hb2 | rfl
          · exact h b hb2
          · intro hs
            simp at hs
        · exact h b hb'
      · exact h.of_bids rfl rfl
  · rcases hr with ⟨_, _, rfl⟩ | ⟨_, _, rfl⟩
    · exact h
    · unfold suspendM
      simp only
      split <;> exact h.of_bids rfl rfl
  · rcases hr with ⟨_, _, rfl⟩ | ⟨_, hr⟩
    · exact h
    · rcases hr with ⟨_, _, rfl⟩ | ⟨_, _, _, rfl⟩ | ⟨_, _, _, rfl⟩ <;> exact h.of_bids rfl rfl
  · by_cases hz : z = 0
    · subst hz
      obtain ⟨js, ht⟩ := TickRes.ticked hr hg
      intro b' hb' hs
      obtain ⟨k, hk⟩ := List.getElem?_of_mem hb'
      have hkl : k < m.bids.length := by rw [← ht.len]; exact (List.getElem?_eq_some_iff.1 hk).1
      have hb := List.getElem?_eq_getElem hkl
      have := ht.bids k _ hb
      rw [hk] at this
      have e := Option.some.inj this
      rw [ht.time]
      by_cases ej : k ∈ js
      · rw [if_pos ej] at e
        rw [e]
        show m.time < m.time + 1
        omega
      · rw [if_neg ej] at e
        have hb0 := h _ (List.mem_of_getElem? hb)
        have hx : (m.bids[k].expire (m.time + 1)).state = 2 → m.bids[k].state = 2 ∧ (m.bids[k].expire (m.time + 1)).start = m.bids[k].start := by
          unfold BidG.expire
          split
          · intro h; simp at h
          · intro h; exact ⟨h, rfl⟩
        rw [e] at hs ⊢
        obtain ⟨h1, h2⟩ := hx hs
        have := hb0 h1
        rw [h2]
        omega
    · rcases hr with ⟨_, _, _, rfl⟩ | ⟨_, _, _, _, rfl⟩ | ⟨_, _, e, _⟩
      · exact h
      · exact h.of_bids rfl rfl
      · exact absurd e hz
  · rcases hr with ⟨_, _, _, rfl⟩ | ⟨_, _, _, rfl⟩
    · exact h
    · intro b hb
      obtain ⟨b0, hb0, rfl⟩ := List.mem_map.1 hb
      have := h b0 hb0
      unfold BidG.bill
      split <;> exact this
  · rcases hr with ⟨_, _, rfl⟩ | ⟨_, _, rfl⟩
    · exact h
    · unfold payM
      simp only
      split <;> exact h.of_bids rfl rfl
  · exact h
end Go.Proofs.Ytminceigjejipab

/-
  THE STEPS OF A CASE, AND THE LOG: what a case's market logs; with a bid's value changed, the log is the replay's. Nothing of the program but the book's data.
-/
namespace Go.Proofs.Ytminceigjejipab
open Go.RowKit

def callOfS (s : StepG) : CallG :=
  if s.kind = 1 then callSubmit s.a s.b s.job
  else if s.kind = 2 then callCancel s.a s.b
  else if s.kind = 3 then callSuspend s.a (evenB s.b)
  else if s.kind = 4 then callCapacity s.a s.b s.c
  else if s.kind = 5 then callTick
  else if s.kind = 6 then callBill
  else callPay s.a s.b
def logStep (l : List CallG) (s : StepG) : List CallG := if l.length < 300 ∧ 1 ≤ s.kind ∧ s.kind ≤ 7 then l ++ [callOfS s] else l
def logN (st : Nat → StepG) : Nat → List CallG
  | 0 => []
  | k + 1 => logStep (logN st k) (st k)

theorem DoesRes.logd {m m' : MkG} {s : StepG} {z : Int} {names : List (Int × Int)} {bills : List InvG} (h : DoesRes m s z names bills m') : m'.log = logStep m.log s ∧ m'.c = m.c := by
  unfold logStep callOfS
  rcases h with ⟨e, h, _⟩ | ⟨e, h, _⟩ | ⟨e, h, _⟩ | ⟨e, h, _⟩ | ⟨e, h, _⟩ | ⟨e, h, _⟩ | ⟨e, h, _⟩ | ⟨e, _, rfl, _⟩
  · rcases h with ⟨hl, _, rfl⟩ | ⟨hl, _, rfl⟩
    · rw [if_neg (by omega)]
      exact ⟨rfl, rfl⟩
    · rw [if_pos ⟨hl, by omega, by omega⟩, if_pos e]
      unfold submitM
      simp only
      split <;> exact ⟨rfl, rfl⟩
  · rcases h with ⟨hl, _, rfl⟩ | ⟨hl, _, rfl⟩
    · rw [if_neg (by omega)]
      exact ⟨rfl, rfl⟩
    · rw [if_pos ⟨hl, by omega, by omega⟩, if_neg (by omega), if_pos e]
      unfold cancelM
      simp only
      split <;> exact ⟨rfl, rfl⟩
  · rcases h with ⟨hl, _, rfl⟩ | ⟨hl, _, rfl⟩
    · rw [if_neg (by omega)]
      exact ⟨rfl, rfl⟩
    · rw [if_pos ⟨hl, by omega, by omega⟩, if_neg (by omega), if_neg (by omega), if_pos e]
      unfold suspendM
      simp only
      split <;> exact ⟨rfl, rfl⟩
  · rcases h with ⟨hl, _, rfl⟩ | ⟨hl, h⟩
    · rw [if_neg (by omega)]
      exact ⟨rfl, rfl⟩
    · rw [if_pos ⟨hl, by omega, by omega⟩, if_neg (by omega), if_neg (by omega), if_neg (by omega), if_pos e]
      rcases h with ⟨_, _, rfl⟩ | ⟨_, _, _, rfl⟩ | ⟨_, _, _, rfl⟩ <;> exact ⟨rfl, rfl⟩
  · rcases h with ⟨hl, _, _, rfl⟩ | ⟨hl, _, _, _, rfl⟩ | ⟨hl, _, _, l, _, rfl, _⟩
    · rw [if_neg (by omega)]
      exact ⟨rfl, rfl⟩
    · rw [if_pos ⟨hl, by omega, by omega⟩, if_neg (by omega), if_neg (by omega), if_neg (by omega), if_neg (by omega), if_pos e]
      exact ⟨rfl, rfl⟩
    · rw [if_pos ⟨hl, by omega, by omega⟩, if_neg (by omega), if_neg (by omega), if_neg (by omega), if_neg (by omega), if_pos e]
      have hal := AlikeM.fold m.time (ghostI (m.logs callTick) m.time) l (m.logs callTick, [])
      unfold tickM
      simp only
      constructor
      · show (wantEnd m.time _ (tickFold m.time _ _ _).1).log = _
        rw [(wantEnd_bids _ _ _).2]
        exact hal.log
      · show (wantEnd m.time (ghostI (m.logs callTick) m.time) (tickFold m.time (ghostI (m.logs callTick) m.time) (m.logs callTick) l).1).c = _
        have : ∀ (g : Option Nat) (X : MkG), (wantEnd m.time g X).c = X.c := fun g X => by
          unfold wantEnd
          split
          · split
            · unfold wantM
              first | rfl | (split <;> rfl)
            · rfl
          · rfl
        rw [this]
        exact hal.c
  · rcases h with ⟨hl, _, _, rfl⟩ | ⟨hl, _, _, rfl⟩
    · rw [if_neg (by omega)]
      exact ⟨rfl, rfl⟩
    · rw [if_pos ⟨hl, by omega, by omega⟩, if_neg (by omega), if_neg (by omega), if_neg (by omega), if_neg (by omega), if_neg (by omega), if_pos e]
      exact ⟨rfl, rfl⟩
  · rcases h with ⟨hl, _, rfl⟩ | ⟨hl, _, rfl⟩
    · rw [if_neg (by omega)]
      exact ⟨rfl, rfl⟩
    · rw [if_pos ⟨hl, by omega, by omega⟩, if_neg (by omega), if_neg (by omega), if_neg (by omega), if_neg (by omega), if_neg (by omega), if_neg (by omega)]
      unfold payM
      simp only
      split <;> exact ⟨rfl, rfl⟩
  · rw [if_neg (by omega)]
    exact ⟨rfl, rfl⟩

/-- the steps with another value at step i -/
def stV (st : Nat → StepG) (i : Nat) (v : Int) (n : Nat) : StepG := if n = i then { st n with job := { (st n).job with val := v } } else st n
theorem logV_snoc (e : Nat) (v : Int) (l : List CallG) (x : CallG) : logV e v (l ++ [x]) = logV e v l ++ [if l.length = e then withV x v else x] := by
  unfold logV
  rw [List.mapIdx_append]
  simp
theorem logV_low {e : Nat} {v : Int} {l : List CallG} (h : l.length ≤ e) : logV e v l = l := by
  apply List.ext_getElem?
  intro i
  rw [logV_get]
  cases hi : l[i]? with
  | none => rfl
  | some x =>
    have := (List.getElem?_eq_some_iff.1 hi).1
    simp [show i ≠ e by omega]
theorem logN_low (st : Nat → StepG) (i : Nat) (v : Int) : ∀ k, k ≤ i → logN (stV st i v) k = logN st k
  | 0, _ => rfl
  | k + 1, h => by
    have e : stV st i v k = st k := by unfold stV; rw [if_neg (by omega)]
    simp only [logN, logN_low st i v k (by omega), e]
theorem logN_len_mono (st : Nat → StepG) (i : Nat) : ∀ k, i ≤ k → (logN st i).length ≤ (logN st k).length
  | 0, h => by have : i = 0 := by omega
               subst this; exact Nat.le_refl _
  | k + 1, h => by
    by_cases e : i = k + 1
    · subst e; exact Nat.le_refl _
    · refine Nat.le_trans (logN_len_mono st i k (by omega)) ?_
      simp only [logN, logStep]
      split <;> simp
theorem logN_high (st : Nat → StepG) (i : Nat) (v : Int) (hk : (st i).kind = 1) (hl : (logN st i).length < 300) : ∀ k, i < k → logN (stV st i v) k = logV (logN st i).length v (logN st k)
  | 0, h => by omega
  | k + 1, h => by
    by_cases e : k = i
    · subst e
      have e1 : stV st k v k = { st k with job := { (st k).job with val := v } } := by unfold stV; rw [if_pos rfl]
      simp only [logN, logN_low st k v k (Nat.le_refl _), e1]
      unfold logStep
      rw [if_pos ⟨hl, by simp only; omega, by simp only; omega⟩, if_pos ⟨hl, by omega, by omega⟩, logV_snoc, if_pos rfl, logV_low (Nat.le_refl _)]
      congr 2
      simp [callOfS, hk, callSubmit, withV]
    · have e1 : stV st i v k = st k := by unfold stV; rw [if_neg e]
      have ih := logN_high st i v hk hl k (by omega)
      simp only [logN, ih, e1]
      unfold logStep
      rw [logV_len]
      split
      · rw [logV_snoc, if_neg]
        have h1 := logN_len_mono st (i + 1) k (by omega)
        have h2 : (logN st (i + 1)).length = (logN st i).length + 1 := by
          simp only [logN]
          unfold logStep
          rw [if_pos ⟨hl, by omega, by omega⟩, List.length_append]
          rfl
        omega
      · rfl

/-- what is known of the bids, and of the steps that submitted them -/
structure StepsOk (st : Nat → StepG) (k : Nat) (m : MkG) (b : BookG) : Prop where
  log : m.log = logN st k
  bid : ∀ (j : Nat) (o : KnownG) (x : BidG), b.bids[j]? = some o → m.bids[j]? = some x → ∃ i : Nat, o.step = i ∧ i < k ∧ (st i).kind = 1 ∧ (st i).a = o.ten ∧ (st i).b = o.ref ∧ (st i).job = o.job ∧ x.entry = ((logN st i).length : Int) ∧ (logN st i).length < 300
theorem StepsOk.start (st : Nat → StepG) (c : CfgG) : StepsOk st 0 (openM c) (startB c) := ⟨rfl, fun j o x _ hx => by simp [openM] at hx⟩
theorem StepsOk.step {st : Nat → StepG} {k : Nat} {m m' : MkG} {b : BookG} (h : StepsOk st k m b) (hg : GoodM m) (hs : SoundM m) (hrel : BookRel m b) {z : Int} {names : List (Int × Int)} {bills : List InvG} (hr : DoesRes m (st k) z names bills m') : StepsOk st (k + 1) m' (noteB b k (st k) z m.time) := by
  have hlog := hr.logd.1
  obtain ⟨_, hmv⟩ := hs.does hg hr
  refine ⟨by rw [hlog, h.log]; rfl, fun j o x ho hx => ?_⟩
  have hold : ∀ o, b.bids[j]? = some o → ∃ i : Nat, o.step = i ∧ i < k + 1 ∧ (st i).kind = 1 ∧ (st i).a = o.ten ∧ (st i).b = o.ref ∧ (st i).job = o.job ∧ x.entry = ((logN st i).length : Int) ∧ (logN st i).length < 300 := fun o ho => by
    obtain ⟨x0, hx0⟩ : ∃ x0, m.bids[j]? = some x0 := ⟨_, List.getElem?_eq_getElem (by rw [← hrel.len]; exact (List.getElem?_eq_some_iff.1 ho).1)⟩
    obtain ⟨i, a1, a2, a3, a4, a5, a6, a7, a8⟩ := h.bid j o x0 ho hx0
    obtain ⟨x', hx', hn, _⟩ := hmv j x0 hx0
    rw [hx] at hx'
    obtain rfl := Option.some.inj hx'
    have he : x.entry = x0.entry := congrArg (·.2.2.2.2) hn
    exact ⟨i, a1, by omega, a3, a4, a5, a6, by rw [he]; exact a7, a8⟩
  by_cases hnew : (st k).kind = 1 ∧ z = 0
  · obtain ⟨hk1, hz⟩ := hnew
    have hnb : (noteB b k (st k) z m.time).bids = b.bids ++ [knownNew k m.time (st k)] := by simp [noteB, hk1, hz]
    rw [hnb] at ho
    rcases Nat.lt_or_ge j b.bids.length with hj | hj
    · rw [List.getElem?_append_left hj] at ho
      exact hold o ho
    · rw [List.getElem?_append_right hj] at ho
      have hj0 : j - b.bids.length = 0 := by
        have := (List.getElem?_eq_some_iff.1 ho).1
        simp at this
        omega
      rw [hj0] at ho
      have ho' : o = knownNew k m.time (st k) := (Option.some.inj ho).symm
      subst ho'
      have hsub : SubmitRes m (st k).a (st k).b (st k).job z m' := by
        rcases hr with ⟨_, h, _⟩ | ⟨e, _⟩ | ⟨e, _⟩ | ⟨e, _⟩ | ⟨e, _⟩ | ⟨e, _⟩ | ⟨e, _⟩ | ⟨e, _⟩
        · exact h
        all_goals omega
      rcases hsub with ⟨_, hz2, _⟩ | ⟨hl, hz2, rfl⟩
      · omega
      · have hbids : (submitM m (st k).a (st k).b (st k).job).bids = m.bids ++ [newBid m (st k).a (st k).b (st k).job] := by
          unfold submitM
          simp only
          rw [if_pos (by omega)]
          rfl
        rw [hbids] at hx
        have hjm : j = m.bids.length := by rw [← hrel.len]; omega
        rw [hjm] at hx
        simp at hx
        subst hx
        refine ⟨k, rfl, by omega, hk1, rfl, rfl, rfl, ?_, ?_⟩
        · show ((m.log.length : Nat) : Int) = _
          rw [h.log]
        · rw [← h.log]; exact hl
  · have hnb : (noteB b k (st k) z m.time).bids = b.bids := by
      unfold noteB
      rw [if_neg (fun h => hnew ⟨h.2, h.1⟩)]
      split
      · rfl
      · split <;> rfl
    rw [hnb] at ho
    exact hold o ho
end Go.Proofs.Ytminceigjejipab

/-
  yardkeep, Quiet: two markets that hold one; sameBills, sameTold, asks.
-/
namespace Go.Proofs.Ytminceigjejipab
open Go.RowKit

theorem DoesRes.unique {m m1 m2 : MkG} {s : StepG} {z1 z2 : Int} {n1 n2 : List (Int × Int)} {b1 b2 : List InvG} (h : DoesRes m s z1 n1 b1 m1) (h' : DoesRes m s z2 n2 b2 m2) : z1 = z2 ∧ n1 = n2 ∧ b1 = b2 ∧ m1 = m2 := by
  rcases h with ⟨e, h, rfl, rfl⟩ | ⟨e, h, rfl, rfl⟩ | ⟨e, h, rfl, rfl⟩ | ⟨e, h, rfl, rfl⟩ | ⟨e, h, rfl⟩ | ⟨e, h, rfl⟩ | ⟨e, h, rfl, rfl⟩ | ⟨e, rfl, rfl, rfl, rfl⟩ <;>
    rcases h' with ⟨e', h', rfl, rfl⟩ | ⟨e', h', rfl, rfl⟩ | ⟨e', h', rfl, rfl⟩ | ⟨e', h', rfl, rfl⟩ | ⟨e', h', rfl⟩ | ⟨e', h', rfl⟩ | ⟨e', h', rfl, rfl⟩ | ⟨e', rfl, rfl, rfl, rfl⟩ <;>
    first
      | (exfalso; omega)
      | (have := LogRes.unique h h'; exact ⟨this.1, rfl, rfl, this.2⟩)
      | (have := CapacityRes.unique h h'; exact ⟨this.1, rfl, rfl, this.2⟩)
      | (have := TickRes.unique h h'; exact ⟨this.1, this.2.1, rfl, this.2.2⟩)
      | (have := BillRes.unique h h'; exact ⟨this.1, rfl, this.2.1, this.2.2⟩)
      | exact ⟨rfl, rfl, rfl, rfl⟩
/-- a call that is logged is ErrFull just if the log is full -/
theorem DoesRes.full {m m' : MkG} {s : StepG} {z : Int} {names : List (Int × Int)} {bills : List InvG} (h : DoesRes m s z names bills m') (hk : 1 ≤ s.kind ∧ s.kind ≤ 7) : z = 2 ↔ m.log.length = 300 := by
  have sub : submitE m s.a s.b s.job ≠ 2 := by
    unfold submitE
    split
    · decide
    · split
      · decide
      · split
        · decide
        · split
          · decide
          · split <;> decide
  have can : cancelE m s.a s.b ≠ 2 := by
    unfold cancelE
    split
    · decide
    · split
      · decide
      · split <;> decide
  have sus : suspendE m s.a ≠ 2 := by unfold suspendE; split <;> decide
  have pay : payE m s.a s.b ≠ 2 := by
    unfold payE
    split
    · decide
    · split <;> decide
  rcases h with ⟨_, h, _⟩ | ⟨_, h, _⟩ | ⟨_, h, _⟩ | ⟨_, h, _⟩ | ⟨_, h, _⟩ | ⟨_, h, _⟩ | ⟨_, h, _⟩ | ⟨e, _⟩
  · rcases h with ⟨hl, hz, _⟩ | ⟨hl, hz, _⟩ <;> constructor <;> intro _ <;> omega
  · rcases h with ⟨hl, hz, _⟩ | ⟨hl, hz, _⟩ <;> constructor <;> intro _ <;> omega
  · rcases h with ⟨hl, hz, _⟩ | ⟨hl, hz, _⟩ <;> constructor <;> intro _ <;> omega
  · rcases h with ⟨hl, hz, _⟩ | ⟨hl, ⟨_, hz, _⟩ | ⟨_, _, hz, _⟩ | ⟨_, _, hz, _⟩⟩ <;> constructor <;> intro _ <;> omega
  · rcases h with ⟨hl, hz, _⟩ | ⟨hl, _, hz, _⟩ | ⟨hl, _, hz, _⟩ <;> constructor <;> intro _ <;> omega
  · rcases h with ⟨hl, hz, _⟩ | ⟨hl, hz, _⟩ <;> constructor <;> intro _ <;> omega
  · rcases h with ⟨hl, hz, _⟩ | ⟨hl, hz, _⟩ <;> constructor <;> intro _ <;> omega
  · omega
theorem DoesRes.lists {m m' : MkG} {s : StepG} {z : Int} {names : List (Int × Int)} {bills : List InvG} (h : DoesRes m s z names bills m') (hok : MkOk m) : names.length ≤ 300 ∧ bills.length ≤ 300 := by
  rcases h with ⟨_, _, rfl, rfl⟩ | ⟨_, _, rfl, rfl⟩ | ⟨_, _, rfl, rfl⟩ | ⟨_, _, rfl, rfl⟩ | ⟨_, h, rfl⟩ | ⟨_, h, rfl⟩ | ⟨_, _, rfl, rfl⟩ | ⟨_, _, _, rfl, rfl⟩
  all_goals first
    | exact ⟨by simp, by simp⟩
    | exact ⟨TickRes.names_len h hok, by simp⟩
    | exact ⟨by simp, BillRes.len h hok⟩

theorem nameRow_cell {w : World} {v : Value} {l : List (Int × Int)} {i : Nat} {c : Int × Int} (h : w.ownsRow 0 65 2 v l.length (l.flatMap nameCells)) (hc : l[i]? = some c) :
    ∃ g cap, v = .slice (some ⟨g, 0, none⟩) l.length cap ∧ w.cell? ⟨g, i * 2, none⟩ = some (.int .i64 c.1) ∧ w.cell? ⟨g, i * 2 + 1, none⟩ = some (.int .i64 c.2) := by
  rcases h.2 with ⟨hv, h0⟩ | ⟨g, cap, cur, hv, hg, hh, r⟩
  · have := (List.getElem?_eq_some_iff.1 hc).1
    omega
  · refine ⟨g, cap, hv, ?_, ?_⟩
    · have h1 := h.cells (g := g) (by rw [hv]; rfl) (i * 2) (.int .i64 c.1) (by
        have := flat_get nameCells 2 (fun _ => rfl) l i c 0 hc (by omega)
        rw [Nat.add_zero] at this
        rw [this]; rfl)
      rwa [Addr.add_lit, Nat.zero_add] at h1
    · have h1 := h.cells (g := g) (by rw [hv]; rfl) (i * 2 + 1) (.int .i64 c.2) (by rw [flat_get nameCells 2 (fun _ => rfl) l i c 1 hc (by omega)]; rfl)
      rwa [Addr.add_lit, Nat.zero_add] at h1

set_option maxRecDepth 100000 in
set_option maxHeartbeats 4000000 in
theorem ksame_any (l : List InvG) (av bv : Value) (w : World) (ha : w.ownsRow 0 91 3 av l.length (l.flatMap invCells)) (hb : w.ownsRow 0 91 3 bv l.length (l.flatMap invCells)) (hl : l.length ≤ 300) :
    Calls Try.prog 26 #[av, bv] w fun e w' => e = .returned (.bool true) ∧ Chg (fun _ => False) w w' := by
  obtain ⟨aa, ac, hav⟩ := ownsRow_form ha
  obtain ⟨ba, bc, hbv⟩ := ownsRow_form hb
  subst hav hbv
  have HA := hide ha
  have HB := hide hb
  obtain ⟨n, hn⟩ : ∃ n, n = l.length := ⟨_, rfl⟩
  have HN := hide hn
  rw [← hn] at hl HA HB ⊢
  clear ha hb hn
  go_enter Try.func26, Try.ntmps26
  go_wp2
  go_loopw [5] (fun i wr => ∃ k : Nat, k ≤ n ∧ i = .int .i64 k ∧ Chg (fun _ => False) w wr) (fun i _ => n - (intOf i).toNat)
  case atStart => exact ⟨0, by omega, rfl, Chg.refl _ _⟩
  case round =>
    obtain ⟨k, hk, rfl, hcr⟩ := hrel
    have HCR := hide hcr
    by_cases hlt : k < n
    · obtain ⟨c, hc⟩ : ∃ c, l[k]? = some c := ⟨_, List.getElem?_eq_getElem (by rw [← HN.out]; exact hlt)⟩
      have hra : wr.ownsRow 0 91 3 (.slice aa n ac) l.length (l.flatMap invCells) := by
        have h1 := HA.out
        rw [HN.out] at h1 ⊢
        exact ownsRow_keep h1 (fun q hq => hcr.block q (h1.lt q hq).2 (fun h => h))
      have hrb : wr.ownsRow 0 91 3 (.slice ba n bc) l.length (l.flatMap invCells) := by
        have h1 := HB.out
        rw [HN.out] at h1 ⊢
        exact ownsRow_keep h1 (fun q hq => hcr.block q (h1.lt q hq).2 (fun h => h))
      obtain ⟨ga, ca, hva, _, _, hca⟩ := invRow_cell hra hc
      obtain ⟨gb, cb, hvb, _, _, hcb⟩ := invRow_cell hrb hc
      have haa : aa = some ⟨ga, 0, none⟩ := by simp at hva; exact hva.1
      have hbb : ba = some ⟨gb, 0, none⟩ := by simp at hvb; exact hvb.1
      subst haa hbb
      have k0 : (0 : Int) ≤ (k : Int) := by omega
      have k1 : (k : Int) < (n : Int) := by omega
      have hd : decide ((k : Int) < (n : Int)) = true := by simpa using k1
      have a0 : wr.cell? ⟨ga, k * 3, none⟩ = some (.int .i64 c.ten) := hca 0 _ rfl
      have a1 : wr.cell? ⟨ga, k * 3 + 1, none⟩ = some (.int .i64 c.ref) := hca 1 _ rfl
      have a2 : wr.cell? ⟨ga, k * 3 + 2, none⟩ = some (.int .i64 c.cents) := hca 2 _ rfl
      have b0 : wr.cell? ⟨gb, k * 3, none⟩ = some (.int .i64 c.ten) := hcb 0 _ rfl
      have b1 : wr.cell? ⟨gb, k * 3 + 1, none⟩ = some (.int .i64 c.ref) := hcb 1 _ rfl
      have b2 : wr.cell? ⟨gb, k * 3 + 2, none⟩ = some (.int .i64 c.cents) := hcb 2 _ rfl
      clear hcr hra hrb hva hvb hca hcb hc
      go_wp2
      go_quiet (fail)
      go_wp2
      go_roundw
      case rel => exact ⟨k + 1, by omega, by go_num, HCR.out.drewN _⟩
      case measure => simp [intOf]; omega
    · have hd : decide ((k : Int) < (n : Int)) = false := by simp; omega
      clear hcr
      go_wp2
      go_ret
      exact ⟨rfl, HCR.out⟩
end Go.Proofs.Ytminceigjejipab
