import Derived.Test.YtminceigjejipaaG7
import Derived.Test.YtminceigjejipaaG8
/-
  A TICK, WITH THE GHOST AND WITH THE BID. Nothing of the program.
-/
namespace Go.Proofs.Ytminceigjejipaa

structure EntOk (m : MkG) : Prop where
  lt : ∀ (i k : Nat) b b', m.bids[i]? = some b → m.bids[k]? = some b' → i < k → b.entry < b'.entry
  in' : ∀ b ∈ m.bids, 0 ≤ b.entry ∧ b.entry < m.log.length
theorem EntOk.uniq {m : MkG} (h : EntOk m) {i k : Nat} {b b' : BidG} (hb : m.bids[i]? = some b) (hb' : m.bids[k]? = some b') (he : b.entry = b'.entry) : i = k := by
  rcases Nat.lt_trichotomy i k with h1 | h1 | h1
  · have := h.lt i k b b' hb hb' h1; omega
  · exact h1
  · have := h.lt k i b' b hb' hb h1; omega

theorem expire_al (e v : Int) (b : BidG) (now : Int) : (al e v b).expire now = al e v (b.expire now) := by
  unfold BidG.expire
  rw [al_state, al_dl, al_len]
  by_cases h : (b.state == 1 && decide (b.job.dl < now + b.job.len)) = true
  · rw [if_pos h, if_pos h]
    exact (al_setS e v b 4).symm
  · rw [if_neg h, if_neg h]
theorem MAl.tickEnd {e v : Int} {G R : MkG} (h : MAl e v G R) (t : Int) : MAl e v (tickEnd t G) (tickEnd t R) := by
  refine ⟨h.c, rfl, h.units, h.susp, h.log, ?_, h.gh, h.rg⟩
  show R.bids.map _ = (G.bids.map _).map _
  rw [h.bids, List.map_map, List.map_map]
  apply List.map_congr_left
  intro b _
  exact expire_al e v b _
theorem need_none (t : Int) : ∀ (l : List Nat) (s : TkS), (l.foldl (tickOne t none) s).1.need = s.1.need
  | [], _ => rfl
  | i :: l, s => by
    have : (tickOne t none s i).1.need = s.1.need := by
      unfold tickOne
      split
      · rfl
      · split
        · simp only
          unfold startM
          split <;> rfl
        · rfl
    exact (need_none t l _).trans this
theorem MAl.ghostI {e v : Int} {G R : MkG} (h : MAl e v G R) (h0 : ∀ b ∈ G.bids, 0 ≤ b.entry) (t : Int) : ghostI R t = none := by
  unfold Go.Proofs.Ytminceigjejipaa.ghostI
  rw [List.findIdx?_eq_none_iff]
  intro x hx
  rw [h.bids, List.mem_map] at hx
  obtain ⟨b, hb, rfl⟩ := hx
  have hne : ((al e v b).entry == R.ghost) = false := by rw [al_entry, h.rg]; have := h0 b hb; simp; omega
  rw [hne, Bool.and_false]
theorem minN_le {N x v : Int} (h : N = 0 ∨ v < N) (hx : x ≤ v) (h1 : 1 ≤ x) : 0 < minN N x ∧ minN N x ≤ v := by
  unfold minN
  split <;> omega
theorem minN_gt {N x v : Int} (h : N = 0 ∨ v < N) (hx : v < x) : minN N x = 0 ∨ v < minN N x := by
  unfold minN
  split <;> omega

/-- a tick of both, as long as the bid has not started -/
theorem tick_phase {e v : Int} {G R : MkG} (h : MAl e v G R) (hok : MkOk G) (hent : EntOk G) (hv : 1 ≤ v) (hN : G.need = 0 ∨ v < G.need) :
    (MAl e v (tickF G) (tickF R) ∧ ((tickF G).need = 0 ∨ v < (tickF G).need)) ∨ ((∃ (i : Nat) (b : BidG), (tickF R).bids[i]? = some b ∧ b.entry = e ∧ b.state = 2) ∧ 0 < (tickF G).need ∧ (tickF G).need ≤ v) := by
  have h0 : ∀ b ∈ G.bids, 0 ≤ b.entry := fun b hb => (hent.in' b hb).1
  unfold tickF
  rw [h.c, h.time]
  by_cases hov : G.c.ticks ≤ G.time
  · rw [if_pos hov, if_pos hov]
    exact .inl ⟨h.logs _ _, hN⟩
  rw [if_neg hov, if_neg hov]
  have hsG := hok.sizes
  have hsR := h.sizes hsG
  have hoG := orderL_is (t := G.time) hsG
  have hoR := orderL_is (m := R) (t := G.time) hsR
  generalize orderL G G.time = l at *
  generalize orderL R G.time = lR at *
  have h1 := h.logs callTick callTick
  have hnE : NotE e (G.logs callTick) l := fun i hi b hb => by
    obtain ⟨b', hb', hc⟩ := (hoG.mem i).1 hi
    rw [show G.bids[i]? = some b from hb] at hb'
    obtain rfl := Option.some.inj hb'
    unfold candB at hc
    rw [Bool.and_eq_true, h.gh] at hc
    simpa using hc.2
  have hfr : Fresh (G.logs callTick) l := fun i hi b hb => by
    obtain ⟨b', hb', hc⟩ := (hoG.mem i).1 hi
    rw [show G.bids[i]? = some b from hb] at hb'
    obtain rfl := Option.some.inj hb'
    unfold candB BidG.openB at hc
    simp only [Bool.and_eq_true] at hc
    have hs : b.state = 1 := by simpa using hc.1.1.1.1
    have := jobIn_true (hok.bid b (List.mem_of_getElem? hb)).job
    exact ⟨by omega, by omega⟩
  have hpw : l.Pairwise (fun i k => i ≠ k) := List.Pairwise.imp (fun {a b} hab => by rintro rfl; rw [aheadI_irrefl] at hab; cases hab) hoG.sorted
  have hR0 : ghostI (R.logs callTick) G.time = none := h1.ghostI h0 G.time
  unfold tickM
  simp only [h.time]
  rw [hR0]
  cases hgi : ghostI (G.logs callTick) G.time with
  | none =>
    have hno : ∀ b ∈ G.bids, b.entry = e → b.openB G G.time = false := fun b hb hbe => by
      unfold ghostI at hgi
      rw [List.findIdx?_eq_none_iff] at hgi
      have := hgi b hb
      rw [show (G.logs callTick).ghost = e from h.gh] at this
      have he2 : (b.entry == e) = true := by simpa using hbe
      rw [he2, Bool.and_true] at this
      exact this
    have hlR : lR = l := hoR.unique (order_same h h0 hno hoG)
    rw [hlR]
    refine .inl ⟨(MAl.fold G.time none l [] [] h1 hnE).tickEnd _, ?_⟩
    show (l.foldl (tickOne G.time none) (G.logs callTick, [])).1.need = 0 ∨ v < (l.foldl (tickOne G.time none) (G.logs callTick, [])).1.need
    rw [need_none]
    exact hN
  | some gi =>
    obtain ⟨bg, hbg, hbo, hbe⟩ : ∃ bg, G.bids[gi]? = some bg ∧ bg.openB G G.time = true ∧ bg.entry = e := by
      unfold ghostI at hgi
      obtain ⟨a1, a2, _⟩ := List.findIdx?_eq_some_iff_getElem.1 hgi
      simp only [Bool.and_eq_true] at a2
      refine ⟨_, List.getElem?_eq_getElem a1, a2.1, ?_⟩
      have := a2.2
      rw [show (G.logs callTick).ghost = e from h.gh] at this
      simpa using this
    obtain ⟨l1, l2, hl, hoI, hA1, hA2⟩ := order_insert h hsG h0 hbg hbe hbo (fun i b hb hbe' => hent.uniq hb hbg (by rw [hbe', hbe])) hoG
    have hlR : lR = l1 ++ gi :: l2 := hoR.unique hoI
    have hgl : gi ∉ l := fun hx => hnE gi hx bg hbg hbe
    rw [hl] at hnE hfr hpw hgl
    rw [hlR, hl]
    rw [List.pairwise_append] at hpw
    have hgl1 : gi ∉ l1 := fun hx => hgl (List.mem_append_left _ hx)
    have hgl2 : gi ∉ l2 := fun hx => hgl (List.mem_append_right _ hx)
    unfold tickFold
    rw [List.foldl_append, List.foldl_append, List.foldl_cons]
    have hM1 := MAl.fold G.time (some gi) l1 [] [] h1 (fun i hi => hnE i (List.mem_append_left _ hi))
    have hal1 := AlikeM.fold G.time (some gi) l1 (G.logs callTick, [])
    have hg1 := ghost_fold (t := G.time) l1 (G.logs callTick) [] (show (G.logs callTick).bids[gi]? = some bg from hbg) hgl1 hpw.1 (fun i hi => hfr i (List.mem_append_left _ hi))
    generalize hs1 : l1.foldl (tickOne G.time (some gi)) (G.logs callTick, []) = s1 at *
    generalize hr1 : l1.foldl (tickOne G.time none) (R.logs callTick, []) = r1 at *
    have hbs : s1.1.bids[gi]? = some bg := (hal1.bid gi hgl1).trans hbg
    have hbr : r1.1.bids[gi]? = some (al e v bg) := by rw [hM1.get, hbs]; rfl
    have hfr2 : Fresh s1.1 l2 := fun i hi b hb => by
      have := hal1.bid i (fun hx => (hpw.2.2 i hx i hi) rfl)
      rw [this] at hb
      exact hfr i (List.mem_append_right _ hi) b hb
    have hnE2 : NotE e s1.1 l2 := fun i hi b hb => by
      have := hal1.bid i (fun hx => (hpw.2.2 i hx i hi) rfl)
      rw [this] at hb
      exact hnE i (List.mem_append_right _ hi) b hb
    have hc1 : s1.1.c = G.c := hal1.c
    have hg2 := ghost_fold (t := G.time) l2 s1.1 s1.2 hbs hgl2 hpw.2.1 hfr2
    have hal2 := AlikeM.fold G.time (some gi) l2 s1
    have hjb := hok.bid bg (List.mem_of_getElem? hbg)
    have hsz : 0 < sizeJ bg.job := hsG bg (List.mem_of_getElem? hbg)
    have e1 : (s1.1, s1.2) = s1 := rfl
    rw [e1] at hg2
    -- who is ahead of the bid, in terms of the least value
    have ah2 : ∀ q ∈ l2, ∀ b, s1.1.bids[q]? = some b → lq gi q bg.job b.job ≤ v := fun q hq b hb => by
      have hq0 : G.bids[q]? = some b := by have := hal1.bid q (fun hx => (hpw.2.2 q hx q hq) rfl); rw [this] at hb; exact hb
      have := hA2 q hq
      unfold aheadI at this
      rw [h.get, h.get, hbg, hq0] at this
      simp only [Option.map_some, al_eq hbe, al_ne (hnE q (List.mem_append_right _ hq) b hq0)] at this
      exact (least_iff hsz (hsG b (List.mem_of_getElem? hq0)) (by have := jobIn_true (hok.bid b (List.mem_of_getElem? hq0)).job; omega)).1 this
    have ah1 : ∀ q ∈ l1, ∀ b, G.bids[q]? = some b → v < lq gi q bg.job b.job := fun q hq b hq0 => by
      have := hA1 q hq
      have h2 := aheadI_asymm this
      unfold aheadI at h2
      rw [h.get, h.get, hbg, hq0] at h2
      simp only [Option.map_some, al_eq hbe, al_ne (hnE q (List.mem_append_left _ hq) b hq0)] at h2
      rcases Int.lt_or_le v (lq gi q bg.job b.job) with h3 | h3
      · exact h3
      · have := (least_iff (gi := gi) (k := q) (v := v) hsz (hsG b (List.mem_of_getElem? hq0)) (by have := jobIn_true (hok.bid b (List.mem_of_getElem? hq0)).job; omega)).2 h3
        unfold setV at h2
        rw [this] at h2
        cases h2
    -- the last word on the need
    have hend : ∀ m : MkG, m.bids[gi]? = some bg → m.c = G.c → (wantEnd G.time (some gi) m).need = if fitsB m bg G.time = true then minN m.need (wq G.c.res bg.job 0) else m.need := fun m hm hc => by
      unfold wantEnd
      simp only [roomB, hm]
      by_cases hf : fitsB m bg G.time = true
      · rw [if_pos hf, if_pos hf, want_need, wantV_eq hm, hc]
      · rw [if_neg hf, if_neg hf]
    have hbe2 : (l2.foldl (tickOne G.time (some gi)) s1).1.bids[gi]? = some bg := (hal2.bid gi hgl2).trans hbs
    have hce : (l2.foldl (tickOne G.time (some gi)) s1).1.c = G.c := hal2.c.trans hc1
    have hneed := hend _ hbe2 hce
    have hwin : tickOne G.time none r1 gi = if fitsB s1.1 bg G.time = true ∧ G.c.res * sizeJ bg.job ≤ v then (startM r1.1 gi G.time, r1.2 ++ [((al e v bg).ten, (al e v bg).ref)]) else r1 := by
      unfold tickOne
      rw [hbr]
      simp only
      rw [hM1.fits, hM1.c, hc1]
      unfold BidG.winB
      rw [al_size, al_eq hbe]
      show (if (fitsB s1.1 bg G.time && decide (G.c.res * sizeJ bg.job ≤ v)) = true then _ else _) = _
      by_cases hw : fitsB s1.1 bg G.time = true ∧ G.c.res * sizeJ bg.job ≤ v
      · rw [if_pos hw, if_pos (by simp [hw])]
      · rw [if_neg hw, if_neg (by simp only [Bool.and_eq_true, decide_eq_true_eq]; exact hw)]
    rw [hwin]
    by_cases hw : fitsB s1.1 bg G.time = true ∧ G.c.res * sizeJ bg.job ≤ v
    · right
      rw [if_pos hw]
      obtain ⟨hw1, hw2⟩ := hw
      have hn1 : s1.1.need = G.need := by
        rcases hg1 with ⟨_, a⟩ | ⟨_, a, _⟩
        · exact a
        · rw [hw1] at a; cases a
      refine ⟨?_, ?_⟩
      · have hal3 := AlikeM.fold G.time none l2 (startM r1.1 gi G.time, r1.2 ++ [((al e v bg).ten, (al e v bg).ref)])
        have hst : (startM r1.1 gi G.time).bids[gi]? = some { al e v bg with state := 2, start := G.time } := by
          rw [startM_set hbr]
          simp [(List.getElem?_eq_some_iff.1 hbr).1]
        have hfin := (hal3.bid gi hgl2).trans hst
        refine ⟨gi, { al e v bg with state := 2, start := G.time }, ?_, ?_, rfl⟩
        · show ((l2.foldl (tickOne G.time none) (startM r1.1 gi G.time, r1.2 ++ [((al e v bg).ten, (al e v bg).ref)])).1.bids.map fun b => b.expire (G.time + 1))[gi]? = _
          rw [List.getElem?_map, hfin]
          rfl
        · show (al e v bg).entry = e
          rw [al_entry]
          exact hbe
      · show 0 < (wantEnd G.time (some gi) (l2.foldl (tickOne G.time (some gi)) s1).1).need ∧ (wantEnd G.time (some gi) (l2.foldl (tickOne G.time (some gi)) s1).1).need ≤ v
        rw [hneed]
        rcases hg2 with ⟨a1, a2⟩ | ⟨_, a2, q, hq, bq, hbq, a3⟩
        · rw [if_pos (by rw [a1]; exact hw1), a2, hn1]
          exact minN_le hN (wq_le.2 ⟨by omega, hw2, hv⟩) (wq_pos _ _ _)
        · rw [if_neg (by rw [a2]; simp), a3, hn1, hc1]
          exact minN_le hN (wq_le.2 ⟨ah2 q hq bq hbq, hw2, hv⟩) (wq_pos _ _ _)
    · left
      rw [if_neg hw]
      have hM2 := MAl.fold G.time (some gi) l2 s1.2 r1.2 hM1 hnE2
      refine ⟨(hM2.wantEnd G.time (some gi)).tickEnd _, ?_⟩
      show (wantEnd G.time (some gi) (l2.foldl (tickOne G.time (some gi)) s1).1).need = 0 ∨ v < (wantEnd G.time (some gi) (l2.foldl (tickOne G.time (some gi)) s1).1).need
      rw [hneed]
      cases hf : fitsB s1.1 bg G.time
      · -- no room any more
        rcases hg2 with ⟨a1, a2⟩ | ⟨a1, _⟩
        · rw [if_neg (by rw [a1, hf]; simp), a2]
          rcases hg1 with ⟨_, b2⟩ | ⟨_, _, q, hq, bq, hbq, b3⟩
          · rw [b2]; exact hN
          · rw [b3]
            refine minN_gt hN ?_
            have h3 := ah1 q hq bq hbq
            rcases Int.lt_or_le v (wq G.c.res bg.job (lq gi q bg.job bq.job)) with h4 | h4
            · exact h4
            · have := (wq_le.1 h4).1; omega
        · rw [hf] at a1; cases a1
      · -- room, but too low a value
        have hlow : v < G.c.res * sizeJ bg.job := by
          rcases Int.lt_or_le v (G.c.res * sizeJ bg.job) with h4 | h4
          · exact h4
          · exact absurd ⟨hf, h4⟩ hw
        have hwv : ∀ x, v < wq G.c.res bg.job x := fun x => by
          rcases Int.lt_or_le v (wq G.c.res bg.job x) with h4 | h4
          · exact h4
          · have := (wq_le.1 h4).2.1; omega
        have hn1 : s1.1.need = G.need := by
          rcases hg1 with ⟨_, a⟩ | ⟨_, a, _⟩
          · exact a
          · rw [hf] at a; cases a
        rcases hg2 with ⟨a1, a2⟩ | ⟨_, a2, q, hq, bq, hbq, a3⟩
        · rw [if_pos (by rw [a1]; exact hf), a2, hn1]
          exact minN_gt hN (hwv _)
        · rw [if_neg (by rw [a2]; simp), a3, hn1, hc1]
          exact minN_gt hN (hwv _)
end Go.Proofs.Ytminceigjejipaa

/-
  THE THRESHOLD: in the replay with the value v the bid wins just if the ghost's need is at most v. Nothing of the program.
-/
namespace Go.Proofs.Ytminceigjejipaa

/-! ### what has won stays so; the need goes down -/
def WonE (e : Int) (m : MkG) : Prop := ∃ (i : Nat) (b : BidG), m.bids[i]? = some b ∧ b.entry = e ∧ b.state = 2
theorem won_start {e : Int} {m : MkG} (h : WonE e m) (i : Nat) (t : Int) : WonE e (startM m i t) := by
  obtain ⟨k, b, hb, he, hs⟩ := h
  cases hi : m.bids[i]? with
  | none =>
    refine ⟨k, b, ?_, he, hs⟩
    unfold startM
    rw [hi]
    exact hb
  | some b' =>
    rw [startM_set hi]
    by_cases e1 : i = k
    · subst e1
      rw [hi] at hb
      obtain rfl := Option.some.inj hb
      exact ⟨i, { b' with state := 2, start := t }, by simp [(List.getElem?_eq_some_iff.1 hi).1], he, rfl⟩
    · exact ⟨k, b, by simp [e1, hb], he, hs⟩
theorem won_want {e : Int} {m : MkG} (h : WonE e m) (g : Nat) (x : Int) : WonE e (wantM m g x) := by
  unfold WonE
  rw [ent_want]
  exact h
theorem won_one {e : Int} {s : TkS} (h : WonE e s.1) (t : Int) (g : Option Nat) (i : Nat) : WonE e (tickOne t g s i).1 := by
  unfold tickOne
  split
  · exact h
  · split
    · cases g with
      | none => exact won_start h i t
      | some gi =>
        simp only
        split
        · exact won_want (won_start h i t) _ _
        · exact won_start h i t
    · exact h
theorem won_fold {e : Int} (t : Int) (g : Option Nat) : ∀ (l : List Nat) (s : TkS), WonE e s.1 → WonE e (l.foldl (tickOne t g) s).1
  | [], _, h => h
  | i :: l, _, h => won_fold t g l _ (won_one h t g i)
theorem won_end {e : Int} {m : MkG} (h : WonE e m) (t : Int) (g : Option Nat) : WonE e (wantEnd t g m) := by
  unfold wantEnd
  cases g with
  | none => exact h
  | some gi =>
    simp only
    split
    · exact won_want h _ _
    · exact h
theorem won_tick {e : Int} {m : MkG} (h : WonE e m) : WonE e (tickF m) := by
  unfold tickF
  split
  · exact h
  · have h1 := won_fold m.time (ghostI (m.logs callTick) m.time) (orderL m m.time) (m.logs callTick, []) h
    have h2 := won_end h1 m.time (ghostI (m.logs callTick) m.time)
    obtain ⟨k, b, hb, he, hs⟩ := h2
    refine ⟨k, b, ?_, he, hs⟩
    show (List.map _ _)[k]? = _
    rw [List.getElem?_map]
    have : b.expire (m.time + 1) = b := by unfold BidG.expire; rw [hs]; rfl
    unfold tickFold
    rw [hb]
    simp only [Option.map_some, this]
theorem won_again {e : Int} {m : MkG} (h : WonE e m) (c : CallG) : WonE e (againM m c) := by
  unfold againM
  split
  · exact h
  · split
    · unfold submitM
      simp only
      split
      · obtain ⟨k, b, hb, he, hs⟩ := h
        exact ⟨k, b, by show (m.bids ++ [newBid m c.a c.b c.job])[k]? = some b; rw [List.getElem?_append_left (List.getElem?_eq_some_iff.1 hb).1]; exact hb, he, hs⟩
      · exact h
    · split
      · unfold cancelM
        simp only
        split
        · rename_i hE
          obtain ⟨k, b, hb, he, hs⟩ := h
          show ∃ (i : Nat) (x : BidG), (setState m.bids (findZ m.bids c.a c.b).toNat 3)[i]? = some x ∧ x.entry = e ∧ x.state = 2
          unfold setState
          cases hi : m.bids[(findZ m.bids c.a c.b).toNat]? with
          | none => exact ⟨k, b, hb, he, hs⟩
          | some b' =>
            simp only
            have hst : stateAt m (findZ m.bids c.a c.b) = 1 := by
              unfold cancelE at hE
              split at hE
              · cases hE
              · split at hE
                · cases hE
                · split at hE
                  · assumption
                  · cases hE
            have hs' : b'.state = 1 := by
              unfold stateAt at hst
              rw [show m.bids[(findZ m.bids c.a c.b).toNat]? = some b' from hi] at hst
              simpa using hst
            refine ⟨k, b, ?_, he, hs⟩
            have hne : (findZ m.bids c.a c.b).toNat ≠ k := fun hx => by
              rw [hx] at hi
              rw [show m.bids[k]? = some b' from hi] at hb
              obtain rfl := Option.some.inj hb
              omega
            rw [List.getElem?_set, if_neg hne]
            exact hb
        · exact h
      · split
        · unfold capM
          split
          · exact h
          · split <;> exact h
        · split
          · unfold suspendM
            simp only
            split <;> exact h
          · split
            · exact won_tick h
            · exact h

theorem wantV_pos (m : MkG) (g : Nat) (x : Int) : 1 ≤ wantV m g x := by
  unfold wantV
  simp only
  split <;> split <;> omega
def NeedLe (m m' : MkG) : Prop := 0 < m.need → 0 < m'.need ∧ m'.need ≤ m.need
theorem NeedLe.trans {a b c : MkG} (h : NeedLe a b) (h' : NeedLe b c) : NeedLe a c := fun hx => by
  have h1 := h hx
  have h2 := h' h1.1
  omega
theorem NeedLe.same {m m' : MkG} (h : m'.need = m.need) : NeedLe m m' := fun hx => by omega
theorem need_want (m : MkG) (g : Nat) (x : Int) : NeedLe m (wantM m g x) := fun hx => by
  have := wantV_pos m g x
  rw [want_need]
  unfold minN
  split <;> omega
theorem need_start (m : MkG) (i : Nat) (t : Int) : (startM m i t).need = m.need := by
  unfold startM
  split <;> rfl
theorem need_one (t : Int) (g : Option Nat) (s : TkS) (i : Nat) : NeedLe s.1 (tickOne t g s i).1 := by
  unfold tickOne
  split
  · exact NeedLe.same rfl
  · split
    · cases g with
      | none => exact NeedLe.same (need_start _ _ _)
      | some gi =>
        simp only
        split
        · exact (NeedLe.same (need_start _ _ _)).trans (need_want _ _ _)
        · exact NeedLe.same (need_start _ _ _)
    · exact NeedLe.same rfl
theorem need_fold (t : Int) (g : Option Nat) : ∀ (l : List Nat) (s : TkS), NeedLe s.1 (l.foldl (tickOne t g) s).1
  | [], _ => NeedLe.same rfl
  | i :: l, s => (need_one t g s i).trans (need_fold t g l _)
theorem need_tick (m : MkG) : NeedLe m (tickF m) := by
  unfold tickF
  split
  · exact NeedLe.same rfl
  · refine NeedLe.trans (b := ((orderL m m.time).foldl (tickOne m.time (ghostI (m.logs callTick) m.time)) (m.logs callTick, [])).1) (need_fold _ _ _ (m.logs callTick, [])) ?_
    show NeedLe _ (wantEnd m.time (ghostI (m.logs callTick) m.time) (tickFold m.time (ghostI (m.logs callTick) m.time) (m.logs callTick) (orderL m m.time)).1)
    unfold tickFold wantEnd
    cases ghostI (m.logs callTick) m.time with
    | none => exact NeedLe.same rfl
    | some gi =>
      simp only
      split
      · exact need_want _ _ _
      · exact NeedLe.same rfl
theorem need_again (m : MkG) (c : CallG) : NeedLe m (againM m c) := by
  unfold againM
  split
  · exact NeedLe.same rfl
  · split
    · unfold submitM
      simp only
      split <;> exact NeedLe.same rfl
    · split
      · unfold cancelM
        simp only
        split <;> exact NeedLe.same rfl
      · split
        · unfold capM
          split
          · exact NeedLe.same rfl
          · split <;> exact NeedLe.same rfl
        · split
          · unfold suspendM
            simp only
            split <;> exact NeedLe.same rfl
          · split
            · exact need_tick m
            · exact NeedLe.same rfl

/-! ### entries -/
theorem EntOk.of_map {m m' : MkG} (h : EntOk m) (hm : ∀ k : Nat, (m'.bids[k]?).map BidG.entry = (m.bids[k]?).map BidG.entry) (hl : m.log.length ≤ m'.log.length) : EntOk m' := by
  have get : ∀ (k : Nat) b, m'.bids[k]? = some b → ∃ b', m.bids[k]? = some b' ∧ b'.entry = b.entry := fun k b hb => by
    have := hm k
    rw [hb] at this
    cases hk : m.bids[k]? with
    | none => rw [hk] at this; cases this
    | some b' =>
      rw [hk] at this
      simp only [Option.map_some, Option.some.injEq] at this
      exact ⟨b', rfl, this.symm⟩
  refine ⟨fun i k b b' hb hb' hik => ?_, fun b hb => ?_⟩
  · obtain ⟨x, hx, ex⟩ := get i b hb
    obtain ⟨y, hy, ey⟩ := get k b' hb'
    have := h.lt i k x y hx hy hik
    omega
  · obtain ⟨i, hi⟩ := List.getElem?_of_mem hb
    obtain ⟨x, hx, ex⟩ := get i b hi
    have := h.in' x (List.mem_of_getElem? hx)
    omega
theorem ent_fold (t : Int) (g : Option Nat) (k : Nat) : ∀ (l : List Nat) (s : TkS), ((l.foldl (tickOne t g) s).1.bids[k]?).map BidG.entry = (s.1.bids[k]?).map BidG.entry
  | [], _ => rfl
  | i :: l, s => (ent_fold t g k l _).trans (ent_one t g s i k)
theorem wantEnd_bids (t : Int) (g : Option Nat) (m : MkG) : (wantEnd t g m).bids = m.bids ∧ (wantEnd t g m).log = m.log := by
  unfold wantEnd
  cases g with
  | none => exact ⟨rfl, rfl⟩
  | some gi =>
    simp only
    split
    · exact ⟨ent_want _ _ _, (AlikeM.want _ _ _).log⟩
    · exact ⟨rfl, rfl⟩
theorem tickF_log (m : MkG) : (tickF m).log.length = m.log.length + 1 := by
  unfold tickF
  split
  · simp [MkG.logs]
  · show (wantEnd m.time _ (tickFold m.time _ _ _).1).log.length = _
    rw [(wantEnd_bids _ _ _).2]
    unfold tickFold
    rw [(AlikeM.fold m.time (ghostI (m.logs callTick) m.time) (orderL m m.time) (m.logs callTick, [])).log]
    simp [MkG.logs]
theorem tickF_ent (m : MkG) (k : Nat) : ((tickF m).bids[k]?).map BidG.entry = (m.bids[k]?).map BidG.entry := by
  unfold tickF
  split
  · rfl
  · show ((List.map (fun b => b.expire (m.time + 1)) (wantEnd m.time _ (tickFold m.time _ _ _).1).bids)[k]?).map BidG.entry = _
    rw [(wantEnd_bids _ _ _).1, List.getElem?_map, Option.map_map]
    have : (BidG.entry ∘ fun b => b.expire (m.time + 1)) = BidG.entry := by
      funext b
      simp only [Function.comp, BidG.expire]
      split <;> rfl
    rw [this]
    unfold tickFold
    exact ent_fold m.time (ghostI (m.logs callTick) m.time) k (orderL m m.time) (m.logs callTick, [])
theorem again_log {m : MkG} (hl : m.log.length < 300) (c : CallG) : (againM m c).log.length = m.log.length + 1 := by
  unfold againM
  rw [if_neg (by omega)]
  split
  · unfold submitM
    simp only
    split <;> simp [MkG.logs]
  · split
    · unfold cancelM
      simp only
      split <;> simp [MkG.logs]
    · split
      · unfold capM
        split
        · simp [MkG.logs]
        · split <;> simp [MkG.logs]
      · split
        · unfold suspendM
          simp only
          split <;> simp [MkG.logs]
        · split
          · exact tickF_log m
          · simp [MkG.logs]
theorem EntOk.again {m : MkG} (h : EntOk m) (hl : m.log.length < 300) (c : CallG) : EntOk (againM m c) := by
  have hlog := again_log hl c
  by_cases hsub : c.kind = 1 ∧ submitE m c.a c.b c.job = 0
  · have e1 : againM m c = { m.logs (callSubmit c.a c.b c.job) with bids := m.bids ++ [newBid m c.a c.b c.job] } := by
      unfold againM
      rw [if_neg (by omega), if_pos hsub.1]
      unfold submitM
      simp only
      rw [if_pos hsub.2]
      rfl
    rw [e1] at hlog ⊢
    have get : ∀ (i : Nat) b, (m.bids ++ [newBid m c.a c.b c.job])[i]? = some b → (m.bids[i]? = some b) ∨ (i = m.bids.length ∧ b = newBid m c.a c.b c.job) := fun i b hb => by
      rw [List.getElem?_append] at hb
      by_cases e : i < m.bids.length
      · rw [if_pos e] at hb
        exact .inl hb
      · rw [if_neg e] at hb
        by_cases e2 : i = m.bids.length
        · subst e2
          simp at hb
          exact .inr ⟨rfl, hb.symm⟩
        · rw [List.getElem?_eq_none (by simp; omega)] at hb
          cases hb
    refine ⟨fun i k b b' hb hb' hik => ?_, fun b hb => ?_⟩
    · rcases get i b hb with hb | ⟨hi, rfl⟩
      · rcases get k b' hb' with hb' | ⟨hk, rfl⟩
        · exact h.lt i k b b' hb hb' hik
        · have := h.in' b (List.mem_of_getElem? hb)
          exact this.2
      · rcases get k b' hb' with hb' | ⟨hk, rfl⟩
        · have := (List.getElem?_eq_some_iff.1 hb').1
          omega
        · omega
    · rcases List.mem_append.1 hb with hb | hb
      · have := h.in' b hb
        exact ⟨this.1, by rw [hlog]; have := this.2; omega⟩
      · simp at hb
        subst hb
        exact ⟨by simp [newBid], by rw [hlog]; simp [newBid]; omega⟩
  · refine h.of_map (fun k => ?_) (by omega)
    unfold againM
    rw [if_neg (by omega)]
    split
    · rename_i hk
      unfold submitM
      simp only
      rw [if_neg (fun hx => hsub ⟨hk, hx⟩)]
      rfl
    · split
      · unfold cancelM
        simp only
        split
        · show ((setState m.bids _ 3)[k]?).map BidG.entry = _
          unfold setState
          split
          · rename_i b hb
            rw [List.getElem?_set]
            by_cases e : (findZ m.bids c.a c.b).toNat = k
            · rw [if_pos e, if_pos (by have := (List.getElem?_eq_some_iff.1 hb).1; omega)]
              rw [e] at hb
              rw [hb]
              rfl
            · rw [if_neg e]
          · rfl
        · rfl
      · split
        · unfold capM
          split
          · rfl
          · split <;> rfl
        · split
          · unfold suspendM
            simp only
            split <;> rfl
          · split
            · exact tickF_ent m k
            · rfl
end Go.Proofs.Ytminceigjejipaa

/-
  THE THRESHOLD. Nothing of the program.
-/
namespace Go.Proofs.Ytminceigjejipaa

/-- the ghost's bid never wins -/
def NotWon (e : Int) (m : MkG) : Prop := ∀ b ∈ m.bids, b.entry = e → b.state ≠ 2
theorem notwon_tick {e : Int} {m : MkG} (h : NotWon e m) (hok : MkOk m) (hg : m.ghost = e) : NotWon e (tickF m) := by
  unfold tickF
  split
  · exact h
  · intro b hb hbe
    have hord := orderL_is (t := m.time) hok.sizes
    generalize orderL m m.time = l at *
    have hb' : b ∈ (wantEnd m.time (ghostI (m.logs callTick) m.time) (tickFold m.time (ghostI (m.logs callTick) m.time) (m.logs callTick) l).1).bids.map fun b => b.expire (m.time + 1) := hb
    rw [(wantEnd_bids _ _ _).1, List.mem_map] at hb'
    obtain ⟨x, hx, rfl⟩ := hb'
    have hxe : x.entry = e := by
      have : (x.expire (m.time + 1)).entry = x.entry := by unfold BidG.expire; split <;> rfl
      rw [← this]
      exact hbe
    obtain ⟨k, hk⟩ := List.getElem?_of_mem hx
    have hal := AlikeM.fold m.time (ghostI (m.logs callTick) m.time) l (m.logs callTick, [])
    have hent := ent_fold m.time (ghostI (m.logs callTick) m.time) k l (m.logs callTick, [])
    have hk' : (l.foldl (tickOne m.time (ghostI (m.logs callTick) m.time)) (m.logs callTick, [])).1.bids[k]? = some x := hk
    rw [hk'] at hent
    have hkl : k ∉ l := fun hx' => by
      obtain ⟨b0, hb0, hc⟩ := (hord.mem k).1 hx'
      rw [show ((m.logs callTick, ([] : List (Int × Int))).1.bids[k]?) = some b0 from hb0] at hent
      simp only [Option.map_some, Option.some.injEq] at hent
      unfold candB at hc
      rw [Bool.and_eq_true, hg] at hc
      have h2 : b0.entry ≠ e := by simpa using hc.2
      exact h2 (by rw [← hent]; exact hxe)
    have := hal.bid k hkl
    rw [hk'] at this
    have hst := h x (List.mem_of_getElem? this.symm) hxe
    unfold BidG.expire
    split
    · simp
    · exact hst

structure Phi (e v : Int) (G R : MkG) : Prop where
  ent : EntOk G
  ok : MkOk G
  st : (MAl e v G R ∧ NotWon e G ∧ (G.need = 0 ∨ v < G.need)) ∨ (WonE e R ∧ 0 < G.need ∧ G.need ≤ v)

theorem againM_in {m : MkG} (hl : m.log.length < 300) (c : CallG) : againM m c = if c.kind = 1 then submitM m c.a c.b c.job
  else if c.kind = 2 then cancelM m c.a c.b
  else if c.kind = 3 then capM m c.a c.b c.c
  else if c.kind = 4 then suspendM m c.a c.on
  else if c.kind = 5 then tickF m
  else m.logs c := by
  unfold againM
  rw [if_neg (by omega)]
/-- the call at place n -/
def callV (e n : Nat) (v : Int) (x : CallG) : CallG := if n = e then withV x v else x
theorem Phi.step {e : Nat} {v : Int} {G R : MkG} (h : Phi e v G R) (hv1 : 1 ≤ v) (hv2 : v ≤ 1048576) {n : Nat} (hn : G.log.length = n) (hl : n < 300) {x : CallG} (hx : n = e → x.kind = 1 ∧ 1 ≤ x.job.val ∧ x.job.val ≤ 1048576) : Phi e v (againM G x) (againM R (callV e n v x)) := by
  refine ⟨h.ent.again (by omega) x, h.ok.again x, ?_⟩
  rcases h.st with ⟨hM, hnw, hN⟩ | ⟨hw, hn1, hn2⟩
  rotate_left
  · have := need_again G x hn1
    exact .inr ⟨won_again hw _, this.1, by omega⟩
  have hlR : R.log.length = n := by rw [hM.log]; exact hn
  have hk : (callV e n v x).kind = x.kind := by unfold callV; split <;> rfl
  have ha : (callV e n v x).a = x.a := by unfold callV; split <;> rfl
  have hb : (callV e n v x).b = x.b := by unfold callV; split <;> rfl
  have hc : (callV e n v x).c = x.c := by unfold callV; split <;> rfl
  have ho : (callV e n v x).on = x.on := by unfold callV; split <;> rfl
  rw [againM_in (m := G) (by omega), againM_in (m := R) (by omega), hk, ha, hb, hc, ho]
  by_cases k1 : x.kind = 1
  · rw [if_pos k1, if_pos k1]
    left
    refine ⟨hM.submit x.a x.b x.job _ ?_, ?_, ?_⟩
    · rw [hn]
      unfold callV
      by_cases e1 : n = e
      · obtain ⟨_, h2, h3⟩ := hx e1
        rw [if_pos e1]
        exact .inr ⟨by rw [e1], rfl, hv1, hv2, h2, h3⟩
      · rw [if_neg e1]
        exact .inl ⟨by omega, rfl⟩
    · unfold submitM
      simp only
      split
      · intro b hb hbe
        rcases List.mem_append.1 hb with hb | hb
        · exact hnw b hb hbe
        · simp at hb
          subst hb
          simp [newBid]
      · exact hnw
    · unfold submitM
      simp only
      split <;> exact hN
  rw [if_neg k1, if_neg k1]
  have hne : n ≠ e := fun e1 => k1 (hx e1).1
  by_cases k2 : x.kind = 2
  · rw [if_pos k2, if_pos k2]
    left
    refine ⟨hM.cancel x.a x.b, ?_, ?_⟩
    · unfold cancelM
      simp only
      split
      · intro b hb hbe
        have hb' : b ∈ setState G.bids (findZ G.bids x.a x.b).toNat 3 := hb
        unfold setState at hb'
        split at hb'
        · rcases List.mem_or_eq_of_mem_set hb' with hb2 | rfl
          · exact hnw b hb2 hbe
          · simp
        · exact hnw b hb' hbe
      · exact hnw
    · unfold cancelM
      simp only
      split <;> exact hN
  rw [if_neg k2, if_neg k2]
  by_cases k3 : x.kind = 3
  · rw [if_pos k3, if_pos k3]
    left
    refine ⟨hM.cap x.a x.b x.c, ?_, ?_⟩
    · unfold capM
      split
      · exact hnw
      · split <;> exact hnw
    · unfold capM
      split
      · exact hN
      · split <;> exact hN
  rw [if_neg k3, if_neg k3]
  by_cases k4 : x.kind = 4
  · rw [if_pos k4, if_pos k4]
    left
    refine ⟨hM.suspend x.a x.on, ?_, ?_⟩
    · unfold suspendM
      simp only
      split <;> exact hnw
    · unfold suspendM
      simp only
      split <;> exact hN
  rw [if_neg k4, if_neg k4]
  by_cases k5 : x.kind = 5
  · rw [if_pos k5, if_pos k5]
    rcases tick_phase hM h.ok h.ent hv1 hN with ⟨h1, h2⟩ | h1
    · exact .inl ⟨h1, notwon_tick hnw h.ok hM.gh, h2⟩
    · exact .inr h1
  · rw [if_neg k5, if_neg k5]
    exact .inl ⟨hM.logs _ _, hnw, hN⟩

def mapFrom (e : Nat) (v : Int) : Nat → List CallG → List CallG
  | _, [] => []
  | n, x :: l => callV e n v x :: mapFrom e v (n + 1) l
theorem mapFrom_eq (e : Nat) (v : Int) : ∀ (l : List CallG) (n : Nat), l.mapIdx (fun i x => if i + n = e then withV x v else x) = mapFrom e v n l
  | [], _ => rfl
  | x :: l, n => by
    rw [List.mapIdx_cons, mapFrom]
    congr 1
    · simp [callV]
    · rw [← mapFrom_eq e v l (n + 1)]
      congr 1
      funext i x
      rw [show i + 1 + n = i + (n + 1) by omega]

theorem phi_fold {e : Nat} {v : Int} (hv1 : 1 ≤ v) (hv2 : v ≤ 1048576) : ∀ (l : List CallG) (n : Nat) {G R : MkG}, Phi e v G R → G.log.length = n → n + l.length ≤ 300 → (∀ (i : Nat) x, l[i]? = some x → n + i = e → x.kind = 1 ∧ 1 ≤ x.job.val ∧ x.job.val ≤ 1048576) → Phi e v (l.foldl againM G) ((mapFrom e v n l).foldl againM R)
  | [], _, _, _, h, _, _, _ => h
  | x :: l, n, G, R, h, hn, hl, hx => by
    simp only [List.length_cons] at hl
    have h1 := h.step hv1 hv2 hn (by omega) (x := x) (fun e1 => hx 0 x rfl (by omega))
    have hlog := again_log (m := G) (by omega) x
    simp only [List.foldl_cons, mapFrom]
    exact phi_fold hv1 hv2 l (n + 1) h1 (by omega) (by omega) (fun i y hy e1 => hx (i + 1) y (by simpa using hy) (by omega))

/-- THE THRESHOLD: in the replay with the value v the bid of entry e wins just if what its ghost needs is at most v -/
theorem replay_threshold {c : CfgG} (hc : cfgOk c = true) {e : Nat} {v : Int} (hv1 : 1 ≤ v) (hv2 : v ≤ 1048576) {log : List CallG} (hlen : log.length ≤ 300) (hcall : ∀ x, log[e]? = some x → x.kind = 1 ∧ 1 ≤ x.job.val ∧ x.job.val ≤ 1048576) :
    WonE e (replayV c e v log) ↔ (0 < (replayG c e log).need ∧ (replayG c e log).need ≤ v) := by
  have h0 : Phi e v (ghostOpen c e) (openM c) := by
    refine ⟨⟨fun i k b b' hb => by simp [ghostOpen, openM] at hb, fun b hb => by simp [ghostOpen, openM] at hb⟩, MkOk.ghostOpen hc e, .inl ⟨⟨rfl, rfl, rfl, rfl, rfl, rfl, rfl, rfl⟩, fun b hb => by simp [ghostOpen, openM] at hb, .inl rfl⟩⟩
  have h1 := phi_fold hv1 hv2 log 0 h0 rfl (by omega) (fun i x hx e1 => hcall x (by rw [← e1, Nat.zero_add]; exact hx))
  have e1 : replayV c e v log = (mapFrom e v 0 log).foldl againM (openM c) := by
    unfold replayV
    rw [← mapFrom_eq e v log 0]
    rfl
  rw [e1]
  unfold replayG
  rcases h1.st with ⟨hM, hnw, hN⟩ | ⟨hw, hn1, hn2⟩
  · constructor
    · rintro ⟨i, b, hb, hbe, hbs⟩
      rw [hM.get] at hb
      cases hi : (log.foldl againM (ghostOpen c e)).bids[i]? with
      | none => rw [hi] at hb; cases hb
      | some b0 =>
        rw [hi] at hb
        obtain rfl := Option.some.inj hb
        rw [al_entry] at hbe
        rw [al_state] at hbs
        exact absurd hbs (hnw b0 (List.mem_of_getElem? hi) hbe)
    · rintro ⟨h2, h3⟩
      omega
  · exact ⟨fun _ => ⟨hn1, hn2⟩, fun _ => hw⟩
end Go.Proofs.Ytminceigjejipaa

/-
  A BID THAT NEVER STARTS, LAID INTO A MARKET AT SOME PLACE: all else goes on as without it. Nothing of the program.
-/
namespace Go.Proofs.Ytminceigjejipaa

/-! ### places -/
def sh (g i : Nat) : Nat := if i < g then i else i + 1
theorem sh_lt {g i k : Nat} : sh g i < sh g k ↔ i < k := by unfold sh; split <;> split <;> omega
theorem sh_ne (g i : Nat) : sh g i ≠ g := by unfold sh; split <;> omega
theorem sh_inj {g i k : Nat} (h : sh g i = sh g k) : i = k := by unfold sh at h; split at h <;> split at h <;> omega
theorem sh_cases (g i : Nat) : i = g ∨ ∃ j, i = sh g j := by
  rcases Nat.lt_trichotomy i g with h | h | h
  · exact .inr ⟨i, by unfold sh; rw [if_pos h]⟩
  · exact .inl h
  · exact .inr ⟨i - 1, by unfold sh; rw [if_neg (by omega)]; omega⟩

/-- a bid, but for its entry -/
def nent (b : BidG) : BidG := { b with entry := 0 }
section
variable {a b : BidG}
theorem nent_ten (h : nent a = nent b) : a.ten = b.ten := by have e := congrArg BidG.ten h; exact e
theorem nent_ref (h : nent a = nent b) : a.ref = b.ref := by have e := congrArg BidG.ref h; exact e
theorem nent_job (h : nent a = nent b) : a.job = b.job := by have e := congrArg BidG.job h; exact e
theorem nent_arrival (h : nent a = nent b) : a.arrival = b.arrival := by have e := congrArg BidG.arrival h; exact e
theorem nent_state (h : nent a = nent b) : a.state = b.state := by have e := congrArg BidG.state h; exact e
theorem nent_start (h : nent a = nent b) : a.start = b.start := by have e := congrArg BidG.start h; exact e
theorem nent_charged (h : nent a = nent b) : a.charged = b.charged := by have e := congrArg BidG.charged h; exact e
theorem nent_set (h : nent a = nent b) (s st : Int) : nent { a with state := s, start := st } = nent { b with state := s, start := st } := by
  simp only [nent, nent_ten h, nent_ref h, nent_job h, nent_arrival h, nent_charged h]
theorem nent_setS (h : nent a = nent b) (s : Int) : nent { a with state := s } = nent { b with state := s } := by
  simp only [nent, nent_ten h, nent_ref h, nent_job h, nent_arrival h, nent_charged h, nent_start h]
theorem nent_expire (h : nent a = nent b) (now : Int) : nent (a.expire now) = nent (b.expire now) := by
  have hc : (a.state == 1 && decide (a.job.dl < now + a.job.len)) = (b.state == 1 && decide (b.job.dl < now + b.job.len)) := by rw [nent_state h, nent_job h]
  unfold BidG.expire
  rw [hc]
  split
  · exact nent_setS h 4
  · exact h
end
theorem usedL_nent (l : List BidG) (t : Int) : usedL (l.map nent) t = usedL l t := by
  unfold usedL
  rw [List.map_map]
  rfl
theorem usedL_app (a b : List BidG) (t : Int) : usedL (a ++ b) t = usedL a t + usedL b t := by simp [usedL]
theorem pendL_nent (l : List BidG) (t : Int) : pendL (l.map nent) t = pendL l t := by
  unfold pendL
  rw [List.countP_map]
  rfl
theorem pendL_app (a b : List BidG) (t : Int) : pendL (a ++ b) t = pendL a t + pendL b t := by simp [pendL]

/-- G is R, but that in G a bid bg that never starts lies at place g -/
structure Ins (g : Nat) (bg : BidG) (R G : MkG) : Prop where
  c : G.c = R.c
  time : G.time = R.time
  units : G.units = R.units
  susp : G.susp = R.susp
  log : G.log.length = R.log.length + 1
  len : G.bids.length = R.bids.length + 1
  gl : g ≤ R.bids.length
  bid : G.bids[g]? = some bg
  get : ∀ i, (G.bids[sh g i]?).map nent = (R.bids[i]?).map nent
  gh : G.ghost = bg.entry
  rg : R.ghost = -1
  st : bg.state ≠ 2

section
variable {g : Nat} {bg : BidG} {R G : MkG}
theorem Ins.up (h : Ins g bg R G) {i : Nat} {b : BidG} (hb : R.bids[i]? = some b) : ∃ b', G.bids[sh g i]? = some b' ∧ nent b' = nent b := by
  have := h.get i
  rw [hb] at this
  cases hx : G.bids[sh g i]? with
  | none => rw [hx] at this; cases this
  | some b' =>
    rw [hx] at this
    exact ⟨b', rfl, Option.some.inj this⟩
theorem Ins.down (h : Ins g bg R G) {i : Nat} {b' : BidG} (hb : G.bids[sh g i]? = some b') : ∃ b, R.bids[i]? = some b ∧ nent b' = nent b := by
  have := h.get i
  rw [hb] at this
  cases hx : R.bids[i]? with
  | none => rw [hx] at this; cases this
  | some b =>
    rw [hx] at this
    exact ⟨b, rfl, Option.some.inj this⟩
theorem Ins.gone (h : Ins g bg R G) {i : Nat} (hb : R.bids[i]? = none) : G.bids[sh g i]? = none := by
  have := h.get i
  rw [hb] at this
  cases hx : G.bids[sh g i]? with
  | none => rfl
  | some b => rw [hx] at this; cases this
theorem Ins.list (h : Ins g bg R G) : G.bids.map nent = (R.bids.map nent).take g ++ nent bg :: (R.bids.map nent).drop g := by
  have hl : ((R.bids.map nent).take g).length = g := by rw [List.length_take, List.length_map]; have := h.gl; omega
  apply List.ext_getElem?
  intro i
  rcases sh_cases g i with rfl | ⟨j, rfl⟩
  · rw [List.getElem?_map, h.bid, List.getElem?_append_right (by omega), hl]
    simp
  · rw [List.getElem?_map, h.get j, ← List.getElem?_map]
    unfold sh
    split
    · rename_i hj
      rw [List.getElem?_append_left (by omega), List.getElem?_take_of_lt hj]
    · rename_i hj
      rw [List.getElem?_append_right (by omega), hl, show j + 1 - g = (j - g) + 1 by omega, List.getElem?_cons_succ, List.getElem?_drop, show g + (j - g) = j by omega]
theorem Ins.used (h : Ins g bg R G) (t : Int) : usedL G.bids t = usedL R.bids t := by
  rw [← usedL_nent G.bids, h.list, ← usedL_nent R.bids]
  conv => rhs; rw [← List.take_append_drop g (R.bids.map nent)]
  rw [usedL_app, usedL_app]
  have hr : (nent bg).runs t = false := by
    have : (nent bg).state ≠ 2 := h.st
    simp [BidG.runs, this]
  have : usedL (nent bg :: (R.bids.map nent).drop g) t = usedL ((R.bids.map nent).drop g) t := by
    simp [usedL, hr]
  rw [this]
theorem Ins.pend (h : Ins g bg R G) {ten : Int} (hne : ten ≠ bg.ten) : pendL G.bids ten = pendL R.bids ten := by
  rw [← pendL_nent G.bids, h.list, ← pendL_nent R.bids]
  conv => rhs; rw [← List.take_append_drop g (R.bids.map nent)]
  rw [pendL_app, pendL_app]
  have hr : (nent bg).pends ten = false := by
    have : (nent bg).ten ≠ ten := fun e => hne e.symm
    simp [BidG.pends, this]
  have : pendL (nent bg :: (R.bids.map nent).drop g) ten = pendL ((R.bids.map nent).drop g) ten := by
    simp [pendL, hr]
  rw [this]
theorem Ins.free (h : Ins g bg R G) (t : Int) : freeV G t = freeV R t := by
  unfold freeV
  rw [h.c, h.units, h.used]
theorem Ins.fits (h : Ins g bg R G) {b b' : BidG} (e : b'.job = b.job) (t : Int) : fitsB G b' t = fitsB R b t := by
  unfold fitsB
  rw [e]
  congr 1
  funext s
  rw [h.free]
theorem Ins.openB (h : Ins g bg R G) {b b' : BidG} (e : nent b' = nent b) (t : Int) : b'.openB G t = b.openB R t := by
  unfold BidG.openB suspAt
  rw [nent_state e, nent_ten e, nent_arrival e, nent_job e, h.susp]
theorem Ins.tenB (h : Ins g bg R G) (k : Int) : G.tenB k = R.tenB k := by unfold MkG.tenB; rw [h.c]
theorem Ins.find (h : Ins g bg R G) {ten ref : Int} (hne : ten ≠ bg.ten) : (findZ R.bids ten ref < 0 ∧ findZ G.bids ten ref < 0) ∨ ∃ k : Nat, findZ R.bids ten ref = k ∧ findZ G.bids ten ref = sh g k ∧ k < R.bids.length := by
  have hbg : bg.is ten ref = false := by
    have : bg.ten ≠ ten := fun e => hne e.symm
    simp [BidG.is, this]
  have his : ∀ {b b' : BidG}, nent b' = nent b → b'.is ten ref = b.is ten ref := fun e => by simp only [BidG.is, nent_ten e, nent_ref e]
  cases hf : findL R.bids ten ref with
  | none =>
    left
    have hall := List.findIdx?_eq_none_iff.1 hf
    refine ⟨by unfold findZ; rw [hf]; decide, ?_⟩
    rw [findZ_none (l := G.bids)]
    · decide
    · intro i b hb
      rcases sh_cases g i with rfl | ⟨j, rfl⟩
      · rw [h.bid] at hb
        obtain rfl := Option.some.inj hb
        exact hbg
      · obtain ⟨b0, hb0, e⟩ := h.down hb
        rw [his e]
        exact hall b0 (List.mem_of_getElem? hb0)
  | some k =>
    right
    obtain ⟨h1, h2, h3⟩ := List.findIdx?_eq_some_iff_getElem.1 hf
    refine ⟨k, by unfold findZ; rw [hf], ?_, h1⟩
    obtain ⟨b', hb', e⟩ := h.up (List.getElem?_eq_getElem h1)
    refine findZ_some hb' (by rw [his e]; exact h2) (fun i b hi hb => ?_)
    rcases sh_cases g i with rfl | ⟨j, rfl⟩
    · rw [h.bid] at hb
      obtain rfl := Option.some.inj hb
      exact hbg
    · obtain ⟨b0, hb0, e0⟩ := h.down hb
      rw [his e0]
      have hj := sh_lt.1 hi
      have hx := h3 j hj
      have hg := (List.getElem?_eq_some_iff.1 hb0).2
      rw [hg] at hx
      simpa using hx

/-! ### the calls but Tick -/
theorem Ins.logs (h : Ins g bg R G) (c c' : CallG) : Ins g bg (R.logs c) (G.logs c') :=
  ⟨h.c, h.time, h.units, h.susp, by simp [MkG.logs, h.log], h.len, h.gl, h.bid, h.get, h.gh, h.rg, h.st⟩
theorem Ins.set (h : Ins g bg R G) {i : Nat} {x x' : BidG} (hi : i < R.bids.length) (e : nent x' = nent x) : Ins g bg { R with bids := R.bids.set i x } { G with bids := G.bids.set (sh g i) x' } := by
  have hG : sh g i < G.bids.length := by rw [h.len]; unfold sh; split <;> omega
  refine ⟨h.c, h.time, h.units, h.susp, h.log, by simp [h.len], by simp [h.gl], ?_, fun k => ?_, h.gh, h.rg, h.st⟩
  · show (G.bids.set (sh g i) x')[g]? = some bg
    rw [List.getElem?_set, if_neg (sh_ne g i)]
    exact h.bid
  · show ((G.bids.set (sh g i) x')[sh g k]?).map nent = ((R.bids.set i x)[k]?).map nent
    rw [List.getElem?_set, List.getElem?_set]
    by_cases hk : i = k
    · subst hk
      rw [if_pos rfl, if_pos rfl, if_pos hi, if_pos hG]
      exact congrArg some e
    · rw [if_neg (fun e => hk (sh_inj e)), if_neg hk]
      exact h.get k
theorem Ins.submit (h : Ins g bg R G) {ten : Int} (hne : ten ≠ bg.ten) (ref : Int) (j : JobG) : Ins g bg (submitM R ten ref j) (submitM G ten ref j) := by
  have hf : decide (0 ≤ findZ G.bids ten ref) = decide (0 ≤ findZ R.bids ten ref) := by
    rcases h.find (ref := ref) hne with ⟨a, b⟩ | ⟨k, a, b, _⟩
    · rw [decide_eq_false (by omega), decide_eq_false (by omega)]
    · rw [decide_eq_true (by omega), decide_eq_true (by omega)]
  have hE : submitE G ten ref j = submitE R ten ref j := by
    unfold submitE refB suspAt MkG.jobB
    rw [h.tenB, h.susp, hf, h.pend hne, h.c, h.time]
  have hl := h.logs (callSubmit ten ref j) (callSubmit ten ref j)
  unfold submitM
  simp only [hE]
  split
  · have hnew : nent (newBid G ten ref j) = nent (newBid R ten ref j) := by simp only [newBid, nent, h.time]
    refine ⟨hl.c, hl.time, hl.units, hl.susp, hl.log, by simp [MkG.logs, h.len], by simp [MkG.logs]; have := h.gl; omega, ?_, fun i => ?_, hl.gh, hl.rg, hl.st⟩
    · show (G.bids ++ [newBid G ten ref j])[g]? = some bg
      rw [List.getElem?_append_left (List.getElem?_eq_some_iff.1 h.bid).1]
      exact h.bid
    · show ((G.bids ++ [newBid G ten ref j])[sh g i]?).map nent = ((R.bids ++ [newBid R ten ref j])[i]?).map nent
      rcases Nat.lt_trichotomy i R.bids.length with hi | hi | hi
      · have : sh g i < G.bids.length := by rw [h.len]; unfold sh; split <;> omega
        rw [List.getElem?_append_left this, List.getElem?_append_left hi]
        exact h.get i
      · have hs : sh g i = G.bids.length := by rw [h.len]; unfold sh; have := h.gl; rw [if_neg (by omega)]; omega
        rw [hs, hi, List.getElem?_append_right (Nat.le_refl _), List.getElem?_append_right (Nat.le_refl _)]
        simp [hnew]
      · have hs : G.bids.length < sh g i := by rw [h.len]; unfold sh; have := h.gl; rw [if_neg (by omega)]; omega
        rw [List.getElem?_eq_none (by simp; omega), List.getElem?_eq_none (by simp; omega)]
  · exact hl
theorem Ins.cancel (h : Ins g bg R G) {ten : Int} (hne : ten ≠ bg.ten) (ref : Int) : Ins g bg (cancelM R ten ref) (cancelM G ten ref) := by
  have hl := h.logs (callCancel ten ref) (callCancel ten ref)
  rcases h.find (ref := ref) hne with ⟨a, b⟩ | ⟨k, a, b, hk⟩
  · have hE : cancelE G ten ref = cancelE R ten ref ∧ cancelE R ten ref ≠ 0 := by
      unfold cancelE
      rw [h.tenB, if_pos a, if_pos b]
      refine ⟨rfl, ?_⟩
      split <;> decide
    unfold cancelM
    simp only [hE.1]
    rw [if_neg hE.2, if_neg hE.2]
    exact hl
  · obtain ⟨b', hb', e⟩ := h.up (List.getElem?_eq_getElem hk)
    have hst : stateAt G (findZ G.bids ten ref) = stateAt R (findZ R.bids ten ref) := by
      unfold stateAt
      rw [a, b]
      simp only [Int.toNat_natCast]
      rw [hb', List.getElem?_eq_getElem hk]
      simp only [Option.map_some, nent_state e]
    have hE : cancelE G ten ref = cancelE R ten ref := by
      unfold cancelE
      have e1 : ¬ findZ G.bids ten ref < 0 := by omega
      have e2 : ¬ findZ R.bids ten ref < 0 := by omega
      rw [h.tenB, hst]
      simp only [if_neg e1, if_neg e2]
    unfold cancelM
    simp only [hE]
    split
    · have hr : setState R.bids (findZ R.bids ten ref).toNat 3 = R.bids.set k { R.bids[k] with state := 3 } := by
        unfold setState
        rw [a]
        simp only [Int.toNat_natCast]
        rw [List.getElem?_eq_getElem hk]
      have hg : setState G.bids (findZ G.bids ten ref).toNat 3 = G.bids.set (sh g k) { b' with state := 3 } := by
        unfold setState
        rw [b]
        simp only [Int.toNat_natCast]
        rw [hb']
      show Ins g bg { R.logs (callCancel ten ref) with bids := setState R.bids (findZ R.bids ten ref).toNat 3 } { G.logs (callCancel ten ref) with bids := setState G.bids (findZ G.bids ten ref).toNat 3 }
      rw [hr, hg]
      exact hl.set hk (nent_setS e 3)
    · exact hl
theorem Ins.suspend (h : Ins g bg R G) (ten : Int) (on : Bool) : Ins g bg (suspendM R ten on) (suspendM G ten on) := by
  have hE : suspendE G ten = suspendE R ten := by
    unfold suspendE
    rw [h.tenB]
  have hl := h.logs (callSuspend ten on) (callSuspend ten on)
  unfold suspendM
  simp only [hE]
  split
  · exact ⟨hl.c, hl.time, hl.units, by show G.susp.set _ _ = R.susp.set _ _; rw [h.susp], hl.log, hl.len, hl.gl, hl.bid, hl.get, hl.gh, hl.rg, hl.st⟩
  · exact hl
theorem Ins.cap (h : Ins g bg R G) (f t u : Int) : Ins g bg (capM R f t u) (capM G f t u) := by
  have hA : capArg G f t u = capArg R f t u := by
    unfold capArg
    rw [h.time, h.c]
  have hB : capB G f t u = capB R f t u := by
    unfold capB
    congr 1
    funext s
    rw [h.used]
  have hl := h.logs (callCapacity f t u) (callCapacity f t u)
  unfold capM
  rw [hA, hB]
  split
  · exact hl
  · split
    · exact ⟨hl.c, hl.time, by show (List.range G.units.length).map _ = (List.range R.units.length).map _; rw [h.units], hl.susp, hl.log, hl.len, hl.gl, hl.bid, hl.get, hl.gh, hl.rg, hl.st⟩
    · exact hl

/-! ### a tick -/
theorem Ins.want (h : Ins g bg R G) (k : Nat) (x : Int) : Ins g bg R (wantM G k x) := by
  unfold wantM
  split
  · exact ⟨h.c, h.time, h.units, h.susp, h.log, h.len, h.gl, h.bid, h.get, h.gh, h.rg, h.st⟩
  · exact h
theorem Ins.wantEnd (h : Ins g bg R G) (t : Int) (k : Option Nat) : Ins g bg R (wantEnd t k G) := by
  unfold Go.Proofs.Ytminceigjejipaa.wantEnd
  cases k with
  | none => exact h
  | some gi =>
    simp only
    split
    · exact h.want _ _
    · exact h
theorem Ins.start (h : Ins g bg R G) (i : Nat) (t : Int) : Ins g bg (startM R i t) (startM G (sh g i) t) := by
  cases hb : R.bids[i]? with
  | none =>
    unfold startM
    rw [hb, h.gone hb]
    exact h
  | some b =>
    obtain ⟨b', hb', e⟩ := h.up hb
    rw [startM_set hb, startM_set hb']
    exact h.set (List.getElem?_eq_some_iff.1 hb).1 (nent_set e 2 t)
theorem Ins.one (h : Ins g bg R G) (t : Int) (go : Option Nat) (o o' : List (Int × Int)) (i : Nat) : Ins g bg (tickOne t none (R, o) i).1 (tickOne t go (G, o') (sh g i)).1 := by
  unfold tickOne
  simp only
  cases hb : R.bids[i]? with
  | none =>
    rw [h.gone hb]
    exact h
  | some b =>
    obtain ⟨b', hb', e⟩ := h.up hb
    rw [hb']
    simp only
    rw [h.fits (nent_job e), h.c, show b'.winB R.c.res = b.winB R.c.res by unfold BidG.winB; rw [nent_job e]]
    split
    · cases go with
      | none => exact h.start i t
      | some gi =>
        simp only
        split
        · exact (h.start i t).want _ _
        · exact h.start i t
    · exact h
theorem Ins.fold (t : Int) (go : Option Nat) : ∀ (l : List Nat) (s s' : TkS), Ins g bg s.1 s'.1 → Ins g bg (l.foldl (tickOne t none) s).1 ((l.map (sh g)).foldl (tickOne t go) s').1
  | [], _, _, h => h
  | i :: l, s, s', h => Ins.fold t go l _ _ (h.one t go s.2 s'.2 i)
theorem Ins.tickEnd (h : Ins g bg R G) (t : Int) : Ins g (bg.expire (t + 1)) (tickEnd t R) (tickEnd t G) := by
  refine ⟨h.c, rfl, h.units, h.susp, h.log, by simp [Go.Proofs.Ytminceigjejipaa.tickEnd, h.len], by simp [Go.Proofs.Ytminceigjejipaa.tickEnd, h.gl], ?_, fun i => ?_, ?_, h.rg, ?_⟩
  · show (G.bids.map _)[g]? = _
    rw [List.getElem?_map, h.bid]
    rfl
  · show ((G.bids.map _)[sh g i]?).map nent = ((R.bids.map _)[i]?).map nent
    rw [List.getElem?_map, List.getElem?_map]
    cases hb : R.bids[i]? with
    | none =>
      rw [h.gone hb]
    | some b =>
      obtain ⟨b', hb', e⟩ := h.up hb
      rw [hb']
      exact congrArg some (nent_expire e _)
  · show G.ghost = _
    rw [h.gh]
    unfold BidG.expire
    split <;> rfl
  · unfold BidG.expire
    split
    · simp
    · exact h.st
theorem Ins.ahead (h : Ins g bg R G) (i k : Nat) : aheadI G.bids (sh g i) (sh g k) = aheadI R.bids i k := by
  unfold aheadI
  cases hi : R.bids[i]? with
  | none => rw [h.gone hi]
  | some a =>
    obtain ⟨a', ha', ea⟩ := h.up hi
    rw [ha']
    cases hk : R.bids[k]? with
    | none => rw [h.gone hk]
    | some b =>
      obtain ⟨b', hb', eb⟩ := h.up hk
      rw [hb']
      simp only
      rw [nent_job ea, nent_job eb]
      unfold aheadJ
      rw [show decide (sh g i < sh g k) = decide (i < k) from by rw [Bool.eq_iff_iff]; simp only [decide_eq_true_eq]; exact sh_lt]
theorem Ins.order (h : Ins g bg R G) (hr : EntOk R) (hg : EntOk G) {t : Int} {l : List Nat} (hl : IsOrder R t l) : IsOrder G t (l.map (sh g)) := by
  refine ⟨fun i => ?_, ?_⟩
  · rw [List.mem_map]
    constructor
    · rintro ⟨k, hk, rfl⟩
      obtain ⟨b, hb, hc⟩ := (hl.mem k).1 hk
      obtain ⟨b', hb', e⟩ := h.up hb
      refine ⟨b', hb', ?_⟩
      unfold candB at hc ⊢
      rw [Bool.and_eq_true] at hc
      rw [h.openB e, hc.1, Bool.true_and, h.gh]
      have : b'.entry ≠ bg.entry := fun hx => sh_ne g k (hg.uniq hb' h.bid hx)
      simpa using this
    · rintro ⟨b', hb', hc⟩
      unfold candB at hc
      rw [Bool.and_eq_true] at hc
      rcases sh_cases g i with rfl | ⟨k, rfl⟩
      · rw [h.bid] at hb'
        obtain rfl := Option.some.inj hb'
        have := hc.2
        rw [h.gh] at this
        simp at this
      · obtain ⟨b, hb, e⟩ := h.down hb'
        refine ⟨k, (hl.mem k).2 ⟨b, hb, ?_⟩, rfl⟩
        unfold candB
        rw [← h.openB e, hc.1, Bool.true_and, h.rg]
        have := (hr.in' b (List.mem_of_getElem? hb)).1
        have h2 : b.entry ≠ -1 := by omega
        simpa using h2
  · rw [List.pairwise_map]
    have : (fun i k => aheadI G.bids (sh g i) (sh g k) = true) = fun i k => aheadI R.bids i k = true := by
      funext i k
      rw [h.ahead]
    rw [this]
    exact hl.sorted
theorem Ins.tick (h : Ins g bg R G) (hok : MkOk R) (hog : MkOk G) (hr : EntOk R) (hg : EntOk G) (hlr : R.log.length < 300) (ht : ¬ R.c.ticks ≤ R.time) : Ins g (bg.expire (R.time + 1)) (tickF R) (tickF G) := by
  unfold tickF
  rw [h.c, h.time, if_neg ht, if_neg ht]
  have ho := orderL_is (m := R) (t := R.time) hok.sizes
  have e1 : orderL G R.time = (orderL R R.time).map (sh g) := (orderL_is (m := G) (t := R.time) hog.sizes).unique (h.order hr hg ho)
  have g1 : ghostI (R.logs callTick) R.time = none := ghostI_none (hok.logs hlr callTick) h.rg R.time
  unfold tickM
  simp only [h.time, g1, e1]
  have hf := Ins.fold R.time (ghostI (G.logs callTick) R.time) (orderL R R.time) (R.logs callTick, []) (G.logs callTick, []) (h.logs callTick callTick)
  exact (hf.wantEnd R.time _).tickEnd R.time
end
end Go.Proofs.Ytminceigjejipaa

/-
  A MARKET AND THE REPLAY OF ITS LOG: they are one but for what has been charged and paid; what has won is charged between 1 and its value. Nothing of the program.
-/
namespace Go.Proofs.Ytminceigjejipaa

def unc (b : BidG) : BidG := { b with charged := false }
theorem unc_expire (b : BidG) (now : Int) : (unc b).expire now = unc (b.expire now) := by
  have e : ((unc b).state == 1 && decide ((unc b).job.dl < now + (unc b).job.len)) = (b.state == 1 && decide (b.job.dl < now + b.job.len)) := rfl
  unfold BidG.expire
  rw [e]
  split <;> rfl
theorem unc_bill (b : BidG) (time : Int) : unc (b.bill time) = unc b := by
  unfold BidG.bill
  split <;> rfl
/-- R is m with nothing charged and nothing paid -/
structure HistM (m R : MkG) : Prop where
  c : R.c = m.c
  time : R.time = m.time
  units : R.units = m.units
  susp : R.susp = m.susp
  log : R.log = m.log
  bids : R.bids = m.bids.map unc
  gm : m.ghost = -1
  rg : R.ghost = -1

section
variable {m R : MkG}
theorem HistM.get (h : HistM m R) (i : Nat) : R.bids[i]? = (m.bids[i]?).map unc := by rw [h.bids, List.getElem?_map]
theorem HistM.used (h : HistM m R) (t : Int) : usedL R.bids t = usedL m.bids t := by
  rw [h.bids]
  unfold usedL
  rw [List.map_map]
  rfl
theorem HistM.free (h : HistM m R) (t : Int) : freeV R t = freeV m t := by
  unfold freeV
  rw [h.c, h.units, h.used]
theorem HistM.fits (h : HistM m R) (b : BidG) (t : Int) : fitsB R (unc b) t = fitsB m b t := by
  unfold fitsB
  show (List.range b.job.len.toNat).all _ = _
  congr 1
  funext s
  rw [h.free]
  rfl
theorem HistM.cand (h : HistM m R) (b : BidG) (t : Int) : candB R t (unc b) = candB m t b := by
  unfold candB BidG.openB suspAt
  rw [h.susp, h.gm, h.rg]
  rfl
theorem HistM.find (h : HistM m R) (ten ref : Int) : findZ R.bids ten ref = findZ m.bids ten ref := by
  unfold findZ findL
  rw [h.bids, List.findIdx?_map]
  rfl
theorem HistM.pend (h : HistM m R) (ten : Int) : pendL R.bids ten = pendL m.bids ten := by
  unfold pendL
  rw [h.bids, List.countP_map]
  rfl
theorem HistM.tenB (h : HistM m R) (k : Int) : R.tenB k = m.tenB k := by unfold MkG.tenB; rw [h.c]
theorem HistM.state (h : HistM m R) (i : Int) : stateAt R i = stateAt m i := by
  unfold stateAt
  rw [h.get]
  cases m.bids[i.toNat]? <;> rfl
theorem HistM.logs (h : HistM m R) (c : CallG) : HistM (m.logs c) (R.logs c) :=
  ⟨h.c, h.time, h.units, h.susp, by simp [MkG.logs, h.log], h.bids, h.gm, h.rg⟩
theorem HistM.submit (h : HistM m R) (ten ref : Int) (j : JobG) : HistM (submitM m ten ref j) (submitM R ten ref j) := by
  have hE : submitE R ten ref j = submitE m ten ref j := by
    unfold submitE refB suspAt MkG.jobB
    rw [h.tenB, h.susp, h.find, h.pend, h.c, h.time]
  have hl := h.logs (callSubmit ten ref j)
  unfold submitM
  simp only [hE]
  split
  · refine ⟨hl.c, hl.time, hl.units, hl.susp, hl.log, ?_, hl.gm, hl.rg⟩
    show R.bids ++ [newBid R ten ref j] = (m.bids ++ [newBid m ten ref j]).map unc
    rw [List.map_append, ← h.bids]
    congr 1
    simp only [List.map_cons, List.map_nil, newBid, unc, h.time, h.log]
  · exact hl
theorem HistM.cancel (h : HistM m R) (ten ref : Int) : HistM (cancelM m ten ref) (cancelM R ten ref) := by
  have hE : cancelE R ten ref = cancelE m ten ref := by
    unfold cancelE
    rw [h.tenB, h.find, h.state]
  have hl := h.logs (callCancel ten ref)
  unfold cancelM
  simp only [hE, h.find]
  split
  · refine ⟨hl.c, hl.time, hl.units, hl.susp, hl.log, ?_, hl.gm, hl.rg⟩
    show setState R.bids _ 3 = (setState m.bids _ 3).map unc
    unfold setState
    rw [h.get]
    cases hb : m.bids[(findZ m.bids ten ref).toNat]? with
    | none => exact h.bids
    | some b =>
      simp only [Option.map_some]
      rw [List.map_set, h.bids]
      rfl
  · exact hl
theorem HistM.suspend (h : HistM m R) (ten : Int) (on : Bool) : HistM (suspendM m ten on) (suspendM R ten on) := by
  have hE : suspendE R ten = suspendE m ten := by
    unfold suspendE
    rw [h.tenB]
  have hl := h.logs (callSuspend ten on)
  unfold suspendM
  simp only [hE]
  split
  · exact ⟨hl.c, hl.time, hl.units, by show R.susp.set _ _ = m.susp.set _ _; rw [h.susp], hl.log, hl.bids, hl.gm, hl.rg⟩
  · exact hl
theorem HistM.cap (h : HistM m R) (f t u : Int) : HistM (capM m f t u) (capM R f t u) := by
  have hA : capArg R f t u = capArg m f t u := by
    unfold capArg
    rw [h.time, h.c]
  have hB : capB R f t u = capB m f t u := by
    unfold capB
    congr 1
    funext s
    rw [h.used]
  have hl := h.logs (callCapacity f t u)
  unfold capM
  rw [hA, hB]
  split
  · exact hl
  · split
    · exact ⟨hl.c, hl.time, by show (List.range R.units.length).map _ = (List.range m.units.length).map _; rw [h.units], hl.susp, hl.log, hl.bids, hl.gm, hl.rg⟩
    · exact hl
theorem HistM.start (h : HistM m R) (i : Nat) (t : Int) : HistM (startM m i t) (startM R i t) := by
  unfold startM
  rw [h.get]
  cases hb : m.bids[i]? with
  | none => exact h
  | some b =>
    refine ⟨h.c, h.time, h.units, h.susp, h.log, ?_, h.gm, h.rg⟩
    show R.bids.set i { unc b with state := 2, start := t } = (m.bids.set i { b with state := 2, start := t }).map unc
    rw [List.map_set, h.bids]
    rfl
theorem HistM.one (h : HistM m R) (t : Int) (o o' : List (Int × Int)) (i : Nat) : HistM (tickOne t none (m, o) i).1 (tickOne t none (R, o') i).1 := by
  unfold tickOne
  simp only
  rw [h.get]
  cases hb : m.bids[i]? with
  | none => exact h
  | some b =>
    simp only [Option.map_some]
    rw [h.fits, h.c, show (unc b).winB m.c.res = b.winB m.c.res from rfl]
    split
    · exact h.start i t
    · exact h
theorem HistM.fold (t : Int) : ∀ (l : List Nat) (s s' : TkS), HistM s.1 s'.1 → HistM (l.foldl (tickOne t none) s).1 (l.foldl (tickOne t none) s').1
  | [], _, _, h => h
  | i :: l, s, s', h => HistM.fold t l _ _ (h.one t s.2 s'.2 i)
theorem HistM.ahead (h : HistM m R) (i k : Nat) : aheadI R.bids i k = aheadI m.bids i k := by
  unfold aheadI
  rw [h.get, h.get]
  cases m.bids[i]? <;> cases m.bids[k]? <;> rfl
theorem HistM.order (h : HistM m R) (t : Int) {l : List Nat} (hl : IsOrder m t l) : IsOrder R t l := by
  refine ⟨fun i => ?_, ?_⟩
  · rw [hl.mem, h.get]
    constructor
    · rintro ⟨b, hb, hc⟩
      exact ⟨unc b, by rw [hb]; rfl, by rw [h.cand]; exact hc⟩
    · rintro ⟨b, hb, hc⟩
      cases hx : m.bids[i]? with
      | none => rw [hx] at hb; cases hb
      | some b0 =>
        rw [hx] at hb
        obtain rfl := Option.some.inj hb
        exact ⟨b0, rfl, by rw [← h.cand]; exact hc⟩
  · have : (fun i k => aheadI R.bids i k = true) = fun i k => aheadI m.bids i k = true := by
      funext i k
      rw [h.ahead]
    rw [this]
    exact hl.sorted
theorem HistM.tick (h : HistM m R) (hok : MkOk m) (hor : MkOk R) (hl : m.log.length < 300) : HistM (tickF m) (tickF R) := by
  unfold tickF
  rw [h.c, h.time]
  split
  · exact h.logs callTick
  · have ho := orderL_is (m := m) (t := m.time) hok.sizes
    have hoR := h.order m.time ho
    have e1 : orderL R m.time = orderL m m.time := (orderL_is (m := R) (t := m.time) hor.sizes).unique hoR
    have g1 : ghostI (m.logs callTick) m.time = none := ghostI_none (hok.logs hl callTick) h.gm m.time
    have g2 : ghostI (R.logs callTick) m.time = none := ghostI_none (hor.logs (by rw [h.log]; exact hl) callTick) h.rg m.time
    unfold tickM
    simp only [h.time, g1, g2, e1, wantEnd]
    have hf := HistM.fold m.time (orderL m m.time) (m.logs callTick, []) (R.logs callTick, []) (h.logs callTick)
    show HistM (tickEnd m.time (tickFold m.time none (m.logs callTick) (orderL m m.time)).1) (tickEnd m.time (tickFold m.time none (R.logs callTick) (orderL m m.time)).1)
    unfold tickFold
    refine ⟨hf.c, rfl, hf.units, hf.susp, hf.log, ?_, hf.gm, hf.rg⟩
    unfold tickEnd
    simp only
    rw [hf.bids, List.map_map, List.map_map]
    apply List.map_congr_left
    intro b _
    exact unc_expire b _
theorem HistM.bill (h : HistM m R) : HistM (billM m) (R.logs callBill) := by
  have hl := h.logs callBill
  refine ⟨hl.c, hl.time, hl.units, hl.susp, hl.log, ?_, hl.gm, hl.rg⟩
  show R.bids = (m.bids.map fun b => b.bill m.time).map unc
  rw [h.bids, List.map_map]
  apply List.map_congr_left
  intro b _
  exact (unc_bill b _).symm
theorem HistM.pay (h : HistM m R) (ten cents : Int) : HistM (payM m ten cents) (R.logs (callPay ten cents)) := by
  have hl := h.logs (callPay ten cents)
  unfold payM
  simp only
  split
  · exact ⟨hl.c, hl.time, hl.units, hl.susp, hl.log, hl.bids, hl.gm, hl.rg⟩
  · exact hl
end
end Go.Proofs.Ytminceigjejipaa
