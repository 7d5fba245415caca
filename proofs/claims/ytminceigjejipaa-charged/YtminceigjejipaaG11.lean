import Derived.Test.YtminceigjejipaaKpA
import Derived.Test.YtminceigjejipaaKpC
/-
  WHAT HOLDS OF EVERY MARKET, for the statements that ask no document (P16): units in use, starts, names; what has been decided stays. Nothing of the program.
-/
namespace Go.Proofs.Ytminceigjejipaa

theorem kused_set (l : List BidG) (i : Nat) (b : BidG) (hb : l[i]? = some b) (s : Int) (h1 : b.state ≠ 2) (h2 : s ≠ 2) (t : Int) : usedL (l.set i { b with state := s }) t = usedL l t := by
  induction l generalizing i with
  | nil => simp at hb
  | cons y l ih =>
    cases i with
    | zero =>
      simp at hb
      subst hb
      simp [usedL, BidG.runs, h1, h2]
    | succ i =>
      simp only [List.getElem?_cons_succ] at hb
      have := ih i hb
      simp only [usedL, List.set_cons_succ, List.map_cons, List.sum_cons] at this ⊢
      omega
theorem kused_start {l : List BidG} {i : Nat} {b : BidG} (hb : l[i]? = some b) (h1 : b.state ≠ 2) (t s : Int) : usedL (l.set i { b with state := 2, start := t }) s = usedL l s + if t ≤ s ∧ s < t + b.job.len then b.job.units else 0 := by
  induction l generalizing i with
  | nil => simp at hb
  | cons y l ih =>
    cases i with
    | zero =>
      simp at hb
      subst hb
      simp [usedL, BidG.runs, h1]
      omega
    | succ i =>
      simp only [List.getElem?_cons_succ] at hb
      have := ih hb
      simp only [usedL, List.set_cons_succ, List.map_cons, List.sum_cons] at this ⊢
      omega
theorem kused_map (f : BidG → BidG) (t : Int) : ∀ l : List BidG, (∀ b ∈ l, (f b).runs t = b.runs t ∧ (f b).job = b.job) → usedL (l.map f) t = usedL l t
  | [], _ => rfl
  | b :: l, h => by
    have ih := kused_map f t l (fun x hx => h x (List.mem_cons_of_mem _ hx))
    have h0 := h b List.mem_cons_self
    simp only [usedL, List.map_cons, List.sum_cons, h0.1, h0.2] at ih ⊢
    rw [ih]

/-- what never changes of a bid but what is charged -/
def nameB (b : BidG) : Int × Int × JobG × Int × Int := (b.ten, b.ref, b.job, b.arrival, b.entry)
/-- what has been decided stays; the older bids keep their places -/
def NoMove (m m' : MkG) : Prop := ∀ (i : Nat) (b : BidG), m.bids[i]? = some b → ∃ b', m'.bids[i]? = some b' ∧ nameB b' = nameB b ∧ (b.state ≠ 1 → b'.state = b.state ∧ b'.start = b.start)
theorem NoMove.refl (m : MkG) : NoMove m m := fun _ b hb => ⟨b, hb, rfl, fun _ => ⟨rfl, rfl⟩⟩
theorem NoMove.trans {m m' m2 : MkG} (h : NoMove m m') (h' : NoMove m' m2) : NoMove m m2 := fun i b hb => by
  obtain ⟨b1, a1, a2, a3⟩ := h i b hb
  obtain ⟨b2, c1, c2, c3⟩ := h' i b1 a1
  refine ⟨b2, c1, c2.trans a2, fun hs => ?_⟩
  have := a3 hs
  have := c3 (by omega)
  omega
theorem NoMove.of_bids {m m' : MkG} (h : m'.bids = m.bids) : NoMove m m' := fun _ b hb => ⟨b, by rw [h]; exact hb, rfl, fun _ => ⟨rfl, rfl⟩⟩

structure SoundM (m : MkG) : Prop where
  free : ∀ t : Int, 0 ≤ t → t < m.c.ticks → usedL m.bids t ≤ m.units.getD t.toNat 0
  won : ∀ b ∈ m.bids, b.state = 2 → b.arrival ≤ b.start ∧ b.start + b.job.len ≤ b.job.dl
  oth : ∀ b ∈ m.bids, b.state ≠ 2 → b.start = -1
  uniq : ∀ (i k : Nat) (b b' : BidG), m.bids[i]? = some b → m.bids[k]? = some b' → b.ten = b'.ten → b.ref = b'.ref → i = k

theorem SoundM.open {c : CfgG} (hc : cfgOk c = true) : SoundM (openM c) := by
  have hq := cfgOk_true hc
  refine ⟨fun t h0 h1 => ?_, fun b hb => by simp [openM] at hb, fun b hb => by simp [openM] at hb, fun i k b b' hb => by simp [openM] at hb⟩
  show usedL [] t ≤ (List.replicate c.ticks.toNat c.cap).getD t.toNat 0
  have h1' : t < c.ticks := h1
  rw [List.getD, List.getElem?_replicate, if_pos (by omega)]
  simp [usedL]
  omega
theorem SoundM.of_bids {m m' : MkG} (h : SoundM m) (hb : m'.bids = m.bids) (hu : m'.units = m.units) (hc : m'.c = m.c) : SoundM m' :=
  ⟨by rw [hb, hu, hc]; exact h.free, by rw [hb]; exact h.won, by rw [hb]; exact h.oth, by rw [hb]; exact h.uniq⟩
/-- one bid has turned, its name has not -/
theorem uniq_set {l : List BidG} {i : Nat} {b b' : BidG} (hb : l[i]? = some b) (hn : nameB b' = nameB b) (h : ∀ (i k : Nat) (b b' : BidG), l[i]? = some b → l[k]? = some b' → b.ten = b'.ten → b.ref = b'.ref → i = k) : ∀ (x k : Nat) (u v : BidG), (l.set i b')[x]? = some u → (l.set i b')[k]? = some v → u.ten = v.ten → u.ref = v.ref → x = k := by
  have hl := (List.getElem?_eq_some_iff.1 hb).1
  simp only [nameB, Prod.mk.injEq] at hn
  have get : ∀ (x : Nat) (u : BidG), (l.set i b')[x]? = some u → ∃ u', l[x]? = some u' ∧ u'.ten = u.ten ∧ u'.ref = u.ref := fun x u hx => by
    rw [List.getElem?_set] at hx
    by_cases e : i = x
    · subst e
      rw [if_pos rfl, if_pos hl] at hx
      obtain rfl := Option.some.inj hx
      exact ⟨b, hb, hn.1.symm, hn.2.1.symm⟩
    · rw [if_neg e] at hx
      exact ⟨u, hx, rfl, rfl⟩
  intro x k u v hx hk h1 h2
  obtain ⟨u', a1, a2, a3⟩ := get x u hx
  obtain ⟨v', c1, c2, c3⟩ := get k v hk
  exact h x k u' v' a1 c1 (by rw [a2, c2, h1]) (by rw [a3, c3, h2])
theorem uniq_map {l : List BidG} {f : BidG → BidG} (hf : ∀ b, nameB (f b) = nameB b) (h : ∀ (i k : Nat) (b b' : BidG), l[i]? = some b → l[k]? = some b' → b.ten = b'.ten → b.ref = b'.ref → i = k) : ∀ (x k : Nat) (u v : BidG), (l.map f)[x]? = some u → (l.map f)[k]? = some v → u.ten = v.ten → u.ref = v.ref → x = k := by
  intro x k u v hx hk h1 h2
  rw [List.getElem?_map] at hx hk
  cases hx' : l[x]? with
  | none => rw [hx'] at hx; cases hx
  | some a =>
    cases hk' : l[k]? with
    | none => rw [hk'] at hk; cases hk
    | some c =>
      rw [hx'] at hx
      rw [hk'] at hk
      simp at hx hk
      subst hx hk
      have fa := hf a
      have fc := hf c
      simp only [nameB, Prod.mk.injEq] at fa fc
      exact h x k a c hx' hk' (by rw [← fa.1, ← fc.1, h1]) (by rw [← fa.2.1, ← fc.2.1, h2])

theorem SoundM.submit {m : MkG} (h : SoundM m) (ten ref : Int) (j : JobG) : SoundM (submitM m ten ref j) ∧ NoMove m (submitM m ten ref j) := by
  unfold submitM
  simp only
  split
  · rename_i he
    have hR : refB m ten ref = false := by
      cases hR : refB m ten ref
      · rfl
      · unfold submitE at he
        split at he
        · simp at he
        · split at he
          · simp at he
          · simp at he
    have hfz : findZ m.bids ten ref < 0 := by simp [refB] at hR; omega
    have hno : ∀ (k : Nat) (b : BidG), m.bids[k]? = some b → ¬ (b.ten = ten ∧ b.ref = ref) := fun k b hb ⟨h1, h2⟩ => by
      cases hf : findL m.bids ten ref with
      | some i => rw [findZ, hf] at hfz; simp at hfz; omega
      | none =>
        unfold findL at hf
        rw [List.findIdx?_eq_none_iff] at hf
        have := hf b (List.mem_of_getElem? hb)
        simp [BidG.is, h1, h2] at this
    refine ⟨⟨fun t h0 h1 => ?_, fun b hb => ?_, fun b hb => ?_, fun i k b b' hb hb' e1 e2 => ?_⟩, fun i b hb => ⟨b, ?_, rfl, fun _ => ⟨rfl, rfl⟩⟩⟩
    · show usedL (m.bids ++ [newBid m ten ref j]) t ≤ m.units.getD t.toNat 0
      rw [usedL_snoc, if_neg (by simp [BidG.runs, newBid])]
      have := h.free t h0 h1
      omega
    · rcases List.mem_append.1 hb with hb | hb
      · exact h.won b hb
      · simp at hb; subst hb; intro hs; simp [newBid] at hs
    · rcases List.mem_append.1 hb with hb | hb
      · exact h.oth b hb
      · simp at hb; subst hb; intro _; rfl
    · have get : ∀ (x : Nat) (u : BidG), (m.bids ++ [newBid m ten ref j])[x]? = some u → (m.bids[x]? = some u ∧ x < m.bids.length) ∨ (x = m.bids.length ∧ u.ten = ten ∧ u.ref = ref) := fun x u hx => by
        rw [List.getElem?_append] at hx
        by_cases e : x < m.bids.length
        · rw [if_pos e] at hx
          exact .inl ⟨hx, e⟩
        · rw [if_neg e] at hx
          have hlt := (List.getElem?_eq_some_iff.1 hx).1
          simp at hlt
          have e0 : x - m.bids.length = 0 := by omega
          rw [e0] at hx
          simp at hx
          subst hx
          exact .inr ⟨by omega, rfl, rfl⟩
      rcases get i b hb with ⟨a1, a2⟩ | ⟨a1, a2, a3⟩ <;> rcases get k b' hb' with ⟨c1, c2⟩ | ⟨c1, c2, c3⟩
      · exact h.uniq i k b b' a1 c1 e1 e2
      · exact absurd ⟨e1.trans c2, e2.trans c3⟩ (hno i b a1)
      · exact absurd ⟨e1.symm.trans a2, e2.symm.trans a3⟩ (hno k b' c1)
      · omega
    · show (m.bids ++ [newBid m ten ref j])[i]? = some b
      rw [List.getElem?_append_left (List.getElem?_eq_some_iff.1 hb).1]
      exact hb
  · exact ⟨h.of_bids rfl rfl rfl, NoMove.of_bids rfl⟩

theorem SoundM.cancel {m : MkG} (h : SoundM m) (ten ref : Int) : SoundM (cancelM m ten ref) ∧ NoMove m (cancelM m ten ref) := by
  unfold cancelM
  simp only
  split
  · rename_i he
    show SoundM { m.logs (callCancel ten ref) with bids := setState m.bids (findZ m.bids ten ref).toNat 3 } ∧ NoMove m { m.logs (callCancel ten ref) with bids := setState m.bids (findZ m.bids ten ref).toNat 3 }
    cases hb : m.bids[(findZ m.bids ten ref).toNat]? with
    | none =>
      have : setState m.bids (findZ m.bids ten ref).toNat 3 = m.bids := by unfold setState; rw [hb]
      rw [this]
      exact ⟨h.of_bids rfl rfl rfl, NoMove.of_bids rfl⟩
    | some b =>
      have hst : b.state = 1 := by
        unfold cancelE at he
        split at he
        · simp at he
        · split at he
          · simp at he
          · split at he
            · rename_i hs
              simp [stateAt, hb] at hs
              exact hs
            · simp at he
      have e : setState m.bids (findZ m.bids ten ref).toNat 3 = m.bids.set (findZ m.bids ten ref).toNat { b with state := 3 } := by unfold setState; rw [hb]
      rw [e]
      have hmem := List.mem_of_getElem? hb
      have hl := (List.getElem?_eq_some_iff.1 hb).1
      refine ⟨⟨fun t h0 h1 => ?_, fun x hx => ?_, fun x hx => ?_, uniq_set hb rfl h.uniq⟩, fun i x hx => ?_⟩
      · show usedL (m.bids.set _ { b with state := 3 }) t ≤ m.units.getD t.toNat 0
        rw [kused_set m.bids _ b hb 3 (by omega) (by omega)]
        exact h.free t h0 h1
      · rcases List.mem_or_eq_of_mem_set hx with hx | rfl
        · exact h.won x hx
        · intro hs; simp at hs
      · rcases List.mem_or_eq_of_mem_set hx with hx | rfl
        · exact h.oth x hx
        · intro _; exact h.oth b hmem (by omega)
      · by_cases ei : (findZ m.bids ten ref).toNat = i
        · subst ei
          rw [hb] at hx
          obtain rfl := Option.some.inj hx
          exact ⟨{ b with state := 3 }, by simp [hl], rfl, fun hs => absurd hst hs⟩
        · exact ⟨x, by simp [ei]; exact hx, rfl, fun _ => ⟨rfl, rfl⟩⟩
  · exact ⟨h.of_bids rfl rfl rfl, NoMove.of_bids rfl⟩

theorem SoundM.start {m : MkG} (h : SoundM m) (hok : MkOk m) {i : Nat} {b : BidG} {t : Int} (hb : m.bids[i]? = some b) (ho : b.openB m t = true) (hf : fitsB m b t = true) (_ : 0 ≤ t) : SoundM (startM m i t) ∧ NoMove m (startM m i t) := by
  rw [startM_eq hb]
  simp only [BidG.openB, Bool.and_eq_true, decide_eq_true_eq, beq_iff_eq] at ho
  obtain ⟨⟨⟨hs1, _⟩, har⟩, hdl⟩ := ho
  have hl := (List.getElem?_eq_some_iff.1 hb).1
  have hbok := hok.bid b (List.mem_of_getElem? hb)
  have hj := jobIn_true hbok.job
  simp only [fitsB, List.all_eq_true, List.mem_range, decide_eq_true_eq] at hf
  refine ⟨⟨fun s h0 h1 => ?_, fun x hx => ?_, fun x hx => ?_, uniq_set hb rfl h.uniq⟩, fun k x hx => ?_⟩
  · show usedL (m.bids.set i { b with state := 2, start := t }) s ≤ m.units.getD s.toNat 0
    rw [kused_start hb (by omega)]
    have := h.free s h0 h1
    by_cases e : t ≤ s ∧ s < t + b.job.len
    · rw [if_pos e]
      have h1' : s < m.c.ticks := h1
      have hx := hf (s - t).toNat (by omega)
      rw [show t + (((s - t).toNat : Nat) : Int) = s by omega, freeV, if_neg (by omega)] at hx
      omega
    · rw [if_neg e]
      omega
  · rcases List.mem_or_eq_of_mem_set hx with hx | rfl
    · exact h.won x hx
    · intro _; exact ⟨har, hdl⟩
  · rcases List.mem_or_eq_of_mem_set hx with hx | rfl
    · exact h.oth x hx
    · intro hs; simp at hs
  · by_cases e : i = k
    · subst e
      rw [hb] at hx
      obtain rfl := Option.some.inj hx
      exact ⟨{ b with state := 2, start := t }, by simp [hl], rfl, fun hs => absurd hs1 hs⟩
    · exact ⟨x, by simp [e]; exact hx, rfl, fun _ => ⟨rfl, rfl⟩⟩

theorem SoundM.fold {t : Int} (ht0 : 0 ≤ t) (ht1 : t ≤ 64) : ∀ (l : List Nat) (s : TkS), SoundM s.1 → MkOk s.1 → l.Nodup → (∀ i ∈ l, ∃ b, s.1.bids[i]? = some b ∧ b.openB s.1 t = true) → SoundM (l.foldl (tickOne t none) s).1 ∧ NoMove s.1 (l.foldl (tickOne t none) s).1
  | [], s, h, _, _, _ => ⟨h, NoMove.refl _⟩
  | i :: l, s, h, hok, hn, hc => by
    obtain ⟨b, hb, ho⟩ := hc i List.mem_cons_self
    rw [List.nodup_cons] at hn
    have key : SoundM (tickOne t none s i).1 ∧ NoMove s.1 (tickOne t none s i).1 := by
      unfold tickOne
      rw [hb]
      simp only
      split
      · rename_i hw
        rw [Bool.and_eq_true] at hw
        exact h.start hok hb ho hw.1 ht0
      · exact ⟨h, NoMove.refl _⟩
    have hal := AlikeM.one t none s i
    have ih := SoundM.fold ht0 ht1 l (tickOne t none s i) key.1 (hok.one none i ht0 ht1) hn.2 (fun k hk => by
      obtain ⟨x, hx, hxo⟩ := hc k (List.mem_cons_of_mem _ hk)
      refine ⟨x, (hal.bid k (by simp; rintro rfl; exact hn.1 hk)).trans hx, ?_⟩
      unfold BidG.openB suspAt at hxo ⊢
      rw [hal.susp]
      exact hxo)
    exact ⟨ih.1, key.2.trans ih.2⟩
theorem BidG.expire_name (b : BidG) (now : Int) : nameB (b.expire now) = nameB b := by
  unfold BidG.expire
  split <;> rfl
theorem SoundM.tickEnd {m : MkG} (h : SoundM m) (t : Int) : SoundM (tickEnd t m) ∧ NoMove m (tickEnd t m) := by
  have hx : ∀ b : BidG, (b.state ≠ 1 → (b.expire (t + 1)).state = b.state) ∧ (b.expire (t + 1)).start = b.start ∧ (b.state = 1 → (b.expire (t + 1)).state ≠ 2) := fun b => by
    unfold BidG.expire
    refine ⟨fun hs => ?_, ?_, fun hs => ?_⟩
    · split
      · rename_i hw; simp at hw; exact absurd hw.1 hs
      · rfl
    · split <;> rfl
    · split
      · simp
      · omega
  refine ⟨⟨fun s h0 h1 => ?_, fun b hb => ?_, fun b hb => ?_, uniq_map (fun b => BidG.expire_name b _) h.uniq⟩, fun i b hb => ?_⟩
  · show usedL (m.bids.map fun b => b.expire (t + 1)) s ≤ m.units.getD s.toNat 0
    rw [kused_map _ s m.bids (fun b _ => ⟨?_, by unfold BidG.expire; split <;> rfl⟩)]
    · exact h.free s h0 h1
    · unfold BidG.runs BidG.expire
      split
      · rename_i hw; simp at hw; simp [hw.1]
      · rfl
  · simp only [Go.Proofs.Ytminceigjejipaa.tickEnd, List.mem_map] at hb
    obtain ⟨b0, hb0, rfl⟩ := hb
    intro hs
    by_cases e : b0.state = 1
    · exact absurd hs ((hx b0).2.2 e)
    · have hw := h.won b0 hb0 (by rw [← (hx b0).1 e]; exact hs)
      have hn := BidG.expire_name b0 (t + 1)
      simp only [nameB, Prod.mk.injEq] at hn
      rw [(hx b0).2.1, hn.2.2.1, hn.2.2.2.1]
      exact hw
  · simp only [Go.Proofs.Ytminceigjejipaa.tickEnd, List.mem_map] at hb
    obtain ⟨b0, hb0, rfl⟩ := hb
    intro hs
    rw [(hx b0).2.1]
    by_cases e : b0.state = 1
    · exact h.oth b0 hb0 (by omega)
    · exact h.oth b0 hb0 (by rw [← (hx b0).1 e]; exact hs)
  · refine ⟨b.expire (t + 1), ?_, BidG.expire_name b _, fun hs => ⟨(hx b).1 hs, (hx b).2.1⟩⟩
    show (m.bids.map fun b => b.expire (t + 1))[i]? = _
    rw [List.getElem?_map, hb]
    rfl
theorem IsOrder.nodup {m : MkG} {t : Int} {l : List Nat} (h : IsOrder m t l) : l.Nodup := by
  refine h.sorted.imp (fun {a b} hab e => ?_)
  subst e
  rw [aheadI_irrefl] at hab
  cases hab
theorem SoundM.tick {m m' : MkG} (h : SoundM m) (hg : GoodM m) {z : Int} {names : List (Int × Int)} (hr : TickRes m z names m') : SoundM m' ∧ NoMove m m' := by
  rcases hr with ⟨_, _, _, rfl⟩ | ⟨_, _, _, _, rfl⟩ | ⟨hl, ht, _, l, hord, rfl, _⟩
  · exact ⟨h, NoMove.refl _⟩
  · exact ⟨h.of_bids rfl rfl rfl, NoMove.of_bids rfl⟩
  · have hok := hg.ok
    have hcf := cfgOk_true hok.ck
    have hok1 := hok.logs hl callTick
    unfold tickM
    simp only
    rw [ghostI_none hok1 hg.ghost]
    simp only [wantEnd]
    have h1 : SoundM (m.logs callTick) := h.of_bids rfl rfl rfl
    obtain ⟨a1, a2⟩ := SoundM.fold hok.t0 (by omega) l (m.logs callTick, []) h1 hok1 hord.nodup (fun i hi => by
      obtain ⟨b, hb, hc⟩ := (hord.mem i).1 hi
      refine ⟨b, hb, ?_⟩
      unfold candB at hc
      rw [Bool.and_eq_true] at hc
      exact hc.1)
    obtain ⟨c1, c2⟩ := a1.tickEnd m.time
    exact ⟨c1, (NoMove.of_bids (m := m) (m' := m.logs callTick) rfl).trans (a2.trans c2)⟩
theorem SoundM.cap {m m' : MkG} (h : SoundM m) (hok : MkOk m) {f t u z : Int} (hr : CapRes m f t u z m') : SoundM m' ∧ NoMove m m' := by
  rcases hr with ⟨_, _, rfl⟩ | ⟨_, _, _, rfl⟩ | ⟨ha, hc, _, rfl⟩
  · exact ⟨h.of_bids rfl rfl rfl, NoMove.of_bids rfl⟩
  · exact ⟨h.of_bids rfl rfl rfl, NoMove.of_bids rfl⟩
  · refine ⟨⟨fun s h0 h1 => ?_, h.won, h.oth, h.uniq⟩, NoMove.of_bids rfl⟩
    have h1' : s < m.c.ticks := h1
    have hnu := hok.nu
    show usedL m.bids s ≤ ((List.range m.units.length).map fun i : Nat => if f ≤ (i : Int) ∧ (i : Int) < t then u else m.units.getD i 0).getD s.toNat 0
    rw [List.getD, List.getElem?_map, List.getElem?_range (by omega)]
    simp only [Option.map_some, Option.getD_some]
    rw [show ((s.toNat : Nat) : Int) = s by omega]
    split
    · rename_i hs
      exact hc s hs.1 hs.2
    · exact h.free s h0 h1
theorem SoundM.does {m m' : MkG} (h : SoundM m) (hg : GoodM m) {s : StepG} {z : Int} {names : List (Int × Int)} {bills : List InvG} (hr : DoesRes m s z names bills m') : SoundM m' ∧ NoMove m m' := by
  rcases hr with ⟨_, hr, _⟩ | ⟨_, hr, _⟩ | ⟨_, hr, _⟩ | ⟨_, hr, _⟩ | ⟨_, hr, _⟩ | ⟨_, hr, _⟩ | ⟨_, hr, _⟩ | ⟨_, _, rfl, _⟩
  · rcases hr with ⟨_, _, rfl⟩ | ⟨_, _, rfl⟩
    · exact ⟨h, NoMove.refl _⟩
    · exact h.submit _ _ _
  · rcases hr with ⟨_, _, rfl⟩ | ⟨_, _, rfl⟩
    · exact ⟨h, NoMove.refl _⟩
    · exact h.cancel _ _
  · rcases hr with ⟨_, _, rfl⟩ | ⟨_, _, rfl⟩
    · exact ⟨h, NoMove.refl _⟩
    · have e : (suspendM m s.a (evenB s.b)).bids = m.bids ∧ (suspendM m s.a (evenB s.b)).units = m.units ∧ (suspendM m s.a (evenB s.b)).c = m.c := by unfold suspendM; simp only; split <;> exact ⟨rfl, rfl, rfl⟩
      exact ⟨h.of_bids e.1 e.2.1 e.2.2, NoMove.of_bids e.1⟩
  · rcases hr with ⟨_, _, rfl⟩ | ⟨_, hr⟩
    · exact ⟨h, NoMove.refl _⟩
    · exact h.cap hg.ok hr
  · exact h.tick hg hr
  · rcases hr with ⟨_, _, _, rfl⟩ | ⟨_, _, _, rfl⟩
    · exact ⟨h, NoMove.refl _⟩
    · have hn : ∀ b : BidG, nameB (b.bill m.time) = nameB b ∧ (b.bill m.time).state = b.state ∧ (b.bill m.time).start = b.start := fun b => by unfold BidG.bill; split <;> exact ⟨rfl, rfl, rfl⟩
      refine ⟨⟨fun s h0 h1 => ?_, fun b hb => ?_, fun b hb => ?_, uniq_map (fun b => (hn b).1) h.uniq⟩, fun i b hb => ⟨b.bill m.time, ?_, (hn b).1, fun _ => (hn b).2⟩⟩
      · show usedL (m.bids.map fun b => b.bill m.time) s ≤ m.units.getD s.toNat 0
        rw [kused_map _ s m.bids (fun b _ => by unfold BidG.bill; split <;> exact ⟨rfl, rfl⟩)]
        exact h.free s h0 h1
      · obtain ⟨b0, hb0, rfl⟩ := List.mem_map.1 hb
        have e := (hn b0).1
        simp only [nameB, Prod.mk.injEq] at e
        rw [(hn b0).2.1, (hn b0).2.2, e.2.2.1, e.2.2.2.1]
        exact h.won b0 hb0
      · obtain ⟨b0, hb0, rfl⟩ := List.mem_map.1 hb
        rw [(hn b0).2.1, (hn b0).2.2]
        exact h.oth b0 hb0
      · show (m.bids.map fun b => b.bill m.time)[i]? = _
        rw [List.getElem?_map, hb]
        rfl
  · rcases hr with ⟨_, _, rfl⟩ | ⟨_, _, rfl⟩
    · exact ⟨h, NoMove.refl _⟩
    · have e : (payM m s.a s.b).bids = m.bids ∧ (payM m s.a s.b).units = m.units ∧ (payM m s.a s.b).c = m.c := by unfold payM; simp only; split <;> exact ⟨rfl, rfl, rfl⟩
      exact ⟨h.of_bids e.1 e.2.1 e.2.2, NoMove.of_bids e.1⟩
  · exact ⟨h, NoMove.refl _⟩
/-- a bid is found under its name -/
theorem SoundM.look {m : MkG} (h : SoundM m) (hok : MkOk m) {i : Nat} {b : BidG} (hb : m.bids[i]? = some b) : lookE m b.ten b.ref = 0 ∧ lookS m b.ten b.ref = b.state ∧ lookT m b.ten b.ref = b.start := by
  have hbo := hok.bid b (List.mem_of_getElem? hb)
  have hfz : findZ m.bids b.ten b.ref = i := findZ_some hb (by simp [BidG.is]) (fun k x hk hx => by
    cases hi : x.is b.ten b.ref
    · rfl
    · simp [BidG.is] at hi
      have := h.uniq k i x b hx hb hi.1 hi.2
      omega)
  have hT : m.tenB b.ten = true := by have := hbo.t0; have := hbo.t1; simp [MkG.tenB]; omega
  have hE : lookE m b.ten b.ref = 0 := by simp [lookE, hT, hfz]
  refine ⟨hE, ?_, ?_⟩
  · rw [lookS, hE, if_pos rfl, hfz]
    simp [stateAt, hb]
  · rw [lookT, hE, if_pos rfl, hfz]
    simp [startAt, hb]
end Go.Proofs.Ytminceigjejipaa

/-
  yardkeep: 'turned': a bid has gone from one state to another as it may.
-/
namespace Go.Proofs.Ytminceigjejipaa
open Go.RowKit

def bidV (s t : Int) : Value := .agg #[.int .i64 s, .int .i64 t]
def knownV (o : KnownG) : Value := .agg #[.int .i64 o.ten, .int .i64 o.ref, .int .i64 o.job.arr, .int .i64 o.job.dl, .int .i64 o.job.len, .int .i64 o.job.units, .int .i64 o.job.val, .int .i64 o.arrival, .int .i64 o.step, .int .i64 o.wasS, .int .i64 o.wasT, .bool o.charged]
/-- may it? -/
structure TurnOk (ws wt s t : Int) (o : KnownG) : Prop where
  stay : ws ≠ 1 → s = ws ∧ t = wt
  won : ws = 1 → s = 2 → o.arrival ≤ t ∧ t ≤ o.job.dl - o.job.len
  oth : ws = 1 → s ≠ 2 → t = -1 ∧ (s = 1 ∨ s = 3 ∨ s = 4)

set_option maxRecDepth 100000 in
set_option maxHeartbeats 2000000 in
theorem turned_any (ws wt s t : Int) (o : KnownG) (w : World) (h : TurnOk ws wt s t o) (hd : 0 ≤ o.job.dl ∧ o.job.dl ≤ 64) (hl : 1 ≤ o.job.len ∧ o.job.len ≤ 64) :
    Calls Try.prog 52 #[bidV ws wt, bidV s t, knownV o] w fun e w' => e = .returned (.bool true) ∧ Chg (fun _ => False) w w' := by
  unfold bidV knownV
  have hwr : IntKind.i64.wrap (o.job.dl - o.job.len) = o.job.dl - o.job.len := by rw [IntKind.wrap_i64]; omega
  by_cases h1 : ws = 1
  · subst h1
    by_cases h2 : s = 2
    · subst h2
      obtain ⟨a1, a2⟩ := h.won rfl rfl
      have d1 : decide (o.arrival ≤ t) = true := by simpa using a1
      have d2 : decide (t ≤ o.job.dl - o.job.len) = true := by simpa using a2
      clear h
      go_enter Try.func52, Try.ntmps52
      go_wp2
      go_ret
      exact ⟨rfl, (((Chg.refl _ _).alloc _).alloc _).alloc _⟩
    · obtain ⟨a1, a2⟩ := h.oth rfl h2
      subst a1
      clear h
      rcases a2 with rfl | rfl | rfl
      · go_enter Try.func52, Try.ntmps52
        go_wp2
        go_ret
        exact ⟨rfl, (((Chg.refl _ _).alloc _).alloc _).alloc _⟩
      · go_enter Try.func52, Try.ntmps52
        go_wp2
        go_ret
        exact ⟨rfl, (((Chg.refl _ _).alloc _).alloc _).alloc _⟩
      · go_enter Try.func52, Try.ntmps52
        go_wp2
        go_ret
        exact ⟨rfl, (((Chg.refl _ _).alloc _).alloc _).alloc _⟩
  · obtain ⟨rfl, rfl⟩ := h.stay h1
    have e1 : (s == 1) = false := by simpa using h1
    clear h
    go_enter Try.func52, Try.ntmps52
    go_wp2
    go_ret
    exact ⟨by simp, (((Chg.refl _ _).alloc _).alloc _).alloc _⟩
end Go.Proofs.Ytminceigjejipaa
