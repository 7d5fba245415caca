import Derived.Test.YtminceigjejipaaG16
import Derived.Test.YtminceigjejipaaG17
import Derived.Deep.RegionHeld3
import Derived.Test.YtminceigjejipaaG2
import Derived.Deep.CutRange
/-
  WHAT HOLDS OF EVERY MARKET, for the statements that ask no document (P16): units in use, starts, names; what has been decided stays. Nothing of the program.
-/
namespace Go.Proofs.Ytminceigjejipaa

theorem kused_set (l : List BidG) (i : Nat) (b : BidG) (hb : l[i]? = some b) (s : Int) (h1 : b.state ≠ 2) (h2 : s ≠ 2) (t : Int) : usedL (l.set i { b with state := s }) t = usedL l t := by
  induction l generalizing i with
  | nil => simp at hb
  | cons y l ih =>
    cases i with
    | zero =>
      simp at hb
      subst hb
      simp [usedL, BidG.runs, h1, h2]
    | succ i =>
      simp only [List.getElem?_cons_succ] at hb
      have := ih i hb
      simp only [usedL, List.set_cons_succ, List.map_cons, List.sum_cons] at this ⊢
      omega
theorem kused_start {l : List BidG} {i : Nat} {b : BidG} (hb : l[i]? = some b) (h1 : b.state ≠ 2) (t s : Int) : usedL (l.set i { b with state := 2, start := t }) s = usedL l s + if t ≤ s ∧ s < t + b.job.len then b.job.units else 0 := by
  induction l generalizing i with
  | nil => simp at hb
  | cons y l ih =>
    cases i with
    | zero =>
      simp at hb
      subst hb
      simp [usedL, BidG.runs, h1]
      omega
    | succ i =>
      simp only [List.getElem?_cons_succ] at hb
      have := ih hb
      simp only [usedL, List.set_cons_succ, List.map_cons, List.sum_cons] at this ⊢
      omega
theorem kused_map (f : BidG → BidG) (t : Int) : ∀ l : List BidG, (∀ b ∈ l, (f b).runs t = b.runs t ∧ (f b).job = b.job) → usedL (l.map f) t = usedL l t
  | [], _ => rfl
  | b :: l, h => by
    have ih := kused_map f t l (fun x hx => h x (List.mem_cons_of_mem _ hx))
    have h0 := h b List.mem_cons_self
    simp only [usedL, List.map_cons, List.sum_cons, h0.1, h0.2] at ih ⊢
    rw [ih]

/-- what never changes of a bid but what is charged -/
def nameB (b : BidG) : Int × Int × JobG × Int × Int := (b.ten, b.ref, b.job, b.arrival, b.entry)
/-- what has been decided stays; the older bids keep their places -/
def NoMove (m m' : MkG) : Prop := ∀ (i : Nat) (b : BidG), m.bids[i]? = some b → ∃ b', m'.bids[i]? = some b' ∧ nameB b' = nameB b ∧ (b.state ≠ 1 → b'.state = b.state ∧ b'.start = b.start)
theorem NoMove.refl (m : MkG) : NoMove m m := fun _ b hb => ⟨b, hb, rfl, fun _ => ⟨rfl, rfl⟩⟩
theorem NoMove.trans {m m' m2 : MkG} (h : NoMove m m') (h' : NoMove m' m2) : NoMove m m2 := fun i b hb => by
  obtain ⟨b1, a1, a2, a3⟩ := h i b hb
  obtain ⟨b2, c1, c2, c3⟩ := h' i b1 a1
  refine ⟨b2, c1, c2.trans a2, fun hs => ?_⟩
  have := a3 hs
  have := c3 (by omega)
  omega
theorem NoMove.of_bids {m m' : MkG} (h : m'.bids = m.bids) : NoMove m m' := fun _ b hb => ⟨b, by rw [h]; exact hb, rfl, fun _ => ⟨rfl, rfl⟩⟩

structure SoundM (m : MkG) : Prop where
  free : ∀ t : Int, 0 ≤ t → t < m.c.ticks → usedL m.bids t ≤ m.units.getD t.toNat 0
  won : ∀ b ∈ m.bids, b.state = 2 → b.arrival ≤ b.start ∧ b.start + b.job.len ≤ b.job.dl
  oth : ∀ b ∈ m.bids, b.state ≠ 2 → b.start = -1
  uniq : ∀ (i k : Nat) (b b' : BidG), m.bids[i]? = some b → m.bids[k]? = some b' → b.ten = b'.ten → b.ref = b'.ref → i = k

theorem SoundM.open {c : CfgG} (hc : cfgOk c = true) : SoundM (openM c) := by
  have hq := cfgOk_true hc
  refine ⟨fun t h0 h1 => ?_, fun b hb => by simp [openM] at hb, fun b hb => by simp [openM] at hb, fun i k b b' hb => by simp [openM] at hb⟩
  show usedL [] t ≤ (List.replicate c.ticks.toNat c.cap).getD t.toNat 0
  have h1' : t < c.ticks := h1
  rw [List.getD, List.getElem?_replicate, if_pos (by omega)]
  simp [usedL]
  omega
theorem SoundM.of_bids {m m' : MkG} (h : SoundM m) (hb : m'.bids = m.bids) (hu : m'.units = m.units) (hc : m'.c = m.c) : SoundM m' :=
  ⟨by rw [hb, hu, hc]; exact h.free, by rw [hb]; exact h.won, by rw [hb]; exact h.oth, by rw [hb]; exact h.uniq⟩
/-- one bid has turned, its name has not -/
theorem uniq_set {l : List BidG} {i : Nat} {b b' : BidG} (hb : l[i]? = some b) (hn : nameB b' = nameB b) (h : ∀ (i k : Nat) (b b' : BidG), l[i]? = some b → l[k]? = some b' → b.ten = b'.ten → b.ref = b'.ref → i = k) : ∀ (x k : Nat) (u v : BidG), (l.set i b')[x]? = some u → (l.set i b')[k]? = some v → u.ten = v.ten → u.ref = v.ref → x = k := by
  have hl := (List.getElem?_eq_some_iff.1 hb).1
  simp only [nameB, Prod.mk.injEq] at hn
  have get : ∀ (x : Nat) (u : BidG), (l.set i b')[x]? = some u → ∃ u', l[x]? = some u' ∧ u'.ten = u.ten ∧ u'.ref = u.ref := fun x u hx => by
    rw [List.getElem?_set] at hx
    by_cases e : i = x
    · subst e
      rw [if_pos rfl, if_pos hl] at hx
      obtain rfl := Option.some.inj hx
      exact ⟨b, hb, hn.1.symm, hn.2.1.symm⟩
    · rw [if_neg e] at hx
      exact ⟨u, hx, rfl, rfl⟩
  intro x k u v hx hk h1 h2
  obtain ⟨u', a1, a2, a3⟩ := get x u hx
  obtain ⟨v', c1, c2, c3⟩ := get k v hk
  exact h x k u' v' a1 c1 (by rw [a2, c2, h1]) (by rw [a3, c3, h2])
theorem uniq_map {l : List BidG} {f : BidG → BidG} (hf : ∀ b, nameB (f b) = nameB b) (h : ∀ (i k : Nat) (b b' : BidG), l[i]? = some b → l[k]? = some b' → b.ten = b'.ten → b.ref = b'.ref → i = k) : ∀ (x k : Nat) (u v : BidG), (l.map f)[x]? = some u → (l.map f)[k]? = some v → u.ten = v.ten → u.ref = v.ref → x = k := by
  intro x k u v hx hk h1 h2
  rw [List.getElem?_map] at hx hk
  cases hx' : l[x]? with
  | none => rw [hx'] at hx; cases hx
  | some a =>
    cases hk' : l[k]? with
    | none => rw [hk'] at hk; cases hk
    | some c =>
      rw [hx'] at hx
      rw [hk'] at hk
      simp at hx hk
      subst hx hk
      have fa := hf a
      have fc := hf c
      simp only [nameB, Prod.mk.injEq] at fa fc
      exact h x k a c hx' hk' (by rw [← fa.1, ← fc.1, h1]) (by rw [← fa.2.1, ← fc.2.1, h2])

theorem SoundM.submit {m : MkG} (h : SoundM m) (ten ref : Int) (j : JobG) : SoundM (submitM m ten ref j) ∧ NoMove m (submitM m ten ref j) := by
  unfold submitM
  simp only
  split
  · rename_i he
    have hR : refB m ten ref = false := by
      cases hR : refB m ten ref
      · rfl
      · unfold submitE at he
        split at he
        · simp at he
        · split at he
          · simp at he
          · simp at he
    have hfz : findZ m.bids ten ref < 0 := by simp [refB] at hR; omega
    have hno : ∀ (k : Nat) (b : BidG), m.bids[k]? = some b → ¬ (b.ten = ten ∧ b.ref = ref) := fun k b hb ⟨h1, h2⟩ => by
      cases hf : findL m.bids ten ref with
      | some i => rw [findZ, hf] at hfz; simp at hfz; omega
      | none =>
        unfold findL at hf
        rw [List.findIdx?_eq_none_iff] at hf
        have := hf b (List.mem_of_getElem? hb)
        simp [BidG.is, h1, h2] at this
    refine ⟨⟨fun t h0 h1 => ?_, fun b hb => ?_, fun b hb => ?_, fun i k b b' hb hb' e1 e2 => ?_⟩, fun i b hb => ⟨b, ?_, rfl, fun _ => ⟨rfl, rfl⟩⟩⟩
    · show usedL (m.bids ++ [newBid m ten ref j]) t ≤ m.units.getD t.toNat 0
      rw [usedL_snoc, if_neg (by simp [BidG.runs, newBid])]
      have := h.free t h0 h1
      omega
    · rcases List.mem_append.1 hb with hb | hb
      · exact h.won b hb
      · simp at hb; subst hb; intro hs; simp [newBid] at hs
    · rcases List.mem_append.1 hb with hb | hb
      · exact h.oth b hb
      · simp at hb; subst hb; intro _; rfl
    · have get : ∀ (x : Nat) (u : BidG), (m.bids ++ [newBid m ten ref j])[x]? = some u → (m.bids[x]? = some u ∧ x < m.bids.length) ∨ (x = m.bids.length ∧ u.ten = ten ∧ u.ref = ref) := fun x u hx => by
        rw [List.getElem?_append] at hx
        by_cases e : x < m.bids.length
        · rw [if_pos e] at hx
          exact .inl ⟨hx, e⟩
        · rw [if_neg e] at hx
          have hlt := (List.getElem?_eq_some_iff.1 hx).1
          simp at hlt
          have e0 : x - m.bids.length = 0 := by omega
          rw [e0] at hx
          simp at hx
          subst hx
          exact .inr ⟨by omega, rfl, rfl⟩
      rcases get i b hb with ⟨a1, a2⟩ | ⟨a1, a2, a3⟩ <;> rcases get k b' hb' with ⟨c1, c2⟩ | ⟨c1, c2, c3⟩
      · exact h.uniq i k b b' a1 c1 e1 e2
      · exact absurd ⟨e1.trans c2, e2.trans c3⟩ (hno i b a1)
      · exact absurd ⟨e1.symm.trans a2, e2.symm.trans a3⟩ (hno k b' c1)
      · omega
    · show (m.bids ++ [newBid m ten ref j])[i]? = some b
      rw [List.getElem?_append_left (List.getElem?_eq_some_iff.1 hb).1]
      exact hb
  · exact ⟨h.of_bids rfl rfl rfl, NoMove.of_bids rfl⟩

theorem SoundM.cancel {m : MkG} (h : SoundM m) (ten ref : Int) : SoundM (cancelM m ten ref) ∧ NoMove m (cancelM m ten ref) := by
  unfold cancelM
  simp only
  split
  · rename_i he
    show SoundM { m.logs (callCancel ten ref) with bids := setState m.bids (findZ m.bids ten ref).toNat 3 } ∧ NoMove m { m.logs (callCancel ten ref) with bids := setState m.bids (findZ m.bids ten ref).toNat 3 }
    cases hb : m.bids[(findZ m.bids ten ref).toNat]? with
    | none =>
      have : setState m.bids (findZ m.bids ten ref).toNat 3 = m.bids := by unfold setState; rw [hb]
      rw [this]
      exact ⟨h.of_bids rfl rfl rfl, NoMove.of_bids rfl⟩
    | some b =>
      have hst : b.state = 1 := by
        unfold cancelE at he
        split at he
        · simp at he
        · split at he
          · simp at he
          · split at he
            · rename_i hs
              simp [stateAt, hb] at hs
              exact hs
            · simp at he
      have e : setState m.bids (findZ m.bids ten ref).toNat 3 = m.bids.set (findZ m.bids ten ref).toNat { b with state := 3 } := by unfold setState; rw [hb]
      rw [e]
      have hmem := List.mem_of_getElem? hb
      have hl := (List.getElem?_eq_some_iff.1 hb).1
      refine ⟨⟨fun t h0 h1 => ?_, fun x hx => ?_, fun x hx => ?_, uniq_set hb rfl h.uniq⟩, fun i x hx => ?_⟩
      · show usedL (m.bids.set _ { b with state := 3 }) t ≤ m.units.getD t.toNat 0
        rw [kused_set m.bids _ b hb 3 (by omega) (by omega)]
        exact h.free t h0 h1
      · rcases List.mem_or_eq_of_mem_set hx with hx | rfl
        · exact h.won x hx
        · intro hs; simp at hs
      · rcases List.mem_or_eq_of_mem_set hx with hx | rfl
        · exact h.oth x hx
        · intro _; exact h.oth b hmem (by omega)
      · by_cases ei : (findZ m.bids ten ref).toNat = i
        · subst ei
          rw [hb] at hx
          obtain rfl := Option.some.inj hx
          exact ⟨{ b with state := 3 }, by simp [hl], rfl, fun hs => absurd hst hs⟩
        · exact ⟨x, by simp [ei]; exact hx, rfl, fun _ => ⟨rfl, rfl⟩⟩
  · exact ⟨h.of_bids rfl rfl rfl, NoMove.of_bids rfl⟩

theorem SoundM.start {m : MkG} (h : SoundM m) (hok : MkOk m) {i : Nat} {b : BidG} {t : Int} (hb : m.bids[i]? = some b) (ho : b.openB m t = true) (hf : fitsB m b t = true) (_ : 0 ≤ t) : SoundM (startM m i t) ∧ NoMove m (startM m i t) := by
  rw [startM_eq hb]
  simp only [BidG.openB, Bool.and_eq_true, decide_eq_true_eq, beq_iff_eq] at ho
  obtain ⟨⟨⟨hs1, _⟩, har⟩, hdl⟩ := ho
  have hl := (List.getElem?_eq_some_iff.1 hb).1
  have hbok := hok.bid b (List.mem_of_getElem? hb)
  have hj := jobIn_true hbok.job
  simp only [fitsB, List.all_eq_true, List.mem_range, decide_eq_true_eq] at hf
  refine ⟨⟨fun s h0 h1 => ?_, fun x hx => ?_, fun x hx => ?_, uniq_set hb rfl h.uniq⟩, fun k x hx => ?_⟩
  · show usedL (m.bids.set i { b with state := 2, start := t }) s ≤ m.units.getD s.toNat 0
    rw [kused_start hb (by omega)]
    have := h.free s h0 h1
    by_cases e : t ≤ s ∧ s < t + b.job.len
    · rw [if_pos e]
      have h1' : s < m.c.ticks := h1
      have hx := hf (s - t).toNat (by omega)
      rw [show t + (((s - t).toNat : Nat) : Int) = s by omega, freeV, if_neg (by omega)] at hx
      omega
    · rw [if_neg e]
      omega
  · rcases List.mem_or_eq_of_mem_set hx with hx | rfl
    · exact h.won x hx
    · intro _; exact ⟨har, hdl⟩
  · rcases List.mem_or_eq_of_mem_set hx with hx | rfl
    · exact h.oth x hx
    · intro hs; simp at hs
  · by_cases e : i = k
    · subst e
      rw [hb] at hx
      obtain rfl := Option.some.inj hx
      exact ⟨{ b with state := 2, start := t }, by simp [hl], rfl, fun hs => absurd hs1 hs⟩
    · exact ⟨x, by simp [e]; exact hx, rfl, fun _ => ⟨rfl, rfl⟩⟩

theorem SoundM.fold {t : Int} (ht0 : 0 ≤ t) (ht1 : t ≤ 64) : ∀ (l : List Nat) (s : TkS), SoundM s.1 → MkOk s.1 → l.Nodup → (∀ i ∈ l, ∃ b, s.1.bids[i]? = some b ∧ b.openB s.1 t = true) → SoundM (l.foldl (tickOne t none) s).1 ∧ NoMove s.1 (l.foldl (tickOne t none) s).1
  | [], s, h, _, _, _ => ⟨h, NoMove.refl _⟩
  | i :: l, s, h, hok, hn, hc => by
    obtain ⟨b, hb, ho⟩ := hc i List.mem_cons_self
    rw [List.nodup_cons] at hn
    have key : SoundM (tickOne t none s i).1 ∧ NoMove s.1 (tickOne t none s i).1 := by
      unfold tickOne
      rw [hb]
      simp only
      split
      · rename_i hw
        rw [Bool.and_eq_true] at hw
        exact h.start hok hb ho hw.1 ht0
      · exact ⟨h, NoMove.refl _⟩
    have hal := AlikeM.one t none s i
    have ih := SoundM.fold ht0 ht1 l (tickOne t none s i) key.1 (hok.one none i ht0 ht1) hn.2 (fun k hk => by
      obtain ⟨x, hx, hxo⟩ := hc k (List.mem_cons_of_mem _ hk)
      refine ⟨x, (hal.bid k (by simp; rintro rfl; exact hn.1 hk)).trans hx, ?_⟩
      unfold BidG.openB suspAt at hxo ⊢
      rw [hal.susp]
      exact hxo)
    exact ⟨ih.1, key.2.trans ih.2⟩
theorem BidG.expire_name (b : BidG) (now : Int) : nameB (b.expire now) = nameB b := by
  unfold BidG.expire
  split <;> rfl
theorem SoundM.tickEnd {m : MkG} (h : SoundM m) (t : Int) : SoundM (tickEnd t m) ∧ NoMove m (tickEnd t m) := by
  have hx : ∀ b : BidG, (b.state ≠ 1 → (b.expire (t + 1)).state = b.state) ∧ (b.expire (t + 1)).start = b.start ∧ (b.state = 1 → (b.expire (t + 1)).state ≠ 2) := fun b => by
    unfold BidG.expire
    refine ⟨fun hs => ?_, ?_, fun hs => ?_⟩
    · split
      · rename_i hw; simp at hw; exact absurd hw.1 hs
      · rfl
    · split <;> rfl
    · split
      · simp
      · omega
  refine ⟨⟨fun s h0 h1 => ?_, fun b hb => ?_, fun b hb => ?_, uniq_map (fun b => BidG.expire_name b _) h.uniq⟩, fun i b hb => ?_⟩
  · show usedL (m.bids.map fun b => b.expire (t + 1)) s ≤ m.units.getD s.toNat 0
    rw [kused_map _ s m.bids (fun b _ => ⟨?_, by unfold BidG.expire; split <;> rfl⟩)]
    · exact h.free s h0 h1
    · unfold BidG.runs BidG.expire
      split
      · rename_i hw; simp at hw; simp [hw.1]
      · rfl
  · simp only [Go.Proofs.Ytminceigjejipaa.tickEnd, List.mem_map] at hb
    obtain ⟨b0, hb0, rfl⟩ := hb
    intro hs
    by_cases e : b0.state = 1
    · exact absurd hs ((hx b0).2.2 e)
    · have hw := h.won b0 hb0 (by rw [← (hx b0).1 e]; exact hs)
      have hn := BidG.expire_name b0 (t + 1)
      simp only [nameB, Prod.mk.injEq] at hn
      rw [(hx b0).2.1, hn.2.2.1, hn.2.2.2.1]
      exact hw
  · simp only [Go.Proofs.Ytminceigjejipaa.tickEnd, List.mem_map] at hb
    obtain ⟨b0, hb0, rfl⟩ := hb
    intro hs
    rw [(hx b0).2.1]
    by_cases e : b0.state = 1
    · exact h.oth b0 hb0 (by omega)
    · exact h.oth b0 hb0 (by rw [← (hx b0).1 e]; exact hs)
  · refine ⟨b.expire (t + 1), ?_, BidG.expire_name b _, fun hs => ⟨(hx b).1 hs, (hx b).2.1⟩⟩
    show (m.bids.map fun b => b.expire (t + 1))[i]? = _
    rw [List.getElem?_map, hb]
    rfl
theorem IsOrder.nodup {m : MkG} {t : Int} {l : List Nat} (h : IsOrder m t l) : l.Nodup := by
  refine h.sorted.imp (fun {a b} hab e => ?_)
  subst e
  rw [aheadI_irrefl] at hab
  cases hab
theorem SoundM.tick {m m' : MkG} (h : SoundM m) (hg : GoodM m) {z : Int} {names : List (Int × Int)} (hr : TickRes m z names m') : SoundM m' ∧ NoMove m m' := by
  rcases hr with ⟨_, _, _, rfl⟩ | ⟨_, _, _, _, rfl⟩ | ⟨hl, ht, _, l, hord, rfl, _⟩
  · exact ⟨h, NoMove.refl _⟩
  · exact ⟨h.of_bids rfl rfl rfl, NoMove.of_bids rfl⟩
  · have hok := hg.ok
    have hcf := cfgOk_true hok.ck
    have hok1 := hok.logs hl callTick
    unfold tickM
    simp only
    rw [ghostI_none hok1 hg.ghost]
    simp only [wantEnd]
    have h1 : SoundM (m.logs callTick) := h.of_bids rfl rfl rfl
    obtain ⟨a1, a2⟩ := SoundM.fold hok.t0 (by omega) l (m.logs callTick, []) h1 hok1 hord.nodup (fun i hi => by
      obtain ⟨b, hb, hc⟩ := (hord.mem i).1 hi
      refine ⟨b, hb, ?_⟩
      unfold candB at hc
      rw [Bool.and_eq_true] at hc
      exact hc.1)
    obtain ⟨c1, c2⟩ := a1.tickEnd m.time
    exact ⟨c1, (NoMove.of_bids (m := m) (m' := m.logs callTick) rfl).trans (a2.trans c2)⟩
theorem SoundM.cap {m m' : MkG} (h : SoundM m) (hok : MkOk m) {f t u z : Int} (hr : CapRes m f t u z m') : SoundM m' ∧ NoMove m m' := by
  rcases hr with ⟨_, _, rfl⟩ | ⟨_, _, _, rfl⟩ | ⟨ha, hc, _, rfl⟩
  · exact ⟨h.of_bids rfl rfl rfl, NoMove.of_bids rfl⟩
  · exact ⟨h.of_bids rfl rfl rfl, NoMove.of_bids rfl⟩
  · refine ⟨⟨fun s h0 h1 => ?_, h.won, h.oth, h.uniq⟩, NoMove.of_bids rfl⟩
    have h1' : s < m.c.ticks := h1
    have hnu := hok.nu
    show usedL m.bids s ≤ ((List.range m.units.length).map fun i : Nat => if f ≤ (i : Int) ∧ (i : Int) < t then u else m.units.getD i 0).getD s.toNat 0
    rw [List.getD, List.getElem?_map, List.getElem?_range (by omega)]
    simp only [Option.map_some, Option.getD_some]
    rw [show ((s.toNat : Nat) : Int) = s by omega]
    split
    · rename_i hs
      exact hc s hs.1 hs.2
    · exact h.free s h0 h1
theorem SoundM.does {m m' : MkG} (h : SoundM m) (hg : GoodM m) {s : StepG} {z : Int} {names : List (Int × Int)} {bills : List InvG} (hr : DoesRes m s z names bills m') : SoundM m' ∧ NoMove m m' := by
  rcases hr with ⟨_, hr, _⟩ | ⟨_, hr, _⟩ | ⟨_, hr, _⟩ | ⟨_, hr, _⟩ | ⟨_, hr, _⟩ | ⟨_, hr, _⟩ | ⟨_, hr, _⟩ | ⟨_, _, rfl, _⟩
  · rcases hr with ⟨_, _, rfl⟩ | ⟨_, _, rfl⟩
    · exact ⟨h, NoMove.refl _⟩
    · exact h.submit _ _ _
  · rcases hr with ⟨_, _, rfl⟩ | ⟨_, _, rfl⟩
    · exact ⟨h, NoMove.refl _⟩
    · exact h.cancel _ _
  · rcases hr with ⟨_, _, rfl⟩ | ⟨_, _, rfl⟩
    · exact ⟨h, NoMove.refl _⟩
    · have e : (suspendM m s.a (evenB s.b)).bids = m.bids ∧ (suspendM m s.a (evenB s.b)).units = m.units ∧ (suspendM m s.a (evenB s.b)).c = m.c := by unfold suspendM; simp only; split <;> exact ⟨rfl, rfl, rfl⟩
      exact ⟨h.of_bids e.1 e.2.1 e.2.2, NoMove.of_bids e.1⟩
  · rcases hr with ⟨_, _, rfl⟩ | ⟨_, hr⟩
    · exact ⟨h, NoMove.refl _⟩
    · exact h.cap hg.ok hr
  · exact h.tick hg hr
  · rcases hr with ⟨_, _, _, rfl⟩ | ⟨_, _, _, rfl⟩
    · exact ⟨h, NoMove.refl _⟩
    · have hn : ∀ b : BidG, nameB (b.bill m.time) = nameB b ∧ (b.bill m.time).state = b.state ∧ (b.bill m.time).start = b.start := fun b => by unfold BidG.bill; split <;> exact ⟨rfl, rfl, rfl⟩
      refine ⟨⟨fun s h0 h1 => ?_, fun b hb => ?_, fun b hb => ?_, uniq_map (fun b => (hn b).1) h.uniq⟩, fun i b hb => ⟨b.bill m.time, ?_, (hn b).1, fun _ => (hn b).2⟩⟩
      · show usedL (m.bids.map fun b => b.bill m.time) s ≤ m.units.getD s.toNat 0
        rw [kused_map _ s m.bids (fun b _ => by unfold BidG.bill; split <;> exact ⟨rfl, rfl⟩)]
        exact h.free s h0 h1
      · obtain ⟨b0, hb0, rfl⟩ := List.mem_map.1 hb
        have e := (hn b0).1
        simp only [nameB, Prod.mk.injEq] at e
        rw [(hn b0).2.1, (hn b0).2.2, e.2.2.1, e.2.2.2.1]
        exact h.won b0 hb0
      · obtain ⟨b0, hb0, rfl⟩ := List.mem_map.1 hb
        rw [(hn b0).2.1, (hn b0).2.2]
        exact h.oth b0 hb0
      · show (m.bids.map fun b => b.bill m.time)[i]? = _
        rw [List.getElem?_map, hb]
        rfl
  · rcases hr with ⟨_, _, rfl⟩ | ⟨_, _, rfl⟩
    · exact ⟨h, NoMove.refl _⟩
    · have e : (payM m s.a s.b).bids = m.bids ∧ (payM m s.a s.b).units = m.units ∧ (payM m s.a s.b).c = m.c := by unfold payM; simp only; split <;> exact ⟨rfl, rfl, rfl⟩
      exact ⟨h.of_bids e.1 e.2.1 e.2.2, NoMove.of_bids e.1⟩
  · exact ⟨h, NoMove.refl _⟩
/-- a bid is found under its name -/
theorem SoundM.look {m : MkG} (h : SoundM m) (hok : MkOk m) {i : Nat} {b : BidG} (hb : m.bids[i]? = some b) : lookE m b.ten b.ref = 0 ∧ lookS m b.ten b.ref = b.state ∧ lookT m b.ten b.ref = b.start := by
  have hbo := hok.bid b (List.mem_of_getElem? hb)
  have hfz : findZ m.bids b.ten b.ref = i := findZ_some hb (by simp [BidG.is]) (fun k x hk hx => by
    cases hi : x.is b.ten b.ref
    · rfl
    · simp [BidG.is] at hi
      have := h.uniq k i x b hx hb hi.1 hi.2
      omega)
  have hT : m.tenB b.ten = true := by have := hbo.t0; have := hbo.t1; simp [MkG.tenB]; omega
  have hE : lookE m b.ten b.ref = 0 := by simp [lookE, hT, hfz]
  refine ⟨hE, ?_, ?_⟩
  · rw [lookS, hE, if_pos rfl, hfz]
    simp [stateAt, hb]
  · rw [lookT, hE, if_pos rfl, hfz]
    simp [startAt, hb]
end Go.Proofs.Ytminceigjejipaa

/-
  yardkeep: 'turned': a bid has gone from one state to another as it may.
-/
namespace Go.Proofs.Ytminceigjejipaa
open Go.RowKit

def bidV (s t : Int) : Value := .agg #[.int .i64 s, .int .i64 t]
def knownV (o : KnownG) : Value := .agg #[.int .i64 o.ten, .int .i64 o.ref, .int .i64 o.job.arr, .int .i64 o.job.dl, .int .i64 o.job.len, .int .i64 o.job.units, .int .i64 o.job.val, .int .i64 o.arrival, .int .i64 o.step, .int .i64 o.wasS, .int .i64 o.wasT, .bool o.charged]
/-- may it? -/
structure TurnOk (ws wt s t : Int) (o : KnownG) : Prop where
  stay : ws ≠ 1 → s = ws ∧ t = wt
  won : ws = 1 → s = 2 → o.arrival ≤ t ∧ t ≤ o.job.dl - o.job.len
  oth : ws = 1 → s ≠ 2 → t = -1 ∧ (s = 1 ∨ s = 3 ∨ s = 4)

set_option maxRecDepth 100000 in
set_option maxHeartbeats 2000000 in
theorem turned_any (ws wt s t : Int) (o : KnownG) (w : World) (h : TurnOk ws wt s t o) (hd : 0 ≤ o.job.dl ∧ o.job.dl ≤ 64) (hl : 1 ≤ o.job.len ∧ o.job.len ≤ 64) :
    Calls Try.prog 52 #[bidV ws wt, bidV s t, knownV o] w fun e w' => e = .returned (.bool true) ∧ Chg (fun _ => False) w w' := by
  unfold bidV knownV
  have hwr : IntKind.i64.wrap (o.job.dl - o.job.len) = o.job.dl - o.job.len := by rw [IntKind.wrap_i64]; omega
  by_cases h1 : ws = 1
  · subst h1
    by_cases h2 : s = 2
    · subst h2
      obtain ⟨a1, a2⟩ := h.won rfl rfl
      have d1 : decide (o.arrival ≤ t) = true := by simpa using a1
      have d2 : decide (t ≤ o.job.dl - o.job.len) = true := by simpa using a2
      clear h
      go_enter Try.func52, Try.ntmps52
      go_wp2
      go_ret
      exact ⟨rfl, (((Chg.refl _ _).alloc _).alloc _).alloc _⟩
    · obtain ⟨a1, a2⟩ := h.oth rfl h2
      subst a1
      clear h
      rcases a2 with rfl | rfl | rfl
      · go_enter Try.func52, Try.ntmps52
        go_wp2
        go_ret
        exact ⟨rfl, (((Chg.refl _ _).alloc _).alloc _).alloc _⟩
      · go_enter Try.func52, Try.ntmps52
        go_wp2
        go_ret
        exact ⟨rfl, (((Chg.refl _ _).alloc _).alloc _).alloc _⟩
      · go_enter Try.func52, Try.ntmps52
        go_wp2
        go_ret
        exact ⟨rfl, (((Chg.refl _ _).alloc _).alloc _).alloc _⟩
  · obtain ⟨rfl, rfl⟩ := h.stay h1
    have e1 : (s == 1) = false := by simpa using h1
    clear h
    go_enter Try.func52, Try.ntmps52
    go_wp2
    go_ret
    exact ⟨by simp, (((Chg.refl _ _).alloc _).alloc _).alloc _⟩
end Go.Proofs.Ytminceigjejipaa

/-
  yardkeep: 'sound': all bids and all ticks behind a step.
-/
namespace Go.Proofs.Ytminceigjejipaa
open Go.RowKit

/-- the book tells of the market -/
structure BookRel (m : MkG) (b : BookG) : Prop where
  c : b.c = m.c
  susp : b.susp = m.susp
  units : b.units = m.units
  len : b.bids.length = m.bids.length
  bid : ∀ (i : Nat) (o : KnownG) (x : BidG), b.bids[i]? = some o → m.bids[i]? = some x → o.ten = x.ten ∧ o.ref = x.ref ∧ o.job = x.job ∧ o.arrival = x.arrival
  was : ∀ (i : Nat) (o : KnownG) (x : BidG), b.bids[i]? = some o → m.bids[i]? = some x → o.wasS ≠ 1 → x.state = o.wasS ∧ x.start = o.wasT

def seeO (o : KnownG) (x : BidG) : KnownG := { o with wasS := x.state, wasT := x.start }
def seenTo (m : MkG) (l : List KnownG) (k : Nat) : List KnownG := l.mapIdx fun i o => if i < k then (match m.bids[i]? with | some x => seeO o x | none => o) else o
theorem seenTo_zero (m : MkG) (l : List KnownG) : seenTo m l 0 = l := by
  apply List.ext_getElem?
  intro i
  simp [seenTo]
theorem seenTo_len (m : MkG) (l : List KnownG) (k : Nat) : (seenTo m l k).length = l.length := by simp [seenTo]
theorem seenTo_get (m : MkG) (l : List KnownG) (k : Nat) : (seenTo m l k)[k]? = l[k]? := by simp [seenTo]
theorem seenTo_succ {m : MkG} {l : List KnownG} {k : Nat} {o : KnownG} {x : BidG} (ho : l[k]? = some o) (hx : m.bids[k]? = some x) : seenTo m l (k + 1) = (seenTo m l k).set k (seeO o x) := by
  apply List.ext_getElem?
  intro i
  rw [List.getElem?_set]
  by_cases e : k = i
  · subst e
    have hl := (List.getElem?_eq_some_iff.1 ho).1
    rw [if_pos rfl, if_pos (by rw [seenTo_len]; exact hl)]
    simp [seenTo, ho, hx]
  · rw [if_neg e]
    simp only [seenTo, List.getElem?_mapIdx]
    cases l[i]? with
    | none => rfl
    | some y =>
      simp only [Option.map_some]
      have hik : (i < k + 1) ↔ (i < k) := ⟨fun h => by omega, fun h => by omega⟩
      simp only [hik]
def seenB (m : MkG) (b : BookG) : BookG := { b with bids := seenTo m b.bids b.bids.length }

/-- units in use by the first k bids, and by bid k at the ticks ahead of t -/
def usedTo (m : MkG) (n k : Nat) : List Value := (List.range n).map fun s : Nat => .int .i64 (usedL (m.bids.take k) (s : Int))
def usedMid (m : MkG) (n k : Nat) (x : BidG) (t : Nat) : List Value := (List.range n).map fun s : Nat => .int .i64 (usedL (m.bids.take k) (s : Int) + if x.start ≤ (s : Int) ∧ s < t then x.job.units else 0)

/-- in the midst of 'sound' -/
structure SoSt (YAt : World → Nat → (Nat → Prop) → MkG → Prop) (w0 : World) (y : Nat) (F0 : Nat → Prop) (m : MkG) (p : Nat) (V : BV) (b : BookG) (U n : Nat) (us : List Value) (F : Nat → Prop) (wr : World) : Prop where
  yard : YAt wr y F m
  book : BookAt wr p V b
  used : wr.ownsRow 0 3 1 (.slice (some ⟨U, 0, none⟩) n n) n us
  chg : Chg (fun k => F0 k ∨ V.foot p k) w0 wr
  foot : ∀ k, F k → F0 k ∨ w0.heap.size ≤ k
  fu : ¬ F U
  nu : w0.heap.size ≤ U
  fb : ∀ k, V.foot p k → ¬ F k ∧ k < w0.heap.size

section
variable {YAt : World → Nat → (Nat → Prop) → MkG → Prop} {w0 wr w2 : World} {y : Nat} {F0 F : Nat → Prop} {m : MkG} {p : Nat} {V : BV} {b b' : BookG} {U n : Nat} {us us' : List Value}
theorem SoSt.ltU (h : SoSt YAt w0 y F0 m p V b U n us F wr) : U < wr.heap.size := (h.used.lt U rfl).2
theorem SoSt.yto (h : SoSt YAt w0 y F0 m p V b U n us F wr) (ht : YTo YAt wr y F m w2) : ∃ F', SoSt YAt w0 y F0 m p V b U n us F' w2 ∧ ∀ k, F' k → F k ∨ wr.heap.size ≤ k := by
  obtain ⟨F', a1, a2, a3⟩ := ht
  have hU := h.ltU
  have hs := h.chg.size
  refine ⟨F', ⟨a1, h.book.chg a2 (fun k hk e => (h.fb k hk).1 e), ownsRow_keep h.used (fun k hk => a2.block k (h.used.lt k hk).2 (fun e => by simp [Value.ownBlock] at hk; subst hk; exact h.fu e)), h.chg.trans a2 (fun x hx e => ?_), fun k hk => ?_, fun e => ?_, h.nu, fun k hk => ⟨fun e => ?_, (h.fb k hk).2⟩⟩, a3⟩
  · rcases h.foot x e with e | e
    · exact .inl e
    · omega
  · rcases a3 k hk with e | e
    · exact h.foot k e
    · exact .inr (by omega)
  · rcases a3 U e with e | e
    · exact h.fu e
    · omega
  · rcases a3 k e with e | e
    · exact (h.fb k hk).1 e
    · have := (h.fb k hk).2; omega
theorem SoSt.chg0 (hY : YardSpec YAt) (h : SoSt YAt w0 y F0 m p V b U n us F wr) (hc : Chg (fun _ => False) wr w2) : SoSt YAt w0 y F0 m p V b U n us F w2 :=
  ⟨hY.frame _ _ _ _ _ h.yard (fun k hk => hc.block k (hY.lt _ _ _ _ h.yard k hk) (fun e => e)), h.book.chg0 hc, ownsRow_keep h.used (fun k hk => hc.block k (h.used.lt k hk).2 (fun e => e)), h.chg.trans hc (fun _ _ e => e.elim), h.foot, h.fu, h.nu, h.fb⟩
theorem SoSt.mark (hY : YardSpec YAt) (h : SoSt YAt w0 y F0 m p V b U n us F wr) {i : Nat} {u : Value} (hn : 0 < n) : SoSt YAt w0 y F0 m p V b U n (us.set i u) F (wr.setCell ⟨U, i, none⟩ u) := by
  have far : ∀ k, k ≠ U → (wr.setCell ⟨U, i, none⟩ u).heap[k]? = wr.heap[k]? := fun k hk => Below.heap_setCell _ _ _ _ hk
  exact ⟨hY.frame _ _ _ _ _ h.yard (fun k hk => far k (fun e => h.fu (e ▸ hk))), h.book.frame (fun k hk => far k (by have := (h.fb k hk).2; have := h.nu; omega)), ownsRow_set2 h.used hn rfl u, h.chg.setCell (.inr h.nu) _, h.foot, h.fu, h.nu, h.fb⟩
/-- a block of nobody's has turned -/
theorem SoSt.fresh (hY : YardSpec YAt) (h : SoSt YAt w0 y F0 m p V b U n us F wr) {q : Nat} (hc : Chg (fun k => k = q) wr w2) (h1 : w0.heap.size ≤ q) (h2 : ¬ F q) (h3 : q ≠ U) : SoSt YAt w0 y F0 m p V b U n us F w2 :=
  ⟨hY.frame _ _ _ _ _ h.yard (fun k hk => hc.block k (hY.lt _ _ _ _ h.yard k hk) (fun e => h2 (e ▸ hk))), h.book.chg hc (fun k hk e => by have := (h.fb k hk).2; omega), ownsRow_keep h.used (fun k hk => hc.block k (h.used.lt k hk).2 (fun e => by simp [Value.ownBlock] at hk; omega)), h.chg.trans hc (fun x hx e => by omega), h.foot, h.fu, h.nu, h.fb⟩
/-- what was seen of a bid is written into the book -/
theorem SoSt.see (hY : YardSpec YAt) (h : SoSt YAt w0 y F0 m p V b U n us F wr) {i g : Nat} {o : KnownG} {x : BidG} (ho : b.bids[i]? = some o) (hg : V.bv.ownBlock = some g) : SoSt YAt w0 y F0 m p V { b with bids := b.bids.set i (seeO o x) } U n us F ((wr.setCell ⟨g, i * 12 + 9, none⟩ (.int .i64 x.state)).setCell ⟨g, i * 12 + 10, none⟩ (.int .i64 x.start)) := by
  have hgf : V.foot p g := .inr (.inl hg)
  have hgl := (h.fb g hgf).2
  have hil := (List.getElem?_eq_some_iff.1 ho).1
  obtain ⟨W, hW⟩ : ∃ W, W = (wr.setCell ⟨g, i * 12 + 9, none⟩ (.int .i64 x.state)).setCell ⟨g, i * 12 + 10, none⟩ (.int .i64 x.start) := ⟨_, rfl⟩
  rw [← hW]
  have far : ∀ k, k ≠ g → W.heap[k]? = wr.heap[k]? := fun k hk => by rw [hW, Below.heap_setCell _ _ _ _ hk, Below.heap_setCell _ _ _ _ hk]
  refine ⟨hY.frame _ _ _ _ _ h.yard (fun k hk => far k (fun e => (h.fb g hgf).1 (e ▸ hk))), ?_, ownsRow_keep h.used (fun k hk => far k (by simp [Value.ownBlock] at hk; have := h.nu; omega)), ?_, h.foot, h.fu, h.nu, h.fb⟩
  · have r1 := h.book.setKnown (r := 9) (u := .int .i64 x.state) (o' := { o with wasS := x.state }) ho (by omega) hg rfl
    have r2 := r1.setKnown (i := i) (r := 10) (u := .int .i64 x.start) (o := { o with wasS := x.state }) (o' := seeO o x) (by simp [hil]) (by omega) hg rfl
    rw [hW]
    simpa using r2
  · rw [hW]
    exact (h.chg.setCell (.inl (.inr hgf)) _).setCell (.inl (.inr hgf)) _
end
end Go.Proofs.Ytminceigjejipaa

namespace Go.Proofs.Ytminceigjejipaa
open Go.RowKit

/-- what was there is there -/
theorem chg_keep {w w' : World} (h : Chg (fun _ => False) w w') : ∀ p v, w.cell? p = some v → w'.cell? p = some v := by
  intro p v hv
  have hl : p.block < w.heap.size := by
    rcases Nat.lt_or_ge p.block w.heap.size with e | e
    · exact e
    · unfold World.cell? at hv
      rw [Array.getElem?_eq_none e] at hv
      simp at hv
  rw [h.cell hl (fun h => h)]
  exact hv
theorem usedTo_zero (m : MkG) (n : Nat) : usedTo m n 0 = List.replicate n (.int .i64 0) := by
  apply List.ext_getElem?
  intro i
  by_cases hi : i < n <;> simp [usedTo, usedL, hi]
theorem usedMid_start {m : MkG} {n k : Nat} {x : BidG} {t : Nat} (h : x.start = (t : Int)) : usedMid m n k x t = usedTo m n k := by
  apply List.ext_getElem?
  intro i
  by_cases hi : i < n
  · simp only [usedMid, usedTo, List.getElem?_map, List.getElem?_range hi, Option.map_some]
    rw [if_neg (by omega)]
    simp
  · simp [usedMid, usedTo, hi]
theorem usedMid_step {m : MkG} {n k : Nat} {x : BidG} {t : Nat} (h : x.start ≤ (t : Int)) (ht : t < n) : (usedMid m n k x t).set t (.int .i64 (usedL (m.bids.take k) (t : Int) + x.job.units)) = usedMid m n k x (t + 1) := by
  apply List.ext_getElem?
  intro i
  rw [List.getElem?_set]
  by_cases hi : i < n
  · by_cases e : t = i
    · subst e
      simp only [usedMid, List.length_map, List.length_range, hi, if_true, List.getElem?_map, List.getElem?_range hi, Option.map_some]
      rw [if_pos ⟨h, by omega⟩]
    · rw [if_neg e]
      simp only [usedMid, List.getElem?_map, List.getElem?_range hi, Option.map_some]
      have : (x.start ≤ (i : Int) ∧ i < t) ↔ (x.start ≤ (i : Int) ∧ i < t + 1) := by omega
      simp only [this]
  · by_cases e : t = i
    · omega
    · simp [usedMid, hi, e]
theorem usedTo_succ {m : MkG} {n k : Nat} {x : BidG} (hx : m.bids[k]? = some x) (h2 : x.state ≠ 2) : usedTo m n (k + 1) = usedTo m n k := by
  apply List.ext_getElem?
  intro i
  by_cases hi : i < n
  · simp only [usedTo, List.getElem?_map, List.getElem?_range hi, Option.map_some]
    rw [take_snoc hx, usedL_snoc, if_neg (by simp [BidG.runs, h2])]
    simp
  · simp [usedTo, hi]
theorem usedMid_end {m : MkG} {n k : Nat} {x : BidG} {t : Nat} (hx : m.bids[k]? = some x) (h2 : x.state = 2) (ht : (t : Int) = x.start + x.job.len) : usedMid m n k x t = usedTo m n (k + 1) := by
  apply List.ext_getElem?
  intro i
  by_cases hi : i < n
  · simp only [usedMid, usedTo, List.getElem?_map, List.getElem?_range hi, Option.map_some]
    rw [take_snoc hx, usedL_snoc]
    have : (x.start ≤ (i : Int) ∧ i < t) ↔ x.runs (i : Int) = true := by simp [BidG.runs, h2]; omega
    by_cases e : x.runs (i : Int) = true
    · rw [if_pos (this.2 e), if_pos e]
    · rw [if_neg (fun h => e (this.1 h)), if_neg e]
  · simp [usedMid, usedTo, hi]

set_option maxRecDepth 100000 in
set_option maxHeartbeats 16000000 in
theorem sound_any {YAt : World → Nat → (Nat → Prop) → MkG → Prop} (hY : YardSpec YAt) (y : Nat) (F0 : Nat → Prop) (m : MkG) (p : Nat) (V : BV) (b : BookG) (w : World) (hy : YAt w y F0 m) (hg : GoodM m) (hs : SoundM m) (hbk : BookAt w p V b) (hrel : BookRel m b) (hdis : ∀ k, V.foot p k → ¬ F0 k) :
    Calls Try.prog 20 #[.pointer (some ⟨p, 0, none⟩), .pointer (some ⟨y, 0, none⟩)] w fun e w' => e = .returned (.bool true) ∧ ∃ F, YAt w' y F m ∧ BookAt w' p V (seenB m b) ∧ Chg (fun k => F0 k ∨ V.foot p k) w w' ∧ (∀ k, F k → F0 k ∨ w.heap.size ≤ k) ∧ ∀ k, V.foot p k → ¬ F k := by
  have HY := hide hY
  have HG := hide hg
  have HSM := hide hs
  have HREL := hide hrel
  have hcf := cfgOk_true hg.ok.ck
  have hnb := hg.ok.bl
  have HFL := hide (hY.lt _ _ _ _ hy)
  obtain ⟨n, hn⟩ := Int.eq_ofNat_of_zero_le (show 0 ≤ m.c.ticks by omega)
  have hn1 : 1 ≤ n := by omega
  have hn2 : n ≤ 64 := by omega
  have HN := hide hn
  have c0 : w.cell? ⟨p, 0, none⟩ = some (.int .i64 (n : Int)) := by rw [← hn, ← hrel.c]; exact hbk.cell 0
  have hmk := run_make_row' (P := Try.prog) 27 3 (.int .i64 0) 8 Try.underlying27 infoInt' rfl .i64 .i64 n (by omega) (by omega)
  obtain ⟨nb, hnb2⟩ : ∃ nb, nb = m.bids.length := ⟨_, rfl⟩
  rw [← hnb2] at hnb
  have HNB := hide hnb2
  obtain ⟨w1, hw1⟩ : ∃ w1, w1 = w.alloc (.cells (madeCells #[.int .i64 0] n) 3) := ⟨_, rfl⟩
  have HST0 := hide (show SoSt YAt w y F0 m p V { b with bids := seenTo m b.bids 0 } w.heap.size n (usedTo m n 0) F0 w1 from by
    have hc : Chg (fun _ => False) w w1 := by rw [hw1]; exact (Chg.refl _ _).alloc _
    have hal : w1.heap[w.heap.size]? = some (.cells (madeCells #[.int .i64 0] n) 3 (0, 0)) := by rw [hw1]; exact heap_alloc_new w _
    refine ⟨hY.frame _ _ _ _ _ hy (fun k hk => hc.block k (hY.lt _ _ _ _ hy k hk) (fun e => e)), by rw [seenTo_zero]; exact hbk.chg0 hc, ?_, hc.mono (fun _ _ e => e.elim), fun k hk => .inl hk, fun e => by have := hY.lt _ _ _ _ hy _ e; omega, Nat.le_refl _, fun k hk => ⟨hdis k hk, hbk.foot_lt k hk⟩⟩
    rw [usedTo_zero]
    exact ⟨by simp, .inr ⟨w.heap.size, n, _, rfl, Nat.zero_le _, hal, Nat.le_refl _, by unfold maxLen; omega, by rw [size_madeCells]; omega, by rw [made_list]; simp⟩⟩)
  clear hY hg hs hbk hrel hdis hy hcf hn hnb2
  go_enter Try.func20, Try.ntmps20
  go_wp2
  rw [← hw1]
  clear hw1 c0 hmk
  go_loopw [6] (fun v wr => ∃ (k : Nat) (F : Nat → Prop), k ≤ nb ∧ v = .int .i64 k ∧ SoSt YAt w y F0 m p V { b with bids := seenTo m b.bids k } w.heap.size n (usedTo m n k) F wr) (fun v _ => nb - (intOf v).toNat)
  case atStart => exact ⟨0, F0, by omega, rfl, HST0.out⟩
  case round =>
    clear HST0
    obtain ⟨k, F, hk, rfl, hst⟩ := hrel
    have HST := hide hst
    have hlen : (seenTo m b.bids k).length = nb := by rw [seenTo_len, HREL.out.len, HNB.out]
    by_cases hlt : k < nb
    · obtain ⟨x, hx⟩ : ∃ x, m.bids[k]? = some x := ⟨_, List.getElem?_eq_getElem (by rw [← HNB.out]; exact hlt)⟩
      obtain ⟨o, ho⟩ : ∃ o, b.bids[k]? = some o := ⟨_, List.getElem?_eq_getElem (by rw [HREL.out.len, ← HNB.out]; exact hlt)⟩
      have ho2 : (seenTo m b.bids k)[k]? = some o := by rw [seenTo_get]; exact ho
      obtain ⟨g, cap, hv, hown, hgl, hcl, hfr⟩ := hst.book.bidCell ho2
      have hv' : V.bv = .slice (some ⟨g, 0, none⟩) nb cap := by rw [← hlen]; exact hv
      obtain ⟨e1, e2, e3, e4⟩ := HREL.out.bid k o x ho hx
      have hxo := HG.out.ok.bid x (List.mem_of_getElem? hx)
      have hj := jobIn_true hxo.job
      have hcf := cfgOk_true HG.out.ok.ck
      have ha0 := hxo.a0
      have ha1 := hxo.a1
      have hjd : (0 ≤ x.job.dl ∧ x.job.dl ≤ 64) ∧ (1 ≤ x.job.len ∧ x.job.len ≤ 64) ∧ (1 ≤ x.job.units ∧ x.job.units ≤ 1000) := by omega
      have HLOOK := hide (HSM.out.look HG.out.ok hx)
      have HTURN := hide (show TurnOk o.wasS o.wasT x.state x.start o from ⟨HREL.out.was k o x ho hx, fun _ h2 => by have := HSM.out.won x (List.mem_of_getElem? hx) h2; rw [e3, e4]; omega, fun h1 h2 => ⟨HSM.out.oth x (List.mem_of_getElem? hx) h2, by have := hxo.s0; have := hxo.s1; omega⟩⟩)
      have I1 : I64 x.ten := by have := hxo.t0; have := hxo.t1; unfold I64; omega
      have I2 : I64 x.ref := by have := hxo.r0; have := hxo.r1; unfold I64; omega
      have c5 : wr.cell? ⟨p, 5, none⟩ = some (.slice (some ⟨g, 0, none⟩) nb cap) := by rw [← hv']; exact hst.book.cell 5
      have b0 : wr.cell? ⟨g, k * 12, none⟩ = some (.int .i64 x.ten) := by rw [← e1]; exact hcl 0 _ rfl
      have b1 : wr.cell? ⟨g, k * 12 + 1, none⟩ = some (.int .i64 x.ref) := by rw [← e2]; exact hcl 1 _ rfl
      have k0 : (0 : Int) ≤ (k : Int) := by omega
      have k1 : (k : Int) < (nb : Int) := by omega
      have n3 : wr.heap.size ≠ p := by have := hst.book.lt; omega
      have n4 : wr.heap.size ≠ g := by omega
      have hgF : ¬ F g := (hst.fb g (.inr (.inl hown))).1
      have hpF : ¬ F p := (hst.fb p (.inl rfl)).1
      have hpl : p < wr.heap.size := hst.book.lt
      have HFw := hide (HY.out.lt _ _ _ _ hst.yard)
      have HLK := hide (fun (w' : World) (h : Chg (fun _ => False) wr w') => HY.out.look w' y F m x.ten x.ref (HST.out.chg0 HY.out h).yard HG.out.ok I1 I2)
      have HYT := hide (fun (w' w2 : World) (h : Chg (fun _ => False) wr w') (ht : YTo YAt w' y F m w2) => (HST.out.chg0 HY.out h).yto ht)
      have HSZ := hide (show w.heap.size ≤ wr.heap.size ∧ wr.heap.size ≠ w.heap.size from ⟨hst.chg.size, by have := hst.ltU; omega⟩)
      have HLK2 := hide (fun (w' : World) (h : Chg (fun _ => False) wr w') => show Calls Try.prog 23 #[.pointer (some ⟨y, 0, none⟩), .int .i64 x.ten, .int .i64 x.ref] w' (fun e w2 => e = .returned (.tuple #[.agg #[.int .i64 x.state, .int .i64 x.start], .int .i64 0]) ∧ ∃ F2, SoSt YAt w y F0 m p V { b with bids := seenTo m b.bids k } w.heap.size n (usedTo m n k) F2 w2 ∧ w2.cell? ⟨p, 5, none⟩ = some (.slice (some ⟨g, 0, none⟩) nb cap) ∧ w2.cell? ⟨g, k * 12, none⟩ = some (.int .i64 x.ten) ∧ w2.cell? ⟨g, k * 12 + 1, none⟩ = some (.int .i64 x.ref) ∧ w2.heap.size ≠ p ∧ w2.heap.size ≠ g ∧ (∀ q, wr.heap.size ≤ q → q < w'.heap.size → w2.heap[q]? = w'.heap[q]? ∧ ¬ F2 q) ∧ wr.heap.size ≤ w2.heap.size) from
        (HLK.out w' h).mono (fun e w2 ⟨he, ht⟩ => by
          have hkq : Chg F w' w2 := by obtain ⟨_, _, a2, _⟩ := ht; exact a2
          obtain ⟨F2, hst2, hF2⟩ := HYT.out w' w2 h ht
          refine ⟨by rw [he, HLOOK.out.1, HLOOK.out.2.1, HLOOK.out.2.2], F2, hst2, ?_, ?_, ?_, ?_, ?_, fun q h1 h2 => ⟨hkq.block q h2 (fun e => by have := HFw.out q e; omega), fun e => by rcases hF2 q e with e | e; (have := HFw.out q e; omega); omega⟩, Nat.le_trans h.size hkq.size⟩
          · have := hst2.book.cell 5
            rw [show (bookBox V { b with bids := seenTo m b.bids k })[5]? = some V.bv from rfl, hv'] at this
            exact this
          · obtain ⟨g', cap', _, hown', _, hcl', _⟩ := hst2.book.bidCell ho2
            obtain rfl : g' = g := by rw [hown] at hown'; exact (Option.some.inj hown').symm
            rw [← e1]
            exact hcl' 0 _ rfl
          · obtain ⟨g', cap', _, hown', _, hcl', _⟩ := hst2.book.bidCell ho2
            obtain rfl : g' = g := by rw [hown] at hown'; exact (Option.some.inj hown').symm
            rw [← e2]
            exact hcl' 1 _ rfl
          · have := hst2.book.lt; omega
          · have := (hst2.book.bids.lt g hown).2; omega))
      have HBV := hide hv'
      have HX := hide hx
      have HO := hide ho
      have HO2 := hide ho2
      have HOW := hide hown
      have HJ := hide hjd
      have HE := hide (And.intro e3 e4)
      have HE12 := hide (And.intro e1 e2)
      clear hst hv hv' hcl hfr hown hx ho ho2 hxo hj hcf ha0 ha1 hjd e1 e2 e3 e4 hlen
      go_upto_region 5 with fail
      go_cut [7, 8] from 20 to 120 (fun q e8 wx => ∃ (Q : Nat) (F2 : Nat → Prop), q = .pointer (some ⟨Q, 0, none⟩) ∧ e8 = .int .i64 0 ∧ SoSt YAt w y F0 m p V { b with bids := seenTo m b.bids k } w.heap.size n (usedTo m n k) F2 wx ∧ wx.heap[Q]? = some (.cells #[.int .i64 x.state, .int .i64 x.start] 68 (0, 0)) ∧ wr.heap.size ≤ Q ∧ ¬ F2 Q)
      case first =>
        go_region_held3 (fun w' => w'.cell? ⟨p, 5, none⟩ = some (.slice (some ⟨g, 0, none⟩) nb cap) ∧ w'.cell? ⟨g, k * 12, none⟩ = some (.int .i64 x.ten) ∧ w'.cell? ⟨g, k * 12 + 1, none⟩ = some (.int .i64 x.ref)) (go_keep)
          (first
            | (go_at_call 23; refine (HLK2.out _ (by exact ((Chg.refl _ wr).alloc _).drew)).mono ?_; rintro e w2 ⟨rfl, F2, hst2, y5, y0, y1, n1, n2, hq, hsz⟩; have hnq := (hq wr.heap.size (Nat.le_refl _) (by simp)).2; have hbk := (hq wr.heap.size (Nat.le_refl _) (by simp)).1.trans (heap_alloc_new wr (.cells #[.int .i64 0, .int .i64 0] 68)); have z0 : w2.cell? ⟨wr.heap.size, 0, none⟩ = some (.int .i64 0) := (by unfold World.cell?; rw [hbk]; rfl); have z1 : w2.cell? ⟨wr.heap.size, 1, none⟩ = some (.int .i64 0) := (by unfold World.cell?; rw [hbk]; rfl); have zf0 : w2.frozen? ⟨wr.heap.size, 0, none⟩ = false := (by unfold World.frozen?; rw [hbk]; simp); have zf1 : w2.frozen? ⟨wr.heap.size, 1, none⟩ = false := (by unfold World.frozen?; rw [hbk]; simp); have HBK := hide hbk; have HNQ := hide hnq; have HST2 := hide hst2; clear hst2 hq hbk hnq hsz)
            | (go_at_call 23; refine (HLK2.out _ (by first | exact Chg.refl _ _ | exact (Chg.refl _ _).drew)).mono ?_; rintro e w2 ⟨rfl, F2, hst2, y5, y0, y1, n1, n2, hq, hsz⟩; have HSZ2 := hide hsz; have HST2 := hide hst2; clear hst2 hq hsz))
        · go_wp2_with fail
          go_meet
          case rel => exact ⟨w2.heap.size, F2, rfl, rfl, HST2.out.chg0 HY.out ((Chg.refl _ _).alloc _), heap_alloc_new w2 _, HSZ2.out, fun e => Nat.lt_irrefl _ (HY.out.lt _ _ _ _ HST2.out.yard _ e)⟩
        · go_wp2_with fail
          go_meet
          case rel => exact ⟨wr.heap.size, F2, rfl, rfl, HST2.out.fresh HY.out (q := wr.heap.size) (((Chg.refl (fun k => k = wr.heap.size) w2).setCell (p := ⟨wr.heap.size, 0, none⟩) (.inl rfl) _).setCell (p := ⟨wr.heap.size, 1, none⟩) (.inl rfl) _) HSZ.out.1 HNQ.out HSZ.out.2, box_set (f := 1) (box_set (f := 0) HBK.out _) _, Nat.le_refl _, HNQ.out⟩
      case rest =>
        obtain ⟨Q, F2, rfl, rfl, hst2, hbq, hQ1, hQ2⟩ := hcut
        have HS2 := hide hst2
        clear c5 b0 b1
        obtain ⟨g', cap', hv', hown', hgl2, hcl, hfr⟩ := hst2.book.bidCell HO2.out
        obtain rfl : g' = g := by rw [HOW.out] at hown'; exact (Option.some.inj hown').symm
        have hcap : cap' = cap := by rw [HBV.out] at hv'; simp at hv'; exact hv'.2.symm
        subst hcap
        have c5 : wc.cell? ⟨p, 5, none⟩ = some (.slice (some ⟨g', 0, none⟩) nb cap') := by rw [← HBV.out]; exact hst2.book.cell 5
        have q0 : wc.cell? ⟨Q, 0, none⟩ = some (.int .i64 x.state) := by unfold World.cell?; rw [hbq]; rfl
        have q1 : wc.cell? ⟨Q, 1, none⟩ = some (.int .i64 x.start) := by unfold World.cell?; rw [hbq]; rfl
        have f0 : wc.cell? ⟨g', k * 12, none⟩ = some (.int .i64 o.ten) := hcl 0 _ rfl
        have f1 : wc.cell? ⟨g', k * 12 + 1, none⟩ = some (.int .i64 o.ref) := hcl 1 _ rfl
        have f2 : wc.cell? ⟨g', k * 12 + 2, none⟩ = some (.int .i64 o.job.arr) := hcl 2 _ rfl
        have f3 : wc.cell? ⟨g', k * 12 + 3, none⟩ = some (.int .i64 o.job.dl) := hcl 3 _ rfl
        have f4 : wc.cell? ⟨g', k * 12 + 4, none⟩ = some (.int .i64 o.job.len) := hcl 4 _ rfl
        have f5 : wc.cell? ⟨g', k * 12 + 5, none⟩ = some (.int .i64 o.job.units) := hcl 5 _ rfl
        have f6 : wc.cell? ⟨g', k * 12 + 6, none⟩ = some (.int .i64 o.job.val) := hcl 6 _ rfl
        have f7 : wc.cell? ⟨g', k * 12 + 7, none⟩ = some (.int .i64 o.arrival) := hcl 7 _ rfl
        have f8 : wc.cell? ⟨g', k * 12 + 8, none⟩ = some (.int .i64 o.step) := hcl 8 _ rfl
        have f9 : wc.cell? ⟨g', k * 12 + 9, none⟩ = some (.int .i64 o.wasS) := hcl 9 _ rfl
        have f10 : wc.cell? ⟨g', k * 12 + 10, none⟩ = some (.int .i64 o.wasT) := hcl 10 _ rfl
        have f11 : wc.cell? ⟨g', k * 12 + 11, none⟩ = some (.bool o.charged) := hcl 11 _ rfl
        have HTA := hide (fun (w' : World) => turned_any o.wasS o.wasT x.state x.start o w' HTURN.out (by rw [HE.out.1]; exact HJ.out.1) (by rw [HE.out.1]; exact HJ.out.2.1))
        unfold bidV knownV at HTA
        have HBQ := hide hbq
        clear hst2 hcl hfr hv' hown' hbq
        go_wp2_with fail
        go_region_held3 (fun w' => w'.cell? ⟨p, 5, none⟩ = some (.slice (some ⟨g', 0, none⟩) nb cap') ∧ w'.cell? ⟨Q, 0, none⟩ = some (.int .i64 x.state) ∧ w'.cell? ⟨Q, 1, none⟩ = some (.int .i64 x.start) ∧ w'.cell? ⟨g', k * 12, none⟩ = some (.int .i64 o.ten) ∧ w'.cell? ⟨g', k * 12 + 1, none⟩ = some (.int .i64 o.ref) ∧ w'.cell? ⟨g', k * 12 + 2, none⟩ = some (.int .i64 o.job.arr) ∧ w'.cell? ⟨g', k * 12 + 3, none⟩ = some (.int .i64 o.job.dl) ∧ w'.cell? ⟨g', k * 12 + 4, none⟩ = some (.int .i64 o.job.len) ∧ w'.cell? ⟨g', k * 12 + 5, none⟩ = some (.int .i64 o.job.units) ∧ w'.cell? ⟨g', k * 12 + 6, none⟩ = some (.int .i64 o.job.val) ∧ w'.cell? ⟨g', k * 12 + 7, none⟩ = some (.int .i64 o.arrival) ∧ w'.cell? ⟨g', k * 12 + 8, none⟩ = some (.int .i64 o.step) ∧ w'.cell? ⟨g', k * 12 + 9, none⟩ = some (.int .i64 o.wasS) ∧ w'.cell? ⟨g', k * 12 + 10, none⟩ = some (.int .i64 o.wasT) ∧ w'.cell? ⟨g', k * 12 + 11, none⟩ = some (.bool o.charged)) (go_keep)
          (first | (go_at_call 52; refine (HTA.out _).mono ?_; rintro e w3 ⟨rfl, hq⟩; have hk3 := chg_keep hq; have HQ := hide hq; have y5 := hk3 _ _ c5; have yq0 := hk3 _ _ q0; have yq1 := hk3 _ _ q1; have h0 := hk3 _ _ f0; have h1 := hk3 _ _ f1; have h2 := hk3 _ _ f2; have h3 := hk3 _ _ f3; have h4 := hk3 _ _ f4; have h5 := hk3 _ _ f5; have h6 := hk3 _ _ f6; have h7 := hk3 _ _ f7; have h8 := hk3 _ _ f8; have h9 := hk3 _ _ f9; have h10 := hk3 _ _ f10; have h11 := hk3 _ _ f11; clear hk3 hq))
        all_goals
          have HC3 : Hid (Chg (fun _ => False) wc w3) := ⟨HQ.out.os, HQ.out.tape, HQ.out.output, HQ.out.size, HQ.out.block⟩
          have HS3 := hide (HS2.out.chg0 HY.out HC3.out)
          have hb3 : w3.heap[Q]? = some (.cells #[.int .i64 x.state, .int .i64 x.start] 68 (0, 0)) := (HC3.out.block _ (Array.getElem?_eq_some_iff.1 HBQ.out).1 (fun h => h)).trans HBQ.out
          obtain ⟨g2, cap2, _, hown2, hgl3, hcl3, hfr3⟩ := HS3.out.book.bidCell HO2.out
          obtain rfl : g2 = g' := by rw [HOW.out] at hown2; exact (Option.some.inj hown2).symm
          have ff9 := hfr3 (k * 12 + 9)
          have ff10 := hfr3 (k * 12 + 10)
          have ngp : g2 ≠ p := fun e => ownsRow_box HS3.out.book.bids HS3.out.book.box (by decide) (e ▸ hown2)
          have ngQ : g2 ≠ Q := by have := (HS3.out.fb g2 (.inr (.inl hown2))).2; have := HSZ.out.1; omega
          have HB3 := hide hb3
          have HS4 := hide (HS3.out.see HY.out (i := k) (x := x) HO2.out HOW.out)
          have HSUC := hide (seenTo_succ HO.out HX.out)
          clear hcl3 hfr3 hown2 HQ c5 q0 q1 f0 f1 f2 f3 f4 f5 f6 f7 f8 f9 f10 f11 HTA hb3
          go_wp2
          go_region_held3 (fun w' => w'.cell? ⟨p, 5, none⟩ = some (.slice (some ⟨g2, 0, none⟩) nb cap') ∧ w'.cell? ⟨Q, 0, none⟩ = some (.int .i64 x.state) ∧ w'.cell? ⟨Q, 1, none⟩ = some (.int .i64 x.start)) (go_keep) (fail)
          all_goals
            obtain ⟨w4, hw4⟩ : ∃ w4, w4 = ((w3.setCell ⟨g2, k * 12 + 9, none⟩ (.int .i64 x.state)).setCell ⟨g2, k * 12 + 9 + 1, none⟩ (.int .i64 x.start)).drew := ⟨_, rfl⟩
            rw [← hw4]
            have HS5 := hide (show SoSt YAt w y F0 m p V { b with bids := seenTo m b.bids (k + 1) } w.heap.size n (usedTo m n k) F2 w4 from by
              rw [hw4, HSUC.out]
              exact HS4.out.chg0 HY.out ((Chg.refl _ _).drew))
            have HB4 : Hid (w4.heap[Q]? = some (.cells #[.int .i64 x.state, .int .i64 x.start] 68 (0, 0))) := by
              rw [hw4]
              show ((w3.setCell _ _).setCell _ _).heap[Q]? = _
              rw [Below.heap_setCell _ _ _ _ (Ne.symm ngQ), Below.heap_setCell _ _ _ _ (Ne.symm ngQ)]
              exact HB3.out
            have qq0 : w4.cell? ⟨Q, 0, none⟩ = some (.int .i64 x.state) := by unfold World.cell?; rw [HB4.out]; rfl
            have qq1 : w4.cell? ⟨Q, 1, none⟩ = some (.int .i64 x.start) := by unfold World.cell?; rw [HB4.out]; rfl
            clear hw4 HS4 HS3 HB3 y5 yq0 yq1 h0 h1 h2 h3 h4 h5 h6 h7 h8 h9 h10 h11 ff9 ff10
            by_cases hs2 : x.state = 2
            rotate_left
            · have e2 : (x.state == 2) = false := by simpa using hs2
              have HU := hide (usedTo_succ (n := n) HX.out hs2)
              go_wp2
              go_loopw [10] (fun v wr => v = .int .i64 x.start ∧ wr = w4) (fun _ _ => 0)
              case atStart => exact ⟨rfl, rfl⟩
              case round =>
                obtain ⟨rfl, hwr⟩ := hrel
                subst hwr
                go_wp2
                go_quiet (fail)
                go_wp2
                go_roundw
                case rel => exact ⟨k + 1, F2, by omega, by go_num, by rw [HU.out]; exact HS5.out.chg0 HY.out ((Chg.refl _ _).drewN _)⟩
                case measure => simp [intOf]; omega
            · have hwon := HSM.out.won x (List.mem_of_getElem? HX.out) hs2
              have hxo := HG.out.ok.bid x (List.mem_of_getElem? HX.out)
              have hj := jobIn_true hxo.job
              have ha0 := hxo.a0
              have hNN := HN.out
              obtain ⟨a, ha⟩ := Int.eq_ofNat_of_zero_le (show 0 ≤ x.start by omega)
              obtain ⟨E, hE⟩ : ∃ E : Nat, (E : Int) = x.start + x.job.len := ⟨(x.start + x.job.len).toNat, by omega⟩
              have hEn : E ≤ n := by omega
              have haE : a ≤ E := by omega
              have HA := hide ha
              have HEE := hide hE
              have HST2' := hide hs2
              have hlb := hxo.st1
              have hub := HJ.out.2.1.2
              rw [ha] at qq1
              rw [hs2] at qq0
              clear hwon hxo hj ha0 hNN
              go_wp2
              go_loopw [10] (fun v wr => ∃ t : Nat, a ≤ t ∧ t ≤ E ∧ v = .int .i64 t ∧ SoSt YAt w y F0 m p V { b with bids := seenTo m b.bids (k + 1) } w.heap.size n (usedMid m n k x t) F2 wr ∧ wr.heap[Q]? = some (.cells #[.int .i64 x.state, .int .i64 x.start] 68 (0, 0))) (fun v _ => E - (intOf v).toNat)
              case atStart => exact ⟨a, Nat.le_refl _, haE, rfl, by rw [usedMid_start HA.out]; exact HS5.out, HB4.out⟩
              case round =>
                clear qq0 qq1
                obtain ⟨t, ht1, ht2, rfl, hst6, hb6⟩ := hrel
                have HS6 := hide hst6
                have HB6 := hide hb6
                have hk6 : (seenTo m b.bids (k + 1))[k]? = some (seeO o x) := by rw [HSUC.out, List.getElem?_set, if_pos rfl, if_pos (List.getElem?_eq_some_iff.1 HO2.out).1]
                obtain ⟨g3, cap3, hv3, hown3, hgl4, hcl4, _⟩ := hst6.book.bidCell hk6
                obtain rfl : g3 = g2 := by rw [HOW.out] at hown3; exact (Option.some.inj hown3).symm
                have z5 : wr.cell? ⟨p, 5, none⟩ = some (.slice (some ⟨g3, 0, none⟩) nb cap') := by rw [← HBV.out]; exact hst6.book.cell 5
                have zl : wr.cell? ⟨g3, k * 12 + 4, none⟩ = some (.int .i64 x.job.len) := by rw [← HE.out.1]; exact hcl4 4 _ rfl
                have zu : wr.cell? ⟨g3, k * 12 + 5, none⟩ = some (.int .i64 x.job.units) := by rw [← HE.out.1]; exact hcl4 5 _ rfl
                have qq0 : wr.cell? ⟨Q, 0, none⟩ = some (.int .i64 2) := by rw [← HST2'.out]; unfold World.cell?; rw [hb6]; rfl
                have qq1 : wr.cell? ⟨Q, 1, none⟩ = some (.int .i64 (a : Int)) := by rw [← HA.out]; unfold World.cell?; rw [hb6]; rfl
                have hws : IntKind.i64.wrap ((a : Int) + x.job.len) = (a : Int) + x.job.len := by rw [IntKind.wrap_i64]; omega
                have hEa : (E : Int) = (a : Int) + x.job.len := by rw [HEE.out, HA.out]
                have HEA := hide hEa
                by_cases hlt2 : t < E
                · have hus := usedL_le m.c (t : Int) (m.bids.take k) (fun bb hbb => HG.out.ok.bid bb (List.mem_of_mem_take hbb))
                  have hul : (m.bids.take k).length ≤ 300 := Nat.le_trans (List.length_take_le _ _) (by omega)
                  obtain ⟨u, hu⟩ : ∃ u, u = usedL (m.bids.take k) (t : Int) := ⟨_, rfl⟩
                  have zU : wr.cell? ⟨w.heap.size, t, none⟩ = some (.int .i64 u) := by
                    have := hst6.used.cells (g := w.heap.size) rfl t (.int .i64 u) (by
                      simp only [usedMid, List.getElem?_map, List.getElem?_range (show t < n by omega), Option.map_some]
                      rw [if_neg (by omega), hu]
                      simp)
                    rwa [Addr.add_lit, Nat.zero_add] at this
                  have zf : wr.frozen? ⟨w.heap.size, t, none⟩ = false := by
                    obtain ⟨cu, hcu⟩ := ownsRow_block hst6.used (k := w.heap.size) rfl
                    unfold World.frozen?
                    rw [hcu]
                    simp
                  have hu1 : 0 ≤ u ∧ u ≤ 300000 := by rw [hu]; omega
                  have hwu : IntKind.i64.wrap (u + x.job.units) = u + x.job.units := by have := HJ.out.2.2; rw [IntKind.wrap_i64]; omega
                  have t0 : (0 : Int) ≤ (t : Int) := by omega
                  have t1 : (t : Int) < (n : Int) := by omega
                  have d1 : decide ((t : Int) < (a : Int) + x.job.len) = true := by simp; omega
                  have HMK := hide (show SoSt YAt w y F0 m p V { b with bids := seenTo m b.bids (k + 1) } w.heap.size n (usedMid m n k x (t + 1)) F2 (wr.setCell ⟨w.heap.size, t, none⟩ (.int .i64 (u + x.job.units))) from by
                    rw [← usedMid_step (by rw [HA.out]; omega) (show t < n by omega), ← hu]
                    exact HS6.out.mark HY.out (by omega))
                  have HQU := hide (show Q ≠ w.heap.size by have := HSZ.out; omega)
                  have hpU : p ≠ w.heap.size := by have := (HS6.out.fb p (.inl rfl)).2; omega
                  have hgU : g3 ≠ w.heap.size := by have := (HS6.out.fb g3 (.inr (.inl HOW.out))).2; omega
                  clear hst6 hb6 hk6 hv3 hown3 hcl4 hus hu hEa hul
                  go_wp2
                  go_quiet (fail)
                  go_wp2
                  obtain ⟨w7, hw7⟩ : ∃ w7, w7 = wr.drewN nq := ⟨_, rfl⟩
                  rw [← hw7]
                  have v5 : w7.cell? ⟨p, 5, none⟩ = some (.slice (some ⟨g3, 0, none⟩) nb cap') := by rw [hw7]; exact z5
                  have vu : w7.cell? ⟨g3, k * 12 + 5, none⟩ = some (.int .i64 x.job.units) := by rw [hw7]; exact zu
                  have vU : w7.cell? ⟨w.heap.size, t, none⟩ = some (.int .i64 u) := by rw [hw7]; exact zU
                  have vf : w7.frozen? ⟨w.heap.size, t, none⟩ = false := by rw [hw7]; exact zf
                  have HM7 := hide (show SoSt YAt w y F0 m p V { b with bids := seenTo m b.bids (k + 1) } w.heap.size n (usedMid m n k x (t + 1)) F2 (w7.setCell ⟨w.heap.size, t, none⟩ (.int .i64 (u + x.job.units))) from by rw [hw7]; exact HMK.out.chg0 HY.out ⟨rfl, rfl, rfl, Nat.le_refl _, fun _ _ _ => rfl⟩)
                  have HB7 := hide (show (w7.setCell ⟨w.heap.size, t, none⟩ (.int .i64 (u + x.job.units))).heap[Q]? = some (.cells #[.int .i64 x.state, .int .i64 x.start] 68 (0, 0)) from by rw [Below.heap_setCell _ _ _ _ HQU.out, hw7]; exact HB6.out)
                  clear hw7 z5 zu zU zf zl qq0 qq1 d1 HMK
                  go_big_region
                  all_goals
                    go_wp2
                    go_roundw
                    case rel => first | exact ⟨t + 1, by omega, by omega, by go_num, HM7.out, HB7.out⟩ | exact ⟨t + 1, by omega, by omega, by go_num, HM7.out.chg0 HY.out ((Chg.refl _ _).drewN _), HB7.out⟩
                    case measure => simp [intOf]; omega
                · have htE : t = E := by omega
                  have d1 : decide ((t : Int) < (a : Int) + x.job.len) = false := by simp; omega
                  have HFI := hide (show usedMid m n k x t = usedTo m n (k + 1) from usedMid_end HX.out HST2'.out (by rw [htE]; exact HEE.out))
                  clear hst6 hb6 hk6 hv3 hown3 hcl4 hEa htE
                  go_wp2
                  go_quiet (fail)
                  go_wp2
                  go_roundw
                  case rel => exact ⟨k + 1, F2, by omega, by go_num, by rw [← HFI.out]; exact HS6.out.chg0 HY.out ((Chg.refl _ _).drewN _)⟩
                  case measure => simp [intOf]; omega
    · have hkn : k = nb := by omega
      have c0 : wr.cell? ⟨p, 0, none⟩ = some (.int .i64 (n : Int)) := by
        have := hst.book.cell 0
        rw [← HN.out, ← HREL.out.c]
        exact this
      have c5 : ∃ ao cap, wr.cell? ⟨p, 5, none⟩ = some (.slice ao nb cap) := by
        obtain ⟨ao, cap, hv⟩ := hst.book.bidForm
        exact ⟨ao, cap, by rw [← hlen, ← show V.bv = .slice ao (seenTo m b.bids k).length cap from hv]; exact hst.book.cell 5⟩
      obtain ⟨ao, cap, c5⟩ := c5
      have HK := hide hkn
      clear hst hlen hkn
      go_wp2
      clear c5 c0
      go_loopw [11] (fun v wr => ∃ (t : Nat) (F : Nat → Prop), t ≤ n ∧ v = .int .i64 t ∧ SoSt YAt w y F0 m p V { b with bids := seenTo m b.bids k } w.heap.size n (usedTo m n k) F wr) (fun v _ => n - (intOf v).toNat)
      case atStart => exact ⟨0, F, by omega, rfl, HST.out⟩
      case round =>
        clear HST
        obtain ⟨t, F3, ht, rfl, hst3⟩ := hrel
        have HST3 := hide hst3
        have c0 : wr.cell? ⟨p, 0, none⟩ = some (.int .i64 (n : Int)) := by
          have := hst3.book.cell 0
          rw [← HN.out, ← HREL.out.c]
          exact this
        by_cases hlt3 : t < n
        · have hnn := HN.out
          have hnu := HG.out.ok.nu
          have hfree := HSM.out.free (t : Int) (by omega) (by omega)
          obtain ⟨us, hus⟩ : ∃ us, us = usedL m.bids (t : Int) := ⟨_, rfl⟩
          obtain ⟨un, hun⟩ : ∃ un, un = m.units.getD t 0 := ⟨_, rfl⟩
          have hE1 : freeE m (t : Int) = 0 := by rw [freeE, if_neg (by omega)]
          have hV1 : freeV m (t : Int) = un - us := by rw [freeV, if_neg (by omega), hus, hun]; simp
          have hub := HG.out.ok.un un (by rw [hun]; simp [List.getD, List.getElem?_eq_getElem (show t < m.units.length by omega)])
          have hlb := usedL_le m.c (t : Int) m.bids HG.out.ok.bid
          rw [← hus] at hlb
          simp only [Int.toNat_natCast] at hfree
          rw [← hus, ← hun] at hfree
          have HFR := hide (fun (w' : World) (h : Chg (fun _ => False) wr w') => HY.out.free w' y F3 m (t : Int) (HST3.out.chg0 HY.out h).yard HG.out.ok (by unfold I64; omega))
          have HYT := hide (fun (w' w2 : World) (h : Chg (fun _ => False) wr w') (ht : YTo YAt w' y F3 m w2) => (HST3.out.chg0 HY.out h).yto ht)
          have HCU := hide (fun (w2 : World) (F4 : Nat → Prop) (h : SoSt YAt w y F0 m p V { b with bids := seenTo m b.bids k } w.heap.size n (usedTo m n k) F4 w2) => show ∃ gu gc, w2.cell? ⟨p, 7, none⟩ = some (.slice (some ⟨gu, 0, none⟩) n gc) ∧ w2.cell? ⟨gu, t, none⟩ = some (.int .i64 un) ∧ w2.cell? ⟨w.heap.size, t, none⟩ = some (.int .i64 us) from by
            have hul : b.units.length = n := by rw [HREL.out.units]; omega
            obtain ⟨gu, gc, hv, _, _, hcl, _⟩ := h.book.unitCell (i := t) (show t < b.units.length by omega)
            refine ⟨gu, gc, ?_, ?_, ?_⟩
            · rw [← hul, ← show V.uv = .slice (some ⟨gu, 0, none⟩) b.units.length gc from hv]
              exact h.book.cell 7
            · rw [hun, ← HREL.out.units]
              exact hcl
            · have := h.used.cells (g := w.heap.size) rfl t (.int .i64 us) (by
                simp only [usedTo, List.getElem?_map, List.getElem?_range hlt3, Option.map_some]
                rw [HK.out, HNB.out, List.take_length, hus])
              rwa [Addr.add_lit, Nat.zero_add] at this)
          clear hst3 hus hun hnu
          go_wp2_with fail
          refine (HFR.out _ (by first | exact Chg.refl _ _ | exact (Chg.refl _ _).drew)).mono ?_
          rintro e w2 ⟨rfl, hto⟩
          rw [hE1, hV1]
          obtain ⟨F4, hst4, _⟩ := HYT.out _ w2 (by first | exact Chg.refl _ _ | exact (Chg.refl _ _).drew) hto
          have HST4 := hide hst4
          obtain ⟨gu, gc, x7, xu, xU⟩ := HCU.out w2 F4 hst4
          have t0 : (0 : Int) ≤ (t : Int) := by omega
          have t1 : (t : Int) < (n : Int) := by omega
          have d1 : decide (un - us < 0) = false := by simp; omega
          have hws : IntKind.i64.wrap (un - us) = un - us := by rw [IntKind.wrap_i64]; omega
          have d2 : (un - us == un - us) = true := by simp
          clear hto hst4 c0 hE1 hV1 HFR HYT HCU hlb hub hfree hnn
          go_wp2
          go_quiet (fail)
          go_wp2
          go_roundw
          case rel => exact ⟨t + 1, F4, by omega, by go_num, HST4.out.chg0 HY.out ((Chg.refl _ _).drewN _)⟩
          case measure => simp [intOf]; omega
        · have hl0 : b.bids.length = k := by rw [HREL.out.len, ← HNB.out, HK.out]
          have HFI := hide (show ∃ F, YAt wr y F m ∧ BookAt wr p V (seenB m b) ∧ Chg (fun k => F0 k ∨ V.foot p k) w wr ∧ (∀ k, F k → F0 k ∨ w.heap.size ≤ k) ∧ ∀ k, V.foot p k → ¬ F k from
            ⟨F3, hst3.yard, by unfold seenB; rw [hl0]; exact hst3.book, hst3.chg, hst3.foot, fun k hk => (hst3.fb k hk).1⟩)
          clear hst3
          go_wp2
          go_ret
          exact ⟨rfl, HFI.out⟩
end Go.Proofs.Ytminceigjejipaa
