import Derived.Test.YtminceigjejipaaG11
import Derived.Deep.RegionHeld3
import Derived.Test.YtminceigjejipaaKpD
import Derived.Test.YtminceigjejipaaG12
/-
  yardkeep: 'sound': all bids and all ticks behind a step.
-/
namespace Go.Proofs.Ytminceigjejipaa
open Go.RowKit

/-- the book tells of the market -/
structure BookRel (m : MkG) (b : BookG) : Prop where
  c : b.c = m.c
  susp : b.susp = m.susp
  units : b.units = m.units
  len : b.bids.length = m.bids.length
  bid : ∀ (i : Nat) (o : KnownG) (x : BidG), b.bids[i]? = some o → m.bids[i]? = some x → o.ten = x.ten ∧ o.ref = x.ref ∧ o.job = x.job ∧ o.arrival = x.arrival
  was : ∀ (i : Nat) (o : KnownG) (x : BidG), b.bids[i]? = some o → m.bids[i]? = some x → o.wasS ≠ 1 → x.state = o.wasS ∧ x.start = o.wasT

def seeO (o : KnownG) (x : BidG) : KnownG := { o with wasS := x.state, wasT := x.start }
def seenTo (m : MkG) (l : List KnownG) (k : Nat) : List KnownG := l.mapIdx fun i o => if i < k then (match m.bids[i]? with | some x => seeO o x | none => o) else o
theorem seenTo_zero (m : MkG) (l : List KnownG) : seenTo m l 0 = l := by
  apply List.ext_getElem?
  intro i
  simp [seenTo]
theorem seenTo_len (m : MkG) (l : List KnownG) (k : Nat) : (seenTo m l k).length = l.length := by simp [seenTo]
theorem seenTo_get (m : MkG) (l : List KnownG) (k : Nat) : (seenTo m l k)[k]? = l[k]? := by simp [seenTo]
theorem seenTo_succ {m : MkG} {l : List KnownG} {k : Nat} {o : KnownG} {x : BidG} (ho : l[k]? = some o) (hx : m.bids[k]? = some x) : seenTo m l (k + 1) = (seenTo m l k).set k (seeO o x) := by
  apply List.ext_getElem?
  intro i
  rw [List.getElem?_set]
  by_cases e : k = i
  · subst e
    have hl := (List.getElem?_eq_some_iff.1 ho).1
    rw [if_pos rfl, if_pos (by rw [seenTo_len]; exact hl)]
    simp [seenTo, ho, hx]
  · rw [if_neg e]
    simp only [seenTo, List.getElem?_mapIdx]
    cases l[i]? with
    | none => rfl
    | some y =>
      simp only [Option.map_some]
      have hik : (i < k + 1) ↔ (i < k) := ⟨fun h => by omega, fun h => by omega⟩
      simp only [hik]
def seenB (m : MkG) (b : BookG) : BookG := { b with bids := seenTo m b.bids b.bids.length }

/-- units in use by the first k bids, and by bid k at the ticks ahead of t -/
def usedTo (m : MkG) (n k : Nat) : List Value := (List.range n).map fun s : Nat => .int .i64 (usedL (m.bids.take k) (s : Int))
def usedMid (m : MkG) (n k : Nat) (x : BidG) (t : Nat) : List Value := (List.range n).map fun s : Nat => .int .i64 (usedL (m.bids.take k) (s : Int) + if x.start ≤ (s : Int) ∧ s < t then x.job.units else 0)

/-- in the midst of 'sound' -/
structure SoSt (YAt : World → Nat → (Nat → Prop) → MkG → Prop) (w0 : World) (y : Nat) (F0 : Nat → Prop) (m : MkG) (p : Nat) (V : BV) (b : BookG) (U n : Nat) (us : List Value) (F : Nat → Prop) (wr : World) : Prop where
  yard : YAt wr y F m
  book : BookAt wr p V b
  used : wr.ownsRow 0 3 1 (.slice (some ⟨U, 0, none⟩) n n) n us
  chg : Chg (fun k => F0 k ∨ V.foot p k) w0 wr
  foot : ∀ k, F k → F0 k ∨ w0.heap.size ≤ k
  fu : ¬ F U
  nu : w0.heap.size ≤ U
  fb : ∀ k, V.foot p k → ¬ F k ∧ k < w0.heap.size

section
variable {YAt : World → Nat → (Nat → Prop) → MkG → Prop} {w0 wr w2 : World} {y : Nat} {F0 F : Nat → Prop} {m : MkG} {p : Nat} {V : BV} {b b' : BookG} {U n : Nat} {us us' : List Value}
theorem SoSt.ltU (h : SoSt YAt w0 y F0 m p V b U n us F wr) : U < wr.heap.size := (h.used.lt U rfl).2
theorem SoSt.yto (h : SoSt YAt w0 y F0 m p V b U n us F wr) (ht : YTo YAt wr y F m w2) : ∃ F', SoSt YAt w0 y F0 m p V b U n us F' w2 ∧ ∀ k, F' k → F k ∨ wr.heap.size ≤ k := by
  obtain ⟨F', a1, a2, a3⟩ := ht
  have hU := h.ltU
  have hs := h.chg.size
  refine ⟨F', ⟨a1, h.book.chg a2 (fun k hk e => (h.fb k hk).1 e), ownsRow_keep h.used (fun k hk => a2.block k (h.used.lt k hk).2 (fun e => by simp [Value.ownBlock] at hk; subst hk; exact h.fu e)), h.chg.trans a2 (fun x hx e => ?_), fun k hk => ?_, fun e => ?_, h.nu, fun k hk => ⟨fun e => ?_, (h.fb k hk).2⟩⟩, a3⟩
  · rcases h.foot x e with e | e
    · exact .inl e
    · omega
  · rcases a3 k hk with e | e
    · exact h.foot k e
    · exact .inr (by omega)
  · rcases a3 U e with e | e
    · exact h.fu e
    · omega
  · rcases a3 k e with e | e
    · exact (h.fb k hk).1 e
    · have := (h.fb k hk).2; omega
theorem SoSt.chg0 (hY : YardSpec YAt) (h : SoSt YAt w0 y F0 m p V b U n us F wr) (hc : Chg (fun _ => False) wr w2) : SoSt YAt w0 y F0 m p V b U n us F w2 :=
  ⟨hY.frame _ _ _ _ _ h.yard (fun k hk => hc.block k (hY.lt _ _ _ _ h.yard k hk) (fun e => e)), h.book.chg0 hc, ownsRow_keep h.used (fun k hk => hc.block k (h.used.lt k hk).2 (fun e => e)), h.chg.trans hc (fun _ _ e => e.elim), h.foot, h.fu, h.nu, h.fb⟩
theorem SoSt.mark (hY : YardSpec YAt) (h : SoSt YAt w0 y F0 m p V b U n us F wr) {i : Nat} {u : Value} (hn : 0 < n) : SoSt YAt w0 y F0 m p V b U n (us.set i u) F (wr.setCell ⟨U, i, none⟩ u) := by
  have far : ∀ k, k ≠ U → (wr.setCell ⟨U, i, none⟩ u).heap[k]? = wr.heap[k]? := fun k hk => Below.heap_setCell _ _ _ _ hk
  exact ⟨hY.frame _ _ _ _ _ h.yard (fun k hk => far k (fun e => h.fu (e ▸ hk))), h.book.frame (fun k hk => far k (by have := (h.fb k hk).2; have := h.nu; omega)), ownsRow_set2 h.used hn rfl u, h.chg.setCell (.inr h.nu) _, h.foot, h.fu, h.nu, h.fb⟩
/-- a block of nobody's has turned -/
theorem SoSt.fresh (hY : YardSpec YAt) (h : SoSt YAt w0 y F0 m p V b U n us F wr) {q : Nat} (hc : Chg (fun k => k = q) wr w2) (h1 : w0.heap.size ≤ q) (h2 : ¬ F q) (h3 : q ≠ U) : SoSt YAt w0 y F0 m p V b U n us F w2 :=
  ⟨hY.frame _ _ _ _ _ h.yard (fun k hk => hc.block k (hY.lt _ _ _ _ h.yard k hk) (fun e => h2 (e ▸ hk))), h.book.chg hc (fun k hk e => by have := (h.fb k hk).2; omega), ownsRow_keep h.used (fun k hk => hc.block k (h.used.lt k hk).2 (fun e => by simp [Value.ownBlock] at hk; omega)), h.chg.trans hc (fun x hx e => by omega), h.foot, h.fu, h.nu, h.fb⟩
/-- what was seen of a bid is written into the book -/
theorem SoSt.see (hY : YardSpec YAt) (h : SoSt YAt w0 y F0 m p V b U n us F wr) {i g : Nat} {o : KnownG} {x : BidG} (ho : b.bids[i]? = some o) (hg : V.bv.ownBlock = some g) : SoSt YAt w0 y F0 m p V { b with bids := b.bids.set i (seeO o x) } U n us F ((wr.setCell ⟨g, i * 12 + 9, none⟩ (.int .i64 x.state)).setCell ⟨g, i * 12 + 10, none⟩ (.int .i64 x.start)) := by
  have hgf : V.foot p g := .inr (.inl hg)
  have hgl := (h.fb g hgf).2
  have hil := (List.getElem?_eq_some_iff.1 ho).1
  obtain ⟨W, hW⟩ : ∃ W, W = (wr.setCell ⟨g, i * 12 + 9, none⟩ (.int .i64 x.state)).setCell ⟨g, i * 12 + 10, none⟩ (.int .i64 x.start) := ⟨_, rfl⟩
  rw [← hW]
  have far : ∀ k, k ≠ g → W.heap[k]? = wr.heap[k]? := fun k hk => by rw [hW, Below.heap_setCell _ _ _ _ hk, Below.heap_setCell _ _ _ _ hk]
  refine ⟨hY.frame _ _ _ _ _ h.yard (fun k hk => far k (fun e => (h.fb g hgf).1 (e ▸ hk))), ?_, ownsRow_keep h.used (fun k hk => far k (by simp [Value.ownBlock] at hk; have := h.nu; omega)), ?_, h.foot, h.fu, h.nu, h.fb⟩
  · have r1 := h.book.setKnown (r := 9) (u := .int .i64 x.state) (o' := { o with wasS := x.state }) ho (by omega) hg rfl
    have r2 := r1.setKnown (i := i) (r := 10) (u := .int .i64 x.start) (o := { o with wasS := x.state }) (o' := seeO o x) (by simp [hil]) (by omega) hg rfl
    rw [hW]
    simpa using r2
  · rw [hW]
    exact (h.chg.setCell (.inl (.inr hgf)) _).setCell (.inl (.inr hgf)) _
end
end Go.Proofs.Ytminceigjejipaa

/-
  THE BOOK GOES ON TELLING OF THE MARKET: what a step is noted as, and what it does. Nothing of the program's walks.
-/
namespace Go.Proofs.Ytminceigjejipaa

/-- what a step leaves of a market as it was -/
structure Rest (m m' : MkG) : Prop where
  c : m'.c = m.c
  susp : m'.susp = m.susp
  units : m'.units = m.units
  len : m'.bids.length = m.bids.length

theorem tick_rest {m m' : MkG} (hg : GoodM m) {z : Int} {names : List (Int × Int)} (hr : TickRes m z names m') : Rest m m' := by
  rcases hr with ⟨_, _, _, rfl⟩ | ⟨_, _, _, _, rfl⟩ | ⟨hl, ht, _, l, hord, rfl, _⟩
  · exact ⟨rfl, rfl, rfl, rfl⟩
  · exact ⟨rfl, rfl, rfl, rfl⟩
  · unfold tickM
    simp only
    rw [ghostI_none (hg.ok.logs hl callTick) hg.ghost]
    simp only [wantEnd]
    have h := AlikeM.fold m.time none l (m.logs callTick, [])
    refine ⟨h.c, h.susp, h.units, ?_⟩
    show ((l.foldl (tickOne m.time none) (m.logs callTick, [])).1.bids.map fun b => b.expire (m.time + 1)).length = _
    rw [List.length_map, h.len]
    rfl
theorem cancel_rest (m : MkG) (ten ref : Int) : Rest m (cancelM m ten ref) := by
  unfold cancelM
  simp only
  split
  · refine ⟨rfl, rfl, rfl, ?_⟩
    show (setState m.bids (findZ m.bids ten ref).toNat 3).length = _
    unfold setState
    split
    · simp
    · rfl
  · exact ⟨rfl, rfl, rfl, rfl⟩

theorem submitE_zero {m : MkG} {ten ref : Int} {j : JobG} (h : submitE m ten ref j = 0) : m.tenB ten = true ∧ m.jobB j = true := by
  unfold submitE at h
  split at h
  · simp at h
  · rename_i h1
    split at h
    · simp at h
    · split at h
      · simp at h
      · split at h
        · simp at h
        · rename_i h4
          exact ⟨by cases e : m.tenB ten; exact absurd e h1; rfl, by cases e : m.jobB j; exact absurd e h4; rfl⟩

theorem noteOk_does {m m' : MkG} {b : BookG} (hrel : BookRel m b) {s : StepG} {z : Int} {names : List (Int × Int)} {bills : List InvG} (hr : DoesRes m s z names bills m') : NoteOk b s z m.time := by
  refine ⟨fun hz hk => ?_, fun hz hk => ?_, fun hz hk => ?_⟩
  · rcases hr with ⟨_, hr, _⟩ | ⟨h, _⟩ | ⟨h, _⟩ | ⟨h, _⟩ | ⟨h, _⟩ | ⟨h, _⟩ | ⟨h, _⟩ | ⟨h, _⟩ <;> try omega
    rcases hr with ⟨_, h, _⟩ | ⟨_, h, _⟩
    · omega
    · obtain ⟨h1, h2⟩ := submitE_zero (h.symm.trans hz)
      have ht := tenB_true h1
      simp only [MkG.jobB, Bool.and_eq_true, decide_eq_true_eq] at h2
      rw [hrel.c]
      exact ⟨ht, h2.1, h2.2⟩
  · rcases hr with ⟨h, _⟩ | ⟨h, _⟩ | ⟨_, hr, _⟩ | ⟨h, _⟩ | ⟨h, _⟩ | ⟨h, _⟩ | ⟨h, _⟩ | ⟨h, _⟩ <;> try omega
    rcases hr with ⟨_, h, _⟩ | ⟨_, h, _⟩
    · omega
    · rw [hz] at h
      have h1 : m.tenB s.a = true := by
        cases e : m.tenB s.a
        · simp [suspendE, e] at h
        · rfl
      rw [hrel.c]
      exact tenB_true h1
  · rcases hr with ⟨h, _⟩ | ⟨h, _⟩ | ⟨h, _⟩ | ⟨_, hr, _⟩ | ⟨h, _⟩ | ⟨h, _⟩ | ⟨h, _⟩ | ⟨h, _⟩ <;> try omega
    rcases hr with ⟨_, h, _⟩ | ⟨_, hr⟩
    · omega
    · rcases hr with ⟨_, h, _⟩ | ⟨_, _, h, _⟩ | ⟨ha, _, _, _⟩
      · omega
      · omega
      · obtain ⟨g1, g2, g3, _, _⟩ := capArg_false ha
        rw [hrel.c]
        exact ⟨by omega, by omega, by omega⟩

/-- nothing that the book tells of has turned -/
theorem BookRel.rest {m m' : MkG} {b : BookG} (h : BookRel m b) (hr : Rest m m') (hn : NoMove m m') : BookRel m' b := by
  refine ⟨h.c.trans hr.c.symm, h.susp.trans hr.susp.symm, h.units.trans hr.units.symm, h.len.trans hr.len.symm, fun i o x ho hx => ?_, fun i o x ho hx hs => ?_⟩
  · obtain ⟨y, hy⟩ : ∃ y, m.bids[i]? = some y := ⟨_, List.getElem?_eq_getElem (by have := (List.getElem?_eq_some_iff.1 ho).1; have := h.len; omega)⟩
    obtain ⟨y', a1, a2, _⟩ := hn i y hy
    rw [hx] at a1
    obtain rfl := Option.some.inj a1
    simp only [nameB, Prod.mk.injEq] at a2
    have := h.bid i o y ho hy
    exact ⟨by rw [a2.1]; exact this.1, by rw [a2.2.1]; exact this.2.1, by rw [a2.2.2.1]; exact this.2.2.1, by rw [a2.2.2.2.1]; exact this.2.2.2⟩
  · obtain ⟨y, hy⟩ : ∃ y, m.bids[i]? = some y := ⟨_, List.getElem?_eq_getElem (by have := (List.getElem?_eq_some_iff.1 ho).1; have := h.len; omega)⟩
    obtain ⟨y', a1, _, a3⟩ := hn i y hy
    rw [hx] at a1
    obtain rfl := Option.some.inj a1
    have hw := h.was i o y ho hy hs
    have := a3 (by omega)
    omega
theorem noteB_err {b : BookG} {i : Int} {s : StepG} {z now : Int} (hz : z ≠ 0) : noteB b i s z now = b := by
  unfold noteB
  rw [if_neg (by omega), if_neg (by omega), if_neg (by omega)]
theorem noteB_kind {b : BookG} {i : Int} {s : StepG} {z now : Int} (h1 : s.kind ≠ 1) (h3 : s.kind ≠ 3) (h4 : s.kind ≠ 4) : noteB b i s z now = b := by
  unfold noteB
  rw [if_neg (by omega), if_neg (by omega), if_neg (by omega)]

theorem BookRel.note {m m' : MkG} {b : BookG} (h : BookRel m b) (hg : GoodM m) (hs : SoundM m) {s : StepG} {z : Int} {names : List (Int × Int)} {bills : List InvG} (hr : DoesRes m s z names bills m') (i : Int) : BookRel m' (noteB b i s z m.time) := by
  have hn := (hs.does hg hr).2
  rcases hr with ⟨hk, hr, _⟩ | ⟨hk, hr, _⟩ | ⟨hk, hr, _⟩ | ⟨hk, hr, _⟩ | ⟨hk, hr, _⟩ | ⟨hk, hr, _⟩ | ⟨hk, hr, _⟩ | ⟨hk, _, rfl, _⟩
  · rcases hr with ⟨_, hz, rfl⟩ | ⟨_, hz, rfl⟩
    · rw [noteB_err (by omega)]
      exact h
    · by_cases he : submitE m s.a s.b s.job = 0
      · have hz0 : z = 0 := hz.trans he
        have e : submitM m s.a s.b s.job = { m.logs (callSubmit s.a s.b s.job) with bids := m.bids ++ [newBid m s.a s.b s.job] } := by
          unfold submitM
          simp only [he, if_true]
          rfl
        have hb : noteB b i s z m.time = { b with bids := b.bids ++ [knownNew i m.time s] } := by
          unfold noteB
          rw [if_pos ⟨hz0, hk⟩]
        rw [hb, e]
        have hl := h.len
        have get : ∀ (k : Nat) (o : KnownG) (x : BidG), (b.bids ++ [knownNew i m.time s])[k]? = some o → (m.bids ++ [newBid m s.a s.b s.job])[k]? = some x → (b.bids[k]? = some o ∧ m.bids[k]? = some x) ∨ (o = knownNew i m.time s ∧ x = newBid m s.a s.b s.job) := fun k o x ho hx => by
          rw [List.getElem?_append] at ho hx
          by_cases e : k < b.bids.length
          · rw [if_pos e] at ho
            rw [if_pos (by omega)] at hx
            exact .inl ⟨ho, hx⟩
          · rw [if_neg e] at ho
            rw [if_neg (by omega)] at hx
            have h1 := (List.getElem?_eq_some_iff.1 ho).1
            simp at h1
            have e0 : k - b.bids.length = 0 := by omega
            have e1 : k - m.bids.length = 0 := by omega
            rw [e0] at ho
            rw [e1] at hx
            simp at ho hx
            exact .inr ⟨ho.symm, hx.symm⟩
        refine ⟨h.c, h.susp, h.units, ?_, fun k o x ho hx => ?_, fun k o x ho hx hw => ?_⟩
        · show (b.bids ++ [_]).length = (m.bids ++ [_]).length
          simp [hl]
        · rcases get k o x ho hx with ⟨a1, a2⟩ | ⟨rfl, rfl⟩
          · exact h.bid k o x a1 a2
          · exact ⟨rfl, rfl, rfl, rfl⟩
        · rcases get k o x ho hx with ⟨a1, a2⟩ | ⟨rfl, rfl⟩
          · exact h.was k o x a1 a2 hw
          · exact absurd rfl hw
      · rw [noteB_err (by omega)]
        have e : submitM m s.a s.b s.job = m.logs (callSubmit s.a s.b s.job) := by
          unfold submitM
          simp only [he, if_false]
        rw [e] at hn ⊢
        exact h.rest ⟨rfl, rfl, rfl, rfl⟩ hn
  · rw [noteB_kind (by omega) (by omega) (by omega)]
    rcases hr with ⟨_, hz, rfl⟩ | ⟨_, hz, rfl⟩
    · exact h
    · exact h.rest (cancel_rest _ _ _) hn
  · rcases hr with ⟨_, hz, rfl⟩ | ⟨_, hz, rfl⟩
    · rw [noteB_err (by omega)]
      exact h
    · by_cases he : suspendE m s.a = 0
      · have hz0 : z = 0 := hz.trans he
        have e : suspendM m s.a (evenB s.b) = { m.logs (callSuspend s.a (evenB s.b)) with susp := m.susp.set s.a.toNat (evenB s.b) } := by
          unfold suspendM
          simp only [he, if_true]
          rfl
        have hb : noteB b i s z m.time = { b with susp := b.susp.set s.a.toNat (evenB s.b) } := by
          unfold noteB
          rw [if_neg (by omega), if_pos ⟨hz0, hk⟩]
        rw [hb, e]
        exact ⟨h.c, by show b.susp.set _ _ = m.susp.set _ _; rw [h.susp], h.units, h.len, h.bid, h.was⟩
      · rw [noteB_err (by omega)]
        have e : suspendM m s.a (evenB s.b) = m.logs (callSuspend s.a (evenB s.b)) := by
          unfold suspendM
          simp only [he, if_false]
        rw [e] at hn ⊢
        exact h.rest ⟨rfl, rfl, rfl, rfl⟩ hn
  · rcases hr with ⟨_, hz, rfl⟩ | ⟨_, hr⟩
    · rw [noteB_err (by omega)]
      exact h
    · rcases hr with ⟨_, hz, rfl⟩ | ⟨_, _, hz, rfl⟩ | ⟨_, _, hz, rfl⟩
      · rw [noteB_err (by omega)]
        exact h.rest ⟨rfl, rfl, rfl, rfl⟩ hn
      · rw [noteB_err (by omega)]
        exact h.rest ⟨rfl, rfl, rfl, rfl⟩ hn
      · have hb : noteB b i s z m.time = { b with units := unitsTo b.units s.a s.b s.c } := by
          unfold noteB
          rw [if_neg (by omega), if_neg (by omega), if_pos ⟨hz, hk⟩]
        rw [hb]
        exact ⟨h.c, h.susp, by show unitsTo b.units s.a s.b s.c = _; rw [h.units]; rfl, h.len, h.bid, h.was⟩
  · rw [noteB_kind (by omega) (by omega) (by omega)]
    exact h.rest (tick_rest hg hr) hn
  · rw [noteB_kind (by omega) (by omega) (by omega)]
    rcases hr with ⟨_, hz, _, rfl⟩ | ⟨_, hz, _, rfl⟩
    · exact h
    · exact h.rest ⟨rfl, rfl, rfl, by show (m.bids.map _).length = _; simp⟩ hn
  · rw [noteB_kind (by omega) (by omega) (by omega)]
    rcases hr with ⟨_, hz, rfl⟩ | ⟨_, hz, rfl⟩
    · exact h
    · refine h.rest ?_ hn
      unfold payM
      simp only
      split <;> exact ⟨rfl, rfl, rfl, rfl⟩
  · rw [noteB_kind (by omega) (by omega) (by omega)]
    exact h
/-- what 'sound' has seen -/
theorem BookRel.seen {m : MkG} {b : BookG} (h : BookRel m b) : BookRel m (seenB m b) := by
  have get : ∀ (i : Nat) (o : KnownG) (x : BidG), (seenB m b).bids[i]? = some o → m.bids[i]? = some x → ∃ o0, b.bids[i]? = some o0 ∧ o = seeO o0 x := fun i o x ho hx => by
    have ho' : (seenTo m b.bids b.bids.length)[i]? = some o := ho
    simp only [seenTo, List.getElem?_mapIdx] at ho'
    cases hb : b.bids[i]? with
    | none => rw [hb] at ho'; cases ho'
    | some o0 =>
      rw [hb] at ho'
      simp only [Option.map_some, Option.some.injEq] at ho'
      rw [if_pos (List.getElem?_eq_some_iff.1 hb).1, hx] at ho'
      exact ⟨o0, rfl, ho'.symm⟩
  refine ⟨h.c, h.susp, h.units, by show (seenTo m b.bids b.bids.length).length = _; rw [seenTo_len]; exact h.len, fun i o x ho hx => ?_, fun i o x ho hx _ => ?_⟩
  · obtain ⟨o0, h0, rfl⟩ := get i o x ho hx
    exact h.bid i o0 x h0 hx
  · obtain ⟨o0, h0, rfl⟩ := get i o x ho hx
    exact ⟨rfl, rfl⟩
theorem BookRel.start (c : CfgG) : BookRel (openM c) (startB c) :=
  ⟨rfl, rfl, rfl, rfl, fun i o x ho => by simp [startB] at ho, fun i o x ho => by simp [startB] at ho⟩
end Go.Proofs.Ytminceigjejipaa

/-
  A TICK AS Packed LOOKS AT IT: which bids start, in which order; what is left pending. Nothing of the program.
-/
namespace Go.Proofs.Ytminceigjejipaa
open Go.RowKit

def nameAt (l : List BidG) (i : Nat) : Int × Int := match l[i]? with | some b => (b.ten, b.ref) | none => (0, 0)
def setWon (t : Int) (b : BidG) : BidG := { b with state := 2, start := t }

theorem fits_mono {m m' : MkG} (h : ∀ x, freeV m' x ≤ freeV m x) {b : BidG} {t : Int} (hf : fitsB m b t = false) : fitsB m' b t = false := by
  cases hf' : fitsB m' b t
  · rfl
  · exfalso
    have : fitsB m b t = true := by
      simp only [fitsB, List.all_eq_true, List.mem_range, decide_eq_true_eq] at hf' ⊢
      intro s hs
      have := hf' s hs
      have := h (t + s)
      omega
    rw [this] at hf
    cases hf
theorem free_start {m : MkG} {i : Nat} {b : BidG} (hb : m.bids[i]? = some b) (h1 : b.state ≠ 2) (hu : 0 ≤ b.job.units) (t x : Int) : freeV (startM m i t) x ≤ freeV m x := by
  rw [startM_eq hb]
  unfold freeV
  simp only
  split
  · exact Int.le_refl _
  · rw [kused_start hb h1]
    split <;> omega

/-- the ticks' fold: those that start, out of those that are looked at -/
structure Pk (t : Int) (l : List Nat) (s s' : TkS) (js : List Nat) : Prop where
  sub : js.Sublist l
  names : s'.2 = s.2 ++ js.map (nameAt s.1.bids)
  bids : ∀ (k : Nat) (b : BidG), s.1.bids[k]? = some b → s'.1.bids[k]? = some (if k ∈ js then setWon t b else b)
  win : ∀ i ∈ js, ∀ b, s.1.bids[i]? = some b → b.winB s.1.c.res = true
  free : ∀ x, freeV s'.1 x ≤ freeV s.1 x
  fit : ∀ i ∈ l, i ∉ js → ∀ b, s.1.bids[i]? = some b → b.winB s.1.c.res = true → fitsB s'.1 b t = false

theorem pk_fold (t : Int) : ∀ (l : List Nat) (s : TkS), l.Nodup → (∀ i ∈ l, ∃ b, s.1.bids[i]? = some b ∧ b.openB s.1 t = true) → (∀ b ∈ s.1.bids, 0 ≤ b.job.units) → ∃ js, Pk t l s (l.foldl (tickOne t none) s) js
  | [], s, _, _, _ => ⟨[], List.Sublist.refl _, by simp, fun k b hb => by simpa using hb, fun i hi => by simp at hi, fun _ => Int.le_refl _, fun i hi => by simp at hi⟩
  | i :: l, s, hn, hc, hu => by
    obtain ⟨b, hb, ho⟩ := hc i List.mem_cons_self
    rw [List.nodup_cons] at hn
    have hst : b.state = 1 := by
      simp only [BidG.openB, Bool.and_eq_true, beq_iff_eq] at ho
      exact ho.1.1.1
    have hub := hu b (List.mem_of_getElem? hb)
    have hal := AlikeM.one t none s i
    have hnext : ∀ k ∈ l, ∃ x, (tickOne t none s i).1.bids[k]? = some x ∧ x.openB (tickOne t none s i).1 t = true := fun k hk => by
      obtain ⟨x, hx, hxo⟩ := hc k (List.mem_cons_of_mem _ hk)
      refine ⟨x, (hal.bid k (by simp; rintro rfl; exact hn.1 hk)).trans hx, ?_⟩
      unfold BidG.openB suspAt at hxo ⊢
      rw [hal.susp]
      exact hxo
    have hjob : ∀ x ∈ (tickOne t none s i).1.bids, 0 ≤ x.job.units := fun x hx => by
      obtain ⟨k, hk⟩ := List.getElem?_of_mem hx
      have := hal.job k
      rw [hk] at this
      cases hx0 : s.1.bids[k]? with
      | none => rw [hx0] at this; cases this
      | some x0 =>
        rw [hx0] at this
        simp only [Option.map_some, Option.some.injEq] at this
        rw [this]
        exact hu x0 (List.mem_of_getElem? hx0)
    obtain ⟨js, hp⟩ := pk_fold t l (tickOne t none s i) hn.2 hnext hjob
    have hij : i ∉ js := fun h => hn.1 (hp.sub.mem h)
    have e1 : tickOne t none s i = if fitsB s.1 b t && b.winB s.1.c.res then (startM s.1 i t, s.2 ++ [(b.ten, b.ref)]) else s := by
      unfold tickOne
      rw [hb]
    have hres : (tickOne t none s i).1.c = s.1.c := hal.c
    cases hw : fitsB s.1 b t && b.winB s.1.c.res
    · rw [hw] at e1
      simp only [Bool.false_eq_true, if_false] at e1
      rw [List.foldl_cons]
      rw [e1] at hp ⊢
      refine ⟨js, hp.sub.cons _, hp.names, hp.bids, hp.win, hp.free, fun k hk hkj x hx hxw => ?_⟩
      rcases List.mem_cons.1 hk with rfl | hk
      · rw [hb] at hx
        obtain rfl := Option.some.inj hx
        refine fits_mono hp.free ?_
        rw [hxw, Bool.and_true] at hw
        exact hw
      · exact hp.fit k hk hkj x hx hxw
    · rw [hw] at e1
      simp only [if_true] at e1
      rw [Bool.and_eq_true] at hw
      have hset : (startM s.1 i t).bids = s.1.bids.set i (setWon t b) := by rw [startM_eq hb]; rfl
      have hil := (List.getElem?_eq_some_iff.1 hb).1
      have hget : ∀ (k : Nat) (x : BidG), s.1.bids[k]? = some x → (startM s.1 i t).bids[k]? = some (if k = i then setWon t x else x) := fun k x hx => by
        rw [hset, List.getElem?_set]
        by_cases e : i = k
        · subst e
          rw [hb] at hx
          obtain rfl := Option.some.inj hx
          simp [hil]
        · rw [if_neg e, if_neg (Ne.symm e)]
          exact hx
      have hname : ∀ k, nameAt (startM s.1 i t).bids k = nameAt s.1.bids k := fun k => by
        unfold nameAt
        cases hx : s.1.bids[k]? with
        | none =>
          have : (startM s.1 i t).bids[k]? = none := by
            rw [hset, List.getElem?_eq_none (by rw [List.length_set]; exact List.getElem?_eq_none_iff.1 hx)]
          rw [this]
        | some x =>
          rw [hget k x hx]
          simp only
          split <;> rfl
      rw [List.foldl_cons]
      rw [e1] at hp hres ⊢
      refine ⟨i :: js, hp.sub.cons_cons _, ?_, fun k x hx => ?_, fun k hk x hx => ?_, fun x => Int.le_trans (hp.free x) (free_start hb (by omega) hub t x), fun k hk hkj x hx hxw => ?_⟩
      · rw [hp.names]
        have : nameAt s.1.bids i = (b.ten, b.ref) := by unfold nameAt; rw [hb]
        simp only [List.map_cons, this, List.append_assoc, List.singleton_append]
        congr 2
        exact List.map_congr_left (fun k _ => hname k)
      · rw [hp.bids k _ (hget k x hx)]
        congr 1
        by_cases e : k = i
        · subst e
          rw [if_neg hij, if_pos rfl, if_pos List.mem_cons_self]
        · rw [if_neg e]
          by_cases e2 : k ∈ js
          · rw [if_pos e2, if_pos (List.mem_cons_of_mem _ e2)]
          · rw [if_neg e2, if_neg (fun h => by rcases List.mem_cons.1 h with h | h; exact e h; exact e2 h)]
      · rcases List.mem_cons.1 hk with rfl | hk
        · rw [hb] at hx
          obtain rfl := Option.some.inj hx
          exact hw.2
        · have e : k ≠ i := fun e => hij (e ▸ hk)
          have := hp.win k hk x (by rw [hget k x hx, if_neg e])
          rw [hres] at this
          exact this
      · have hkj' : k ∉ js := fun h => hkj (List.mem_cons_of_mem _ h)
        have e : k ≠ i := fun e => hkj (e ▸ List.mem_cons_self)
        rcases List.mem_cons.1 hk with h | h
        · exact absurd h e
        · exact hp.fit k h hkj' x (by rw [hget k x hx, if_neg e]) (by rw [hres]; exact hxw)

/-- a tick that has gone by -/
structure TkdK (m m' : MkG) (names : List (Int × Int)) (js : List Nat) : Prop where
  lt : m.time < m.c.ticks
  time : m'.time = m.time + 1
  len : m'.bids.length = m.bids.length
  names : names = js.map (nameAt m.bids)
  ahead : js.Pairwise (fun i k => aheadI m.bids i k = true)
  cand : ∀ i ∈ js, ∃ b, m.bids[i]? = some b ∧ b.openB m m.time = true ∧ b.winB m.c.res = true
  bids : ∀ (k : Nat) (b : BidG), m.bids[k]? = some b → m'.bids[k]? = some (if k ∈ js then setWon m.time b else b.expire (m.time + 1))
  fit : ∀ (k : Nat) (b : BidG), k ∉ js → m.bids[k]? = some b → b.openB m m.time = true → b.winB m.c.res = true → fitsB m' b m.time = false
theorem TkdK.nodup {m m' : MkG} {names : List (Int × Int)} {js : List Nat} (h : TkdK m m' names js) : js.Nodup := by
  refine h.ahead.imp (fun {a b} hab e => ?_)
  subst e
  rw [aheadI_irrefl] at hab
  cases hab
theorem free_tickEnd (t : Int) (m : MkG) (x : Int) : freeV (tickEnd t m) x = freeV m x := by
  unfold freeV
  show (if x < 0 ∨ m.c.ticks ≤ x then 0 else m.units.getD x.toNat 0 - usedL (m.bids.map fun b => b.expire (t + 1)) x) = _
  rw [kused_map _ x m.bids (fun b _ => ⟨?_, by unfold BidG.expire; split <;> rfl⟩)]
  unfold BidG.runs BidG.expire
  split
  · rename_i hw; simp at hw; simp [hw.1]
  · rfl

theorem TickRes.ticked {m m' : MkG} {names : List (Int × Int)} (hr : TickRes m 0 names m') (hg : GoodM m) : ∃ js, TkdK m m' names js := by
  rcases hr with ⟨_, h, _⟩ | ⟨_, _, h, _⟩ | ⟨hl, ht, _, l, hord, rfl, rfl⟩
  · cases h
  · cases h
  · have hok := hg.ok
    have hok1 := hok.logs hl callTick
    have hopen : ∀ (i : Nat) (b : BidG), m.bids[i]? = some b → candB m m.time b = b.openB m m.time := fun i b hb => by
      have h0 := (hok.bid b (List.mem_of_getElem? hb)).e0
      have hgh := hg.ghost
      unfold candB
      rw [hgh]
      have : (b.entry != -1) = true := by simp; omega
      rw [this, Bool.and_true]
    obtain ⟨js, hp⟩ := pk_fold m.time l (m.logs callTick, []) hord.nodup (fun i hi => by
      obtain ⟨b, hb, hc⟩ := (hord.mem i).1 hi
      exact ⟨b, hb, by rw [hopen i b hb] at hc; exact hc⟩) (fun b hb => by
        have := jobIn_true (hok.bid b hb).job
        omega)
    unfold tickM
    simp only
    rw [ghostI_none hok1 hg.ghost]
    simp only [wantEnd, tickFold]
    have hal := AlikeM.fold m.time none l (m.logs callTick, [])
    refine ⟨js, ht, rfl, ?_, ?_, hord.sorted.sublist hp.sub, fun i hi => ?_, fun k b hb => ?_, fun k b hk hb ho hw => ?_⟩
    · show ((l.foldl (tickOne m.time none) (m.logs callTick, [])).1.bids.map _).length = _
      rw [List.length_map, hal.len]
      rfl
    · rw [hp.names]
      rfl
    · obtain ⟨b, hb, hc⟩ := (hord.mem i).1 (hp.sub.mem hi)
      exact ⟨b, hb, by rw [hopen i b hb] at hc; exact hc, hp.win i hi b hb⟩
    · show ((l.foldl (tickOne m.time none) (m.logs callTick, [])).1.bids.map fun b => b.expire (m.time + 1))[k]? = _
      rw [List.getElem?_map, hp.bids k b hb, Option.map_some]
      congr 1
      by_cases e : k ∈ js
      · rw [if_pos e, if_pos e]
        unfold BidG.expire setWon
        simp
      · rw [if_neg e, if_neg e]
    · have hkl : k ∈ l := (hord.mem k).2 ⟨b, hb, by rw [hopen k b hb]; exact ho⟩
      exact fits_mono (fun x => Int.le_of_eq (free_tickEnd m.time _ x)) (hp.fit k hkl hk b hb hw)

/-- what has won has started by now -/
def StartLt (m : MkG) : Prop := ∀ b ∈ m.bids, b.state = 2 → b.start < m.time
theorem StartLt.open (c : CfgG) : StartLt (openM c) := fun b hb => by simp [openM] at hb
theorem StartLt.of_bids {m m' : MkG} (h : StartLt m) (hb : m'.bids = m.bids) (ht : m'.time = m.time) : StartLt m' := fun b hm => by
  rw [hb] at hm
  rw [ht]
  exact h b hm
theorem StartLt.does {m m' : MkG} (h : StartLt m) (hg : GoodM m) {s : StepG} {z : Int} {names : List (Int × Int)} {bills : List InvG} (hr : DoesRes m s z names bills m') : StartLt m' := by
  rcases hr with ⟨_, hr, _⟩ | ⟨_, hr, _⟩ | ⟨_, hr, _⟩ | ⟨_, hr, _⟩ | ⟨_, hr, _⟩ | ⟨_, hr, _⟩ | ⟨_, hr, _⟩ | ⟨_, _, rfl, _⟩
  · rcases hr with ⟨_, _, rfl⟩ | ⟨_, _, rfl⟩
    · exact h
    · unfold submitM
      simp only
      split
      · intro b hb
        rcases List.mem_append.1 hb with hb | hb
        · exact h b hb
        · simp at hb
          subst hb
          intro hs
          simp [newBid] at hs
      · exact h.of_bids rfl rfl
  · rcases hr with ⟨_, _, rfl⟩ | ⟨_, _, rfl⟩
    · exact h
    · unfold cancelM
      simp only
      split
      · intro b hb
        have hb' : b ∈ setState m.bids (findZ m.bids s.a s.b).toNat 3 := hb
        unfold setState at hb'
        split at hb'
        · rcases List.mem_or_eq_of_mem_set hb' with hb2 | rfl
          · exact h b hb2
          · intro hs
            simp at hs
        · exact h b hb'
      · exact h.of_bids rfl rfl
  · rcases hr with ⟨_, _, rfl⟩ | ⟨_, _, rfl⟩
    · exact h
    · unfold suspendM
      simp only
      split <;> exact h.of_bids rfl rfl
  · rcases hr with ⟨_, _, rfl⟩ | ⟨_, hr⟩
    · exact h
    · rcases hr with ⟨_, _, rfl⟩ | ⟨_, _, _, rfl⟩ | ⟨_, _, _, rfl⟩ <;> exact h.of_bids rfl rfl
  · by_cases hz : z = 0
    · subst hz
      obtain ⟨js, ht⟩ := TickRes.ticked hr hg
      intro b' hb' hs
      obtain ⟨k, hk⟩ := List.getElem?_of_mem hb'
      have hkl : k < m.bids.length := by rw [← ht.len]; exact (List.getElem?_eq_some_iff.1 hk).1
      have hb := List.getElem?_eq_getElem hkl
      have := ht.bids k _ hb
      rw [hk] at this
      have e := Option.some.inj this
      rw [ht.time]
      by_cases ej : k ∈ js
      · rw [if_pos ej] at e
        rw [e]
        show m.time < m.time + 1
        omega
      · rw [if_neg ej] at e
        have hb0 := h _ (List.mem_of_getElem? hb)
        have hx : (m.bids[k].expire (m.time + 1)).state = 2 → m.bids[k].state = 2 ∧ (m.bids[k].expire (m.time + 1)).start = m.bids[k].start := by
          unfold BidG.expire
          split
          · intro h; simp at h
          · intro h; exact ⟨h, rfl⟩
        rw [e] at hs ⊢
        obtain ⟨h1, h2⟩ := hx hs
        have := hb0 h1
        rw [h2]
        omega
    · rcases hr with ⟨_, _, _, rfl⟩ | ⟨_, _, _, _, rfl⟩ | ⟨_, _, e, _⟩
      · exact h
      · exact h.of_bids rfl rfl
      · exact absurd e hz
  · rcases hr with ⟨_, _, _, rfl⟩ | ⟨_, _, _, rfl⟩
    · exact h
    · intro b hb
      obtain ⟨b0, hb0, rfl⟩ := List.mem_map.1 hb
      have := h b0 hb0
      unfold BidG.bill
      split <;> exact this
  · rcases hr with ⟨_, _, rfl⟩ | ⟨_, _, rfl⟩
    · exact h
    · unfold payM
      simp only
      split <;> exact h.of_bids rfl rfl
  · exact h
end Go.Proofs.Ytminceigjejipaa

/-
  THE REPLAY, as the program makes it: what its market keeps; the bid that is asked for is found there under its name. Nothing of the program.
-/
namespace Go.Proofs.Ytminceigjejipaa
open Go.RowKit

structure RepOk (X : MkG) : Prop where
  ok : MkOk X
  arr : ArrOk X
  chd : ChdOk X
  ent : EntOk X
  gh : X.ghost = -1

theorem ArrOk.tickF {m : MkG} (h : ArrOk m) (hok : MkOk m) (hg : m.ghost = -1) (hl : m.log.length < 300) : ArrOk (tickF m) := by
  unfold Go.Proofs.Ytminceigjejipaa.tickF
  split
  · exact h
  · have g1 : ghostI (m.logs callTick) m.time = none := ghostI_none (hok.logs hl callTick) hg m.time
    unfold tickM
    simp only [g1, wantEnd]
    refine (ArrOk.fold m.time (orderL m m.time) (m.logs callTick, []) h).tickEnd ?_
    have := (AlikeM.fold m.time none (orderL m m.time) (m.logs callTick, [])).time
    show ((orderL m m.time).foldl (tickOne m.time none) (m.logs callTick, [])).1.time ≤ _
    rw [this]
    exact Int.le_refl _
theorem tickF_ghost {m : MkG} (hok : MkOk m) (hg : m.ghost = -1) (hl : m.log.length < 300) : (tickF m).ghost = -1 := by
  unfold tickF
  split
  · exact hg
  · have g1 : ghostI (m.logs callTick) m.time = none := ghostI_none (hok.logs hl callTick) hg m.time
    unfold tickM
    simp only [g1, wantEnd]
    have := (AlikeM.fold m.time none (orderL m m.time) (m.logs callTick, [])).ghost
    exact this.trans hg

theorem RepOk.open {c : CfgG} (hc : cfgOk c = true) : RepOk (openM c) :=
  ⟨MkOk.open hc, ArrOk.open c, ChdOk.open c, ⟨fun i k b b' hb => by simp [openM] at hb, fun b hb => by simp [openM] at hb⟩, rfl⟩
theorem RepOk.again {X : MkG} (h : RepOk X) (hl : X.log.length < 300) (c : CallG) : RepOk (againM X c) := by
  have h1 := h.ok.again c
  have h2 := h.ent.again hl c
  refine ⟨h1, ?_, ?_, h2, ?_⟩
  · unfold againM
    split
    · exact h.arr
    · split
      · exact h.arr.submit _ _ _
      · split
        · exact h.arr.cancel _ _
        · split
          · obtain ⟨z, hz⟩ := capM_res X c.a c.b c.c
            exact h.arr.cap hz
          · split
            · exact h.arr.suspend _ _
            · split
              · exact h.arr.tickF h.ok h.gh hl
              · exact h.arr.logs c
  · unfold againM
    split
    · exact h.chd
    · split
      · exact h.chd.submit _ _ _
      · split
        · exact h.chd.cancel _ _
        · split
          · obtain ⟨z, hz⟩ := capM_res X c.a c.b c.c
            exact h.chd.cap hz
          · split
            · exact h.chd.suspend _ _
            · split
              · exact h.chd.tick h.ok h.gh hl
              · exact h.chd.logs c
  · unfold againM
    split
    · exact h.gh
    · split
      · unfold submitM; simp only; split <;> exact h.gh
      · split
        · unfold cancelM; simp only; split <;> exact h.gh
        · split
          · unfold capM
            split
            · exact h.gh
            · split <;> exact h.gh
          · split
            · unfold suspendM; simp only; split <;> exact h.gh
            · split
              · exact tickF_ghost h.ok h.gh hl
              · exact h.gh
theorem fold_log : ∀ (l : List CallG) (X : MkG), X.log.length + l.length ≤ 300 → (l.foldl againM X).log.length = X.log.length + l.length
  | [], _, _ => rfl
  | c :: l, X, h => by
    simp only [List.length_cons] at h
    have h1 := again_log (m := X) (by omega) c
    have := fold_log l (againM X c) (by omega)
    simp only [List.foldl_cons, List.length_cons]
    omega
theorem RepOk.fold : ∀ (l : List CallG) {X : MkG}, RepOk X → X.log.length + l.length ≤ 300 → RepOk (l.foldl againM X)
  | [], _, h, _ => h
  | c :: l, X, h, hl => by
    simp only [List.length_cons] at hl
    have h1 := again_log (m := X) (by omega) c
    exact RepOk.fold l (h.again (by omega) c) (by omega)

/-- the bids behind a call of the log: those before it, with one more or none -/
theorem again_shape {X : MkG} (c : CallG) : (∀ k : Nat, ((againM X c).bids[k]?).map keyB = (X.bids[k]?).map keyB) ∨ (againM X c).bids = X.bids ++ [newBid X c.a c.b c.job] := by
  unfold againM
  split
  · exact .inl fun _ => rfl
  · split
    · unfold submitM
      simp only
      split
      · exact .inr rfl
      · exact .inl fun _ => rfl
    · split
      · exact .inl (key_cancel X _ _)
      · split
        · refine .inl (fun k => ?_)
          unfold capM
          split
          · rfl
          · split <;> rfl
        · split
          · exact .inl (fun k => by unfold suspendM; simp only; split <;> rfl)
          · split
            · exact .inl (key_tick X)
            · exact .inl fun _ => rfl

def OwnE (e ten ref : Int) (X : MkG) : Prop := ∃ (k : Nat) (b : BidG), X.bids[k]? = some b ∧ b.ten = ten ∧ b.ref = ref ∧ b.entry = e
theorem OwnE.again {e ten ref : Int} {X : MkG} (h : OwnE e ten ref X) (c : CallG) : OwnE e ten ref (againM X c) := by
  obtain ⟨k, b, hb, h1, h2, h3⟩ := h
  rcases again_shape (X := X) c with hs | hs
  · obtain ⟨b', hb', hk⟩ := key_back (fun k => (hs k).symm) hb
    exact ⟨k, b', hb', by rw [← keyB_ten hk]; exact h1, by rw [← keyB_ref hk]; exact h2, by rw [← keyB_entry hk]; exact h3⟩
  · exact ⟨k, b, by rw [hs, List.getElem?_append_left (List.getElem?_eq_some_iff.1 hb).1]; exact hb, h1, h2, h3⟩
theorem OwnE.fold {e ten ref : Int} : ∀ (l : List CallG) {X : MkG}, OwnE e ten ref X → OwnE e ten ref (l.foldl againM X)
  | [], _, h => h
  | c :: l, _, h => OwnE.fold l (h.again c)
def NoE (e : Int) (X : MkG) : Prop := ∀ b ∈ X.bids, b.entry ≠ e
theorem NoE.again {e : Int} {X : MkG} (h : NoE e X) (hl : e < X.log.length) (c : CallG) : NoE e (againM X c) := by
  intro b hb
  rcases again_shape (X := X) c with hs | hs
  · obtain ⟨k, hk⟩ := List.getElem?_of_mem hb
    obtain ⟨b', hb', hk'⟩ := key_back hs hk
    rw [keyB_entry hk']
    exact h b' (List.mem_of_getElem? hb')
  · rw [hs] at hb
    rcases List.mem_append.1 hb with hb | hb
    · exact h b hb
    · simp at hb
      subst hb
      simp only [newBid]
      omega
theorem NoE.fold {e : Int} : ∀ (l : List CallG) {X : MkG}, NoE e X → e < X.log.length → X.log.length + l.length ≤ 300 → NoE e (l.foldl againM X)
  | [], _, h, _, _ => h
  | c :: l, X, h, he, hl => by
    simp only [List.length_cons] at hl
    have h1 := again_log (m := X) (by omega) c
    exact NoE.fold l (h.again he c) (by omega) (by omega)

theorem jobB_val {m : MkG} {j : JobG} {v : Int} (h : m.jobB j = true) (h1 : 1 ≤ v) (h2 : v ≤ 1048576) : m.jobB { j with val := v } = true := by
  unfold MkG.jobB at h ⊢
  rw [Bool.and_eq_true] at h ⊢
  refine ⟨?_, h.2⟩
  have hj := h.1
  simp only [jobIn, Bool.and_eq_true, decide_eq_true_eq] at hj ⊢
  omega
theorem submitE_val {m : MkG} {ten ref : Int} {j : JobG} {v : Int} (h : submitE m ten ref j = 0) (h1 : 1 ≤ v) (h2 : v ≤ 1048576) : submitE m ten ref { j with val := v } = 0 := by
  cases hT : m.tenB ten
  · simp [submitE, hT] at h
  cases hS : suspAt m ten
  · cases hR : refB m ten ref
    · cases hJ : m.jobB j
      · simp [submitE, hT, hS, hR, hJ] at h
      · have hJ' := jobB_val hJ h1 h2
        simp [submitE, hT, hS, hR, hJ] at h
        simp [submitE, hT, hS, hR, hJ']
        omega
    · simp [submitE, hT, hS, hR] at h
  · simp [submitE, hT, hS] at h

/-- the calls of the log, with the value v at entry e -/
def logV (e : Nat) (v : Int) (log : List CallG) : List CallG := log.mapIdx fun i x => if i = e then withV x v else x
theorem logV_get (e : Nat) (v : Int) (log : List CallG) (k : Nat) : (logV e v log)[k]? = (log[k]?).map fun x => if k = e then withV x v else x := by
  simp [logV, List.getElem?_mapIdx]
theorem logV_len (e : Nat) (v : Int) (log : List CallG) : (logV e v log).length = log.length := by simp [logV]
theorem replayV_eq (c : CfgG) (e : Nat) (v : Int) (log : List CallG) : replayV c e v log = (logV e v log).foldl againM (openM c) := rfl

theorem fold_split (l : List CallG) (X : MkG) (e : Nat) (x : CallG) (h : l[e]? = some x) : l.foldl againM X = (l.drop (e + 1)).foldl againM (againM ((l.take e).foldl againM X) x) := by
  have hl := (List.getElem?_eq_some_iff.1 h).1
  have hx : l[e] = x := (List.getElem?_eq_some_iff.1 h).2
  conv => lhs; rw [← List.take_append_drop e l]
  rw [List.foldl_append, List.drop_eq_getElem_cons hl, List.foldl_cons, hx]

theorem own_replayV {c : CfgG} {log : List CallG} {e : Nat} {ten ref : Int} {j : JobG} {v : Int} (hlen : log.length ≤ 300) (he : log[e]? = some (callSubmit ten ref j)) (hown : ∃ b ∈ (replay c log).bids, b.entry = (e : Int)) (h1 : 1 ≤ v) (h2 : v ≤ 1048576) : OwnE e ten ref (replayV c e v log) := by
  have hel := (List.getElem?_eq_some_iff.1 he).1
  have hP : ((log.take e).foldl againM (openM c)).log.length = e := by
    rw [fold_log _ _ (by simp [openM]; omega)]
    simp [openM]
    omega
  obtain ⟨P, hPd⟩ : ∃ P, P = (log.take e).foldl againM (openM c) := ⟨_, rfl⟩
  rw [← hPd] at hP
  have hacc : submitE P ten ref j = 0 := by
    by_cases hz : submitE P ten ref j = 0
    · exact hz
    exfalso
    obtain ⟨b, hb, hbe⟩ := hown
    have hR : replay c log = (log.drop (e + 1)).foldl againM (againM P (callSubmit ten ref j)) := by
      unfold replay
      rw [fold_split log (openM c) e _ he, hPd]
    have hb1 : (againM P (callSubmit ten ref j)).bids = P.bids := by
      rw [again_submit (by omega)]
      unfold submitM
      simp only
      rw [if_neg hz]
      rfl
    have hent : ∀ (l : List CallG) (X : MkG), EntOk X → X.log.length + l.length ≤ 300 → EntOk (l.foldl againM X) := by
      intro l
      induction l with
      | nil => exact fun X h _ => h
      | cons y l ih =>
        intro X h hl
        simp only [List.length_cons] at hl
        have := again_log (m := X) (by omega) y
        exact ih _ (h.again (by omega) y) (by omega)
    have hPe : EntOk P := by
      rw [hPd]
      exact hent _ _ ⟨fun i k b b' hb => by simp [openM] at hb, fun b hb => by simp [openM] at hb⟩ (by simp [openM]; omega)
    have hno : NoE e (againM P (callSubmit ten ref j)) := by
      intro b hb
      rw [hb1] at hb
      have := (hPe.in' b hb).2
      omega
    have hlg := again_log (m := P) (by omega) (callSubmit ten ref j)
    have := NoE.fold (log.drop (e + 1)) hno (by omega) (by rw [List.length_drop]; omega)
    rw [hR] at hb
    exact this b hb hbe
  have hLe : (logV e v log)[e]? = some (withV (callSubmit ten ref j) v) := by rw [logV_get, he]; simp
  have hLt : (logV e v log).take e = log.take e := by
    apply List.ext_getElem?
    intro i
    by_cases hi : i < e
    · rw [List.getElem?_take_of_lt hi, List.getElem?_take_of_lt hi, logV_get]
      cases log[i]? with
      | none => rfl
      | some x => simp [show i ≠ e by omega]
    · rw [List.getElem?_eq_none (by rw [List.length_take]; omega), List.getElem?_eq_none (by rw [List.length_take]; omega)]
  rw [replayV_eq, fold_split (logV e v log) (openM c) e _ hLe, hLt, ← hPd]
  refine OwnE.fold _ ?_
  have hw : againM P (withV (callSubmit ten ref j) v) = submitM P ten ref { j with val := v } := again_submit (R := P) (by omega) ten ref { j with val := v }
  rw [hw]
  unfold submitM
  simp only
  rw [if_pos (submitE_val hacc h1 h2)]
  refine ⟨P.bids.length, newBid P ten ref { j with val := v }, ?_, rfl, rfl, ?_⟩
  · show (P.bids ++ [newBid P ten ref { j with val := v }])[P.bids.length]? = _
    simp
  · simp [newBid, hP]

theorem RepOk.replayV {c : CfgG} (hc : cfgOk c = true) {log : List CallG} (hlen : log.length ≤ 300) (e : Nat) (v : Int) : RepOk (replayV c e v log) := by
  rw [replayV_eq]
  exact RepOk.fold _ (RepOk.open hc) (by rw [logV_len]; simp [openM]; omega)

/-- in the replay the bid is found under its name: it has won just if its price is no more -/
theorem Hist.wins {m : MkG} (h : Hist m) (hok : MkOk m) {i : Nat} {b : BidG} (hb : m.bids[i]? = some b) (hw : b.state = 2) : ∃ e : Nat, b.entry = e ∧ m.log[e]? = some (callSubmit b.ten b.ref b.job) ∧ ∀ v : Int, 1 ≤ v → v ≤ 1048576 → (lookS (replayV m.c e v m.log) b.ten b.ref = 2 ↔ priceM m b.entry ≤ v) := by
  have hsub : SubOk (replay m.c m.log) := SubOk.fold m.log (SubOk.open m.c)
  have hR : (replay m.c m.log).bids[i]? = some (unc b) := by rw [HistM.get h, hb]; rfl
  obtain ⟨e, he, hle⟩ := hsub i (unc b) hR
  rw [HistM.log h] at hle
  have he' : b.entry = e := he
  have hle' : m.log[e]? = some (callSubmit b.ten b.ref b.job) := hle
  have hj := jobIn_true (hok.bid b (List.mem_of_getElem? hb)).job
  refine ⟨e, he', hle', fun v h1 h2 => ?_⟩
  have hrep : RepOk (replayV m.c e v m.log) := RepOk.replayV hok.ck hok.nl e v
  obtain ⟨k, b2, hb2, g1, g2, g3⟩ := own_replayV (c := m.c) hok.nl hle' ⟨unc b, List.mem_of_getElem? hR, he⟩ h1 h2
  have hbo := hrep.ok.bid b2 (List.mem_of_getElem? hb2)
  have hfz : findZ (replayV m.c e v m.log).bids b.ten b.ref = k := findZ_some hb2 (by simp [BidG.is, g1, g2]) (fun k' x hk hx => by
    cases hi : x.is b.ten b.ref
    · rfl
    · simp [BidG.is] at hi
      have := hrep.chd.uniq k' k x b2 hx hb2 (by rw [hi.1, g1]) (by rw [hi.2, g2])
      omega)
  have hT : (replayV m.c e v m.log).tenB b.ten = true := by
    have := hbo.t0
    have := hbo.t1
    simp only [MkG.tenB, Bool.and_eq_true, decide_eq_true_eq]
    omega
  have hE : lookE (replayV m.c e v m.log) b.ten b.ref = 0 := by simp [lookE, hT, hfz]
  have hS : lookS (replayV m.c e v m.log) b.ten b.ref = b2.state := by
    rw [lookS, hE, if_pos rfl, hfz]
    simp [stateAt, hb2]
  have hth := replay_threshold (c := m.c) hok.ck h1 h2 hok.nl (log := m.log) (e := e) (fun x hx => by
    rw [hle'] at hx
    obtain rfl := Option.some.inj hx
    exact ⟨rfl, by show 1 ≤ b.job.val; omega, by show b.job.val ≤ 1048576; omega⟩)
  have hpr := h.price hok hb hw
  have hpe : priceM m b.entry = (replayG m.c e m.log).need := by rw [he']; rfl
  rw [hS]
  constructor
  · intro hs
    have := (hth.1 ⟨k, b2, hb2, g3, hs⟩).2
    omega
  · intro hp
    obtain ⟨i2, b3, hb3, e3, s3⟩ := hth.2 ⟨by omega, by omega⟩
    have := hrep.ent.uniq hb3 hb2 (by rw [e3, g3])
    subst this
    rw [hb2] at hb3
    rw [Option.some.inj hb3]
    exact s3
end Go.Proofs.Ytminceigjejipaa

/-
  THE STEPS OF A CASE, AND THE LOG: what a case's market logs; with a bid's value changed, the log is the replay's. Nothing of the program but the book's data.
-/
namespace Go.Proofs.Ytminceigjejipaa
open Go.RowKit

def callOfS (s : StepG) : CallG :=
  if s.kind = 1 then callSubmit s.a s.b s.job
  else if s.kind = 2 then callCancel s.a s.b
  else if s.kind = 3 then callSuspend s.a (evenB s.b)
  else if s.kind = 4 then callCapacity s.a s.b s.c
  else if s.kind = 5 then callTick
  else if s.kind = 6 then callBill
  else callPay s.a s.b
def logStep (l : List CallG) (s : StepG) : List CallG := if l.length < 300 ∧ 1 ≤ s.kind ∧ s.kind ≤ 7 then l ++ [callOfS s] else l
def logN (st : Nat → StepG) : Nat → List CallG
  | 0 => []
  | k + 1 => logStep (logN st k) (st k)

theorem DoesRes.logd {m m' : MkG} {s : StepG} {z : Int} {names : List (Int × Int)} {bills : List InvG} (h : DoesRes m s z names bills m') : m'.log = logStep m.log s ∧ m'.c = m.c := by
  unfold logStep callOfS
  rcases h with ⟨e, h, _⟩ | ⟨e, h, _⟩ | ⟨e, h, _⟩ | ⟨e, h, _⟩ | ⟨e, h, _⟩ | ⟨e, h, _⟩ | ⟨e, h, _⟩ | ⟨e, _, rfl, _⟩
  · rcases h with ⟨hl, _, rfl⟩ | ⟨hl, _, rfl⟩
    · rw [if_neg (by omega)]
      exact ⟨rfl, rfl⟩
    · rw [if_pos ⟨hl, by omega, by omega⟩, if_pos e]
      unfold submitM
      simp only
      split <;> exact ⟨rfl, rfl⟩
  · rcases h with ⟨hl, _, rfl⟩ | ⟨hl, _, rfl⟩
    · rw [if_neg (by omega)]
      exact ⟨rfl, rfl⟩
    · rw [if_pos ⟨hl, by omega, by omega⟩, if_neg (by omega), if_pos e]
      unfold cancelM
      simp only
      split <;> exact ⟨rfl, rfl⟩
  · rcases h with ⟨hl, _, rfl⟩ | ⟨hl, _, rfl⟩
    · rw [if_neg (by omega)]
      exact ⟨rfl, rfl⟩
    · rw [if_pos ⟨hl, by omega, by omega⟩, if_neg (by omega), if_neg (by omega), if_pos e]
      unfold suspendM
      simp only
      split <;> exact ⟨rfl, rfl⟩
  · rcases h with ⟨hl, _, rfl⟩ | ⟨hl, h⟩
    · rw [if_neg (by omega)]
      exact ⟨rfl, rfl⟩
    · rw [if_pos ⟨hl, by omega, by omega⟩, if_neg (by omega), if_neg (by omega), if_neg (by omega), if_pos e]
      rcases h with ⟨_, _, rfl⟩ | ⟨_, _, _, rfl⟩ | ⟨_, _, _, rfl⟩ <;> exact ⟨rfl, rfl⟩
  · rcases h with ⟨hl, _, _, rfl⟩ | ⟨hl, _, _, _, rfl⟩ | ⟨hl, _, _, l, _, rfl, _⟩
    · rw [if_neg (by omega)]
      exact ⟨rfl, rfl⟩
    · rw [if_pos ⟨hl, by omega, by omega⟩, if_neg (by omega), if_neg (by omega), if_neg (by omega), if_neg (by omega), if_pos e]
      exact ⟨rfl, rfl⟩
    · rw [if_pos ⟨hl, by omega, by omega⟩, if_neg (by omega), if_neg (by omega), if_neg (by omega), if_neg (by omega), if_pos e]
      have hal := AlikeM.fold m.time (ghostI (m.logs callTick) m.time) l (m.logs callTick, [])
      unfold tickM
      simp only
      constructor
      · show (wantEnd m.time _ (tickFold m.time _ _ _).1).log = _
        rw [(wantEnd_bids _ _ _).2]
        exact hal.log
      · show (wantEnd m.time (ghostI (m.logs callTick) m.time) (tickFold m.time (ghostI (m.logs callTick) m.time) (m.logs callTick) l).1).c = _
        have : ∀ (g : Option Nat) (X : MkG), (wantEnd m.time g X).c = X.c := fun g X => by
          unfold wantEnd
          split
          · split
            · unfold wantM
              first | rfl | (split <;> rfl)
            · rfl
          · rfl
        rw [this]
        exact hal.c
  · rcases h with ⟨hl, _, _, rfl⟩ | ⟨hl, _, _, rfl⟩
    · rw [if_neg (by omega)]
      exact ⟨rfl, rfl⟩
    · rw [if_pos ⟨hl, by omega, by omega⟩, if_neg (by omega), if_neg (by omega), if_neg (by omega), if_neg (by omega), if_neg (by omega), if_pos e]
      exact ⟨rfl, rfl⟩
  · rcases h with ⟨hl, _, rfl⟩ | ⟨hl, _, rfl⟩
    · rw [if_neg (by omega)]
      exact ⟨rfl, rfl⟩
    · rw [if_pos ⟨hl, by omega, by omega⟩, if_neg (by omega), if_neg (by omega), if_neg (by omega), if_neg (by omega), if_neg (by omega), if_neg (by omega)]
      unfold payM
      simp only
      split <;> exact ⟨rfl, rfl⟩
  · rw [if_neg (by omega)]
    exact ⟨rfl, rfl⟩

/-- the steps with another value at step i -/
def stV (st : Nat → StepG) (i : Nat) (v : Int) (n : Nat) : StepG := if n = i then { st n with job := { (st n).job with val := v } } else st n
theorem logV_snoc (e : Nat) (v : Int) (l : List CallG) (x : CallG) : logV e v (l ++ [x]) = logV e v l ++ [if l.length = e then withV x v else x] := by
  unfold logV
  rw [List.mapIdx_append]
  simp
theorem logV_low {e : Nat} {v : Int} {l : List CallG} (h : l.length ≤ e) : logV e v l = l := by
  apply List.ext_getElem?
  intro i
  rw [logV_get]
  cases hi : l[i]? with
  | none => rfl
  | some x =>
    have := (List.getElem?_eq_some_iff.1 hi).1
    simp [show i ≠ e by omega]
theorem logN_low (st : Nat → StepG) (i : Nat) (v : Int) : ∀ k, k ≤ i → logN (stV st i v) k = logN st k
  | 0, _ => rfl
  | k + 1, h => by
    have e : stV st i v k = st k := by unfold stV; rw [if_neg (by omega)]
    simp only [logN, logN_low st i v k (by omega), e]
theorem logN_len_mono (st : Nat → StepG) (i : Nat) : ∀ k, i ≤ k → (logN st i).length ≤ (logN st k).length
  | 0, h => by have : i = 0 := by omega
               subst this; exact Nat.le_refl _
  | k + 1, h => by
    by_cases e : i = k + 1
    · subst e; exact Nat.le_refl _
    · refine Nat.le_trans (logN_len_mono st i k (by omega)) ?_
      simp only [logN, logStep]
      split <;> simp
theorem logN_high (st : Nat → StepG) (i : Nat) (v : Int) (hk : (st i).kind = 1) (hl : (logN st i).length < 300) : ∀ k, i < k → logN (stV st i v) k = logV (logN st i).length v (logN st k)
  | 0, h => by omega
  | k + 1, h => by
    by_cases e : k = i
    · subst e
      have e1 : stV st k v k = { st k with job := { (st k).job with val := v } } := by unfold stV; rw [if_pos rfl]
      simp only [logN, logN_low st k v k (Nat.le_refl _), e1]
      unfold logStep
      rw [if_pos ⟨hl, by simp only; omega, by simp only; omega⟩, if_pos ⟨hl, by omega, by omega⟩, logV_snoc, if_pos rfl, logV_low (Nat.le_refl _)]
      congr 2
      simp [callOfS, hk, callSubmit, withV]
    · have e1 : stV st i v k = st k := by unfold stV; rw [if_neg e]
      have ih := logN_high st i v hk hl k (by omega)
      simp only [logN, ih, e1]
      unfold logStep
      rw [logV_len]
      split
      · rw [logV_snoc, if_neg]
        have h1 := logN_len_mono st (i + 1) k (by omega)
        have h2 : (logN st (i + 1)).length = (logN st i).length + 1 := by
          simp only [logN]
          unfold logStep
          rw [if_pos ⟨hl, by omega, by omega⟩, List.length_append]
          rfl
        omega
      · rfl

/-- what is known of the bids, and of the steps that submitted them -/
structure StepsOk (st : Nat → StepG) (k : Nat) (m : MkG) (b : BookG) : Prop where
  log : m.log = logN st k
  bid : ∀ (j : Nat) (o : KnownG) (x : BidG), b.bids[j]? = some o → m.bids[j]? = some x → ∃ i : Nat, o.step = i ∧ i < k ∧ (st i).kind = 1 ∧ (st i).a = o.ten ∧ (st i).b = o.ref ∧ (st i).job = o.job ∧ x.entry = ((logN st i).length : Int) ∧ (logN st i).length < 300
theorem StepsOk.start (st : Nat → StepG) (c : CfgG) : StepsOk st 0 (openM c) (startB c) := ⟨rfl, fun j o x _ hx => by simp [openM] at hx⟩
theorem StepsOk.step {st : Nat → StepG} {k : Nat} {m m' : MkG} {b : BookG} (h : StepsOk st k m b) (hg : GoodM m) (hs : SoundM m) (hrel : BookRel m b) {z : Int} {names : List (Int × Int)} {bills : List InvG} (hr : DoesRes m (st k) z names bills m') : StepsOk st (k + 1) m' (noteB b k (st k) z m.time) := by
  have hlog := hr.logd.1
  obtain ⟨_, hmv⟩ := hs.does hg hr
  refine ⟨by rw [hlog, h.log]; rfl, fun j o x ho hx => ?_⟩
  have hold : ∀ o, b.bids[j]? = some o → ∃ i : Nat, o.step = i ∧ i < k + 1 ∧ (st i).kind = 1 ∧ (st i).a = o.ten ∧ (st i).b = o.ref ∧ (st i).job = o.job ∧ x.entry = ((logN st i).length : Int) ∧ (logN st i).length < 300 := fun o ho => by
    obtain ⟨x0, hx0⟩ : ∃ x0, m.bids[j]? = some x0 := ⟨_, List.getElem?_eq_getElem (by rw [← hrel.len]; exact (List.getElem?_eq_some_iff.1 ho).1)⟩
    obtain ⟨i, a1, a2, a3, a4, a5, a6, a7, a8⟩ := h.bid j o x0 ho hx0
    obtain ⟨x', hx', hn, _⟩ := hmv j x0 hx0
    rw [hx] at hx'
    obtain rfl := Option.some.inj hx'
    have he : x.entry = x0.entry := congrArg (·.2.2.2.2) hn
    exact ⟨i, a1, by omega, a3, a4, a5, a6, by rw [he]; exact a7, a8⟩
  by_cases hnew : (st k).kind = 1 ∧ z = 0
  · obtain ⟨hk1, hz⟩ := hnew
    have hnb : (noteB b k (st k) z m.time).bids = b.bids ++ [knownNew k m.time (st k)] := by simp [noteB, hk1, hz]
    rw [hnb] at ho
    rcases Nat.lt_or_ge j b.bids.length with hj | hj
    · rw [List.getElem?_append_left hj] at ho
      exact hold o ho
    · rw [List.getElem?_append_right hj] at ho
      have hj0 : j - b.bids.length = 0 := by
        have := (List.getElem?_eq_some_iff.1 ho).1
        simp at this
        omega
      rw [hj0] at ho
      have ho' : o = knownNew k m.time (st k) := (Option.some.inj ho).symm
      subst ho'
      have hsub : SubmitRes m (st k).a (st k).b (st k).job z m' := by
        rcases hr with ⟨_, h, _⟩ | ⟨e, _⟩ | ⟨e, _⟩ | ⟨e, _⟩ | ⟨e, _⟩ | ⟨e, _⟩ | ⟨e, _⟩ | ⟨e, _⟩
        · exact h
        all_goals omega
      rcases hsub with ⟨_, hz2, _⟩ | ⟨hl, hz2, rfl⟩
      · omega
      · have hbids : (submitM m (st k).a (st k).b (st k).job).bids = m.bids ++ [newBid m (st k).a (st k).b (st k).job] := by
          unfold submitM
          simp only
          rw [if_pos (by omega)]
          rfl
        rw [hbids] at hx
        have hjm : j = m.bids.length := by rw [← hrel.len]; omega
        rw [hjm] at hx
        simp at hx
        subst hx
        refine ⟨k, rfl, by omega, hk1, rfl, rfl, rfl, ?_, ?_⟩
        · show ((m.log.length : Nat) : Int) = _
          rw [h.log]
        · rw [← h.log]; exact hl
  · have hnb : (noteB b k (st k) z m.time).bids = b.bids := by
      unfold noteB
      rw [if_neg (fun h => hnew ⟨h.2, h.1⟩)]
      split
      · rfl
      · split <;> rfl
    rw [hnb] at ho
    exact hold o ho
end Go.Proofs.Ytminceigjejipaa
