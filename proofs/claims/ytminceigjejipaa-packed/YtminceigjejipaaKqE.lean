import Derived.Test.YtminceigjejipaaKqC
/-
  Packed: what a tick has told and left, between the market and the book. Nothing of the program but the book's data.
-/
namespace Go.Proofs.Ytminceigjejipaa
open Go.RowKit

/-- how many of the first k have started at t -/
def cntW (l : List BidG) (t : Int) (k : Nat) : Nat := (l.take k).countP fun x => (x.state == 2) && (x.start == t)
theorem cntW_succ {l : List BidG} {t : Int} {k : Nat} {x : BidG} (h : l[k]? = some x) : cntW l t (k + 1) = cntW l t k + if ((x.state == 2) && (x.start == t)) = true then 1 else 0 := by
  unfold cntW
  rw [take_snoc h, List.countP_append]
  simp [List.countP_cons]

/-- what is left behind a tick, bid by bid -/
structure LeftP (m' : MkG) (t res : Int) (x : BidG) : Prop where
  late : x.state = 1 → ¬ x.job.dl < t + 1 + x.job.len
  fit : x.state = 1 → suspAt m' x.ten = false → x.arrival ≤ t → res * sizeJ x.job ≤ x.job.val → fitsB m' x t = false

theorem cnt_nodup (k : Nat) : ∀ js : List Nat, js.Nodup → js.countP (fun x => decide (x < k + 1)) = js.countP (fun x => decide (x < k)) + if k ∈ js then 1 else 0
  | [], _ => by simp
  | j :: js, h => by
    rw [List.nodup_cons] at h
    have ih := cnt_nodup k js h.2
    rw [List.countP_cons, List.countP_cons, ih]
    by_cases e : j = k
    · subst e
      rw [if_neg h.1]
      simp
    · have hm : (k ∈ j :: js) = (k ∈ js) := by
        rw [List.mem_cons, eq_iff_iff]
        exact ⟨fun h => h.resolve_left (fun e' => e e'.symm), .inr⟩
      simp only [hm]
      by_cases e2 : j < k
      · have h1 : decide (j < k + 1) = true := by simp; omega
        have h2 : decide (j < k) = true := by simpa using e2
        rw [h1, h2]
        simp only [if_true]
        omega
      · have h1 : decide (j < k + 1) = false := by simp; omega
        have h2 : decide (j < k) = false := by simpa using e2
        rw [h1, h2]
        simp only [Bool.false_eq_true, if_false]
        omega
theorem expire_cases (x : BidG) (now : Int) : (x.expire now = x ∧ (x.state = 1 → ¬ x.job.dl < now + x.job.len)) ∨ ((x.expire now).state = 4) := by
  unfold BidG.expire
  split
  · exact .inr rfl
  · rename_i h
    refine .inl ⟨rfl, fun hs hd => h ?_⟩
    simp [hs, hd]

section
variable {m m' : MkG} {names : List (Int × Int)} {js : List Nat}
theorem TkdK.cnt (h : TkdK m m' names js) (hlt : StartLt m) (k : Nat) (hk : k ≤ m'.bids.length) : cntW m'.bids m.time k = js.countP fun x => decide (x < k) := by
  induction k with
  | zero => simp [cntW]
  | succ k ih =>
    obtain ⟨x', hx'⟩ : ∃ x', m'.bids[k]? = some x' := ⟨_, List.getElem?_eq_getElem (by omega)⟩
    obtain ⟨x, hx⟩ : ∃ x, m.bids[k]? = some x := ⟨_, List.getElem?_eq_getElem (by rw [← h.len]; omega)⟩
    rw [cntW_succ hx', cnt_nodup k js h.nodup, ih (by omega)]
    congr 1
    have hb := h.bids k x hx
    rw [hx'] at hb
    have e := Option.some.inj hb
    by_cases ej : k ∈ js
    · rw [if_pos ej] at e ⊢
      rw [e]
      simp [setWon]
    · rw [if_neg ej] at e ⊢
      rw [if_neg]
      rw [e]
      rintro hh
      simp only [Bool.and_eq_true, beq_iff_eq] at hh
      rcases expire_cases x (m.time + 1) with ⟨e1, _⟩ | e1
      · rw [e1] at hh
        have := hlt x (List.mem_of_getElem? hx) hh.1
        omega
      · omega
theorem TkdK.count (h : TkdK m m' names js) (hlt : StartLt m) : cntW m'.bids m.time m'.bids.length = names.length := by
  rw [h.cnt hlt _ (Nat.le_refl _), h.names, List.length_map, List.countP_eq_length]
  intro j hj
  obtain ⟨x, hx, _⟩ := h.cand j hj
  have := (List.getElem?_eq_some_iff.1 hx).1
  rw [← h.len] at this
  simpa using this
theorem TkdK.left (h : TkdK m m' names js) (hsu : m'.susp = m.susp) (hc : m'.c = m.c) {i : Nat} {x' : BidG} (hx' : m'.bids[i]? = some x') : LeftP m' m.time m'.c.res x' := by
  obtain ⟨x, hx⟩ : ∃ x, m.bids[i]? = some x := ⟨_, List.getElem?_eq_getElem (by rw [← h.len]; exact (List.getElem?_eq_some_iff.1 hx').1)⟩
  have hb := h.bids i x hx
  rw [hx'] at hb
  have e := Option.some.inj hb
  by_cases ej : i ∈ js
  · rw [if_pos ej] at e
    have hs : x'.state = 2 := by rw [e]; rfl
    exact ⟨fun h1 => by omega, fun h1 => by omega⟩
  · rw [if_neg ej] at e
    rcases expire_cases x (m.time + 1) with ⟨e1, e2⟩ | e1
    · rw [e1] at e
      subst e
      refine ⟨e2, fun h1 h2 h3 h4 => ?_⟩
      have hl := e2 h1
      refine h.fit i x' ej hx ?_ ?_
      · unfold suspAt at h2
        rw [hsu] at h2
        simp only [BidG.openB, suspAt, h2, h1, Bool.and_eq_true, decide_eq_true_eq]
        refine ⟨⟨by simp, h3⟩, by omega⟩
      · unfold BidG.winB
        rw [← hc]
        simpa using h4
    · rw [← e] at e1
      exact ⟨fun h1 => by omega, fun h1 => by omega⟩
end

/-- the book has seen all -/
def SeenAll (m : MkG) (b : BookG) : Prop := ∀ (i : Nat) (o : KnownG) (x : BidG), b.bids[i]? = some o → m.bids[i]? = some x → o.wasS = x.state
theorem SeenAll.start (c : CfgG) : SeenAll (openM c) (startB c) := fun i o x _ hx => by simp [openM] at hx
theorem SeenAll.seen (m : MkG) (b : BookG) : SeenAll m (seenB m b) := fun i o x ho hx => by
  unfold seenB at ho
  simp only [seenTo, List.getElem?_mapIdx] at ho
  cases hb : b.bids[i]? with
  | none => rw [hb] at ho; cases ho
  | some o0 =>
    rw [hb] at ho
    have hl : i < b.bids.length := (List.getElem?_eq_some_iff.1 hb).1
    simp only [Option.map_some, hl, if_true, hx, Option.some.injEq] at ho
    rw [← ho]
    rfl

theorem doesRes_tick {m m' : MkG} {s : StepG} {z : Int} {names : List (Int × Int)} {bills : List InvG} (h : DoesRes m s z names bills m') (hk : s.kind = 5) : TickRes m z names m' := by
  rcases h with ⟨e, _⟩ | ⟨e, _⟩ | ⟨e, _⟩ | ⟨e, _⟩ | ⟨_, h, _⟩ | ⟨e, _⟩ | ⟨e, _⟩ | ⟨e, _⟩
  · omega
  · omega
  · omega
  · omega
  · exact h
  · omega
  · omega
  · omega
theorem told1_of {m m' : MkG} {b : BookG} {names : List (Int × Int)} (hp : KeepP m b) (hse : SeenAll m b) (hr : TickRes m 0 names m') (hp' : KeepP m' b) : ∃ js, Told1 m m' b names js := by
  obtain ⟨js, ht⟩ := TickRes.ticked hr hp.good
  have hrest := tick_rest hp.good hr
  exact ⟨js, ht, hp'.good, hp'.sound, hp'.rel, hse, hrest.susp, hrest.c, hr.names_len hp.good.ok⟩
end Go.Proofs.Ytminceigjejipaa
