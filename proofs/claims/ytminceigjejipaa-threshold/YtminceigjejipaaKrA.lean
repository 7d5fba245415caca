import Derived.Test.YtminceigjejipaaKqA
import Derived.Test.YtminceigjejipaaG11
/-
  THE STEPS OF A CASE, AND THE LOG: what a case's market logs; with a bid's value changed, the log is the replay's. Nothing of the program but the book's data.
-/
namespace Go.Proofs.Ytminceigjejipaa
open Go.RowKit

def callOfS (s : StepG) : CallG :=
  if s.kind = 1 then callSubmit s.a s.b s.job
  else if s.kind = 2 then callCancel s.a s.b
  else if s.kind = 3 then callSuspend s.a (evenB s.b)
  else if s.kind = 4 then callCapacity s.a s.b s.c
  else if s.kind = 5 then callTick
  else if s.kind = 6 then callBill
  else callPay s.a s.b
def logStep (l : List CallG) (s : StepG) : List CallG := if l.length < 300 ∧ 1 ≤ s.kind ∧ s.kind ≤ 7 then l ++ [callOfS s] else l
def logN (st : Nat → StepG) : Nat → List CallG
  | 0 => []
  | k + 1 => logStep (logN st k) (st k)

theorem DoesRes.logd {m m' : MkG} {s : StepG} {z : Int} {names : List (Int × Int)} {bills : List InvG} (h : DoesRes m s z names bills m') : m'.log = logStep m.log s ∧ m'.c = m.c := by
  unfold logStep callOfS
  rcases h with ⟨e, h, _⟩ | ⟨e, h, _⟩ | ⟨e, h, _⟩ | ⟨e, h, _⟩ | ⟨e, h, _⟩ | ⟨e, h, _⟩ | ⟨e, h, _⟩ | ⟨e, _, rfl, _⟩
  · rcases h with ⟨hl, _, rfl⟩ | ⟨hl, _, rfl⟩
    · rw [if_neg (by omega)]
      exact ⟨rfl, rfl⟩
    · rw [if_pos ⟨hl, by omega, by omega⟩, if_pos e]
      unfold submitM
      simp only
      split <;> exact ⟨rfl, rfl⟩
  · rcases h with ⟨hl, _, rfl⟩ | ⟨hl, _, rfl⟩
    · rw [if_neg (by omega)]
      exact ⟨rfl, rfl⟩
    · rw [if_pos ⟨hl, by omega, by omega⟩, if_neg (by omega), if_pos e]
      unfold cancelM
      simp only
      split <;> exact ⟨rfl, rfl⟩
  · rcases h with ⟨hl, _, rfl⟩ | ⟨hl, _, rfl⟩
    · rw [if_neg (by omega)]
      exact ⟨rfl, rfl⟩
    · rw [if_pos ⟨hl, by omega, by omega⟩, if_neg (by omega), if_neg (by omega), if_pos e]
      unfold suspendM
      simp only
      split <;> exact ⟨rfl, rfl⟩
  · rcases h with ⟨hl, _, rfl⟩ | ⟨hl, h⟩
    · rw [if_neg (by omega)]
      exact ⟨rfl, rfl⟩
    · rw [if_pos ⟨hl, by omega, by omega⟩, if_neg (by omega), if_neg (by omega), if_neg (by omega), if_pos e]
      rcases h with ⟨_, _, rfl⟩ | ⟨_, _, _, rfl⟩ | ⟨_, _, _, rfl⟩ <;> exact ⟨rfl, rfl⟩
  · rcases h with ⟨hl, _, _, rfl⟩ | ⟨hl, _, _, _, rfl⟩ | ⟨hl, _, _, l, _, rfl, _⟩
    · rw [if_neg (by omega)]
      exact ⟨rfl, rfl⟩
    · rw [if_pos ⟨hl, by omega, by omega⟩, if_neg (by omega), if_neg (by omega), if_neg (by omega), if_neg (by omega), if_pos e]
      exact ⟨rfl, rfl⟩
    · rw [if_pos ⟨hl, by omega, by omega⟩, if_neg (by omega), if_neg (by omega), if_neg (by omega), if_neg (by omega), if_pos e]
      have hal := AlikeM.fold m.time (ghostI (m.logs callTick) m.time) l (m.logs callTick, [])
      unfold tickM
      simp only
      constructor
      · show (wantEnd m.time _ (tickFold m.time _ _ _).1).log = _
        rw [(wantEnd_bids _ _ _).2]
        exact hal.log
      · show (wantEnd m.time (ghostI (m.logs callTick) m.time) (tickFold m.time (ghostI (m.logs callTick) m.time) (m.logs callTick) l).1).c = _
        have : ∀ (g : Option Nat) (X : MkG), (wantEnd m.time g X).c = X.c := fun g X => by
          unfold wantEnd
          split
          · split
            · unfold wantM
              first | rfl | (split <;> rfl)
            · rfl
          · rfl
        rw [this]
        exact hal.c
  · rcases h with ⟨hl, _, _, rfl⟩ | ⟨hl, _, _, rfl⟩
    · rw [if_neg (by omega)]
      exact ⟨rfl, rfl⟩
    · rw [if_pos ⟨hl, by omega, by omega⟩, if_neg (by omega), if_neg (by omega), if_neg (by omega), if_neg (by omega), if_neg (by omega), if_pos e]
      exact ⟨rfl, rfl⟩
  · rcases h with ⟨hl, _, rfl⟩ | ⟨hl, _, rfl⟩
    · rw [if_neg (by omega)]
      exact ⟨rfl, rfl⟩
    · rw [if_pos ⟨hl, by omega, by omega⟩, if_neg (by omega), if_neg (by omega), if_neg (by omega), if_neg (by omega), if_neg (by omega), if_neg (by omega)]
      unfold payM
      simp only
      split <;> exact ⟨rfl, rfl⟩
  · rw [if_neg (by omega)]
    exact ⟨rfl, rfl⟩

/-- the steps with another value at step i -/
def stV (st : Nat → StepG) (i : Nat) (v : Int) (n : Nat) : StepG := if n = i then { st n with job := { (st n).job with val := v } } else st n
theorem logV_snoc (e : Nat) (v : Int) (l : List CallG) (x : CallG) : logV e v (l ++ [x]) = logV e v l ++ [if l.length = e then withV x v else x] := by
  unfold logV
  rw [List.mapIdx_append]
  simp
theorem logV_low {e : Nat} {v : Int} {l : List CallG} (h : l.length ≤ e) : logV e v l = l := by
  apply List.ext_getElem?
  intro i
  rw [logV_get]
  cases hi : l[i]? with
  | none => rfl
  | some x =>
    have := (List.getElem?_eq_some_iff.1 hi).1
    simp [show i ≠ e by omega]
theorem logN_low (st : Nat → StepG) (i : Nat) (v : Int) : ∀ k, k ≤ i → logN (stV st i v) k = logN st k
  | 0, _ => rfl
  | k + 1, h => by
    have e : stV st i v k = st k := by unfold stV; rw [if_neg (by omega)]
    simp only [logN, logN_low st i v k (by omega), e]
theorem logN_len_mono (st : Nat → StepG) (i : Nat) : ∀ k, i ≤ k → (logN st i).length ≤ (logN st k).length
  | 0, h => by have : i = 0 := by omega
               subst this; exact Nat.le_refl _
  | k + 1, h => by
    by_cases e : i = k + 1
    · subst e; exact Nat.le_refl _
    · refine Nat.le_trans (logN_len_mono st i k (by omega)) ?_
      simp only [logN, logStep]
      split <;> simp
theorem logN_high (st : Nat → StepG) (i : Nat) (v : Int) (hk : (st i).kind = 1) (hl : (logN st i).length < 300) : ∀ k, i < k → logN (stV st i v) k = logV (logN st i).length v (logN st k)
  | 0, h => by omega
  | k + 1, h => by
    by_cases e : k = i
    · subst e
      have e1 : stV st k v k = { st k with job := { (st k).job with val := v } } := by unfold stV; rw [if_pos rfl]
      simp only [logN, logN_low st k v k (Nat.le_refl _), e1]
      unfold logStep
      rw [if_pos ⟨hl, by simp only; omega, by simp only; omega⟩, if_pos ⟨hl, by omega, by omega⟩, logV_snoc, if_pos rfl, logV_low (Nat.le_refl _)]
      congr 2
      simp [callOfS, hk, callSubmit, withV]
    · have e1 : stV st i v k = st k := by unfold stV; rw [if_neg e]
      have ih := logN_high st i v hk hl k (by omega)
      simp only [logN, ih, e1]
      unfold logStep
      rw [logV_len]
      split
      · rw [logV_snoc, if_neg]
        have h1 := logN_len_mono st (i + 1) k (by omega)
        have h2 : (logN st (i + 1)).length = (logN st i).length + 1 := by
          simp only [logN]
          unfold logStep
          rw [if_pos ⟨hl, by omega, by omega⟩, List.length_append]
          rfl
        omega
      · rfl

/-- what is known of the bids, and of the steps that submitted them -/
structure StepsOk (st : Nat → StepG) (k : Nat) (m : MkG) (b : BookG) : Prop where
  log : m.log = logN st k
  bid : ∀ (j : Nat) (o : KnownG) (x : BidG), b.bids[j]? = some o → m.bids[j]? = some x → ∃ i : Nat, o.step = i ∧ i < k ∧ (st i).kind = 1 ∧ (st i).a = o.ten ∧ (st i).b = o.ref ∧ (st i).job = o.job ∧ x.entry = ((logN st i).length : Int) ∧ (logN st i).length < 300
theorem StepsOk.start (st : Nat → StepG) (c : CfgG) : StepsOk st 0 (openM c) (startB c) := ⟨rfl, fun j o x _ hx => by simp [openM] at hx⟩
theorem StepsOk.step {st : Nat → StepG} {k : Nat} {m m' : MkG} {b : BookG} (h : StepsOk st k m b) (hg : GoodM m) (hs : SoundM m) (hrel : BookRel m b) {z : Int} {names : List (Int × Int)} {bills : List InvG} (hr : DoesRes m (st k) z names bills m') : StepsOk st (k + 1) m' (noteB b k (st k) z m.time) := by
  have hlog := hr.logd.1
  obtain ⟨_, hmv⟩ := hs.does hg hr
  refine ⟨by rw [hlog, h.log]; rfl, fun j o x ho hx => ?_⟩
  have hold : ∀ o, b.bids[j]? = some o → ∃ i : Nat, o.step = i ∧ i < k + 1 ∧ (st i).kind = 1 ∧ (st i).a = o.ten ∧ (st i).b = o.ref ∧ (st i).job = o.job ∧ x.entry = ((logN st i).length : Int) ∧ (logN st i).length < 300 := fun o ho => by
    obtain ⟨x0, hx0⟩ : ∃ x0, m.bids[j]? = some x0 := ⟨_, List.getElem?_eq_getElem (by rw [← hrel.len]; exact (List.getElem?_eq_some_iff.1 ho).1)⟩
    obtain ⟨i, a1, a2, a3, a4, a5, a6, a7, a8⟩ := h.bid j o x0 ho hx0
    obtain ⟨x', hx', hn, _⟩ := hmv j x0 hx0
    rw [hx] at hx'
    obtain rfl := Option.some.inj hx'
    have he : x.entry = x0.entry := congrArg (·.2.2.2.2) hn
    exact ⟨i, a1, by omega, a3, a4, a5, a6, by rw [he]; exact a7, a8⟩
  by_cases hnew : (st k).kind = 1 ∧ z = 0
  · obtain ⟨hk1, hz⟩ := hnew
    have hnb : (noteB b k (st k) z m.time).bids = b.bids ++ [knownNew k m.time (st k)] := by simp [noteB, hk1, hz]
    rw [hnb] at ho
    rcases Nat.lt_or_ge j b.bids.length with hj | hj
    · rw [List.getElem?_append_left hj] at ho
      exact hold o ho
    · rw [List.getElem?_append_right hj] at ho
      have hj0 : j - b.bids.length = 0 := by
        have := (List.getElem?_eq_some_iff.1 ho).1
        simp at this
        omega
      rw [hj0] at ho
      have ho' : o = knownNew k m.time (st k) := (Option.some.inj ho).symm
      subst ho'
      have hsub : SubmitRes m (st k).a (st k).b (st k).job z m' := by
        rcases hr with ⟨_, h, _⟩ | ⟨e, _⟩ | ⟨e, _⟩ | ⟨e, _⟩ | ⟨e, _⟩ | ⟨e, _⟩ | ⟨e, _⟩ | ⟨e, _⟩
        · exact h
        all_goals omega
      rcases hsub with ⟨_, hz2, _⟩ | ⟨hl, hz2, rfl⟩
      · omega
      · have hbids : (submitM m (st k).a (st k).b (st k).job).bids = m.bids ++ [newBid m (st k).a (st k).b (st k).job] := by
          unfold submitM
          simp only
          rw [if_pos (by omega)]
          rfl
        rw [hbids] at hx
        have hjm : j = m.bids.length := by rw [← hrel.len]; omega
        rw [hjm] at hx
        simp at hx
        subst hx
        refine ⟨k, rfl, by omega, hk1, rfl, rfl, rfl, ?_, ?_⟩
        · show ((m.log.length : Nat) : Int) = _
          rw [h.log]
        · rw [← h.log]; exact hl
  · have hnb : (noteB b k (st k) z m.time).bids = b.bids := by
      unfold noteB
      rw [if_neg (fun h => hnew ⟨h.2, h.1⟩)]
      split
      · rfl
      · split <;> rfl
    rw [hnb] at ho
    exact hold o ho
end Go.Proofs.Ytminceigjejipaa
