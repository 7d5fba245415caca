import Derived.Test.YtccfademkgjeiaaTkH
import Derived.Test.YtccfademkgjeiaaLawN
import Derived.Test.YtccfademkgjeiaaAppK
/-
  A TICK OF THE REFERENCE WHERE NO GHOST IS, whole; what holds behind it.
-/
namespace Go.Proofs.Ytccfademkgjeiaa
open Go.RowKit

theorem ghostI_none {m : MkG} (hok : MkOk m) (hg : m.ghost = -1) (t : Int) : ghostI m t = none := by
  refine ghostZ_none (fun i b hb => ?_)
  have := (hok.bid b (List.mem_of_getElem? hb)).e0
  have hne : (b.entry == m.ghost) = false := by rw [hg]; simp; omega
  rw [hne, Bool.and_false]

theorem refTick_any (p : Nat) (V : MV) (m : MkG) (w : World) (hm : MktAt w p V m) (hok : MkOk m) (hg : m.ghost = -1) :
    Calls Try.prog 93 #[.pointer (some ⟨p, 0, none⟩)] w fun e w' => ∃ kv names z m', e = .returned (.tuple #[kv, .int .i64 z]) ∧ TickRes m z names m' ∧ TickTo w p V names m' kv w' := by
  by_cases hl : m.log.length = 300
  · refine (tick_full p V m w hm hl).mono ?_
    rintro e w' ⟨rfl, h⟩
    exact ⟨_, [], 2, m, rfl, .inl ⟨hl, rfl, rfl, rfl⟩, h, World.ownsRow_nil _ _ _ _, fun k hk => by simp [Value.ownBlock] at hk⟩
  · have hl' : m.log.length < 300 := by have := hok.nl; omega
    by_cases ht : m.c.ticks ≤ m.time
    · refine (tick_over p V m w hm hl' ht).mono ?_
      rintro e w' ⟨rfl, h⟩
      exact ⟨_, [], 11, _, rfl, .inr (.inl ⟨hl', ht, rfl, rfl, rfl⟩), h, World.ownsRow_nil _ _ _ _, fun k hk => by simp [Value.ownBlock] at hk⟩
    · refine (tick_none p V m w hm hok hl' (by omega) (ghostI_none (hok.logs hl' callTick) hg m.time)).mono ?_
      rintro e w' ⟨ov, l, hord, rfl, hto⟩
      exact ⟨ov, _, 0, _, rfl, .inr (.inr ⟨hl', by omega, rfl, l, hord, rfl, rfl⟩), hto⟩

/-! ### what holds behind a tick -/
theorem tickOne_len (t : Int) (g : Option Nat) (s : TkS) (i : Nat) : (tickOne t g s i).2.length ≤ s.2.length + 1 := by
  unfold tickOne
  split
  · omega
  · split
    · simp
    · omega
theorem fold_len (t : Int) (g : Option Nat) : ∀ (l : List Nat) (s : TkS), (l.foldl (tickOne t g) s).2.length ≤ s.2.length + l.length
  | [], s => by simp
  | i :: l, s => by
    have h1 := fold_len t g l (tickOne t g s i)
    have h2 := tickOne_len t g s i
    simp only [List.foldl_cons, List.length_cons]
    omega
theorem remL_cons {n i : Nat} {l : List Nat} (hi : i < n) (hl : i ∉ l) : remL n (i :: l) < remL n l := by
  have h := remL_lt hi hl
  have e : remL n (i :: l) = remL n (l ++ [i]) := by
    unfold remL
    congr 1
    funext j
    simp [inL, Or.comm]
  omega
theorem order_len {n : Nat} {R : Nat → Nat → Prop} (hR : ∀ i, ¬ R i i) : ∀ l : List Nat, (∀ i ∈ l, i < n) → l.Pairwise R → (∀ i k, R i k → ¬ R k i) → l.length + remL n l ≤ n
  | [], _, _, _ => by
    have : remL n [] ≤ (List.range n).length := List.countP_le_length
    simpa using this
  | i :: l, h, hp, ha => by
    rw [List.pairwise_cons] at hp
    have hn : i ∉ l := fun hx => hR i (hp.1 i hx)
    have := order_len hR l (fun j hj => h j (List.mem_cons_of_mem _ hj)) hp.2 ha
    have := remL_cons (h i List.mem_cons_self) hn
    simp only [List.length_cons]
    omega
theorem IsOrder.len {m : MkG} {t : Int} {l : List Nat} (h : IsOrder m t l) : l.length ≤ m.bids.length := by
  have := order_len (n := m.bids.length) (R := fun i k => aheadI m.bids i k = true) (fun i hx => by rw [aheadI_irrefl] at hx; cases hx) l (fun i hi => by
    obtain ⟨b, hb, _⟩ := (h.mem i).1 hi
    exact (List.getElem?_eq_some_iff.1 hb).1) h.sorted (fun i k h1 h2 => by rw [aheadI_asymm h1] at h2; cases h2)
  omega
theorem TickRes.names_len {m m' : MkG} {z : Int} {names : List (Int × Int)} (h : TickRes m z names m') (hok : MkOk m) : names.length ≤ 300 := by
  rcases h with ⟨_, _, rfl, _⟩ | ⟨_, _, _, rfl, _⟩ | ⟨_, _, _, l, hl, _, rfl⟩
  · simp
  · simp
  · have h1 := fold_len m.time (ghostI (m.logs callTick) m.time) l (m.logs callTick, [])
    have h2 := hl.len
    have h3 := hok.bl
    show (tickFold m.time (ghostI (m.logs callTick) m.time) (m.logs callTick) l).2.length ≤ 300
    unfold tickFold
    simp only [List.length_nil, Nat.zero_add] at h1
    omega
theorem wantEnd_ok {m : MkG} (h : MkOk m) (t : Int) (g : Option Nat) : MkOk (wantEnd t g m) ∧ (wantEnd t g m).c = m.c ∧ (wantEnd t g m).ghost = m.ghost := by
  unfold wantEnd
  cases g with
  | none => exact ⟨h, rfl, rfl⟩
  | some gi =>
    simp only
    split
    · exact ⟨h.want gi 0, (AlikeM.want m gi 0).c, (AlikeM.want m gi 0).ghost⟩
    · exact ⟨h, rfl, rfl⟩
theorem MkOk.tick {m m' : MkG} (h : MkOk m) {z : Int} {names : List (Int × Int)} (hr : TickRes m z names m') : MkOk m' ∧ m'.ghost = m.ghost := by
  rcases hr with ⟨_, _, _, rfl⟩ | ⟨hl, _, _, _, rfl⟩ | ⟨hl, ht, _, l, hord, rfl, _⟩
  · exact ⟨h, rfl⟩
  · exact ⟨h.logs hl _, rfl⟩
  · have h1 := h.logs hl callTick
    have hcf := cfgOk_true h.ck
    have h2 := MkOk.fold (ghostI (m.logs callTick) m.time) (t := m.time) h.t0 (by omega) l (m.logs callTick, []) h1
    have h3 := AlikeM.fold m.time (ghostI (m.logs callTick) m.time) l (m.logs callTick, [])
    obtain ⟨h4, h5, h6⟩ := wantEnd_ok h2 m.time (ghostI (m.logs callTick) m.time)
    refine ⟨h4.tickEnd h.t0 (by rw [h5, h3.c]; exact ht), ?_⟩
    show (wantEnd m.time (ghostI (m.logs callTick) m.time) (l.foldl (tickOne m.time (ghostI (m.logs callTick) m.time)) (m.logs callTick, [])).1).ghost = m.ghost
    rw [h6, h3.ghost]
    rfl

/-! ### marks in a row of pairs -/
theorem ownsRow_set2 {w : World} {e : TypeId} {sz : Nat} {v : Value} {n i g : Nat} {xs : List Value} (h : w.ownsRow 0 e sz v n xs) (hi : 0 < n) (hg : v.ownBlock = some g) (u : Value) : (w.setCell ⟨g, i, none⟩ u).ownsRow 0 e sz v n (xs.set i u) := by
  rcases h.2 with ⟨hv, h0⟩ | ⟨g', cap, cur, hv, hb0, hh, hc, hmx, hsz, htake⟩
  · omega
  · have hgg : g' = g := by rw [hv] at hg; simpa [Value.ownBlock] using hg
    subst hgg
    refine ⟨by simp [h.1], .inr ⟨g', cap, cur.setIfInBounds i u, hv, hb0, box_set hh _, hc, hmx, by simpa using hsz, ?_⟩⟩
    rw [Array.toList_setIfInBounds, List.take_set, htake]
/-- the first k cells are marked -/
def markTo (xs : List Value) (k : Nat) (u : Value) : List Value := xs.mapIdx fun i x => if i < k then u else x
theorem markTo_zero (xs : List Value) (u : Value) : markTo xs 0 u = xs := by
  apply List.ext_getElem?
  intro i
  simp [markTo]
theorem markTo_len (xs : List Value) (k : Nat) (u : Value) : (markTo xs k u).length = xs.length := by simp [markTo]
theorem markTo_succ (xs : List Value) (k : Nat) (u : Value) : markTo xs (k + 1) u = (markTo xs k u).set k u := by
  apply List.ext_getElem?
  intro i
  rw [List.getElem?_set]
  by_cases e : k = i
  · subst e
    rw [if_pos rfl, markTo_len]
    by_cases hl : k < xs.length
    · rw [if_pos hl]
      simp [markTo, hl]
    · rw [if_neg hl]
      simp [markTo, hl]
  · rw [if_neg e]
    simp only [markTo, List.getElem?_mapIdx]
    cases xs[i]? with
    | none => rfl
    | some x =>
      have hik : (i < k + 1) ↔ (i < k) := ⟨fun h => by omega, fun h => by omega⟩
      simp only [Option.map_some, hik]
theorem markTo_all {xs : List Value} {k : Nat} {u : Value} (hk : xs.length ≤ k) : markTo xs k u = List.replicate xs.length u := by
  apply List.ext_getElem?
  intro i
  by_cases hi : i < xs.length
  · simp [markTo, hi, show i < k by omega]
  · simp [markTo, hi]
end Go.Proofs.Ytccfademkgjeiaa
