import Derived.Test.YtminceigjejipaaG4
import Derived.Test.YtminceigjejipaaG3
import Derived.Deep.LoopGhost
import Derived.Test.YtminceigjejipaaG2
import Derived.Test.YtminceigjejipaaG5
namespace Go.Proofs.Ytminceigjejipaa
open Go.RowKit

/-- the ghost's place, as a number -/
def ghostZ (m : MkG) (t : Int) : Int := match ghostI m t with | some i => i | none => -1
theorem ghostZ_none {m : MkG} {t : Int} (h : ∀ (i : Nat) (b : BidG), m.bids[i]? = some b → (b.openB m t && (b.entry == m.ghost)) = false) : ghostI m t = none := by
  unfold ghostI
  rw [List.findIdx?_eq_none_iff]
  intro x hx
  obtain ⟨i, hi⟩ := List.getElem?_of_mem hx
  exact h i x hi
theorem ghostZ_some {m : MkG} {t : Int} {k : Nat} {b : BidG} (hb : m.bids[k]? = some b) (hk : (b.openB m t && (b.entry == m.ghost)) = true) (h : ∀ (i : Nat) (b : BidG), i < k → m.bids[i]? = some b → (b.openB m t && (b.entry == m.ghost)) = false) : ghostI m t = some k := by
  have hkl := (List.getElem?_eq_some_iff.1 hb)
  unfold ghostI
  rw [List.findIdx?_eq_some_iff_getElem.2 ⟨hkl.1, by rw [hkl.2]; exact hk, fun j hj => by rw [h j _ hj (List.getElem?_eq_getElem (by have := hkl.1; omega))]; simp⟩]

end Go.Proofs.Ytminceigjejipaa

namespace Go.Proofs.Ytminceigjejipaa
open Go.RowKit

theorem jobAt_eq {m : MkG} {i : Nat} {b : BidG} (h : m.bids[i]? = some b) : jobAt m i = b.job := by
  unfold jobAt
  rw [h]

theorem wantM_need {m : MkG} {g : Nat} {v : Int} (h : m.need = 0 ∨ wantV m g v < m.need) : wantM m g v = { m with need := wantV m g v } := by rw [wantM, if_pos h]
theorem wantM_same {m : MkG} {g : Nat} {v : Int} (h : ¬ (m.need = 0 ∨ wantV m g v < m.need)) : wantM m g v = m := by rw [wantM, if_neg h]

end Go.Proofs.Ytminceigjejipaa

namespace Go.Proofs.Ytminceigjejipaa
open Go.RowKit

def nameCells (x : Int × Int) : List Value := [.int .i64 x.1, .int .i64 x.2]
theorem infoName : (Try.prog.info? 90).map (fun i => (i.zero, i.size, i.bytes)) = some (some (.agg #[.int .i64 0, .int .i64 0]), 2, 16) := by kernel_rfl

section
variable {w1 wr w' : World} {p : Nat} {V : MV} {L n : Nat} {m : MkG} {out : List (Int × Int)} {done : List Nat} {ov : Value}
end

theorem ownsRow_form {w : World} {base : Nat} {e : TypeId} {size n : Nat} {v : Value} {xs : List Value} (h : w.ownsRow base e size v n xs) : ∃ ao cap, v = .slice ao n cap := by
  rcases h.2 with ⟨hv, h0⟩ | ⟨g, cap, cur, hv, _⟩
  · exact ⟨none, 0, by rw [hv, h0]⟩
  · exact ⟨_, cap, hv⟩

/-- how many are not in a list -/
def remL (n : Nat) (d : List Nat) : Nat := (List.range n).countP fun j => !inL d j
theorem remL_succ (n : Nat) (d : List Nat) : remL (n + 1) d = remL n d + if inL d n then 0 else 1 := by
  simp only [remL, List.range_succ, List.countP_append, List.countP_cons, List.countP_nil]
  cases inL d n <;> simp
theorem remL_le (n i : Nat) (d : List Nat) : remL n (d ++ [i]) ≤ remL n d := by
  induction n with
  | zero => simp [remL]
  | succ n ih =>
    rw [remL_succ, remL_succ]
    by_cases h : n ∈ d
    · simp [inL, h]; exact ih
    · by_cases e : n = i
      · simp [inL, e]; subst e; omega
      · simp [inL, h, e]; exact ih
theorem remL_lt {n i : Nat} {d : List Nat} (hi : i < n) (hd : i ∉ d) : remL n (d ++ [i]) < remL n d := by
  induction n with
  | zero => omega
  | succ n ih =>
    rw [remL_succ, remL_succ]
    by_cases e : n = i
    · subst e
      have := remL_le n n d
      simp [inL, hd]
      omega
    · have := ih (by omega)
      by_cases h : n ∈ d
      · simp [inL, h]; exact this
      · simp [inL, h, e]; exact this

/-- the first k bids looked at: which have expired -/
def expTo (l : List BidG) (k : Nat) (now : Int) : List BidG := l.mapIdx fun i b => if i < k then b.expire now else b
theorem expTo_get (l : List BidG) (k : Nat) (now : Int) : (expTo l k now)[k]? = l[k]? := by
  simp [expTo]
theorem expTo_len (l : List BidG) (k : Nat) (now : Int) : (expTo l k now).length = l.length := by simp [expTo]
theorem expTo_zero (l : List BidG) (now : Int) : expTo l 0 now = l := by
  apply List.ext_getElem?
  intro i
  simp [expTo]
theorem expTo_all (l : List BidG) (now : Int) : expTo l l.length now = l.map fun b => b.expire now := by
  apply List.ext_getElem?
  intro i
  by_cases hi : i < l.length
  · simp [expTo, hi]
  · simp [expTo, hi]
theorem expTo_succ {l : List BidG} {k : Nat} {now : Int} {b : BidG} (hb : l[k]? = some b) : expTo l (k + 1) now = (expTo l k now).set k (b.expire now) := by
  apply List.ext_getElem?
  intro i
  rw [List.getElem?_set]
  by_cases e : k = i
  · subst e
    have hl := (List.getElem?_eq_some_iff.1 hb).1
    rw [if_pos rfl, if_pos (by rw [expTo_len]; exact hl)]
    simp [expTo, hb]
  · rw [if_neg e]
    simp only [expTo, List.getElem?_mapIdx]
    cases l[i]? with
    | none => rfl
    | some x =>
      simp only [Option.map_some]
      have hik : (i < k + 1) ↔ (i < k) := ⟨fun h => by omega, fun h => by omega⟩
      simp only [hik]
theorem expTo_same {l : List BidG} {k : Nat} {now : Int} {b : BidG} (hb : l[k]? = some b) (he : b.expire now = b) : expTo l (k + 1) now = expTo l k now := by
  rw [expTo_succ hb, he]
  apply List.ext_getElem?
  intro i
  rw [List.getElem?_set]
  by_cases e : k = i
  · subst e
    have hl := (List.getElem?_eq_some_iff.1 hb).1
    rw [if_pos rfl, if_pos (by rw [expTo_len]; exact hl), expTo_get, hb]
  · rw [if_neg e]
theorem MkOk.exp {m : MkG} (h : MkOk m) (k : Nat) (now : Int) : ∀ b ∈ expTo m.bids k now, BidOk m.c b := by
  intro b hb
  obtain ⟨i, hi⟩ := List.getElem?_of_mem hb
  simp only [expTo, List.getElem?_mapIdx] at hi
  cases h2 : m.bids[i]? with
  | none => rw [h2] at hi; simp at hi
  | some x =>
    rw [h2] at hi
    simp only [Option.map_some, Option.some.injEq] at hi
    have hx := h.bid x (List.mem_of_getElem? h2)
    rw [← hi]
    split
    · exact BidG.expire_ok hx _
    · exact hx
end Go.Proofs.Ytminceigjejipaa

namespace Go.Proofs.Ytminceigjejipaa
open Go.RowKit

theorem startM_eq {m : MkG} {i : Nat} {b : BidG} (h : m.bids[i]? = some b) (t : Int) : startM m i t = { m with bids := m.bids.set i { b with state := 2, start := t } } := by
  unfold startM
  rw [h]

end Go.Proofs.Ytminceigjejipaa

/-
  append, ONCE MORE: where it makes a new block, every old one is as it was (the value that was appended to goes on holding what it held).
-/
namespace Go.Proofs.Ytminceigjejipaa
open Go.RowKit

theorem append_keeps {P : Program} (w : World) (t ty : TypeId) (base : Nat) (e : TypeId) (i : TypeInfo) (z : Value) (ht : P.underlying t = some (.slice e)) (hi : P.info? e = some i) (hz : i.zero = some z)
    (v : Value) (n : Nat) (xs : List Value) (hown : w.ownsRow base e i.size v n xs)
    (ad : Addr) (m c : Nat) (news : List Value) (hl : news.length = m * i.size) (hnews : ∀ j u, news[j]? = some u → w.cell? (ad.add j) = some u) (h1 : ∀ u ∈ news, u.oneCell' = true)
    (hm : 0 < m) (h63 : n + m ≤ maxLen) (hbytes : (n + m) * i.bytes ≤ 140737488355328) (g cap : Nat) (w' : World) (hr : (Builtin.append_ #[t, t] ty #[v, .slice (some ad) m c]).run P w = .ok (.slice (some ⟨g, 0, none⟩) (n + m) cap) w') :
    v.ownBlock = some g ∨ ∀ k, k < w.heap.size → w'.heap[k]? = w.heap[k]? := by
  have hs : n + m ≤ 9223372036854775807 := by simp only [maxLen] at h63; omega
  rcases hown.2 with ⟨rfl, rfl⟩ | ⟨g0, cap0, cur, rfl, _, hg, _, _, hcs, _⟩
  · right
    rw [run_append_nil (P := P) w t ty e i z ht hi hz ad m c news hl hnews hm (by omega) (by rw [Nat.zero_add] at hbytes; omega)] at hr
    injection hr with _ hw
    subst hw
    exact fun k hk => Below.heap_alloc w.drew _ k hk
  · by_cases hroom : n + m ≤ cap0
    · left
      rw [run_append_room (P := P) w t ty e i ht hi g0 n cap0 cur hg ad m c news hl hnews h1 hroom (by rw [hl, hcs, ← Nat.add_mul]; exact Nat.mul_le_mul_right _ hroom)] at hr
      injection hr with hv _
      simp only [Value.slice.injEq, Option.some.injEq, Addr.mk.injEq] at hv
      rw [← hv.1.1]
      rfl
    · right
      rw [run_append_grow (P := P) w t ty e i z ht hi hz ⟨g0, 0, none⟩ n cap0 xs hown.1 (hown.cells (g := g0) rfl) ad m c news hl hnews (by omega) (by omega) (growslice_fits (by omega) hbytes)] at hr
      injection hr with _ hw
      subst hw
      exact fun k hk => Below.heap_alloc w.drew _ k hk

/-- at a plain region's list -/
theorem wpList_append_keeps {P : Program} (w : World) {ops : Array Oper} {rest : List Oper} {o : Oper} {a : Act} {Q : Exit → Act → World → Prop} (hgd : o.guard = none) (s x : Operand) (t : TypeId)
    (ho : o.op = .call { callee := .builtin .append, args := #[s, x], argTypes := #[t, t] })
    (base : Nat) (e : TypeId) (i : TypeInfo) (z : Value) (size bytes : Nat) (ht : P.underlying t = some (.slice e)) (hi : P.info? e = some i) (hz : i.zero = some z) (hsize : i.size = size) (hby : i.bytes = bytes) (hzs : z.cells.size = size) (hsz : 0 < size)
    (v : Value) (n : Nat) (xs : List Value) (hs : a.eval s = v) (hown : w.ownsRow base e size v n xs)
    (ad : Addr) (m c : Nat) (news : List Value) (hx : a.eval x = .slice (some ad) m c) (hl : news.length = m * size) (hnews : ∀ j u, news[j]? = some u → w.cell? (ad.add j) = some u) (h1 : ∀ u ∈ news, u.oneCell' = true)
    (hm : 0 < m) (h63 : n + m ≤ maxLen) (hbytes : (n + m) * bytes ≤ 140737488355328) (hbase : base ≤ w.heap.size) (H : Nat) (hH : w.heap.size = H)
    (h : ∀ g cap w', w'.ownsRow base e size (.slice (some ⟨g, 0, none⟩) (n + m) cap) (n + m) (xs ++ news) → w.grownBy w' v.ownBlock → (v.ownBlock = some g ∨ (g = H ∧ ∀ k, k < w.heap.size → w'.heap[k]? = w.heap[k]?)) → g < w'.heap.size → wpList P ops Q rest (a.put o.dst (.slice (some ⟨g, 0, none⟩) (n + m) cap)) w') : wpList P ops Q (o :: rest) a w := by
  refine wpList_plain hgd fun K hK => ?_
  obtain ⟨g, cap, w', hr, h2, h3, h4, h6⟩ := run_append_lies (P := P) w t o.type base e i z size bytes ht hi hz hsize hby hzs hsz v n xs hown ad m c news hl hnews h1 hm h63 hbytes hbase H hH
  subst hsize hby
  have h5 := append_keeps w t o.type base e i z ht hi hz v n xs hown ad m c news hl hnews h1 hm h63 hbytes g cap w' hr
  unfold Oper.wp execOp
  simp only [ho, resolve, invoke, builtin, Sem.run_bind, Sem.run_pure, Result.andThen_ok, List.map_toArray, List.map_cons, List.map_nil, hs, hx, hr]
  refine hK _ _ (h g cap w' h2 h3 ?_ h6)
  rcases h4 with h4 | h4
  · exact .inl h4
  · rcases h5 with h5 | h5
    · exact .inl h5
    · exact .inr ⟨h4, h5⟩
end Go.Proofs.Ytminceigjejipaa

/-
  A TICK OF THE REFERENCE WHERE NO GHOST IS, whole; what holds behind it.
-/
namespace Go.Proofs.Ytminceigjejipaa
open Go.RowKit

theorem ghostI_none {m : MkG} (hok : MkOk m) (hg : m.ghost = -1) (t : Int) : ghostI m t = none := by
  refine ghostZ_none (fun i b hb => ?_)
  have := (hok.bid b (List.mem_of_getElem? hb)).e0
  have hne : (b.entry == m.ghost) = false := by rw [hg]; simp; omega
  rw [hne, Bool.and_false]

/-! ### what holds behind a tick -/
theorem tickOne_len (t : Int) (g : Option Nat) (s : TkS) (i : Nat) : (tickOne t g s i).2.length ≤ s.2.length + 1 := by
  unfold tickOne
  split
  · omega
  · split
    · simp
    · omega
theorem fold_len (t : Int) (g : Option Nat) : ∀ (l : List Nat) (s : TkS), (l.foldl (tickOne t g) s).2.length ≤ s.2.length + l.length
  | [], s => by simp
  | i :: l, s => by
    have h1 := fold_len t g l (tickOne t g s i)
    have h2 := tickOne_len t g s i
    simp only [List.foldl_cons, List.length_cons]
    omega
theorem remL_cons {n i : Nat} {l : List Nat} (hi : i < n) (hl : i ∉ l) : remL n (i :: l) < remL n l := by
  have h := remL_lt hi hl
  have e : remL n (i :: l) = remL n (l ++ [i]) := by
    unfold remL
    congr 1
    funext j
    simp [inL, Or.comm]
  omega
theorem order_len {n : Nat} {R : Nat → Nat → Prop} (hR : ∀ i, ¬ R i i) : ∀ l : List Nat, (∀ i ∈ l, i < n) → l.Pairwise R → (∀ i k, R i k → ¬ R k i) → l.length + remL n l ≤ n
  | [], _, _, _ => by
    have : remL n [] ≤ (List.range n).length := List.countP_le_length
    simpa using this
  | i :: l, h, hp, ha => by
    rw [List.pairwise_cons] at hp
    have hn : i ∉ l := fun hx => hR i (hp.1 i hx)
    have := order_len hR l (fun j hj => h j (List.mem_cons_of_mem _ hj)) hp.2 ha
    have := remL_cons (h i List.mem_cons_self) hn
    simp only [List.length_cons]
    omega
theorem IsOrder.len {m : MkG} {t : Int} {l : List Nat} (h : IsOrder m t l) : l.length ≤ m.bids.length := by
  have := order_len (n := m.bids.length) (R := fun i k => aheadI m.bids i k = true) (fun i hx => by rw [aheadI_irrefl] at hx; cases hx) l (fun i hi => by
    obtain ⟨b, hb, _⟩ := (h.mem i).1 hi
    exact (List.getElem?_eq_some_iff.1 hb).1) h.sorted (fun i k h1 h2 => by rw [aheadI_asymm h1] at h2; cases h2)
  omega
theorem TickRes.names_len {m m' : MkG} {z : Int} {names : List (Int × Int)} (h : TickRes m z names m') (hok : MkOk m) : names.length ≤ 300 := by
  rcases h with ⟨_, _, rfl, _⟩ | ⟨_, _, _, rfl, _⟩ | ⟨_, _, _, l, hl, _, rfl⟩
  · simp
  · simp
  · have h1 := fold_len m.time (ghostI (m.logs callTick) m.time) l (m.logs callTick, [])
    have h2 := hl.len
    have h3 := hok.bl
    show (tickFold m.time (ghostI (m.logs callTick) m.time) (m.logs callTick) l).2.length ≤ 300
    unfold tickFold
    simp only [List.length_nil, Nat.zero_add] at h1
    omega
theorem wantEnd_ok {m : MkG} (h : MkOk m) (t : Int) (g : Option Nat) : MkOk (wantEnd t g m) ∧ (wantEnd t g m).c = m.c ∧ (wantEnd t g m).ghost = m.ghost := by
  unfold wantEnd
  cases g with
  | none => exact ⟨h, rfl, rfl⟩
  | some gi =>
    simp only
    split
    · exact ⟨h.want gi 0, (AlikeM.want m gi 0).c, (AlikeM.want m gi 0).ghost⟩
    · exact ⟨h, rfl, rfl⟩
theorem MkOk.tick {m m' : MkG} (h : MkOk m) {z : Int} {names : List (Int × Int)} (hr : TickRes m z names m') : MkOk m' ∧ m'.ghost = m.ghost := by
  rcases hr with ⟨_, _, _, rfl⟩ | ⟨hl, _, _, _, rfl⟩ | ⟨hl, ht, _, l, hord, rfl, _⟩
  · exact ⟨h, rfl⟩
  · exact ⟨h.logs hl _, rfl⟩
  · have h1 := h.logs hl callTick
    have hcf := cfgOk_true h.ck
    have h2 := MkOk.fold (ghostI (m.logs callTick) m.time) (t := m.time) h.t0 (by omega) l (m.logs callTick, []) h1
    have h3 := AlikeM.fold m.time (ghostI (m.logs callTick) m.time) l (m.logs callTick, [])
    obtain ⟨h4, h5, h6⟩ := wantEnd_ok h2 m.time (ghostI (m.logs callTick) m.time)
    refine ⟨h4.tickEnd h.t0 (by rw [h5, h3.c]; exact ht), ?_⟩
    show (wantEnd m.time (ghostI (m.logs callTick) m.time) (l.foldl (tickOne m.time (ghostI (m.logs callTick) m.time)) (m.logs callTick, [])).1).ghost = m.ghost
    rw [h6, h3.ghost]
    rfl

/-! ### marks in a row of pairs -/
theorem ownsRow_set2 {w : World} {e : TypeId} {sz : Nat} {v : Value} {n i g : Nat} {xs : List Value} (h : w.ownsRow 0 e sz v n xs) (hi : 0 < n) (hg : v.ownBlock = some g) (u : Value) : (w.setCell ⟨g, i, none⟩ u).ownsRow 0 e sz v n (xs.set i u) := by
  rcases h.2 with ⟨hv, h0⟩ | ⟨g', cap, cur, hv, hb0, hh, hc, hmx, hsz, htake⟩
  · omega
  · have hgg : g' = g := by rw [hv] at hg; simpa [Value.ownBlock] using hg
    subst hgg
    refine ⟨by simp [h.1], .inr ⟨g', cap, cur.setIfInBounds i u, hv, hb0, box_set hh _, hc, hmx, by simpa using hsz, ?_⟩⟩
    rw [Array.toList_setIfInBounds, List.take_set, htake]
/-- the first k cells are marked -/
def markTo (xs : List Value) (k : Nat) (u : Value) : List Value := xs.mapIdx fun i x => if i < k then u else x
theorem markTo_zero (xs : List Value) (u : Value) : markTo xs 0 u = xs := by
  apply List.ext_getElem?
  intro i
  simp [markTo]
theorem markTo_len (xs : List Value) (k : Nat) (u : Value) : (markTo xs k u).length = xs.length := by simp [markTo]
theorem markTo_succ (xs : List Value) (k : Nat) (u : Value) : markTo xs (k + 1) u = (markTo xs k u).set k u := by
  apply List.ext_getElem?
  intro i
  rw [List.getElem?_set]
  by_cases e : k = i
  · subst e
    rw [if_pos rfl, markTo_len]
    by_cases hl : k < xs.length
    · rw [if_pos hl]
      simp [markTo, hl]
    · rw [if_neg hl]
      simp [markTo, hl]
  · rw [if_neg e]
    simp only [markTo, List.getElem?_mapIdx]
    cases xs[i]? with
    | none => rfl
    | some x =>
      have hik : (i < k + 1) ↔ (i < k) := ⟨fun h => by omega, fun h => by omega⟩
      simp only [Option.map_some, hik]
theorem markTo_all {xs : List Value} {k : Nat} {u : Value} (hk : xs.length ≤ k) : markTo xs k u = List.replicate xs.length u := by
  apply List.ext_getElem?
  intro i
  by_cases hi : i < xs.length
  · simp [markTo, hi, show i < k by omega]
  · simp [markTo, hi]
end Go.Proofs.Ytminceigjejipaa

namespace Go.Proofs.Ytminceigjejipaa
open Go.RowKit

end Go.Proofs.Ytminceigjejipaa
