import Derived.Test.YtminceigjejipabG6
import Derived.Deep.LoopGhost
import Derived.Test.YtminceigjejipabG5
import Derived.Test.YtminceigjejipabG4
import Derived.Test.YtminceigjejipabG2
namespace Go.Proofs.Ytminceigjejipab
open Go.RowKit

theorem startM_eq {m : MkG} {i : Nat} {b : BidG} (h : m.bids[i]? = some b) (t : Int) : startM m i t = { m with bids := m.bids.set i { b with state := 2, start := t } } := by
  unfold startM
  rw [h]

end Go.Proofs.Ytminceigjejipab

/-
  WHAT CAME OUT: the lists that the caller keeps, with its marks; 'looks' over them.
-/
namespace Go.Proofs.Ytminceigjejipab
open Go.RowKit

def markZ (n : Nat) : Int := -1000 - (n : Int)

/-- lists that came out, each of things of sz cells, all marked -/
structure OutC (TS : TypeId) (sz : Nat) (w : World) (ov : Value) (vs : List Value) (F : Nat → Prop) : Prop where
  own : w.ownsRow 0 TS 1 ov vs.length vs
  ownF : ∀ k, ov.ownBlock = some k → F k
  lt : ∀ k, F k → k < w.heap.size
  len : vs.length < 5000000000000
  item : ∀ (i : Nat) v, vs[i]? = some v → ∃ ao n cap, v = .slice ao n cap ∧ n ≤ 100000 ∧ ∀ j, j < n → ∃ g, ao = some ⟨g, 0, none⟩ ∧ F g ∧ ov.ownBlock ≠ some g ∧ ∀ r, r < sz → w.cell? ⟨g, j * sz + r, none⟩ = some (.int .i64 (markZ (i - i % 2)))

theorem OutC.nil (TS : TypeId) (sz : Nat) (w : World) : OutC TS sz w (.slice none 0 0) [] (fun _ => False) :=
  ⟨World.ownsRow_nil _ _ _ _, fun k hk => by simp [Value.ownBlock] at hk, fun _ h => h.elim, by simp, fun i v h => by simp at h⟩
theorem OutC.frame {TS : TypeId} {sz : Nat} {w w' : World} {ov : Value} {vs : List Value} {F : Nat → Prop} (h : OutC TS sz w ov vs F) (hf : ∀ k, F k → w'.heap[k]? = w.heap[k]?) : OutC TS sz w' ov vs F := by
  refine ⟨ownsRow_keep h.own (fun k hk => hf k (h.ownF k hk)), h.ownF, fun k hk => ?_, h.len, fun i v hv => ?_⟩
  · have h1 := h.lt k hk
    have h2 := hf k hk
    rw [Array.getElem?_eq_getElem h1] at h2
    exact (Array.getElem?_eq_some_iff.1 h2).1
  · obtain ⟨ao, n, cap, h1, h2, h3⟩ := h.item i v hv
    refine ⟨ao, n, cap, h1, h2, fun j hj => ?_⟩
    obtain ⟨g, a1, a2, a4, a3⟩ := h3 j hj
    exact ⟨g, a1, a2, a4, fun r hr => by rw [World.cell?_of_block (w := w) (hf g a2)]; exact a3 r hr⟩
theorem OutC.chg0 {TS : TypeId} {sz : Nat} {w w' : World} {ov : Value} {vs : List Value} {F : Nat → Prop} (h : OutC TS sz w ov vs F) (hc : Chg (fun _ => False) w w') : OutC TS sz w' ov vs F := h.frame (fun k hk => hc.block k (h.lt k hk) (fun h => h))
/-- a list more -/
theorem OutC.snoc {TS : TypeId} {sz : Nat} {w wa w' : World} {nv v : Value} {vs : List Value} {F : Nat → Prop} {g cap n c2 : Nat} {ao : Option Addr} (h : OutC TS sz w nv vs F) (hc : Chg (fun _ => False) w wa) (hlen : vs.length + 1 < 5000000000000)
    (hown : w'.ownsRow 0 TS 1 (.slice (some ⟨g, 0, none⟩) (vs.length + 1) cap) (vs.length + 1) (vs ++ [v])) (hgrow : wa.grownBy w' nv.ownBlock) (hat : nv.ownBlock = some g ∨ w.heap.size ≤ g) (hgl : g < w'.heap.size)
    (hv : v = .slice ao n c2) (hn : n ≤ 100000) (hm : ∀ j, j < n → ∃ gb, ao = some ⟨gb, 0, none⟩ ∧ gb < w.heap.size ∧ nv.ownBlock ≠ some gb ∧ ∀ r, r < sz → w.cell? ⟨gb, j * sz + r, none⟩ = some (.int .i64 (markZ (vs.length - vs.length % 2)))) (hvl : ∀ k, v.ownBlock = some k → k < w.heap.size) :
    OutC TS sz w' (.slice (some ⟨g, 0, none⟩) (vs.length + 1) cap) (vs ++ [v]) (fun k => F k ∨ k = g ∨ v.ownBlock = some k) := by
  have hc3 : Chg (fun k => nv.ownBlock = some k) w w' := (hc.mono (fun _ _ h => h.elim)).grown hgrow (fun k hk => .inl hk)
  have hle : (vs ++ [v]).length = vs.length + 1 := by simp
  have gne : ∀ gb, gb < w.heap.size → nv.ownBlock ≠ some gb → Value.ownBlock (.slice (some ⟨g, 0, none⟩) (vs.length + 1) cap) ≠ some gb := fun gb h1 h2 e => by
    simp [Value.ownBlock] at e
    subst e
    rcases hat with e | e
    · exact h2 e
    · omega
  refine ⟨by rw [hle]; exact hown, fun k hk => by simp [Value.ownBlock] at hk; exact .inr (.inl hk.symm), fun k hk => ?_, by rw [hle]; exact hlen, fun i x hx => ?_⟩
  · rcases hk with hk | rfl | hk
    · exact Nat.lt_of_lt_of_le (h.lt k hk) hc3.size
    · exact hgl
    · exact Nat.lt_of_lt_of_le (hvl k hk) hc3.size
  · rw [List.getElem?_append] at hx
    by_cases e : i < vs.length
    · rw [if_pos e] at hx
      obtain ⟨ao, n, c, h1, h2, h3⟩ := h.item i x hx
      refine ⟨ao, n, c, h1, h2, fun j hj => ?_⟩
      obtain ⟨gb, a1, a2, a4, a3⟩ := h3 j hj
      exact ⟨gb, a1, .inl a2, gne gb (h.lt gb a2) a4, fun r hr => by rw [hc3.cell (by exact h.lt gb a2) a4]; exact a3 r hr⟩
    · rw [if_neg e] at hx
      by_cases e2 : i = vs.length
      · subst e2
        simp at hx
        subst hx
        refine ⟨ao, n, c2, hv, hn, fun j hj => ?_⟩
        obtain ⟨gb, a1, a2, a4, a3⟩ := hm j hj
        exact ⟨gb, a1, .inr (.inr (by rw [hv, a1]; rfl)), gne gb a2 a4, fun r hr => by rw [hc3.cell (by exact a2) a4]; exact a3 r hr⟩
      · have : 1 ≤ i - vs.length := by omega
        rw [List.getElem?_eq_none (by simpa using this)] at hx
        cases hx
theorem OutC.form {TS : TypeId} {sz : Nat} {w : World} {ov : Value} {vs : List Value} {F : Nat → Prop} (h : OutC TS sz w ov vs F) : ∃ ao cap, ov = .slice ao vs.length cap ∧ ∀ (i : Nat) v, vs[i]? = some v → ∃ g, ao = some ⟨g, 0, none⟩ ∧ g < w.heap.size ∧ w.cell? ⟨g, i, none⟩ = some v := by
  rcases h.own.2 with ⟨hv, h0⟩ | ⟨g, cap, cur, hv, hg, hh, r⟩
  · exact ⟨none, 0, by rw [hv, h0], fun i v hi => by have := (List.getElem?_eq_some_iff.1 hi).1; omega⟩
  · refine ⟨some ⟨g, 0, none⟩, cap, hv, fun i v hi => ⟨g, rfl, (Array.getElem?_eq_some_iff.1 hh).1, ?_⟩⟩
    have := h.own.cells (g := g) (by rw [hv]; rfl) i v hi
    rwa [Addr.add_lit, Nat.zero_add] at this

theorem even_emod (i : Nat) (h : i < 50000000000000) : IntKind.i64.wrap ((i : Int) - (i : Int).tmod 2) = ((i - i % 2 : Nat) : Int) := by
  rw [Int.tmod_eq_emod_of_nonneg (by omega), IntKind.wrap_i64]
  omega

end Go.Proofs.Ytminceigjejipab

/-
  append, ONCE MORE: where it makes a new block, every old one is as it was (the value that was appended to goes on holding what it held).
-/
namespace Go.Proofs.Ytminceigjejipab
open Go.RowKit

theorem append_keeps {P : Program} (w : World) (t ty : TypeId) (base : Nat) (e : TypeId) (i : TypeInfo) (z : Value) (ht : P.underlying t = some (.slice e)) (hi : P.info? e = some i) (hz : i.zero = some z)
    (v : Value) (n : Nat) (xs : List Value) (hown : w.ownsRow base e i.size v n xs)
    (ad : Addr) (m c : Nat) (news : List Value) (hl : news.length = m * i.size) (hnews : ∀ j u, news[j]? = some u → w.cell? (ad.add j) = some u) (h1 : ∀ u ∈ news, u.oneCell' = true)
    (hm : 0 < m) (h63 : n + m ≤ maxLen) (hbytes : (n + m) * i.bytes ≤ 140737488355328) (g cap : Nat) (w' : World) (hr : (Builtin.append_ #[t, t] ty #[v, .slice (some ad) m c]).run P w = .ok (.slice (some ⟨g, 0, none⟩) (n + m) cap) w') :
    v.ownBlock = some g ∨ ∀ k, k < w.heap.size → w'.heap[k]? = w.heap[k]? := by
  have hs : n + m ≤ 9223372036854775807 := by simp only [maxLen] at h63; omega
  rcases hown.2 with ⟨rfl, rfl⟩ | ⟨g0, cap0, cur, rfl, _, hg, _, _, hcs, _⟩
  · right
    rw [run_append_nil (P := P) w t ty e i z ht hi hz ad m c news hl hnews hm (by omega) (by rw [Nat.zero_add] at hbytes; omega)] at hr
    injection hr with _ hw
    subst hw
    exact fun k hk => Below.heap_alloc w.drew _ k hk
  · by_cases hroom : n + m ≤ cap0
    · left
      rw [run_append_room (P := P) w t ty e i ht hi g0 n cap0 cur hg ad m c news hl hnews h1 hroom (by rw [hl, hcs, ← Nat.add_mul]; exact Nat.mul_le_mul_right _ hroom)] at hr
      injection hr with hv _
      simp only [Value.slice.injEq, Option.some.injEq, Addr.mk.injEq] at hv
      rw [← hv.1.1]
      rfl
    · right
      rw [run_append_grow (P := P) w t ty e i z ht hi hz ⟨g0, 0, none⟩ n cap0 xs hown.1 (hown.cells (g := g0) rfl) ad m c news hl hnews (by omega) (by omega) (growslice_fits (by omega) hbytes)] at hr
      injection hr with _ hw
      subst hw
      exact fun k hk => Below.heap_alloc w.drew _ k hk

/-- at a plain region's list -/
theorem wpList_append_keeps {P : Program} (w : World) {ops : Array Oper} {rest : List Oper} {o : Oper} {a : Act} {Q : Exit → Act → World → Prop} (hgd : o.guard = none) (s x : Operand) (t : TypeId)
    (ho : o.op = .call { callee := .builtin .append, args := #[s, x], argTypes := #[t, t] })
    (base : Nat) (e : TypeId) (i : TypeInfo) (z : Value) (size bytes : Nat) (ht : P.underlying t = some (.slice e)) (hi : P.info? e = some i) (hz : i.zero = some z) (hsize : i.size = size) (hby : i.bytes = bytes) (hzs : z.cells.size = size) (hsz : 0 < size)
    (v : Value) (n : Nat) (xs : List Value) (hs : a.eval s = v) (hown : w.ownsRow base e size v n xs)
    (ad : Addr) (m c : Nat) (news : List Value) (hx : a.eval x = .slice (some ad) m c) (hl : news.length = m * size) (hnews : ∀ j u, news[j]? = some u → w.cell? (ad.add j) = some u) (h1 : ∀ u ∈ news, u.oneCell' = true)
    (hm : 0 < m) (h63 : n + m ≤ maxLen) (hbytes : (n + m) * bytes ≤ 140737488355328) (hbase : base ≤ w.heap.size) (H : Nat) (hH : w.heap.size = H)
    (h : ∀ g cap w', w'.ownsRow base e size (.slice (some ⟨g, 0, none⟩) (n + m) cap) (n + m) (xs ++ news) → w.grownBy w' v.ownBlock → (v.ownBlock = some g ∨ (g = H ∧ ∀ k, k < w.heap.size → w'.heap[k]? = w.heap[k]?)) → g < w'.heap.size → wpList P ops Q rest (a.put o.dst (.slice (some ⟨g, 0, none⟩) (n + m) cap)) w') : wpList P ops Q (o :: rest) a w := by
  refine wpList_plain hgd fun K hK => ?_
  obtain ⟨g, cap, w', hr, h2, h3, h4, h6⟩ := run_append_lies (P := P) w t o.type base e i z size bytes ht hi hz hsize hby hzs hsz v n xs hown ad m c news hl hnews h1 hm h63 hbytes hbase H hH
  subst hsize hby
  have h5 := append_keeps w t o.type base e i z ht hi hz v n xs hown ad m c news hl hnews h1 hm h63 hbytes g cap w' hr
  unfold Oper.wp execOp
  simp only [ho, resolve, invoke, builtin, Sem.run_bind, Sem.run_pure, Result.andThen_ok, List.map_toArray, List.map_cons, List.map_nil, hs, hx, hr]
  refine hK _ _ (h g cap w' h2 h3 ?_ h6)
  rcases h4 with h4 | h4
  · exact .inl h4
  · rcases h5 with h5 | h5
    · exact .inl h5
    · exact .inr ⟨h4, h5⟩
end Go.Proofs.Ytminceigjejipab

/-
  A TICK OF THE REFERENCE WHERE NO GHOST IS, whole; what holds behind it.
-/
namespace Go.Proofs.Ytminceigjejipab
open Go.RowKit

theorem ghostI_none {m : MkG} (hok : MkOk m) (hg : m.ghost = -1) (t : Int) : ghostI m t = none := by
  refine ghostZ_none (fun i b hb => ?_)
  have := (hok.bid b (List.mem_of_getElem? hb)).e0
  have hne : (b.entry == m.ghost) = false := by rw [hg]; simp; omega
  rw [hne, Bool.and_false]

/-! ### what holds behind a tick -/
theorem tickOne_len (t : Int) (g : Option Nat) (s : TkS) (i : Nat) : (tickOne t g s i).2.length ≤ s.2.length + 1 := by
  unfold tickOne
  split
  · omega
  · split
    · simp
    · omega
theorem fold_len (t : Int) (g : Option Nat) : ∀ (l : List Nat) (s : TkS), (l.foldl (tickOne t g) s).2.length ≤ s.2.length + l.length
  | [], s => by simp
  | i :: l, s => by
    have h1 := fold_len t g l (tickOne t g s i)
    have h2 := tickOne_len t g s i
    simp only [List.foldl_cons, List.length_cons]
    omega
theorem remL_cons {n i : Nat} {l : List Nat} (hi : i < n) (hl : i ∉ l) : remL n (i :: l) < remL n l := by
  have h := remL_lt hi hl
  have e : remL n (i :: l) = remL n (l ++ [i]) := by
    unfold remL
    congr 1
    funext j
    simp [inL, Or.comm]
  omega
theorem order_len {n : Nat} {R : Nat → Nat → Prop} (hR : ∀ i, ¬ R i i) : ∀ l : List Nat, (∀ i ∈ l, i < n) → l.Pairwise R → (∀ i k, R i k → ¬ R k i) → l.length + remL n l ≤ n
  | [], _, _, _ => by
    have : remL n [] ≤ (List.range n).length := List.countP_le_length
    simpa using this
  | i :: l, h, hp, ha => by
    rw [List.pairwise_cons] at hp
    have hn : i ∉ l := fun hx => hR i (hp.1 i hx)
    have := order_len hR l (fun j hj => h j (List.mem_cons_of_mem _ hj)) hp.2 ha
    have := remL_cons (h i List.mem_cons_self) hn
    simp only [List.length_cons]
    omega
theorem IsOrder.len {m : MkG} {t : Int} {l : List Nat} (h : IsOrder m t l) : l.length ≤ m.bids.length := by
  have := order_len (n := m.bids.length) (R := fun i k => aheadI m.bids i k = true) (fun i hx => by rw [aheadI_irrefl] at hx; cases hx) l (fun i hi => by
    obtain ⟨b, hb, _⟩ := (h.mem i).1 hi
    exact (List.getElem?_eq_some_iff.1 hb).1) h.sorted (fun i k h1 h2 => by rw [aheadI_asymm h1] at h2; cases h2)
  omega
theorem TickRes.names_len {m m' : MkG} {z : Int} {names : List (Int × Int)} (h : TickRes m z names m') (hok : MkOk m) : names.length ≤ 300 := by
  rcases h with ⟨_, _, rfl, _⟩ | ⟨_, _, _, rfl, _⟩ | ⟨_, _, _, l, hl, _, rfl⟩
  · simp
  · simp
  · have h1 := fold_len m.time (ghostI (m.logs callTick) m.time) l (m.logs callTick, [])
    have h2 := hl.len
    have h3 := hok.bl
    show (tickFold m.time (ghostI (m.logs callTick) m.time) (m.logs callTick) l).2.length ≤ 300
    unfold tickFold
    simp only [List.length_nil, Nat.zero_add] at h1
    omega
theorem wantEnd_ok {m : MkG} (h : MkOk m) (t : Int) (g : Option Nat) : MkOk (wantEnd t g m) ∧ (wantEnd t g m).c = m.c ∧ (wantEnd t g m).ghost = m.ghost := by
  unfold wantEnd
  cases g with
  | none => exact ⟨h, rfl, rfl⟩
  | some gi =>
    simp only
    split
    · exact ⟨h.want gi 0, (AlikeM.want m gi 0).c, (AlikeM.want m gi 0).ghost⟩
    · exact ⟨h, rfl, rfl⟩
theorem MkOk.tick {m m' : MkG} (h : MkOk m) {z : Int} {names : List (Int × Int)} (hr : TickRes m z names m') : MkOk m' ∧ m'.ghost = m.ghost := by
  rcases hr with ⟨_, _, _, rfl⟩ | ⟨hl, _, _, _, rfl⟩ | ⟨hl, ht, _, l, hord, rfl, _⟩
  · exact ⟨h, rfl⟩
  · exact ⟨h.logs hl _, rfl⟩
  · have h1 := h.logs hl callTick
    have hcf := cfgOk_true h.ck
    have h2 := MkOk.fold (ghostI (m.logs callTick) m.time) (t := m.time) h.t0 (by omega) l (m.logs callTick, []) h1
    have h3 := AlikeM.fold m.time (ghostI (m.logs callTick) m.time) l (m.logs callTick, [])
    obtain ⟨h4, h5, h6⟩ := wantEnd_ok h2 m.time (ghostI (m.logs callTick) m.time)
    refine ⟨h4.tickEnd h.t0 (by rw [h5, h3.c]; exact ht), ?_⟩
    show (wantEnd m.time (ghostI (m.logs callTick) m.time) (l.foldl (tickOne m.time (ghostI (m.logs callTick) m.time)) (m.logs callTick, [])).1).ghost = m.ghost
    rw [h6, h3.ghost]
    rfl

/-! ### marks in a row of pairs -/
theorem ownsRow_set2 {w : World} {e : TypeId} {sz : Nat} {v : Value} {n i g : Nat} {xs : List Value} (h : w.ownsRow 0 e sz v n xs) (hi : 0 < n) (hg : v.ownBlock = some g) (u : Value) : (w.setCell ⟨g, i, none⟩ u).ownsRow 0 e sz v n (xs.set i u) := by
  rcases h.2 with ⟨hv, h0⟩ | ⟨g', cap, cur, hv, hb0, hh, hc, hmx, hsz, htake⟩
  · omega
  · have hgg : g' = g := by rw [hv] at hg; simpa [Value.ownBlock] using hg
    subst hgg
    refine ⟨by simp [h.1], .inr ⟨g', cap, cur.setIfInBounds i u, hv, hb0, box_set hh _, hc, hmx, by simpa using hsz, ?_⟩⟩
    rw [Array.toList_setIfInBounds, List.take_set, htake]
/-- the first k cells are marked -/
def markTo (xs : List Value) (k : Nat) (u : Value) : List Value := xs.mapIdx fun i x => if i < k then u else x
theorem markTo_zero (xs : List Value) (u : Value) : markTo xs 0 u = xs := by
  apply List.ext_getElem?
  intro i
  simp [markTo]
theorem markTo_len (xs : List Value) (k : Nat) (u : Value) : (markTo xs k u).length = xs.length := by simp [markTo]
theorem markTo_succ (xs : List Value) (k : Nat) (u : Value) : markTo xs (k + 1) u = (markTo xs k u).set k u := by
  apply List.ext_getElem?
  intro i
  rw [List.getElem?_set]
  by_cases e : k = i
  · subst e
    rw [if_pos rfl, markTo_len]
    by_cases hl : k < xs.length
    · rw [if_pos hl]
      simp [markTo, hl]
    · rw [if_neg hl]
      simp [markTo, hl]
  · rw [if_neg e]
    simp only [markTo, List.getElem?_mapIdx]
    cases xs[i]? with
    | none => rfl
    | some x =>
      have hik : (i < k + 1) ↔ (i < k) := ⟨fun h => by omega, fun h => by omega⟩
      simp only [Option.map_some, hik]
theorem markTo_all {xs : List Value} {k : Nat} {u : Value} (hk : xs.length ≤ k) : markTo xs k u = List.replicate xs.length u := by
  apply List.ext_getElem?
  intro i
  by_cases hi : i < xs.length
  · simp [markTo, hi, show i < k by omega]
  · simp [markTo, hi]
end Go.Proofs.Ytminceigjejipab

namespace Go.Proofs.Ytminceigjejipab
open Go.RowKit

end Go.Proofs.Ytminceigjejipab
