import Derived.Test.YtminceigjejipaaG2
import Derived.Test.YtminceigjejipaaG5
import Derived.Test.YtminceigjejipaaG6
import Derived.Test.YtminceigjejipaaG4
import Derived.Test.YtminceigjejipaaG3
/-
  append, ONCE MORE: where it makes a new block, every old one is as it was (the value that was appended to goes on holding what it held).
-/
namespace Go.Proofs.Ytminceigjejipaa
open Go.RowKit

theorem append_keeps {P : Program} (w : World) (t ty : TypeId) (base : Nat) (e : TypeId) (i : TypeInfo) (z : Value) (ht : P.underlying t = some (.slice e)) (hi : P.info? e = some i) (hz : i.zero = some z)
    (v : Value) (n : Nat) (xs : List Value) (hown : w.ownsRow base e i.size v n xs)
    (ad : Addr) (m c : Nat) (news : List Value) (hl : news.length = m * i.size) (hnews : ∀ j u, news[j]? = some u → w.cell? (ad.add j) = some u) (h1 : ∀ u ∈ news, u.oneCell' = true)
    (hm : 0 < m) (h63 : n + m ≤ maxLen) (hbytes : (n + m) * i.bytes ≤ 140737488355328) (g cap : Nat) (w' : World) (hr : (Builtin.append_ #[t, t] ty #[v, .slice (some ad) m c]).run P w = .ok (.slice (some ⟨g, 0, none⟩) (n + m) cap) w') :
    v.ownBlock = some g ∨ ∀ k, k < w.heap.size → w'.heap[k]? = w.heap[k]? := by
  have hs : n + m ≤ 9223372036854775807 := by simp only [maxLen] at h63; omega
  rcases hown.2 with ⟨rfl, rfl⟩ | ⟨g0, cap0, cur, rfl, _, hg, _, _, hcs, _⟩
  · right
    rw [run_append_nil (P := P) w t ty e i z ht hi hz ad m c news hl hnews hm (by omega) (by rw [Nat.zero_add] at hbytes; omega)] at hr
    injection hr with _ hw
    subst hw
    exact fun k hk => Below.heap_alloc w.drew _ k hk
  · by_cases hroom : n + m ≤ cap0
    · left
      rw [run_append_room (P := P) w t ty e i ht hi g0 n cap0 cur hg ad m c news hl hnews h1 hroom (by rw [hl, hcs, ← Nat.add_mul]; exact Nat.mul_le_mul_right _ hroom)] at hr
      injection hr with hv _
      simp only [Value.slice.injEq, Option.some.injEq, Addr.mk.injEq] at hv
      rw [← hv.1.1]
      rfl
    · right
      rw [run_append_grow (P := P) w t ty e i z ht hi hz ⟨g0, 0, none⟩ n cap0 xs hown.1 (hown.cells (g := g0) rfl) ad m c news hl hnews (by omega) (by omega) (growslice_fits (by omega) hbytes)] at hr
      injection hr with _ hw
      subst hw
      exact fun k hk => Below.heap_alloc w.drew _ k hk

/-- at a plain region's list -/
theorem wpList_append_keeps {P : Program} (w : World) {ops : Array Oper} {rest : List Oper} {o : Oper} {a : Act} {Q : Exit → Act → World → Prop} (hgd : o.guard = none) (s x : Operand) (t : TypeId)
    (ho : o.op = .call { callee := .builtin .append, args := #[s, x], argTypes := #[t, t] })
    (base : Nat) (e : TypeId) (i : TypeInfo) (z : Value) (size bytes : Nat) (ht : P.underlying t = some (.slice e)) (hi : P.info? e = some i) (hz : i.zero = some z) (hsize : i.size = size) (hby : i.bytes = bytes) (hzs : z.cells.size = size) (hsz : 0 < size)
    (v : Value) (n : Nat) (xs : List Value) (hs : a.eval s = v) (hown : w.ownsRow base e size v n xs)
    (ad : Addr) (m c : Nat) (news : List Value) (hx : a.eval x = .slice (some ad) m c) (hl : news.length = m * size) (hnews : ∀ j u, news[j]? = some u → w.cell? (ad.add j) = some u) (h1 : ∀ u ∈ news, u.oneCell' = true)
    (hm : 0 < m) (h63 : n + m ≤ maxLen) (hbytes : (n + m) * bytes ≤ 140737488355328) (hbase : base ≤ w.heap.size) (H : Nat) (hH : w.heap.size = H)
    (h : ∀ g cap w', w'.ownsRow base e size (.slice (some ⟨g, 0, none⟩) (n + m) cap) (n + m) (xs ++ news) → w.grownBy w' v.ownBlock → (v.ownBlock = some g ∨ (g = H ∧ ∀ k, k < w.heap.size → w'.heap[k]? = w.heap[k]?)) → g < w'.heap.size → wpList P ops Q rest (a.put o.dst (.slice (some ⟨g, 0, none⟩) (n + m) cap)) w') : wpList P ops Q (o :: rest) a w := by
  refine wpList_plain hgd fun K hK => ?_
  obtain ⟨g, cap, w', hr, h2, h3, h4, h6⟩ := run_append_lies (P := P) w t o.type base e i z size bytes ht hi hz hsize hby hzs hsz v n xs hown ad m c news hl hnews h1 hm h63 hbytes hbase H hH
  subst hsize hby
  have h5 := append_keeps w t o.type base e i z ht hi hz v n xs hown ad m c news hl hnews h1 hm h63 hbytes g cap w' hr
  unfold Oper.wp execOp
  simp only [ho, resolve, invoke, builtin, Sem.run_bind, Sem.run_pure, Result.andThen_ok, List.map_toArray, List.map_cons, List.map_nil, hs, hx, hr]
  refine hK _ _ (h g cap w' h2 h3 ?_ h6)
  rcases h4 with h4 | h4
  · exact .inl h4
  · rcases h5 with h5 | h5
    · exact .inl h5
    · exact .inr ⟨h4, h5⟩
end Go.Proofs.Ytminceigjejipaa

/-
  A TICK OF THE REFERENCE WHERE NO GHOST IS, whole; what holds behind it.
-/
namespace Go.Proofs.Ytminceigjejipaa
open Go.RowKit

theorem ghostI_none {m : MkG} (hok : MkOk m) (hg : m.ghost = -1) (t : Int) : ghostI m t = none := by
  refine ghostZ_none (fun i b hb => ?_)
  have := (hok.bid b (List.mem_of_getElem? hb)).e0
  have hne : (b.entry == m.ghost) = false := by rw [hg]; simp; omega
  rw [hne, Bool.and_false]

/-! ### what holds behind a tick -/
theorem tickOne_len (t : Int) (g : Option Nat) (s : TkS) (i : Nat) : (tickOne t g s i).2.length ≤ s.2.length + 1 := by
  unfold tickOne
  split
  · omega
  · split
    · simp
    · omega
theorem fold_len (t : Int) (g : Option Nat) : ∀ (l : List Nat) (s : TkS), (l.foldl (tickOne t g) s).2.length ≤ s.2.length + l.length
  | [], s => by simp
  | i :: l, s => by
    have h1 := fold_len t g l (tickOne t g s i)
    have h2 := tickOne_len t g s i
    simp only [List.foldl_cons, List.length_cons]
    omega
theorem remL_cons {n i : Nat} {l : List Nat} (hi : i < n) (hl : i ∉ l) : remL n (i :: l) < remL n l := by
  have h := remL_lt hi hl
  have e : remL n (i :: l) = remL n (l ++ [i]) := by
    unfold remL
    congr 1
    funext j
    simp [inL, Or.comm]
  omega
theorem order_len {n : Nat} {R : Nat → Nat → Prop} (hR : ∀ i, ¬ R i i) : ∀ l : List Nat, (∀ i ∈ l, i < n) → l.Pairwise R → (∀ i k, R i k → ¬ R k i) → l.length + remL n l ≤ n
  | [], _, _, _ => by
    have : remL n [] ≤ (List.range n).length := List.countP_le_length
    simpa using this
  | i :: l, h, hp, ha => by
    rw [List.pairwise_cons] at hp
    have hn : i ∉ l := fun hx => hR i (hp.1 i hx)
    have := order_len hR l (fun j hj => h j (List.mem_cons_of_mem _ hj)) hp.2 ha
    have := remL_cons (h i List.mem_cons_self) hn
    simp only [List.length_cons]
    omega
theorem IsOrder.len {m : MkG} {t : Int} {l : List Nat} (h : IsOrder m t l) : l.length ≤ m.bids.length := by
  have := order_len (n := m.bids.length) (R := fun i k => aheadI m.bids i k = true) (fun i hx => by rw [aheadI_irrefl] at hx; cases hx) l (fun i hi => by
    obtain ⟨b, hb, _⟩ := (h.mem i).1 hi
    exact (List.getElem?_eq_some_iff.1 hb).1) h.sorted (fun i k h1 h2 => by rw [aheadI_asymm h1] at h2; cases h2)
  omega
theorem TickRes.names_len {m m' : MkG} {z : Int} {names : List (Int × Int)} (h : TickRes m z names m') (hok : MkOk m) : names.length ≤ 300 := by
  rcases h with ⟨_, _, rfl, _⟩ | ⟨_, _, _, rfl, _⟩ | ⟨_, _, _, l, hl, _, rfl⟩
  · simp
  · simp
  · have h1 := fold_len m.time (ghostI (m.logs callTick) m.time) l (m.logs callTick, [])
    have h2 := hl.len
    have h3 := hok.bl
    show (tickFold m.time (ghostI (m.logs callTick) m.time) (m.logs callTick) l).2.length ≤ 300
    unfold tickFold
    simp only [List.length_nil, Nat.zero_add] at h1
    omega
theorem wantEnd_ok {m : MkG} (h : MkOk m) (t : Int) (g : Option Nat) : MkOk (wantEnd t g m) ∧ (wantEnd t g m).c = m.c ∧ (wantEnd t g m).ghost = m.ghost := by
  unfold wantEnd
  cases g with
  | none => exact ⟨h, rfl, rfl⟩
  | some gi =>
    simp only
    split
    · exact ⟨h.want gi 0, (AlikeM.want m gi 0).c, (AlikeM.want m gi 0).ghost⟩
    · exact ⟨h, rfl, rfl⟩
theorem MkOk.tick {m m' : MkG} (h : MkOk m) {z : Int} {names : List (Int × Int)} (hr : TickRes m z names m') : MkOk m' ∧ m'.ghost = m.ghost := by
  rcases hr with ⟨_, _, _, rfl⟩ | ⟨hl, _, _, _, rfl⟩ | ⟨hl, ht, _, l, hord, rfl, _⟩
  · exact ⟨h, rfl⟩
  · exact ⟨h.logs hl _, rfl⟩
  · have h1 := h.logs hl callTick
    have hcf := cfgOk_true h.ck
    have h2 := MkOk.fold (ghostI (m.logs callTick) m.time) (t := m.time) h.t0 (by omega) l (m.logs callTick, []) h1
    have h3 := AlikeM.fold m.time (ghostI (m.logs callTick) m.time) l (m.logs callTick, [])
    obtain ⟨h4, h5, h6⟩ := wantEnd_ok h2 m.time (ghostI (m.logs callTick) m.time)
    refine ⟨h4.tickEnd h.t0 (by rw [h5, h3.c]; exact ht), ?_⟩
    show (wantEnd m.time (ghostI (m.logs callTick) m.time) (l.foldl (tickOne m.time (ghostI (m.logs callTick) m.time)) (m.logs callTick, [])).1).ghost = m.ghost
    rw [h6, h3.ghost]
    rfl

/-! ### marks in a row of pairs -/
theorem ownsRow_set2 {w : World} {e : TypeId} {sz : Nat} {v : Value} {n i g : Nat} {xs : List Value} (h : w.ownsRow 0 e sz v n xs) (hi : 0 < n) (hg : v.ownBlock = some g) (u : Value) : (w.setCell ⟨g, i, none⟩ u).ownsRow 0 e sz v n (xs.set i u) := by
  rcases h.2 with ⟨hv, h0⟩ | ⟨g', cap, cur, hv, hb0, hh, hc, hmx, hsz, htake⟩
  · omega
  · have hgg : g' = g := by rw [hv] at hg; simpa [Value.ownBlock] using hg
    subst hgg
    refine ⟨by simp [h.1], .inr ⟨g', cap, cur.setIfInBounds i u, hv, hb0, box_set hh _, hc, hmx, by simpa using hsz, ?_⟩⟩
    rw [Array.toList_setIfInBounds, List.take_set, htake]
/-- the first k cells are marked -/
def markTo (xs : List Value) (k : Nat) (u : Value) : List Value := xs.mapIdx fun i x => if i < k then u else x
theorem markTo_zero (xs : List Value) (u : Value) : markTo xs 0 u = xs := by
  apply List.ext_getElem?
  intro i
  simp [markTo]
theorem markTo_len (xs : List Value) (k : Nat) (u : Value) : (markTo xs k u).length = xs.length := by simp [markTo]
theorem markTo_succ (xs : List Value) (k : Nat) (u : Value) : markTo xs (k + 1) u = (markTo xs k u).set k u := by
  apply List.ext_getElem?
  intro i
  rw [List.getElem?_set]
  by_cases e : k = i
  · subst e
    rw [if_pos rfl, markTo_len]
    by_cases hl : k < xs.length
    · rw [if_pos hl]
      simp [markTo, hl]
    · rw [if_neg hl]
      simp [markTo, hl]
  · rw [if_neg e]
    simp only [markTo, List.getElem?_mapIdx]
    cases xs[i]? with
    | none => rfl
    | some x =>
      have hik : (i < k + 1) ↔ (i < k) := ⟨fun h => by omega, fun h => by omega⟩
      simp only [Option.map_some, hik]
theorem markTo_all {xs : List Value} {k : Nat} {u : Value} (hk : xs.length ≤ k) : markTo xs k u = List.replicate xs.length u := by
  apply List.ext_getElem?
  intro i
  by_cases hi : i < xs.length
  · simp [markTo, hi, show i < k by omega]
  · simp [markTo, hi]
end Go.Proofs.Ytminceigjejipaa

/-
  THE ORDER AS A FUNCTION; a call of the log, made again, as a function. Nothing of the program.
-/
namespace Go.Proofs.Ytminceigjejipaa

/-- the bids that are looked at, one by one -/
def orderGo (m : MkG) (t : Int) : Nat → List Nat → List Nat
  | 0, done => done
  | f + 1, done =>
    let z := nextGo m t (inL done) m.bids.length
    if z < 0 then done else orderGo m t f (done ++ [z.toNat])
def orderL (m : MkG) (t : Int) : List Nat := orderGo m t (m.bids.length + 1) []

theorem orderGo_is {m : MkG} {t : Int} (hs : SizesOk m.bids) : ∀ (f : Nat) (done : List Nat), Sel m t done → remL m.bids.length done < f → IsOrder m t (orderGo m t f done)
  | 0, _, _, h => by omega
  | f + 1, done, hsel, hf => by
    have hb := nextGo_best (t := t) (lk := inL done) hs m.bids.length
    have hl := nextGo_lt m t (inL done) m.bids.length
    unfold orderGo
    simp only
    split
    · rename_i hz
      exact hsel.done rfl hb hz
    · rename_i hz
      obtain ⟨i, hi⟩ := Int.eq_ofNat_of_zero_le (show 0 ≤ nextGo m t (inL done) m.bids.length by omega)
      rw [hi] at hb hl ⊢
      obtain ⟨h1, h2, _⟩ := hsel.snoc rfl hb
      have := remL_lt (n := m.bids.length) (by omega) h2
      exact orderGo_is hs f _ h1 (by simpa using by omega)
theorem orderL_is {m : MkG} {t : Int} (hs : SizesOk m.bids) : IsOrder m t (orderL m t) := by
  refine orderGo_is hs _ _ (Sel.nil _ _) ?_
  have : remL m.bids.length [] ≤ (List.range m.bids.length).length := List.countP_le_length
  simp at this
  omega

/-- units in use, as a test -/
def capB (m : MkG) (f t u : Int) : Bool := (List.range (t - f).toNat).all fun s => decide (usedL m.bids (f + s) ≤ u)
theorem capB_iff {m : MkG} {f t u : Int} : capB m f t u = true ↔ capOk m f t u := by
  simp only [capB, List.all_eq_true, List.mem_range, decide_eq_true_eq, capOk]
  constructor
  · intro h s h1 h2
    have := h (s - f).toNat (by omega)
    rw [show f + ((s - f).toNat : Int) = s by omega] at this
    exact this
  · intro h s hs
    exact h (f + s) (by omega) (by omega)
def capM (m : MkG) (f t u : Int) : MkG :=
  if capArg m f t u = true then m.logs (callCapacity f t u) else if capB m f t u = true then { m.logs (callCapacity f t u) with units := (List.range m.units.length).map fun i : Nat => if f ≤ (i : Int) ∧ (i : Int) < t then u else m.units.getD i 0 } else m.logs (callCapacity f t u)
theorem CapRes.fn {m m' : MkG} {f t u z : Int} (h : CapRes m f t u z m') : m' = capM m f t u := by
  unfold capM
  rcases h with ⟨a, _, rfl⟩ | ⟨a, b, _, rfl⟩ | ⟨a, b, _, rfl⟩
  · rw [if_pos a]
  · rw [if_neg (by rw [a]; simp), if_neg (by rw [capB_iff]; exact b)]
  · rw [if_neg (by rw [a]; simp), if_pos (capB_iff.2 b)]

/-- a tick, as a function -/
def tickF (m : MkG) : MkG := if m.c.ticks ≤ m.time then m.logs callTick else (tickM m (orderL m m.time)).1
theorem TickRes.fn {m m' : MkG} {z : Int} {names : List (Int × Int)} (hok : MkOk m) (hl : m.log.length < 300) (h : TickRes m z names m') : m' = tickF m := by
  unfold tickF
  rcases h with ⟨a, _⟩ | ⟨_, b, _, _, rfl⟩ | ⟨_, b, _, l, hord, rfl, _⟩
  · omega
  · rw [if_pos b]
  · rw [if_neg (by omega), hord.unique (orderL_is hok.sizes)]

/-- a call of the log, made again (a Bill or Pay is just logged) -/
def againM (m : MkG) (c : CallG) : MkG :=
  if 300 ≤ m.log.length then m
  else if c.kind = 1 then submitM m c.a c.b c.job
  else if c.kind = 2 then cancelM m c.a c.b
  else if c.kind = 3 then capM m c.a c.b c.c
  else if c.kind = 4 then suspendM m c.a c.on
  else if c.kind = 5 then tickF m
  else m.logs c
/-- a market in which the bid of entry g never starts -/
def ghostOpen (c : CfgG) (g : Int) : MkG := { openM c with ghost := g }
def replayG (c : CfgG) (g : Int) (log : List CallG) : MkG := log.foldl againM (ghostOpen c g)
/-- a market in which that bid's Value is v -/
def withV (c : CallG) (v : Int) : CallG := { c with job := { c.job with val := v } }
def replayV (c : CfgG) (g : Nat) (v : Int) (log : List CallG) : MkG := (log.mapIdx fun i x => if i = g then withV x v else x).foldl againM (openM c)

theorem capM_res (m : MkG) (f t u : Int) : ∃ z, CapRes m f t u z (capM m f t u) := by
  unfold capM
  by_cases a : capArg m f t u = true
  · rw [if_pos a]
    exact ⟨9, .inl ⟨a, rfl, rfl⟩⟩
  · rw [if_neg a]
    have a' : capArg m f t u = false := by simpa using a
    by_cases b : capB m f t u = true
    · rw [if_pos b]
      exact ⟨0, .inr (.inr ⟨a', capB_iff.1 b, rfl, rfl⟩)⟩
    · rw [if_neg b]
      exact ⟨10, .inr (.inl ⟨a', fun h => b (capB_iff.2 h), rfl, rfl⟩)⟩
theorem tickF_res {m : MkG} (hok : MkOk m) (hl : m.log.length < 300) : ∃ z names, TickRes m z names (tickF m) := by
  unfold tickF
  by_cases b : m.c.ticks ≤ m.time
  · rw [if_pos b]
    exact ⟨11, [], .inr (.inl ⟨hl, b, rfl, rfl, rfl⟩)⟩
  · rw [if_neg b]
    exact ⟨0, _, .inr (.inr ⟨hl, by omega, rfl, _, orderL_is hok.sizes, rfl, rfl⟩)⟩
theorem MkOk.again {m : MkG} (h : MkOk m) (c : CallG) : MkOk (againM m c) := by
  unfold againM
  split
  · exact h
  · rename_i hl
    have hl' : m.log.length < 300 := by omega
    split
    · exact h.submit (z := submitE m c.a c.b c.job) (.inr ⟨hl', rfl, rfl⟩)
    · split
      · exact h.cancel (z := cancelE m c.a c.b) (.inr ⟨hl', rfl, rfl⟩)
      · split
        · obtain ⟨z, hz⟩ := capM_res m c.a c.b c.c
          exact h.capacity (z := z) (.inr ⟨hl', hz⟩)
        · split
          · exact h.suspend (z := suspendE m c.a) (.inr ⟨hl', rfl, rfl⟩)
          · split
            · obtain ⟨z, names, hz⟩ := tickF_res h hl'
              exact (h.tick hz).1
            · exact h.logs hl' c
theorem MkOk.ghostOpen {c : CfgG} (h : cfgOk c = true) (g : Int) : MkOk (ghostOpen c g) := by
  have := MkOk.open h
  exact ⟨this.ck, this.nu, this.ns, this.np, this.nl, this.nb, this.t0, this.t1, this.un, this.bid⟩
theorem MkOk.fold_again : ∀ (l : List CallG) {m : MkG}, MkOk m → MkOk (l.foldl againM m)
  | [], _, h => h
  | c :: l, _, h => MkOk.fold_again l (h.again c)
end Go.Proofs.Ytminceigjejipaa

/-
  A BID WITH ANOTHER VALUE: up to the tick at which it starts all is as in the market in which it never starts. Nothing of the program.
-/
namespace Go.Proofs.Ytminceigjejipaa

def setV (b : BidG) (v : Int) : BidG := { b with job := { b.job with val := v } }
/-- the bid of entry e has the value v -/
def al (e v : Int) (b : BidG) : BidG := if b.entry = e then setV b v else b

section
variable (e v : Int) (b : BidG)
theorem al_ten : (al e v b).ten = b.ten := by unfold al; split <;> rfl
theorem al_ref : (al e v b).ref = b.ref := by unfold al; split <;> rfl
theorem al_arrival : (al e v b).arrival = b.arrival := by unfold al; split <;> rfl
theorem al_state : (al e v b).state = b.state := by unfold al; split <;> rfl
theorem al_start : (al e v b).start = b.start := by unfold al; split <;> rfl
theorem al_entry : (al e v b).entry = b.entry := by unfold al; split <;> rfl
theorem al_len : (al e v b).job.len = b.job.len := by unfold al; split <;> rfl
theorem al_units : (al e v b).job.units = b.job.units := by unfold al; split <;> rfl
theorem al_dl : (al e v b).job.dl = b.job.dl := by unfold al; split <;> rfl
theorem al_size : sizeJ (al e v b).job = sizeJ b.job := by unfold sizeJ; rw [al_len, al_units]
end
theorem al_ne {e v : Int} {b : BidG} (h : b.entry ≠ e) : al e v b = b := by unfold al; rw [if_neg h]
theorem al_eq {e v : Int} {b : BidG} (h : b.entry = e) : al e v b = setV b v := by unfold al; rw [if_pos h]
theorem al_set (e v : Int) (b : BidG) (s st : Int) : al e v { b with state := s, start := st } = { al e v b with state := s, start := st } := by
  unfold al
  by_cases h : b.entry = e
  · rw [if_pos h, if_pos h]; rfl
  · rw [if_neg h, if_neg h]
theorem al_setS (e v : Int) (b : BidG) (s : Int) : al e v { b with state := s } = { al e v b with state := s } := by
  unfold al
  by_cases h : b.entry = e
  · rw [if_pos h, if_pos h]; rfl
  · rw [if_neg h, if_neg h]

/-- R is G, but that in R the bid of entry e has the value v, and may start -/
structure MAl (e v : Int) (G R : MkG) : Prop where
  c : R.c = G.c
  time : R.time = G.time
  units : R.units = G.units
  susp : R.susp = G.susp
  log : R.log.length = G.log.length
  bids : R.bids = G.bids.map (al e v)
  gh : G.ghost = e
  rg : R.ghost = -1

section
variable {e v : Int} {G R : MkG}
theorem MAl.get (h : MAl e v G R) (i : Nat) : R.bids[i]? = (G.bids[i]?).map (al e v) := by rw [h.bids, List.getElem?_map]
theorem usedL_al (l : List BidG) (t : Int) : usedL (l.map (al e v)) t = usedL l t := by
  unfold usedL
  rw [List.map_map]
  congr 1
  apply List.map_congr_left
  intro b _
  have hr : (al e v b).runs t = b.runs t := by simp only [BidG.runs, al_state, al_start, al_len]
  simp only [Function.comp, hr, al_units]
theorem MAl.used (h : MAl e v G R) (t : Int) : usedL R.bids t = usedL G.bids t := by rw [h.bids, usedL_al]
theorem MAl.free (h : MAl e v G R) (t : Int) : freeV R t = freeV G t := by
  unfold freeV
  rw [h.c, h.units, h.used]
theorem MAl.fits (h : MAl e v G R) (b : BidG) (t : Int) : fitsB R (al e v b) t = fitsB G b t := by
  unfold fitsB
  rw [al_len]
  congr 1
  funext s
  rw [al_units, h.free]
theorem MAl.openB (h : MAl e v G R) (b : BidG) (t : Int) : (al e v b).openB R t = b.openB G t := by
  unfold BidG.openB suspAt
  rw [al_state, al_ten, al_arrival, al_len, al_dl, h.susp]
theorem MAl.find (h : MAl e v G R) (ten ref : Int) : findZ R.bids ten ref = findZ G.bids ten ref := by
  unfold findZ findL
  rw [h.bids, List.findIdx?_map]
  have : ((fun b => BidG.is b ten ref) ∘ al e v) = fun b => BidG.is b ten ref := by
    funext b
    simp only [Function.comp, BidG.is, al_ten, al_ref]
  rw [this]
theorem MAl.pend (h : MAl e v G R) (ten : Int) : pendL R.bids ten = pendL G.bids ten := by
  unfold pendL
  rw [h.bids, List.countP_map]
  have : ((fun b => BidG.pends b ten) ∘ al e v) = fun b => BidG.pends b ten := by
    funext b
    simp only [Function.comp, BidG.pends, al_ten, al_state]
  rw [this]
theorem MAl.tenB (h : MAl e v G R) (k : Int) : R.tenB k = G.tenB k := by unfold MkG.tenB; rw [h.c]
theorem MAl.state (h : MAl e v G R) (i : Int) : stateAt R i = stateAt G i := by
  unfold stateAt
  rw [h.get]
  cases G.bids[i.toNat]? with
  | none => rfl
  | some b => simp [al_state]
theorem MAl.logs (h : MAl e v G R) (c c' : CallG) : MAl e v (G.logs c) (R.logs c') :=
  ⟨h.c, h.time, h.units, h.susp, by simp [MkG.logs, h.log], h.bids, h.gh, h.rg⟩
theorem MAl.need (h : MAl e v G R) (x : Int) : MAl e v { G with need := x } R := ⟨h.c, h.time, h.units, h.susp, h.log, h.bids, h.gh, h.rg⟩
theorem MAl.want (h : MAl e v G R) (g : Nat) (x : Int) : MAl e v (wantM G g x) R := by
  unfold wantM
  split
  · exact h.need _
  · exact h
theorem MAl.wantEnd (h : MAl e v G R) (t : Int) (g : Option Nat) : MAl e v (wantEnd t g G) R := by
  unfold Go.Proofs.Ytminceigjejipaa.wantEnd
  cases g with
  | none => exact h
  | some gi =>
    simp only
    split
    · exact h.want _ _
    · exact h

/-! ### the calls but Tick -/
theorem MAl.submit (h : MAl e v G R) (ten ref : Int) (j j' : JobG) (hj : (G.log.length ≠ e ∧ j' = j) ∨ ((G.log.length : Int) = e ∧ j' = { j with val := v } ∧ 1 ≤ v ∧ v ≤ 1048576 ∧ 1 ≤ j.val ∧ j.val ≤ 1048576)) : MAl e v (submitM G ten ref j) (submitM R ten ref j') := by
  have hjb : R.jobB j' = G.jobB j := by
    unfold MkG.jobB atOf
    rw [h.c, h.time]
    rcases hj with ⟨_, rfl⟩ | ⟨_, rfl, h1, h2, h3, h4⟩
    · rfl
    · have : jobIn G.c.ticks { j with val := v } = jobIn G.c.ticks j := by
        rw [Bool.eq_iff_iff]
        simp only [jobIn, Bool.and_eq_true, decide_eq_true_eq]
        omega
      rw [this]
  have hE : submitE R ten ref j' = submitE G ten ref j := by
    unfold submitE refB suspAt
    rw [h.tenB, h.susp, h.find, hjb, h.pend, h.c]
  have hl := h.logs (callSubmit ten ref j) (callSubmit ten ref j')
  unfold submitM
  simp only [hE]
  split
  · refine ⟨hl.c, hl.time, hl.units, hl.susp, hl.log, ?_, hl.gh, hl.rg⟩
    show R.bids ++ [newBid R ten ref j'] = (G.bids ++ [newBid G ten ref j]).map (al e v)
    rw [List.map_append, ← h.bids]
    congr 1
    simp only [List.map_cons, List.map_nil, List.cons.injEq, and_true]
    rcases hj with ⟨h1, rfl⟩ | ⟨h1, rfl, _⟩
    · rw [al_ne (b := newBid G ten ref j') (by simpa [newBid] using h1)]
      simp only [newBid, h.time, h.log]
    · rw [al_eq (b := newBid G ten ref j) (by simpa [newBid] using h1)]
      simp only [newBid, setV, atOf, h.time, h.log]
  · exact hl
theorem MAl.cancel (h : MAl e v G R) (ten ref : Int) : MAl e v (cancelM G ten ref) (cancelM R ten ref) := by
  have hE : cancelE R ten ref = cancelE G ten ref := by
    unfold cancelE
    rw [h.tenB, h.find, h.state]
  have hl := h.logs (callCancel ten ref) (callCancel ten ref)
  unfold cancelM
  simp only [hE, h.find]
  split
  · refine ⟨hl.c, hl.time, hl.units, hl.susp, hl.log, ?_, hl.gh, hl.rg⟩
    show setState R.bids _ 3 = (setState G.bids _ 3).map (al e v)
    unfold setState
    rw [h.get]
    cases hb : G.bids[(findZ G.bids ten ref).toNat]? with
    | none => exact h.bids
    | some b =>
      simp only [Option.map_some]
      rw [List.map_set, h.bids]
      exact congrArg _ (al_setS e v b 3).symm
  · exact hl
theorem MAl.suspend (h : MAl e v G R) (ten : Int) (on : Bool) : MAl e v (suspendM G ten on) (suspendM R ten on) := by
  have hE : suspendE R ten = suspendE G ten := by
    unfold suspendE
    rw [h.tenB]
  have hl := h.logs (callSuspend ten on) (callSuspend ten on)
  unfold suspendM
  simp only [hE]
  split
  · exact ⟨hl.c, hl.time, hl.units, by show R.susp.set _ _ = G.susp.set _ _; rw [h.susp], hl.log, hl.bids, hl.gh, hl.rg⟩
  · exact hl
theorem MAl.cap (h : MAl e v G R) (f t u : Int) : MAl e v (capM G f t u) (capM R f t u) := by
  have hA : capArg R f t u = capArg G f t u := by
    unfold capArg
    rw [h.time, h.c]
  have hB : capB R f t u = capB G f t u := by
    unfold capB
    congr 1
    funext s
    rw [h.used]
  have hl := h.logs (callCapacity f t u) (callCapacity f t u)
  unfold capM
  rw [hA, hB]
  split
  · exact hl
  · split
    · exact ⟨hl.c, hl.time, by show (List.range R.units.length).map _ = (List.range G.units.length).map _; rw [h.units], hl.susp, hl.log, hl.bids, hl.gh, hl.rg⟩
    · exact hl

/-! ### a tick, bid by bid -/
theorem MAl.start (h : MAl e v G R) (i : Nat) (t : Int) : MAl e v (startM G i t) (startM R i t) := by
  unfold startM
  rw [h.get]
  cases hb : G.bids[i]? with
  | none => exact h
  | some b =>
    refine ⟨h.c, h.time, h.units, h.susp, h.log, ?_, h.gh, h.rg⟩
    show R.bids.set i { al e v b with state := 2, start := t } = (G.bids.set i { b with state := 2, start := t }).map (al e v)
    rw [List.map_set, h.bids]
    exact congrArg _ (al_set e v b 2 t).symm
theorem MAl.one (h : MAl e v G R) (t : Int) (g : Option Nat) (o o' : List (Int × Int)) (i : Nat) (hi : ∀ b, G.bids[i]? = some b → b.entry ≠ e) : MAl e v (tickOne t g (G, o) i).1 (tickOne t none (R, o') i).1 := by
  unfold tickOne
  simp only
  rw [h.get]
  cases hb : G.bids[i]? with
  | none => exact h
  | some b =>
    simp only [Option.map_some]
    rw [h.fits, h.c, al_ne (hi b hb)]
    split
    · cases g with
      | none => exact h.start i t
      | some gi =>
        simp only
        split
        · exact (h.start i t).want _ _
        · exact h.start i t
    · exact h
end
end Go.Proofs.Ytminceigjejipaa

/-
  A CALL OF THE LOG, MADE AGAIN (the reference's market, with a ghost or without).
-/
namespace Go.Proofs.Ytminceigjejipaa
open Go.RowKit

section
variable (p : Nat) (V : MV) (m : MkG) (w : World)
end

end Go.Proofs.Ytminceigjejipaa

/-
  A PRICE IN THE REFERENCE: all calls made once more in a market in which the bid never starts.
-/
namespace Go.Proofs.Ytminceigjejipaa
open Go.RowKit

/-- the price of the bid of entry g -/
def priceM (m : MkG) (g : Int) : Int := (replayG m.c g m.log).need
theorem fold_take {m0 : MkG} {l : List CallG} {k : Nat} {c : CallG} (hc : l[k]? = some c) : (l.take (k + 1)).foldl againM m0 = againM ((l.take k).foldl againM m0) c := by
  rw [take_snoc hc, List.foldl_append]
  rfl

end Go.Proofs.Ytminceigjejipaa

/-
  PRICE IN THE REFERENCE.
-/
namespace Go.Proofs.Ytminceigjejipaa
open Go.RowKit

def priceE (m : MkG) (ten ref : Int) : Int := if lookE m ten ref = 0 then (if lookS m ten ref = 2 then 0 else 8) else lookE m ten ref
def entryAt (m : MkG) (i : Int) : Int := ((m.bids[i.toNat]?).map (·.entry)).getD 0
def priceV (m : MkG) (ten ref : Int) : Int := if priceE m ten ref = 0 then priceM m (entryAt m (findZ m.bids ten ref)) else 0

theorem lookE_zero {m : MkG} {ten ref : Int} (h : lookE m ten ref = 0) : m.tenB ten = true ∧ ∃ (i : Nat) (b : BidG), findZ m.bids ten ref = i ∧ m.bids[i]? = some b := by
  unfold lookE at h
  split at h
  · omega
  · rename_i hT
    split at h
    · omega
    · rename_i hf
      refine ⟨by simpa using hT, ?_⟩
      have := findZ_lt m.bids ten ref
      obtain ⟨i, hi⟩ := Int.eq_ofNat_of_zero_le (show 0 ≤ findZ m.bids ten ref by omega)
      exact ⟨i, _, hi, List.getElem?_eq_getElem (by omega)⟩

end Go.Proofs.Ytminceigjejipaa

/-
  PAY IN THE REFERENCE.
-/
namespace Go.Proofs.Ytminceigjejipaa
open Go.RowKit

def callPay (ten cents : Int) : CallG := ⟨7, ten, cents, 0, noJob, false⟩
def payE (m : MkG) (ten cents : Int) : Int := if m.tenB ten = false then 3 else if cents < 1 ∨ 1073741824 < cents then 9 else 0
def payM (m : MkG) (ten cents : Int) : MkG :=
  let m1 := m.logs (callPay ten cents)
  if payE m ten cents = 0 then { m1 with paid := m1.paid.set ten.toNat (m1.paid.getD ten.toNat 0 + cents) } else m1
/-- what has been paid is no more than the calls could pay -/
def PaidOk (m : MkG) : Prop := ∀ x ∈ m.paid, 0 ≤ x ∧ x ≤ m.log.length * 1073741824

end Go.Proofs.Ytminceigjejipaa

/-
  INVOICES AND BALANCE IN THE REFERENCE.
-/
namespace Go.Proofs.Ytminceigjejipaa
open Go.RowKit

theorem infoInvoice : (Try.prog.info? 88).map (fun i => (i.zero, i.size, i.bytes)) = some (some (.agg #[.int .i64 0, .int .i64 0, .int .i64 0]), 3, 24) := by kernel_rfl

theorem invRow_cell {w : World} {v : Value} {l : List InvG} {i : Nat} {c : InvG} (h : w.ownsRow 0 88 3 v l.length (l.flatMap invCells)) (hc : l[i]? = some c) :
    ∃ g cap, v = .slice (some ⟨g, 0, none⟩) l.length cap ∧ v.ownBlock = some g ∧ g < w.heap.size ∧ ∀ r u, (invCells c)[r]? = some u → w.cell? ⟨g, i * 3 + r, none⟩ = some u := by
  rcases h.2 with ⟨hv, h0⟩ | ⟨g, cap, cur, hv, hg, hh, r⟩
  · have := (List.getElem?_eq_some_iff.1 hc).1
    omega
  · refine ⟨g, cap, hv, by rw [hv]; rfl, (Array.getElem?_eq_some_iff.1 hh).1, fun r u hu => ?_⟩
    have hr : r < 3 := by
      have := (List.getElem?_eq_some_iff.1 hu).1
      simpa [invCells] using this
    have := h.cells (g := g) (by rw [hv]; rfl) (i * 3 + r) u (by rw [flat_get invCells 3 (fun _ => rfl) l i c r hc hr]; exact hu)
    rwa [Addr.add_lit, Nat.zero_add] at this

/-- a list of invoices that grows in a block of its own -/
structure InvSt (w : World) (l : List InvG) (lv : Value) (wr : World) : Prop where
  chg : Chg (fun _ => False) w wr
  own : wr.ownsRow 0 88 3 lv l.length (l.flatMap invCells)
  new : ∀ k, lv.ownBlock = some k → w.heap.size ≤ k
theorem InvSt.chg0 {w wr w' : World} {l : List InvG} {lv : Value} (h : InvSt w l lv wr) (hc : Chg (fun _ => False) wr w') : InvSt w l lv w' :=
  ⟨h.chg.trans hc (fun _ _ h => h), ownsRow_keep h.own (fun k hk => hc.block k (h.own.lt k hk).2 (fun h => h)), h.new⟩
theorem InvSt.nil {w wr : World} (hc : Chg (fun _ => False) w wr) : InvSt w [] (.slice none 0 0) wr := ⟨hc, World.ownsRow_nil _ _ _ _, fun k hk => by simp [Value.ownBlock] at hk⟩
theorem inv_arm {w wr wa w3 : World} {l : List InvG} {x : InvG} {ao : Option Addr} {cap cap' g H nn : Nat} (h : InvSt w l (.slice ao nn cap) wr) (hn : nn = l.length) (hc : Chg (fun _ => False) wr wa)
    (hown : w3.ownsRow 0 88 3 (.slice (some ⟨g, 0, none⟩) (nn + 1) cap') (nn + 1) (l.flatMap invCells ++ invCells x)) (hgrow : wa.grownBy w3 (Value.ownBlock (.slice ao nn cap))) (hat : Value.ownBlock (.slice ao nn cap) = some g ∨ g = H) (hH : wr.heap.size ≤ H) :
    Hid (InvSt w (l ++ [x]) (.slice (some ⟨g, 0, none⟩) (nn + 1) cap') w3) := by
  subst hn
  have hc3 : Chg (fun k => Value.ownBlock (.slice ao l.length cap) = some k) wr w3 := (hc.mono (fun _ _ h => h.elim)).grown hgrow (fun k hk => .inl hk)
  have hs := h.chg.size
  refine ⟨h.chg.trans hc3 (fun k hk e => by have := h.new k e; omega), ?_, ?_⟩
  · rw [List.length_append, List.flatMap_append]
    simp only [List.flatMap_cons, List.flatMap_nil, List.append_nil, List.length_cons, List.length_nil, Nat.zero_add]
    exact hown
  · intro k hk
    simp [Value.ownBlock] at hk
    subst hk
    rcases hat with e | e
    · exact h.new g e
    · omega

def invE (m : MkG) (ten : Int) : Int := if m.tenB ten = false then 3 else 0
def ofTen (l : List InvG) (ten : Int) : List InvG := l.filter fun c => c.ten == ten
def invL (m : MkG) (ten : Int) : List InvG := if m.tenB ten = false then [] else ofTen m.charges ten
theorem ofTen_snoc {l : List InvG} {k : Nat} {c : InvG} {ten : Int} (h : l[k]? = some c) : ofTen (l.take (k + 1)) ten = ofTen (l.take k) ten ++ if (c.ten == ten) = true then [c] else [] := by
  rw [take_snoc h, ofTen, List.filter_append]
  congr 1
  simp [List.filter_cons]

end Go.Proofs.Ytminceigjejipaa
