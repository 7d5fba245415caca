import Derived.Test.YtccfademkgjeiaaTkF
import Derived.Test.YtccfademkgjeiaaTkQ
import Derived.Test.YtccfademkgjeiaaMkJ
namespace Go.Proofs.Ytccfademkgjeiaa
open Go.RowKit

def nameCells (x : Int × Int) : List Value := [.int .i64 x.1, .int .i64 x.2]
theorem infoName : (Try.prog.info? 123).map (fun i => (i.zero, i.size, i.bytes)) = some (some (.agg #[.int .i64 0, .int .i64 0]), 2, 16) := by kernel_rfl

/-- a cell of a bid, written -/
theorem MktAt.setBid {w : World} {p : Nat} {V : MV} {m : MkG} {i g r : Nat} {b b' : BidG} {u : Value} (h : MktAt w p V m) (hb : m.bids[i]? = some b) (hr : r < 12) (hg : V.bv.ownBlock = some g) (hc : bidCells b' = (bidCells b).set r u) :
    MktAt (w.setCell ⟨g, i * 12 + r, none⟩ u) p V { m with bids := m.bids.set i b' } := by
  have hil : i < m.bids.length := (List.getElem?_eq_some_iff.1 hb).1
  have hgp : g ≠ p := fun e => ownsRow_box h.bids h.box (by decide) (e ▸ hg)
  have far : ∀ k, k ≠ g → (w.setCell ⟨g, i * 12 + r, none⟩ u).heap[k]? = w.heap[k]? := fun k hk => Below.heap_setCell _ _ _ _ hk
  have old : ∀ {e : TypeId} {size n : Nat} {v : Value} {xs : List Value}, w.ownsRow 0 e size v n xs → e ≠ 167 → (w.setCell ⟨g, i * 12 + r, none⟩ u).ownsRow 0 e size v n xs := by
    intro e size n v xs ho he
    exact ownsRow_keep ho (fun k hk => far k (fun e => ownsRow_apart ho h.bids he hk (e ▸ hg)))
  refine ⟨(far p (Ne.symm hgp)).trans h.box, old h.units (by decide), ?_, old h.susp (by decide), old h.log (by decide), old h.paid (by decide), old h.charges (by decide), h.ne⟩
  show (w.setCell _ _).ownsRow 0 _ 12 _ (m.bids.set i b').length ((m.bids.set i b').flatMap bidCells)
  rw [List.length_set]
  have key : ∀ (l : List BidG) (i : Nat), l[i]? = some b → (l.set i b').flatMap bidCells = (l.flatMap bidCells).set (i * 12 + r) u := by
    intro l
    induction l with
    | nil => intro i hb; simp at hb
    | cons y l ih =>
      intro i hb
      cases i with
      | zero =>
        simp at hb
        subst hb
        simp only [List.set_cons_zero, List.flatMap_cons, hc, Nat.zero_mul, Nat.zero_add]
        rw [List.set_append_left _ _ (by simpa [bidCells] using hr)]
      | succ i =>
        simp only [List.getElem?_cons_succ] at hb
        simp only [List.set_cons_succ, List.flatMap_cons, ih i hb]
        rw [show (i + 1) * 12 + r = (bidCells y).length + (i * 12 + r) by simp [bidCells]; omega]
        rw [List.set_append_right _ _ (by omega)]
        simp
  rw [key m.bids i hb]
  rcases h.bids.2 with ⟨hv, h0⟩ | ⟨g', cap, cur, hv, hb0, hh, hc', hmx, hsz, htake⟩
  · omega
  · have hgg : g' = g := by rw [hv] at hg; simpa [Value.ownBlock] using hg
    subst hgg
    refine ⟨by simp [h.bids.1], .inr ⟨g', cap, cur.setIfInBounds (i * 12 + r) u, hv, hb0, box_set hh _, hc', hmx, by simpa using hsz, ?_⟩⟩
    rw [Array.toList_setIfInBounds, List.take_set, htake]

/-- in the midst of a tick: the market, the marks, the list that will come out -/
structure TickSt (w1 : World) (p : Nat) (V : MV) (L n : Nat) (m : MkG) (out : List (Int × Int)) (done : List Nat) (ov : Value) (wr : World) : Prop where
  mkt : MktAt wr p V m
  lk : ∃ cur, wr.heap[L]? = some (.cells cur 4 (0, 0)) ∧ n ≤ cur.size ∧ ∀ j, j < n → cur[j]? = some (.bool (inL done j))
  out : wr.ownsRow 0 123 2 ov out.length (out.flatMap nameCells)
  chg : Chg (V.foot p) w1 wr
  fl : ∀ k, V.foot p k → k < w1.heap.size
  nl : w1.heap.size ≤ L
  ov : ∀ k, ov.ownBlock = some k → w1.heap.size ≤ k

section
variable {w1 wr w' : World} {p : Nat} {V : MV} {L n : Nat} {m : MkG} {out : List (Int × Int)} {done : List Nat} {ov : Value}
theorem TickSt.lkAt (h : TickSt w1 p V L n m out done ov wr) (cap : Nat) : LkAt wr (.slice (some ⟨L, 0, none⟩) n cap) n (inL done) := by
  obtain ⟨cur, h1, h2, h3⟩ := h.lk
  exact ⟨_, _, rfl, fun j hj => ⟨L, rfl, (Array.getElem?_eq_some_iff.1 h1).1, by unfold World.cell?; rw [h1]; exact h3 j hj, by unfold World.frozen?; rw [h1]; simp⟩⟩
theorem TickSt.ltL (h : TickSt w1 p V L n m out done ov wr) : L < wr.heap.size := by
  obtain ⟨cur, h1, _⟩ := h.lk
  exact (Array.getElem?_eq_some_iff.1 h1).1
theorem TickSt.chg0 (h : TickSt w1 p V L n m out done ov wr) (hc : Chg (fun _ => False) wr w') : TickSt w1 p V L n m out done ov w' :=
  ⟨h.mkt.chg0 hc, by obtain ⟨cur, h1, h2⟩ := h.lk; exact ⟨cur, (hc.block _ h.ltL (fun h => h)).trans h1, h2⟩, ownsRow_keep h.out (fun k hk => hc.block k (h.out.lt k hk).2 (fun h => h)), h.chg.trans hc (fun _ _ h => h.elim), h.fl, h.nl, h.ov⟩
theorem TickSt.ovL (h : TickSt w1 p V L n m out done ov wr) : ov.ownBlock ≠ some L := by
  obtain ⟨cur, h1, _⟩ := h.lk
  exact ownsRow_box h.out h1 (by decide)
/-- a mark is set -/
theorem TickSt.look (h : TickSt w1 p V L n m out done ov wr) (i : Nat) : TickSt w1 p V L n m out (done ++ [i]) ov (wr.setCell ⟨L, i, none⟩ (.bool true)) := by
  have far : ∀ k, k ≠ L → (wr.setCell ⟨L, i, none⟩ (.bool true)).heap[k]? = wr.heap[k]? := fun k hk => Below.heap_setCell _ _ _ _ hk
  refine ⟨h.mkt.frame (fun k hk => far k (by have := h.fl k hk; have := h.nl; omega)), ?_, ownsRow_keep h.out (fun k hk => far k (fun e => h.ovL (e ▸ hk))), h.chg.setCell (.inr h.nl) _, h.fl, h.nl, h.ov⟩
  obtain ⟨cur, h1, h2, h3⟩ := h.lk
  refine ⟨cur.setIfInBounds i (.bool true), box_set h1 _, by simpa using h2, fun j hj => ?_⟩
  rw [Array.getElem?_setIfInBounds]
  by_cases e : i = j
  · subst e
    rw [if_pos rfl, if_pos (by omega)]
    simp [inL]
  · rw [if_neg e, h3 j hj]
    simp [inL, Ne.symm e]
/-- a bid starts -/
theorem TickSt.bid (h : TickSt w1 p V L n m out done ov wr) {i g r : Nat} {b b' : BidG} {u : Value} (hb : m.bids[i]? = some b) (hr : r < 12) (hg : V.bv.ownBlock = some g) (hc : bidCells b' = (bidCells b).set r u) :
    TickSt w1 p V L n { m with bids := m.bids.set i b' } out done ov (wr.setCell ⟨g, i * 12 + r, none⟩ u) := by
  have hgf : V.foot p g := .inr (.inr (.inl hg))
  have hgl := h.fl g hgf
  have far : ∀ k, k ≠ g → (wr.setCell ⟨g, i * 12 + r, none⟩ u).heap[k]? = wr.heap[k]? := fun k hk => Below.heap_setCell _ _ _ _ hk
  refine ⟨h.mkt.setBid hb hr hg hc, ?_, ownsRow_keep h.out (fun k hk => far k (by have := h.ov k hk; omega)), h.chg.setCell (.inl hgf) _, h.fl, h.nl, h.ov⟩
  obtain ⟨cur, h1, h2⟩ := h.lk
  exact ⟨cur, (far L (by have := h.nl; omega)).trans h1, h2⟩
/-- a name more -/
theorem TickSt.more {wa w3 : World} {x : Int × Int} {g cap : Nat} (h : TickSt w1 p V L n m out done ov wr) (hc : Chg (fun _ => False) wr wa)
    (hown : w3.ownsRow 0 123 2 (.slice (some ⟨g, 0, none⟩) (out.length + 1) cap) (out.length + 1) (out.flatMap nameCells ++ nameCells x)) (hgrow : wa.grownBy w3 ov.ownBlock) (hat : ov.ownBlock = some g ∨ wr.heap.size ≤ g) :
    TickSt w1 p V L n m (out ++ [x]) done (.slice (some ⟨g, 0, none⟩) (out.length + 1) cap) w3 := by
  have hc3 : Chg (fun k => ov.ownBlock = some k) wr w3 := (hc.mono (fun _ _ h => h.elim)).grown hgrow (fun k hk => .inl hk)
  have hs := h.chg.size
  refine ⟨h.mkt.chg hc3 (fun k hk e => by have := h.ov k e; have := h.fl k hk; omega), ?_, ?_, h.chg.trans hc3 (fun k hk e => by have := h.ov k e; omega), h.fl, h.nl, ?_⟩
  · obtain ⟨cur, h1, h2⟩ := h.lk
    exact ⟨cur, (hc3.block L h.ltL h.ovL).trans h1, h2⟩
  · rw [List.length_append, List.flatMap_append]
    simp only [List.flatMap_cons, List.flatMap_nil, List.append_nil, List.length_cons, List.length_nil, Nat.zero_add]
    exact hown
  · intro k hk
    simp [Value.ownBlock] at hk
    subst hk
    rcases hat with e | e
    · exact h.ov g e
    · omega
end

theorem tick_arm {w1 wr wa w3 : World} {p : Nat} {V : MV} {L n nn : Nat} {m : MkG} {out : List (Int × Int)} {done : List Nat} {ao : Option Addr} {cap cap' g H : Nat} {x : Int × Int} (h : TickSt w1 p V L n m out done (.slice ao nn cap) wr) (hn : nn = out.length) (hc : Chg (fun _ => False) wr wa)
    (hown : w3.ownsRow 0 123 2 (.slice (some ⟨g, 0, none⟩) (nn + 1) cap') (nn + 1) (out.flatMap nameCells ++ nameCells x)) (hgrow : wa.grownBy w3 (Value.ownBlock (.slice ao nn cap))) (hat : Value.ownBlock (.slice ao nn cap) = some g ∨ g = H) (hH : wr.heap.size ≤ H) :
    Hid (TickSt w1 p V L n m (out ++ [x]) done (.slice (some ⟨g, 0, none⟩) (nn + 1) cap') w3) := by
  subst hn
  exact h.more hc hown hgrow (by rcases hat with h | h; exact .inl h; exact .inr (by omega))

/-- what a tick leaves -/
def TickTo (w : World) (p : Nat) (V : MV) (names : List (Int × Int)) (m' : MkG) (ov : Value) (w' : World) : Prop :=
  MktTo w p V m' w' ∧ w'.ownsRow 0 123 2 ov names.length (names.flatMap nameCells) ∧ ∀ k, ov.ownBlock = some k → w.heap.size ≤ k

theorem ownsRow_form {w : World} {base : Nat} {e : TypeId} {size n : Nat} {v : Value} {xs : List Value} (h : w.ownsRow base e size v n xs) : ∃ ao cap, v = .slice ao n cap := by
  rcases h.2 with ⟨hv, h0⟩ | ⟨g, cap, cur, hv, _⟩
  · exact ⟨none, 0, by rw [hv, h0]⟩
  · exact ⟨_, cap, hv⟩

/-- how many are not in a list -/
def remL (n : Nat) (d : List Nat) : Nat := (List.range n).countP fun j => !inL d j
theorem remL_succ (n : Nat) (d : List Nat) : remL (n + 1) d = remL n d + if inL d n then 0 else 1 := by
  simp only [remL, List.range_succ, List.countP_append, List.countP_cons, List.countP_nil]
  cases inL d n <;> simp
theorem remL_le (n i : Nat) (d : List Nat) : remL n (d ++ [i]) ≤ remL n d := by
  induction n with
  | zero => simp [remL]
  | succ n ih =>
    rw [remL_succ, remL_succ]
    by_cases h : n ∈ d
    · simp [inL, h]; exact ih
    · by_cases e : n = i
      · simp [inL, e]; subst e; omega
      · simp [inL, h, e]; exact ih
theorem remL_lt {n i : Nat} {d : List Nat} (hi : i < n) (hd : i ∉ d) : remL n (d ++ [i]) < remL n d := by
  induction n with
  | zero => omega
  | succ n ih =>
    rw [remL_succ, remL_succ]
    by_cases e : n = i
    · subst e
      have := remL_le n n d
      simp [inL, hd]
      omega
    · have := ih (by omega)
      by_cases h : n ∈ d
      · simp [inL, h]; exact this
      · simp [inL, h, e]; exact this

theorem TickSt.boxV {w1 wr : World} {p : Nat} {V : MV} {L n f : Nat} {m m' : MkG} {out : List (Int × Int)} {done : List Nat} {ov u : Value} (h : TickSt w1 p V L n m out done ov wr) (hb : (mktBox V m).setIfInBounds f u = mktBox V m') (h1 : m'.units = m.units) (h2 : m'.bids = m.bids) (h3 : m'.susp = m.susp) (h4 : m'.log = m.log) (h5 : m'.paid = m.paid) (h6 : m'.charges = m.charges) :
    TickSt w1 p V L n m' out done ov (wr.setCell ⟨p, f, none⟩ u) := by
  have hpf : V.foot p p := .inl rfl
  have hpl := h.fl p hpf
  have far : ∀ k, k ≠ p → (wr.setCell ⟨p, f, none⟩ u).heap[k]? = wr.heap[k]? := fun k hk => Below.heap_setCell _ _ _ _ hk
  refine ⟨h.mkt.setBoxV hb h1 h2 h3 h4 h5 h6, ?_, ownsRow_keep h.out (fun k hk => far k (by have := h.ov k hk; omega)), h.chg.setCell (.inl hpf) _, h.fl, h.nl, h.ov⟩
  obtain ⟨cur, h1, h2⟩ := h.lk
  exact ⟨cur, (far L (by have := h.nl; omega)).trans h1, h2⟩

/-- what the ghost wants is written down -/
theorem TickSt.want {w1 wr w' : World} {p : Nat} {V : MV} {L n : Nat} {m m' : MkG} {out : List (Int × Int)} {done : List Nat} {ov : Value} (h : TickSt w1 p V L n m out done ov wr) (hs : MktSame wr p V m' w') : TickSt w1 p V L n m' out done ov w' := by
  have hpf : V.foot p p := .inl rfl
  have hpl := h.fl p hpf
  refine ⟨hs.1, ?_, ownsRow_keep h.out (fun k hk => hs.2.block k (h.out.lt k hk).2 (by have := h.ov k hk; omega)), h.chg.trans hs.2 (fun _ _ e => by rw [e]; exact hpf), h.fl, h.nl, h.ov⟩
  obtain ⟨cur, h1, h2⟩ := h.lk
  exact ⟨cur, (hs.2.block L h.ltL (by have := h.nl; omega)).trans h1, h2⟩

/-- the first k bids looked at: which have expired -/
def expTo (l : List BidG) (k : Nat) (now : Int) : List BidG := l.mapIdx fun i b => if i < k then b.expire now else b
theorem expTo_get (l : List BidG) (k : Nat) (now : Int) : (expTo l k now)[k]? = l[k]? := by
  simp [expTo]
theorem expTo_len (l : List BidG) (k : Nat) (now : Int) : (expTo l k now).length = l.length := by simp [expTo]
theorem expTo_zero (l : List BidG) (now : Int) : expTo l 0 now = l := by
  apply List.ext_getElem?
  intro i
  simp [expTo]
theorem expTo_all (l : List BidG) (now : Int) : expTo l l.length now = l.map fun b => b.expire now := by
  apply List.ext_getElem?
  intro i
  by_cases hi : i < l.length
  · simp [expTo, hi]
  · simp [expTo, hi]
theorem expTo_succ {l : List BidG} {k : Nat} {now : Int} {b : BidG} (hb : l[k]? = some b) : expTo l (k + 1) now = (expTo l k now).set k (b.expire now) := by
  apply List.ext_getElem?
  intro i
  rw [List.getElem?_set]
  by_cases e : k = i
  · subst e
    have hl := (List.getElem?_eq_some_iff.1 hb).1
    rw [if_pos rfl, if_pos (by rw [expTo_len]; exact hl)]
    simp [expTo, hb]
  · rw [if_neg e]
    simp only [expTo, List.getElem?_mapIdx]
    cases l[i]? with
    | none => rfl
    | some x =>
      simp only [Option.map_some]
      have hik : (i < k + 1) ↔ (i < k) := ⟨fun h => by omega, fun h => by omega⟩
      simp only [hik]
theorem expTo_same {l : List BidG} {k : Nat} {now : Int} {b : BidG} (hb : l[k]? = some b) (he : b.expire now = b) : expTo l (k + 1) now = expTo l k now := by
  rw [expTo_succ hb, he]
  apply List.ext_getElem?
  intro i
  rw [List.getElem?_set]
  by_cases e : k = i
  · subst e
    have hl := (List.getElem?_eq_some_iff.1 hb).1
    rw [if_pos rfl, if_pos (by rw [expTo_len]; exact hl), expTo_get, hb]
  · rw [if_neg e]
theorem MkOk.exp {m : MkG} (h : MkOk m) (k : Nat) (now : Int) : ∀ b ∈ expTo m.bids k now, BidOk m.c b := by
  intro b hb
  obtain ⟨i, hi⟩ := List.getElem?_of_mem hb
  simp only [expTo, List.getElem?_mapIdx] at hi
  cases h2 : m.bids[i]? with
  | none => rw [h2] at hi; simp at hi
  | some x =>
    rw [h2] at hi
    simp only [Option.map_some, Option.some.injEq] at hi
    have hx := h.bid x (List.mem_of_getElem? h2)
    rw [← hi]
    split
    · exact BidG.expire_ok hx _
    · exact hx
end Go.Proofs.Ytccfademkgjeiaa
