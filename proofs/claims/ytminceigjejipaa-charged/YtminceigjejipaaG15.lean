import Derived.Test.YtminceigjejipaaYd2
import Derived.Test.YtminceigjejipaaRow5
import Derived.Test.YtminceigjejipaaG4
import Derived.Test.YtminceigjejipaaG12
import Derived.Test.YtminceigjejipaaG5
namespace Go.Proofs.Ytminceigjejipaa
open Go.RowKit

theorem YmAt.calLen {w : World} {V : YV} {m : MkG} (h : YmAt w V m) : RowAt 98 w V.r V.g m.units.length V.cc (freeZ m) := h.cal

theorem within_tick {tk t : Int} : inB t 0 (tk - 1) = !(decide (t < 0) || decide (tk ≤ t)) := by
  rw [Bool.eq_iff_iff]
  simp [inB]
  omega

set_option maxRecDepth 100000 in
set_option maxHeartbeats 2000000 in
theorem freeAt_any (V : YV) (m : MkG) (t : Int) (w : World) (hm : YmAt w V m) (hok : MkOk m) :
    Calls Try.prog 73 #[.pointer (some ⟨V.q, 0, none⟩), .int .i64 t] w fun e w' => e = .returned (.tuple #[.int .i64 (freeV m t), .int .i64 (freeE m t)]) ∧ w' = w := by
  have HM := hide hm
  have HOK := hide hok
  have c0 : w.cell? ⟨V.q, 0, none⟩ = some (.int .i64 m.c.ticks) := hm.cell 0
  have c9 : w.cell? ⟨V.q, 9, none⟩ = some (.pointer (some ⟨V.r, 0, none⟩)) := hm.cell 9
  have hcf := cfgOk_true hok.ck
  have hnu := hok.nu
  clear hm hok
  have hw1 : IntKind.i64.wrap (m.c.ticks - 1) = m.c.ticks - 1 := by rw [IntKind.wrap_i64]; omega
  by_cases ht : t < 0 ∨ m.c.ticks ≤ t
  · have E1 := hide (show freeE m t = 9 ∧ freeV m t = 0 by simp [freeE, freeV, ht])
    have hb : inB t 0 (m.c.ticks - 1) = false := by rw [within_tick]; simp; omega
    clear ht hcf hnu
    generalize m.c.ticks = tk at *
    go_enter Try.func73, Try.ntmps73
    go_wp2_with (go_at_call 72; refine (within_any _ _ _ _).mono ?_; rintro e w' ⟨rfl, hw⟩; subst w')
    go_ret2
    exact ⟨ret_two E1.out.2.symm E1.out.1.symm, rfl⟩
  · obtain ⟨i, rfl⟩ := Int.eq_ofNat_of_zero_le (show 0 ≤ t by omega)
    have hb : inB (i : Int) 0 (m.c.ticks - 1) = true := by rw [within_tick]; simp; omega
    have E1 := hide (show freeE m i = 0 ∧ freeV m i = freeZ m i by
      constructor
      · rw [freeE, if_neg ht]
      · rw [freeV, if_neg ht]; simp [freeZ])
    have hiu : i < m.units.length := by omega
    have hul : m.units.length ≤ 64 := by omega
    have HMIN := hide (calMin_ok V.r V.g m.units.length V.cc i (i + 1) (freeZ m) w HM.out.cal.cellp (by omega) (by omega) (by omega) HM.out.cal.cellg)
    clear ht
    generalize m.c.ticks = tk at *
    go_enter Try.func73, Try.ntmps73
    go_wp2_with (first | (go_at_call 72; refine (within_any _ _ _ _).mono ?_; rintro e w' ⟨rfl, hw⟩; subst w') | (go_at_call 12; refine HMIN.out.mono ?_; rintro e w' ⟨rfl, hw⟩; subst w'))
    go_ret2
    exact ⟨ret_two (by rw [E1.out.2]; first | rfl | (rw [show i + 1 - 1 - i = 0 by omega]; rfl)) E1.out.1.symm, rfl⟩

set_option maxRecDepth 100000 in
set_option maxHeartbeats 2000000 in
theorem usedAt_any (V : YV) (m : MkG) (i : Nat) (w : World) (hm : YmAt w V m) (hok : MkOk m) (hi : i < m.units.length) :
    Calls Try.prog 91 #[.pointer (some ⟨V.q, 0, none⟩), .int .i64 i] w fun e w' => e = .returned (.int .i64 (usedL m.bids i)) ∧ w' = w := by
  have HM := hide hm
  have HF := hide (freeAt_any V m i w hm hok)
  have hcf := cfgOk_true hok.ck
  have hnu := hok.nu
  have E1 : freeV m i = m.units.getD i 0 - usedL m.bids i := by rw [freeV, if_neg (by omega)]; simp
  obtain ⟨ao, cap, hv, hel⟩ := hm.units_form
  obtain ⟨g, hao, hown, hcl, hfr⟩ := hel i hi
  subst hao
  have c8 : w.cell? ⟨V.q, 8, none⟩ = some (.slice (some ⟨g, 0, none⟩) m.units.length cap) := by rw [← hv]; exact hm.cell 8
  have hu0 := hok.un (m.units.getD i 0) (by simp [List.getD, List.getElem?_eq_getElem hi])
  have hus := usedL_le m.c i m.bids hok.bid
  have hbl := hok.bl
  have hus2 : 0 ≤ usedL m.bids i ∧ usedL m.bids i ≤ 300000 := by omega
  have hil : (i : Int) < (m.units.length : Int) := by omega
  rw [E1] at HF
  generalize freeE m i = fe at *
  clear hel hv hown hfr hus hm hok E1 HM
  generalize m.units.length = n at *
  generalize m.units.getD i 0 = u at *
  generalize usedL m.bids i = us at *
  obtain ⟨hu1, hu2⟩ := hu0
  obtain ⟨hu3, hu4⟩ := hus2
  go_enter Try.func91, Try.ntmps91
  go_wp2_with (go_at_call 73; refine HF.out.mono ?_; rintro e w' ⟨rfl, hw⟩; subst w')
  go_ret
  exact ⟨ret_int (by omega), rfl⟩

theorem freeZ_range {m : MkG} (hok : MkOk m) : InRange m.units.length (freeZ m) := by
  intro j hj
  have hu := hok.un (m.units.getD j 0) (by simp [List.getD, List.getElem?_eq_getElem hj])
  have hus := usedL_le m.c j m.bids hok.bid
  have hbl := hok.bl
  unfold freeZ
  omega
end Go.Proofs.Ytminceigjejipaa

/-
  THE PROGRAM's TICK (stage 3's landed code), ahead of the walks: the order, bid by bid; what a start makes of the market in memory.
-/
namespace Go.Proofs.Ytminceigjejipaa
open Go.RowKit

def worthB (a b : JobG) : Bool := decide (b.val * sizeJ a < a.val * sizeJ b)

/-- the order of the first k bids -/
structure OrdTo (m : MkG) (t : Int) (k : Nat) (l : List Nat) : Prop where
  mem : ∀ i, i ∈ l ↔ i < k ∧ ∃ b, m.bids[i]? = some b ∧ candB m t b = true
  sorted : l.Pairwise (fun i j => aheadI m.bids i j = true)
theorem OrdTo.zero (m : MkG) (t : Int) : OrdTo m t 0 [] := ⟨fun i => by simp, List.Pairwise.nil⟩
theorem OrdTo.skip {m : MkG} {t : Int} {k : Nat} {l : List Nat} {b : BidG} (h : OrdTo m t k l) (hb : m.bids[k]? = some b) (hc : candB m t b = false) : OrdTo m t (k + 1) l := by
  refine ⟨fun i => ⟨fun hi => ?_, fun ⟨h1, b', hb', hc'⟩ => ?_⟩, h.sorted⟩
  · obtain ⟨h1, h2⟩ := (h.mem i).1 hi
    exact ⟨by omega, h2⟩
  · refine (h.mem i).2 ⟨?_, b', hb', hc'⟩
    rcases Nat.lt_or_ge i k with e | e
    · exact e
    · obtain rfl : i = k := by omega
      rw [hb] at hb'
      obtain rfl := Option.some.inj hb'
      rw [hc] at hc'
      cases hc'
theorem OrdTo.done {m : MkG} {t : Int} {n : Nat} {l : List Nat} (h : OrdTo m t n l) (hn : n = m.bids.length) : IsOrder m t l := by
  refine ⟨fun i => ⟨fun hi => ((h.mem i).1 hi).2, fun ⟨b, hb, hc⟩ => (h.mem i).2 ⟨?_, b, hb, hc⟩⟩, h.sorted⟩
  have := (List.getElem?_eq_some_iff.1 hb).1
  omega
theorem worth_ahead {m : MkG} {i k : Nat} {a b : BidG} (ha : m.bids[i]? = some a) (hb : m.bids[k]? = some b) (h : worthB a.job b.job = true) : aheadI m.bids i k = true := by
  unfold aheadI
  rw [ha, hb]
  simp only [worthB, decide_eq_true_eq] at h
  rw [aheadJ_iff]
  exact .inl h
theorem worth_behind {m : MkG} {i k : Nat} {a b : BidG} (ha : m.bids[i]? = some a) (hb : m.bids[k]? = some b) (h : worthB a.job b.job = false) (hk : k < i) : aheadI m.bids k i = true := by
  unfold aheadI
  rw [ha, hb]
  simp only [worthB, decide_eq_false_iff_not] at h
  rw [aheadJ_iff]
  omega
/-- a bid more: it passes those alone that are worth less -/
theorem OrdTo.put {m : MkG} {t : Int} {k : Nat} {A B : List Nat} {b : BidG} (hs : SizesOk m.bids) (h : OrdTo m t k (A ++ B)) (hb : m.bids[k]? = some b) (hc : candB m t b = true)
    (hB : ∀ i ∈ B, ∀ c, m.bids[i]? = some c → worthB b.job c.job = true) (hA : ∀ i c, A.getLast? = some i → m.bids[i]? = some c → worthB b.job c.job = false) : OrdTo m t (k + 1) (A ++ k :: B) := by
  have key : ∀ i ∈ A, aheadI m.bids i k = true := by
    intro i hi
    obtain ⟨A', x, rfl⟩ : ∃ A' x, A = A' ++ [x] := by
      refine ⟨A.dropLast, A.getLast (List.ne_nil_of_mem hi), ?_⟩
      exact (List.dropLast_concat_getLast _).symm
    obtain ⟨hxk, c, hx, hxc⟩ := (h.mem x).1 (by simp)
    have hxa : aheadI m.bids x k = true := worth_behind hb hx (hA x c (by simp) hx) hxk
    rcases List.mem_append.1 hi with hi | hi
    · have hp := h.sorted
      rw [List.append_assoc, List.pairwise_append] at hp
      exact aheadI_trans hs (hp.2.2 i hi x (by simp)) hxa
    · simp at hi
      subst hi
      exact hxa
  refine ⟨fun i => ?_, ?_⟩
  · have hm := h.mem i
    simp only [List.mem_append, List.mem_cons] at hm ⊢
    constructor
    · rintro (hi | rfl | hi)
      · obtain ⟨h1, h2⟩ := hm.1 (.inl hi)
        exact ⟨by omega, h2⟩
      · exact ⟨by omega, b, hb, hc⟩
      · obtain ⟨h1, h2⟩ := hm.1 (.inr hi)
        exact ⟨by omega, h2⟩
    · rintro ⟨h1, h2⟩
      rcases Nat.lt_or_ge i k with e | e
      · rcases hm.2 ⟨e, h2⟩ with hi | hi
        · exact .inl hi
        · exact .inr (.inr hi)
      · exact .inr (.inl (by omega))
  · have hp := h.sorted
    rw [List.pairwise_append] at hp ⊢
    refine ⟨hp.1, ?_, fun x hx y hy => ?_⟩
    · rw [List.pairwise_cons]
      refine ⟨fun y hy => ?_, hp.2.1⟩
      obtain ⟨_, c, hyb, _⟩ := (h.mem y).1 (List.mem_append_right _ hy)
      exact worth_ahead hb hyb (hB y hy c hyb)
    · rcases List.mem_cons.1 hy with rfl | hy
      · exact key x hx
      · exact hp.2.2 x hx y hy

/-- the cells of an order -/
def ordCells (l : List Nat) : List Value := l.map fun (i : Nat) => Value.int .i64 (i : Int)
theorem ordCells_swap (A B : List Nat) (x i : Nat) : ((ordCells (A ++ [x] ++ i :: B)).set (A.length + 1) (.int .i64 (x : Int))).set A.length (.int .i64 (i : Int)) = ordCells (A ++ i :: x :: B) := by
  simp [ordCells]

theorem yusedL_start {m : MkG} {i : Nat} {b : BidG} (hb : m.bids[i]? = some b) (h1 : b.state ≠ 2) (t s : Int) : usedL (m.bids.set i { b with state := 2, start := t }) s = usedL m.bids s + if t ≤ s ∧ s < t + b.job.len then b.job.units else 0 := by
  obtain ⟨l, hl⟩ : ∃ l, l = m.bids := ⟨_, rfl⟩
  rw [← hl] at hb ⊢
  clear hl
  induction l generalizing i with
  | nil => simp at hb
  | cons y l ih =>
    cases i with
    | zero =>
      simp at hb
      subst hb
      simp [usedL, BidG.runs, h1]
      omega
    | succ i =>
      simp only [List.getElem?_cons_succ] at hb
      have := ih hb
      simp only [usedL, List.set_cons_succ, List.map_cons, List.sum_cons] at this ⊢
      omega

theorem ybid_set {r : Nat} {u : Value} {b b' : BidG} (hc : ybidCells b' = (ybidCells b).set r u) (hr : r < 9) : ∀ (l : List BidG) (i : Nat), l[i]? = some b → (l.set i b').flatMap ybidCells = (l.flatMap ybidCells).set (i * 9 + r) u := by
  intro l
  induction l with
  | nil => intro i hb; simp at hb
  | cons y l ih =>
    intro i hb
    cases i with
    | zero =>
      simp at hb
      subst hb
      simp only [List.set_cons_zero, List.flatMap_cons, hc, Nat.zero_mul, Nat.zero_add]
      rw [List.set_append_left _ _ (by simpa [ybidCells] using hr)]
    | succ i =>
      simp only [List.getElem?_cons_succ] at hb
      simp only [List.set_cons_succ, List.flatMap_cons, ih i hb]
      rw [show (i + 1) * 9 + r = (ybidCells y).length + (i * 9 + r) by simp [ybidCells]; omega]
      rw [List.set_append_right _ _ (by omega)]
      simp
theorem ybid_row {w : World} {v : Value} {n i g r : Nat} {u : Value} {b b' : BidG} {l : List BidG} (h : w.ownsRow 0 125 9 v n (l.flatMap ybidCells)) (hb : l[i]? = some b) (hn : n = l.length) (hg : v.ownBlock = some g) (hc : ybidCells b' = (ybidCells b).set r u) (hr : r < 9) :
    (w.setCell ⟨g, i * 9 + r, none⟩ u).ownsRow 0 125 9 v n ((l.set i b').flatMap ybidCells) := by
  have hil : i < l.length := (List.getElem?_eq_some_iff.1 hb).1
  rw [ybid_set hc hr l i hb]
  rcases h.2 with ⟨hv, h0⟩ | ⟨g', cap, cur, hv, hb0, hh, hc', hmx, hsz, htake⟩
  · omega
  · have hgg : g' = g := by rw [hv] at hg; simpa [Value.ownBlock] using hg
    subst hgg
    refine ⟨by simp [h.1], .inr ⟨g', cap, cur.setIfInBounds (i * 9 + r) u, hv, hb0, box_set hh _, hc', hmx, by simpa using hsz, ?_⟩⟩
    rw [Array.toList_setIfInBounds, List.take_set, htake]

/-- a bid starts: the calendar knows of it, then its two cells are written -/
theorem YmAt.startB {w w' : World} {V : YV} {m : MkG} {i g a e : Nat} {b : BidG} (h : YmAt w V m) (hb : m.bids[i]? = some b) (h1 : b.state ≠ 2) (hg : V.bv.ownBlock = some g) (he : (e : Int) = (a : Int) + b.job.len)
    (hrow : RowAt 98 w' V.r V.g m.units.length V.cc (addZ (freeZ m) a e (- b.job.units))) (hc : Chg (fun k => k = V.g) w w') :
    YmAt ((w'.setCell ⟨g, i * 9 + 7, none⟩ (.int .i64 2)).setCell ⟨g, i * 9 + 8, none⟩ (.int .i64 (a : Int))) V (startM m i a) ∧ Chg V.foot w ((w'.setCell ⟨g, i * 9 + 7, none⟩ (.int .i64 2)).setCell ⟨g, i * 9 + 8, none⟩ (.int .i64 (a : Int))) := by
  have hil : i < m.bids.length := (List.getElem?_eq_some_iff.1 hb).1
  have hgp : g ≠ V.q := fun e => ownsRow_box h.bids h.box (by decide) (e ▸ hg)
  obtain ⟨curg, hg1, _⟩ := h.cal.hg
  have hgg0 : g ≠ V.g := fun e => ownsRow_box h.bids hg1 (by decide) (e ▸ hg)
  have hgr : g ≠ V.r := fun e => ownsRow_box h.bids h.cal.hp (by decide) (e ▸ hg)
  have hgf : V.foot g := .inr (.inr (.inr (.inr (.inl hg))))
  obtain ⟨W, hW⟩ : ∃ W, W = (w'.setCell ⟨g, i * 9 + 7, none⟩ (.int .i64 2)).setCell ⟨g, i * 9 + 8, none⟩ (.int .i64 (a : Int)) := ⟨_, rfl⟩
  rw [← hW]
  have far : ∀ k, k ≠ g → W.heap[k]? = w'.heap[k]? := fun k hk => by rw [hW, Below.heap_setCell _ _ _ _ hk, Below.heap_setCell _ _ _ _ hk]
  have mid : ∀ k, V.foot k → k ≠ V.g → w'.heap[k]? = w.heap[k]? := fun k hk hn => hc.block k (h.foot_lt k hk) hn
  have old : ∀ {e : TypeId} {size n : Nat} {v : Value} {xs : List Value}, w.ownsRow 0 e size v n xs → e ≠ 125 → (∀ k, v.ownBlock = some k → V.foot k ∧ k ≠ V.g) → W.ownsRow 0 e size v n xs := by
    intro e size n v xs ho he hf
    refine ownsRow_keep ho (fun k hk => ?_)
    rw [far k (fun e => ownsRow_apart ho h.bids he hk (e ▸ hg))]
    exact mid k (hf k hk).1 (hf k hk).2
  have hsm : startM m i a = { m with bids := m.bids.set i { b with state := 2, start := a } } := by unfold startM; rw [hb]
  rw [hsm]
  refine ⟨⟨?_, ?_, old h.susp (by decide) (fun k hk => ⟨.inr (.inr (.inr (.inr (.inr hk)))), fun e => ownsRow_box h.susp hg1 (by decide) (e ▸ hk)⟩), old h.units (by decide) (fun k hk => ⟨.inr (.inr (.inr (.inl hk))), fun e => h.ne (e ▸ hk)⟩), ?_, h.ne⟩, ?_⟩
  · rw [far _ (Ne.symm hgp), mid _ (.inl rfl) (cells_ne h.box hg1 (by decide))]
    exact h.box
  · have hu := ownsRow_keep (w' := w') h.bids (fun k hk => mid k (.inr (.inr (.inr (.inr (.inl hk))))) (fun e => ownsRow_box h.bids hg1 (by decide) (e ▸ hk)))
    have r1 := ybid_row (r := 7) (u := .int .i64 2) (b' := { b with state := 2 }) hu hb rfl hg rfl (by omega)
    have r2 := ybid_row (r := 8) (u := .int .i64 (a : Int)) (b := { b with state := 2 }) (b' := { b with state := 2, start := a }) (i := i) r1 (by simp [hil]) (by simp) hg rfl (by omega)
    rw [hW]
    simpa using r2
  · refine (hrow.frame (far _ (Ne.symm hgr)) (far _ (Ne.symm hgg0))).congr (fun j hj => ?_)
    show addZ (freeZ m) a e (- b.job.units) j = m.units.getD j 0 - usedL (m.bids.set i { b with state := 2, start := a }) j
    rw [yusedL_start hb h1]
    unfold addZ freeZ
    by_cases e1 : a ≤ j ∧ j < e
    · rw [if_pos e1, if_pos (by omega)]
      omega
    · rw [if_neg e1, if_neg (by omega)]
      omega
  · rw [hW]
    exact ((hc.mono (O' := V.foot) (fun _ _ h => .inr (.inr (.inl h)))).setCell (.inl hgf) _).setCell (.inl hgf) _

/-- a bid's state, written in place -/
theorem YmAt.setState' {w : World} {V : YV} {m : MkG} {i g : Nat} {b : BidG} {s : Int} (h : YmAt w V m) (hb : m.bids[i]? = some b) (h1 : b.state ≠ 2) (h2 : s ≠ 2) (hg : V.bv.ownBlock = some g) :
    YmAt (w.setCell ⟨g, i * 9 + 7, none⟩ (.int .i64 s)) V { m with bids := m.bids.set i { b with state := s } } := by
  have hgp : g ≠ V.q := fun e => ownsRow_box h.bids h.box (by decide) (e ▸ hg)
  have far : ∀ k, k ≠ g → (w.setCell ⟨g, i * 9 + 7, none⟩ (.int .i64 s)).heap[k]? = w.heap[k]? := fun k hk => Below.heap_setCell _ _ _ _ hk
  have old : ∀ {e : TypeId} {size n : Nat} {v : Value} {xs : List Value}, w.ownsRow 0 e size v n xs → e ≠ 125 → (w.setCell ⟨g, i * 9 + 7, none⟩ (.int .i64 s)).ownsRow 0 e size v n xs := by
    intro e size n v xs ho he
    exact ownsRow_keep ho (fun k hk => far k (fun e => ownsRow_apart ho h.bids he hk (e ▸ hg)))
  obtain ⟨curg, hg1, _⟩ := h.cal.hg
  refine ⟨(far _ (Ne.symm hgp)).trans h.box, ?_, old h.susp (by decide), old h.units (by decide), ?_, h.ne⟩
  · have r1 := ybid_row (r := 7) (u := .int .i64 s) (b' := { b with state := s }) h.bids hb rfl hg rfl (by omega)
    simpa using r1
  · refine (h.cal.frame (far _ (fun e => ownsRow_box h.bids h.cal.hp (by decide) (e ▸ hg))) (far _ (fun e => ownsRow_box h.bids hg1 (by decide) (e ▸ hg)))).congr (fun j _ => ?_)
    show m.units.getD j 0 - usedL m.bids j = m.units.getD j 0 - usedL (m.bids.set i { b with state := s }) j
    rw [usedL_set m.bids i b hb s h1 h2]

/-- the time, written -/
theorem YmAt.setTime {w : World} {V : YV} {m : MkG} {t : Int} (h : YmAt w V m) : YmAt (w.setCell ⟨V.q, 5, none⟩ (.int .i64 t)) V { m with time := t } := by
  have far : ∀ k, k ≠ V.q → (w.setCell ⟨V.q, 5, none⟩ (.int .i64 t)).heap[k]? = w.heap[k]? := fun k hk => Below.heap_setCell _ _ _ _ hk
  have old : ∀ {e : TypeId} {size n : Nat} {v : Value} {xs : List Value}, w.ownsRow 0 e size v n xs → e ≠ 107 → (w.setCell ⟨V.q, 5, none⟩ (.int .i64 t)).ownsRow 0 e size v n xs := by
    intro e size n v xs ho he
    exact ownsRow_keep ho (fun k hk => far k (fun e => ownsRow_box ho h.box he (e ▸ hk)))
  obtain ⟨curg, hg1, _⟩ := h.cal.hg
  refine ⟨?_, old h.bids (by decide), old h.susp (by decide), old h.units (by decide), h.cal.frame (far _ (cells_ne h.cal.hp h.box (by decide))) (far _ (cells_ne hg1 h.box (by decide))), h.ne⟩
  rw [box_set h.box]
  rfl

/-- the jobs' bounds, as the walks want them -/
theorem BidOk.nums {m : MkG} {b : BidG} (hok : MkOk m) (h : BidOk m.c b) : (0 ≤ b.job.arr ∧ b.job.arr ≤ 64) ∧ (0 ≤ b.job.dl ∧ b.job.dl ≤ 64) ∧ (1 ≤ b.job.len ∧ b.job.len ≤ 64) ∧ (1 ≤ b.job.units ∧ b.job.units ≤ 1000) ∧ 1 ≤ b.job.val ∧ b.job.val ≤ 1048576 := by
  have hj := jobIn_true h.job
  have hc := cfgOk_true hok.ck
  have := h.a0
  have := h.a1
  omega
theorem cand_open {m : MkG} (hok : MkOk m) (hg : m.ghost = -1) (t : Int) {b : BidG} (hb : b ∈ m.bids) : candB m t b = b.openB m t := by
  have := (hok.bid b hb).e0
  unfold candB
  rw [hg]
  have e : (b.entry != -1) = true := by simp; omega
  rw [e, Bool.and_true]
/-- the code's own test -/
theorem open_split {m : MkG} (ha : ArrOk m) {b : BidG} (hb : b ∈ m.bids) (hok : MkOk m) : b.openB m m.time = ((b.state == 1) && !suspAt m b.ten && decide (b.job.arr ≤ m.time) && decide (m.time + b.job.len ≤ b.job.dl)) := by
  unfold BidG.openB
  have h0 := (hok.bid b hb).a0
  have : decide (b.arrival ≤ m.time) = decide (b.job.arr ≤ m.time) := by
    rw [Bool.eq_iff_iff]
    simp
    rcases ha b hb with h | h <;> omega
  rw [this]

/-- the least of what is free, and whether it fits -/
theorem fits_min {m : MkG} {b : BidG} {a e : Nat} (hok : MkOk m) (he : (e : Int) = (a : Int) + b.job.len) (hl : 1 ≤ b.job.len) (hx : e ≤ m.units.length) : fitsB m b a = decide (b.job.units ≤ minZ (freeZ m) a (e - 1 - a)) := by
  have hnu := hok.nu
  rw [Bool.eq_iff_iff]
  simp only [fitsB, List.all_eq_true, List.mem_range, decide_eq_true_eq]
  rw [le_minZ]
  constructor
  · intro h j hj
    have := h j (by omega)
    rw [freeV, if_neg (by omega), show ((a : Int) + (j : Int)).toNat = a + j by omega] at this
    unfold freeZ
    rw [Int.natCast_add]
    exact this
  · intro h j hj
    have := h j (by omega)
    rw [freeV, if_neg (by omega), show ((a : Int) + (j : Int)).toNat = a + j by omega]
    unfold freeZ at this
    rw [Int.natCast_add] at this
    exact this
end Go.Proofs.Ytminceigjejipaa
