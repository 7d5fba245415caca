import Derived.Test.YtminceigjejipabGreatMkI
/-
  A TICK, AS PLAIN FUNCTIONS: which bids are looked at, in which order, what starts, what the ghost would want. Nothing of the program.
-/
namespace Go.Proofs.YtminceigjejipabGreat

def sizeJ (j : JobG) : Int := j.len * j.units
def BidG.openB (b : BidG) (m : MkG) (t : Int) : Bool := (b.state == 1) && !suspAt m b.ten && decide (b.arrival ≤ t) && decide (t + b.job.len ≤ b.job.dl)
def aheadJ (a b : JobG) (i k : Nat) : Bool := decide (b.val * sizeJ a < a.val * sizeJ b) || ((a.val * sizeJ b == b.val * sizeJ a) && decide (i < k))
def aheadI (l : List BidG) (i k : Nat) : Bool := match l[i]?, l[k]? with | some a, some b => aheadJ a.job b.job i k | _, _ => false
def fitsB (m : MkG) (b : BidG) (t : Int) : Bool := (List.range b.job.len.toNat).all fun s => decide (b.job.units ≤ freeV m (t + s))
def BidG.winB (b : BidG) (res : Int) : Bool := decide (res * sizeJ b.job ≤ b.job.val)
def candB (m : MkG) (t : Int) (b : BidG) : Bool := b.openB m t && (b.entry != m.ghost)

/-- the bids that are looked at, those ahead first -/
structure IsOrder (m : MkG) (t : Int) (l : List Nat) : Prop where
  mem : ∀ i, i ∈ l ↔ ∃ b, m.bids[i]? = some b ∧ candB m t b = true
  sorted : l.Pairwise (fun i k => aheadI m.bids i k = true)

/-- next: the best of the first k that are not in lk -/
def nextGo (m : MkG) (t : Int) (lk : Nat → Bool) : Nat → Int
  | 0 => -1
  | k + 1 =>
    let best := nextGo m t lk k
    match m.bids[k]? with
    | some b => if candB m t b && !lk k && (decide (best < 0) || aheadI m.bids k best.toNat) then k else best
    | none => best

def ghostI (m : MkG) (t : Int) : Option Nat := m.bids.findIdx? fun b => b.openB m t && (b.entry == m.ghost)
def roomB (m : MkG) (g : Option Nat) (t : Int) : Bool := match g with | some i => (match m.bids[i]? with | some b => fitsB m b t | none => false) | none => false
def startM (m : MkG) (i : Nat) (t : Int) : MkG := match m.bids[i]? with | some b => { m with bids := m.bids.set i { b with state := 2, start := t } } | none => m
def jobAt (m : MkG) (i : Nat) : JobG := match m.bids[i]? with | some b => b.job | none => noJob
/-- the least value with which bid g is ahead of bid k -/
def leastV (m : MkG) (g k : Nat) : Int :=
  let n := (jobAt m k).val * sizeJ (jobAt m g)
  let d := sizeJ (jobAt m k)
  if n.tmod d = 0 ∧ g < k then n.tdiv d else n.tdiv d + 1
def wantV (m : MkG) (g : Nat) (v : Int) : Int :=
  let r := m.c.res * sizeJ (jobAt m g)
  let v1 := if v < r then r else v
  if v1 < 1 then 1 else v1
def wantM (m : MkG) (g : Nat) (v : Int) : MkG := if m.need = 0 ∨ wantV m g v < m.need then { m with need := wantV m g v } else m

abbrev TkS := MkG × List (Int × Int)
def tickOne (t : Int) (g : Option Nat) (s : TkS) (i : Nat) : TkS :=
  match s.1.bids[i]? with
  | none => s
  | some b =>
    if fitsB s.1 b t && b.winB s.1.c.res then
      (match g with
        | some gi => if roomB s.1 g t && !roomB (startM s.1 i t) g t then wantM (startM s.1 i t) gi (leastV (startM s.1 i t) gi i) else startM s.1 i t
        | none => startM s.1 i t, s.2 ++ [(b.ten, b.ref)])
    else s
def tickFold (t : Int) (g : Option Nat) (m : MkG) (l : List Nat) : TkS := l.foldl (tickOne t g) (m, [])
def wantEnd (t : Int) (g : Option Nat) (m : MkG) : MkG := match g with | some gi => if roomB m g t then wantM m gi 0 else m | none => m
def BidG.expire (b : BidG) (now : Int) : BidG := if (b.state == 1) && decide (b.job.dl < now + b.job.len) then { b with state := 4 } else b
def tickEnd (t : Int) (m : MkG) : MkG := { m with time := t + 1, bids := m.bids.map fun b => b.expire (t + 1) }

def callTick : CallG := ⟨5, 0, 0, 0, noJob, false⟩
/-- a tick of a market whose log has room, and whose time is not over -/
def tickM (m : MkG) (l : List Nat) : MkG × List (Int × Int) :=
  let m1 := m.logs callTick
  let g := ghostI m1 m.time
  let s := tickFold m.time g m1 l
  (tickEnd m.time (wantEnd m.time g s.1), s.2)
def TickRes (m : MkG) (z : Int) (names : List (Int × Int)) (m' : MkG) : Prop :=
  (m.log.length = 300 ∧ z = 2 ∧ names = [] ∧ m' = m) ∨
  (m.log.length < 300 ∧ m.c.ticks ≤ m.time ∧ z = 11 ∧ names = [] ∧ m' = m.logs callTick) ∨
  (m.log.length < 300 ∧ m.time < m.c.ticks ∧ z = 0 ∧ ∃ l, IsOrder m m.time l ∧ m' = (tickM m l).1 ∧ names = (tickM m l).2)

/-! ### the order is one -/
theorem aheadI_some {l : List BidG} {i k : Nat} (h : aheadI l i k = true) : ∃ a b, l[i]? = some a ∧ l[k]? = some b ∧ aheadJ a.job b.job i k = true := by
  unfold aheadI at h
  split at h
  · rename_i a b ha hb
    exact ⟨a, b, ha, hb, h⟩
  · simp at h
theorem aheadJ_asymm {a b : JobG} {i k : Nat} (h : aheadJ a b i k = true) : aheadJ b a k i = false := by
  simp only [aheadJ, Bool.or_eq_true, Bool.and_eq_true, decide_eq_true_eq, beq_iff_eq, Bool.or_eq_false_iff, Bool.and_eq_false_iff, decide_eq_false_iff_not, beq_eq_false_iff_ne] at h ⊢
  omega
theorem aheadI_asymm {l : List BidG} {i k : Nat} (h : aheadI l i k = true) : aheadI l k i = false := by
  obtain ⟨a, b, ha, hb, hj⟩ := aheadI_some h
  unfold aheadI
  rw [ha, hb]
  exact aheadJ_asymm hj
theorem aheadI_irrefl {l : List BidG} {i : Nat} : aheadI l i i = false := by
  cases h : aheadI l i i
  · rfl
  · have := aheadI_asymm h
    rw [this] at h
    cases h

theorem sorted_unique {R : Nat → Nat → Prop} (ha : ∀ i k, R i k → ¬ R k i) : ∀ (l l' : List Nat), (∀ i, i ∈ l ↔ i ∈ l') → l.Pairwise R → l'.Pairwise R → l = l'
  | [], [], _, _, _ => rfl
  | [], b :: l', h, _, _ => by have := (h b).2 List.mem_cons_self; simp at this
  | a :: l, [], h, _, _ => by have := (h a).1 List.mem_cons_self; simp at this
  | a :: l, b :: l', h, h1, h2 => by
    rw [List.pairwise_cons] at h1 h2
    have hab : a = b := by
      rcases List.mem_cons.1 ((h a).1 List.mem_cons_self) with e | e
      · exact e
      · rcases List.mem_cons.1 ((h b).2 List.mem_cons_self) with e' | e'
        · exact e'.symm
        · exact absurd (h1.1 b e') (ha _ _ (h2.1 a e))
    subst hab
    have hn : a ∉ l := fun hm => ha _ _ (h1.1 a hm) (h1.1 a hm)
    have hn' : a ∉ l' := fun hm => ha _ _ (h2.1 a hm) (h2.1 a hm)
    rw [sorted_unique ha l l' (fun i => ?_) h1.2 h2.2]
    constructor
    · intro hi
      rcases List.mem_cons.1 ((h i).1 (List.mem_cons_of_mem _ hi)) with e | e
      · subst e; exact absurd hi hn
      · exact e
    · intro hi
      rcases List.mem_cons.1 ((h i).2 (List.mem_cons_of_mem _ hi)) with e | e
      · subst e; exact absurd hi hn'
      · exact e
theorem IsOrder.unique {m : MkG} {t : Int} {l l' : List Nat} (h : IsOrder m t l) (h' : IsOrder m t l') : l = l' :=
  sorted_unique (R := fun i k => aheadI m.bids i k = true) (fun i k h1 h2 => by rw [aheadI_asymm h1] at h2; cases h2) l l' (fun i => (h.mem i).trans (h'.mem i).symm) h.sorted h'.sorted
theorem TickRes.unique {m : MkG} {z z2 : Int} {n n2 : List (Int × Int)} {m1 m2 : MkG} (h : TickRes m z n m1) (h2 : TickRes m z2 n2 m2) : z = z2 ∧ n = n2 ∧ m1 = m2 := by
  rcases h with ⟨a, rfl, rfl, rfl⟩ | ⟨a, b, rfl, rfl, rfl⟩ | ⟨a, b, rfl, l, hl, rfl, rfl⟩ <;> rcases h2 with ⟨a2, rfl, rfl, rfl⟩ | ⟨a2, b2, rfl, rfl, rfl⟩ | ⟨a2, b2, rfl, l2, hl2, rfl, rfl⟩ <;> first | exact ⟨rfl, rfl, rfl⟩ | (exfalso; omega) | skip
  rw [hl.unique hl2]
  exact ⟨rfl, rfl, rfl⟩
end Go.Proofs.YtminceigjejipabGreat

namespace Go.Proofs.YtminceigjejipabGreat
open Go.RowKit

theorem mul_lt {a b A B : Int} (h0 : 0 ≤ a) (h1 : a ≤ A) (h2 : 0 ≤ b) (h3 : b ≤ B) : 0 ≤ a * b ∧ a * b ≤ A * B :=
  ⟨Int.mul_nonneg h0 h2, Int.mul_le_mul h1 h3 h2 (Int.le_trans h0 h1)⟩
theorem sizeJ_pos {tk : Int} {j : JobG} (h : jobIn tk j = true) (ht : tk ≤ 64) : 1 ≤ sizeJ j ∧ sizeJ j ≤ 64000 := by
  have hj := jobIn_true h
  have h1 := mul_lt (a := j.len) (b := j.units) (A := 64) (B := 1000) (by omega) (by omega) (by omega) (by omega)
  have h2 : 1 * 1 ≤ j.len * j.units := Int.mul_le_mul (by omega) (by omega) (by omega) (by omega)
  unfold sizeJ
  omega

set_option maxHeartbeats 1000000 in
theorem size_any (j : JobG) (w : World) (h : sizeJ j ≤ 64000) (h0 : 0 ≤ sizeJ j) :
    Calls Tryz.prog 77 #[.agg #[.int .i64 j.arr, .int .i64 j.dl, .int .i64 j.len, .int .i64 j.units, .int .i64 j.val]] w fun e w' => e = .returned (.int .i64 (sizeJ j)) ∧ Chg (fun _ => False) w w' := by
  have hw : IntKind.i64.wrap (j.len * j.units) = j.len * j.units := by unfold sizeJ at h h0; rw [IntKind.wrap_i64]; omega
  clear h h0
  go_enter Tryz.func77, Tryz.ntmps77
  go_wp2
  go_ret
  exact ⟨ret_int (by first | rfl | rw [hw]; rfl), (Chg.refl _ _).alloc _⟩

theorem bool_dec (b : Bool) : decide (b = true) = b := by cases b <;> rfl

/-- a bid's cells, at hand -/
theorem MktAt.bidCell {w : World} {p : Nat} {V : MV} {m : MkG} {i : Nat} {b : BidG} (h : MktAt w p V m) (hb : m.bids[i]? = some b) :
    ∃ g cap, V.bv = .slice (some ⟨g, 0, none⟩) m.bids.length cap ∧ V.bv.ownBlock = some g ∧ g < w.heap.size ∧ (∀ r u, (bidCells b)[r]? = some u → w.cell? ⟨g, i * 12 + r, none⟩ = some u) ∧ (∀ r, w.frozen? ⟨g, r, none⟩ = false) := by
  obtain ⟨ao, cap, hv, hel⟩ := h.bid_form
  obtain ⟨g, hao, hown, hcl, hfr⟩ := hel i b hb
  subst hao
  exact ⟨g, cap, hv, hown, (h.bids.lt g hown).2, hcl, hfr⟩

set_option maxRecDepth 100000 in
set_option maxHeartbeats 4000000 in
theorem open_at (p : Nat) (V : MV) (m : MkG) (i : Nat) (b : BidG) (t : Int) (w : World) (hm : MktAt w p V m) (hok : MkOk m) (hb : m.bids[i]? = some b) (ht0 : 0 ≤ t) (ht1 : t ≤ 64) :
    Calls Tryz.prog 91 #[.pointer (some ⟨p, 0, none⟩), .int .i64 i, .int .i64 t] w fun e w' => e = .returned (.bool (b.openB m t)) ∧ Chg (fun _ => False) w w' := by
  obtain ⟨g, cap, hv, hown, hgl, hcl, _⟩ := hm.bidCell hb
  have hil : (i : Int) < (m.bids.length : Int) := by have := (List.getElem?_eq_some_iff.1 hb).1; omega
  have i0 : (0 : Int) ≤ (i : Int) := by omega
  have hbok := hok.bid b (List.mem_of_getElem? hb)
  have hj := jobIn_true hbok.job
  have hcf := cfgOk_true hok.ck
  have hpl := hm.lt
  have c7 : w.cell? ⟨p, 7, none⟩ = some (.slice (some ⟨g, 0, none⟩) m.bids.length cap) := by rw [← hv]; exact hm.cell 7
  obtain ⟨ti, hti⟩ := Int.eq_ofNat_of_zero_le hbok.t0
  obtain ⟨sao, scap, hsv, hsel⟩ := hm.susp_form
  have hns := hok.ns
  have hbt := hbok.t1
  obtain ⟨gs, hsao, hsown, hscl, _⟩ := hsel ti (by omega)
  subst hsao
  have hsl : gs < w.heap.size := (hm.susp.lt gs hsown).2
  have c8 : w.cell? ⟨p, 8, none⟩ = some (.slice (some ⟨gs, 0, none⟩) m.susp.length scap) := by rw [← hsv]; exact hm.cell 8
  have hsi : (ti : Int) < (m.susp.length : Int) := by omega
  have t0 : (0 : Int) ≤ (ti : Int) := by omega
  have esu : suspAt m b.ten = m.susp.getD ti false := by rw [hti]; rfl
  have cs : w.cell? ⟨gs, ti, none⟩ = some (.bool (suspAt m b.ten)) := by rw [esu]; exact hscl
  have hlen : 1 ≤ b.job.len ∧ b.job.len ≤ 64 := by omega
  have c0 : w.cell? ⟨g, i * 12, none⟩ = some (.int .i64 ti) := by rw [← hti]; exact hcl 0 _ rfl
  have c1 : w.cell? ⟨g, i * 12 + 1, none⟩ = some (.int .i64 b.ref) := hcl 1 _ rfl
  have c2 : w.cell? ⟨g, i * 12 + 2, none⟩ = some (.int .i64 b.job.arr) := hcl 2 _ rfl
  have c3 : w.cell? ⟨g, i * 12 + 3, none⟩ = some (.int .i64 b.job.dl) := hcl 3 _ rfl
  have c4 : w.cell? ⟨g, i * 12 + 4, none⟩ = some (.int .i64 b.job.len) := hcl 4 _ rfl
  have c5 : w.cell? ⟨g, i * 12 + 5, none⟩ = some (.int .i64 b.job.units) := hcl 5 _ rfl
  have c6 : w.cell? ⟨g, i * 12 + 6, none⟩ = some (.int .i64 b.job.val) := hcl 6 _ rfl
  have c7' : w.cell? ⟨g, i * 12 + 7, none⟩ = some (.int .i64 b.arrival) := hcl 7 _ rfl
  have c8' : w.cell? ⟨g, i * 12 + 8, none⟩ = some (.int .i64 b.state) := hcl 8 _ rfl
  have c9 : w.cell? ⟨g, i * 12 + 9, none⟩ = some (.int .i64 b.start) := hcl 9 _ rfl
  have c10 : w.cell? ⟨g, i * 12 + 10, none⟩ = some (.int .i64 b.entry) := hcl 10 _ rfl
  have c11 : w.cell? ⟨g, i * 12 + 11, none⟩ = some (.bool b.charged) := hcl 11 _ rfl
  obtain ⟨r, hr⟩ : ∃ r, r = b.openB m t := ⟨_, rfl⟩
  have HR : Hid (r = ((b.state == 1) && !suspAt m b.ten && decide (b.arrival ≤ t) && decide (t + b.job.len ≤ b.job.dl))) := hr
  rw [← hr]
  obtain ⟨l1, l2⟩ := hlen
  have hwr : IntKind.i64.wrap (t + b.job.len) = t + b.job.len := by rw [IntKind.wrap_i64]; omega
  have d8 : ∀ o, (w.alloc o).cell? ⟨p, 8, none⟩ = some (.slice (some ⟨gs, 0, none⟩) m.susp.length scap) := fun o => by rw [World.cell?_alloc_lt _ _ _ (by exact hpl)]; exact c8
  have ds : ∀ o, (w.alloc o).cell? ⟨gs, ti, none⟩ = some (.bool (suspAt m b.ten)) := fun o => by rw [World.cell?_alloc_lt _ _ _ (by exact hsl)]; exact cs
  clear hcl hv hown hm hok hb hbok hj hcf hns hsel hsv hsown hscl esu hbt hr hti
  generalize suspAt m b.ten = su at *
  generalize m.bids.length = n at *
  generalize m.susp.length = ns at *
  cases h1 : b.state == 1
  · have hz : r = false := by rw [HR.out, h1]; rfl
    subst hz
    clear HR
    go_enter Tryz.func91, Tryz.ntmps91
    go_wp2
    go_quiet (fail)
    go_wp2
    go_ret
    exact ⟨rfl, ((Chg.refl _ _).alloc _).drewN _⟩
  cases su
  rotate_left
  · have hz : r = false := by rw [HR.out, h1]; rfl
    subst hz
    clear HR
    go_enter Tryz.func91, Tryz.ntmps91
    go_wp2
    go_quiet (fail)
    go_wp2
    go_ret
    exact ⟨rfl, ((Chg.refl _ _).alloc _).drewN _⟩
  cases h3 : decide (b.arrival ≤ t)
  · have hz : r = false := by rw [HR.out, h1, h3]; rfl
    subst hz
    clear HR
    go_enter Tryz.func91, Tryz.ntmps91
    go_wp2
    go_quiet (fail)
    go_wp2
    go_ret
    exact ⟨rfl, ((Chg.refl _ _).alloc _).drewN _⟩
  have hz : Hid (r = decide (t + b.job.len ≤ b.job.dl)) := by rw [HR.out, h1, h3]; exact Bool.true_and _
  clear HR
  have h3' : b.arrival ≤ t := by simpa using h3
  go_enter Tryz.func91, Tryz.ntmps91
  go_wp2
  go_quiet (fail)
  go_wp2
  go_ret
  exact ⟨ret_bool (by rw [hz.out]), ((Chg.refl _ _).alloc _).drewN _⟩
end Go.Proofs.YtminceigjejipabGreat
