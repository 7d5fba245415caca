import Derived.Test.YtminceigjejipaaG7
import Derived.Test.YtminceigjejipaaG6
import Derived.Test.YtminceigjejipaaG4
import Derived.Test.YtminceigjejipaaG3
import Derived.Laws.AppendOwnNone
/-
  A CALL OF THE LOG, MADE AGAIN (the reference's market, with a ghost or without).
-/
namespace Go.Proofs.Ytminceigjejipaa
open Go.RowKit

section
variable (p : Nat) (V : MV) (m : MkG) (w : World)
end

end Go.Proofs.Ytminceigjejipaa

/-
  A PRICE IN THE REFERENCE: all calls made once more in a market in which the bid never starts.
-/
namespace Go.Proofs.Ytminceigjejipaa
open Go.RowKit

/-- the price of the bid of entry g -/
def priceM (m : MkG) (g : Int) : Int := (replayG m.c g m.log).need
theorem fold_take {m0 : MkG} {l : List CallG} {k : Nat} {c : CallG} (hc : l[k]? = some c) : (l.take (k + 1)).foldl againM m0 = againM ((l.take k).foldl againM m0) c := by
  rw [take_snoc hc, List.foldl_append]
  rfl

end Go.Proofs.Ytminceigjejipaa

/-
  PRICE IN THE REFERENCE.
-/
namespace Go.Proofs.Ytminceigjejipaa
open Go.RowKit

def priceE (m : MkG) (ten ref : Int) : Int := if lookE m ten ref = 0 then (if lookS m ten ref = 2 then 0 else 8) else lookE m ten ref
def entryAt (m : MkG) (i : Int) : Int := ((m.bids[i.toNat]?).map (·.entry)).getD 0
def priceV (m : MkG) (ten ref : Int) : Int := if priceE m ten ref = 0 then priceM m (entryAt m (findZ m.bids ten ref)) else 0

theorem lookE_zero {m : MkG} {ten ref : Int} (h : lookE m ten ref = 0) : m.tenB ten = true ∧ ∃ (i : Nat) (b : BidG), findZ m.bids ten ref = i ∧ m.bids[i]? = some b := by
  unfold lookE at h
  split at h
  · omega
  · rename_i hT
    split at h
    · omega
    · rename_i hf
      refine ⟨by simpa using hT, ?_⟩
      have := findZ_lt m.bids ten ref
      obtain ⟨i, hi⟩ := Int.eq_ofNat_of_zero_le (show 0 ≤ findZ m.bids ten ref by omega)
      exact ⟨i, _, hi, List.getElem?_eq_getElem (by omega)⟩

end Go.Proofs.Ytminceigjejipaa

/-
  PAY IN THE REFERENCE.
-/
namespace Go.Proofs.Ytminceigjejipaa
open Go.RowKit

def callPay (ten cents : Int) : CallG := ⟨7, ten, cents, 0, noJob, false⟩
def payE (m : MkG) (ten cents : Int) : Int := if m.tenB ten = false then 3 else if cents < 1 ∨ 1073741824 < cents then 9 else 0
def payM (m : MkG) (ten cents : Int) : MkG :=
  let m1 := m.logs (callPay ten cents)
  if payE m ten cents = 0 then { m1 with paid := m1.paid.set ten.toNat (m1.paid.getD ten.toNat 0 + cents) } else m1
/-- what has been paid is no more than the calls could pay -/
def PaidOk (m : MkG) : Prop := ∀ x ∈ m.paid, 0 ≤ x ∧ x ≤ m.log.length * 1073741824

end Go.Proofs.Ytminceigjejipaa

/-
  INVOICES AND BALANCE IN THE REFERENCE.
-/
namespace Go.Proofs.Ytminceigjejipaa
open Go.RowKit

theorem infoInvoice : (Try.prog.info? 88).map (fun i => (i.zero, i.size, i.bytes)) = some (some (.agg #[.int .i64 0, .int .i64 0, .int .i64 0]), 3, 24) := by kernel_rfl

theorem invRow_cell {w : World} {v : Value} {l : List InvG} {i : Nat} {c : InvG} (h : w.ownsRow 0 88 3 v l.length (l.flatMap invCells)) (hc : l[i]? = some c) :
    ∃ g cap, v = .slice (some ⟨g, 0, none⟩) l.length cap ∧ v.ownBlock = some g ∧ g < w.heap.size ∧ ∀ r u, (invCells c)[r]? = some u → w.cell? ⟨g, i * 3 + r, none⟩ = some u := by
  rcases h.2 with ⟨hv, h0⟩ | ⟨g, cap, cur, hv, hg, hh, r⟩
  · have := (List.getElem?_eq_some_iff.1 hc).1
    omega
  · refine ⟨g, cap, hv, by rw [hv]; rfl, (Array.getElem?_eq_some_iff.1 hh).1, fun r u hu => ?_⟩
    have hr : r < 3 := by
      have := (List.getElem?_eq_some_iff.1 hu).1
      simpa [invCells] using this
    have := h.cells (g := g) (by rw [hv]; rfl) (i * 3 + r) u (by rw [flat_get invCells 3 (fun _ => rfl) l i c r hc hr]; exact hu)
    rwa [Addr.add_lit, Nat.zero_add] at this

/-- a list of invoices that grows in a block of its own -/
structure InvSt (w : World) (l : List InvG) (lv : Value) (wr : World) : Prop where
  chg : Chg (fun _ => False) w wr
  own : wr.ownsRow 0 88 3 lv l.length (l.flatMap invCells)
  new : ∀ k, lv.ownBlock = some k → w.heap.size ≤ k
theorem InvSt.chg0 {w wr w' : World} {l : List InvG} {lv : Value} (h : InvSt w l lv wr) (hc : Chg (fun _ => False) wr w') : InvSt w l lv w' :=
  ⟨h.chg.trans hc (fun _ _ h => h), ownsRow_keep h.own (fun k hk => hc.block k (h.own.lt k hk).2 (fun h => h)), h.new⟩
theorem InvSt.nil {w wr : World} (hc : Chg (fun _ => False) w wr) : InvSt w [] (.slice none 0 0) wr := ⟨hc, World.ownsRow_nil _ _ _ _, fun k hk => by simp [Value.ownBlock] at hk⟩
theorem inv_arm {w wr wa w3 : World} {l : List InvG} {x : InvG} {ao : Option Addr} {cap cap' g H nn : Nat} (h : InvSt w l (.slice ao nn cap) wr) (hn : nn = l.length) (hc : Chg (fun _ => False) wr wa)
    (hown : w3.ownsRow 0 88 3 (.slice (some ⟨g, 0, none⟩) (nn + 1) cap') (nn + 1) (l.flatMap invCells ++ invCells x)) (hgrow : wa.grownBy w3 (Value.ownBlock (.slice ao nn cap))) (hat : Value.ownBlock (.slice ao nn cap) = some g ∨ g = H) (hH : wr.heap.size ≤ H) :
    Hid (InvSt w (l ++ [x]) (.slice (some ⟨g, 0, none⟩) (nn + 1) cap') w3) := by
  subst hn
  have hc3 : Chg (fun k => Value.ownBlock (.slice ao l.length cap) = some k) wr w3 := (hc.mono (fun _ _ h => h.elim)).grown hgrow (fun k hk => .inl hk)
  have hs := h.chg.size
  refine ⟨h.chg.trans hc3 (fun k hk e => by have := h.new k e; omega), ?_, ?_⟩
  · rw [List.length_append, List.flatMap_append]
    simp only [List.flatMap_cons, List.flatMap_nil, List.append_nil, List.length_cons, List.length_nil, Nat.zero_add]
    exact hown
  · intro k hk
    simp [Value.ownBlock] at hk
    subst hk
    rcases hat with e | e
    · exact h.new g e
    · omega

def invE (m : MkG) (ten : Int) : Int := if m.tenB ten = false then 3 else 0
def ofTen (l : List InvG) (ten : Int) : List InvG := l.filter fun c => c.ten == ten
def invL (m : MkG) (ten : Int) : List InvG := if m.tenB ten = false then [] else ofTen m.charges ten
theorem ofTen_snoc {l : List InvG} {k : Nat} {c : InvG} {ten : Int} (h : l[k]? = some c) : ofTen (l.take (k + 1)) ten = ofTen (l.take k) ten ++ if (c.ten == ten) = true then [c] else [] := by
  rw [take_snoc h, ofTen, List.filter_append]
  congr 1
  simp [List.filter_cons]

end Go.Proofs.Ytminceigjejipaa

/-
  BALANCE IN THE REFERENCE.
-/
namespace Go.Proofs.Ytminceigjejipaa
open Go.RowKit

/-- what has been charged is bounded, bid by bid -/
structure ChgOk (m : MkG) : Prop where
  len : m.charges.length ≤ 300
  cents : ∀ c ∈ m.charges, 0 ≤ c.cents ∧ c.cents ≤ 1048576
def sumC (l : List InvG) : Int := (l.map (·.cents)).sum
theorem sumC_snoc (l : List InvG) (c : InvG) : sumC (l ++ [c]) = sumC l + c.cents := by simp [sumC]
theorem sumC_le : ∀ (l : List InvG), (∀ c ∈ l, 0 ≤ c.cents ∧ c.cents ≤ 1048576) → 0 ≤ sumC l ∧ sumC l ≤ l.length * 1048576
  | [], _ => by simp [sumC]
  | c :: l, h => by
    have h1 := h c (by simp)
    have h2 := sumC_le l (fun x hx => h x (by simp [hx]))
    have : sumC (c :: l) = c.cents + sumC l := by simp [sumC]
    rw [this, List.length_cons]
    omega
def balV (m : MkG) (ten : Int) : Int := if m.tenB ten = false then 0 else m.paid.getD ten.toNat 0 - sumC (ofTen m.charges ten)

end Go.Proofs.Ytminceigjejipaa

/-
  A BILL AS PLAIN FUNCTIONS; the market in the midst of it.
-/
namespace Go.Proofs.Ytminceigjejipaa
open Go.RowKit

def callBill : CallG := ⟨6, 0, 0, 0, noJob, false⟩
def BidG.dueB (b : BidG) (time : Int) : Bool := (b.state == 2) && !b.charged && decide (b.job.dl - b.job.len < time)
def BidG.bill (b : BidG) (time : Int) : BidG := if b.dueB time = true then { b with charged := true } else b
def invOf (m : MkG) (b : BidG) : InvG := ⟨b.ten, b.ref, priceM m b.entry⟩
def dueL (m : MkG) (l : List BidG) : List InvG := (l.filter fun b => b.dueB m.time).map (invOf m)
def billL (m : MkG) : List InvG := dueL (m.logs callBill) m.bids
def billM (m : MkG) : MkG := { m.logs callBill with bids := m.bids.map fun b => b.bill m.time, charges := m.charges ++ billL m }

def billTo (l : List BidG) (k : Nat) (time : Int) : List BidG := l.mapIdx fun i b => if i < k then b.bill time else b
theorem billTo_get (l : List BidG) (k : Nat) (time : Int) : (billTo l k time)[k]? = l[k]? := by
  simp [billTo, List.getElem?_mapIdx]
theorem billTo_len (l : List BidG) (k : Nat) (time : Int) : (billTo l k time).length = l.length := by simp [billTo]
theorem billTo_zero (l : List BidG) (time : Int) : billTo l 0 time = l := by
  apply List.ext_getElem?
  intro i
  simp [billTo, List.getElem?_mapIdx]
theorem billTo_all (l : List BidG) (time : Int) : billTo l l.length time = l.map fun b => b.bill time := by
  apply List.ext_getElem?
  intro i
  rw [billTo, List.getElem?_mapIdx, List.getElem?_map]
  by_cases hi : i < l.length
  · rw [List.getElem?_eq_getElem hi]
    simp [hi]
  · rw [List.getElem?_eq_none (by omega)]
    rfl
theorem billTo_succ {l : List BidG} {k : Nat} {time : Int} {b : BidG} (hb : l[k]? = some b) : billTo l (k + 1) time = (billTo l k time).set k (b.bill time) := by
  apply List.ext_getElem?
  intro i
  rw [List.getElem?_set, billTo_len]
  have hk := (List.getElem?_eq_some_iff.1 hb).1
  by_cases e : k = i
  · subst e
    rw [if_pos rfl, if_pos hk, billTo, List.getElem?_mapIdx, hb]
    simp
  · rw [if_neg e, billTo, billTo, List.getElem?_mapIdx, List.getElem?_mapIdx]
    by_cases h : i < k
    · simp [h, show i < k + 1 by omega]
    · simp [h, show ¬ i < k + 1 by omega]
theorem billTo_same {l : List BidG} {k : Nat} {time : Int} {b : BidG} (hb : l[k]? = some b) (he : b.bill time = b) : billTo l (k + 1) time = billTo l k time := by
  rw [billTo_succ hb, he]
  apply List.ext_getElem?
  intro i
  rw [List.getElem?_set, billTo_len]
  by_cases e : k = i
  · subst e
    rw [if_pos rfl, if_pos (List.getElem?_eq_some_iff.1 hb).1, billTo_get, hb]
  · rw [if_neg e]
theorem BidOk.bill {c : CfgG} {b : BidG} (h : BidOk c b) (time : Int) : BidOk c (b.bill time) := by
  unfold BidG.bill
  split
  · exact ⟨h.t0, h.t1, h.r0, h.r1, h.job, h.a0, h.a1, h.s0, h.s1, h.st0, h.st1, h.e0, h.e1⟩
  · exact h
theorem MkOk.billTo {m : MkG} (h : MkOk m) (k : Nat) (time : Int) : MkOk { m with bids := billTo m.bids k time } := by
  refine ⟨h.ck, h.nu, h.ns, h.np, h.nl, by rw [billTo_len]; exact h.nb, h.t0, h.t1, h.un, fun b hb => ?_⟩
  obtain ⟨i, hi⟩ := List.getElem?_of_mem hb
  rw [Go.Proofs.Ytminceigjejipaa.billTo, List.getElem?_mapIdx] at hi
  cases hx : m.bids[i]? with
  | none => rw [hx] at hi; simp at hi
  | some b0 =>
    rw [hx] at hi
    simp at hi
    have h0 := h.bid b0 (List.mem_of_getElem? hx)
    split at hi
    · rw [← hi]; exact h0.bill time
    · rw [← hi]; exact h0
theorem dueL_snoc {m : MkG} {l : List BidG} {k : Nat} {b : BidG} (h : l[k]? = some b) : dueL m (l.take (k + 1)) = dueL m (l.take k) ++ if b.dueB m.time = true then [invOf m b] else [] := by
  rw [take_snoc h, dueL, List.filter_append, List.map_append]
  congr 1
  by_cases e : b.dueB m.time = true
  · simp [e]
  · simp [e]
theorem dueL_len (m : MkG) (l : List BidG) : (dueL m l).length ≤ l.length := by
  rw [dueL, List.length_map]
  exact List.length_filter_le _ _

section
variable {w1 wr w' : World} {p : Nat} {V : MV} {m : MkG} {out : List InvG} {ov : Value}
end
end Go.Proofs.Ytminceigjejipaa

/-
  BILL IN THE REFERENCE.
-/
namespace Go.Proofs.Ytminceigjejipaa
open Go.RowKit

end Go.Proofs.Ytminceigjejipaa
