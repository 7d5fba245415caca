import Derived.Test.YtminceigjejipabG8
import Derived.Test.YtminceigjejipabG7
import Derived.Test.YtminceigjejipabG3
import Derived.Test.YtminceigjejipabG6
import Derived.Test.YtminceigjejipabG4
/-
  A CALL OF THE LOG, MADE AGAIN (the reference's market, with a ghost or without).
-/
namespace Go.Proofs.Ytminceigjejipab
open Go.RowKit

section
variable (p : Nat) (V : MV) (m : MkG) (w : World)
end

end Go.Proofs.Ytminceigjejipab

/-
  A PRICE IN THE REFERENCE: all calls made once more in a market in which the bid never starts.
-/
namespace Go.Proofs.Ytminceigjejipab
open Go.RowKit

/-- the price of the bid of entry g -/
def priceM (m : MkG) (g : Int) : Int := (replayG m.c g m.log).need
theorem fold_take {m0 : MkG} {l : List CallG} {k : Nat} {c : CallG} (hc : l[k]? = some c) : (l.take (k + 1)).foldl againM m0 = againM ((l.take k).foldl againM m0) c := by
  rw [take_snoc hc, List.foldl_append]
  rfl

end Go.Proofs.Ytminceigjejipab

/-
  PRICE IN THE REFERENCE.
-/
namespace Go.Proofs.Ytminceigjejipab
open Go.RowKit

def priceE (m : MkG) (ten ref : Int) : Int := if lookE m ten ref = 0 then (if lookS m ten ref = 2 then 0 else 8) else lookE m ten ref
def entryAt (m : MkG) (i : Int) : Int := ((m.bids[i.toNat]?).map (·.entry)).getD 0
def priceV (m : MkG) (ten ref : Int) : Int := if priceE m ten ref = 0 then priceM m (entryAt m (findZ m.bids ten ref)) else 0

theorem lookE_zero {m : MkG} {ten ref : Int} (h : lookE m ten ref = 0) : m.tenB ten = true ∧ ∃ (i : Nat) (b : BidG), findZ m.bids ten ref = i ∧ m.bids[i]? = some b := by
  unfold lookE at h
  split at h
  · omega
  · rename_i hT
    split at h
    · omega
    · rename_i hf
      refine ⟨by simpa using hT, ?_⟩
      have := findZ_lt m.bids ten ref
      obtain ⟨i, hi⟩ := Int.eq_ofNat_of_zero_le (show 0 ≤ findZ m.bids ten ref by omega)
      exact ⟨i, _, hi, List.getElem?_eq_getElem (by omega)⟩

end Go.Proofs.Ytminceigjejipab

/-
  PAY IN THE REFERENCE.
-/
namespace Go.Proofs.Ytminceigjejipab
open Go.RowKit

def callPay (ten cents : Int) : CallG := ⟨7, ten, cents, 0, noJob, false⟩
def payE (m : MkG) (ten cents : Int) : Int := if m.tenB ten = false then 3 else if cents < 1 ∨ 1073741824 < cents then 9 else 0
def payM (m : MkG) (ten cents : Int) : MkG :=
  let m1 := m.logs (callPay ten cents)
  if payE m ten cents = 0 then { m1 with paid := m1.paid.set ten.toNat (m1.paid.getD ten.toNat 0 + cents) } else m1
/-- what has been paid is no more than the calls could pay -/
def PaidOk (m : MkG) : Prop := ∀ x ∈ m.paid, 0 ≤ x ∧ x ≤ m.log.length * 1073741824

end Go.Proofs.Ytminceigjejipab

/-
  INVOICES AND BALANCE IN THE REFERENCE.
-/
namespace Go.Proofs.Ytminceigjejipab
open Go.RowKit

theorem infoInvoice : (Try.prog.info? 91).map (fun i => (i.zero, i.size, i.bytes)) = some (some (.agg #[.int .i64 0, .int .i64 0, .int .i64 0]), 3, 24) := by kernel_rfl

theorem invRow_cell {w : World} {v : Value} {l : List InvG} {i : Nat} {c : InvG} (h : w.ownsRow 0 91 3 v l.length (l.flatMap invCells)) (hc : l[i]? = some c) :
    ∃ g cap, v = .slice (some ⟨g, 0, none⟩) l.length cap ∧ v.ownBlock = some g ∧ g < w.heap.size ∧ ∀ r u, (invCells c)[r]? = some u → w.cell? ⟨g, i * 3 + r, none⟩ = some u := by
  rcases h.2 with ⟨hv, h0⟩ | ⟨g, cap, cur, hv, hg, hh, r⟩
  · have := (List.getElem?_eq_some_iff.1 hc).1
    omega
  · refine ⟨g, cap, hv, by rw [hv]; rfl, (Array.getElem?_eq_some_iff.1 hh).1, fun r u hu => ?_⟩
    have hr : r < 3 := by
      have := (List.getElem?_eq_some_iff.1 hu).1
      simpa [invCells] using this
    have := h.cells (g := g) (by rw [hv]; rfl) (i * 3 + r) u (by rw [flat_get invCells 3 (fun _ => rfl) l i c r hc hr]; exact hu)
    rwa [Addr.add_lit, Nat.zero_add] at this

/-- a list of invoices that grows in a block of its own -/
structure InvSt (w : World) (l : List InvG) (lv : Value) (wr : World) : Prop where
  chg : Chg (fun _ => False) w wr
  own : wr.ownsRow 0 91 3 lv l.length (l.flatMap invCells)
  new : ∀ k, lv.ownBlock = some k → w.heap.size ≤ k
theorem InvSt.chg0 {w wr w' : World} {l : List InvG} {lv : Value} (h : InvSt w l lv wr) (hc : Chg (fun _ => False) wr w') : InvSt w l lv w' :=
  ⟨h.chg.trans hc (fun _ _ h => h), ownsRow_keep h.own (fun k hk => hc.block k (h.own.lt k hk).2 (fun h => h)), h.new⟩
theorem InvSt.nil {w wr : World} (hc : Chg (fun _ => False) w wr) : InvSt w [] (.slice none 0 0) wr := ⟨hc, World.ownsRow_nil _ _ _ _, fun k hk => by simp [Value.ownBlock] at hk⟩
theorem inv_arm {w wr wa w3 : World} {l : List InvG} {x : InvG} {ao : Option Addr} {cap cap' g H nn : Nat} (h : InvSt w l (.slice ao nn cap) wr) (hn : nn = l.length) (hc : Chg (fun _ => False) wr wa)
    (hown : w3.ownsRow 0 91 3 (.slice (some ⟨g, 0, none⟩) (nn + 1) cap') (nn + 1) (l.flatMap invCells ++ invCells x)) (hgrow : wa.grownBy w3 (Value.ownBlock (.slice ao nn cap))) (hat : Value.ownBlock (.slice ao nn cap) = some g ∨ g = H) (hH : wr.heap.size ≤ H) :
    Hid (InvSt w (l ++ [x]) (.slice (some ⟨g, 0, none⟩) (nn + 1) cap') w3) := by
  subst hn
  have hc3 : Chg (fun k => Value.ownBlock (.slice ao l.length cap) = some k) wr w3 := (hc.mono (fun _ _ h => h.elim)).grown hgrow (fun k hk => .inl hk)
  have hs := h.chg.size
  refine ⟨h.chg.trans hc3 (fun k hk e => by have := h.new k e; omega), ?_, ?_⟩
  · rw [List.length_append, List.flatMap_append]
    simp only [List.flatMap_cons, List.flatMap_nil, List.append_nil, List.length_cons, List.length_nil, Nat.zero_add]
    exact hown
  · intro k hk
    simp [Value.ownBlock] at hk
    subst hk
    rcases hat with e | e
    · exact h.new g e
    · omega

def invE (m : MkG) (ten : Int) : Int := if m.tenB ten = false then 3 else 0
def ofTen (l : List InvG) (ten : Int) : List InvG := l.filter fun c => c.ten == ten
def invL (m : MkG) (ten : Int) : List InvG := if m.tenB ten = false then [] else ofTen m.charges ten
theorem ofTen_snoc {l : List InvG} {k : Nat} {c : InvG} {ten : Int} (h : l[k]? = some c) : ofTen (l.take (k + 1)) ten = ofTen (l.take k) ten ++ if (c.ten == ten) = true then [c] else [] := by
  rw [take_snoc h, ofTen, List.filter_append]
  congr 1
  simp [List.filter_cons]

end Go.Proofs.Ytminceigjejipab

/-
  BALANCE IN THE REFERENCE.
-/
namespace Go.Proofs.Ytminceigjejipab
open Go.RowKit

/-- what has been charged is bounded, bid by bid -/
structure ChgOk (m : MkG) : Prop where
  len : m.charges.length ≤ 300
  cents : ∀ c ∈ m.charges, 0 ≤ c.cents ∧ c.cents ≤ 1048576
def sumC (l : List InvG) : Int := (l.map (·.cents)).sum
theorem sumC_snoc (l : List InvG) (c : InvG) : sumC (l ++ [c]) = sumC l + c.cents := by simp [sumC]
theorem sumC_le : ∀ (l : List InvG), (∀ c ∈ l, 0 ≤ c.cents ∧ c.cents ≤ 1048576) → 0 ≤ sumC l ∧ sumC l ≤ l.length * 1048576
  | [], _ => by simp [sumC]
  | c :: l, h => by
    have h1 := h c (by simp)
    have h2 := sumC_le l (fun x hx => h x (by simp [hx]))
    have : sumC (c :: l) = c.cents + sumC l := by simp [sumC]
    rw [this, List.length_cons]
    omega
def balV (m : MkG) (ten : Int) : Int := if m.tenB ten = false then 0 else m.paid.getD ten.toNat 0 - sumC (ofTen m.charges ten)

end Go.Proofs.Ytminceigjejipab
