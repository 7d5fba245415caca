import Derived.Test.YtminceigjejipaaG10
import Derived.Test.YtminceigjejipaaG4
import Derived.Test.YtminceigjejipaaG5
import Derived.Test.YtminceigjejipaaG2
import Derived.Test.YtminceigjejipaaG3
import Derived.Test.YtminceigjejipaaG8
/-
  THE PROGRAM's LOG AND ACCOUNTS, the pure part: an entry of its log; what is charged, by name. Nothing of the program.
-/
namespace Go.Proofs.Ytminceigjejipaa
open Go.RowKit

structure YCG where
  kind : Int
  ten : Int
  ref : Int
  job : JobG
  fr : Int
  to : Int
  un : Int
  on : Bool
def ycgCells (x : YCG) : List Value := [.int .i64 x.kind, .int .i64 x.ten, .int .i64 x.ref, .int .i64 x.job.arr, .int .i64 x.job.dl, .int .i64 x.job.len, .int .i64 x.job.units, .int .i64 x.job.val, .int .i64 x.fr, .int .i64 x.to, .int .i64 x.un, .bool x.on]
def ycgV (x : YCG) : Value := .agg #[.int .i64 x.kind, .int .i64 x.ten, .int .i64 x.ref, .int .i64 x.job.arr, .int .i64 x.job.dl, .int .i64 x.job.len, .int .i64 x.job.units, .int .i64 x.job.val, .int .i64 x.fr, .int .i64 x.to, .int .i64 x.un, .bool x.on]
/-- an entry, as the program keeps it -/
def ycallOf (c : CallG) : YCG :=
  if c.kind = 1 then ⟨1, c.a, c.b, c.job, 0, 0, 0, false⟩
  else if c.kind = 2 then ⟨2, c.a, c.b, noJob, 0, 0, 0, false⟩
  else if c.kind = 3 then ⟨3, 0, 0, noJob, c.a, c.b, c.c, false⟩
  else if c.kind = 4 then ⟨4, c.a, 0, noJob, 0, 0, 0, c.on⟩
  else if c.kind = 5 then ⟨5, 0, 0, noJob, 0, 0, 0, false⟩
  else ⟨0, 0, 0, noJob, 0, 0, 0, false⟩
def ycallCells (c : CallG) : List Value := ycgCells (ycallOf c)
theorem ycallCells_len (c : CallG) : (ycallCells c).length = 12 := rfl
theorem ycall_withV {c : CallG} (h : c.kind = 1) (v : Int) : ycallOf (withV c v) = { ycallOf c with job := { (ycallOf c).job with val := v } } := by
  simp [ycallOf, withV, h]

/-- a bid is charged just if an invoice has its name -/
structure ChdOk (m : MkG) : Prop where
  uniq : ∀ (i k : Nat) (b b' : BidG), m.bids[i]? = some b → m.bids[k]? = some b' → b.ten = b'.ten → b.ref = b'.ref → i = k
  to : ∀ (k : Nat) (b : BidG), m.bids[k]? = some b → b.charged = true → ∃ c ∈ m.charges, c.ten = b.ten ∧ c.ref = b.ref
  fro : ∀ c ∈ m.charges, ∃ (k : Nat) (b : BidG), m.bids[k]? = some b ∧ b.charged = true ∧ c.ten = b.ten ∧ c.ref = b.ref

theorem key_back {l l' : List BidG} (hk : ∀ k : Nat, (l'[k]?).map keyB = (l[k]?).map keyB) {k : Nat} {b' : BidG} (hb : l'[k]? = some b') : ∃ b, l[k]? = some b ∧ keyB b' = keyB b := by
  have := hk k
  rw [hb] at this
  cases h : l[k]? with
  | none => rw [h] at this; cases this
  | some b => rw [h] at this; exact ⟨b, rfl, Option.some.inj this⟩
theorem keyB_ten {b b' : BidG} (h : keyB b' = keyB b) : b'.ten = b.ten := congrArg (·.1) h
theorem keyB_ref {b b' : BidG} (h : keyB b' = keyB b) : b'.ref = b.ref := congrArg (·.2.1) h
theorem keyB_entry {b b' : BidG} (h : keyB b' = keyB b) : b'.entry = b.entry := congrArg (·.2.2.2.2.1) h
theorem keyB_charged {b b' : BidG} (h : keyB b' = keyB b) : b'.charged = b.charged := congrArg (·.2.2.2.2.2) h

theorem ChdOk.of_key {m m' : MkG} (h : ChdOk m) (hk : ∀ k : Nat, (m'.bids[k]?).map keyB = (m.bids[k]?).map keyB) (hc : m'.charges = m.charges) : ChdOk m' := by
  refine ⟨fun i k b b' hb hb' h1 h2 => ?_, fun k b hb hch => ?_, fun c hcm => ?_⟩
  · obtain ⟨b0, hb0, e0⟩ := key_back hk hb
    obtain ⟨b1, hb1, e1⟩ := key_back hk hb'
    exact h.uniq i k b0 b1 hb0 hb1 (by rw [← keyB_ten e0, ← keyB_ten e1]; exact h1) (by rw [← keyB_ref e0, ← keyB_ref e1]; exact h2)
  · obtain ⟨b0, hb0, e0⟩ := key_back hk hb
    obtain ⟨c, h1, h2, h3⟩ := h.to k b0 hb0 (by rw [← keyB_charged e0]; exact hch)
    exact ⟨c, by rw [hc]; exact h1, by rw [keyB_ten e0]; exact h2, by rw [keyB_ref e0]; exact h3⟩
  · rw [hc] at hcm
    obtain ⟨k, b0, h1, h2, h3, h4⟩ := h.fro c hcm
    obtain ⟨b1, hb1, e1⟩ := key_back (fun k => (hk k).symm) h1
    exact ⟨k, b1, hb1, by rw [← keyB_charged e1]; exact h2, by rw [← keyB_ten e1]; exact h3, by rw [← keyB_ref e1]; exact h4⟩
theorem ChdOk.open (c : CfgG) : ChdOk (openM c) := ⟨fun i k b b' hb => by simp [openM] at hb, fun k b hb => by simp [openM] at hb, fun c hc => by simp [openM] at hc⟩
theorem ChdOk.logs {m : MkG} (h : ChdOk m) (c : CallG) : ChdOk (m.logs c) := ⟨h.uniq, h.to, h.fro⟩

theorem yfindZ_none {l : List BidG} {ten ref : Int} (h : findZ l ten ref < 0) : ∀ b ∈ l, ¬ (b.ten = ten ∧ b.ref = ref) := by
  intro b hb ⟨h1, h2⟩
  unfold findZ findL at h
  cases hf : l.findIdx? fun b => b.is ten ref with
  | none =>
    have := List.findIdx?_eq_none_iff.1 hf b hb
    simp [BidG.is, h1, h2] at this
  | some i => rw [hf] at h; simp at h; omega

theorem ChdOk.submit {m : MkG} (h : ChdOk m) (ten ref : Int) (j : JobG) : ChdOk (submitM m ten ref j) := by
  unfold submitM
  simp only
  split
  · rename_i he
    have hR : refB m ten ref = false := by
      cases hT : m.tenB ten
      · simp [submitE, hT] at he
      cases hS : suspAt m ten
      · cases hR : refB m ten ref
        · rfl
        · simp [submitE, hT, hS, hR] at he
      · simp [submitE, hT, hS] at he
    have hno := yfindZ_none (l := m.bids) (ten := ten) (ref := ref) (by simp [refB] at hR; omega)
    have hget : ∀ (k : Nat) (b : BidG), (m.bids ++ [newBid m ten ref j])[k]? = some b → (m.bids[k]? = some b ∧ k < m.bids.length) ∨ (k = m.bids.length ∧ b = newBid m ten ref j) := by
      intro k b hb
      rcases Nat.lt_or_ge k m.bids.length with hk | hk
      · rw [List.getElem?_append_left hk] at hb
        exact .inl ⟨hb, hk⟩
      · rw [List.getElem?_append_right hk] at hb
        have hk0 : k - m.bids.length = 0 := by
          have := (List.getElem?_eq_some_iff.1 hb).1
          simp at this
          omega
        rw [hk0] at hb
        exact .inr ⟨by omega, (Option.some.inj hb).symm⟩
    refine ⟨fun i k b b' hb hb' h1 h2 => ?_, fun k b hb hch => ?_, fun c hc => ?_⟩
    · rcases hget i b hb with ⟨g1, _⟩ | ⟨e1, f1⟩ <;> rcases hget k b' hb' with ⟨g2, _⟩ | ⟨e2, f2⟩
      · exact h.uniq i k b b' g1 g2 h1 h2
      · subst f2
        exact absurd ⟨h1, h2⟩ (hno b (List.mem_of_getElem? g1))
      · subst f1
        exact absurd ⟨h1.symm, h2.symm⟩ (hno b' (List.mem_of_getElem? g2))
      · omega
    · rcases hget k b hb with ⟨g1, _⟩ | ⟨_, f1⟩
      · exact h.to k b g1 hch
      · subst f1
        simp [newBid] at hch
    · obtain ⟨k, b, h1, h2, h3, h4⟩ := h.fro c hc
      exact ⟨k, b, by show (m.bids ++ [newBid m ten ref j])[k]? = some b; rw [List.getElem?_append_left (List.getElem?_eq_some_iff.1 h1).1]; exact h1, h2, h3, h4⟩
  · exact h.logs _
theorem ChdOk.cancel {m : MkG} (h : ChdOk m) (ten ref : Int) : ChdOk (cancelM m ten ref) :=
  h.of_key (key_cancel m ten ref) (by unfold cancelM; simp only; split <;> rfl)
theorem ChdOk.suspend {m : MkG} (h : ChdOk m) (ten : Int) (on : Bool) : ChdOk (suspendM m ten on) :=
  h.of_key (fun k => by unfold suspendM; simp only; split <;> rfl) (by unfold suspendM; simp only; split <;> rfl)
theorem ChdOk.cap {m m' : MkG} {f t u z : Int} (h : ChdOk m) (hr : CapRes m f t u z m') : ChdOk m' := by
  rcases hr with ⟨_, _, rfl⟩ | ⟨_, _, _, rfl⟩ | ⟨_, _, _, rfl⟩ <;> exact ⟨h.uniq, h.to, h.fro⟩
theorem tickF_charges {m : MkG} (hok : MkOk m) (hg : m.ghost = -1) (hl : m.log.length < 300) : (tickF m).charges = m.charges ∧ (tickF m).paid = m.paid := by
  unfold tickF
  split
  · exact ⟨rfl, rfl⟩
  · have g1 : ghostI (m.logs callTick) m.time = none := ghostI_none (hok.logs hl callTick) hg m.time
    unfold tickM
    simp only [g1, wantEnd]
    have := AlikeM.fold m.time none (orderL m m.time) (m.logs callTick, [])
    exact ⟨this.charges, this.paid⟩
theorem ChdOk.tick {m : MkG} (h : ChdOk m) (hok : MkOk m) (hg : m.ghost = -1) (hl : m.log.length < 300) : ChdOk (tickF m) :=
  h.of_key (key_tick m) (tickF_charges hok hg hl).1
theorem ChdOk.pay {m : MkG} (h : ChdOk m) (ten cents : Int) : ChdOk (payM m ten cents) :=
  h.of_key (fun k => by unfold payM; simp only; split <;> rfl) (by unfold payM; simp only; split <;> rfl)

theorem bill_ten (b : BidG) (t : Int) : (b.bill t).ten = b.ten ∧ (b.bill t).ref = b.ref ∧ (b.bill t).entry = b.entry ∧ (b.charged = true → (b.bill t).charged = true) ∧ (b.dueB t = true → (b.bill t).charged = true) ∧ ((b.bill t).charged = true → b.charged = true ∨ b.dueB t = true) := by
  unfold BidG.bill
  split
  · rename_i hd
    exact ⟨rfl, rfl, rfl, fun _ => rfl, fun _ => rfl, fun _ => .inr hd⟩
  · rename_i hd
    exact ⟨rfl, rfl, rfl, fun h => h, fun h => absurd h hd, fun h => .inl h⟩
theorem ChdOk.bill {m : MkG} (h : ChdOk m) : ChdOk (billM m) := by
  have hget : ∀ (k : Nat) (b : BidG), (m.bids.map fun b => b.bill m.time)[k]? = some b → ∃ b0, m.bids[k]? = some b0 ∧ b = b0.bill m.time := by
    intro k b hb
    rw [List.getElem?_map] at hb
    cases h0 : m.bids[k]? with
    | none => rw [h0] at hb; cases hb
    | some b0 => rw [h0] at hb; exact ⟨b0, rfl, (Option.some.inj hb).symm⟩
  have hput : ∀ (k : Nat) (b : BidG), m.bids[k]? = some b → (billM m).bids[k]? = some (b.bill m.time) := by
    intro k b hb
    show (m.bids.map fun b => b.bill m.time)[k]? = _
    rw [List.getElem?_map, hb]
    rfl
  refine ⟨fun i k b b' hb hb' h1 h2 => ?_, fun k b hb hch => ?_, fun c hc => ?_⟩
  · obtain ⟨b0, g0, rfl⟩ := hget i b hb
    obtain ⟨b1, g1, rfl⟩ := hget k b' hb'
    exact h.uniq i k b0 b1 g0 g1 (by rw [← (bill_ten b0 m.time).1, ← (bill_ten b1 m.time).1]; exact h1) (by rw [← (bill_ten b0 m.time).2.1, ← (bill_ten b1 m.time).2.1]; exact h2)
  · obtain ⟨b0, g0, rfl⟩ := hget k b hb
    obtain ⟨e1, e2, _, _, _, e6⟩ := bill_ten b0 m.time
    rw [e1, e2]
    rcases e6 hch with e | e
    · obtain ⟨c, c1, c2⟩ := h.to k b0 g0 e
      exact ⟨c, List.mem_append_left _ c1, c2⟩
    · refine ⟨invOf (m.logs callBill) b0, List.mem_append_right _ ?_, rfl, rfl⟩
      exact List.mem_map.2 ⟨b0, List.mem_filter.2 ⟨List.mem_of_getElem? g0, e⟩, rfl⟩
  · rcases List.mem_append.1 hc with hc | hc
    · obtain ⟨k, b, h1, h2, h3, h4⟩ := h.fro c hc
      obtain ⟨e1, e2, _, e4, _, _⟩ := bill_ten b m.time
      exact ⟨k, b.bill m.time, hput k b h1, e4 h2, by rw [e1]; exact h3, by rw [e2]; exact h4⟩
    · obtain ⟨b, hb, rfl⟩ := List.mem_map.1 hc
      obtain ⟨hb1, hb2⟩ := List.mem_filter.1 hb
      obtain ⟨k, hk⟩ := List.getElem?_of_mem hb1
      obtain ⟨e1, e2, _, _, e5, _⟩ := bill_ten b m.time
      exact ⟨k, b.bill m.time, hput k b hk, e5 hb2, by rw [e1]; rfl, by rw [e2]; rfl⟩

/-- an invoice of that name -/
def hasInv (l : List InvG) (ten ref : Int) : Bool := l.any fun c => (c.ten == ten) && (c.ref == ref)
/-- as the bids before it have been charged, a bid is charged just if it was -/
theorem ChdOk.any {m : MkG} (h : ChdOk m) {k : Nat} {b : BidG} (hb : m.bids[k]? = some b) (m1 : MkG) : hasInv (m.charges ++ dueL m1 (m.bids.take k)) b.ten b.ref = b.charged := by
  rw [Bool.eq_iff_iff]
  simp only [hasInv, List.any_eq_true, Bool.and_eq_true, beq_iff_eq]
  constructor
  · rintro ⟨c, hc, h1, h2⟩
    rcases List.mem_append.1 hc with hc | hc
    · obtain ⟨k', b', g1, g2, g3, g4⟩ := h.fro c hc
      have := h.uniq k' k b' b g1 hb (by rw [← g3]; exact h1) (by rw [← g4]; exact h2)
      subst this
      rw [hb] at g1
      rw [Option.some.inj g1]
      exact g2
    · obtain ⟨b', hb', rfl⟩ := List.mem_map.1 hc
      obtain ⟨hb1, _⟩ := List.mem_filter.1 hb'
      obtain ⟨i, hi⟩ := List.getElem?_of_mem hb1
      have hik : i < k := by
        have := (List.getElem?_eq_some_iff.1 hi).1
        rw [List.length_take] at this
        omega
      rw [List.getElem?_take_of_lt hik] at hi
      have := h.uniq i k b' b hi hb h1 h2
      omega
  · intro hch
    obtain ⟨c, c1, c2, c3⟩ := h.to k b hb hch
    exact ⟨c, List.mem_append_left _ c1, c2, c3⟩
end Go.Proofs.Ytminceigjejipaa

namespace Go.Proofs.Ytminceigjejipaa
open Go.RowKit

theorem ownsRow_set {w : World} {e : TypeId} {v : Value} {n i g : Nat} {xs : List Value} (h : w.ownsRow 0 e 1 v n xs) (hi : i < n) (hg : v.ownBlock = some g) (u : Value) : (w.setCell ⟨g, i, none⟩ u).ownsRow 0 e 1 v n (xs.set i u) := by
  rcases h.2 with ⟨hv, h0⟩ | ⟨g', cap, cur, hv, hb0, hh, hc, hmx, hsz, htake⟩
  · omega
  · have hgg : g' = g := by rw [hv] at hg; simpa [Value.ownBlock] using hg
    subst hgg
    refine ⟨by simp [h.1], .inr ⟨g', cap, cur.setIfInBounds i u, hv, hb0, box_set hh _, hc, hmx, by simpa using hsz, ?_⟩⟩
    rw [Array.toList_setIfInBounds, List.take_set, htake]

def fillL (n k : Nat) (cap : Int) : List Value := (List.range n).map fun j => .int .i64 (if j < k then cap else 0)
theorem fillL_start (n : Nat) (cap : Int) : fillL n 0 cap = List.replicate n (.int .i64 0) := by
  apply List.ext_getElem?
  intro i
  by_cases hi : i < n
  · simp [fillL, hi]
  · simp [fillL, hi]
theorem fillL_step (n k : Nat) (cap : Int) (hk : k < n) : (fillL n k cap).set k (.int .i64 cap) = fillL n (k + 1) cap := by
  apply List.ext_getElem?
  intro i
  rw [List.getElem?_set]
  by_cases hi : i < n
  · by_cases e : k = i
    · subst e
      simp [fillL, hi]
    · simp only [if_neg e, fillL, List.getElem?_map, List.getElem?_range hi, Option.map_some]
      simp [show (i < k ↔ i < k + 1) by omega]
  · by_cases e : k = i
    · omega
    · simp [fillL, hi, e]
theorem fillL_end (n : Nat) (cap : Int) : fillL n n cap = (List.replicate n cap).map (Value.int .i64) := by
  apply List.ext_getElem?
  intro i
  by_cases hi : i < n
  · simp [fillL, hi]
  · simp [fillL, hi]

/-- the parts of a fresh market, as they lie -/
theorem ymOpen {W : World} {nk nt q r g U S : Nat} {cap res quo : Int} (h8 : nt ≤ 8) (_ : 1 ≤ nk) (hU : U ≠ g) (hbox : W.heap[q]? = some (.cells #[.int .i64 (nk : Int), .int .i64 cap, .int .i64 res, .int .i64 (nt : Int), .int .i64 quo, .int .i64 0, .slice none 0 0, .slice (some ⟨S, 0, none⟩) nt nt, .slice (some ⟨U, 0, none⟩) nk nk, .pointer (some ⟨r, 0, none⟩)] 107 (0, 0)))
    (hu : W.ownsRow 0 3 1 (.slice (some ⟨U, 0, none⟩) nk nk) nk (fillL nk nk cap)) (hs : W.heap[S]? = some (.cells (madeCells #[.bool false] nt) 4 (0, 0))) (hc : RowAt 98 W r g nk nk (fun _ => cap)) :
    YmAt W ⟨q, r, g, nk, .slice (some ⟨U, 0, none⟩) nk nk, .slice none 0 0, .slice (some ⟨S, 0, none⟩) nt nt⟩ (openM ⟨nk, cap, res, nt, quo⟩) := by
  refine ⟨hbox, World.ownsRow_nil _ _ _ _, ?_, ?_, ?_, ?_⟩
  · show W.ownsRow 0 _ 1 _ (List.replicate (Int.toNat (nt : Int)) false).length ((List.replicate (Int.toNat (nt : Int)) false).map Value.bool)
    rw [Int.toNat_natCast, List.length_replicate, List.map_replicate]
    exact ⟨by simp, .inr ⟨S, nt, _, rfl, Nat.zero_le _, hs, Nat.le_refl _, by unfold maxLen; omega, by rw [size_madeCells]; omega, by rw [made_list]; simp⟩⟩
  · show W.ownsRow 0 _ 1 _ (List.replicate (Int.toNat (nk : Int)) cap).length ((List.replicate (Int.toNat (nk : Int)) cap).map (Value.int .i64))
    rw [Int.toNat_natCast, List.length_replicate, ← fillL_end]
    exact hu
  · show RowAt _ W r g (List.replicate (Int.toNat (nk : Int)) cap).length nk _
    rw [Int.toNat_natCast, List.length_replicate]
    refine hc.congr (fun j hj => ?_)
    simp [freeZ, openM, usedL, List.getD, hj]
  · simp [Value.ownBlock, hU]

set_option maxRecDepth 100000 in
set_option maxHeartbeats 4000000 in
theorem newMarket_any (c : CfgG) (w : World) (hc : cfgOk c = true) :
    Calls Try.prog 65 #[.agg #[.int .i64 c.ticks, .int .i64 c.cap, .int .i64 c.res, .int .i64 c.ten, .int .i64 c.quo]] w fun e w' => ∃ V, e = .returned (.pointer (some ⟨V.q, 0, none⟩)) ∧ YmAt w' V (openM c) ∧ Chg (fun _ => False) w w' ∧ ∀ k, V.foot k → w.heap.size ≤ k := by
  obtain ⟨⟨a1, a2⟩, ⟨a3, a4⟩, ⟨a5, a6⟩, ⟨a7, a8⟩, a9, a10⟩ := cfgOk_true hc
  obtain ⟨tk, cap, res, ten, quo⟩ := c
  simp only at *
  obtain ⟨nt, rfl⟩ := Int.eq_ofNat_of_zero_le (show 0 ≤ ten by omega)
  obtain ⟨nk, rfl⟩ := Int.eq_ofNat_of_zero_le (show 0 ≤ tk by omega)
  have hmk1 := run_make_row' (P := Try.prog) 64 4 (.bool false) 1 Try.underlying64 infoBool rfl .i64 .i64 nt (by omega) (by omega)
  have hmk2 := run_make_row' (P := Try.prog) 27 3 (.int .i64 0) 8 Try.underlying27 infoInt' rfl .i64 .i64 nk (by omega) (by omega)
  have HST := hide (show standB cap = true by simp [standB, inB]; omega)
  clear hc
  go_enter Try.func65, Try.ntmps65
  go_wp2_with fail
  obtain ⟨w1, hw1⟩ : ∃ w1, w1 = w.alloc (.cells #[.int .i64 (nk : Int), .int .i64 cap, .int .i64 res, .int .i64 (nt : Int), .int .i64 quo] 38) := ⟨_, rfl⟩
  rw [← hw1]
  have hb1 : w1.heap[w.heap.size]? = some (.cells #[.int .i64 (nk : Int), .int .i64 cap, .int .i64 res, .int .i64 (nt : Int), .int .i64 quo] 38 (0, 0)) := by rw [hw1]; exact heap_alloc_new w _
  have hc1 : Chg (fun _ => False) w w1 := by rw [hw1]; exact (Chg.refl _ _).alloc _
  have hs1 : w1.heap.size = w.heap.size + 1 := by rw [hw1]; simp
  clear hw1
  refine (calNew_ok nk cap _ (by omega) (by omega) HST.out).mono ?_
  rintro e w2 ⟨r, rfl, hr, hrow, hq⟩
  have hb2 : w2.heap[w.heap.size]? = some (.cells #[.int .i64 (nk : Int), .int .i64 cap, .int .i64 res, .int .i64 (nt : Int), .int .i64 quo] 38 (0, 0)) := (hq.block _ (by omega) (fun h => h)).trans hb1
  have hs2 := hq.size
  have hl2 := hrow.ltp
  have hg2 := hrow.ltg
  have HC2 := hide (hc1.trans hq (fun _ _ h => h))
  have HROW := hide hrow
  have HB2 := hide hb2
  have q0 : w2.cell? ⟨w.heap.size, 0, none⟩ = some (.int .i64 (nk : Int)) := by unfold World.cell?; rw [hb2]; rfl
  clear hb1 hc1 hq hrow hb2
  go_wp2_with fail
  clear hmk2
  go_loopw [21] (fun i wr => ∃ k : Nat, k ≤ nk ∧ i = .int .i64 k ∧ wr.ownsRow 0 3 1 (.slice (some ⟨w2.heap.size, 0, none⟩) nk nk) nk (fillL nk k cap) ∧ Chg (fun _ => False) w2 wr) (fun i _ => nk - (intOf i).toNat)
  case atStart =>
    refine ⟨0, by omega, rfl, ?_, (Chg.refl _ _).alloc _⟩
    rw [fillL_start]
    exact ⟨by simp, .inr ⟨w2.heap.size, nk, _, rfl, Nat.zero_le _, heap_alloc_new w2 _, Nat.le_refl _, by unfold maxLen; omega, by rw [size_madeCells]; omega, by rw [made_list]; simp⟩⟩
  case round =>
    obtain ⟨k, hk, rfl, hown, hchg⟩ := hrel
    have HOWN := hide hown
    have HCH := hide hchg
    have hbr : wr.heap[w.heap.size]? = some (.cells #[.int .i64 (nk : Int), .int .i64 cap, .int .i64 res, .int .i64 (nt : Int), .int .i64 quo] 38 (0, 0)) := (hchg.block _ (by omega) (fun h => h)).trans HB2.out
    have q1 : wr.cell? ⟨w.heap.size, 1, none⟩ = some (.int .i64 cap) := by unfold World.cell?; rw [hbr]; rfl
    have q0 : wr.cell? ⟨w.heap.size, 0, none⟩ = some (.int .i64 (nk : Int)) := by unfold World.cell?; rw [hbr]; rfl
    have q2 : wr.cell? ⟨w.heap.size, 2, none⟩ = some (.int .i64 res) := by unfold World.cell?; rw [hbr]; rfl
    have q3 : wr.cell? ⟨w.heap.size, 3, none⟩ = some (.int .i64 (nt : Int)) := by unfold World.cell?; rw [hbr]; rfl
    have q4 : wr.cell? ⟨w.heap.size, 4, none⟩ = some (.int .i64 quo) := by unfold World.cell?; rw [hbr]; rfl
    have hsr := hchg.size
    have hlr : w2.heap.size < wr.heap.size := (hown.lt w2.heap.size rfl).2
    by_cases hlt : k < nk
    · obtain ⟨cu, hcu⟩ := ownsRow_block hown (k := w2.heap.size) rfl
      have fz : wr.frozen? ⟨w2.heap.size, k, none⟩ = false := by unfold World.frozen?; rw [hcu]; simp
      have hcell := hown.cells (g := w2.heap.size) rfl k (.int .i64 0) (by simp [fillL, hlt])
      rw [Addr.add_lit, Nat.zero_add] at hcell
      clear hown hchg hbr hcu
      go_wp2
      go_roundw
      case rel => exact ⟨k + 1, by omega, by go_num, by rw [← fillL_step nk k cap hlt]; exact ownsRow_set HOWN.out hlt rfl _, HCH.out.setCell (.inr (Nat.le_refl _)) _⟩
      case measure => simp [intOf]; omega
    · have q0' : ∀ o, (wr.alloc o).cell? ⟨w.heap.size, 0, none⟩ = some (.int .i64 (nk : Int)) := fun o => by rw [World.cell?_alloc_lt _ _ _ (by show w.heap.size < wr.heap.size; omega)]; exact q0
      have q1' : ∀ o, (wr.alloc o).cell? ⟨w.heap.size, 1, none⟩ = some (.int .i64 cap) := fun o => by rw [World.cell?_alloc_lt _ _ _ (by show w.heap.size < wr.heap.size; omega)]; exact q1
      have q2' : ∀ o, (wr.alloc o).cell? ⟨w.heap.size, 2, none⟩ = some (.int .i64 res) := fun o => by rw [World.cell?_alloc_lt _ _ _ (by show w.heap.size < wr.heap.size; omega)]; exact q2
      have q3' : ∀ o, (wr.alloc o).cell? ⟨w.heap.size, 3, none⟩ = some (.int .i64 (nt : Int)) := fun o => by rw [World.cell?_alloc_lt _ _ _ (by show w.heap.size < wr.heap.size; omega)]; exact q3
      have q4' : ∀ o, (wr.alloc o).cell? ⟨w.heap.size, 4, none⟩ = some (.int .i64 quo) := fun o => by rw [World.cell?_alloc_lt _ _ _ (by show w.heap.size < wr.heap.size; omega)]; exact q4
      have hkn : k = nk := by omega
      have HK := hide hkn
      clear hown hchg hbr hkn
      go_wp2
      go_ret
      refine ⟨⟨wr.heap.size + 1, r, w1.heap.size, nk, .slice (some ⟨w2.heap.size, 0, none⟩) nk nk, .slice none 0 0, .slice (some ⟨wr.heap.size, 0, none⟩) nt nt⟩, rfl, ?_, ?_, ?_⟩
      · refine ymOpen (by omega) (by omega) (by omega) (heap_at_new (by simp)) ?_ ?_ ?_
        · have := HOWN.out
          rw [HK.out] at this
          exact (this.alloc _).alloc _
        · rw [Below.heap_alloc _ _ _ (by simp)]; exact heap_alloc_new wr _
        · exact HROW.out.frame (by rw [Below.heap_alloc _ _ _ (by simp; omega), Below.heap_alloc _ _ _ (by omega)]; exact HCH.out.block _ hl2 (fun h => h)) (by rw [Below.heap_alloc _ _ _ (by simp; omega), Below.heap_alloc _ _ _ (by omega)]; exact HCH.out.block _ hg2 (fun h => h))
      · exact ((HC2.out.trans HCH.out (fun _ _ h => h)).alloc _).alloc _
      · intro x hx
        rcases hx with h | h | h | h | h | h
        · simp only at h; omega
        · simp only at h; omega
        · simp only at h; omega
        · simp [Value.ownBlock] at h; omega
        · simp [Value.ownBlock] at h
        · simp [Value.ownBlock] at h; omega
end Go.Proofs.Ytminceigjejipaa

/-
  THE PROGRAM's YARD IN MEMORY (stage 4's landed code): the market, its log and its accounts.
-/
namespace Go.Proofs.Ytminceigjejipaa
open Go.RowKit

/-- the log, the bids' entries, the invoices, what is paid -/
structure LV where
  cv : Value
  nv : Value
  iv : Value
  pv : Value
def LV.foot (L : LV) (p k : Nat) : Prop := k = p ∨ L.cv.ownBlock = some k ∨ L.nv.ownBlock = some k ∨ L.iv.ownBlock = some k ∨ L.pv.ownBlock = some k
def ybBox (q : Nat) (L : LV) : Array Value := #[.pointer (some ⟨q, 0, none⟩), L.cv, L.nv, L.iv, L.pv]
structure YbAt (w : World) (p q : Nat) (L : LV) (lg : List CallG) (es : List Int) (ch : List InvG) (pd : List Int) : Prop where
  box : w.heap[p]? = some (.cells (ybBox q L) 111 (0, 0))
  calls : w.ownsRow 0 132 12 L.cv lg.length (lg.flatMap ycallCells)
  subs : w.ownsRow 0 3 1 L.nv es.length (es.map (Value.int .i64))
  invs : w.ownsRow 0 88 3 L.iv ch.length (ch.flatMap invCells)
  paid : w.ownsRow 0 3 1 L.pv pd.length (pd.map (Value.int .i64))
  ne : ∀ k, L.nv.ownBlock = some k → L.pv.ownBlock ≠ some k

section
variable {w : World} {p q : Nat} {L : LV} {lg : List CallG} {es : List Int} {ch : List InvG} {pd : List Int}
theorem YbAt.lt (h : YbAt w p q L lg es ch pd) : p < w.heap.size := (Array.getElem?_eq_some_iff.1 h.box).1
theorem YbAt.foot_lt (h : YbAt w p q L lg es ch pd) (k : Nat) (hk : L.foot p k) : k < w.heap.size := by
  rcases hk with rfl | hk | hk | hk | hk
  · exact h.lt
  · exact (h.calls.lt k hk).2
  · exact (h.subs.lt k hk).2
  · exact (h.invs.lt k hk).2
  · exact (h.paid.lt k hk).2
theorem YbAt.frame {w' : World} (h : YbAt w p q L lg es ch pd) (hf : ∀ k, L.foot p k → w'.heap[k]? = w.heap[k]?) : YbAt w' p q L lg es ch pd :=
  ⟨(hf _ (.inl rfl)).trans h.box, ownsRow_keep h.calls (fun k hk => hf k (.inr (.inl hk))), ownsRow_keep h.subs (fun k hk => hf k (.inr (.inr (.inl hk)))), ownsRow_keep h.invs (fun k hk => hf k (.inr (.inr (.inr (.inl hk))))), ownsRow_keep h.paid (fun k hk => hf k (.inr (.inr (.inr (.inr hk))))), h.ne⟩
theorem YbAt.chg {O : Nat → Prop} {w' : World} (h : YbAt w p q L lg es ch pd) (hc : Chg O w w') (hO : ∀ k, L.foot p k → ¬ O k) : YbAt w' p q L lg es ch pd := h.frame (fun k hk => hc.block k (h.foot_lt k hk) (hO k hk))
theorem YbAt.chg0 {w' : World} (h : YbAt w p q L lg es ch pd) (hc : Chg (fun _ => False) w w') : YbAt w' p q L lg es ch pd := h.chg hc (fun _ _ h => h)
theorem YbAt.cell (h : YbAt w p q L lg es ch pd) (f : Nat) : w.cell? ⟨p, f, none⟩ = (ybBox q L)[f]? := by
  unfold World.cell?
  rw [h.box]
  rfl
theorem YbAt.free (h : YbAt w p q L lg es ch pd) (f : Nat) : w.frozen? ⟨p, f, none⟩ = false := by
  unfold World.frozen?
  rw [h.box]
  simp
end

/-- a yard's own part that has become another -/
def YbTo (w : World) (p q : Nat) (L : LV) (lg : List CallG) (es : List Int) (ch : List InvG) (pd : List Int) (w' : World) : Prop :=
  ∃ L', YbAt w' p q L' lg es ch pd ∧ Chg (L.foot p) w w' ∧ ∀ k, L'.foot p k → L.foot p k ∨ w.heap.size ≤ k

section
variable {w w1 w2 : World} {p q : Nat} {L : LV} {lg : List CallG} {es : List Int} {ch : List InvG} {pd : List Int} {g cap : Nat}
theorem YbTo.chg0 (h : YbTo w p q L lg es ch pd w1) (hc : Chg (fun _ => False) w1 w2) : YbTo w p q L lg es ch pd w2 := by
  obtain ⟨L', h1, h2, h3⟩ := h
  exact ⟨L', h1.chg0 hc, h2.trans hc (fun _ _ h => h.elim), h3⟩
theorem YbTo.start (hc : Chg (fun _ => False) w w1) (h : YbTo w1 p q L lg es ch pd w2) : YbTo w p q L lg es ch pd w2 := by
  obtain ⟨L', h1, h2, h3⟩ := h
  exact ⟨L', h1, (hc.mono (fun _ _ h => h.elim)).trans h2 (fun _ _ h => h), fun k hk => by
    rcases h3 k hk with h | h
    · exact .inl h
    · exact .inr (Nat.le_trans hc.size h)⟩

/-- an entry of the log more -/
theorem YbAt.callMore {c : CallG} (h : YbAt w p q L lg es ch pd) (hc1 : Chg (fun _ => False) w w1)
    (hown : w2.ownsRow 0 132 12 (.slice (some ⟨g, 0, none⟩) (lg.length + 1) cap) (lg.length + 1) (lg.flatMap ycallCells ++ ycallCells c)) (hgrow : w1.grownBy w2 L.cv.ownBlock) (hat : L.cv.ownBlock = some g ∨ w.heap.size ≤ g) :
    w2.cell? ⟨p, 1, none⟩ = some L.cv ∧ w2.frozen? ⟨p, 1, none⟩ = false ∧ YbTo w p q L (lg ++ [c]) es ch pd (w2.setCell ⟨p, 1, none⟩ (.slice (some ⟨g, 0, none⟩) (lg.length + 1) cap)) := by
  have h1 := h.chg0 hc1
  have nl : L.cv.ownBlock ≠ some p := ownsRow_box h1.calls h1.box (by decide)
  have keep : ∀ k, L.foot p k → L.cv.ownBlock ≠ some k → w2.heap[k]? = w1.heap[k]? := fun k hk hn => hgrow.block k (h1.foot_lt k hk) (fun e => hn e.symm)
  have hb2 : w2.heap[p]? = some (.cells (ybBox q L) 111 (0, 0)) := (keep _ (.inl rfl) nl).trans h1.box
  refine ⟨by unfold World.cell?; rw [hb2]; rfl, by unfold World.frozen?; rw [hb2]; simp, ?_⟩
  have far : ∀ k, k ≠ p → (w2.setCell ⟨p, 1, none⟩ (.slice (some ⟨g, 0, none⟩) (lg.length + 1) cap)).heap[k]? = w2.heap[k]? := fun k hk => Below.heap_setCell _ _ _ _ hk
  have ex : (ybBox q L).setIfInBounds 1 (.slice (some ⟨g, 0, none⟩) (lg.length + 1) cap) = ybBox q { L with cv := .slice (some ⟨g, 0, none⟩) (lg.length + 1) cap } := rfl
  have hgp : g ≠ p := by
    rintro rfl
    obtain ⟨cu, hc⟩ := ownsRow_block hown (k := g) rfl
    rw [hb2] at hc
    simp at hc
  have old : ∀ {e : TypeId} {size n : Nat} {v : Value} {xs : List Value}, w1.ownsRow 0 e size v n xs → e ≠ 132 → e ≠ 111 → (∀ k, v.ownBlock = some k → L.foot p k) → (w2.setCell ⟨p, 1, none⟩ (.slice (some ⟨g, 0, none⟩) (lg.length + 1) cap)).ownsRow 0 e size v n xs := by
    intro e size n v xs ho he he' hf
    refine ownsRow_keep ho (fun k hk => ?_)
    rw [far k (fun e => ownsRow_box ho h1.box he' (e ▸ hk))]
    exact keep k (hf k hk) (ownsRow_apart ho h1.calls he hk)
  refine ⟨{ L with cv := .slice (some ⟨g, 0, none⟩) (lg.length + 1) cap }, ⟨by rw [box_set hb2, ex], ?_, old h1.subs (by decide) (by decide) (fun k hk => .inr (.inr (.inl hk))), old h1.invs (by decide) (by decide) (fun k hk => .inr (.inr (.inr (.inl hk)))), old h1.paid (by decide) (by decide) (fun k hk => .inr (.inr (.inr (.inr hk)))), h.ne⟩, ?_, ?_⟩
  · rw [List.length_append, List.flatMap_append]
    simp only [List.flatMap_cons, List.flatMap_nil, List.append_nil, List.length_cons, List.length_nil, Nat.zero_add]
    exact ownsRow_keep hown (fun k hk => far k (fun e => by simp [Value.ownBlock] at hk; exact hgp (hk.trans e)))
  · exact (((hc1.mono (O' := L.foot p) (fun _ _ h => h.elim)).grown hgrow (fun k hk => .inl (.inr (.inl hk))))).setCell (.inl (.inl rfl)) _
  · intro k hk
    rcases hk with rfl | hk | hk | hk | hk
    · exact .inl (.inl rfl)
    · simp [Value.ownBlock] at hk
      subst hk
      rcases hat with h | h
      · exact .inl (.inr (.inl h))
      · exact .inr h
    · exact .inl (.inr (.inr (.inl hk)))
    · exact .inl (.inr (.inr (.inr (.inl hk))))
    · exact .inl (.inr (.inr (.inr (.inr hk))))

/-- a bid's entry more -/
theorem YbAt.subMore {x : Int} (h : YbAt w p q L lg es ch pd) (hc1 : Chg (fun _ => False) w w1)
    (hown : w2.ownsRow 0 3 1 (.slice (some ⟨g, 0, none⟩) (es.length + 1) cap) (es.length + 1) (es.map (Value.int .i64) ++ [.int .i64 x])) (hgrow : w1.grownBy w2 L.nv.ownBlock) (hat : L.nv.ownBlock = some g ∨ w.heap.size ≤ g) :
    w2.cell? ⟨p, 2, none⟩ = some L.nv ∧ w2.frozen? ⟨p, 2, none⟩ = false ∧ YbTo w p q L lg (es ++ [x]) ch pd (w2.setCell ⟨p, 2, none⟩ (.slice (some ⟨g, 0, none⟩) (es.length + 1) cap)) := by
  have h1 := h.chg0 hc1
  have nl : L.nv.ownBlock ≠ some p := ownsRow_box h1.subs h1.box (by decide)
  have keep : ∀ k, L.foot p k → L.nv.ownBlock ≠ some k → w2.heap[k]? = w1.heap[k]? := fun k hk hn => hgrow.block k (h1.foot_lt k hk) (fun e => hn e.symm)
  have hb2 : w2.heap[p]? = some (.cells (ybBox q L) 111 (0, 0)) := (keep _ (.inl rfl) nl).trans h1.box
  refine ⟨by unfold World.cell?; rw [hb2]; rfl, by unfold World.frozen?; rw [hb2]; simp, ?_⟩
  have far : ∀ k, k ≠ p → (w2.setCell ⟨p, 2, none⟩ (.slice (some ⟨g, 0, none⟩) (es.length + 1) cap)).heap[k]? = w2.heap[k]? := fun k hk => Below.heap_setCell _ _ _ _ hk
  have ex : (ybBox q L).setIfInBounds 2 (.slice (some ⟨g, 0, none⟩) (es.length + 1) cap) = ybBox q { L with nv := .slice (some ⟨g, 0, none⟩) (es.length + 1) cap } := rfl
  have hgp : g ≠ p := by
    rintro rfl
    obtain ⟨cu, hc⟩ := ownsRow_block hown (k := g) rfl
    rw [hb2] at hc
    simp at hc
  have old : ∀ {e : TypeId} {size n : Nat} {v : Value} {xs : List Value}, w1.ownsRow 0 e size v n xs → e ≠ 111 → (∀ k, v.ownBlock = some k → L.foot p k ∧ L.nv.ownBlock ≠ some k) → (w2.setCell ⟨p, 2, none⟩ (.slice (some ⟨g, 0, none⟩) (es.length + 1) cap)).ownsRow 0 e size v n xs := by
    intro e size n v xs ho he' hf
    refine ownsRow_keep ho (fun k hk => ?_)
    rw [far k (fun e => ownsRow_box ho h1.box he' (e ▸ hk))]
    exact keep k (hf k hk).1 (hf k hk).2
  refine ⟨{ L with nv := .slice (some ⟨g, 0, none⟩) (es.length + 1) cap }, ⟨by rw [box_set hb2, ex], old h1.calls (by decide) (fun k hk => ⟨.inr (.inl hk), ownsRow_apart h1.calls h1.subs (by decide) hk⟩), ?_, old h1.invs (by decide) (fun k hk => ⟨.inr (.inr (.inr (.inl hk))), ownsRow_apart h1.invs h1.subs (by decide) hk⟩), old h1.paid (by decide) (fun k hk => ⟨.inr (.inr (.inr (.inr hk))), fun e => h.ne k e hk⟩), ?_⟩, ?_, ?_⟩
  · rw [List.length_append, List.map_append]
    simp only [List.map_cons, List.map_nil, List.length_cons, List.length_nil, Nat.zero_add]
    exact ownsRow_keep hown (fun k hk => far k (fun e => by simp [Value.ownBlock] at hk; exact hgp (hk.trans e)))
  · intro k hk
    simp [Value.ownBlock] at hk
    subst hk
    rcases hat with hh | hh
    · exact h.ne g hh
    · intro e
      have := (h.paid.lt g e).2
      omega
  · exact (((hc1.mono (O' := L.foot p) (fun _ _ h => h.elim)).grown hgrow (fun k hk => .inl (.inr (.inr (.inl hk)))))).setCell (.inl (.inl rfl)) _
  · intro k hk
    rcases hk with rfl | hk | hk | hk | hk
    · exact .inl (.inl rfl)
    · exact .inl (.inr (.inl hk))
    · simp [Value.ownBlock] at hk
      subst hk
      rcases hat with h | h
      · exact .inl (.inr (.inr (.inl h)))
      · exact .inr h
    · exact .inl (.inr (.inr (.inr (.inl hk))))
    · exact .inl (.inr (.inr (.inr (.inr hk))))

/-- an invoice more -/
theorem YbAt.invMore {x : InvG} (h : YbAt w p q L lg es ch pd) (hc1 : Chg (fun _ => False) w w1)
    (hown : w2.ownsRow 0 88 3 (.slice (some ⟨g, 0, none⟩) (ch.length + 1) cap) (ch.length + 1) (ch.flatMap invCells ++ invCells x)) (hgrow : w1.grownBy w2 L.iv.ownBlock) (hat : L.iv.ownBlock = some g ∨ w.heap.size ≤ g) :
    w2.cell? ⟨p, 3, none⟩ = some L.iv ∧ w2.frozen? ⟨p, 3, none⟩ = false ∧ YbTo w p q L lg es (ch ++ [x]) pd (w2.setCell ⟨p, 3, none⟩ (.slice (some ⟨g, 0, none⟩) (ch.length + 1) cap)) := by
  have h1 := h.chg0 hc1
  have nl : L.iv.ownBlock ≠ some p := ownsRow_box h1.invs h1.box (by decide)
  have keep : ∀ k, L.foot p k → L.iv.ownBlock ≠ some k → w2.heap[k]? = w1.heap[k]? := fun k hk hn => hgrow.block k (h1.foot_lt k hk) (fun e => hn e.symm)
  have hb2 : w2.heap[p]? = some (.cells (ybBox q L) 111 (0, 0)) := (keep _ (.inl rfl) nl).trans h1.box
  refine ⟨by unfold World.cell?; rw [hb2]; rfl, by unfold World.frozen?; rw [hb2]; simp, ?_⟩
  have far : ∀ k, k ≠ p → (w2.setCell ⟨p, 3, none⟩ (.slice (some ⟨g, 0, none⟩) (ch.length + 1) cap)).heap[k]? = w2.heap[k]? := fun k hk => Below.heap_setCell _ _ _ _ hk
  have ex : (ybBox q L).setIfInBounds 3 (.slice (some ⟨g, 0, none⟩) (ch.length + 1) cap) = ybBox q { L with iv := .slice (some ⟨g, 0, none⟩) (ch.length + 1) cap } := rfl
  have hgp : g ≠ p := by
    rintro rfl
    obtain ⟨cu, hc⟩ := ownsRow_block hown (k := g) rfl
    rw [hb2] at hc
    simp at hc
  have old : ∀ {e : TypeId} {size n : Nat} {v : Value} {xs : List Value}, w1.ownsRow 0 e size v n xs → e ≠ 88 → e ≠ 111 → (∀ k, v.ownBlock = some k → L.foot p k) → (w2.setCell ⟨p, 3, none⟩ (.slice (some ⟨g, 0, none⟩) (ch.length + 1) cap)).ownsRow 0 e size v n xs := by
    intro e size n v xs ho he he' hf
    refine ownsRow_keep ho (fun k hk => ?_)
    rw [far k (fun e => ownsRow_box ho h1.box he' (e ▸ hk))]
    exact keep k (hf k hk) (ownsRow_apart ho h1.invs he hk)
  refine ⟨{ L with iv := .slice (some ⟨g, 0, none⟩) (ch.length + 1) cap }, ⟨by rw [box_set hb2, ex], old h1.calls (by decide) (by decide) (fun k hk => .inr (.inl hk)), old h1.subs (by decide) (by decide) (fun k hk => .inr (.inr (.inl hk))), ?_, old h1.paid (by decide) (by decide) (fun k hk => .inr (.inr (.inr (.inr hk)))), h.ne⟩, ?_, ?_⟩
  · rw [List.length_append, List.flatMap_append]
    simp only [List.flatMap_cons, List.flatMap_nil, List.append_nil, List.length_cons, List.length_nil, Nat.zero_add]
    exact ownsRow_keep hown (fun k hk => far k (fun e => by simp [Value.ownBlock] at hk; exact hgp (hk.trans e)))
  · exact (((hc1.mono (O' := L.foot p) (fun _ _ h => h.elim)).grown hgrow (fun k hk => .inl (.inr (.inr (.inr (.inl hk))))))).setCell (.inl (.inl rfl)) _
  · intro k hk
    rcases hk with rfl | hk | hk | hk | hk
    · exact .inl (.inl rfl)
    · exact .inl (.inr (.inl hk))
    · exact .inl (.inr (.inr (.inl hk)))
    · simp [Value.ownBlock] at hk
      subst hk
      rcases hat with h | h
      · exact .inl (.inr (.inr (.inr (.inl h))))
      · exact .inr h
    · exact .inl (.inr (.inr (.inr (.inr hk))))

/-- a payment -/
theorem YbAt.setPaid {i : Nat} {u : Int} (h : YbAt w p q L lg es ch pd) (hi : i < pd.length) (hg : L.pv.ownBlock = some g) : YbAt (w.setCell ⟨g, i, none⟩ (.int .i64 u)) p q L lg es ch (pd.set i u) := by
  have hgp : g ≠ p := fun e => ownsRow_box h.paid h.box (by decide) (e ▸ hg)
  have far : ∀ k, k ≠ g → (w.setCell ⟨g, i, none⟩ (.int .i64 u)).heap[k]? = w.heap[k]? := fun k hk => Below.heap_setCell _ _ _ _ hk
  have old : ∀ {e : TypeId} {size n : Nat} {v : Value} {xs : List Value}, w.ownsRow 0 e size v n xs → e ≠ 3 → (w.setCell ⟨g, i, none⟩ (.int .i64 u)).ownsRow 0 e size v n xs := by
    intro e size n v xs ho he
    exact ownsRow_keep ho (fun k hk => far k (fun e => ownsRow_apart ho h.paid he hk (e ▸ hg)))
  refine ⟨(far p (Ne.symm hgp)).trans h.box, old h.calls (by decide), ownsRow_keep h.subs (fun k hk => far k (fun e => h.ne k hk (e ▸ hg))), old h.invs (by decide), ?_, h.ne⟩
  rw [List.length_set, List.map_set]
  exact ownsRow_set h.paid hi hg _
theorem YbAt.paid_form (h : YbAt w p q L lg es ch pd) : ∃ ao cap, L.pv = .slice ao pd.length cap ∧ ∀ i, i < pd.length → ∃ g, ao = some ⟨g, 0, none⟩ ∧ L.pv.ownBlock = some g ∧ w.cell? ⟨g, i, none⟩ = some (.int .i64 (pd.getD i 0)) ∧ w.frozen? ⟨g, i, none⟩ = false := by
  rcases h.paid.2 with ⟨hv, h0⟩ | ⟨g, cap, cur, hv, hg, hh, r⟩
  · exact ⟨none, 0, by rw [hv, h0], fun i hi => by omega⟩
  · refine ⟨some ⟨g, 0, none⟩, cap, hv, fun i hi => ⟨g, rfl, by rw [hv]; rfl, ?_, by unfold World.frozen?; rw [hh]; simp⟩⟩
    have := h.paid.cells (g := g) (by rw [hv]; rfl) i (.int .i64 (pd.getD i 0)) (by simp [List.getD, List.getElem?_eq_getElem hi])
    rwa [Addr.add_lit, Nat.zero_add] at this
theorem YbAt.subs_form (h : YbAt w p q L lg es ch pd) : ∃ ao cap, L.nv = .slice ao es.length cap ∧ ∀ (i : Nat) (x : Int), es[i]? = some x → ∃ g, ao = some ⟨g, 0, none⟩ ∧ w.cell? ⟨g, i, none⟩ = some (.int .i64 x) := by
  rcases h.subs.2 with ⟨hv, h0⟩ | ⟨g, cap, cur, hv, hg, hh, r⟩
  · exact ⟨none, 0, by rw [hv, h0], fun i x hi => by have := (List.getElem?_eq_some_iff.1 hi).1; omega⟩
  · refine ⟨some ⟨g, 0, none⟩, cap, hv, fun i x hi => ⟨g, rfl, ?_⟩⟩
    have := h.subs.cells (g := g) (by rw [hv]; rfl) i (.int .i64 x) (by simp [List.getElem?_map, hi])
    rwa [Addr.add_lit, Nat.zero_add] at this
theorem YbAt.calls_form (h : YbAt w p q L lg es ch pd) : ∃ ao cap, L.cv = .slice ao lg.length cap ∧ ∀ (i : Nat) (c : CallG), lg[i]? = some c → ∃ g, ao = some ⟨g, 0, none⟩ ∧ ∀ r u, (ycallCells c)[r]? = some u → w.cell? ⟨g, i * 12 + r, none⟩ = some u := by
  rcases h.calls.2 with ⟨hv, h0⟩ | ⟨g, cap, cur, hv, hg, hh, r⟩
  · exact ⟨none, 0, by rw [hv, h0], fun i x hi => by have := (List.getElem?_eq_some_iff.1 hi).1; omega⟩
  · refine ⟨some ⟨g, 0, none⟩, cap, hv, fun i c hc => ⟨g, rfl, fun r u hu => ?_⟩⟩
    have hr : r < 12 := by
      have := (List.getElem?_eq_some_iff.1 hu).1
      rwa [ycallCells_len] at this
    have := h.calls.cells (g := g) (by rw [hv]; rfl) (i * 12 + r) u (by rw [flat_get ycallCells 12 (fun _ => rfl) lg i c r hc hr]; exact hu)
    rwa [Addr.add_lit, Nat.zero_add] at this
theorem YbAt.invs_form (h : YbAt w p q L lg es ch pd) : ∃ ao cap, L.iv = .slice ao ch.length cap ∧ ∀ (i : Nat) (c : InvG), ch[i]? = some c → ∃ g, ao = some ⟨g, 0, none⟩ ∧ ∀ r u, (invCells c)[r]? = some u → w.cell? ⟨g, i * 3 + r, none⟩ = some u := by
  rcases h.invs.2 with ⟨hv, h0⟩ | ⟨g, cap, cur, hv, hg, hh, r⟩
  · exact ⟨none, 0, by rw [hv, h0], fun i x hi => by have := (List.getElem?_eq_some_iff.1 hi).1; omega⟩
  · refine ⟨some ⟨g, 0, none⟩, cap, hv, fun i c hc => ⟨g, rfl, fun r u hu => ?_⟩⟩
    have hr : r < 3 := by
      have := (List.getElem?_eq_some_iff.1 hu).1
      simpa [invCells] using this
    have := h.invs.cells (g := g) (by rw [hv]; rfl) (i * 3 + r) u (by rw [flat_get invCells 3 (fun _ => rfl) ch i c r hc hr]; exact hu)
    rwa [Addr.add_lit, Nat.zero_add] at this
end

/-! ### the whole -/
structure YAtV (w : World) (p : Nat) (V : YV) (L : LV) (m : MkG) : Prop where
  yb : YbAt w p V.q L m.log (m.bids.map (·.entry)) m.charges m.paid
  mkt : YmAt w V m
  out : ∀ k, L.foot p k → ¬ V.foot k
def yfoot (p : Nat) (V : YV) (L : LV) (k : Nat) : Prop := L.foot p k ∨ V.foot k
def YAt (w : World) (p : Nat) (F : Nat → Prop) (m : MkG) : Prop := ∃ (V : YV) (L : LV), (∀ k, F k ↔ yfoot p V L k) ∧ YAtV w p V L m ∧ ArrOk m ∧ ChdOk m

section
variable {w : World} {p : Nat} {V : YV} {L : LV} {m : MkG}
theorem YAtV.foot_lt (h : YAtV w p V L m) (k : Nat) (hk : yfoot p V L k) : k < w.heap.size := by
  rcases hk with hk | hk
  · exact h.yb.foot_lt k hk
  · exact h.mkt.foot_lt k hk
theorem YAtV.lt (h : YAtV w p V L m) : p < w.heap.size := h.yb.lt
theorem YAtV.frame {w' : World} (h : YAtV w p V L m) (hf : ∀ k, yfoot p V L k → w'.heap[k]? = w.heap[k]?) : YAtV w' p V L m :=
  ⟨h.yb.frame (fun k hk => hf k (.inl hk)), h.mkt.frame (fun k hk => hf k (.inr hk)), h.out⟩
theorem YAtV.chg0 {w' : World} (h : YAtV w p V L m) (hc : Chg (fun _ => False) w w') : YAtV w' p V L m := h.frame (fun k hk => hc.block k (h.foot_lt k hk) (fun h => h))
theorem YAtV.cq (h : YAtV w p V L m) : w.cell? ⟨p, 0, none⟩ = some (.pointer (some ⟨V.q, 0, none⟩)) := h.yb.cell 0
end

/-- a yard that has become another -/
def YvTo (w : World) (p : Nat) (V : YV) (L : LV) (m' : MkG) (w' : World) : Prop :=
  ∃ V' L', YAtV w' p V' L' m' ∧ Chg (yfoot p V L) w w' ∧ ∀ k, yfoot p V' L' k → yfoot p V L k ∨ w.heap.size ≤ k

section
variable {w w1 w2 : World} {p : Nat} {V : YV} {L : LV} {m m' : MkG}
theorem YvTo.refl (h : YAtV w p V L m) : YvTo w p V L m w := ⟨V, L, h, Chg.refl _ _, fun _ hk => .inl hk⟩
theorem YvTo.chg0 (h : YvTo w p V L m w1) (hc : Chg (fun _ => False) w1 w2) : YvTo w p V L m w2 := by
  obtain ⟨V', L', h1, h2, h3⟩ := h
  exact ⟨V', L', h1.chg0 hc, h2.trans hc (fun _ _ h => h.elim), h3⟩
theorem YvTo.same (h : YAtV w p V L m) (hc : Chg (fun _ => False) w w1) : YvTo w p V L m w1 := (YvTo.refl h).chg0 hc
theorem YvTo.start (hc : Chg (fun _ => False) w w1) (h : YvTo w1 p V L m w2) : YvTo w p V L m w2 := by
  obtain ⟨V', L', h1, h2, h3⟩ := h
  exact ⟨V', L', h1, (hc.mono (fun _ _ h => h.elim)).trans h2 (fun _ _ h => h), fun k hk => by
    rcases h3 k hk with h | h
    · exact .inl h
    · exact .inr (Nat.le_trans hc.size h)⟩
theorem YvTo.after {V1 : YV} {L1 : LV} (hc : Chg (yfoot p V L) w w1) (hf : ∀ k, yfoot p V1 L1 k → yfoot p V L k ∨ w.heap.size ≤ k) (h : YvTo w1 p V1 L1 m' w2) : YvTo w p V L m' w2 := by
  obtain ⟨V2, L2, b1, b2, b3⟩ := h
  refine ⟨V2, L2, b1, hc.trans b2 (fun x hx hxf => ?_), fun k hk => ?_⟩
  · rcases hf x hxf with h | h
    · exact h
    · omega
  · rcases b3 k hk with h | h
    · exact hf k h
    · exact .inr (Nat.le_trans hc.size h)
/-- its own part has turned -/
theorem YAtV.own {lg : List CallG} {es : List Int} {ch : List InvG} {pd : List Int} (h : YAtV w p V L m) (ht : YbTo w p V.q L lg es ch pd w1) (hm : YmAt w V m → YmAt w V m') (h1 : m'.log = lg) (h2 : m'.bids.map (·.entry) = es) (h3 : m'.charges = ch) (h4 : m'.paid = pd) : YvTo w p V L m' w1 := by
  subst h1 h2 h3 h4
  obtain ⟨L', a1, a2, a3⟩ := ht
  have hmk : YmAt w1 V m' := (hm h.mkt).chg a2 (fun k hk e => h.out k e hk)
  refine ⟨V, L', ⟨a1, hmk, fun k hk hv => ?_⟩, a2.mono (fun k _ hk => .inl hk), fun k hk => ?_⟩
  · rcases a3 k hk with e | e
    · exact h.out k e hv
    · have := h.mkt.foot_lt k hv
      omega
  · rcases hk with hk | hk
    · rcases a3 k hk with e | e
      · exact .inl (.inl e)
      · exact .inr e
    · exact .inl (.inr hk)
/-- its market has turned: what there is of it -/
theorem YAtV.market (h : YAtV w p V L m) (ht : YmTo w V m' w1) : ∃ V', V'.q = V.q ∧ YmAt w1 V' m' ∧ YbAt w1 p V'.q L m.log (m.bids.map (·.entry)) m.charges m.paid ∧ (∀ k, L.foot p k → ¬ V'.foot k) ∧ Chg (yfoot p V L) w w1 ∧ ∀ k, yfoot p V' L k → yfoot p V L k ∨ w.heap.size ≤ k := by
  obtain ⟨V', a0, a1, a2, a3⟩ := ht
  refine ⟨V', a0, a1, ?_, fun k hk hv => ?_, a2.mono (fun k _ hk => .inr hk), fun k hk => ?_⟩
  · rw [a0]
    exact h.yb.chg a2 (fun k hk e => h.out k hk e)
  · rcases a3 k hv with e | e
    · exact h.out k hk e
    · have := h.yb.foot_lt k hk
      omega
  · rcases hk with hk | hk
    · exact .inl (.inl hk)
    · rcases a3 k hk with e | e
      · exact .inl (.inr e)
      · exact .inr e
theorem YAtV.marketTo (h : YAtV w p V L m) (ht : YmTo w V m' w1) (h1 : m'.log = m.log) (h2 : m'.bids.map (·.entry) = m.bids.map (·.entry)) (h3 : m'.charges = m.charges) (h4 : m'.paid = m.paid) : YvTo w p V L m' w1 := by
  obtain ⟨V', a0, a1, a2, a3, a4, a5⟩ := h.market ht
  exact ⟨V', L, ⟨by rw [h1, h2, h3, h4]; exact a2, a1, a3⟩, a4, a5⟩
theorem YvTo.yto {F : Nat → Prop} (hF : ∀ k, F k ↔ yfoot p V L k) (h : YvTo w p V L m' w1) (ha : ArrOk m') (hch : ChdOk m') : ∃ F', YAt w1 p F' m' ∧ Chg F w w1 ∧ ∀ k, F' k → F k ∨ w.heap.size ≤ k := by
  obtain ⟨V', L', a1, a2, a3⟩ := h
  refine ⟨yfoot p V' L', ⟨V', L', fun _ => Iff.rfl, a1, ha, hch⟩, a2.mono (fun k _ hk => (hF k).2 hk), fun k hk => ?_⟩
  rcases a3 k hk with e | e
  · exact .inl ((hF k).2 e)
  · exact .inr e
end
end Go.Proofs.Ytminceigjejipaa
