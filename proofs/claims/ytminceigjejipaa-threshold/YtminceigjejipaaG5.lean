import Derived.Test.YtminceigjejipaaG4
import Derived.Test.YtminceigjejipaaG3
import Derived.Test.YtminceigjejipaaG2
import Derived.Test.YtminceigjejipaaYd2
import Derived.Test.YtminceigjejipaaRow5
namespace Go.Proofs.Ytminceigjejipaa
open Go.RowKit

theorem jobAt_eq {m : MkG} {i : Nat} {b : BidG} (h : m.bids[i]? = some b) : jobAt m i = b.job := by
  unfold jobAt
  rw [h]

theorem wantM_need {m : MkG} {g : Nat} {v : Int} (h : m.need = 0 ∨ wantV m g v < m.need) : wantM m g v = { m with need := wantV m g v } := by rw [wantM, if_pos h]
theorem wantM_same {m : MkG} {g : Nat} {v : Int} (h : ¬ (m.need = 0 ∨ wantV m g v < m.need)) : wantM m g v = m := by rw [wantM, if_neg h]

end Go.Proofs.Ytminceigjejipaa

namespace Go.Proofs.Ytminceigjejipaa
open Go.RowKit

def nameCells (x : Int × Int) : List Value := [.int .i64 x.1, .int .i64 x.2]
theorem infoName : (Try.prog.info? 90).map (fun i => (i.zero, i.size, i.bytes)) = some (some (.agg #[.int .i64 0, .int .i64 0]), 2, 16) := by kernel_rfl

section
variable {w1 wr w' : World} {p : Nat} {V : MV} {L n : Nat} {m : MkG} {out : List (Int × Int)} {done : List Nat} {ov : Value}
end

theorem ownsRow_form {w : World} {base : Nat} {e : TypeId} {size n : Nat} {v : Value} {xs : List Value} (h : w.ownsRow base e size v n xs) : ∃ ao cap, v = .slice ao n cap := by
  rcases h.2 with ⟨hv, h0⟩ | ⟨g, cap, cur, hv, _⟩
  · exact ⟨none, 0, by rw [hv, h0]⟩
  · exact ⟨_, cap, hv⟩

/-- how many are not in a list -/
def remL (n : Nat) (d : List Nat) : Nat := (List.range n).countP fun j => !inL d j
theorem remL_succ (n : Nat) (d : List Nat) : remL (n + 1) d = remL n d + if inL d n then 0 else 1 := by
  simp only [remL, List.range_succ, List.countP_append, List.countP_cons, List.countP_nil]
  cases inL d n <;> simp
theorem remL_le (n i : Nat) (d : List Nat) : remL n (d ++ [i]) ≤ remL n d := by
  induction n with
  | zero => simp [remL]
  | succ n ih =>
    rw [remL_succ, remL_succ]
    by_cases h : n ∈ d
    · simp [inL, h]; exact ih
    · by_cases e : n = i
      · simp [inL, e]; subst e; omega
      · simp [inL, h, e]; exact ih
theorem remL_lt {n i : Nat} {d : List Nat} (hi : i < n) (hd : i ∉ d) : remL n (d ++ [i]) < remL n d := by
  induction n with
  | zero => omega
  | succ n ih =>
    rw [remL_succ, remL_succ]
    by_cases e : n = i
    · subst e
      have := remL_le n n d
      simp [inL, hd]
      omega
    · have := ih (by omega)
      by_cases h : n ∈ d
      · simp [inL, h]; exact this
      · simp [inL, h, e]; exact this

/-- the first k bids looked at: which have expired -/
def expTo (l : List BidG) (k : Nat) (now : Int) : List BidG := l.mapIdx fun i b => if i < k then b.expire now else b
theorem expTo_get (l : List BidG) (k : Nat) (now : Int) : (expTo l k now)[k]? = l[k]? := by
  simp [expTo]
theorem expTo_len (l : List BidG) (k : Nat) (now : Int) : (expTo l k now).length = l.length := by simp [expTo]
theorem expTo_zero (l : List BidG) (now : Int) : expTo l 0 now = l := by
  apply List.ext_getElem?
  intro i
  simp [expTo]
theorem expTo_all (l : List BidG) (now : Int) : expTo l l.length now = l.map fun b => b.expire now := by
  apply List.ext_getElem?
  intro i
  by_cases hi : i < l.length
  · simp [expTo, hi]
  · simp [expTo, hi]
theorem expTo_succ {l : List BidG} {k : Nat} {now : Int} {b : BidG} (hb : l[k]? = some b) : expTo l (k + 1) now = (expTo l k now).set k (b.expire now) := by
  apply List.ext_getElem?
  intro i
  rw [List.getElem?_set]
  by_cases e : k = i
  · subst e
    have hl := (List.getElem?_eq_some_iff.1 hb).1
    rw [if_pos rfl, if_pos (by rw [expTo_len]; exact hl)]
    simp [expTo, hb]
  · rw [if_neg e]
    simp only [expTo, List.getElem?_mapIdx]
    cases l[i]? with
    | none => rfl
    | some x =>
      simp only [Option.map_some]
      have hik : (i < k + 1) ↔ (i < k) := ⟨fun h => by omega, fun h => by omega⟩
      simp only [hik]
theorem expTo_same {l : List BidG} {k : Nat} {now : Int} {b : BidG} (hb : l[k]? = some b) (he : b.expire now = b) : expTo l (k + 1) now = expTo l k now := by
  rw [expTo_succ hb, he]
  apply List.ext_getElem?
  intro i
  rw [List.getElem?_set]
  by_cases e : k = i
  · subst e
    have hl := (List.getElem?_eq_some_iff.1 hb).1
    rw [if_pos rfl, if_pos (by rw [expTo_len]; exact hl), expTo_get, hb]
  · rw [if_neg e]
theorem MkOk.exp {m : MkG} (h : MkOk m) (k : Nat) (now : Int) : ∀ b ∈ expTo m.bids k now, BidOk m.c b := by
  intro b hb
  obtain ⟨i, hi⟩ := List.getElem?_of_mem hb
  simp only [expTo, List.getElem?_mapIdx] at hi
  cases h2 : m.bids[i]? with
  | none => rw [h2] at hi; simp at hi
  | some x =>
    rw [h2] at hi
    simp only [Option.map_some, Option.some.injEq] at hi
    have hx := h.bid x (List.mem_of_getElem? h2)
    rw [← hi]
    split
    · exact BidG.expire_ok hx _
    · exact hx
end Go.Proofs.Ytminceigjejipaa

namespace Go.Proofs.Ytminceigjejipaa
open Go.RowKit

theorem ownsRow_set {w : World} {e : TypeId} {v : Value} {n i g : Nat} {xs : List Value} (h : w.ownsRow 0 e 1 v n xs) (hi : i < n) (hg : v.ownBlock = some g) (u : Value) : (w.setCell ⟨g, i, none⟩ u).ownsRow 0 e 1 v n (xs.set i u) := by
  rcases h.2 with ⟨hv, h0⟩ | ⟨g', cap, cur, hv, hb0, hh, hc, hmx, hsz, htake⟩
  · omega
  · have hgg : g' = g := by rw [hv] at hg; simpa [Value.ownBlock] using hg
    subst hgg
    refine ⟨by simp [h.1], .inr ⟨g', cap, cur.setIfInBounds i u, hv, hb0, box_set hh _, hc, hmx, by simpa using hsz, ?_⟩⟩
    rw [Array.toList_setIfInBounds, List.take_set, htake]

def fillL (n k : Nat) (cap : Int) : List Value := (List.range n).map fun j => .int .i64 (if j < k then cap else 0)
theorem fillL_start (n : Nat) (cap : Int) : fillL n 0 cap = List.replicate n (.int .i64 0) := by
  apply List.ext_getElem?
  intro i
  by_cases hi : i < n
  · simp [fillL, hi]
  · simp [fillL, hi]
theorem fillL_step (n k : Nat) (cap : Int) (hk : k < n) : (fillL n k cap).set k (.int .i64 cap) = fillL n (k + 1) cap := by
  apply List.ext_getElem?
  intro i
  rw [List.getElem?_set]
  by_cases hi : i < n
  · by_cases e : k = i
    · subst e
      simp [fillL, hi]
    · simp only [if_neg e, fillL, List.getElem?_map, List.getElem?_range hi, Option.map_some]
      simp [show (i < k ↔ i < k + 1) by omega]
  · by_cases e : k = i
    · omega
    · simp [fillL, hi, e]
theorem fillL_end (n : Nat) (cap : Int) : fillL n n cap = (List.replicate n cap).map (Value.int .i64) := by
  apply List.ext_getElem?
  intro i
  by_cases hi : i < n
  · simp [fillL, hi]
  · simp [fillL, hi]

/-- the parts of a fresh market, as they lie -/
theorem ymOpen {W : World} {nk nt q r g U S : Nat} {cap res quo : Int} (h8 : nt ≤ 8) (_ : 1 ≤ nk) (hU : U ≠ g) (hbox : W.heap[q]? = some (.cells #[.int .i64 (nk : Int), .int .i64 cap, .int .i64 res, .int .i64 (nt : Int), .int .i64 quo, .int .i64 0, .slice none 0 0, .slice (some ⟨S, 0, none⟩) nt nt, .slice (some ⟨U, 0, none⟩) nk nk, .pointer (some ⟨r, 0, none⟩)] 107 (0, 0)))
    (hu : W.ownsRow 0 3 1 (.slice (some ⟨U, 0, none⟩) nk nk) nk (fillL nk nk cap)) (hs : W.heap[S]? = some (.cells (madeCells #[.bool false] nt) 4 (0, 0))) (hc : RowAt 98 W r g nk nk (fun _ => cap)) :
    YmAt W ⟨q, r, g, nk, .slice (some ⟨U, 0, none⟩) nk nk, .slice none 0 0, .slice (some ⟨S, 0, none⟩) nt nt⟩ (openM ⟨nk, cap, res, nt, quo⟩) := by
  refine ⟨hbox, World.ownsRow_nil _ _ _ _, ?_, ?_, ?_, ?_⟩
  · show W.ownsRow 0 _ 1 _ (List.replicate (Int.toNat (nt : Int)) false).length ((List.replicate (Int.toNat (nt : Int)) false).map Value.bool)
    rw [Int.toNat_natCast, List.length_replicate, List.map_replicate]
    exact ⟨by simp, .inr ⟨S, nt, _, rfl, Nat.zero_le _, hs, Nat.le_refl _, by unfold maxLen; omega, by rw [size_madeCells]; omega, by rw [made_list]; simp⟩⟩
  · show W.ownsRow 0 _ 1 _ (List.replicate (Int.toNat (nk : Int)) cap).length ((List.replicate (Int.toNat (nk : Int)) cap).map (Value.int .i64))
    rw [Int.toNat_natCast, List.length_replicate, ← fillL_end]
    exact hu
  · show RowAt _ W r g (List.replicate (Int.toNat (nk : Int)) cap).length nk _
    rw [Int.toNat_natCast, List.length_replicate]
    refine hc.congr (fun j hj => ?_)
    simp [freeZ, openM, usedL, List.getD, hj]
  · simp [Value.ownBlock, hU]

set_option maxRecDepth 100000 in
set_option maxHeartbeats 4000000 in
theorem newMarket_any (c : CfgG) (w : World) (hc : cfgOk c = true) :
    Calls Try.prog 65 #[.agg #[.int .i64 c.ticks, .int .i64 c.cap, .int .i64 c.res, .int .i64 c.ten, .int .i64 c.quo]] w fun e w' => ∃ V, e = .returned (.pointer (some ⟨V.q, 0, none⟩)) ∧ YmAt w' V (openM c) ∧ Chg (fun _ => False) w w' ∧ ∀ k, V.foot k → w.heap.size ≤ k := by
  obtain ⟨⟨a1, a2⟩, ⟨a3, a4⟩, ⟨a5, a6⟩, ⟨a7, a8⟩, a9, a10⟩ := cfgOk_true hc
  obtain ⟨tk, cap, res, ten, quo⟩ := c
  simp only at *
  obtain ⟨nt, rfl⟩ := Int.eq_ofNat_of_zero_le (show 0 ≤ ten by omega)
  obtain ⟨nk, rfl⟩ := Int.eq_ofNat_of_zero_le (show 0 ≤ tk by omega)
  have hmk1 := run_make_row' (P := Try.prog) 64 4 (.bool false) 1 Try.underlying64 infoBool rfl .i64 .i64 nt (by omega) (by omega)
  have hmk2 := run_make_row' (P := Try.prog) 27 3 (.int .i64 0) 8 Try.underlying27 infoInt' rfl .i64 .i64 nk (by omega) (by omega)
  have HST := hide (show standB cap = true by simp [standB, inB]; omega)
  clear hc
  go_enter Try.func65, Try.ntmps65
  go_wp2_with fail
  obtain ⟨w1, hw1⟩ : ∃ w1, w1 = w.alloc (.cells #[.int .i64 (nk : Int), .int .i64 cap, .int .i64 res, .int .i64 (nt : Int), .int .i64 quo] 38) := ⟨_, rfl⟩
  rw [← hw1]
  have hb1 : w1.heap[w.heap.size]? = some (.cells #[.int .i64 (nk : Int), .int .i64 cap, .int .i64 res, .int .i64 (nt : Int), .int .i64 quo] 38 (0, 0)) := by rw [hw1]; exact heap_alloc_new w _
  have hc1 : Chg (fun _ => False) w w1 := by rw [hw1]; exact (Chg.refl _ _).alloc _
  have hs1 : w1.heap.size = w.heap.size + 1 := by rw [hw1]; simp
  clear hw1
  refine (calNew_ok nk cap _ (by omega) (by omega) HST.out).mono ?_
  rintro e w2 ⟨r, rfl, hr, hrow, hq⟩
  have hb2 : w2.heap[w.heap.size]? = some (.cells #[.int .i64 (nk : Int), .int .i64 cap, .int .i64 res, .int .i64 (nt : Int), .int .i64 quo] 38 (0, 0)) := (hq.block _ (by omega) (fun h => h)).trans hb1
  have hs2 := hq.size
  have hl2 := hrow.ltp
  have hg2 := hrow.ltg
  have HC2 := hide (hc1.trans hq (fun _ _ h => h))
  have HROW := hide hrow
  have HB2 := hide hb2
  have q0 : w2.cell? ⟨w.heap.size, 0, none⟩ = some (.int .i64 (nk : Int)) := by unfold World.cell?; rw [hb2]; rfl
  clear hb1 hc1 hq hrow hb2
  go_wp2_with fail
  clear hmk2
  go_loopw [21] (fun i wr => ∃ k : Nat, k ≤ nk ∧ i = .int .i64 k ∧ wr.ownsRow 0 3 1 (.slice (some ⟨w2.heap.size, 0, none⟩) nk nk) nk (fillL nk k cap) ∧ Chg (fun _ => False) w2 wr) (fun i _ => nk - (intOf i).toNat)
  case atStart =>
    refine ⟨0, by omega, rfl, ?_, (Chg.refl _ _).alloc _⟩
    rw [fillL_start]
    exact ⟨by simp, .inr ⟨w2.heap.size, nk, _, rfl, Nat.zero_le _, heap_alloc_new w2 _, Nat.le_refl _, by unfold maxLen; omega, by rw [size_madeCells]; omega, by rw [made_list]; simp⟩⟩
  case round =>
    obtain ⟨k, hk, rfl, hown, hchg⟩ := hrel
    have HOWN := hide hown
    have HCH := hide hchg
    have hbr : wr.heap[w.heap.size]? = some (.cells #[.int .i64 (nk : Int), .int .i64 cap, .int .i64 res, .int .i64 (nt : Int), .int .i64 quo] 38 (0, 0)) := (hchg.block _ (by omega) (fun h => h)).trans HB2.out
    have q1 : wr.cell? ⟨w.heap.size, 1, none⟩ = some (.int .i64 cap) := by unfold World.cell?; rw [hbr]; rfl
    have q0 : wr.cell? ⟨w.heap.size, 0, none⟩ = some (.int .i64 (nk : Int)) := by unfold World.cell?; rw [hbr]; rfl
    have q2 : wr.cell? ⟨w.heap.size, 2, none⟩ = some (.int .i64 res) := by unfold World.cell?; rw [hbr]; rfl
    have q3 : wr.cell? ⟨w.heap.size, 3, none⟩ = some (.int .i64 (nt : Int)) := by unfold World.cell?; rw [hbr]; rfl
    have q4 : wr.cell? ⟨w.heap.size, 4, none⟩ = some (.int .i64 quo) := by unfold World.cell?; rw [hbr]; rfl
    have hsr := hchg.size
    have hlr : w2.heap.size < wr.heap.size := (hown.lt w2.heap.size rfl).2
    by_cases hlt : k < nk
    · obtain ⟨cu, hcu⟩ := ownsRow_block hown (k := w2.heap.size) rfl
      have fz : wr.frozen? ⟨w2.heap.size, k, none⟩ = false := by unfold World.frozen?; rw [hcu]; simp
      have hcell := hown.cells (g := w2.heap.size) rfl k (.int .i64 0) (by simp [fillL, hlt])
      rw [Addr.add_lit, Nat.zero_add] at hcell
      clear hown hchg hbr hcu
      go_wp2
      go_roundw
      case rel => exact ⟨k + 1, by omega, by go_num, by rw [← fillL_step nk k cap hlt]; exact ownsRow_set HOWN.out hlt rfl _, HCH.out.setCell (.inr (Nat.le_refl _)) _⟩
      case measure => simp [intOf]; omega
    · have q0' : ∀ o, (wr.alloc o).cell? ⟨w.heap.size, 0, none⟩ = some (.int .i64 (nk : Int)) := fun o => by rw [World.cell?_alloc_lt _ _ _ (by show w.heap.size < wr.heap.size; omega)]; exact q0
      have q1' : ∀ o, (wr.alloc o).cell? ⟨w.heap.size, 1, none⟩ = some (.int .i64 cap) := fun o => by rw [World.cell?_alloc_lt _ _ _ (by show w.heap.size < wr.heap.size; omega)]; exact q1
      have q2' : ∀ o, (wr.alloc o).cell? ⟨w.heap.size, 2, none⟩ = some (.int .i64 res) := fun o => by rw [World.cell?_alloc_lt _ _ _ (by show w.heap.size < wr.heap.size; omega)]; exact q2
      have q3' : ∀ o, (wr.alloc o).cell? ⟨w.heap.size, 3, none⟩ = some (.int .i64 (nt : Int)) := fun o => by rw [World.cell?_alloc_lt _ _ _ (by show w.heap.size < wr.heap.size; omega)]; exact q3
      have q4' : ∀ o, (wr.alloc o).cell? ⟨w.heap.size, 4, none⟩ = some (.int .i64 quo) := fun o => by rw [World.cell?_alloc_lt _ _ _ (by show w.heap.size < wr.heap.size; omega)]; exact q4
      have hkn : k = nk := by omega
      have HK := hide hkn
      clear hown hchg hbr hkn
      go_wp2
      go_ret
      refine ⟨⟨wr.heap.size + 1, r, w1.heap.size, nk, .slice (some ⟨w2.heap.size, 0, none⟩) nk nk, .slice none 0 0, .slice (some ⟨wr.heap.size, 0, none⟩) nt nt⟩, rfl, ?_, ?_, ?_⟩
      · refine ymOpen (by omega) (by omega) (by omega) (heap_at_new (by simp)) ?_ ?_ ?_
        · have := HOWN.out
          rw [HK.out] at this
          exact (this.alloc _).alloc _
        · rw [Below.heap_alloc _ _ _ (by simp)]; exact heap_alloc_new wr _
        · exact HROW.out.frame (by rw [Below.heap_alloc _ _ _ (by simp; omega), Below.heap_alloc _ _ _ (by omega)]; exact HCH.out.block _ hl2 (fun h => h)) (by rw [Below.heap_alloc _ _ _ (by simp; omega), Below.heap_alloc _ _ _ (by omega)]; exact HCH.out.block _ hg2 (fun h => h))
      · exact ((HC2.out.trans HCH.out (fun _ _ h => h)).alloc _).alloc _
      · intro x hx
        rcases hx with h | h | h | h | h | h
        · simp only at h; omega
        · simp only at h; omega
        · simp only at h; omega
        · simp [Value.ownBlock] at h; omega
        · simp [Value.ownBlock] at h
        · simp [Value.ownBlock] at h; omega
end Go.Proofs.Ytminceigjejipaa

namespace Go.Proofs.Ytminceigjejipaa
open Go.RowKit

theorem YmAt.calLen {w : World} {V : YV} {m : MkG} (h : YmAt w V m) : RowAt 98 w V.r V.g m.units.length V.cc (freeZ m) := h.cal

theorem within_tick {tk t : Int} : inB t 0 (tk - 1) = !(decide (t < 0) || decide (tk ≤ t)) := by
  rw [Bool.eq_iff_iff]
  simp [inB]
  omega

set_option maxRecDepth 100000 in
set_option maxHeartbeats 2000000 in
theorem freeAt_any (V : YV) (m : MkG) (t : Int) (w : World) (hm : YmAt w V m) (hok : MkOk m) :
    Calls Try.prog 73 #[.pointer (some ⟨V.q, 0, none⟩), .int .i64 t] w fun e w' => e = .returned (.tuple #[.int .i64 (freeV m t), .int .i64 (freeE m t)]) ∧ w' = w := by
  have HM := hide hm
  have HOK := hide hok
  have c0 : w.cell? ⟨V.q, 0, none⟩ = some (.int .i64 m.c.ticks) := hm.cell 0
  have c9 : w.cell? ⟨V.q, 9, none⟩ = some (.pointer (some ⟨V.r, 0, none⟩)) := hm.cell 9
  have hcf := cfgOk_true hok.ck
  have hnu := hok.nu
  clear hm hok
  have hw1 : IntKind.i64.wrap (m.c.ticks - 1) = m.c.ticks - 1 := by rw [IntKind.wrap_i64]; omega
  by_cases ht : t < 0 ∨ m.c.ticks ≤ t
  · have E1 := hide (show freeE m t = 9 ∧ freeV m t = 0 by simp [freeE, freeV, ht])
    have hb : inB t 0 (m.c.ticks - 1) = false := by rw [within_tick]; simp; omega
    clear ht hcf hnu
    generalize m.c.ticks = tk at *
    go_enter Try.func73, Try.ntmps73
    go_wp2_with (go_at_call 72; refine (within_any _ _ _ _).mono ?_; rintro e w' ⟨rfl, hw⟩; subst w')
    go_ret2
    exact ⟨ret_two E1.out.2.symm E1.out.1.symm, rfl⟩
  · obtain ⟨i, rfl⟩ := Int.eq_ofNat_of_zero_le (show 0 ≤ t by omega)
    have hb : inB (i : Int) 0 (m.c.ticks - 1) = true := by rw [within_tick]; simp; omega
    have E1 := hide (show freeE m i = 0 ∧ freeV m i = freeZ m i by
      constructor
      · rw [freeE, if_neg ht]
      · rw [freeV, if_neg ht]; simp [freeZ])
    have hiu : i < m.units.length := by omega
    have hul : m.units.length ≤ 64 := by omega
    have HMIN := hide (calMin_ok V.r V.g m.units.length V.cc i (i + 1) (freeZ m) w HM.out.cal.cellp (by omega) (by omega) (by omega) HM.out.cal.cellg)
    clear ht
    generalize m.c.ticks = tk at *
    go_enter Try.func73, Try.ntmps73
    go_wp2_with (first | (go_at_call 72; refine (within_any _ _ _ _).mono ?_; rintro e w' ⟨rfl, hw⟩; subst w') | (go_at_call 12; refine HMIN.out.mono ?_; rintro e w' ⟨rfl, hw⟩; subst w'))
    go_ret2
    exact ⟨ret_two (by rw [E1.out.2]; first | rfl | (rw [show i + 1 - 1 - i = 0 by omega]; rfl)) E1.out.1.symm, rfl⟩

set_option maxRecDepth 100000 in
set_option maxHeartbeats 2000000 in
theorem usedAt_any (V : YV) (m : MkG) (i : Nat) (w : World) (hm : YmAt w V m) (hok : MkOk m) (hi : i < m.units.length) :
    Calls Try.prog 91 #[.pointer (some ⟨V.q, 0, none⟩), .int .i64 i] w fun e w' => e = .returned (.int .i64 (usedL m.bids i)) ∧ w' = w := by
  have HM := hide hm
  have HF := hide (freeAt_any V m i w hm hok)
  have hcf := cfgOk_true hok.ck
  have hnu := hok.nu
  have E1 : freeV m i = m.units.getD i 0 - usedL m.bids i := by rw [freeV, if_neg (by omega)]; simp
  obtain ⟨ao, cap, hv, hel⟩ := hm.units_form
  obtain ⟨g, hao, hown, hcl, hfr⟩ := hel i hi
  subst hao
  have c8 : w.cell? ⟨V.q, 8, none⟩ = some (.slice (some ⟨g, 0, none⟩) m.units.length cap) := by rw [← hv]; exact hm.cell 8
  have hu0 := hok.un (m.units.getD i 0) (by simp [List.getD, List.getElem?_eq_getElem hi])
  have hus := usedL_le m.c i m.bids hok.bid
  have hbl := hok.bl
  have hus2 : 0 ≤ usedL m.bids i ∧ usedL m.bids i ≤ 300000 := by omega
  have hil : (i : Int) < (m.units.length : Int) := by omega
  rw [E1] at HF
  generalize freeE m i = fe at *
  clear hel hv hown hfr hus hm hok E1 HM
  generalize m.units.length = n at *
  generalize m.units.getD i 0 = u at *
  generalize usedL m.bids i = us at *
  obtain ⟨hu1, hu2⟩ := hu0
  obtain ⟨hu3, hu4⟩ := hus2
  go_enter Try.func91, Try.ntmps91
  go_wp2_with (go_at_call 73; refine HF.out.mono ?_; rintro e w' ⟨rfl, hw⟩; subst w')
  go_ret
  exact ⟨ret_int (by omega), rfl⟩

theorem freeZ_range {m : MkG} (hok : MkOk m) : InRange m.units.length (freeZ m) := by
  intro j hj
  have hu := hok.un (m.units.getD j 0) (by simp [List.getD, List.getElem?_eq_getElem hj])
  have hus := usedL_le m.c j m.bids hok.bid
  have hbl := hok.bl
  unfold freeZ
  omega
end Go.Proofs.Ytminceigjejipaa

/-
  THE PROGRAM's TICK (stage 3's landed code), ahead of the walks: the order, bid by bid; what a start makes of the market in memory.
-/
namespace Go.Proofs.Ytminceigjejipaa
open Go.RowKit

def worthB (a b : JobG) : Bool := decide (b.val * sizeJ a < a.val * sizeJ b)

/-- the order of the first k bids -/
structure OrdTo (m : MkG) (t : Int) (k : Nat) (l : List Nat) : Prop where
  mem : ∀ i, i ∈ l ↔ i < k ∧ ∃ b, m.bids[i]? = some b ∧ candB m t b = true
  sorted : l.Pairwise (fun i j => aheadI m.bids i j = true)
theorem OrdTo.zero (m : MkG) (t : Int) : OrdTo m t 0 [] := ⟨fun i => by simp, List.Pairwise.nil⟩
theorem OrdTo.skip {m : MkG} {t : Int} {k : Nat} {l : List Nat} {b : BidG} (h : OrdTo m t k l) (hb : m.bids[k]? = some b) (hc : candB m t b = false) : OrdTo m t (k + 1) l := by
  refine ⟨fun i => ⟨fun hi => ?_, fun ⟨h1, b', hb', hc'⟩ => ?_⟩, h.sorted⟩
  · obtain ⟨h1, h2⟩ := (h.mem i).1 hi
    exact ⟨by omega, h2⟩
  · refine (h.mem i).2 ⟨?_, b', hb', hc'⟩
    rcases Nat.lt_or_ge i k with e | e
    · exact e
    · obtain rfl : i = k := by omega
      rw [hb] at hb'
      obtain rfl := Option.some.inj hb'
      rw [hc] at hc'
      cases hc'
theorem OrdTo.done {m : MkG} {t : Int} {n : Nat} {l : List Nat} (h : OrdTo m t n l) (hn : n = m.bids.length) : IsOrder m t l := by
  refine ⟨fun i => ⟨fun hi => ((h.mem i).1 hi).2, fun ⟨b, hb, hc⟩ => (h.mem i).2 ⟨?_, b, hb, hc⟩⟩, h.sorted⟩
  have := (List.getElem?_eq_some_iff.1 hb).1
  omega
theorem worth_ahead {m : MkG} {i k : Nat} {a b : BidG} (ha : m.bids[i]? = some a) (hb : m.bids[k]? = some b) (h : worthB a.job b.job = true) : aheadI m.bids i k = true := by
  unfold aheadI
  rw [ha, hb]
  simp only [worthB, decide_eq_true_eq] at h
  rw [aheadJ_iff]
  exact .inl h
theorem worth_behind {m : MkG} {i k : Nat} {a b : BidG} (ha : m.bids[i]? = some a) (hb : m.bids[k]? = some b) (h : worthB a.job b.job = false) (hk : k < i) : aheadI m.bids k i = true := by
  unfold aheadI
  rw [ha, hb]
  simp only [worthB, decide_eq_false_iff_not] at h
  rw [aheadJ_iff]
  omega
/-- a bid more: it passes those alone that are worth less -/
theorem OrdTo.put {m : MkG} {t : Int} {k : Nat} {A B : List Nat} {b : BidG} (hs : SizesOk m.bids) (h : OrdTo m t k (A ++ B)) (hb : m.bids[k]? = some b) (hc : candB m t b = true)
    (hB : ∀ i ∈ B, ∀ c, m.bids[i]? = some c → worthB b.job c.job = true) (hA : ∀ i c, A.getLast? = some i → m.bids[i]? = some c → worthB b.job c.job = false) : OrdTo m t (k + 1) (A ++ k :: B) := by
  have key : ∀ i ∈ A, aheadI m.bids i k = true := by
    intro i hi
    obtain ⟨A', x, rfl⟩ : ∃ A' x, A = A' ++ [x] := by
      refine ⟨A.dropLast, A.getLast (List.ne_nil_of_mem hi), ?_⟩
      exact (List.dropLast_concat_getLast _).symm
    obtain ⟨hxk, c, hx, hxc⟩ := (h.mem x).1 (by simp)
    have hxa : aheadI m.bids x k = true := worth_behind hb hx (hA x c (by simp) hx) hxk
    rcases List.mem_append.1 hi with hi | hi
    · have hp := h.sorted
      rw [List.append_assoc, List.pairwise_append] at hp
      exact aheadI_trans hs (hp.2.2 i hi x (by simp)) hxa
    · simp at hi
      subst hi
      exact hxa
  refine ⟨fun i => ?_, ?_⟩
  · have hm := h.mem i
    simp only [List.mem_append, List.mem_cons] at hm ⊢
    constructor
    · rintro (hi | rfl | hi)
      · obtain ⟨h1, h2⟩ := hm.1 (.inl hi)
        exact ⟨by omega, h2⟩
      · exact ⟨by omega, b, hb, hc⟩
      · obtain ⟨h1, h2⟩ := hm.1 (.inr hi)
        exact ⟨by omega, h2⟩
    · rintro ⟨h1, h2⟩
      rcases Nat.lt_or_ge i k with e | e
      · rcases hm.2 ⟨e, h2⟩ with hi | hi
        · exact .inl hi
        · exact .inr (.inr hi)
      · exact .inr (.inl (by omega))
  · have hp := h.sorted
    rw [List.pairwise_append] at hp ⊢
    refine ⟨hp.1, ?_, fun x hx y hy => ?_⟩
    · rw [List.pairwise_cons]
      refine ⟨fun y hy => ?_, hp.2.1⟩
      obtain ⟨_, c, hyb, _⟩ := (h.mem y).1 (List.mem_append_right _ hy)
      exact worth_ahead hb hyb (hB y hy c hyb)
    · rcases List.mem_cons.1 hy with rfl | hy
      · exact key x hx
      · exact hp.2.2 x hx y hy

/-- the cells of an order -/
def ordCells (l : List Nat) : List Value := l.map fun (i : Nat) => Value.int .i64 (i : Int)
theorem ordCells_swap (A B : List Nat) (x i : Nat) : ((ordCells (A ++ [x] ++ i :: B)).set (A.length + 1) (.int .i64 (x : Int))).set A.length (.int .i64 (i : Int)) = ordCells (A ++ i :: x :: B) := by
  simp [ordCells]

theorem yusedL_start {m : MkG} {i : Nat} {b : BidG} (hb : m.bids[i]? = some b) (h1 : b.state ≠ 2) (t s : Int) : usedL (m.bids.set i { b with state := 2, start := t }) s = usedL m.bids s + if t ≤ s ∧ s < t + b.job.len then b.job.units else 0 := by
  obtain ⟨l, hl⟩ : ∃ l, l = m.bids := ⟨_, rfl⟩
  rw [← hl] at hb ⊢
  clear hl
  induction l generalizing i with
  | nil => simp at hb
  | cons y l ih =>
    cases i with
    | zero =>
      simp at hb
      subst hb
      simp [usedL, BidG.runs, h1]
      omega
    | succ i =>
      simp only [List.getElem?_cons_succ] at hb
      have := ih hb
      simp only [usedL, List.set_cons_succ, List.map_cons, List.sum_cons] at this ⊢
      omega

theorem ybid_set {r : Nat} {u : Value} {b b' : BidG} (hc : ybidCells b' = (ybidCells b).set r u) (hr : r < 9) : ∀ (l : List BidG) (i : Nat), l[i]? = some b → (l.set i b').flatMap ybidCells = (l.flatMap ybidCells).set (i * 9 + r) u := by
  intro l
  induction l with
  | nil => intro i hb; simp at hb
  | cons y l ih =>
    intro i hb
    cases i with
    | zero =>
      simp at hb
      subst hb
      simp only [List.set_cons_zero, List.flatMap_cons, hc, Nat.zero_mul, Nat.zero_add]
      rw [List.set_append_left _ _ (by simpa [ybidCells] using hr)]
    | succ i =>
      simp only [List.getElem?_cons_succ] at hb
      simp only [List.set_cons_succ, List.flatMap_cons, ih i hb]
      rw [show (i + 1) * 9 + r = (ybidCells y).length + (i * 9 + r) by simp [ybidCells]; omega]
      rw [List.set_append_right _ _ (by omega)]
      simp
theorem ybid_row {w : World} {v : Value} {n i g r : Nat} {u : Value} {b b' : BidG} {l : List BidG} (h : w.ownsRow 0 125 9 v n (l.flatMap ybidCells)) (hb : l[i]? = some b) (hn : n = l.length) (hg : v.ownBlock = some g) (hc : ybidCells b' = (ybidCells b).set r u) (hr : r < 9) :
    (w.setCell ⟨g, i * 9 + r, none⟩ u).ownsRow 0 125 9 v n ((l.set i b').flatMap ybidCells) := by
  have hil : i < l.length := (List.getElem?_eq_some_iff.1 hb).1
  rw [ybid_set hc hr l i hb]
  rcases h.2 with ⟨hv, h0⟩ | ⟨g', cap, cur, hv, hb0, hh, hc', hmx, hsz, htake⟩
  · omega
  · have hgg : g' = g := by rw [hv] at hg; simpa [Value.ownBlock] using hg
    subst hgg
    refine ⟨by simp [h.1], .inr ⟨g', cap, cur.setIfInBounds (i * 9 + r) u, hv, hb0, box_set hh _, hc', hmx, by simpa using hsz, ?_⟩⟩
    rw [Array.toList_setIfInBounds, List.take_set, htake]

/-- a bid starts: the calendar knows of it, then its two cells are written -/
theorem YmAt.startB {w w' : World} {V : YV} {m : MkG} {i g a e : Nat} {b : BidG} (h : YmAt w V m) (hb : m.bids[i]? = some b) (h1 : b.state ≠ 2) (hg : V.bv.ownBlock = some g) (he : (e : Int) = (a : Int) + b.job.len)
    (hrow : RowAt 98 w' V.r V.g m.units.length V.cc (addZ (freeZ m) a e (- b.job.units))) (hc : Chg (fun k => k = V.g) w w') :
    YmAt ((w'.setCell ⟨g, i * 9 + 7, none⟩ (.int .i64 2)).setCell ⟨g, i * 9 + 8, none⟩ (.int .i64 (a : Int))) V (startM m i a) ∧ Chg V.foot w ((w'.setCell ⟨g, i * 9 + 7, none⟩ (.int .i64 2)).setCell ⟨g, i * 9 + 8, none⟩ (.int .i64 (a : Int))) := by
  have hil : i < m.bids.length := (List.getElem?_eq_some_iff.1 hb).1
  have hgp : g ≠ V.q := fun e => ownsRow_box h.bids h.box (by decide) (e ▸ hg)
  obtain ⟨curg, hg1, _⟩ := h.cal.hg
  have hgg0 : g ≠ V.g := fun e => ownsRow_box h.bids hg1 (by decide) (e ▸ hg)
  have hgr : g ≠ V.r := fun e => ownsRow_box h.bids h.cal.hp (by decide) (e ▸ hg)
  have hgf : V.foot g := .inr (.inr (.inr (.inr (.inl hg))))
  obtain ⟨W, hW⟩ : ∃ W, W = (w'.setCell ⟨g, i * 9 + 7, none⟩ (.int .i64 2)).setCell ⟨g, i * 9 + 8, none⟩ (.int .i64 (a : Int)) := ⟨_, rfl⟩
  rw [← hW]
  have far : ∀ k, k ≠ g → W.heap[k]? = w'.heap[k]? := fun k hk => by rw [hW, Below.heap_setCell _ _ _ _ hk, Below.heap_setCell _ _ _ _ hk]
  have mid : ∀ k, V.foot k → k ≠ V.g → w'.heap[k]? = w.heap[k]? := fun k hk hn => hc.block k (h.foot_lt k hk) hn
  have old : ∀ {e : TypeId} {size n : Nat} {v : Value} {xs : List Value}, w.ownsRow 0 e size v n xs → e ≠ 125 → (∀ k, v.ownBlock = some k → V.foot k ∧ k ≠ V.g) → W.ownsRow 0 e size v n xs := by
    intro e size n v xs ho he hf
    refine ownsRow_keep ho (fun k hk => ?_)
    rw [far k (fun e => ownsRow_apart ho h.bids he hk (e ▸ hg))]
    exact mid k (hf k hk).1 (hf k hk).2
  have hsm : startM m i a = { m with bids := m.bids.set i { b with state := 2, start := a } } := by unfold startM; rw [hb]
  rw [hsm]
  refine ⟨⟨?_, ?_, old h.susp (by decide) (fun k hk => ⟨.inr (.inr (.inr (.inr (.inr hk)))), fun e => ownsRow_box h.susp hg1 (by decide) (e ▸ hk)⟩), old h.units (by decide) (fun k hk => ⟨.inr (.inr (.inr (.inl hk))), fun e => h.ne (e ▸ hk)⟩), ?_, h.ne⟩, ?_⟩
  · rw [far _ (Ne.symm hgp), mid _ (.inl rfl) (cells_ne h.box hg1 (by decide))]
    exact h.box
  · have hu := ownsRow_keep (w' := w') h.bids (fun k hk => mid k (.inr (.inr (.inr (.inr (.inl hk))))) (fun e => ownsRow_box h.bids hg1 (by decide) (e ▸ hk)))
    have r1 := ybid_row (r := 7) (u := .int .i64 2) (b' := { b with state := 2 }) hu hb rfl hg rfl (by omega)
    have r2 := ybid_row (r := 8) (u := .int .i64 (a : Int)) (b := { b with state := 2 }) (b' := { b with state := 2, start := a }) (i := i) r1 (by simp [hil]) (by simp) hg rfl (by omega)
    rw [hW]
    simpa using r2
  · refine (hrow.frame (far _ (Ne.symm hgr)) (far _ (Ne.symm hgg0))).congr (fun j hj => ?_)
    show addZ (freeZ m) a e (- b.job.units) j = m.units.getD j 0 - usedL (m.bids.set i { b with state := 2, start := a }) j
    rw [yusedL_start hb h1]
    unfold addZ freeZ
    by_cases e1 : a ≤ j ∧ j < e
    · rw [if_pos e1, if_pos (by omega)]
      omega
    · rw [if_neg e1, if_neg (by omega)]
      omega
  · rw [hW]
    exact ((hc.mono (O' := V.foot) (fun _ _ h => .inr (.inr (.inl h)))).setCell (.inl hgf) _).setCell (.inl hgf) _

/-- a bid's state, written in place -/
theorem YmAt.setState' {w : World} {V : YV} {m : MkG} {i g : Nat} {b : BidG} {s : Int} (h : YmAt w V m) (hb : m.bids[i]? = some b) (h1 : b.state ≠ 2) (h2 : s ≠ 2) (hg : V.bv.ownBlock = some g) :
    YmAt (w.setCell ⟨g, i * 9 + 7, none⟩ (.int .i64 s)) V { m with bids := m.bids.set i { b with state := s } } := by
  have hgp : g ≠ V.q := fun e => ownsRow_box h.bids h.box (by decide) (e ▸ hg)
  have far : ∀ k, k ≠ g → (w.setCell ⟨g, i * 9 + 7, none⟩ (.int .i64 s)).heap[k]? = w.heap[k]? := fun k hk => Below.heap_setCell _ _ _ _ hk
  have old : ∀ {e : TypeId} {size n : Nat} {v : Value} {xs : List Value}, w.ownsRow 0 e size v n xs → e ≠ 125 → (w.setCell ⟨g, i * 9 + 7, none⟩ (.int .i64 s)).ownsRow 0 e size v n xs := by
    intro e size n v xs ho he
    exact ownsRow_keep ho (fun k hk => far k (fun e => ownsRow_apart ho h.bids he hk (e ▸ hg)))
  obtain ⟨curg, hg1, _⟩ := h.cal.hg
  refine ⟨(far _ (Ne.symm hgp)).trans h.box, ?_, old h.susp (by decide), old h.units (by decide), ?_, h.ne⟩
  · have r1 := ybid_row (r := 7) (u := .int .i64 s) (b' := { b with state := s }) h.bids hb rfl hg rfl (by omega)
    simpa using r1
  · refine (h.cal.frame (far _ (fun e => ownsRow_box h.bids h.cal.hp (by decide) (e ▸ hg))) (far _ (fun e => ownsRow_box h.bids hg1 (by decide) (e ▸ hg)))).congr (fun j _ => ?_)
    show m.units.getD j 0 - usedL m.bids j = m.units.getD j 0 - usedL (m.bids.set i { b with state := s }) j
    rw [usedL_set m.bids i b hb s h1 h2]

/-- the time, written -/
theorem YmAt.setTime {w : World} {V : YV} {m : MkG} {t : Int} (h : YmAt w V m) : YmAt (w.setCell ⟨V.q, 5, none⟩ (.int .i64 t)) V { m with time := t } := by
  have far : ∀ k, k ≠ V.q → (w.setCell ⟨V.q, 5, none⟩ (.int .i64 t)).heap[k]? = w.heap[k]? := fun k hk => Below.heap_setCell _ _ _ _ hk
  have old : ∀ {e : TypeId} {size n : Nat} {v : Value} {xs : List Value}, w.ownsRow 0 e size v n xs → e ≠ 107 → (w.setCell ⟨V.q, 5, none⟩ (.int .i64 t)).ownsRow 0 e size v n xs := by
    intro e size n v xs ho he
    exact ownsRow_keep ho (fun k hk => far k (fun e => ownsRow_box ho h.box he (e ▸ hk)))
  obtain ⟨curg, hg1, _⟩ := h.cal.hg
  refine ⟨?_, old h.bids (by decide), old h.susp (by decide), old h.units (by decide), h.cal.frame (far _ (cells_ne h.cal.hp h.box (by decide))) (far _ (cells_ne hg1 h.box (by decide))), h.ne⟩
  rw [box_set h.box]
  rfl

/-- the jobs' bounds, as the walks want them -/
theorem BidOk.nums {m : MkG} {b : BidG} (hok : MkOk m) (h : BidOk m.c b) : (0 ≤ b.job.arr ∧ b.job.arr ≤ 64) ∧ (0 ≤ b.job.dl ∧ b.job.dl ≤ 64) ∧ (1 ≤ b.job.len ∧ b.job.len ≤ 64) ∧ (1 ≤ b.job.units ∧ b.job.units ≤ 1000) ∧ 1 ≤ b.job.val ∧ b.job.val ≤ 1048576 := by
  have hj := jobIn_true h.job
  have hc := cfgOk_true hok.ck
  have := h.a0
  have := h.a1
  omega
theorem cand_open {m : MkG} (hok : MkOk m) (hg : m.ghost = -1) (t : Int) {b : BidG} (hb : b ∈ m.bids) : candB m t b = b.openB m t := by
  have := (hok.bid b hb).e0
  unfold candB
  rw [hg]
  have e : (b.entry != -1) = true := by simp; omega
  rw [e, Bool.and_true]
/-- the code's own test -/
theorem open_split {m : MkG} (ha : ArrOk m) {b : BidG} (hb : b ∈ m.bids) (hok : MkOk m) : b.openB m m.time = ((b.state == 1) && !suspAt m b.ten && decide (b.job.arr ≤ m.time) && decide (m.time + b.job.len ≤ b.job.dl)) := by
  unfold BidG.openB
  have h0 := (hok.bid b hb).a0
  have : decide (b.arrival ≤ m.time) = decide (b.job.arr ≤ m.time) := by
    rw [Bool.eq_iff_iff]
    simp
    rcases ha b hb with h | h <;> omega
  rw [this]

/-- the least of what is free, and whether it fits -/
theorem fits_min {m : MkG} {b : BidG} {a e : Nat} (hok : MkOk m) (he : (e : Int) = (a : Int) + b.job.len) (hl : 1 ≤ b.job.len) (hx : e ≤ m.units.length) : fitsB m b a = decide (b.job.units ≤ minZ (freeZ m) a (e - 1 - a)) := by
  have hnu := hok.nu
  rw [Bool.eq_iff_iff]
  simp only [fitsB, List.all_eq_true, List.mem_range, decide_eq_true_eq]
  rw [le_minZ]
  constructor
  · intro h j hj
    have := h j (by omega)
    rw [freeV, if_neg (by omega), show ((a : Int) + (j : Int)).toNat = a + j by omega] at this
    unfold freeZ
    rw [Int.natCast_add]
    exact this
  · intro h j hj
    have := h j (by omega)
    rw [freeV, if_neg (by omega), show ((a : Int) + (j : Int)).toNat = a + j by omega]
    unfold freeZ at this
    rw [Int.natCast_add] at this
    exact this
end Go.Proofs.Ytminceigjejipaa
