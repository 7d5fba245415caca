import Derived.Test.YtminceigjejipaaG5
import Derived.Test.YtminceigjejipaaG18
import Derived.Test.YtminceigjejipaaG17
import Derived.Test.YtminceigjejipaaYpO
/-
  THE LANDED MARKET MEETS YardSpec.
-/
namespace Go.Proofs.Ytminceigjejipaa
open Go.RowKit

/-- a call has been logged and made: the entry of a bid that came of it is still to be kept -/
def YMid (w : World) (p : Nat) (V : YV) (L : LV) (m : MkG) (c : CallG) (m' : MkG) (w' : World) : Prop :=
  ∃ V' L', YmAt w' V' m' ∧ YbAt w' p V'.q L' (m.log ++ [c]) (m.bids.map (·.entry)) m.charges m.paid ∧ (∀ k, L'.foot p k → ¬ V'.foot k) ∧ Chg (yfoot p V L) w w' ∧ ∀ k, yfoot p V' L' k → yfoot p V L k ∨ w.heap.size ≤ k
theorem YMid.done {w w' : World} {p : Nat} {V : YV} {L : LV} {m m' : MkG} {c : CallG} (h : YMid w p V L m c m' w') (h1 : m'.log = m.log ++ [c]) (h2 : m'.bids.map (·.entry) = m.bids.map (·.entry)) (h3 : m'.charges = m.charges) (h4 : m'.paid = m.paid) : YvTo w p V L m' w' := by
  obtain ⟨V', L', a1, a2, a3, a4, a5⟩ := h
  exact ⟨V', L', ⟨by rw [h1, h2, h3, h4]; exact a2, a1, a3⟩, a4, a5⟩
theorem YMid.start {w w1 w' : World} {p : Nat} {V : YV} {L : LV} {m m' : MkG} {c : CallG} (hc : Chg (fun _ => False) w w1) (h : YMid w1 p V L m c m' w') : YMid w p V L m c m' w' := by
  obtain ⟨V', L', a1, a2, a3, a4, a5⟩ := h
  refine ⟨V', L', a1, a2, a3, (hc.mono (fun _ _ h => h.elim)).trans a4 (fun _ _ h => h), fun k hk => ?_⟩
  rcases a5 k hk with h | h
  · exact .inl h
  · exact .inr (Nat.le_trans hc.size h)
theorem YMid.of {w w1 w2 : World} {p : Nat} {V : YV} {L : LV} {m m' : MkG} {c : CallG} {V1 : YV} {L1 : LV} (a2 : Chg (yfoot p V L) w w1) (a3 : ∀ k, yfoot p V1 L1 k → yfoot p V L k ∨ w.heap.size ≤ k) (a1 : YAtV w1 p V1 L1 (m.logs c)) (h2 : YmTo w1 V1 m' w2) : YMid w p V L m c m' w2 := by
  obtain ⟨V', b0, b1, b2, b3, b4, b5⟩ := a1.market h2
  refine ⟨V', L1, b1, b2, b3, a2.trans b4 (fun k hk hf => ?_), fun k hk => ?_⟩
  · rcases a3 k hf with h | h
    · exact h
    · omega
  · rcases b5 k hk with h | h
    · exact a3 k h
    · exact .inr (Nat.le_trans a2.size h)

set_option maxRecDepth 100000 in
set_option maxHeartbeats 2000000 in
theorem logAnd_full (p : Nat) (V : YV) (L : LV) (m : MkG) (x : YCG) (w : World) (hy : YAtV w p V L m) (hl : m.log.length = 300) :
    Calls Try.prog 67 #[.pointer (some ⟨p, 0, none⟩), .agg #[.int .i64 x.kind, .int .i64 x.ten, .int .i64 x.ref, .int .i64 x.job.arr, .int .i64 x.job.dl, .int .i64 x.job.len, .int .i64 x.job.units, .int .i64 x.job.val, .int .i64 x.fr, .int .i64 x.to, .int .i64 x.un, .bool x.on]] w fun e w' => e = .returned (.int .i64 2) ∧ Chg (fun _ => False) w w' := by
  have HC := hide ((Chg.refl (fun _ => False) w).alloc (.cells #[.int .i64 x.kind, .int .i64 x.ten, .int .i64 x.ref, .int .i64 x.job.arr, .int .i64 x.job.dl, .int .i64 x.job.len, .int .i64 x.job.units, .int .i64 x.job.val, .int .i64 x.fr, .int .i64 x.to, .int .i64 x.un, .bool x.on] 132))
  have HSUB := hide (log_full p V L m x _ (hy.chg0 HC.out) hl)
  clear hy hl
  go_enter Try.func67, Try.ntmps67
  go_wp2_with fail
  refine HSUB.out.mono ?_
  rintro e w1 ⟨rfl, hq⟩
  have HQ := hide (HC.out.trans hq (fun _ _ h => h))
  clear hq HSUB
  go_wp2
  go_ret
  exact ⟨rfl, HQ.out⟩

set_option maxRecDepth 100000 in
set_option maxHeartbeats 4000000 in
theorem logAnd_ok (p : Nat) (V : YV) (L : LV) (m : MkG) (x : YCG) (c : CallG) (hx : ycallOf c = x) (w : World) (hy : YAtV w p V L m) (hl : m.log.length < 300) (Q : Int → MkG → Prop)
    (HA : ∀ (w1 : World) (V1 : YV), YmAt w1 V1 m → Calls Try.prog 76 #[.pointer (some ⟨V1.q, 0, none⟩), .agg #[.int .i64 x.kind, .int .i64 x.ten, .int .i64 x.ref, .int .i64 x.job.arr, .int .i64 x.job.dl, .int .i64 x.job.len, .int .i64 x.job.units, .int .i64 x.job.val, .int .i64 x.fr, .int .i64 x.to, .int .i64 x.un, .bool x.on]] w1 fun e w' => ∃ z m', e = .returned (.int .i64 z) ∧ Q z m' ∧ YmTo w1 V1 m' w') :
    Calls Try.prog 67 #[.pointer (some ⟨p, 0, none⟩), .agg #[.int .i64 x.kind, .int .i64 x.ten, .int .i64 x.ref, .int .i64 x.job.arr, .int .i64 x.job.dl, .int .i64 x.job.len, .int .i64 x.job.units, .int .i64 x.job.val, .int .i64 x.fr, .int .i64 x.to, .int .i64 x.un, .bool x.on]] w fun e w' => ∃ z m', e = .returned (.int .i64 z) ∧ Q z m' ∧ YMid w p V L m c m' w' := by
  have HHA := hide HA
  have HLT := hide hy.foot_lt
  have hc1 := (Chg.refl (fun _ => False) w).alloc (.cells #[.int .i64 x.kind, .int .i64 x.ten, .int .i64 x.ref, .int .i64 x.job.arr, .int .i64 x.job.dl, .int .i64 x.job.len, .int .i64 x.job.units, .int .i64 x.job.val, .int .i64 x.fr, .int .i64 x.to, .int .i64 x.un, .bool x.on] 132)
  have HC := hide hc1
  have HSUB := hide (log_ok p V L m x c hx _ (hy.chg0 hc1) hl)
  clear hy hl HA hx
  go_enter Try.func67, Try.ntmps67
  go_wp2_with fail
  obtain ⟨w1, hw1⟩ : ∃ w1, w1 = w.alloc (.cells #[.int .i64 x.kind, .int .i64 x.ten, .int .i64 x.ref, .int .i64 x.job.arr, .int .i64 x.job.dl, .int .i64 x.job.len, .int .i64 x.job.units, .int .i64 x.job.val, .int .i64 x.fr, .int .i64 x.to, .int .i64 x.un, .bool x.on] 132) := ⟨_, rfl⟩
  rw [← hw1] at HSUB HC ⊢
  have hb1 : w1.heap[w.heap.size]? = some (.cells #[.int .i64 x.kind, .int .i64 x.ten, .int .i64 x.ref, .int .i64 x.job.arr, .int .i64 x.job.dl, .int .i64 x.job.len, .int .i64 x.job.units, .int .i64 x.job.val, .int .i64 x.fr, .int .i64 x.to, .int .i64 x.un, .bool x.on] 132 (0, 0)) := by rw [hw1]; exact heap_alloc_new w _
  have hs1 : w.heap.size < w1.heap.size := (Array.getElem?_eq_some_iff.1 hb1).1
  clear hw1 hc1
  refine HSUB.out.mono ?_
  rintro e w2 ⟨rfl, V1, L1, a1, a2, a3⟩
  have hno : ¬ yfoot p V L w.heap.size := fun h => by have := HLT.out _ h; omega
  have hb2 : w2.heap[w.heap.size]? = some (.cells #[.int .i64 x.kind, .int .i64 x.ten, .int .i64 x.ref, .int .i64 x.job.arr, .int .i64 x.job.dl, .int .i64 x.job.len, .int .i64 x.job.units, .int .i64 x.job.val, .int .i64 x.fr, .int .i64 x.to, .int .i64 x.un, .bool x.on] 132 (0, 0)) := (a2.block _ hs1 hno).trans hb1
  have b0 : w2.cell? ⟨w.heap.size, 0, none⟩ = some (.int .i64 x.kind) := by unfold World.cell?; rw [hb2]; rfl
  have b1 : w2.cell? ⟨w.heap.size, 1, none⟩ = some (.int .i64 x.ten) := by unfold World.cell?; rw [hb2]; rfl
  have b2 : w2.cell? ⟨w.heap.size, 2, none⟩ = some (.int .i64 x.ref) := by unfold World.cell?; rw [hb2]; rfl
  have b3 : w2.cell? ⟨w.heap.size, 3, none⟩ = some (.int .i64 x.job.arr) := by unfold World.cell?; rw [hb2]; rfl
  have b4 : w2.cell? ⟨w.heap.size, 4, none⟩ = some (.int .i64 x.job.dl) := by unfold World.cell?; rw [hb2]; rfl
  have b5 : w2.cell? ⟨w.heap.size, 5, none⟩ = some (.int .i64 x.job.len) := by unfold World.cell?; rw [hb2]; rfl
  have b6 : w2.cell? ⟨w.heap.size, 6, none⟩ = some (.int .i64 x.job.units) := by unfold World.cell?; rw [hb2]; rfl
  have b7 : w2.cell? ⟨w.heap.size, 7, none⟩ = some (.int .i64 x.job.val) := by unfold World.cell?; rw [hb2]; rfl
  have b8 : w2.cell? ⟨w.heap.size, 8, none⟩ = some (.int .i64 x.fr) := by unfold World.cell?; rw [hb2]; rfl
  have b9 : w2.cell? ⟨w.heap.size, 9, none⟩ = some (.int .i64 x.to) := by unfold World.cell?; rw [hb2]; rfl
  have b10 : w2.cell? ⟨w.heap.size, 10, none⟩ = some (.int .i64 x.un) := by unfold World.cell?; rw [hb2]; rfl
  have b11 : w2.cell? ⟨w.heap.size, 11, none⟩ = some (.bool x.on) := by unfold World.cell?; rw [hb2]; rfl
  have cq : w2.cell? ⟨p, 0, none⟩ = some (.pointer (some ⟨V1.q, 0, none⟩)) := a1.cq
  have HN := hide (show ¬ V1.foot p ∧ ¬ V1.foot w.heap.size from ⟨a1.out p (.inl rfl), fun h => by
    rcases a3 _ (.inr h) with h' | h'
    · exact hno h'
    · omega⟩)
  have hp2 : p < w2.heap.size := a1.lt
  have hs2 : w.heap.size < w2.heap.size := Nat.lt_of_lt_of_le hs1 a2.size
  have HA2 := hide (fun (w0 : World) (hc : Chg (fun _ => False) w2 w0) => HHA.out w0 V1 ((show YmAt w2 V1 m from ⟨a1.mkt.box, a1.mkt.bids, a1.mkt.susp, a1.mkt.units, a1.mkt.cal, a1.mkt.ne⟩).chg0 hc))
  have HFIN := hide (fun (m' : MkG) (w' : World) (h : YmTo w2 V1 m' w') => show YMid w p V L m c m' w' from YMid.start HC.out (YMid.of a2 a3 a1 h))
  clear hb1 hb2 hs1 hno a1 a2 a3 HSUB HHA HC
  go_wp2
  go_region_held3 (fun w' => w'.cell? ⟨p, 0, none⟩ = some (.pointer (some ⟨V1.q, 0, none⟩)) ∧ w'.cell? ⟨w.heap.size, 0, none⟩ = some (.int .i64 x.kind) ∧ w'.cell? ⟨w.heap.size, 1, none⟩ = some (.int .i64 x.ten) ∧ w'.cell? ⟨w.heap.size, 2, none⟩ = some (.int .i64 x.ref) ∧ w'.cell? ⟨w.heap.size, 3, none⟩ = some (.int .i64 x.job.arr) ∧ w'.cell? ⟨w.heap.size, 4, none⟩ = some (.int .i64 x.job.dl) ∧ w'.cell? ⟨w.heap.size, 5, none⟩ = some (.int .i64 x.job.len) ∧ w'.cell? ⟨w.heap.size, 6, none⟩ = some (.int .i64 x.job.units) ∧ w'.cell? ⟨w.heap.size, 7, none⟩ = some (.int .i64 x.job.val) ∧ w'.cell? ⟨w.heap.size, 8, none⟩ = some (.int .i64 x.fr) ∧ w'.cell? ⟨w.heap.size, 9, none⟩ = some (.int .i64 x.to) ∧ w'.cell? ⟨w.heap.size, 10, none⟩ = some (.int .i64 x.un) ∧ w'.cell? ⟨w.heap.size, 11, none⟩ = some (.bool x.on)) (go_keep)
    (first | (go_at_call 76; refine (HA2.out w2.drew ((Chg.refl _ _).drew)).mono ?_; rintro e w3 ⟨z, m', rfl, hq, hto⟩; have hqc := hto.choose_spec.2.2.1; have y0 := hqc.cell (p := ⟨p, 0, none⟩) hp2 HN.out.1; have x0 := hqc.cell (p := ⟨w.heap.size, 0, none⟩) hs2 HN.out.2; have x1 := hqc.cell (p := ⟨w.heap.size, 1, none⟩) hs2 HN.out.2; have x2 := hqc.cell (p := ⟨w.heap.size, 2, none⟩) hs2 HN.out.2; have x3 := hqc.cell (p := ⟨w.heap.size, 3, none⟩) hs2 HN.out.2; have x4 := hqc.cell (p := ⟨w.heap.size, 4, none⟩) hs2 HN.out.2; have x5 := hqc.cell (p := ⟨w.heap.size, 5, none⟩) hs2 HN.out.2; have x6 := hqc.cell (p := ⟨w.heap.size, 6, none⟩) hs2 HN.out.2; have x7 := hqc.cell (p := ⟨w.heap.size, 7, none⟩) hs2 HN.out.2; have x8 := hqc.cell (p := ⟨w.heap.size, 8, none⟩) hs2 HN.out.2; have x9 := hqc.cell (p := ⟨w.heap.size, 9, none⟩) hs2 HN.out.2; have x10 := hqc.cell (p := ⟨w.heap.size, 10, none⟩) hs2 HN.out.2; have x11 := hqc.cell (p := ⟨w.heap.size, 11, none⟩) hs2 HN.out.2; have HTO := hide hto; have HQ := hide hq; clear hqc hto hq))
  all_goals
    clear y0 x0 x1 x2 x3 x4 x5 x6 x7 x8 x9 x10 x11 cq b0 b1 b2 b3 b4 b5 b6 b7 b8 b9 b10 b11
    go_wp2
    go_ret
    exact ⟨z, m', rfl, HQ.out, HFIN.out _ _ (YmTo.start ((Chg.refl _ _).drew) HTO.out)⟩

theorem submitM_rest (m : MkG) (ten ref : Int) (j : JobG) : (submitM m ten ref j).log = m.log ++ [callSubmit ten ref j] ∧ (submitM m ten ref j).charges = m.charges ∧ (submitM m ten ref j).paid = m.paid ∧ (submitM m ten ref j).bids = if submitE m ten ref j = 0 then m.bids ++ [newBid m ten ref j] else m.bids := by
  unfold submitM
  simp only
  split <;> exact ⟨rfl, rfl, rfl, rfl⟩
theorem ents_key {l l' : List BidG} (h : ∀ k : Nat, (l'[k]?).map keyB = (l[k]?).map keyB) : l'.map (·.entry) = l.map (·.entry) := by
  have h1 := key_list h
  have h2 := congrArg (List.map (fun x : Int × Int × JobG × Int × Int × Bool => x.2.2.2.2.1)) h1
  rw [List.map_map, List.map_map] at h2
  exact h2
theorem cancelM_rest (m : MkG) (ten ref : Int) : (cancelM m ten ref).log = m.log ++ [callCancel ten ref] ∧ (cancelM m ten ref).charges = m.charges ∧ (cancelM m ten ref).paid = m.paid := by
  unfold cancelM
  simp only
  split <;> exact ⟨rfl, rfl, rfl⟩
theorem suspendM_rest (m : MkG) (ten : Int) (on : Bool) : (suspendM m ten on).log = m.log ++ [callSuspend ten on] ∧ (suspendM m ten on).charges = m.charges ∧ (suspendM m ten on).paid = m.paid ∧ (suspendM m ten on).bids = m.bids := by
  unfold suspendM
  simp only
  split <;> exact ⟨rfl, rfl, rfl, rfl⟩
theorem CapRes.rest {m m' : MkG} {f t u z : Int} (h : CapRes m f t u z m') : m'.log = m.log ++ [callCapacity f t u] ∧ m'.charges = m.charges ∧ m'.paid = m.paid ∧ m'.bids = m.bids := by
  rcases h with ⟨_, _, rfl⟩ | ⟨_, _, _, rfl⟩ | ⟨_, _, _, rfl⟩ <;> exact ⟨rfl, rfl, rfl, rfl⟩

theorem subs_arm {w w1 w2 : World} {p q : Nat} {L : LV} {lg : List CallG} {es : List Int} {ch : List InvG} {pd : List Int} {x : Int} {ao : Option Addr} {cap n g cap' H : Nat} (h : YbAt w p q L lg es ch pd) (hv : L.nv = .slice ao es.length cap) (hn : n = es.length) (hc1 : Chg (fun _ => False) w w1)
    (hown : w2.ownsRow 0 3 1 (.slice (some ⟨g, 0, none⟩) (n + 1) cap') (n + 1) (es.map (Value.int .i64) ++ [.int .i64 x])) (hgrow : w1.grownBy w2 (Value.ownBlock (.slice ao n cap))) (hat : Value.ownBlock (.slice ao n cap) = some g ∨ g = H) (hH : w.heap.size ≤ H) :
    w2.cell? ⟨p, 2, none⟩ = some (.slice ao n cap) ∧ w2.frozen? ⟨p, 2, none⟩ = false ∧ Hid (YbTo w p q L lg (es ++ [x]) ch pd (w2.setCell ⟨p, 2, none⟩ (.slice (some ⟨g, 0, none⟩) (n + 1) cap'))) := by
  subst hn
  rw [← hv] at hgrow hat ⊢
  exact h.subMore hc1 hown hgrow (by rcases hat with h | h; exact .inl h; exact .inr (by omega))

/-- the entry of a new bid is kept -/
theorem YMid.sub {w w1 w2 : World} {p : Nat} {V V1 : YV} {L L1 : LV} {m : MkG} {ten ref : Int} {j : JobG} (he : submitE m ten ref j = 0) (a1 : YmAt w1 V1 (submitM m ten ref j)) (a3 : ∀ k, L1.foot p k → ¬ V1.foot k) (a4 : Chg (yfoot p V L) w w1) (a5 : ∀ k, yfoot p V1 L1 k → yfoot p V L k ∨ w.heap.size ≤ k)
    (ht : YbTo w1 p V1.q L1 (m.log ++ [callSubmit ten ref j]) (m.bids.map (·.entry) ++ [(m.log.length : Int)]) m.charges m.paid w2) : YvTo w p V L (submitM m ten ref j) w2 := by
  obtain ⟨r1, r2, r3, r4⟩ := submitM_rest m ten ref j
  rw [if_pos he] at r4
  obtain ⟨L2, b1, b2, b3⟩ := ht
  refine ⟨V1, L2, ⟨?_, a1.chg b2 (fun k hk e => a3 k e hk), fun k hk hv => ?_⟩, a4.trans b2 (fun k hk hf => ?_), fun k hk => ?_⟩
  · rw [r1, r2, r3, r4, List.map_append]
    exact b1
  · rcases b3 k hk with e | e
    · exact a3 k e hv
    · have := a1.foot_lt k hv
      omega
  · rcases a5 k (.inl hf) with h | h
    · exact h
    · omega
  · rcases hk with hk | hk
    · rcases b3 k hk with e | e
      · exact a5 k (.inl e)
      · exact .inr (Nat.le_trans a4.size e)
    · exact a5 k (.inr hk)

set_option maxRecDepth 100000 in
set_option maxHeartbeats 4000000 in
theorem ySubmit (w : World) (p : Nat) (F : Nat → Prop) (m : MkG) (ten ref : Int) (j : JobG) (hy : YAt w p F m) (hok : MkOk m) :
    Calls Try.prog 45 #[.pointer (some ⟨p, 0, none⟩), .int .i64 ten, .int .i64 ref, jobV j] w fun e w' => ∃ z m', e = .returned (.int .i64 z) ∧ SubmitRes m ten ref j z m' ∧ YTo YAt w p F m' w' := by
  unfold jobV
  obtain ⟨V, L, hF, hv, har, hch⟩ := hy
  have HF := hide hF
  have HV := hide hv
  have HOK := hide hok
  have HAR := hide har
  have HCH := hide hch
  clear hF hv hok har hch
  by_cases hl : m.log.length = 300
  · have HL := hide hl
    clear hl
    go_enter Try.func45, Try.ntmps45
    go_wp2_with fail
    refine (logAnd_full p V L m (ycallOf (callSubmit ten ref j)) _ (HV.out.chg0 ((Chg.refl _ _).alloc _)) HL.out).mono ?_
    rintro e w' ⟨rfl, hq⟩
    have HQ := hide (((Chg.refl _ _).alloc _).trans hq (fun _ _ h => h))
    clear hq
    go_wp2
    go_ret
    exact ⟨2, m, rfl, .inl ⟨HL.out, rfl, rfl⟩, (YvTo.same HV.out HQ.out).yto HF.out HAR.out HCH.out⟩
  · have hl' : m.log.length < 300 := by have := HOK.out.nl; omega
    have HL := hide hl'
    clear hl hl'
    go_enter Try.func45, Try.ntmps45
    go_wp2_with fail
    refine (logAnd_ok p V L m (ycallOf (callSubmit ten ref j)) (callSubmit ten ref j) rfl _ (HV.out.chg0 ((Chg.refl _ _).alloc _)) HL.out (fun z m' => z = submitE m ten ref j ∧ m' = submitM m ten ref j) (fun w1 V1 h1 => (answer_submit V1 m w1 ten ref j h1 HOK.out).mono (fun e w' ⟨q1, q2⟩ => ⟨_, _, q1, ⟨rfl, rfl⟩, q2⟩))).mono ?_
    rintro e w1 ⟨z, m', rfl, ⟨hz, hm'⟩, hmid⟩
    subst hz hm'
    have hmid := YMid.start ((Chg.refl _ _).alloc _) hmid
    have HFIN := hide (fun (w' : World) (h : YvTo w p V L (submitM m ten ref j) w') => show YTo YAt w p F (submitM m ten ref j) w' from h.yto HF.out (HAR.out.submit _ _ _) (HCH.out.submit _ _ _))
    obtain ⟨z, hz⟩ : ∃ z, z = submitE m ten ref j := ⟨_, rfl⟩
    rw [← hz]
    by_cases he : z = 0
    · have HE := hide (show submitE m ten ref j = 0 by rw [← hz]; exact he)
      have HZ := hide hz
      subst he
      obtain ⟨V1, L1, a1, a2, a3, a4, a5⟩ := hmid
      have HYB := hide a2
      have HSB := hide (fun (w' : World) (h : YbTo w1 p V1.q L1 (m.log ++ [callSubmit ten ref j]) (m.bids.map (·.entry) ++ [(m.log.length : Int)]) m.charges m.paid w') => show YTo YAt w p F (submitM m ten ref j) w' from HFIN.out w' (YMid.sub HE.out a1 a3 a4 a5 h))
      obtain ⟨ca, cc, hcv, _⟩ := a2.calls_form
      obtain ⟨na, nc, hnv, _⟩ := a2.subs_form
      obtain ⟨n, hn⟩ : ∃ n, n = (m.bids.map (·.entry)).length := ⟨_, rfl⟩
      obtain ⟨n1, hn1⟩ : ∃ n1, n1 = m.log.length := ⟨_, rfl⟩
      have c1 : w1.cell? ⟨p, 1, none⟩ = some (.slice ca (n1 + 1) cc) := by
        have : w1.cell? ⟨p, 1, none⟩ = some L1.cv := a2.cell 1
        rw [this, hcv, List.length_append, hn1]
        rfl
      have c2 : w1.cell? ⟨p, 2, none⟩ = some (.slice na n nc) := by rw [hn, ← hnv]; exact a2.cell 2
      have HOW : Hid (w1.ownsRow 0 3 1 (.slice na n nc) n ((m.bids.map (·.entry)).map (Value.int .i64))) := by rw [hn, ← hnv]; exact a2.subs
      have HNV := hide hnv
      have HN := hide hn
      have hpl : p < w1.heap.size := a2.lt
      have hnb : n ≤ 300 := by rw [hn, List.length_map]; exact HOK.out.bl
      have hn3 : n1 < 300 := by rw [hn1]; exact HL.out
      rw [← hn1] at HSB
      have c1' : ∀ o, (w1.alloc o).cell? ⟨p, 1, none⟩ = some (.slice ca (n1 + 1) cc) := fun o => by rw [World.cell?_alloc_lt _ _ _ (by exact hpl)]; exact c1
      have c2' : ∀ o, (w1.alloc o).cell? ⟨p, 2, none⟩ = some (.slice na n nc) := fun o => by rw [World.cell?_alloc_lt _ _ _ (by exact hpl)]; exact c2
      obtain ⟨i0', hi, hz0', hz1, hz2⟩ := info_parts infoInt'
      have hww : IntKind.i64.wrap (n1 : Int) = n1 := by rw [IntKind.wrap_i64]; omega
      clear hmid a1 a2 a3 a4 a5 hcv hnv hn hn1 hz
      go_wp2
      go_region_law (refine step_append_lies _ rfl (.tmp 23) (.tmp 30) 27 rfl 0 3 i0' (.int .i64 0) 1 8 Try.underlying27 hi hz0' hz1 hz2 rfl (by decide) (.slice na n nc) n ((m.bids.map (·.entry)).map (Value.int .i64)) (by simp [Act.eval]) (by exact HOW.out.alloc _) ⟨w1.heap.size, 0, none⟩ 1 1 [.int .i64 (n1 : Int)] (by simp [Act.eval]) rfl (by exact World.news_of_block (heap_alloc_new w1 _)) (by simp [Value.oneCell']) (by decide) (by unfold maxLen; omega) (by omega) (Nat.zero_le _) _ rfl ?_; intro g cap' w2 hown hgrow hat hlt; obtain ⟨s1, s2, s3⟩ := subs_arm HYB.out HNV.out HN.out (by first | exact ((Chg.refl _ _).alloc _).drew | exact ((Chg.refl _ _).drew).alloc _ | exact (Chg.refl _ _).alloc _) hown hgrow hat (by simp); clear hown hgrow hat hlt)
      all_goals
        go_wp2
        go_ret
        first | exact ⟨_, _, ret_int HZ.out, .inr ⟨HL.out, rfl, rfl⟩, HSB.out _ s3.out⟩ | exact ⟨_, _, ret_int HZ.out, .inr ⟨HL.out, rfl, rfl⟩, HSB.out _ (s3.out.chg0 ((Chg.refl _ _).drew))⟩
    · have HTO := hide (show YTo YAt w p F (submitM m ten ref j) w1 from HFIN.out _ (hmid.done (submitM_rest m ten ref j).1 (by rw [(submitM_rest m ten ref j).2.2.2, if_neg (by rw [← hz]; exact he)]) (submitM_rest m ten ref j).2.1 (submitM_rest m ten ref j).2.2.1))
      have d0 : (z == 0) = false := by simpa using he
      have HZ := hide hz
      clear hmid HFIN hz
      go_wp2
      go_ret
      exact ⟨_, _, ret_int HZ.out, .inr ⟨HL.out, rfl, rfl⟩, HTO.out⟩

set_option maxRecDepth 100000 in
set_option maxHeartbeats 2000000 in
theorem yCancel (w : World) (p : Nat) (F : Nat → Prop) (m : MkG) (ten ref : Int) (hy : YAt w p F m) (hok : MkOk m) :
    Calls Try.prog 46 #[.pointer (some ⟨p, 0, none⟩), .int .i64 ten, .int .i64 ref] w fun e w' => ∃ z m', e = .returned (.int .i64 z) ∧ CancelRes m ten ref z m' ∧ YTo YAt w p F m' w' := by
  obtain ⟨V, L, hF, hv, har, hch⟩ := hy
  have HF := hide hF
  have HV := hide hv
  have HOK := hide hok
  have HAR := hide har
  have HCH := hide hch
  clear hF hv hok har hch
  by_cases hl : m.log.length = 300
  · have HL := hide hl
    clear hl
    go_enter Try.func46, Try.ntmps46
    go_wp2_with fail
    refine (logAnd_full p V L m (ycallOf (callCancel ten ref)) _ HV.out HL.out).mono ?_
    rintro e w' ⟨rfl, hq⟩
    have HQ := hide hq
    clear hq
    go_wp2
    go_ret
    exact ⟨2, m, rfl, .inl ⟨HL.out, rfl, rfl⟩, (YvTo.same HV.out HQ.out).yto HF.out HAR.out HCH.out⟩
  · have hl' : m.log.length < 300 := by have := HOK.out.nl; omega
    have HL := hide hl'
    clear hl hl'
    go_enter Try.func46, Try.ntmps46
    go_wp2_with fail
    refine (logAnd_ok p V L m (ycallOf (callCancel ten ref)) (callCancel ten ref) rfl _ HV.out HL.out (fun z m' => z = cancelE m ten ref ∧ m' = cancelM m ten ref) (fun w1 V1 h1 => (answer_cancel V1 m w1 ten ref h1 HOK.out).mono (fun e w' ⟨q1, q2⟩ => ⟨_, _, q1, ⟨rfl, rfl⟩, q2⟩))).mono ?_
    rintro e w1 ⟨z, m', rfl, hq, hmid⟩
    have HR := hide (show CancelRes m ten ref z m' from .inr ⟨HL.out, hq.1, hq.2⟩)
    have HTO := hide (show YTo YAt w p F m' w1 from by obtain ⟨_, rfl⟩ := hq; exact (hmid.done (cancelM_rest m ten ref).1 (ents_key (key_cancel m ten ref)) (cancelM_rest m ten ref).2.1 (cancelM_rest m ten ref).2.2).yto HF.out (HAR.out.cancel _ _) (HCH.out.cancel _ _))
    clear hq hmid
    go_wp2
    go_ret
    exact ⟨z, m', rfl, HR.out, HTO.out⟩

set_option maxRecDepth 100000 in
set_option maxHeartbeats 2000000 in
theorem ySuspend (w : World) (p : Nat) (F : Nat → Prop) (m : MkG) (ten : Int) (on : Bool) (hy : YAt w p F m) (hok : MkOk m) :
    Calls Try.prog 47 #[.pointer (some ⟨p, 0, none⟩), .int .i64 ten, .bool on] w fun e w' => ∃ z m', e = .returned (.int .i64 z) ∧ SuspendRes m ten on z m' ∧ YTo YAt w p F m' w' := by
  obtain ⟨V, L, hF, hv, har, hch⟩ := hy
  have HF := hide hF
  have HV := hide hv
  have HOK := hide hok
  have HAR := hide har
  have HCH := hide hch
  clear hF hv hok har hch
  by_cases hl : m.log.length = 300
  · have HL := hide hl
    clear hl
    go_enter Try.func47, Try.ntmps47
    go_wp2_with fail
    refine (logAnd_full p V L m (ycallOf (callSuspend ten on)) _ HV.out HL.out).mono ?_
    rintro e w' ⟨rfl, hq⟩
    have HQ := hide hq
    clear hq
    go_wp2
    go_ret
    exact ⟨2, m, rfl, .inl ⟨HL.out, rfl, rfl⟩, (YvTo.same HV.out HQ.out).yto HF.out HAR.out HCH.out⟩
  · have hl' : m.log.length < 300 := by have := HOK.out.nl; omega
    have HL := hide hl'
    clear hl hl'
    go_enter Try.func47, Try.ntmps47
    go_wp2_with fail
    refine (logAnd_ok p V L m (ycallOf (callSuspend ten on)) (callSuspend ten on) rfl _ HV.out HL.out (fun z m' => z = suspendE m ten ∧ m' = suspendM m ten on) (fun w1 V1 h1 => (answer_susp V1 m w1 ten on h1 HOK.out).mono (fun e w' ⟨q1, q2⟩ => ⟨_, _, q1, ⟨rfl, rfl⟩, q2⟩))).mono ?_
    rintro e w1 ⟨z, m', rfl, hq, hmid⟩
    have HR := hide (show SuspendRes m ten on z m' from .inr ⟨HL.out, hq.1, hq.2⟩)
    have HTO := hide (show YTo YAt w p F m' w1 from by obtain ⟨_, rfl⟩ := hq; exact (hmid.done (suspendM_rest m ten on).1 (by rw [(suspendM_rest m ten on).2.2.2]) (suspendM_rest m ten on).2.1 (suspendM_rest m ten on).2.2.1).yto HF.out (HAR.out.suspend _ _) (HCH.out.suspend _ _))
    clear hq hmid
    go_wp2
    go_ret
    exact ⟨z, m', rfl, HR.out, HTO.out⟩

set_option maxRecDepth 100000 in
set_option maxHeartbeats 2000000 in
theorem yCapacity (w : World) (p : Nat) (F : Nat → Prop) (m : MkG) (f t u : Int) (hy : YAt w p F m) (hok : MkOk m) :
    Calls Try.prog 48 #[.pointer (some ⟨p, 0, none⟩), .int .i64 f, .int .i64 t, .int .i64 u] w fun e w' => ∃ z m', e = .returned (.int .i64 z) ∧ CapacityRes m f t u z m' ∧ YTo YAt w p F m' w' := by
  obtain ⟨V, L, hF, hv, har, hch⟩ := hy
  have HF := hide hF
  have HV := hide hv
  have HOK := hide hok
  have HAR := hide har
  have HCH := hide hch
  clear hF hv hok har hch
  by_cases hl : m.log.length = 300
  · have HL := hide hl
    clear hl
    go_enter Try.func48, Try.ntmps48
    go_wp2_with fail
    refine (logAnd_full p V L m (ycallOf (callCapacity f t u)) _ HV.out HL.out).mono ?_
    rintro e w' ⟨rfl, hq⟩
    have HQ := hide hq
    clear hq
    go_wp2
    go_ret
    exact ⟨2, m, rfl, .inl ⟨HL.out, rfl, rfl⟩, (YvTo.same HV.out HQ.out).yto HF.out HAR.out HCH.out⟩
  · have hl' : m.log.length < 300 := by have := HOK.out.nl; omega
    have HL := hide hl'
    clear hl hl'
    go_enter Try.func48, Try.ntmps48
    go_wp2_with fail
    refine (logAnd_ok p V L m (ycallOf (callCapacity f t u)) (callCapacity f t u) rfl _ HV.out HL.out (fun z m' => CapRes m f t u z m') (fun w1 V1 h1 => (answer_cap V1 m w1 f t u h1 HOK.out).mono (fun e w' ⟨z, q1, q2, q3⟩ => ⟨_, _, q1, q2, q3⟩))).mono ?_
    rintro e w1 ⟨z, m', rfl, hq, hmid⟩
    have HR := hide (show CapacityRes m f t u z m' from .inr ⟨HL.out, hq⟩)
    have HTO := hide (show YTo YAt w p F m' w1 from (hmid.done hq.rest.1 (by rw [hq.rest.2.2.2]) hq.rest.2.1 hq.rest.2.2.1).yto HF.out (HAR.out.cap hq) (HCH.out.cap hq))
    clear hq hmid
    go_wp2
    go_ret
    exact ⟨z, m', rfl, HR.out, HTO.out⟩

set_option maxHeartbeats 1000000 in
theorem yNow (w : World) (p : Nat) (F : Nat → Prop) (m : MkG) (hy : YAt w p F m) :
    Calls Try.prog 17 #[.pointer (some ⟨p, 0, none⟩)] w fun e w' => e = .returned (.int .i64 m.time) ∧ YTo YAt w p F m w' := by
  obtain ⟨V, L, hF, hv, har, hch⟩ := hy
  have HFIN := hide ((YvTo.refl hv).yto hF har hch)
  have cq : w.cell? ⟨p, 0, none⟩ = some (.pointer (some ⟨V.q, 0, none⟩)) := hv.cq
  have c5 : w.cell? ⟨V.q, 5, none⟩ = some (.int .i64 m.time) := hv.mkt.cell 5
  clear hF hv har hch
  go_enter Try.func17, Try.ntmps17
  go_wp2
  go_ret
  exact ⟨rfl, HFIN.out⟩

set_option maxRecDepth 100000 in
set_option maxHeartbeats 2000000 in
theorem yLook (w : World) (p : Nat) (F : Nat → Prop) (m : MkG) (ten ref : Int) (hy : YAt w p F m) (hok : MkOk m) :
    Calls Try.prog 23 #[.pointer (some ⟨p, 0, none⟩), .int .i64 ten, .int .i64 ref] w fun e w' => e = .returned (.tuple #[.agg #[.int .i64 (lookS m ten ref), .int .i64 (lookT m ten ref)], .int .i64 (lookE m ten ref)]) ∧ YTo YAt w p F m w' := by
  obtain ⟨V, L, hF, hv, har, hch⟩ := hy
  have HFIN := hide (fun (w' : World) (h : Chg (fun _ => False) w w') => (YvTo.same hv h).yto hF har hch)
  have cq : w.cell? ⟨p, 0, none⟩ = some (.pointer (some ⟨V.q, 0, none⟩)) := hv.cq
  have cq' : ∀ o, (w.alloc o).cell? ⟨p, 0, none⟩ = some (.pointer (some ⟨V.q, 0, none⟩)) := fun o => by rw [World.cell?_alloc_lt _ _ _ (by exact hv.lt)]; exact cq
  have HSUB := hide (fun o => ylook_any V m ten ref (w.alloc o) (hv.mkt.chg0 ((Chg.refl _ _).alloc _)) hok)
  clear hF hv hok har hch
  go_enter Try.func23, Try.ntmps23
  go_wp2_with fail
  obtain ⟨w1, hw1⟩ : ∃ w1, w1 = w.alloc (.cells #[.int .i64 0, .int .i64 0] 68) := ⟨_, rfl⟩
  have hs := HSUB.out (.cells #[.int .i64 0, .int .i64 0] 68)
  rw [← hw1] at hs ⊢
  refine hs.mono ?_
  clear hs
  rintro e w2 ⟨rfl, hq⟩
  have hbk : w1.heap[w.heap.size]? = some (.cells #[.int .i64 0, .int .i64 0] 68 (0, 0)) := by rw [hw1]; exact heap_alloc_new w _
  have hs1 : w.heap.size < w1.heap.size := (Array.getElem?_eq_some_iff.1 hbk).1
  have hbk2 : w2.heap[w.heap.size]? = some (.cells #[.int .i64 0, .int .i64 0] 68 (0, 0)) := (hq.block _ hs1 (fun h => h)).trans hbk
  have z0 : w2.cell? ⟨w.heap.size, 0, none⟩ = some (.int .i64 0) := by unfold World.cell?; rw [hbk2]; rfl
  have z1 : w2.cell? ⟨w.heap.size, 1, none⟩ = some (.int .i64 0) := by unfold World.cell?; rw [hbk2]; rfl
  have zf : ∀ r, w2.frozen? ⟨w.heap.size, r, none⟩ = false := fun r => by unfold World.frozen?; rw [hbk2]; simp
  have hc1 : Chg (fun _ => False) w w1 := by rw [hw1]; exact (Chg.refl _ _).alloc _
  have HC2 := hide (hc1.trans hq (fun _ _ h => h))
  have HBK := hide hbk2
  clear hbk hbk2 hq hc1 hs1 hw1 cq cq' HSUB
  obtain ⟨sS, hS⟩ : ∃ x, x = lookS m ten ref := ⟨_, rfl⟩
  obtain ⟨sT, hT⟩ : ∃ x, x = lookT m ten ref := ⟨_, rfl⟩
  obtain ⟨sE, hE⟩ : ∃ x, x = lookE m ten ref := ⟨_, rfl⟩
  rw [← hS, ← hT, ← hE]
  have HS := hide hS
  have HT := hide hT
  have HE := hide hE
  clear hS hT hE
  go_wp2
  obtain ⟨r0, r1⟩ := two_set (a := .int .i64 sS) (b := .int .i64 sT) HBK.out
  refine bodyPost_ret (v := .tuple #[.agg #[.int .i64 sS, .int .i64 sT], .int .i64 sE]) (by simp [results, Try.results23, go_sem, r0, r1]) rfl ⟨by rw [HS.out, HT.out, HE.out], ?_⟩
  exact HFIN.out _ ((HC2.out.setCell (.inr (Nat.le_refl _)) _).setCell (.inr (Nat.le_refl _)) _)

set_option maxRecDepth 100000 in
set_option maxHeartbeats 2000000 in
theorem yFree (w : World) (p : Nat) (F : Nat → Prop) (m : MkG) (t : Int) (hy : YAt w p F m) (hok : MkOk m) :
    Calls Try.prog 53 #[.pointer (some ⟨p, 0, none⟩), .int .i64 t] w fun e w' => e = .returned (.tuple #[.int .i64 (freeV m t), .int .i64 (freeE m t)]) ∧ YTo YAt w p F m w' := by
  obtain ⟨V, L, hF, hv, har, hch⟩ := hy
  have HFIN := hide ((YvTo.refl hv).yto hF har hch)
  have cq : w.cell? ⟨p, 0, none⟩ = some (.pointer (some ⟨V.q, 0, none⟩)) := hv.cq
  have HSUB := hide (freeAt_any V m t w hv.mkt hok)
  clear hF hv hok har hch
  go_enter Try.func53, Try.ntmps53
  go_wp2_with (go_at_call 73; refine HSUB.out.mono ?_; rintro e w' ⟨rfl, hw⟩; subst w')
  go_ret2
  exact ⟨rfl, HFIN.out⟩

theorem yardSpec : YardSpec YAt where
  lt := by
    rintro w p F m ⟨V, L, hF, hv, _, _⟩ k hk
    exact hv.foot_lt k ((hF k).1 hk)
  frame := by
    rintro w w' p F m ⟨V, L, hF, hv, har, hch⟩ hf
    exact ⟨V, L, hF, hv.frame (fun k hk => hf k ((hF k).2 hk)), har, hch⟩
  open_bad := fun c w h => yOpen_bad c w h
  open_ok := fun c w h => yOpen_ok c w h
  submit := fun w p F m ten ref j hy hok _ _ _ => ySubmit w p F m ten ref j hy hok
  cancel := fun w p F m ten ref hy hok _ _ => yCancel w p F m ten ref hy hok
  suspend := fun w p F m ten on hy hok _ => ySuspend w p F m ten on hy hok
  capacity := fun w p F m f t u hy hok _ _ _ => yCapacity w p F m f t u hy hok
  now := fun w p F m hy _ => yNow w p F m hy
  look := fun w p F m ten ref hy hok _ _ => yLook w p F m ten ref hy hok
  free := fun w p F m t hy hok _ => yFree w p F m t hy hok
end Go.Proofs.Ytminceigjejipaa
