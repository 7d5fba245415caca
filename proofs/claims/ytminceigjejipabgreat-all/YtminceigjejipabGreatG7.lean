import Derived.Test.YtminceigjejipabGreatG3
import Derived.Test.YtminceigjejipabGreatG2
import Derived.Test.YtminceigjejipabGreatMkI
import Derived.Test.YtminceigjejipabGreatMkG0
import Derived.Test.YtminceigjejipabGreatMkJ
import Derived.Test.YtminceigjejipabGreatG6
namespace Go.Proofs.YtminceigjejipabGreat
open Go.RowKit

theorem two_set {w : World} {q : Nat} {x y a b : Value} {T : TypeId} (h : w.heap[q]? = some (.cells #[x, y] T (0, 0))) :
    ((w.setCell ⟨q, 0, none⟩ a).setCell ⟨q, 1, none⟩ b).cell? ⟨q, 0, none⟩ = some a ∧ ((w.setCell ⟨q, 0, none⟩ a).setCell ⟨q, 1, none⟩ b).cell? ⟨q, 1, none⟩ = some b := by
  have h2 := box_set (f := 1) (box_set (f := 0) h a) b
  constructor
  · unfold World.cell?; rw [h2]; rfl
  · unfold World.cell?; rw [h2]; rfl

set_option maxRecDepth 100000 in
set_option maxHeartbeats 4000000 in
theorem look_any (p : Nat) (V : MV) (m : MkG) (ten ref : Int) (w : World) (hm : MktAt w p V m) (hok : MkOk m) :
    Calls Tryz.prog 42 #[.pointer (some ⟨p, 0, none⟩), .int .i64 ten, .int .i64 ref] w fun e w' => e = .returned (.tuple #[.agg #[.int .i64 (lookS m ten ref), .int .i64 (lookT m ten ref)], .int .i64 (lookE m ten ref)]) ∧ Chg (fun _ => False) w w' := by
  have HM := hide hm
  have HOK := hide hok
  have hpl := hm.lt
  clear hm hok
  go_enter Tryz.func42, Tryz.ntmps42
  go_wp2_with fail
  obtain ⟨w1, hw1⟩ : ∃ w1, w1 = w.alloc (.cells #[.int .i64 0, .int .i64 0] 89) := ⟨_, rfl⟩
  rw [← hw1]
  have hbk : w1.heap[w.heap.size]? = some (.cells #[.int .i64 0, .int .i64 0] 89 (0, 0)) := by rw [hw1]; exact heap_alloc_new w _
  have z0 : w1.cell? ⟨w.heap.size, 0, none⟩ = some (.int .i64 0) := by unfold World.cell?; rw [hbk]; rfl
  have z1 : w1.cell? ⟨w.heap.size, 1, none⟩ = some (.int .i64 0) := by unfold World.cell?; rw [hbk]; rfl
  have zf : ∀ r, w1.frozen? ⟨w.heap.size, r, none⟩ = false := fun r => by unfold World.frozen?; rw [hbk]; simp
  have hc1 : Chg (fun _ => False) w w1 := by rw [hw1]; exact (Chg.refl _ _).alloc _
  have HBK := hide hbk
  have H1 := hide (HM.out.chg0 hc1)
  have HC1 := hide hc1
  clear hw1 hbk hc1
  refine (tenant_any p V m ten _ H1.out).mono ?_
  rintro e w2 ⟨rfl, hw⟩
  subst w2
  cases hT : m.tenB ten
  · have E1 := hide (show lookE m ten ref = 3 by simp [lookE, hT])
    clear hT
    go_wp2
    obtain ⟨r0, r1⟩ := two_set (a := .int .i64 0) (b := .int .i64 0) HBK.out
    refine bodyPost_ret (v := .tuple #[.agg #[.int .i64 0, .int .i64 0], .int .i64 3]) (by simp [results, Tryz.results42, go_sem, r0, r1]) rfl ⟨?_, ?_⟩
    · rw [lookS, lookT, E1.out]; rfl
    · exact (HC1.out.setCell (.inr (Nat.le_refl _)) _).setCell (.inr (Nat.le_refl _)) _
  · go_wp2_with fail
    refine (find_any p V m ten ref _ H1.out HOK.out.bl).mono ?_
    rintro e w2 ⟨rfl, hw⟩
    subst w2
    have hfl := findZ_lt m.bids ten ref
    have hbl := HOK.out.bl
    by_cases hf : findZ m.bids ten ref < 0
    · have E1 := hide (show lookE m ten ref = 5 by simp [lookE, hT, hf])
      clear hT hfl
      generalize findZ m.bids ten ref = z at *
      go_wp2
      obtain ⟨r0, r1⟩ := two_set (a := .int .i64 0) (b := .int .i64 0) HBK.out
      refine bodyPost_ret (v := .tuple #[.agg #[.int .i64 0, .int .i64 0], .int .i64 5]) (by simp [results, Tryz.results42, go_sem, r0, r1]) rfl ⟨?_, ?_⟩
      · rw [lookS, lookT, E1.out]; rfl
      · exact (HC1.out.setCell (.inr (Nat.le_refl _)) _).setCell (.inr (Nat.le_refl _)) _
    · obtain ⟨i, hi⟩ := Int.eq_ofNat_of_zero_le (show 0 ≤ findZ m.bids ten ref by omega)
      obtain ⟨b, hb⟩ : ∃ b, m.bids[i]? = some b := ⟨_, List.getElem?_eq_getElem (by omega)⟩
      obtain ⟨ao, cap, hv, hel⟩ := H1.out.bid_form
      obtain ⟨g, hao, hown, hcl, hfr⟩ := hel i b hb
      subst hao
      have hil : (i : Int) < (m.bids.length : Int) := by omega
      have c7 : w1.cell? ⟨p, 7, none⟩ = some (.slice (some ⟨g, 0, none⟩) m.bids.length cap) := by rw [← hv]; exact H1.out.cell 7
      have c8 : w1.cell? ⟨g, i * 12 + 8, none⟩ = some (.int .i64 b.state) := hcl 8 _ rfl
      have c9 : w1.cell? ⟨g, i * 12 + 9, none⟩ = some (.int .i64 b.start) := hcl 9 _ rfl
      have E1 := hide (show lookE m ten ref = 0 by simp [lookE, hT, hf])
      have E2 := hide (show lookS m ten ref = b.state ∧ lookT m ten ref = b.start by
        rw [lookS, lookT, E1.out, hi]
        simp [stateAt, startAt, hb])
      have hgl : g < w.heap.size := (HM.out.bids.lt g hown).2
      have n1 : w.heap.size ≠ p := by omega
      have n2 : w.heap.size ≠ g := by omega
      rw [hi]
      clear hcl hfr hel hv hb hown hfl hf hi hT
      generalize m.bids.length = n at *
      have i0 : (0 : Int) ≤ (i : Int) := by omega
      go_wp2
      go_region_held3 (fun w' => w'.cell? ⟨p, 7, none⟩ = some (.slice (some ⟨g, 0, none⟩) n cap) ∧ w'.cell? ⟨g, i * 12 + 8, none⟩ = some (.int .i64 b.state) ∧ w'.cell? ⟨g, i * 12 + 9, none⟩ = some (.int .i64 b.start)) (go_keep) (fail)
      all_goals
        go_wp2
        obtain ⟨r0, r1⟩ := two_set (a := .int .i64 b.state) (b := .int .i64 b.start) HBK.out
        refine bodyPost_ret (v := .tuple #[.agg #[.int .i64 b.state, .int .i64 b.start], .int .i64 0]) (by simp [results, Tryz.results42, go_sem, r0, r1]) rfl ⟨?_, ?_⟩
        · rw [E2.out.1, E2.out.2, E1.out]
        · first | exact ((HC1.out.setCell (.inr (Nat.le_refl _)) _).setCell (.inr (Nat.le_refl _)) _).drew | exact (HC1.out.setCell (.inr (Nat.le_refl _)) _).setCell (.inr (Nat.le_refl _)) _

set_option maxRecDepth 100000 in
set_option maxHeartbeats 4000000 in
theorem free_any (p : Nat) (V : MV) (m : MkG) (t : Int) (w : World) (hm : MktAt w p V m) (hok : MkOk m) :
    Calls Tryz.prog 44 #[.pointer (some ⟨p, 0, none⟩), .int .i64 t] w fun e w' => e = .returned (.tuple #[.int .i64 (freeV m t), .int .i64 (freeE m t)]) ∧ Chg (fun _ => False) w w' := by
  have HM := hide hm
  have HOK := hide hok
  have hpl := hm.lt
  have c0 : w.cell? ⟨p, 0, none⟩ = some (.int .i64 m.c.ticks) := hm.cell 0
  clear hm hok
  by_cases ht0 : t < 0
  · have E1 := hide (show freeE m t = 9 ∧ freeV m t = 0 by simp [freeE, freeV, ht0])
    go_enter Tryz.func44, Tryz.ntmps44
    go_wp2
    go_ret2
    exact ⟨ret_two E1.out.2.symm E1.out.1.symm, Chg.refl _ _⟩
  · by_cases ht1 : m.c.ticks ≤ t
    · have E1 := hide (show freeE m t = 9 ∧ freeV m t = 0 by simp [freeE, freeV, ht1])
      generalize m.c.ticks = tk at *
      go_enter Tryz.func44, Tryz.ntmps44
      go_wp2
      go_ret2
      exact ⟨ret_two E1.out.2.symm E1.out.1.symm, Chg.refl _ _⟩
    · obtain ⟨i, rfl⟩ := Int.eq_ofNat_of_zero_le (show 0 ≤ t by omega)
      have hnu := HOK.out.nu
      have hcf := cfgOk_true HOK.out.ck
      have hiu : i < m.units.length := by omega
      have hul : m.units.length ≤ 64 := by omega
      obtain ⟨ao, cap, hv, hel⟩ := HM.out.units_form
      obtain ⟨g, hao, hown, hcl, hfr⟩ := hel i hiu
      subst hao
      have c6 : w.cell? ⟨p, 6, none⟩ = some (.slice (some ⟨g, 0, none⟩) m.units.length cap) := by rw [← hv]; exact HM.out.cell 6
      have hgl : g < w.heap.size := (HM.out.units.lt g hown).2
      have hu0 := HOK.out.un (m.units.getD i 0) (by simp [List.getD, List.getElem?_eq_getElem hiu])
      have hus := usedL_le m.c i m.bids HOK.out.bid
      have hbl := HOK.out.bl
      have HU := hide (fun (w' : World) (h : Chg (fun _ => False) w w') => used_any p V m i w' (HM.out.chg0 h) HOK.out.bl HOK.out.bid HOK.out.ck)
      have E1 := hide (show freeE m i = 0 ∧ freeV m i = m.units.getD i 0 - usedL m.bids i by
        constructor
        · rw [freeE, if_neg (by omega)]
        · rw [freeV, if_neg (by omega)]; simp)
      have hil : (i : Int) < (m.units.length : Int) := by omega
      have i0 : (0 : Int) ≤ (i : Int) := by omega
      have hus2 : 0 ≤ usedL m.bids i ∧ usedL m.bids i ≤ 300000 := by omega
      clear hel hv hown hfr hus hnu hcf
      generalize m.units.length = n at *
      generalize m.units.getD i 0 = u at *
      generalize usedL m.bids i = us at *
      generalize m.c.ticks = tk at *
      obtain ⟨hu1, hu2⟩ := hu0
      obtain ⟨hu3, hu4⟩ := hus2
      have hwr : IntKind.i64.wrap (u - us) = u - us := by rw [IntKind.wrap_i64]; omega
      go_enter Tryz.func44, Tryz.ntmps44
      go_wp2
      go_region_held3 (fun w' => w'.cell? ⟨p, 6, none⟩ = some (.slice (some ⟨g, 0, none⟩) n cap) ∧ w'.cell? ⟨g, i, none⟩ = some (.int .i64 u)) (go_keep)
        (first | (go_at_call 68; refine (HU.out w.drew ((Chg.refl _ _).drew)).mono ?_; rintro e w2 ⟨rfl, hq⟩; have x1 := hq.cell (p := ⟨p, 6, none⟩) hpl (fun h => h); have x2 := hq.cell (p := ⟨g, i, none⟩) hgl (fun h => h); have HQ := hide hq; clear hq))
      all_goals
        clear x1 x2
        go_wp2
        go_ret2
        exact ⟨ret_two E1.out.2.symm E1.out.1.symm, ⟨HQ.out.os, HQ.out.tape, HQ.out.output, HQ.out.size, HQ.out.block⟩⟩
end Go.Proofs.YtminceigjejipabGreat

/-
  WHAT THE LAWS ASK OF THE PROGRAM's MARKET (stage 2): a predicate YAt ('at p lies a market that is m, in the blocks F') and a contract a call. Proved of the landed code elsewhere.
-/
namespace Go.Proofs.YtminceigjejipabGreat
open Go.RowKit

def I64 (z : Int) : Prop := -9223372036854775808 ≤ z ∧ z ≤ 9223372036854775807

def LogRes (m : MkG) (z0 : Int) (m0 : MkG) (z : Int) (m' : MkG) : Prop := (m.log.length = 300 ∧ z = 2 ∧ m' = m) ∨ (m.log.length < 300 ∧ z = z0 ∧ m' = m0)
theorem LogRes.unique {m : MkG} {z0 : Int} {m0 : MkG} {z z2 : Int} {m1 m2 : MkG} (h : LogRes m z0 m0 z m1) (h2 : LogRes m z0 m0 z2 m2) : z = z2 ∧ m1 = m2 := by
  rcases h with ⟨a, rfl, rfl⟩ | ⟨a, rfl, rfl⟩ <;> rcases h2 with ⟨b, rfl, rfl⟩ | ⟨b, rfl, rfl⟩ <;> first | exact ⟨rfl, rfl⟩ | (exfalso; omega)
def SubmitRes (m : MkG) (ten ref : Int) (j : JobG) (z : Int) (m' : MkG) : Prop := LogRes m (submitE m ten ref j) (submitM m ten ref j) z m'
def CancelRes (m : MkG) (ten ref : Int) (z : Int) (m' : MkG) : Prop := LogRes m (cancelE m ten ref) (cancelM m ten ref) z m'
def SuspendRes (m : MkG) (ten : Int) (on : Bool) (z : Int) (m' : MkG) : Prop := LogRes m (suspendE m ten) (suspendM m ten on) z m'
def CapacityRes (m : MkG) (f t u : Int) (z : Int) (m' : MkG) : Prop := (m.log.length = 300 ∧ z = 2 ∧ m' = m) ∨ (m.log.length < 300 ∧ CapRes m f t u z m')
theorem CapRes.unique {m : MkG} {f t u z z2 : Int} {m1 m2 : MkG} (h : CapRes m f t u z m1) (h2 : CapRes m f t u z2 m2) : z = z2 ∧ m1 = m2 := by
  rcases h with ⟨a, rfl, rfl⟩ | ⟨a, b, rfl, rfl⟩ | ⟨a, b, rfl, rfl⟩ <;> rcases h2 with ⟨a2, rfl, rfl⟩ | ⟨a2, b2, rfl, rfl⟩ | ⟨a2, b2, rfl, rfl⟩ <;> first | exact ⟨rfl, rfl⟩ | (exfalso; simp_all; done)
theorem CapacityRes.unique {m : MkG} {f t u z z2 : Int} {m1 m2 : MkG} (h : CapacityRes m f t u z m1) (h2 : CapacityRes m f t u z2 m2) : z = z2 ∧ m1 = m2 := by
  rcases h with ⟨a, rfl, rfl⟩ | ⟨a, h⟩ <;> rcases h2 with ⟨b, rfl, rfl⟩ | ⟨b, h2⟩
  · exact ⟨rfl, rfl⟩
  · omega
  · omega
  · exact h.unique h2

def YTo (YAt : World → Nat → (Nat → Prop) → MkG → Prop) (w : World) (p : Nat) (F : Nat → Prop) (m' : MkG) (w' : World) : Prop :=
  ∃ F', YAt w' p F' m' ∧ Chg F w w' ∧ ∀ k, F' k → F k ∨ w.heap.size ≤ k

def cfgV (c : CfgG) : Value := .agg #[.int .i64 c.ticks, .int .i64 c.cap, .int .i64 c.res, .int .i64 c.ten, .int .i64 c.quo]
def jobV (j : JobG) : Value := .agg #[.int .i64 j.arr, .int .i64 j.dl, .int .i64 j.len, .int .i64 j.units, .int .i64 j.val]
def JobI64 (j : JobG) : Prop := I64 j.arr ∧ I64 j.dl ∧ I64 j.len ∧ I64 j.units ∧ I64 j.val

structure YardSpec (YAt : World → Nat → (Nat → Prop) → MkG → Prop) : Prop where
  lt : ∀ w p F m, YAt w p F m → ∀ k, F k → k < w.heap.size
  frame : ∀ w w' p F m, YAt w p F m → (∀ k, F k → w'.heap[k]? = w.heap[k]?) → YAt w' p F m
  open_bad : ∀ c w, cfgOk c = false → Calls Tryz.prog 28 #[cfgV c] w fun e w' => e = .returned (.tuple #[.pointer none, .int .i64 1]) ∧ Chg (fun _ => False) w w'
  open_ok : ∀ c w, cfgOk c = true → Calls Tryz.prog 28 #[cfgV c] w fun e w' => ∃ p F, e = .returned (.tuple #[.pointer (some ⟨p, 0, none⟩), .int .i64 0]) ∧ YAt w' p F (openM c) ∧ Chg (fun _ => False) w w' ∧ ∀ k, F k → w.heap.size ≤ k
  submit : ∀ w p F m ten ref j, YAt w p F m → MkOk m → I64 ten → I64 ref → JobI64 j → Calls Tryz.prog 31 #[.pointer (some ⟨p, 0, none⟩), .int .i64 ten, .int .i64 ref, jobV j] w fun e w' => ∃ z m', e = .returned (.int .i64 z) ∧ SubmitRes m ten ref j z m' ∧ YTo YAt w p F m' w'
  cancel : ∀ w p F m ten ref, YAt w p F m → MkOk m → I64 ten → I64 ref → Calls Tryz.prog 33 #[.pointer (some ⟨p, 0, none⟩), .int .i64 ten, .int .i64 ref] w fun e w' => ∃ z m', e = .returned (.int .i64 z) ∧ CancelRes m ten ref z m' ∧ YTo YAt w p F m' w'
  suspend : ∀ w p F m ten on, YAt w p F m → MkOk m → I64 ten → Calls Tryz.prog 35 #[.pointer (some ⟨p, 0, none⟩), .int .i64 ten, .bool on] w fun e w' => ∃ z m', e = .returned (.int .i64 z) ∧ SuspendRes m ten on z m' ∧ YTo YAt w p F m' w'
  capacity : ∀ w p F m f t u, YAt w p F m → MkOk m → I64 f → I64 t → I64 u → Calls Tryz.prog 37 #[.pointer (some ⟨p, 0, none⟩), .int .i64 f, .int .i64 t, .int .i64 u] w fun e w' => ∃ z m', e = .returned (.int .i64 z) ∧ CapacityRes m f t u z m' ∧ YTo YAt w p F m' w'
  now : ∀ w p F m, YAt w p F m → MkOk m → Calls Tryz.prog 39 #[.pointer (some ⟨p, 0, none⟩)] w fun e w' => e = .returned (.int .i64 m.time) ∧ YTo YAt w p F m w'
  left : ∀ w p F m, YAt w p F m → MkOk m → Calls Tryz.prog 40 #[.pointer (some ⟨p, 0, none⟩)] w fun e w' => e = .returned (.int .i64 (300 - (m.log.length : Int))) ∧ YTo YAt w p F m w' -- (where it is)
  look : ∀ w p F m ten ref, YAt w p F m → MkOk m → I64 ten → I64 ref → Calls Tryz.prog 41 #[.pointer (some ⟨p, 0, none⟩), .int .i64 ten, .int .i64 ref] w fun e w' => e = .returned (.tuple #[.agg #[.int .i64 (lookS m ten ref), .int .i64 (lookT m ten ref)], .int .i64 (lookE m ten ref)]) ∧ YTo YAt w p F m w'
  free : ∀ w p F m t, YAt w p F m → MkOk m → I64 t → Calls Tryz.prog 43 #[.pointer (some ⟨p, 0, none⟩), .int .i64 t] w fun e w' => e = .returned (.tuple #[.int .i64 (freeV m t), .int .i64 (freeE m t)]) ∧ YTo YAt w p F m w'

/-! ### the document's calls, in the same words -/
theorem refSubmit_any (p : Nat) (V : MV) (m : MkG) (ten ref : Int) (j : JobG) (w : World) (hm : MktAt w p V m) (hok : MkOk m) :
    Calls Tryz.prog 32 #[.pointer (some ⟨p, 0, none⟩), .int .i64 ten, .int .i64 ref, jobV j] w fun e w' => ∃ z m', e = .returned (.int .i64 z) ∧ SubmitRes m ten ref j z m' ∧ MktTo w p V m' w' := by
  by_cases h : m.log.length = 300
  · exact (submit_full p V m ten ref j w hm h).mono (fun e w' ⟨he, ht⟩ => ⟨2, m, he, .inl ⟨h, rfl, rfl⟩, ht⟩)
  · have h' : m.log.length < 300 := by have := hok.nl; omega
    exact (submit_ok p V m ten ref j w hm hok h').mono (fun e w' ⟨he, ht⟩ => ⟨_, _, he, .inr ⟨h', rfl, rfl⟩, ht⟩)
theorem refCancel_any (p : Nat) (V : MV) (m : MkG) (ten ref : Int) (w : World) (hm : MktAt w p V m) (hok : MkOk m) :
    Calls Tryz.prog 34 #[.pointer (some ⟨p, 0, none⟩), .int .i64 ten, .int .i64 ref] w fun e w' => ∃ z m', e = .returned (.int .i64 z) ∧ CancelRes m ten ref z m' ∧ MktTo w p V m' w' := by
  by_cases h : m.log.length = 300
  · exact (cancel_full p V m ten ref w hm h).mono (fun e w' ⟨he, ht⟩ => ⟨2, m, he, .inl ⟨h, rfl, rfl⟩, ht⟩)
  · have h' : m.log.length < 300 := by have := hok.nl; omega
    exact (cancel_ok p V m ten ref w hm hok h').mono (fun e w' ⟨he, ht⟩ => ⟨_, _, he, .inr ⟨h', rfl, rfl⟩, ht⟩)
theorem refSuspend_any (p : Nat) (V : MV) (m : MkG) (ten : Int) (on : Bool) (w : World) (hm : MktAt w p V m) (hok : MkOk m) :
    Calls Tryz.prog 36 #[.pointer (some ⟨p, 0, none⟩), .int .i64 ten, .bool on] w fun e w' => ∃ z m', e = .returned (.int .i64 z) ∧ SuspendRes m ten on z m' ∧ MktTo w p V m' w' := by
  by_cases h : m.log.length = 300
  · exact (suspend_full p V m ten on w hm h).mono (fun e w' ⟨he, ht⟩ => ⟨2, m, he, .inl ⟨h, rfl, rfl⟩, ht⟩)
  · have h' : m.log.length < 300 := by have := hok.nl; omega
    exact (suspend_ok p V m ten on w hm hok h').mono (fun e w' ⟨he, ht⟩ => ⟨_, _, he, .inr ⟨h', rfl, rfl⟩, ht⟩)
theorem refCapacity_any (p : Nat) (V : MV) (m : MkG) (f t u : Int) (w : World) (hm : MktAt w p V m) (hok : MkOk m) :
    Calls Tryz.prog 38 #[.pointer (some ⟨p, 0, none⟩), .int .i64 f, .int .i64 t, .int .i64 u] w fun e w' => ∃ z m', e = .returned (.int .i64 z) ∧ CapacityRes m f t u z m' ∧ MktTo w p V m' w' := by
  by_cases h : m.log.length = 300
  · exact (capacity_full p V m f t u w hm h).mono (fun e w' ⟨he, ht⟩ => ⟨2, m, he, .inl ⟨h, rfl, rfl⟩, ht⟩)
  · have h' : m.log.length < 300 := by have := hok.nl; omega
    exact (capacity_ok p V m f t u w hm hok h').mono (fun e w' ⟨z, m', he, hr, ht⟩ => ⟨z, m', he, .inr ⟨h', hr⟩, ht⟩)

/-! ### MkOk goes on -/
theorem MkOk.logs {m : MkG} (h : MkOk m) (hl : m.log.length < 300) (c : CallG) : MkOk (m.logs c) :=
  ⟨h.ck, h.nu, h.ns, h.np, by simp [MkG.logs]; omega, by have := h.nb; simp [MkG.logs]; omega, h.t0, h.t1, h.un, h.bid⟩

theorem MkOk.submit {m : MkG} (h : MkOk m) {ten ref : Int} {j : JobG} {z : Int} {m' : MkG} (hr : SubmitRes m ten ref j z m') : MkOk m' := by
  rcases hr with ⟨_, _, rfl⟩ | ⟨hl, _, rfl⟩
  · exact h
  · have h1 := h.logs hl (callSubmit ten ref j)
    unfold submitM
    simp only
    split
    · rename_i he
      have hT : m.tenB ten = true := by
        cases hT : m.tenB ten
        · simp [submitE, hT] at he
        · rfl
      have hS : suspAt m ten = false := by
        cases hS : suspAt m ten
        · rfl
        · simp [submitE, hT, hS] at he
      have hR : refB m ten ref = false := by
        cases hR : refB m ten ref
        · rfl
        · simp [submitE, hT, hS, hR] at he
      have hJ : m.jobB j = true := by
        cases hJ : m.jobB j
        · simp [submitE, hT, hS, hR, hJ] at he
        · rfl
      obtain ⟨t0, t1⟩ := tenB_true hT
      simp only [MkG.jobB, Bool.and_eq_true, decide_eq_true_eq] at hJ
      simp [refB] at hR
      have hat : j.arr ≤ atOf m.time j := by
        unfold atOf
        split <;> omega
      refine ⟨h.ck, h.nu, h.ns, h.np, h1.nl, ?_, h.t0, h.t1, h.un, fun b hb => ?_⟩
      · have := h.nb
        simp [MkG.logs]
        omega
      · rcases List.mem_append.1 hb with hb | hb
        · exact h.bid b hb
        · simp at hb
          subst hb
          exact ⟨t0, t1, by simp only [newBid]; omega, by simp only [newBid]; omega, hJ.1, hat, hJ.2, by simp [newBid], by simp [newBid], by simp [newBid], by simp [newBid], by simp [newBid], by simp only [newBid]; omega⟩
    · exact h1

theorem MkOk.cancel {m : MkG} (h : MkOk m) {ten ref : Int} {z : Int} {m' : MkG} (hr : CancelRes m ten ref z m') : MkOk m' := by
  rcases hr with ⟨_, _, rfl⟩ | ⟨hl, _, rfl⟩
  · exact h
  · have h1 := h.logs hl (callCancel ten ref)
    unfold cancelM
    simp only
    split
    · refine ⟨h.ck, h.nu, h.ns, h.np, h1.nl, ?_, h.t0, h.t1, h.un, fun b hb => ?_⟩
      · have := h1.nb
        show (setState (m.logs (callCancel ten ref)).bids _ 3).length ≤ _
        unfold setState
        split
        · simpa using this
        · exact this
      · have hb' : b ∈ setState m.bids (findZ m.bids ten ref).toNat 3 := hb
        unfold setState at hb'
        split at hb'
        · rename_i b0 hb0
          rcases List.mem_or_eq_of_mem_set hb' with hb2 | rfl
          · exact h.bid b hb2
          · have ho := h.bid b0 (List.mem_of_getElem? hb0)
            exact ⟨ho.t0, ho.t1, ho.r0, ho.r1, ho.job, ho.a0, ho.a1, by simp, by simp, ho.st0, ho.st1, ho.e0, ho.e1⟩
        · exact h.bid b hb'
    · exact h1

theorem MkOk.suspend {m : MkG} (h : MkOk m) {ten : Int} {on : Bool} {z : Int} {m' : MkG} (hr : SuspendRes m ten on z m') : MkOk m' := by
  rcases hr with ⟨_, _, rfl⟩ | ⟨hl, _, rfl⟩
  · exact h
  · have h1 := h.logs hl (callSuspend ten on)
    unfold suspendM
    simp only
    split
    · exact ⟨h.ck, h.nu, by have := h.ns; simpa [MkG.logs] using this, h.np, h1.nl, h1.nb, h.t0, h.t1, h.un, h.bid⟩
    · exact h1

theorem MkOk.capacity {m : MkG} (h : MkOk m) {f t u : Int} {z : Int} {m' : MkG} (hr : CapacityRes m f t u z m') : MkOk m' := by
  rcases hr with ⟨_, _, rfl⟩ | ⟨hl, ⟨_, _, rfl⟩ | ⟨_, _, _, rfl⟩ | ⟨ha, _, _, rfl⟩⟩
  · exact h
  · exact h.logs hl _
  · exact h.logs hl _
  · have h1 := h.logs hl (callCapacity f t u)
    obtain ⟨_, _, _, g4, g5⟩ := capArg_false ha
    refine ⟨h.ck, by have := h.nu; simpa [MkG.logs] using this, h.ns, h.np, h1.nl, h1.nb, h.t0, h.t1, fun x hx => ?_, h.bid⟩
    simp only [List.mem_map, List.mem_range] at hx
    obtain ⟨i, hi, rfl⟩ := hx
    split
    · exact ⟨g4, g5⟩
    · exact h.un _ (by simp [List.getD, List.getElem?_eq_getElem hi])

theorem MkOk.open {c : CfgG} (h : cfgOk c = true) : MkOk (openM c) := by
  have hc := cfgOk_true h
  refine ⟨h, by simp [openM], by simp [openM], by simp [openM], by simp [openM], by simp [openM], by simp [openM], by simp [openM]; omega, fun u hu => ?_, fun b hb => by simp [openM] at hb⟩
  simp [openM] at hu
  omega
end Go.Proofs.YtminceigjejipabGreat

namespace Go.Proofs.YtminceigjejipabGreat
open Go.RowKit

/-- find: where, or why not -/
def yfindE (m : MkG) (ten ref : Int) : Int := lookE m ten ref
def yfindI (m : MkG) (ten ref : Int) : Int := if lookE m ten ref = 0 then findZ m.bids ten ref else 0

set_option maxRecDepth 100000 in
set_option maxHeartbeats 2000000 in
theorem yfind_any (V : YV) (m : MkG) (ten ref : Int) (w : World) (hm : YmAt w V m) (hok : MkOk m) :
    Calls Tryz.prog 79 #[.pointer (some ⟨V.q, 0, none⟩), .agg #[.int .i64 ten, .int .i64 ref]] w fun e w' => e = .returned (.tuple #[.int .i64 (yfindI m ten ref), .int .i64 (lookE m ten ref)]) ∧ Chg (fun _ => False) w w' := by
  have HM := hide hm
  have HOK := hide hok
  clear hm hok
  go_enter Tryz.func79, Tryz.ntmps79
  go_wp2_with fail
  obtain ⟨w1, hw1⟩ : ∃ w1, w1 = w.alloc (.cells #[.int .i64 ten, .int .i64 ref] 61) := ⟨_, rfl⟩
  rw [← hw1]
  have hc1 : Chg (fun _ => False) w w1 := by rw [hw1]; exact (Chg.refl _ _).alloc _
  have b0 : w1.cell? ⟨w.heap.size, 0, none⟩ = some (.int .i64 ten) := by rw [hw1]; simp
  have b1 : w1.cell? ⟨w.heap.size, 1, none⟩ = some (.int .i64 ref) := by rw [hw1]; simp
  have H1 := hide (HM.out.chg0 hc1)
  have HC1 := hide hc1
  clear hw1 hc1
  refine (hasTenant_any V m ten _ H1.out HOK.out.ck).mono ?_
  rintro e w2 ⟨rfl, hw⟩
  subst w2
  cases hT : m.tenB ten
  · have E1 := hide (show lookE m ten ref = 3 by simp [lookE, hT])
    clear hT
    go_wp2
    go_ret2
    exact ⟨ret_two (by rw [yfindI, E1.out]; rfl) E1.out.symm, HC1.out⟩
  · go_wp2_with fail
    refine (indexOf_any V m ten ref _ H1.out HOK.out.bl).mono ?_
    rintro e w2 ⟨rfl, hw⟩
    have HQ := hide (HC1.out.trans hw (fun _ _ h => h))
    clear hw
    by_cases hf : findZ m.bids ten ref < 0
    · have E1 := hide (show lookE m ten ref = 5 by simp [lookE, hT, hf])
      clear hT
      generalize findZ m.bids ten ref = z at *
      go_wp2
      go_ret2
      exact ⟨ret_two (by rw [yfindI, E1.out]; rfl) E1.out.symm, HQ.out⟩
    · have E1 := hide (show lookE m ten ref = 0 by simp [lookE, hT, hf])
      have E2 := hide (show yfindI m ten ref = findZ m.bids ten ref by rw [yfindI, E1.out]; rfl)
      clear hT
      generalize findZ m.bids ten ref = z at *
      go_wp2
      go_ret2
      exact ⟨ret_two E2.out.symm E1.out.symm, HQ.out⟩

theorem lookE_cases (m : MkG) (ten ref : Int) : (lookE m ten ref = 3 ∧ m.tenB ten = false) ∨ (lookE m ten ref = 5 ∧ m.tenB ten = true ∧ findZ m.bids ten ref < 0) ∨ (lookE m ten ref = 0 ∧ m.tenB ten = true ∧ ¬ findZ m.bids ten ref < 0) := by
  unfold lookE
  cases m.tenB ten
  · simp
  · by_cases h : findZ m.bids ten ref < 0 <;> simp [h]

set_option maxRecDepth 100000 in
set_option maxHeartbeats 2000000 in
theorem ycancel_any (V : YV) (m : MkG) (ten ref : Int) (w : World) (hm : YmAt w V m) (hok : MkOk m) :
    Calls Tryz.prog 99 #[.pointer (some ⟨V.q, 0, none⟩), .agg #[.int .i64 ten, .int .i64 ref]] w fun e w' => e = .returned (.int .i64 (cancelE m ten ref)) ∧ YmTo w V (cancelM m ten ref) w' := by
  have HM := hide hm
  have HOK := hide hok
  clear hm hok
  go_enter Tryz.func99, Tryz.ntmps99
  go_wp2_with fail
  refine (yfind_any V m ten ref _ (HM.out.chg0 ((Chg.refl _ _).alloc _)) HOK.out).mono ?_
  rintro e w1 ⟨rfl, hq⟩
  have HQ := hide (((Chg.refl _ _).alloc _).trans hq (fun _ _ h => h))
  have H1 := hide (HM.out.chg0 HQ.out)
  clear hq
  rcases lookE_cases m ten ref with ⟨h1, hT⟩ | ⟨h1, hT, hf⟩ | ⟨h1, hT, hf⟩
  · have E1 := hide (show cancelE m ten ref = 3 by simp [cancelE, hT])
    rw [h1]
    clear h1 hT
    generalize yfindI m ten ref = z at *
    go_wp2
    go_ret
    exact ⟨ret_int E1.out.symm, by rw [show cancelM m ten ref = m.logs (callCancel ten ref) by simp [cancelM, E1.out]]; exact (YmTo.same HM.out HQ.out).logs _⟩
  · have E1 := hide (show cancelE m ten ref = 5 by simp [cancelE, hT, hf])
    rw [h1]
    clear h1 hT hf
    generalize yfindI m ten ref = z at *
    go_wp2
    go_ret
    exact ⟨ret_int E1.out.symm, by rw [show cancelM m ten ref = m.logs (callCancel ten ref) by simp [cancelM, E1.out]]; exact (YmTo.same HM.out HQ.out).logs _⟩
  · have E2 : yfindI m ten ref = findZ m.bids ten ref := by rw [yfindI, h1]; rfl
    rw [h1, E2]
    have hfl := findZ_lt m.bids ten ref
    have hbl := HOK.out.bl
    obtain ⟨i, hi⟩ := Int.eq_ofNat_of_zero_le (show 0 ≤ findZ m.bids ten ref by omega)
    obtain ⟨b, hb⟩ : ∃ b, m.bids[i]? = some b := ⟨_, List.getElem?_eq_getElem (by omega)⟩
    obtain ⟨ao, cap, hv, hel⟩ := H1.out.bid_form
    obtain ⟨g, hao, hown, hcl, hfr⟩ := hel i b hb
    subst hao
    have hil : (i : Int) < (m.bids.length : Int) := by omega
    have c6 : w1.cell? ⟨V.q, 6, none⟩ = some (.slice (some ⟨g, 0, none⟩) m.bids.length cap) := by rw [← hv]; exact H1.out.cell 6
    have c8 : w1.cell? ⟨g, i * 9 + 7, none⟩ = some (.int .i64 b.state) := hcl 7 _ rfl
    have f8 := hfr (i * 9 + 7)
    have HB := hide hb
    have HOW := hide hown
    have HI := hide hi
    have HT := hide hT
    rw [hi]
    clear hcl hfr hel hv hb hown hfl hf hi hT h1 E2
    cases hs : b.state == 1
    · have E1 := hide (show cancelE m ten ref = 8 by
        simp only [cancelE, HT.out, HI.out, stateAt, Int.toNat_natCast, HB.out]
        simp at hs
        simp [hs])
      generalize m.bids.length = n at *
      go_wp2
      go_ret
      exact ⟨ret_int E1.out.symm, by rw [show cancelM m ten ref = m.logs (callCancel ten ref) by simp [cancelM, E1.out]]; exact (YmTo.same HM.out HQ.out).logs _⟩
    · have hs1 : b.state = 1 := by simpa using hs
      have E1 := hide (show cancelE m ten ref = 0 by
        simp only [cancelE, HT.out, HI.out, stateAt, Int.toNat_natCast, HB.out]
        simp [hs1])
      have E2 := hide (show cancelM m ten ref = { m.logs (callCancel ten ref) with bids := m.bids.set i { b with state := 3 } } by
        simp only [cancelM, E1.out, if_true, HI.out, Int.toNat_natCast]
        have : (m.logs (callCancel ten ref)).bids = m.bids := rfl
        rw [this, setState, HB.out])
      have HFIN := hide (show YmTo w V (cancelM m ten ref) (w1.setCell ⟨g, i * 9 + 7, none⟩ (.int .i64 3)) by
        rw [E2.out]
        have := H1.out.setState (i := i) (b := b) (s := 3) HB.out (by omega) (by omega) HOW.out
        exact (YmTo.start HQ.out this).logs (callCancel ten ref))
      clear hs1
      generalize m.bids.length = n at *
      go_wp2
      go_ret
      exact ⟨ret_int E1.out.symm, HFIN.out⟩

set_option maxRecDepth 100000 in
set_option maxHeartbeats 2000000 in
theorem ysuspend_any (V : YV) (m : MkG) (ten : Int) (on : Bool) (w : World) (hm : YmAt w V m) (hok : MkOk m) :
    Calls Tryz.prog 101 #[.pointer (some ⟨V.q, 0, none⟩), .int .i64 ten, .bool on] w fun e w' => e = .returned (.int .i64 (suspendE m ten)) ∧ YmTo w V (suspendM m ten on) w' := by
  have HM := hide hm
  have HOK := hide hok
  clear hm hok
  go_enter Tryz.func101, Tryz.ntmps101
  go_wp2_with fail
  refine (hasTenant_any V m ten _ HM.out HOK.out.ck).mono ?_
  rintro e w2 ⟨rfl, hw⟩
  subst w2
  cases hT : m.tenB ten
  · have E1 := hide (show suspendE m ten = 3 by simp [suspendE, hT])
    clear hT
    go_wp2
    go_ret
    exact ⟨ret_int E1.out.symm, by rw [show suspendM m ten on = m.logs (callSuspend ten on) by simp [suspendM, E1.out]]; exact (YmTo.refl HM.out).logs _⟩
  · obtain ⟨t0, t1⟩ := tenB_true hT
    have hns := HOK.out.ns
    have hcf := cfgOk_true HOK.out.ck
    obtain ⟨i, rfl⟩ := Int.eq_ofNat_of_zero_le t0
    obtain ⟨ao, cap, hv, hel⟩ := HM.out.susp_form
    obtain ⟨g, hao, hown, hcl, hfr⟩ := hel i (by omega)
    subst hao
    have hil : (i : Int) < (m.susp.length : Int) := by omega
    have hsl : m.susp.length ≤ 8 := by omega
    have c7 : w.cell? ⟨V.q, 7, none⟩ = some (.slice (some ⟨g, 0, none⟩) m.susp.length cap) := by rw [← hv]; exact HM.out.cell 7
    have E1 := hide (show suspendE m i = 0 by simp [suspendE, hT])
    have HFIN := hide (show YmTo w V (suspendM m i on) (w.setCell ⟨g, i, none⟩ (.bool on)) by
      rw [show suspendM m i on = { m.logs (callSuspend i on) with susp := m.susp.set i on } by simp [suspendM, E1.out, MkG.logs]]
      exact (HM.out.setSusp (s := on) (by omega) hown).logs (callSuspend i on))
    clear hT hel hv hown hns hcf t0 t1
    generalize m.susp.length = n at *
    go_wp2
    go_ret
    exact ⟨ret_int E1.out.symm, HFIN.out⟩
end Go.Proofs.YtminceigjejipabGreat

namespace Go.Proofs.YtminceigjejipabGreat
open Go.RowKit

set_option maxRecDepth 100000 in
set_option maxHeartbeats 4000000 in
theorem ylook_any (V : YV) (m : MkG) (ten ref : Int) (w : World) (hm : YmAt w V m) (hok : MkOk m) :
    Calls Tryz.prog 69 #[.pointer (some ⟨V.q, 0, none⟩), .agg #[.int .i64 ten, .int .i64 ref]] w fun e w' => e = .returned (.tuple #[.agg #[.int .i64 (lookS m ten ref), .int .i64 (lookT m ten ref)], .int .i64 (lookE m ten ref)]) ∧ Chg (fun _ => False) w w' := by
  have HM := hide hm
  have HOK := hide hok
  clear hm hok
  go_enter Tryz.func69, Tryz.ntmps69
  go_wp2_with fail
  obtain ⟨w1, hw1⟩ : ∃ w1, w1 = (w.alloc (.cells #[.int .i64 ten, .int .i64 ref] 61)).alloc (.cells #[.int .i64 0, .int .i64 0] 89) := ⟨_, rfl⟩
  rw [← hw1]
  have hbk : w1.heap[w.heap.size + 1]? = some (.cells #[.int .i64 0, .int .i64 0] 89 (0, 0)) := by
    rw [hw1]
    have := heap_alloc_new (w.alloc (.cells #[.int .i64 ten, .int .i64 ref] 61)) (.cells #[.int .i64 0, .int .i64 0] 89)
    simpa using this
  have hc1 : Chg (fun _ => False) w w1 := by rw [hw1]; exact ((Chg.refl _ _).alloc _).alloc _
  have hs1 : w1.heap.size = w.heap.size + 1 + 1 := by rw [hw1]; simp
  clear hw1
  refine (yfind_any V m ten ref _ (HM.out.chg0 hc1) HOK.out).mono ?_
  rintro e w2 ⟨rfl, hq⟩
  have hbk2 : w2.heap[w.heap.size + 1]? = some (.cells #[.int .i64 0, .int .i64 0] 89 (0, 0)) := (hq.block _ (by omega) (fun h => h)).trans hbk
  have z0 : w2.cell? ⟨w.heap.size + 1, 0, none⟩ = some (.int .i64 0) := by unfold World.cell?; rw [hbk2]; rfl
  have z1 : w2.cell? ⟨w.heap.size + 1, 1, none⟩ = some (.int .i64 0) := by unfold World.cell?; rw [hbk2]; rfl
  have zf : ∀ r, w2.frozen? ⟨w.heap.size + 1, r, none⟩ = false := fun r => by unfold World.frozen?; rw [hbk2]; simp
  have HC2 := hide (hc1.trans hq (fun _ _ h => h))
  have HBK := hide hbk2
  have H2 := hide (HM.out.chg0 HC2.out)
  clear hc1 hs1 hbk hq hbk2
  rcases lookE_cases m ten ref with ⟨h1, hT⟩ | ⟨h1, hT, hf⟩ | ⟨h1, hT, hf⟩
  · have E1 := hide h1
    rw [h1]
    clear h1 hT
    generalize yfindI m ten ref = z at *
    go_wp2
    obtain ⟨r0, r1⟩ := two_set (a := .int .i64 0) (b := .int .i64 0) HBK.out
    refine bodyPost_ret (v := .tuple #[.agg #[.int .i64 0, .int .i64 0], .int .i64 3]) (by simp [results, Tryz.results69, go_sem, r0, r1]) rfl ⟨?_, ?_⟩
    · rw [lookS, lookT, E1.out]; rfl
    · exact (HC2.out.setCell (.inr (Nat.le_succ _)) _).setCell (.inr (Nat.le_succ _)) _
  · have E1 := hide h1
    rw [h1]
    clear h1 hT hf
    generalize yfindI m ten ref = z at *
    go_wp2
    obtain ⟨r0, r1⟩ := two_set (a := .int .i64 0) (b := .int .i64 0) HBK.out
    refine bodyPost_ret (v := .tuple #[.agg #[.int .i64 0, .int .i64 0], .int .i64 5]) (by simp [results, Tryz.results69, go_sem, r0, r1]) rfl ⟨?_, ?_⟩
    · rw [lookS, lookT, E1.out]; rfl
    · exact (HC2.out.setCell (.inr (Nat.le_succ _)) _).setCell (.inr (Nat.le_succ _)) _
  · have E2 : yfindI m ten ref = findZ m.bids ten ref := by rw [yfindI, h1]; rfl
    rw [h1, E2]
    have hfl := findZ_lt m.bids ten ref
    have hbl := HOK.out.bl
    obtain ⟨i, hi⟩ := Int.eq_ofNat_of_zero_le (show 0 ≤ findZ m.bids ten ref by omega)
    obtain ⟨b, hb⟩ : ∃ b, m.bids[i]? = some b := ⟨_, List.getElem?_eq_getElem (by omega)⟩
    obtain ⟨ao, cap, hv, hel⟩ := H2.out.bid_form
    obtain ⟨g, hao, hown, hcl, hfr⟩ := hel i b hb
    subst hao
    have hil : (i : Int) < (m.bids.length : Int) := by omega
    have c6 : w2.cell? ⟨V.q, 6, none⟩ = some (.slice (some ⟨g, 0, none⟩) m.bids.length cap) := by rw [← hv]; exact H2.out.cell 6
    have c7 : w2.cell? ⟨g, i * 9 + 7, none⟩ = some (.int .i64 b.state) := hcl 7 _ rfl
    have c8 : w2.cell? ⟨g, i * 9 + 8, none⟩ = some (.int .i64 b.start) := hcl 8 _ rfl
    have E1 := hide h1
    have E3 := hide (show lookS m ten ref = b.state ∧ lookT m ten ref = b.start by
      rw [lookS, lookT, h1, hi]
      simp [stateAt, startAt, hb])
    rw [hi]
    clear hcl hfr hel hv hb hown hfl hf hi hT h1 E2
    generalize m.bids.length = n at *
    go_wp2
    obtain ⟨r0, r1⟩ := two_set (a := .int .i64 b.state) (b := .int .i64 b.start) HBK.out
    refine bodyPost_ret (v := .tuple #[.agg #[.int .i64 b.state, .int .i64 b.start], .int .i64 0]) (by simp [results, Tryz.results69, go_sem, r0, r1]) rfl ⟨?_, ?_⟩
    · rw [E3.out.1, E3.out.2, E1.out]
    · exact (HC2.out.setCell (.inr (Nat.le_succ _)) _).setCell (.inr (Nat.le_succ _)) _
end Go.Proofs.YtminceigjejipabGreat
