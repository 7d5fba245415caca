import Derived.Test.YtccfademkgjeiaaYS
import Derived.Test.YtccfademkgjeiaaY1
import Derived.Test.YtccfademkgjeiaaY2
import Derived.Test.YtccfademkgjeiaaY3
import Derived.Test.YtccfademkgjeiaaYArr
/-
  THE LANDED MARKET MEETS YardSpec.
-/
namespace Go.Proofs.Ytccfademkgjeiaa
open Go.RowKit

def yBox (n : Nat) (q : Nat) : Array Value := #[.int .i64 (n : Int), .pointer (some ⟨q, 0, none⟩)]
structure YAtV (w : World) (p : Nat) (V : YV) (m : MkG) : Prop where
  box : w.heap[p]? = some (.cells (yBox m.log.length V.q) 105 (0, 0))
  mkt : YmAt w V m
  arr : ArrOk m
def YAt (w : World) (p : Nat) (F : Nat → Prop) (m : MkG) : Prop := ∃ V : YV, (∀ k, F k ↔ (k = p ∨ V.foot k)) ∧ YAtV w p V m

section
variable {w : World} {p : Nat} {V : YV} {m : MkG}
theorem YAtV.lt (h : YAtV w p V m) : p < w.heap.size := (Array.getElem?_eq_some_iff.1 h.box).1
theorem YAtV.out (h : YAtV w p V m) : ¬ V.foot p := by
  intro hf
  obtain ⟨c, T, h1, h2⟩ := h.mkt.foot_ty p hf
  have := h.box
  rw [h1] at this
  simp at this
  rcases h2 with rfl | rfl | rfl | rfl | rfl <;> simp at this
theorem YAtV.chg0 {w' : World} (h : YAtV w p V m) (hc : Chg (fun _ => False) w w') : YAtV w' p V m := ⟨(hc.block _ h.lt (fun h => h)).trans h.box, h.mkt.chg0 hc, h.arr⟩
theorem YAtV.cell (h : YAtV w p V m) (f : Nat) : w.cell? ⟨p, f, none⟩ = (yBox m.log.length V.q)[f]? := by
  unfold World.cell?
  rw [h.box]
  rfl
theorem YAtV.free (h : YAtV w p V m) (f : Nat) : w.frozen? ⟨p, f, none⟩ = false := by
  unfold World.frozen?
  rw [h.box]
  simp
/-- an entry more -/
theorem YAtV.more (h : YAtV w p V m) : (w.setCell ⟨p, 0, none⟩ (.int .i64 ((m.log.length : Int) + 1))).heap[p]? = some (.cells (yBox (m.log.length + 1) V.q) 105 (0, 0)) ∧ YmAt (w.setCell ⟨p, 0, none⟩ (.int .i64 ((m.log.length : Int) + 1))) V m := by
  refine ⟨?_, h.mkt.frame (fun k hk => Below.heap_setCell _ _ _ _ (fun e => h.out (by have e' : k = p := e; rw [e'] at hk; exact hk)))⟩
  rw [box_set h.box]
  rfl
/-- what a call behind the log makes of it -/
theorem YAtV.step {F : Nat → Prop} {w1 w2 : World} {m' : MkG} (hF : ∀ k, F k ↔ (k = p ∨ V.foot k)) (h : YAtV w p V m) (hc : Chg (fun k => k = p) w w1) (hb : w1.heap[p]? = some (.cells (yBox (m.log.length + 1) V.q) 105 (0, 0))) (ht : YmTo w1 V m' w2) (hl : m'.log.length = m.log.length + 1) (ha : ArrOk m') : YTo YAt w p F m' w2 := by
  obtain ⟨V', h0, h1, h2, h3⟩ := ht
  have hp1 : p < w1.heap.size := (Array.getElem?_eq_some_iff.1 hb).1
  refine ⟨fun k => k = p ∨ V'.foot k, ⟨V', fun _ => Iff.rfl, ?_, h1, ha⟩, ?_, ?_⟩
  · rw [hl, h0]
    exact (h2.block _ hp1 h.out).trans hb
  · refine (hc.mono (fun k _ hk => (hF k).2 (.inl hk))).trans h2 (fun k _ hk => (hF k).2 (.inr hk))
  · intro k hk
    rcases hk with rfl | hk
    · exact .inl ((hF _).2 (.inl rfl))
    · rcases h3 k hk with h | h
      · exact .inl ((hF _).2 (.inr h))
      · exact .inr (Nat.le_trans hc.size h)
theorem YAtV.same {F : Nat → Prop} {w' : World} (hF : ∀ k, F k ↔ (k = p ∨ V.foot k)) (h : YAtV w p V m) (hc : Chg (fun _ => False) w w') : YTo YAt w p F m w' :=
  ⟨F, ⟨V, hF, h.chg0 hc⟩, hc.mono (fun _ _ h => h.elim), fun _ hk => .inl hk⟩
end

set_option maxHeartbeats 1000000 in
theorem log_full (p : Nat) (V : YV) (m : MkG) (w : World) (hy : YAtV w p V m) (hl : m.log.length = 300) :
    Calls Try.prog 72 #[.pointer (some ⟨p, 0, none⟩)] w fun e w' => e = .returned (.bool false) ∧ w' = w := by
  have hc : w.cell? ⟨p, 0, none⟩ = some (.int .i64 300) := by
    have : w.cell? ⟨p, 0, none⟩ = some (.int .i64 (m.log.length : Int)) := hy.cell 0
    rw [this, hl]; rfl
  clear hy hl
  go_enter Try.func72, Try.ntmps72
  go_wp2
  go_ret
  exact ⟨rfl, rfl⟩

set_option maxRecDepth 100000 in
set_option maxHeartbeats 1000000 in
theorem log_ok (p : Nat) (V : YV) (m : MkG) (w : World) (hy : YAtV w p V m) (hl : m.log.length < 300) :
    Calls Try.prog 72 #[.pointer (some ⟨p, 0, none⟩)] w fun e w' => e = .returned (.bool true) ∧ w' = w.setCell ⟨p, 0, none⟩ (.int .i64 ((m.log.length : Int) + 1)) := by
  have hc : w.cell? ⟨p, 0, none⟩ = some (.int .i64 (m.log.length : Int)) := hy.cell 0
  have hf := hy.free 0
  clear hy
  generalize m.log.length = n at *
  go_enter Try.func72, Try.ntmps72
  go_wp2
  go_ret
  exact ⟨rfl, rfl⟩

theorem submitM_log (m : MkG) (ten ref : Int) (j : JobG) : (submitM m ten ref j).log.length = m.log.length + 1 := by
  unfold submitM
  simp only
  split <;> simp [MkG.logs]
theorem cancelM_log (m : MkG) (ten ref : Int) : (cancelM m ten ref).log.length = m.log.length + 1 := by
  unfold cancelM
  simp only
  split <;> simp [MkG.logs]
theorem suspendM_log (m : MkG) (ten : Int) (on : Bool) : (suspendM m ten on).log.length = m.log.length + 1 := by
  unfold suspendM
  simp only
  split <;> simp [MkG.logs]
theorem CapRes.log {m m' : MkG} {f t u z : Int} (h : CapRes m f t u z m') : m'.log.length = m.log.length + 1 := by
  rcases h with ⟨_, _, rfl⟩ | ⟨_, _, _, rfl⟩ | ⟨_, _, _, rfl⟩ <;> simp [MkG.logs]

set_option maxRecDepth 100000 in
set_option maxHeartbeats 4000000 in
theorem ySubmit (w : World) (p : Nat) (F : Nat → Prop) (m : MkG) (ten ref : Int) (j : JobG) (hy : YAt w p F m) (hok : MkOk m) :
    Calls Try.prog 44 #[.pointer (some ⟨p, 0, none⟩), .int .i64 ten, .int .i64 ref, jobV j] w fun e w' => ∃ z m', e = .returned (.int .i64 z) ∧ SubmitRes m ten ref j z m' ∧ YTo YAt w p F m' w' := by
  unfold jobV
  obtain ⟨V, hF, hv⟩ := hy
  have HF := hide hF
  have HV := hide hv
  have HOK := hide hok
  clear hF hv hok
  by_cases hl : m.log.length = 300
  · have HL := hide hl
    clear hl
    go_enter Try.func44, Try.ntmps44
    go_wp2_with (go_at_call 72; refine (log_full p V m _ (HV.out.chg0 ((Chg.refl _ _).alloc _)) HL.out).mono ?_; rintro e w' ⟨rfl, hw⟩; subst w')
    go_ret
    exact ⟨2, m, rfl, .inl ⟨HL.out, rfl, rfl⟩, HV.out.same HF.out ((Chg.refl _ _).alloc _)⟩
  · have hl' : m.log.length < 300 := by have := HOK.out.nl; omega
    have HL := hide hl'
    clear hl hl'
    go_enter Try.func44, Try.ntmps44
    go_wp2_with fail
    obtain ⟨w1, hw1⟩ : ∃ w1, w1 = w.alloc (.cells #[.int .i64 j.arr, .int .i64 j.dl, .int .i64 j.len, .int .i64 j.units, .int .i64 j.val] 58) := ⟨_, rfl⟩
    rw [← hw1]
    have hb1 : w1.heap[w.heap.size]? = some (.cells #[.int .i64 j.arr, .int .i64 j.dl, .int .i64 j.len, .int .i64 j.units, .int .i64 j.val] 58 (0, 0)) := by rw [hw1]; exact heap_alloc_new w _
    have hc1 : Chg (fun _ => False) w w1 := by rw [hw1]; exact (Chg.refl _ _).alloc _
    clear hw1
    have hv1 := HV.out.chg0 hc1
    refine (log_ok p V m _ hv1 HL.out).mono ?_
    rintro e w2 ⟨rfl, hw2⟩
    obtain ⟨m1, m2⟩ := hv1.more
    rw [← hw2] at m1 m2
    have hpl := HV.out.lt
    have hs1 : w.heap.size < w1.heap.size := (Array.getElem?_eq_some_iff.1 hb1).1
    have hc12 : Chg (fun k => k = p) w1 w2 := by rw [hw2]; exact (Chg.refl (fun k => k = p) _).setCell (.inl rfl) _
    have hb2 : w2.heap[w.heap.size]? = some (.cells #[.int .i64 j.arr, .int .i64 j.dl, .int .i64 j.len, .int .i64 j.units, .int .i64 j.val] 58 (0, 0)) := (hc12.block _ hs1 (by omega)).trans hb1
    have hs2 := hc12.size
    have hs2' : w.heap.size < w2.heap.size := by omega
    have hp2 : p < w2.heap.size := by omega
    have j0 : w2.cell? ⟨w.heap.size, 0, none⟩ = some (.int .i64 j.arr) := by unfold World.cell?; rw [hb2]; rfl
    have j1 : w2.cell? ⟨w.heap.size, 1, none⟩ = some (.int .i64 j.dl) := by unfold World.cell?; rw [hb2]; rfl
    have j2 : w2.cell? ⟨w.heap.size, 2, none⟩ = some (.int .i64 j.len) := by unfold World.cell?; rw [hb2]; rfl
    have j3 : w2.cell? ⟨w.heap.size, 3, none⟩ = some (.int .i64 j.units) := by unfold World.cell?; rw [hb2]; rfl
    have j4 : w2.cell? ⟨w.heap.size, 4, none⟩ = some (.int .i64 j.val) := by unfold World.cell?; rw [hb2]; rfl
    have cq : w2.cell? ⟨p, 1, none⟩ = some (.pointer (some ⟨V.q, 0, none⟩)) := by unfold World.cell?; rw [m1]; rfl
    have HN := hide (show ¬ V.foot p ∧ ¬ V.foot w.heap.size from ⟨HV.out.out, fun h => by have := HV.out.mkt.foot_lt _ h; omega⟩)
    have HFIN := hide (fun (m' : MkG) (w' : World) (h : YmTo w2 V m' w') (hl : m'.log.length = m.log.length + 1) (ha : ArrOk m') => HV.out.step HF.out ((hc1.mono (fun _ _ h => h.elim)).trans hc12 (fun _ _ h => h)) m1 h hl ha)
    have HSUB := hide (fun (w0 : World) (hc : Chg (fun _ => False) w2 w0) => ysubmit_any V m ten ref j w0 (m2.chg0 hc) HOK.out)
    clear hw2 hc1 hc12 hb1 hb2 m1 m2 hv1 hs1 hs2
    go_wp2
    go_region_held3 (fun w' => w'.cell? ⟨p, 1, none⟩ = some (.pointer (some ⟨V.q, 0, none⟩)) ∧ w'.cell? ⟨w.heap.size, 0, none⟩ = some (.int .i64 j.arr) ∧ w'.cell? ⟨w.heap.size, 1, none⟩ = some (.int .i64 j.dl) ∧ w'.cell? ⟨w.heap.size, 2, none⟩ = some (.int .i64 j.len) ∧ w'.cell? ⟨w.heap.size, 3, none⟩ = some (.int .i64 j.units) ∧ w'.cell? ⟨w.heap.size, 4, none⟩ = some (.int .i64 j.val)) (go_keep)
      (first | (go_at_call 73; refine (HSUB.out w2.drew ((Chg.refl _ _).drew)).mono ?_; rintro e w3 ⟨rfl, hto⟩; have hq := hto.choose_spec.2.2.1; have x0 := hq.cell (p := ⟨p, 1, none⟩) hp2 HN.out.1; have x1 := hq.cell (p := ⟨w.heap.size, 0, none⟩) hs2' HN.out.2; have x2 := hq.cell (p := ⟨w.heap.size, 1, none⟩) hs2' HN.out.2; have x3 := hq.cell (p := ⟨w.heap.size, 2, none⟩) hs2' HN.out.2; have x4 := hq.cell (p := ⟨w.heap.size, 3, none⟩) hs2' HN.out.2; have x5 := hq.cell (p := ⟨w.heap.size, 4, none⟩) hs2' HN.out.2; have HTO := hide hto; clear hq hto))
    all_goals
      clear x0 x1 x2 x3 x4 x5 j0 j1 j2 j3 j4 cq
      go_wp2
      go_ret
      exact ⟨_, _, rfl, .inr ⟨HL.out, rfl, rfl⟩, HFIN.out _ _ (YmTo.start ((Chg.refl _ _).drew) HTO.out) (submitM_log _ _ _ _) (HV.out.arr.submit _ _ _)⟩

set_option maxRecDepth 100000 in
set_option maxHeartbeats 2000000 in
theorem yCancel (w : World) (p : Nat) (F : Nat → Prop) (m : MkG) (ten ref : Int) (hy : YAt w p F m) (hok : MkOk m) :
    Calls Try.prog 45 #[.pointer (some ⟨p, 0, none⟩), .int .i64 ten, .int .i64 ref] w fun e w' => ∃ z m', e = .returned (.int .i64 z) ∧ CancelRes m ten ref z m' ∧ YTo YAt w p F m' w' := by
  obtain ⟨V, hF, hv⟩ := hy
  have HF := hide hF
  have HV := hide hv
  have HOK := hide hok
  clear hF hv hok
  by_cases hl : m.log.length = 300
  · have HL := hide hl
    clear hl
    go_enter Try.func45, Try.ntmps45
    go_wp2_with (go_at_call 72; refine (log_full p V m _ HV.out HL.out).mono ?_; rintro e w' ⟨rfl, hw⟩; subst w')
    go_ret
    exact ⟨2, m, rfl, .inl ⟨HL.out, rfl, rfl⟩, HV.out.same HF.out (Chg.refl _ _)⟩
  · have hl' : m.log.length < 300 := by have := HOK.out.nl; omega
    have HL := hide hl'
    clear hl hl'
    go_enter Try.func45, Try.ntmps45
    go_wp2_with fail
    refine (log_ok p V m _ HV.out HL.out).mono ?_
    rintro e w2 ⟨rfl, hw2⟩
    obtain ⟨m1, m2⟩ := HV.out.more
    rw [← hw2] at m1 m2
    have hc12 : Chg (fun k => k = p) w w2 := by rw [hw2]; exact (Chg.refl (fun k => k = p) _).setCell (.inl rfl) _
    have cq : w2.cell? ⟨p, 1, none⟩ = some (.pointer (some ⟨V.q, 0, none⟩)) := by unfold World.cell?; rw [m1]; rfl
    have HFIN := hide (fun (m' : MkG) (w' : World) (h : YmTo w2 V m' w') (hl : m'.log.length = m.log.length + 1) (ha : ArrOk m') => HV.out.step HF.out hc12 m1 h hl ha)
    have HSUB := hide (ycancel_any V m ten ref w2 m2 HOK.out)
    clear hw2 hc12 m1 m2
    go_wp2_with (go_at_call 74; refine HSUB.out.mono ?_; rintro e w3 ⟨rfl, hto⟩; have HTO := hide hto; clear hto)
    go_ret
    exact ⟨_, _, rfl, .inr ⟨HL.out, rfl, rfl⟩, HFIN.out _ _ HTO.out (cancelM_log _ _ _) (HV.out.arr.cancel _ _)⟩

set_option maxRecDepth 100000 in
set_option maxHeartbeats 2000000 in
theorem ySuspend (w : World) (p : Nat) (F : Nat → Prop) (m : MkG) (ten : Int) (on : Bool) (hy : YAt w p F m) (hok : MkOk m) :
    Calls Try.prog 46 #[.pointer (some ⟨p, 0, none⟩), .int .i64 ten, .bool on] w fun e w' => ∃ z m', e = .returned (.int .i64 z) ∧ SuspendRes m ten on z m' ∧ YTo YAt w p F m' w' := by
  obtain ⟨V, hF, hv⟩ := hy
  have HF := hide hF
  have HV := hide hv
  have HOK := hide hok
  clear hF hv hok
  by_cases hl : m.log.length = 300
  · have HL := hide hl
    clear hl
    go_enter Try.func46, Try.ntmps46
    go_wp2_with (go_at_call 72; refine (log_full p V m _ HV.out HL.out).mono ?_; rintro e w' ⟨rfl, hw⟩; subst w')
    go_ret
    exact ⟨2, m, rfl, .inl ⟨HL.out, rfl, rfl⟩, HV.out.same HF.out (Chg.refl _ _)⟩
  · have hl' : m.log.length < 300 := by have := HOK.out.nl; omega
    have HL := hide hl'
    clear hl hl'
    go_enter Try.func46, Try.ntmps46
    go_wp2_with fail
    refine (log_ok p V m _ HV.out HL.out).mono ?_
    rintro e w2 ⟨rfl, hw2⟩
    obtain ⟨m1, m2⟩ := HV.out.more
    rw [← hw2] at m1 m2
    have hc12 : Chg (fun k => k = p) w w2 := by rw [hw2]; exact (Chg.refl (fun k => k = p) _).setCell (.inl rfl) _
    have cq : w2.cell? ⟨p, 1, none⟩ = some (.pointer (some ⟨V.q, 0, none⟩)) := by unfold World.cell?; rw [m1]; rfl
    have HFIN := hide (fun (m' : MkG) (w' : World) (h : YmTo w2 V m' w') (hl : m'.log.length = m.log.length + 1) (ha : ArrOk m') => HV.out.step HF.out hc12 m1 h hl ha)
    have HSUB := hide (ysuspend_any V m ten on w2 m2 HOK.out)
    clear hw2 hc12 m1 m2
    go_wp2_with (go_at_call 75; refine HSUB.out.mono ?_; rintro e w3 ⟨rfl, hto⟩; have HTO := hide hto; clear hto)
    go_ret
    exact ⟨_, _, rfl, .inr ⟨HL.out, rfl, rfl⟩, HFIN.out _ _ HTO.out (suspendM_log _ _ _) (HV.out.arr.suspend _ _)⟩

set_option maxRecDepth 100000 in
set_option maxHeartbeats 2000000 in
theorem yCapacity (w : World) (p : Nat) (F : Nat → Prop) (m : MkG) (f t u : Int) (hy : YAt w p F m) (hok : MkOk m) :
    Calls Try.prog 47 #[.pointer (some ⟨p, 0, none⟩), .int .i64 f, .int .i64 t, .int .i64 u] w fun e w' => ∃ z m', e = .returned (.int .i64 z) ∧ CapacityRes m f t u z m' ∧ YTo YAt w p F m' w' := by
  obtain ⟨V, hF, hv⟩ := hy
  have HF := hide hF
  have HV := hide hv
  have HOK := hide hok
  clear hF hv hok
  by_cases hl : m.log.length = 300
  · have HL := hide hl
    clear hl
    go_enter Try.func47, Try.ntmps47
    go_wp2_with (go_at_call 72; refine (log_full p V m _ HV.out HL.out).mono ?_; rintro e w' ⟨rfl, hw⟩; subst w')
    go_ret
    exact ⟨2, m, rfl, .inl ⟨HL.out, rfl, rfl⟩, HV.out.same HF.out (Chg.refl _ _)⟩
  · have hl' : m.log.length < 300 := by have := HOK.out.nl; omega
    have HL := hide hl'
    clear hl hl'
    go_enter Try.func47, Try.ntmps47
    go_wp2_with fail
    refine (log_ok p V m _ HV.out HL.out).mono ?_
    rintro e w2 ⟨rfl, hw2⟩
    obtain ⟨m1, m2⟩ := HV.out.more
    rw [← hw2] at m1 m2
    have hc12 : Chg (fun k => k = p) w w2 := by rw [hw2]; exact (Chg.refl (fun k => k = p) _).setCell (.inl rfl) _
    have cq : w2.cell? ⟨p, 1, none⟩ = some (.pointer (some ⟨V.q, 0, none⟩)) := by unfold World.cell?; rw [m1]; rfl
    have HFIN := hide (fun (m' : MkG) (w' : World) (h : YmTo w2 V m' w') (hl : m'.log.length = m.log.length + 1) (ha : ArrOk m') => HV.out.step HF.out hc12 m1 h hl ha)
    have HSUB := hide (ycapacity_any V m f t u w2 m2 HOK.out)
    clear hw2 hc12 m1 m2
    go_wp2_with (go_at_call 76; refine HSUB.out.mono ?_; rintro e w3 ⟨z, m', rfl, hres, hto⟩; have HTO := hide hto; have HRES := hide hres; clear hto hres)
    go_ret
    exact ⟨_, _, rfl, .inr ⟨HL.out, HRES.out⟩, HFIN.out _ _ HTO.out HRES.out.log (HV.out.arr.cap HRES.out)⟩

set_option maxHeartbeats 1000000 in
theorem yNow (w : World) (p : Nat) (F : Nat → Prop) (m : MkG) (hy : YAt w p F m) :
    Calls Try.prog 22 #[.pointer (some ⟨p, 0, none⟩)] w fun e w' => e = .returned (.int .i64 m.time) ∧ YTo YAt w p F m w' := by
  obtain ⟨V, hF, hv⟩ := hy
  have HFIN := hide (hv.same hF (Chg.refl _ _))
  have cq : w.cell? ⟨p, 1, none⟩ = some (.pointer (some ⟨V.q, 0, none⟩)) := hv.cell 1
  have c5 : w.cell? ⟨V.q, 5, none⟩ = some (.int .i64 m.time) := hv.mkt.cell 5
  clear hF hv
  go_enter Try.func22, Try.ntmps22
  go_wp2
  go_ret
  exact ⟨rfl, HFIN.out⟩

set_option maxHeartbeats 1000000 in
theorem yLeft (w : World) (p : Nat) (F : Nat → Prop) (m : MkG) (hy : YAt w p F m) (hok : MkOk m) :
    Calls Try.prog 90 #[.pointer (some ⟨p, 0, none⟩)] w fun e w' => e = .returned (.int .i64 (300 - (m.log.length : Int))) ∧ YTo YAt w p F m w' := by
  obtain ⟨V, hF, hv⟩ := hy
  have HFIN := hide (hv.same hF (Chg.refl _ _))
  have c0 : w.cell? ⟨p, 0, none⟩ = some (.int .i64 (m.log.length : Int)) := hv.cell 0
  have hl := hok.nl
  clear hF hv hok
  obtain ⟨n, hn⟩ : ∃ n, n = m.log.length := ⟨_, rfl⟩
  rw [← hn] at c0 hl ⊢
  clear hn
  go_enter Try.func90, Try.ntmps90
  go_wp2
  go_ret
  exact ⟨rfl, HFIN.out⟩

set_option maxRecDepth 100000 in
set_option maxHeartbeats 2000000 in
theorem yLook (w : World) (p : Nat) (F : Nat → Prop) (m : MkG) (ten ref : Int) (hy : YAt w p F m) (hok : MkOk m) :
    Calls Try.prog 51 #[.pointer (some ⟨p, 0, none⟩), .int .i64 ten, .int .i64 ref] w fun e w' => e = .returned (.tuple #[.agg #[.int .i64 (lookS m ten ref), .int .i64 (lookT m ten ref)], .int .i64 (lookE m ten ref)]) ∧ YTo YAt w p F m w' := by
  obtain ⟨V, hF, hv⟩ := hy
  have HFIN := hide (fun w' h => hv.same (w' := w') hF h)
  have cq : w.cell? ⟨p, 1, none⟩ = some (.pointer (some ⟨V.q, 0, none⟩)) := hv.cell 1
  have cq' : ∀ o, (w.alloc o).cell? ⟨p, 1, none⟩ = some (.pointer (some ⟨V.q, 0, none⟩)) := fun o => by rw [World.cell?_alloc_lt _ _ _ (by exact hv.lt)]; exact cq
  have HSUB := hide (fun o => ylook_any V m ten ref (w.alloc o) (hv.mkt.chg0 ((Chg.refl _ _).alloc _)) hok)
  clear hF hv hok
  go_enter Try.func51, Try.ntmps51
  go_wp2_with fail
  obtain ⟨w1, hw1⟩ : ∃ w1, w1 = w.alloc (.cells #[.int .i64 0, .int .i64 0] 114) := ⟨_, rfl⟩
  have hs := HSUB.out (.cells #[.int .i64 0, .int .i64 0] 114)
  rw [← hw1] at hs ⊢
  refine hs.mono ?_
  clear hs
  rintro e w2 ⟨rfl, hq⟩
  have hbk : w1.heap[w.heap.size]? = some (.cells #[.int .i64 0, .int .i64 0] 114 (0, 0)) := by rw [hw1]; exact heap_alloc_new w _
  have hs1 : w.heap.size < w1.heap.size := (Array.getElem?_eq_some_iff.1 hbk).1
  have hbk2 : w2.heap[w.heap.size]? = some (.cells #[.int .i64 0, .int .i64 0] 114 (0, 0)) := (hq.block _ hs1 (fun h => h)).trans hbk
  have z0 : w2.cell? ⟨w.heap.size, 0, none⟩ = some (.int .i64 0) := by unfold World.cell?; rw [hbk2]; rfl
  have z1 : w2.cell? ⟨w.heap.size, 1, none⟩ = some (.int .i64 0) := by unfold World.cell?; rw [hbk2]; rfl
  have zf : ∀ r, w2.frozen? ⟨w.heap.size, r, none⟩ = false := fun r => by unfold World.frozen?; rw [hbk2]; simp
  have hc1 : Chg (fun _ => False) w w1 := by rw [hw1]; exact (Chg.refl _ _).alloc _
  have HC2 := hide (hc1.trans hq (fun _ _ h => h))
  have HBK := hide hbk2
  clear hbk hbk2 hq hc1 hs1 hw1 cq cq' HSUB
  obtain ⟨sS, hS⟩ : ∃ x, x = lookS m ten ref := ⟨_, rfl⟩
  obtain ⟨sT, hT⟩ : ∃ x, x = lookT m ten ref := ⟨_, rfl⟩
  obtain ⟨sE, hE⟩ : ∃ x, x = lookE m ten ref := ⟨_, rfl⟩
  rw [← hS, ← hT, ← hE]
  have HS := hide hS
  have HT := hide hT
  have HE := hide hE
  clear hS hT hE
  go_wp2
  obtain ⟨r0, r1⟩ := two_set (a := .int .i64 sS) (b := .int .i64 sT) HBK.out
  refine bodyPost_ret (v := .tuple #[.agg #[.int .i64 sS, .int .i64 sT], .int .i64 sE]) (by simp [results, Try.results51, go_sem, r0, r1]) rfl ⟨by rw [HS.out, HT.out, HE.out], ?_⟩
  exact HFIN.out _ ((HC2.out.setCell (.inr (Nat.le_refl _)) _).setCell (.inr (Nat.le_refl _)) _)

set_option maxRecDepth 100000 in
set_option maxHeartbeats 2000000 in
theorem yFree (w : World) (p : Nat) (F : Nat → Prop) (m : MkG) (t : Int) (hy : YAt w p F m) (hok : MkOk m) :
    Calls Try.prog 53 #[.pointer (some ⟨p, 0, none⟩), .int .i64 t] w fun e w' => e = .returned (.tuple #[.int .i64 (freeV m t), .int .i64 (freeE m t)]) ∧ YTo YAt w p F m w' := by
  obtain ⟨V, hF, hv⟩ := hy
  have HFIN := hide (hv.same hF (Chg.refl _ _))
  have cq : w.cell? ⟨p, 1, none⟩ = some (.pointer (some ⟨V.q, 0, none⟩)) := hv.cell 1
  have HSUB := hide (freeAt_any V m t w hv.mkt hok)
  clear hF hv hok
  go_enter Try.func53, Try.ntmps53
  go_wp2_with (go_at_call 79; refine HSUB.out.mono ?_; rintro e w' ⟨rfl, hw⟩; subst w')
  go_ret2
  exact ⟨rfl, HFIN.out⟩

theorem ckZ_ok {c : CfgG} (h : cfgOk c = true) : ckZ c.ticks c.cap c.res c.ten c.quo = 0 := by simp only [cfgOk] at h; simp [ckZ, h]
theorem ckZ_bad {c : CfgG} (h : cfgOk c = false) : ckZ c.ticks c.cap c.res c.ten c.quo = 1 := by simp only [cfgOk] at h; simp [ckZ, h]

set_option maxRecDepth 100000 in
set_option maxHeartbeats 2000000 in
theorem yOpen_bad (c : CfgG) (w : World) (h : cfgOk c = false) :
    Calls Try.prog 41 #[cfgV c] w fun e w' => e = .returned (.tuple #[.pointer none, .int .i64 1]) ∧ Chg (fun _ => False) w w' := by
  unfold cfgV
  have hz := ckZ_bad h
  clear h
  go_enter Try.func41, Try.ntmps41
  go_wp2_with (go_at_call 63; refine (check_any _ _ _ _ _ _).mono ?_; rintro e w1 ⟨rfl, hq⟩; rw [hz]; have HQ := hide (((Chg.refl _ _).alloc _).trans hq (fun _ _ h => h)); clear hq)
  go_ret2
  exact ⟨rfl, HQ.out⟩

set_option maxRecDepth 100000 in
set_option maxHeartbeats 2000000 in
theorem yOpen_ok (c : CfgG) (w : World) (h : cfgOk c = true) :
    Calls Try.prog 41 #[cfgV c] w fun e w' => ∃ p F, e = .returned (.tuple #[.pointer (some ⟨p, 0, none⟩), .int .i64 0]) ∧ YAt w' p F (openM c) ∧ Chg (fun _ => False) w w' ∧ ∀ k, F k → w.heap.size ≤ k := by
  unfold cfgV
  have hz := ckZ_ok h
  have HC := hide h
  clear h
  go_enter Try.func41, Try.ntmps41
  go_wp2_with fail
  obtain ⟨w1, hw1⟩ : ∃ w1, w1 = w.alloc (.cells #[.int .i64 c.ticks, .int .i64 c.cap, .int .i64 c.res, .int .i64 c.ten, .int .i64 c.quo] 42) := ⟨_, rfl⟩
  rw [← hw1]
  have hb1 : w1.heap[w.heap.size]? = some (.cells #[.int .i64 c.ticks, .int .i64 c.cap, .int .i64 c.res, .int .i64 c.ten, .int .i64 c.quo] 42 (0, 0)) := by rw [hw1]; exact heap_alloc_new w _
  have hc1 : Chg (fun _ => False) w w1 := by rw [hw1]; exact (Chg.refl _ _).alloc _
  have hs1 : w.heap.size < w1.heap.size := (Array.getElem?_eq_some_iff.1 hb1).1
  clear hw1
  refine (check_any _ _ _ _ _ _).mono ?_
  rintro e w2 ⟨rfl, hq⟩
  rw [hz]
  have hb2 : w2.heap[w.heap.size]? = some (.cells #[.int .i64 c.ticks, .int .i64 c.cap, .int .i64 c.res, .int .i64 c.ten, .int .i64 c.quo] 42 (0, 0)) := (hq.block _ hs1 (fun h => h)).trans hb1
  have q0 : w2.cell? ⟨w.heap.size, 0, none⟩ = some (.int .i64 c.ticks) := by unfold World.cell?; rw [hb2]; rfl
  have q1 : w2.cell? ⟨w.heap.size, 1, none⟩ = some (.int .i64 c.cap) := by unfold World.cell?; rw [hb2]; rfl
  have q2 : w2.cell? ⟨w.heap.size, 2, none⟩ = some (.int .i64 c.res) := by unfold World.cell?; rw [hb2]; rfl
  have q3 : w2.cell? ⟨w.heap.size, 3, none⟩ = some (.int .i64 c.ten) := by unfold World.cell?; rw [hb2]; rfl
  have q4 : w2.cell? ⟨w.heap.size, 4, none⟩ = some (.int .i64 c.quo) := by unfold World.cell?; rw [hb2]; rfl
  have HC2 := hide (hc1.trans hq (fun _ _ h => h))
  clear hb1 hb2 hc1 hs1 hq hz
  go_wp2_with fail
  refine (newMarket_any c _ HC.out).mono ?_
  rintro e w3 ⟨V, rfl, hm, hq3, hft⟩
  have HM := hide hm
  have HC3 := hide (HC2.out.trans hq3 (fun _ _ h => h))
  have HFT := hide (fun k hk => Nat.le_trans HC2.out.size (hft k hk))
  clear hm hq3 hft q0 q1 q2 q3 q4
  go_wp2
  go_ret2
  refine ⟨w3.heap.size, fun k => k = w3.heap.size ∨ V.foot k, rfl, ⟨V, fun _ => Iff.rfl, heap_alloc_new w3 _, HM.out.chg0 ((Chg.refl _ _).alloc _), ArrOk.open c⟩, HC3.out.alloc _, fun k hk => ?_⟩
  rcases hk with rfl | hk
  · exact HC3.out.size
  · exact HFT.out k hk

theorem yardSpec : YardSpec YAt where
  lt := by
    rintro w p F m ⟨V, hF, hv⟩ k hk
    rcases (hF k).1 hk with rfl | hk
    · exact hv.lt
    · exact hv.mkt.foot_lt k hk
  frame := by
    rintro w w' p F m ⟨V, hF, hv⟩ hf
    exact ⟨V, hF, (hf p ((hF p).2 (.inl rfl))).trans hv.box, hv.mkt.frame (fun k hk => hf k ((hF k).2 (.inr hk))), hv.arr⟩
  open_bad := fun c w h => yOpen_bad c w h
  open_ok := fun c w h => yOpen_ok c w h
  submit := fun w p F m ten ref j hy hok _ _ _ => ySubmit w p F m ten ref j hy hok
  cancel := fun w p F m ten ref hy hok _ _ => yCancel w p F m ten ref hy hok
  suspend := fun w p F m ten on hy hok _ => ySuspend w p F m ten on hy hok
  capacity := fun w p F m f t u hy hok _ _ _ => yCapacity w p F m f t u hy hok
  now := fun w p F m hy _ => yNow w p F m hy
  left := fun w p F m hy hok => yLeft w p F m hy hok
  look := fun w p F m ten ref hy hok _ _ => yLook w p F m ten ref hy hok
  free := fun w p F m t hy hok _ => yFree w p F m t hy hok
end Go.Proofs.Ytccfademkgjeiaa
