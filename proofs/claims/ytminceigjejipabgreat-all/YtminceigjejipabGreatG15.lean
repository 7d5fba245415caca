import Derived.Test.YtminceigjejipabGreatG14
import Derived.Deep.RegionLaw
import Derived.Test.YtminceigjejipabGreatG7
import Derived.Test.YtminceigjejipabGreatG6
import Derived.Test.YtminceigjejipabGreatYt2
/-
  THE PROGRAM's LOG: an entry more, or none.
-/
namespace Go.Proofs.YtminceigjejipabGreat
open Go.RowKit

theorem infoYCall : (Tryz.prog.info? 111).map (fun i => (i.zero, i.size, i.bytes)) = some (some (.agg #[.int .i64 0, .int .i64 0, .int .i64 0, .int .i64 0, .int .i64 0, .int .i64 0, .int .i64 0, .int .i64 0, .int .i64 0, .int .i64 0, .int .i64 0, .bool false]), 12, 96) := by kernel_rfl

set_option maxRecDepth 100000 in
set_option maxHeartbeats 1000000 in
theorem log_full (p : Nat) (V : YV) (L : LV) (m : MkG) (x : YCG) (w : World) (hy : YAtV w p V L m) (hl : m.log.length = 300) :
    Calls Tryz.prog 71 #[.pointer (some ⟨p, 0, none⟩), .agg #[.int .i64 x.kind, .int .i64 x.ten, .int .i64 x.ref, .int .i64 x.job.arr, .int .i64 x.job.dl, .int .i64 x.job.len, .int .i64 x.job.units, .int .i64 x.job.val, .int .i64 x.fr, .int .i64 x.to, .int .i64 x.un, .bool x.on]] w fun e w' => e = .returned (.bool false) ∧ Chg (fun _ => False) w w' := by
  obtain ⟨ao, cap, hv, _⟩ := hy.yb.calls_form
  have hc : w.cell? ⟨p, 1, none⟩ = some (.slice ao 300 cap) := by rw [← hl, ← hv]; exact hy.yb.cell 1
  have hpl := hy.lt
  have d1 : ∀ o, (w.alloc o).cell? ⟨p, 1, none⟩ = some (.slice ao 300 cap) := fun o => by rw [World.cell?_alloc_lt _ _ _ (by exact hpl)]; exact hc
  clear hy hl hv hc
  go_enter Tryz.func71, Tryz.ntmps71
  go_wp2
  go_ret
  exact ⟨rfl, (Chg.refl _ _).alloc _⟩

theorem calls_arm {w w1 w2 : World} {p q : Nat} {L : LV} {lg : List CallG} {es : List Int} {ch : List InvG} {pd : List Int} {c : CallG} {ao : Option Addr} {cap n g cap' H : Nat} (h : YbAt w p q L lg es ch pd) (hv : L.cv = .slice ao lg.length cap) (hn : n = lg.length) (hc1 : Chg (fun _ => False) w w1)
    (hown : w2.ownsRow 0 111 12 (.slice (some ⟨g, 0, none⟩) (n + 1) cap') (n + 1) (lg.flatMap ycallCells ++ ycallCells c)) (hgrow : w1.grownBy w2 (Value.ownBlock (.slice ao n cap))) (hat : Value.ownBlock (.slice ao n cap) = some g ∨ g = H) (hH : w.heap.size ≤ H) :
    w2.cell? ⟨p, 1, none⟩ = some (.slice ao n cap) ∧ w2.frozen? ⟨p, 1, none⟩ = false ∧ Hid (YbTo w p q L (lg ++ [c]) es ch pd (w2.setCell ⟨p, 1, none⟩ (.slice (some ⟨g, 0, none⟩) (n + 1) cap'))) := by
  subst hn
  rw [← hv] at hgrow hat ⊢
  exact h.callMore hc1 hown hgrow (by rcases hat with h | h; exact .inl h; exact .inr (by omega))

set_option maxRecDepth 100000 in
set_option maxHeartbeats 4000000 in
theorem log_ok (p : Nat) (V : YV) (L : LV) (m : MkG) (x : YCG) (c : CallG) (hx : ycallOf c = x) (w : World) (hy : YAtV w p V L m) (hl : m.log.length < 300) :
    Calls Tryz.prog 71 #[.pointer (some ⟨p, 0, none⟩), .agg #[.int .i64 x.kind, .int .i64 x.ten, .int .i64 x.ref, .int .i64 x.job.arr, .int .i64 x.job.dl, .int .i64 x.job.len, .int .i64 x.job.units, .int .i64 x.job.val, .int .i64 x.fr, .int .i64 x.to, .int .i64 x.un, .bool x.on]] w fun e w' => e = .returned (.bool true) ∧ YvTo w p V L (m.logs c) w' := by
  obtain ⟨i0, hi, hz0, hz1, hz2⟩ := info_parts infoYCall
  have HFIN := hide (fun (w' : World) (h : YbTo w p V.q L (m.log ++ [c]) (m.bids.map (·.entry)) m.charges m.paid w') => show YvTo w p V L (m.logs c) w' from hy.own h (fun h => h.logs c) rfl rfl rfl rfl)
  obtain ⟨ao, cap, hv, _⟩ := hy.yb.calls_form
  have HM := hide hy.yb
  have hc : w.cell? ⟨p, 1, none⟩ = some (.slice ao m.log.length cap) := by rw [← hv]; exact hy.yb.cell 1
  have hpl := hy.lt
  obtain ⟨n, hln⟩ : ∃ n, n = m.log.length := ⟨_, rfl⟩
  have HLOG : Hid (w.ownsRow 0 111 12 (.slice ao n cap) n (m.log.flatMap ycallCells)) := by rw [hln, ← hv]; exact hy.yb.calls
  rw [← hln] at hc hl
  have HLN := hide hln
  have HV := hide hv
  have HX := hide (show ycallCells c = ycgCells x by rw [← hx]; rfl)
  have d9 : ∀ o, (w.alloc o).cell? ⟨p, 1, none⟩ = some (.slice ao n cap) := fun o => by rw [World.cell?_alloc_lt _ _ _ (by exact hpl)]; exact hc
  have d9' : ∀ o o', ((w.alloc o).alloc o').cell? ⟨p, 1, none⟩ = some (.slice ao n cap) := fun o o' => by rw [World.cell?_alloc_lt _ _ _ (by simp; omega)]; exact d9 o
  clear hy hv hln hc hx
  go_enter Tryz.func71, Tryz.ntmps71
  go_wp2
  obtain ⟨w1, hw1⟩ : ∃ w1, w1 = w.alloc (.cells #[.int .i64 x.kind, .int .i64 x.ten, .int .i64 x.ref, .int .i64 x.job.arr, .int .i64 x.job.dl, .int .i64 x.job.len, .int .i64 x.job.units, .int .i64 x.job.val, .int .i64 x.fr, .int .i64 x.to, .int .i64 x.un, .bool x.on] 111) := ⟨_, rfl⟩
  rw [← hw1]
  have b0 : w1.cell? ⟨w.heap.size, 0, none⟩ = some (.int .i64 x.kind) := by rw [hw1]; simp
  have b1 : w1.cell? ⟨w.heap.size, 1, none⟩ = some (.int .i64 x.ten) := by rw [hw1]; simp
  have b2 : w1.cell? ⟨w.heap.size, 2, none⟩ = some (.int .i64 x.ref) := by rw [hw1]; simp
  have b3 : w1.cell? ⟨w.heap.size, 3, none⟩ = some (.int .i64 x.job.arr) := by rw [hw1]; simp
  have b4 : w1.cell? ⟨w.heap.size, 4, none⟩ = some (.int .i64 x.job.dl) := by rw [hw1]; simp
  have b5 : w1.cell? ⟨w.heap.size, 5, none⟩ = some (.int .i64 x.job.len) := by rw [hw1]; simp
  have b6 : w1.cell? ⟨w.heap.size, 6, none⟩ = some (.int .i64 x.job.units) := by rw [hw1]; simp
  have b7 : w1.cell? ⟨w.heap.size, 7, none⟩ = some (.int .i64 x.job.val) := by rw [hw1]; simp
  have b8 : w1.cell? ⟨w.heap.size, 8, none⟩ = some (.int .i64 x.fr) := by rw [hw1]; simp
  have b9 : w1.cell? ⟨w.heap.size, 9, none⟩ = some (.int .i64 x.to) := by rw [hw1]; simp
  have b10 : w1.cell? ⟨w.heap.size, 10, none⟩ = some (.int .i64 x.un) := by rw [hw1]; simp
  have b11 : w1.cell? ⟨w.heap.size, 11, none⟩ = some (.bool x.on) := by rw [hw1]; simp
  have p1 : w1.cell? ⟨p, 1, none⟩ = some (.slice ao n cap) := by rw [hw1]; exact d9 _
  have p2 : ∀ o, (w1.alloc o).cell? ⟨p, 1, none⟩ = some (.slice ao n cap) := fun o => by rw [hw1]; exact d9' _ _
  have HC1 : Hid (Chg (fun _ => False) w w1) := by rw [hw1]; exact (Chg.refl _ _).alloc _
  have HO1 : Hid (w1.ownsRow 0 111 12 (.slice ao n cap) n (m.log.flatMap ycallCells)) := by rw [hw1]; exact HLOG.out.alloc _
  clear d9 d9' hw1 HLOG
  go_region_law (refine step_append_lies _ rfl (.tmp 15) (.tmp 17) 106 rfl 0 111 i0 (.agg #[.int .i64 0, .int .i64 0, .int .i64 0, .int .i64 0, .int .i64 0, .int .i64 0, .int .i64 0, .int .i64 0, .int .i64 0, .int .i64 0, .int .i64 0, .bool false]) 12 96 Tryz.underlying106 hi hz0 hz1 hz2 rfl (by decide) (.slice ao n cap) n (m.log.flatMap ycallCells) (by simp [Act.eval]) (by exact HO1.out.alloc _) ⟨w1.heap.size, 0, none⟩ 1 1 (ycgCells x) (by simp [Act.eval]) rfl (by exact World.news_of_block (heap_alloc_new w1 _)) (by simp [ycgCells, Value.oneCell']) (by decide) (by unfold maxLen; omega) (by omega) (Nat.zero_le _) _ rfl ?_; intro g cap' w2 hown hgrow hat hlt; rw [← HX.out] at hown; obtain ⟨s1, s2, s3⟩ := calls_arm HM.out HV.out HLN.out (by first | exact (HC1.out.alloc _).drew | exact HC1.out.drew.alloc _ | exact HC1.out.alloc _) hown hgrow hat (by have := HC1.out.size; simp; omega); clear hown hgrow hat hlt)
  all_goals
    go_wp2
    go_ret
    first | exact ⟨rfl, HFIN.out _ s3.out⟩ | exact ⟨rfl, HFIN.out _ (s3.out.chg0 ((Chg.refl _ _).drew))⟩
end Go.Proofs.YtminceigjejipabGreat

/-
  OPEN, in the program.
-/
namespace Go.Proofs.YtminceigjejipabGreat
open Go.RowKit

theorem ckZ_ok {c : CfgG} (h : cfgOk c = true) : ckZ c.ticks c.cap c.res c.ten c.quo = 0 := by simp only [cfgOk] at h; simp [ckZ, h]
theorem ckZ_bad {c : CfgG} (h : cfgOk c = false) : ckZ c.ticks c.cap c.res c.ten c.quo = 1 := by simp only [cfgOk] at h; simp [ckZ, h]

set_option maxRecDepth 100000 in
set_option maxHeartbeats 2000000 in
theorem yOpen_bad (c : CfgG) (w : World) (h : cfgOk c = false) :
    Calls Tryz.prog 28 #[cfgV c] w fun e w' => e = .returned (.tuple #[.pointer none, .int .i64 1]) ∧ Chg (fun _ => False) w w' := by
  unfold cfgV
  have hz := ckZ_bad h
  clear h
  go_enter Tryz.func28, Tryz.ntmps28
  go_wp2_with (go_at_call 12; refine (check_any _ _ _ _ _ _).mono ?_; rintro e w1 ⟨rfl, hq⟩; rw [hz]; have HQ := hide (((Chg.refl _ _).alloc _).trans hq (fun _ _ h => h)); clear hq)
  go_ret2
  exact ⟨rfl, HQ.out⟩

/-- a fresh yard, as it lies -/
theorem yat_open {w w3 : World} {V : YV} {c : CfgG} {g nt : Nat} (hm : YmAt w3 V (openM c)) (hn : (nt : Int) = c.ten) (h8 : nt ≤ 8) (hp : w3.heap[g]? = some (.cells (madeCells #[.int .i64 0] nt) 3 (0, 0))) (hg : ¬ V.foot g) (hc : Chg (fun _ => False) w w3) (hft : ∀ k, V.foot k → w.heap.size ≤ k) (hgw : w.heap.size ≤ g) :
    ∃ F, YAt (w3.alloc (.cells #[.pointer (some ⟨V.q, 0, none⟩), .slice none 0 0, .slice none 0 0, .slice none 0 0, .slice (some ⟨g, 0, none⟩) nt nt] 108)) w3.heap.size F (openM c) ∧ ∀ k, F k → w.heap.size ≤ k := by
  have hgl : g < w3.heap.size := (Array.getElem?_eq_some_iff.1 hp).1
  have hc4 : Chg (fun _ => False) w3 (w3.alloc (.cells #[.pointer (some ⟨V.q, 0, none⟩), .slice none 0 0, .slice none 0 0, .slice none 0 0, .slice (some ⟨g, 0, none⟩) nt nt] 108)) := (Chg.refl _ _).alloc _
  have hp4 := (hc4.block g hgl (fun h => h)).trans hp
  have hpn : c.ten.toNat = nt := by omega
  refine ⟨yfoot w3.heap.size V ⟨.slice none 0 0, .slice none 0 0, .slice none 0 0, .slice (some ⟨g, 0, none⟩) nt nt⟩, ⟨V, _, fun _ => Iff.rfl, ⟨⟨heap_alloc_new w3 _, World.ownsRow_nil _ _ _ _, World.ownsRow_nil _ _ _ _, World.ownsRow_nil _ _ _ _, ?_, ?_⟩, hm.chg0 hc4, ?_⟩, ArrOk.open c, ChdOk.open c⟩, ?_⟩
  · show World.ownsRow _ 0 _ 1 _ (List.replicate c.ten.toNat (0 : Int)).length ((List.replicate c.ten.toNat (0 : Int)).map (Value.int .i64))
    rw [hpn, List.length_replicate, List.map_replicate]
    exact ⟨by simp, .inr ⟨g, nt, _, rfl, Nat.zero_le _, hp4, Nat.le_refl _, by unfold maxLen; omega, by rw [size_madeCells]; omega, by rw [made_list]; simp⟩⟩
  · intro k hk
    simp [Value.ownBlock] at hk
  · intro k hk hv
    rcases hk with rfl | hk | hk | hk | hk
    · have := hm.foot_lt _ hv
      omega
    · simp [Value.ownBlock] at hk
    · simp [Value.ownBlock] at hk
    · simp [Value.ownBlock] at hk
    · simp [Value.ownBlock] at hk
      subst hk
      exact hg hv
  · intro k hk
    rcases hk with hk | hk
    · rcases hk with rfl | hk | hk | hk | hk
      · exact hc.size
      · simp [Value.ownBlock] at hk
      · simp [Value.ownBlock] at hk
      · simp [Value.ownBlock] at hk
      · simp [Value.ownBlock] at hk
        omega
    · exact hft k hk

set_option maxRecDepth 100000 in
set_option maxHeartbeats 4000000 in
theorem yOpen_ok (c : CfgG) (w : World) (h : cfgOk c = true) :
    Calls Tryz.prog 28 #[cfgV c] w fun e w' => ∃ p F, e = .returned (.tuple #[.pointer (some ⟨p, 0, none⟩), .int .i64 0]) ∧ YAt w' p F (openM c) ∧ Chg (fun _ => False) w w' ∧ ∀ k, F k → w.heap.size ≤ k := by
  unfold cfgV
  have hz := ckZ_ok h
  have HC := hide h
  obtain ⟨_, _, _, ⟨a7, a8⟩, _⟩ := cfgOk_true h
  obtain ⟨nt, hnt⟩ := Int.eq_ofNat_of_zero_le (show 0 ≤ c.ten by omega)
  have h8 : nt ≤ 8 := by omega
  have HNT := hide hnt
  rw [hnt] at hz ⊢
  have hmk := run_make_row' (P := Tryz.prog) 24 3 (.int .i64 0) 8 Tryz.underlying24 infoInt' rfl .i64 .i64 nt (by omega) (by omega)
  clear h
  go_enter Tryz.func28, Tryz.ntmps28
  go_wp2_with fail
  obtain ⟨w1, hw1⟩ : ∃ w1, w1 = w.alloc (.cells #[.int .i64 c.ticks, .int .i64 c.cap, .int .i64 c.res, .int .i64 (nt : Int), .int .i64 c.quo] 49) := ⟨_, rfl⟩
  rw [← hw1]
  have hb1 : w1.heap[w.heap.size]? = some (.cells #[.int .i64 c.ticks, .int .i64 c.cap, .int .i64 c.res, .int .i64 (nt : Int), .int .i64 c.quo] 49 (0, 0)) := by rw [hw1]; exact heap_alloc_new w _
  have hc1 : Chg (fun _ => False) w w1 := by rw [hw1]; exact (Chg.refl _ _).alloc _
  have hs1 : w.heap.size < w1.heap.size := (Array.getElem?_eq_some_iff.1 hb1).1
  clear hw1
  refine (check_any _ _ _ _ _ _).mono ?_
  rintro e w2 ⟨rfl, hq⟩
  rw [hz]
  have hb2 : w2.heap[w.heap.size]? = some (.cells #[.int .i64 c.ticks, .int .i64 c.cap, .int .i64 c.res, .int .i64 (nt : Int), .int .i64 c.quo] 49 (0, 0)) := (hq.block _ hs1 (fun h => h)).trans hb1
  have hs2 : w.heap.size < w2.heap.size := Nat.lt_of_lt_of_le hs1 hq.size
  have q0 : w2.cell? ⟨w.heap.size, 0, none⟩ = some (.int .i64 c.ticks) := by unfold World.cell?; rw [hb2]; rfl
  have q1 : w2.cell? ⟨w.heap.size, 1, none⟩ = some (.int .i64 c.cap) := by unfold World.cell?; rw [hb2]; rfl
  have q2 : w2.cell? ⟨w.heap.size, 2, none⟩ = some (.int .i64 c.res) := by unfold World.cell?; rw [hb2]; rfl
  have q3 : w2.cell? ⟨w.heap.size, 3, none⟩ = some (.int .i64 (nt : Int)) := by unfold World.cell?; rw [hb2]; rfl
  have q4 : w2.cell? ⟨w.heap.size, 4, none⟩ = some (.int .i64 c.quo) := by unfold World.cell?; rw [hb2]; rfl
  have HC2 := hide (hc1.trans hq (fun _ _ h => h))
  have HNEW := hide (fun (w0 : World) => (by have := newMarket_any c w0 HC.out; rw [hnt] at this; exact this : Calls Tryz.prog 61 #[.agg #[.int .i64 c.ticks, .int .i64 c.cap, .int .i64 c.res, .int .i64 (nt : Int), .int .i64 c.quo]] w0 fun e w' => ∃ V, e = .returned (.pointer (some ⟨V.q, 0, none⟩)) ∧ YmAt w' V (openM c) ∧ Chg (fun _ => False) w0 w' ∧ ∀ k, V.foot k → w0.heap.size ≤ k))
  have n1 : w2.heap.size ≠ w.heap.size := by omega
  have n2 : w.heap.size ≠ w2.heap.size := by omega
  have hk1 : ∀ x f, (w2.alloc x).cell? ⟨w.heap.size, f, none⟩ = w2.cell? ⟨w.heap.size, f, none⟩ := fun x f => World.cell?_alloc_lt _ _ _ (by show w.heap.size < _; omega)
  clear hb1 hb2 hc1 hs1 hq hz
  go_wp2
  go_region_held3 (fun w' => w'.cell? ⟨w.heap.size, 0, none⟩ = some (.int .i64 c.ticks) ∧ w'.cell? ⟨w.heap.size, 1, none⟩ = some (.int .i64 c.cap) ∧ w'.cell? ⟨w.heap.size, 2, none⟩ = some (.int .i64 c.res) ∧ w'.cell? ⟨w.heap.size, 3, none⟩ = some (.int .i64 (nt : Int)) ∧ w'.cell? ⟨w.heap.size, 4, none⟩ = some (.int .i64 c.quo)) (go_keep)
    (first
      | (go_at_call 61; refine (HNEW.out (w2.alloc (.cells (madeCells #[.int .i64 0] nt) 3)).drew).mono ?_; rintro e w3 ⟨V, rfl, hm3, hq3, hf3⟩; have hk3 := hq3.keep; have x0 := hk3 ⟨w.heap.size, 0, none⟩ _ ((hk1 _ _).trans q0); have x1 := hk3 ⟨w.heap.size, 1, none⟩ _ ((hk1 _ _).trans q1); have x2 := hk3 ⟨w.heap.size, 2, none⟩ _ ((hk1 _ _).trans q2); have x3 := hk3 ⟨w.heap.size, 3, none⟩ _ ((hk1 _ _).trans q3); have x4 := hk3 ⟨w.heap.size, 4, none⟩ _ ((hk1 _ _).trans q4); have hs3 := hq3.size; have HM3 := hide hm3; have HQ3 := hide hq3; have HF3 := hide hf3; clear hm3 hq3 hf3 hk3)
      | (go_at_call 61; refine (HNEW.out w2.drew).mono ?_; rintro e w3 ⟨V, rfl, hm3, hq3, hf3⟩; have hk3 := hq3.keep; have x0 := hk3 ⟨w.heap.size, 0, none⟩ _ q0; have x1 := hk3 ⟨w.heap.size, 1, none⟩ _ q1; have x2 := hk3 ⟨w.heap.size, 2, none⟩ _ q2; have x3 := hk3 ⟨w.heap.size, 3, none⟩ _ q3; have x4 := hk3 ⟨w.heap.size, 4, none⟩ _ q4; have hs3 := hq3.size; have n3 : w3.heap.size ≠ w.heap.size := (by have := hq3.size; simp at this; omega); have HM3 := hide hm3; have HQ3 := hide hq3; have HF3 := hide hf3; clear hm3 hq3 hf3 hk3))
  · go_wp2
    go_ret2
    have hq : Chg (fun _ => False) w w3 := (HC2.out.drew).trans HQ3.out (fun _ _ h => h)
    obtain ⟨F, h1, h2⟩ := yat_open (w := w) (g := w3.heap.size) (nt := nt) (HM3.out.chg0 ((Chg.refl _ _).alloc (.cells (madeCells #[.int .i64 0] nt) 3))) HNT.out.symm h8 (heap_alloc_new w3 _) (fun h => by have := HM3.out.foot_lt _ h; omega) (hq.alloc _) (fun k hk => by have h1 := HF3.out k hk; have h2 := HC2.out.size; exact Nat.le_trans h2 h1) hq.size
    have hsz : (w3.alloc (.cells (madeCells #[.int .i64 0] nt) 3)).heap.size = w3.heap.size + 1 := by simp
    rw [hsz] at h1
    exact ⟨_, F, rfl, h1, (hq.alloc _).alloc _, h2⟩
  · go_wp2
    go_ret2
    have hq : Chg (fun _ => False) w w3 := ((HC2.out.alloc _).drew).trans HQ3.out (fun _ _ h => h)
    have hs4 : w2.heap.size < (w2.alloc (.cells (madeCells #[.int .i64 0] nt) 3)).drew.heap.size := by simp
    obtain ⟨F, h1, h2⟩ := yat_open (w := w) (g := w2.heap.size) (nt := nt) HM3.out HNT.out.symm h8 ((HQ3.out.block _ hs4 (fun h => h)).trans (heap_alloc_new w2 _)) (fun h => by have := HF3.out _ h; omega) hq (fun k hk => by have := HF3.out k hk; have := HC2.out.size; omega) HC2.out.size
    exact ⟨_, F, rfl, h1, hq.alloc _, h2⟩
end Go.Proofs.YtminceigjejipabGreat
