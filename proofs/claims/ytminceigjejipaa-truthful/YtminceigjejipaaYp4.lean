import Derived.Test.YtminceigjejipaaG12
import Derived.Deep.RegionLaw
/-
  THE PROGRAM's LOG: an entry more, or none.
-/
namespace Go.Proofs.Ytminceigjejipaa
open Go.RowKit

theorem infoYCall : (Try.prog.info? 132).map (fun i => (i.zero, i.size, i.bytes)) = some (some (.agg #[.int .i64 0, .int .i64 0, .int .i64 0, .int .i64 0, .int .i64 0, .int .i64 0, .int .i64 0, .int .i64 0, .int .i64 0, .int .i64 0, .int .i64 0, .bool false]), 12, 96) := by kernel_rfl

set_option maxRecDepth 100000 in
set_option maxHeartbeats 1000000 in
theorem log_full (p : Nat) (V : YV) (L : LV) (m : MkG) (x : YCG) (w : World) (hy : YAtV w p V L m) (hl : m.log.length = 300) :
    Calls Try.prog 68 #[.pointer (some ⟨p, 0, none⟩), .agg #[.int .i64 x.kind, .int .i64 x.ten, .int .i64 x.ref, .int .i64 x.job.arr, .int .i64 x.job.dl, .int .i64 x.job.len, .int .i64 x.job.units, .int .i64 x.job.val, .int .i64 x.fr, .int .i64 x.to, .int .i64 x.un, .bool x.on]] w fun e w' => e = .returned (.bool false) ∧ Chg (fun _ => False) w w' := by
  obtain ⟨ao, cap, hv, _⟩ := hy.yb.calls_form
  have hc : w.cell? ⟨p, 1, none⟩ = some (.slice ao 300 cap) := by rw [← hl, ← hv]; exact hy.yb.cell 1
  have hpl := hy.lt
  have d1 : ∀ o, (w.alloc o).cell? ⟨p, 1, none⟩ = some (.slice ao 300 cap) := fun o => by rw [World.cell?_alloc_lt _ _ _ (by exact hpl)]; exact hc
  clear hy hl hv hc
  go_enter Try.func68, Try.ntmps68
  go_wp2
  go_ret
  exact ⟨rfl, (Chg.refl _ _).alloc _⟩

theorem calls_arm {w w1 w2 : World} {p q : Nat} {L : LV} {lg : List CallG} {es : List Int} {ch : List InvG} {pd : List Int} {c : CallG} {ao : Option Addr} {cap n g cap' H : Nat} (h : YbAt w p q L lg es ch pd) (hv : L.cv = .slice ao lg.length cap) (hn : n = lg.length) (hc1 : Chg (fun _ => False) w w1)
    (hown : w2.ownsRow 0 132 12 (.slice (some ⟨g, 0, none⟩) (n + 1) cap') (n + 1) (lg.flatMap ycallCells ++ ycallCells c)) (hgrow : w1.grownBy w2 (Value.ownBlock (.slice ao n cap))) (hat : Value.ownBlock (.slice ao n cap) = some g ∨ g = H) (hH : w.heap.size ≤ H) :
    w2.cell? ⟨p, 1, none⟩ = some (.slice ao n cap) ∧ w2.frozen? ⟨p, 1, none⟩ = false ∧ Hid (YbTo w p q L (lg ++ [c]) es ch pd (w2.setCell ⟨p, 1, none⟩ (.slice (some ⟨g, 0, none⟩) (n + 1) cap'))) := by
  subst hn
  rw [← hv] at hgrow hat ⊢
  exact h.callMore hc1 hown hgrow (by rcases hat with h | h; exact .inl h; exact .inr (by omega))

set_option maxRecDepth 100000 in
set_option maxHeartbeats 4000000 in
theorem log_ok (p : Nat) (V : YV) (L : LV) (m : MkG) (x : YCG) (c : CallG) (hx : ycallOf c = x) (w : World) (hy : YAtV w p V L m) (hl : m.log.length < 300) :
    Calls Try.prog 68 #[.pointer (some ⟨p, 0, none⟩), .agg #[.int .i64 x.kind, .int .i64 x.ten, .int .i64 x.ref, .int .i64 x.job.arr, .int .i64 x.job.dl, .int .i64 x.job.len, .int .i64 x.job.units, .int .i64 x.job.val, .int .i64 x.fr, .int .i64 x.to, .int .i64 x.un, .bool x.on]] w fun e w' => e = .returned (.bool true) ∧ YvTo w p V L (m.logs c) w' := by
  obtain ⟨i0, hi, hz0, hz1, hz2⟩ := info_parts infoYCall
  have HFIN := hide (fun (w' : World) (h : YbTo w p V.q L (m.log ++ [c]) (m.bids.map (·.entry)) m.charges m.paid w') => show YvTo w p V L (m.logs c) w' from hy.own h (fun h => h.logs c) rfl rfl rfl rfl)
  obtain ⟨ao, cap, hv, _⟩ := hy.yb.calls_form
  have HM := hide hy.yb
  have hc : w.cell? ⟨p, 1, none⟩ = some (.slice ao m.log.length cap) := by rw [← hv]; exact hy.yb.cell 1
  have hpl := hy.lt
  obtain ⟨n, hln⟩ : ∃ n, n = m.log.length := ⟨_, rfl⟩
  have HLOG : Hid (w.ownsRow 0 132 12 (.slice ao n cap) n (m.log.flatMap ycallCells)) := by rw [hln, ← hv]; exact hy.yb.calls
  rw [← hln] at hc hl
  have HLN := hide hln
  have HV := hide hv
  have HX := hide (show ycallCells c = ycgCells x by rw [← hx]; rfl)
  have d9 : ∀ o, (w.alloc o).cell? ⟨p, 1, none⟩ = some (.slice ao n cap) := fun o => by rw [World.cell?_alloc_lt _ _ _ (by exact hpl)]; exact hc
  have d9' : ∀ o o', ((w.alloc o).alloc o').cell? ⟨p, 1, none⟩ = some (.slice ao n cap) := fun o o' => by rw [World.cell?_alloc_lt _ _ _ (by simp; omega)]; exact d9 o
  clear hy hv hln hc hx
  go_enter Try.func68, Try.ntmps68
  go_wp2
  obtain ⟨w1, hw1⟩ : ∃ w1, w1 = w.alloc (.cells #[.int .i64 x.kind, .int .i64 x.ten, .int .i64 x.ref, .int .i64 x.job.arr, .int .i64 x.job.dl, .int .i64 x.job.len, .int .i64 x.job.units, .int .i64 x.job.val, .int .i64 x.fr, .int .i64 x.to, .int .i64 x.un, .bool x.on] 132) := ⟨_, rfl⟩
  rw [← hw1]
  have b0 : w1.cell? ⟨w.heap.size, 0, none⟩ = some (.int .i64 x.kind) := by rw [hw1]; simp
  have b1 : w1.cell? ⟨w.heap.size, 1, none⟩ = some (.int .i64 x.ten) := by rw [hw1]; simp
  have b2 : w1.cell? ⟨w.heap.size, 2, none⟩ = some (.int .i64 x.ref) := by rw [hw1]; simp
  have b3 : w1.cell? ⟨w.heap.size, 3, none⟩ = some (.int .i64 x.job.arr) := by rw [hw1]; simp
  have b4 : w1.cell? ⟨w.heap.size, 4, none⟩ = some (.int .i64 x.job.dl) := by rw [hw1]; simp
  have b5 : w1.cell? ⟨w.heap.size, 5, none⟩ = some (.int .i64 x.job.len) := by rw [hw1]; simp
  have b6 : w1.cell? ⟨w.heap.size, 6, none⟩ = some (.int .i64 x.job.units) := by rw [hw1]; simp
  have b7 : w1.cell? ⟨w.heap.size, 7, none⟩ = some (.int .i64 x.job.val) := by rw [hw1]; simp
  have b8 : w1.cell? ⟨w.heap.size, 8, none⟩ = some (.int .i64 x.fr) := by rw [hw1]; simp
  have b9 : w1.cell? ⟨w.heap.size, 9, none⟩ = some (.int .i64 x.to) := by rw [hw1]; simp
  have b10 : w1.cell? ⟨w.heap.size, 10, none⟩ = some (.int .i64 x.un) := by rw [hw1]; simp
  have b11 : w1.cell? ⟨w.heap.size, 11, none⟩ = some (.bool x.on) := by rw [hw1]; simp
  have p1 : w1.cell? ⟨p, 1, none⟩ = some (.slice ao n cap) := by rw [hw1]; exact d9 _
  have p2 : ∀ o, (w1.alloc o).cell? ⟨p, 1, none⟩ = some (.slice ao n cap) := fun o => by rw [hw1]; exact d9' _ _
  have HC1 : Hid (Chg (fun _ => False) w w1) := by rw [hw1]; exact (Chg.refl _ _).alloc _
  have HO1 : Hid (w1.ownsRow 0 132 12 (.slice ao n cap) n (m.log.flatMap ycallCells)) := by rw [hw1]; exact HLOG.out.alloc _
  clear d9 d9' hw1 HLOG
  go_region_law (refine step_append_lies _ rfl (.tmp 15) (.tmp 17) 109 rfl 0 132 i0 (.agg #[.int .i64 0, .int .i64 0, .int .i64 0, .int .i64 0, .int .i64 0, .int .i64 0, .int .i64 0, .int .i64 0, .int .i64 0, .int .i64 0, .int .i64 0, .bool false]) 12 96 Try.underlying109 hi hz0 hz1 hz2 rfl (by decide) (.slice ao n cap) n (m.log.flatMap ycallCells) (by simp [Act.eval]) (by exact HO1.out.alloc _) ⟨w1.heap.size, 0, none⟩ 1 1 (ycgCells x) (by simp [Act.eval]) rfl (by exact World.news_of_block (heap_alloc_new w1 _)) (by simp [ycgCells, Value.oneCell']) (by decide) (by unfold maxLen; omega) (by omega) (Nat.zero_le _) _ rfl ?_; intro g cap' w2 hown hgrow hat hlt; rw [← HX.out] at hown; obtain ⟨s1, s2, s3⟩ := calls_arm HM.out HV.out HLN.out (by first | exact (HC1.out.alloc _).drew | exact HC1.out.drew.alloc _ | exact HC1.out.alloc _) hown hgrow hat (by have := HC1.out.size; simp; omega); clear hown hgrow hat hlt)
  all_goals
    go_wp2
    go_ret
    first | exact ⟨rfl, HFIN.out _ s3.out⟩ | exact ⟨rfl, HFIN.out _ (s3.out.chg0 ((Chg.refl _ _).drew))⟩
end Go.Proofs.Ytminceigjejipaa
