import Derived.Test.YtminceigjejipabGreatMkC
import Derived.Deep.RegionLaw
namespace Go.Proofs.YtminceigjejipabGreat
open Go.RowKit

theorem infoCall : (Tryz.prog.info? 114).map (fun i => (i.zero, i.size, i.bytes)) = some (some (.agg #[.int .i64 0, .int .i64 0, .int .i64 0, .int .i64 0, .int .i64 0, .int .i64 0, .int .i64 0, .int .i64 0, .int .i64 0, .bool false]), 10, 80) := by kernel_rfl
theorem infoBid : (Tryz.prog.info? 118).map (fun i => (i.zero, i.size, i.bytes)) = some (some (.agg #[.int .i64 0, .int .i64 0, .int .i64 0, .int .i64 0, .int .i64 0, .int .i64 0, .int .i64 0, .int .i64 0, .int .i64 0, .int .i64 0, .int .i64 0, .bool false]), 12, 96) := by kernel_rfl

/-- a market that has become another: where it lies now, what has turned -/
def MktTo (w : World) (p : Nat) (V : MV) (m' : MkG) (w' : World) : Prop :=
  ∃ V', MktAt w' p V' m' ∧ Chg (V.foot p) w w' ∧ ∀ k, V'.foot p k → V.foot p k ∨ w.heap.size ≤ k

theorem MktTo.refl {w : World} {p : Nat} {V : MV} {m : MkG} (h : MktAt w p V m) : MktTo w p V m w := ⟨V, h, Chg.refl _ _, fun _ hk => .inl hk⟩
theorem MktTo.chg0 {w w' w2 : World} {p : Nat} {V : MV} {m : MkG} (h : MktTo w p V m w') (hc : Chg (fun _ => False) w' w2) : MktTo w p V m w2 := by
  obtain ⟨V', h1, h2, h3⟩ := h
  exact ⟨V', h1.chg0 hc, h2.trans hc (fun _ _ h => h.elim), h3⟩
theorem MktTo.start {w w0 w' : World} {p : Nat} {V : MV} {m : MkG} (hc : Chg (fun _ => False) w0 w) (h : MktTo w p V m w') : MktTo w0 p V m w' := by
  obtain ⟨V', h1, h2, h3⟩ := h
  exact ⟨V', h1, (hc.mono (O' := V.foot p) (fun _ _ h => h.elim)).trans h2 (fun _ _ h => h), fun k hk => by
    rcases h3 k hk with h | h
    · exact .inl h
    · exact .inr (Nat.le_trans hc.size h)⟩
theorem MktTo.trans {w w' w2 : World} {p : Nat} {V : MV} {m m2 : MkG} (h : MktTo w p V m w') (h2 : ∀ V', MktAt w' p V' m → MktTo w' p V' m2 w2) : MktTo w p V m2 w2 := by
  obtain ⟨V', a1, a2, a3⟩ := h
  obtain ⟨V2, b1, b2, b3⟩ := h2 V' a1
  refine ⟨V2, b1, a2.trans b2 (fun x hx hf => ?_), fun k hk => ?_⟩
  · rcases a3 x hf with h | h
    · exact h
    · omega
  · rcases b3 k hk with h | h
    · exact a3 k h
    · exact .inr (Nat.le_trans a2.size h)

theorem box_set {w : World} {p f : Nat} {cs : Array Value} {T : TypeId} (h : w.heap[p]? = some (.cells cs T (0, 0))) (u : Value) : (w.setCell ⟨p, f, none⟩ u).heap[p]? = some (.cells (cs.setIfInBounds f u) T (0, 0)) := by
  simp only [World.setCell, Array.getElem?_modify]
  simp [h]

/-- one entry more in the log -/
theorem MktAt.logs {w w1 w2 : World} {p : Nat} {V : MV} {m : MkG} {c : CallG} {g cap : Nat} (h : MktAt w p V m) (hc1 : Chg (fun _ => False) w w1)
    (hown : w2.ownsRow 0 114 10 (.slice (some ⟨g, 0, none⟩) (m.log.length + 1) cap) (m.log.length + 1) (m.log.flatMap callCells ++ callCells c)) (hgrow : w1.grownBy w2 V.lv.ownBlock) (hat : V.lv.ownBlock = some g ∨ w.heap.size ≤ g) :
    w2.cell? ⟨p, 9, none⟩ = some V.lv ∧ w2.frozen? ⟨p, 9, none⟩ = false ∧ MktTo w p V (m.logs c) (w2.setCell ⟨p, 9, none⟩ (.slice (some ⟨g, 0, none⟩) (m.log.length + 1) cap)) := by
  have h1 := h.chg0 hc1
  have hlt1 := h1.lt
  have nl : V.lv.ownBlock ≠ some p := ownsRow_box h1.log h1.box (by decide)
  have keep : ∀ k, V.foot p k → V.lv.ownBlock ≠ some k → w2.heap[k]? = w1.heap[k]? := fun k hk hn => hgrow.block k (h1.foot_lt k hk) (fun e => hn e.symm)
  have hb2 : w2.heap[p]? = some (.cells (mktBox V m) 87 (0, 0)) := (keep p (.inl rfl) nl).trans h1.box
  refine ⟨by unfold World.cell?; rw [hb2]; rfl, by unfold World.frozen?; rw [hb2]; simp, ?_⟩
  have far : ∀ k, k ≠ p → (w2.setCell ⟨p, 9, none⟩ (.slice (some ⟨g, 0, none⟩) (m.log.length + 1) cap)).heap[k]? = w2.heap[k]? := fun k hk => Below.heap_setCell _ _ _ _ hk
  have ex : (mktBox V m).setIfInBounds 9 (.slice (some ⟨g, 0, none⟩) (m.log.length + 1) cap) = mktBox { V with lv := .slice (some ⟨g, 0, none⟩) (m.log.length + 1) cap } (m.logs c) := rfl
  have hgp : g ≠ p := by
    rintro rfl
    obtain ⟨cu, hc⟩ := ownsRow_block hown (k := g) rfl
    rw [hb2] at hc
    simp at hc
  have old : ∀ {e : TypeId} {size n : Nat} {v : Value} {xs : List Value}, w1.ownsRow 0 e size v n xs → e ≠ 114 → e ≠ 87 → (∀ k, v.ownBlock = some k → V.foot p k) → (w2.setCell ⟨p, 9, none⟩ (.slice (some ⟨g, 0, none⟩) (m.log.length + 1) cap)).ownsRow 0 e size v n xs := by
    intro e size n v xs ho he he' hf
    refine ownsRow_keep ho (fun k hk => ?_)
    rw [far k (fun e => ownsRow_box ho h1.box he' (e ▸ hk))]
    exact keep k (hf k hk) (ownsRow_apart ho h1.log he hk)
  refine ⟨{ V with lv := .slice (some ⟨g, 0, none⟩) (m.log.length + 1) cap }, ⟨by rw [box_set hb2, ex], old h1.units (by decide) (by decide) (fun k hk => .inr (.inl hk)), old h1.bids (by decide) (by decide) (fun k hk => .inr (.inr (.inl hk))), old h1.susp (by decide) (by decide) (fun k hk => .inr (.inr (.inr (.inl hk)))), ?_,
    old h1.paid (by decide) (by decide) (fun k hk => .inr (.inr (.inr (.inr (.inr (.inl hk)))))), old h1.charges (by decide) (by decide) (fun k hk => .inr (.inr (.inr (.inr (.inr (.inr hk)))))), h.ne⟩, ?_, ?_⟩
  · have e1 : (m.logs c).log = m.log ++ [c] := rfl
    rw [e1, List.length_append, List.flatMap_append]
    simp only [List.flatMap_cons, List.flatMap_nil, List.append_nil, List.length_cons, List.length_nil, Nat.zero_add]
    exact ownsRow_keep hown (fun k hk => far k (fun e => by simp [Value.ownBlock] at hk; exact hgp (hk.trans e)))
  · exact (((hc1.mono (O' := V.foot p) (fun _ _ h => h.elim)).grown hgrow (fun k hk => .inl (.inr (.inr (.inr (.inr (.inl hk)))))))).setCell (.inl (.inl rfl)) _
  · intro k hk
    rcases hk with rfl | hk | hk | hk | hk | hk | hk
    · exact .inl (.inl rfl)
    · exact .inl (.inr (.inl hk))
    · exact .inl (.inr (.inr (.inl hk)))
    · exact .inl (.inr (.inr (.inr (.inl hk))))
    · simp [Value.ownBlock] at hk
      subst hk
      rcases hat with h | h
      · exact .inl (.inr (.inr (.inr (.inr (.inl h)))))
      · exact .inr h
    · exact .inl (.inr (.inr (.inr (.inr (.inr (.inl hk))))))
    · exact .inl (.inr (.inr (.inr (.inr (.inr (.inr hk))))))

set_option maxHeartbeats 1000000 in
theorem logged_full (p : Nat) (V : MV) (m : MkG) (c : CallG) (w : World) (hm : MktAt w p V m) (hn : m.log.length = 300) :
    Calls Tryz.prog 63 #[.pointer (some ⟨p, 0, none⟩), .agg #[.int .i64 c.kind, .int .i64 c.a, .int .i64 c.b, .int .i64 c.c, .int .i64 c.job.arr, .int .i64 c.job.dl, .int .i64 c.job.len, .int .i64 c.job.units, .int .i64 c.job.val, .bool c.on]] w fun e w' => e = .returned (.int .i64 2) ∧ Chg (fun _ => False) w w' := by
  have hc : w.cell? ⟨p, 9, none⟩ = some V.lv := hm.cell 9
  obtain ⟨ao, cap, hv⟩ := hm.log_form
  rw [hv, hn] at hc
  have hpl := hm.lt
  have d9 : ∀ o, (w.alloc o).cell? ⟨p, 9, none⟩ = some (.slice ao 300 cap) := fun o => by rw [World.cell?_alloc_lt _ _ _ (by exact hpl)]; exact hc
  clear hm hv hn hc
  go_enter Tryz.func63, Tryz.ntmps63
  go_wp2
  go_ret
  exact ⟨rfl, (Chg.refl _ _).alloc _⟩

theorem logs_arm {w w1 w2 : World} {p : Nat} {V : MV} {m : MkG} {c : CallG} {ao : Option Addr} {cap n g cap' H : Nat} (h : MktAt w p V m) (hv : V.lv = .slice ao m.log.length cap) (hn : n = m.log.length) (hc1 : Chg (fun _ => False) w w1)
    (hown : w2.ownsRow 0 114 10 (.slice (some ⟨g, 0, none⟩) (n + 1) cap') (n + 1) (m.log.flatMap callCells ++ callCells c)) (hgrow : w1.grownBy w2 (Value.ownBlock (.slice ao n cap))) (hat : Value.ownBlock (.slice ao n cap) = some g ∨ g = H) (hH : w.heap.size ≤ H) :
    w2.cell? ⟨p, 9, none⟩ = some (.slice ao n cap) ∧ w2.frozen? ⟨p, 9, none⟩ = false ∧ Hid (MktTo w p V (m.logs c) (w2.setCell ⟨p, 9, none⟩ (.slice (some ⟨g, 0, none⟩) (n + 1) cap'))) := by
  subst hn
  rw [← hv] at hgrow hat ⊢
  exact h.logs hc1 hown hgrow (by rcases hat with h | h; exact .inl h; exact .inr (by omega))

set_option maxRecDepth 100000 in
set_option maxHeartbeats 4000000 in
theorem logged_ok (p : Nat) (V : MV) (m : MkG) (c : CallG) (w : World) (hm : MktAt w p V m) (hn : m.log.length < 300) :
    Calls Tryz.prog 63 #[.pointer (some ⟨p, 0, none⟩), .agg #[.int .i64 c.kind, .int .i64 c.a, .int .i64 c.b, .int .i64 c.c, .int .i64 c.job.arr, .int .i64 c.job.dl, .int .i64 c.job.len, .int .i64 c.job.units, .int .i64 c.job.val, .bool c.on]] w fun e w' => e = .returned (.int .i64 0) ∧ MktTo w p V (m.logs c) w' := by
  obtain ⟨i0, hi, hz0, hz1, hz2⟩ := info_parts infoCall
  have HM := hide hm
  obtain ⟨ao, cap, hv⟩ := hm.log_form
  have hc : w.cell? ⟨p, 9, none⟩ = some (.slice ao m.log.length cap) := by rw [← hv]; exact hm.cell 9
  have hpl := hm.lt
  obtain ⟨n, hln⟩ : ∃ n, n = m.log.length := ⟨_, rfl⟩
  have HLOG : Hid (w.ownsRow 0 114 10 (.slice ao n cap) n (m.log.flatMap callCells)) := by rw [hln, ← hv]; exact hm.log
  rw [← hln] at hc hn
  have HLN := hide hln
  have HV := hide hv
  have d9 : ∀ o, (w.alloc o).cell? ⟨p, 9, none⟩ = some (.slice ao n cap) := fun o => by rw [World.cell?_alloc_lt _ _ _ (by exact hpl)]; exact hc
  have d9' : ∀ o o', ((w.alloc o).alloc o').cell? ⟨p, 9, none⟩ = some (.slice ao n cap) := fun o o' => by rw [World.cell?_alloc_lt _ _ _ (by simp; omega)]; exact d9 o
  clear hm hv hln hc
  go_enter Tryz.func63, Tryz.ntmps63
  go_wp2
  obtain ⟨w1, hw1⟩ : ∃ w1, w1 = w.alloc (.cells #[.int .i64 c.kind, .int .i64 c.a, .int .i64 c.b, .int .i64 c.c, .int .i64 c.job.arr, .int .i64 c.job.dl, .int .i64 c.job.len, .int .i64 c.job.units, .int .i64 c.job.val, .bool c.on] 114) := ⟨_, rfl⟩
  rw [← hw1]
  have b0 : w1.cell? ⟨w.heap.size, 0, none⟩ = some (.int .i64 c.kind) := by rw [hw1]; simp
  have b1 : w1.cell? ⟨w.heap.size, 1, none⟩ = some (.int .i64 c.a) := by rw [hw1]; simp
  have b2 : w1.cell? ⟨w.heap.size, 2, none⟩ = some (.int .i64 c.b) := by rw [hw1]; simp
  have b3 : w1.cell? ⟨w.heap.size, 3, none⟩ = some (.int .i64 c.c) := by rw [hw1]; simp
  have b4 : w1.cell? ⟨w.heap.size, 4, none⟩ = some (.int .i64 c.job.arr) := by rw [hw1]; simp
  have b5 : w1.cell? ⟨w.heap.size, 5, none⟩ = some (.int .i64 c.job.dl) := by rw [hw1]; simp
  have b6 : w1.cell? ⟨w.heap.size, 6, none⟩ = some (.int .i64 c.job.len) := by rw [hw1]; simp
  have b7 : w1.cell? ⟨w.heap.size, 7, none⟩ = some (.int .i64 c.job.units) := by rw [hw1]; simp
  have b8 : w1.cell? ⟨w.heap.size, 8, none⟩ = some (.int .i64 c.job.val) := by rw [hw1]; simp
  have b9 : w1.cell? ⟨w.heap.size, 9, none⟩ = some (.bool c.on) := by rw [hw1]; simp
  have p1 : w1.cell? ⟨p, 9, none⟩ = some (.slice ao n cap) := by rw [hw1]; exact d9 _
  have p2 : ∀ o, (w1.alloc o).cell? ⟨p, 9, none⟩ = some (.slice ao n cap) := fun o => by rw [hw1]; exact d9' _ _
  have HC1 : Hid (Chg (fun _ => False) w w1) := by rw [hw1]; exact (Chg.refl _ _).alloc _
  have HO1 : Hid (w1.ownsRow 0 114 10 (.slice ao n cap) n (m.log.flatMap callCells)) := by rw [hw1]; exact HLOG.out.alloc _
  clear d9 d9' hw1 HLOG
  go_region_law (refine step_append_lies _ rfl (.tmp 15) (.tmp 17) 85 rfl 0 114 i0 (.agg #[.int .i64 0, .int .i64 0, .int .i64 0, .int .i64 0, .int .i64 0, .int .i64 0, .int .i64 0, .int .i64 0, .int .i64 0, .bool false]) 10 80 Tryz.underlying85 hi hz0 hz1 hz2 rfl (by decide) (.slice ao n cap) n (m.log.flatMap callCells) (by simp [Act.eval]) (by exact HO1.out.alloc _) ⟨w1.heap.size, 0, none⟩ 1 1 (callCells c) (by simp [Act.eval]) rfl (by exact World.news_of_block (heap_alloc_new w1 _)) (by simp [callCells, Value.oneCell']) (by decide) (by unfold maxLen; omega) (by omega) (Nat.zero_le _) _ rfl ?_; intro g cap' w2 hown hgrow hat hlt; obtain ⟨s1, s2, s3⟩ := logs_arm HM.out HV.out HLN.out (by first | exact (HC1.out.alloc _).drew | exact HC1.out.drew.alloc _ | exact HC1.out.alloc _) hown hgrow hat (by have := HC1.out.size; simp; omega); clear hown hgrow hat hlt)
  all_goals
    go_wp2
    go_ret
    first | exact ⟨rfl, s3.out⟩ | exact ⟨rfl, s3.out.chg0 ((Chg.refl _ _).drew)⟩
end Go.Proofs.YtminceigjejipabGreat

namespace Go.Proofs.YtminceigjejipabGreat
open Go.RowKit

/-- one bid more -/
theorem MktAt.bidMore {w w1 w2 : World} {p : Nat} {V : MV} {m : MkG} {b : BidG} {g cap : Nat} (h : MktAt w p V m) (hc1 : Chg (fun _ => False) w w1)
    (hown : w2.ownsRow 0 118 12 (.slice (some ⟨g, 0, none⟩) (m.bids.length + 1) cap) (m.bids.length + 1) (m.bids.flatMap bidCells ++ bidCells b)) (hgrow : w1.grownBy w2 V.bv.ownBlock) (hat : V.bv.ownBlock = some g ∨ w.heap.size ≤ g) :
    w2.cell? ⟨p, 7, none⟩ = some V.bv ∧ w2.frozen? ⟨p, 7, none⟩ = false ∧ MktTo w p V { m with bids := m.bids ++ [b] } (w2.setCell ⟨p, 7, none⟩ (.slice (some ⟨g, 0, none⟩) (m.bids.length + 1) cap)) := by
  have h1 := h.chg0 hc1
  have nl : V.bv.ownBlock ≠ some p := ownsRow_box h1.bids h1.box (by decide)
  have keep : ∀ k, V.foot p k → V.bv.ownBlock ≠ some k → w2.heap[k]? = w1.heap[k]? := fun k hk hn => hgrow.block k (h1.foot_lt k hk) (fun e => hn e.symm)
  have hb2 : w2.heap[p]? = some (.cells (mktBox V m) 87 (0, 0)) := (keep p (.inl rfl) nl).trans h1.box
  refine ⟨by unfold World.cell?; rw [hb2]; rfl, by unfold World.frozen?; rw [hb2]; simp, ?_⟩
  have far : ∀ k, k ≠ p → (w2.setCell ⟨p, 7, none⟩ (.slice (some ⟨g, 0, none⟩) (m.bids.length + 1) cap)).heap[k]? = w2.heap[k]? := fun k hk => Below.heap_setCell _ _ _ _ hk
  have ex : (mktBox V m).setIfInBounds 7 (.slice (some ⟨g, 0, none⟩) (m.bids.length + 1) cap) = mktBox { V with bv := .slice (some ⟨g, 0, none⟩) (m.bids.length + 1) cap } { m with bids := m.bids ++ [b] } := rfl
  have hgp : g ≠ p := by
    rintro rfl
    obtain ⟨cu, hc⟩ := ownsRow_block hown (k := g) rfl
    rw [hb2] at hc
    simp at hc
  have old : ∀ {e : TypeId} {size n : Nat} {v : Value} {xs : List Value}, w1.ownsRow 0 e size v n xs → e ≠ 118 → e ≠ 87 → (∀ k, v.ownBlock = some k → V.foot p k) → (w2.setCell ⟨p, 7, none⟩ (.slice (some ⟨g, 0, none⟩) (m.bids.length + 1) cap)).ownsRow 0 e size v n xs := by
    intro e size n v xs ho he he' hf
    refine ownsRow_keep ho (fun k hk => ?_)
    rw [far k (fun e => ownsRow_box ho h1.box he' (e ▸ hk))]
    exact keep k (hf k hk) (ownsRow_apart ho h1.bids he hk)
  refine ⟨{ V with bv := .slice (some ⟨g, 0, none⟩) (m.bids.length + 1) cap }, ⟨by rw [box_set hb2, ex], old h1.units (by decide) (by decide) (fun k hk => .inr (.inl hk)), ?_, old h1.susp (by decide) (by decide) (fun k hk => .inr (.inr (.inr (.inl hk)))), old h1.log (by decide) (by decide) (fun k hk => .inr (.inr (.inr (.inr (.inl hk))))),
    old h1.paid (by decide) (by decide) (fun k hk => .inr (.inr (.inr (.inr (.inr (.inl hk)))))), old h1.charges (by decide) (by decide) (fun k hk => .inr (.inr (.inr (.inr (.inr (.inr hk)))))), h.ne⟩, ?_, ?_⟩
  · show (w2.setCell _ _).ownsRow 0 _ 12 _ (m.bids ++ [b]).length ((m.bids ++ [b]).flatMap bidCells)
    rw [List.length_append, List.flatMap_append]
    simp only [List.flatMap_cons, List.flatMap_nil, List.append_nil, List.length_cons, List.length_nil, Nat.zero_add]
    exact ownsRow_keep hown (fun k hk => far k (fun e => by simp [Value.ownBlock] at hk; exact hgp (hk.trans e)))
  · exact (((hc1.mono (O' := V.foot p) (fun _ _ h => h.elim)).grown hgrow (fun k hk => .inl (.inr (.inr (.inl hk)))))).setCell (.inl (.inl rfl)) _
  · intro k hk
    rcases hk with rfl | hk | hk | hk | hk | hk | hk
    · exact .inl (.inl rfl)
    · exact .inl (.inr (.inl hk))
    · simp [Value.ownBlock] at hk
      subst hk
      rcases hat with h | h
      · exact .inl (.inr (.inr (.inl h)))
      · exact .inr h
    · exact .inl (.inr (.inr (.inr (.inl hk))))
    · exact .inl (.inr (.inr (.inr (.inr (.inl hk)))))
    · exact .inl (.inr (.inr (.inr (.inr (.inr (.inl hk))))))
    · exact .inl (.inr (.inr (.inr (.inr (.inr (.inr hk))))))

theorem bids_arm {w w1 w2 : World} {p : Nat} {V : MV} {m : MkG} {b : BidG} {ao : Option Addr} {cap n g cap' H : Nat} (h : MktAt w p V m) (hv : V.bv = .slice ao m.bids.length cap) (hn : n = m.bids.length) (hc1 : Chg (fun _ => False) w w1)
    (hown : w2.ownsRow 0 118 12 (.slice (some ⟨g, 0, none⟩) (n + 1) cap') (n + 1) (m.bids.flatMap bidCells ++ bidCells b)) (hgrow : w1.grownBy w2 (Value.ownBlock (.slice ao n cap))) (hat : Value.ownBlock (.slice ao n cap) = some g ∨ g = H) (hH : w.heap.size ≤ H) :
    w2.cell? ⟨p, 7, none⟩ = some (.slice ao n cap) ∧ w2.frozen? ⟨p, 7, none⟩ = false ∧ Hid (MktTo w p V { m with bids := m.bids ++ [b] } (w2.setCell ⟨p, 7, none⟩ (.slice (some ⟨g, 0, none⟩) (n + 1) cap'))) := by
  subst hn
  rw [← hv] at hgrow hat ⊢
  exact h.bidMore hc1 hown hgrow (by rcases hat with h | h; exact .inl h; exact .inr (by omega))

/-- a bid's state, written -/
theorem MktAt.setState {w : World} {p : Nat} {V : MV} {m : MkG} {i g : Nat} {b : BidG} {s : Int} (h : MktAt w p V m) (hb : m.bids[i]? = some b) (hg : V.bv.ownBlock = some g) :
    MktTo w p V { m with bids := m.bids.set i { b with state := s } } (w.setCell ⟨g, i * 12 + 8, none⟩ (.int .i64 s)) := by
  have hil : i < m.bids.length := (List.getElem?_eq_some_iff.1 hb).1
  have hgp : g ≠ p := fun e => ownsRow_box h.bids h.box (by decide) (e ▸ hg)
  have far : ∀ k, k ≠ g → (w.setCell ⟨g, i * 12 + 8, none⟩ (.int .i64 s)).heap[k]? = w.heap[k]? := fun k hk => Below.heap_setCell _ _ _ _ hk
  have old : ∀ {e : TypeId} {size n : Nat} {v : Value} {xs : List Value}, w.ownsRow 0 e size v n xs → e ≠ 118 → (w.setCell ⟨g, i * 12 + 8, none⟩ (.int .i64 s)).ownsRow 0 e size v n xs := by
    intro e size n v xs ho he
    exact ownsRow_keep ho (fun k hk => far k (fun e => ownsRow_apart ho h.bids he hk (e ▸ hg)))
  refine ⟨V, ⟨(far p (Ne.symm hgp)).trans h.box, old h.units (by decide), ?_, old h.susp (by decide), old h.log (by decide), old h.paid (by decide), old h.charges (by decide), h.ne⟩, ?_, fun k hk => .inl hk⟩
  · show (w.setCell _ _).ownsRow 0 _ 12 _ (m.bids.set i { b with state := s }).length ((m.bids.set i { b with state := s }).flatMap bidCells)
    rw [List.length_set]
    have key : ∀ (l : List BidG) (i : Nat) (b : BidG), l[i]? = some b → (l.set i { b with state := s }).flatMap bidCells = (l.flatMap bidCells).set (i * 12 + 8) (.int .i64 s) := by
      intro l
      induction l with
      | nil => intro i b hb; simp at hb
      | cons y l ih =>
        intro i b hb
        cases i with
        | zero =>
          simp at hb
          subst hb
          simp [bidCells]
        | succ i =>
          simp only [List.getElem?_cons_succ] at hb
          simp only [List.set_cons_succ, List.flatMap_cons, ih i b hb]
          rw [show (i + 1) * 12 + 8 = (bidCells y).length + (i * 12 + 8) by simp [bidCells]; omega]
          rw [List.set_append_right _ _ (by omega)]
          simp
    rw [key m.bids i b hb]
    rcases h.bids.2 with ⟨hv, h0⟩ | ⟨g', cap, cur, hv, hb0, hh, hc, hmx, hsz, htake⟩
    · omega
    · have hgg : g' = g := by rw [hv] at hg; simpa [Value.ownBlock] using hg
      subst hgg
      refine ⟨by simp [h.bids.1], .inr ⟨g', cap, cur.setIfInBounds (i * 12 + 8) (.int .i64 s), hv, hb0, box_set hh _, hc, hmx, by simpa using hsz, ?_⟩⟩
      rw [Array.toList_setIfInBounds, List.take_set, htake]
  · exact (Chg.refl _ _).setCell (.inl (.inr (.inr (.inl hg)))) _

/-- a tenant's mark, written -/
theorem MktAt.setSusp {w : World} {p : Nat} {V : MV} {m : MkG} {i g : Nat} {s : Bool} (h : MktAt w p V m) (hi : i < m.susp.length) (hg : V.sv.ownBlock = some g) :
    MktTo w p V { m with susp := m.susp.set i s } (w.setCell ⟨g, i, none⟩ (.bool s)) := by
  have hgp : g ≠ p := fun e => ownsRow_box h.susp h.box (by decide) (e ▸ hg)
  have far : ∀ k, k ≠ g → (w.setCell ⟨g, i, none⟩ (.bool s)).heap[k]? = w.heap[k]? := fun k hk => Below.heap_setCell _ _ _ _ hk
  have old : ∀ {e : TypeId} {size n : Nat} {v : Value} {xs : List Value}, w.ownsRow 0 e size v n xs → e ≠ 4 → (w.setCell ⟨g, i, none⟩ (.bool s)).ownsRow 0 e size v n xs := by
    intro e size n v xs ho he
    exact ownsRow_keep ho (fun k hk => far k (fun e => ownsRow_apart ho h.susp he hk (e ▸ hg)))
  refine ⟨V, ⟨(far p (Ne.symm hgp)).trans h.box, old h.units (by decide), old h.bids (by decide), ?_, old h.log (by decide), old h.paid (by decide), old h.charges (by decide), h.ne⟩, ?_, fun k hk => .inl hk⟩
  · show (w.setCell _ _).ownsRow 0 _ 1 _ (m.susp.set i s).length ((m.susp.set i s).map Value.bool)
    rw [List.length_set, List.map_set]
    rcases h.susp.2 with ⟨hv, h0⟩ | ⟨g', cap, cur, hv, hb0, hh, hc, hmx, hsz, htake⟩
    · omega
    · have hgg : g' = g := by rw [hv] at hg; simpa [Value.ownBlock] using hg
      subst hgg
      refine ⟨by simp, .inr ⟨g', cap, cur.setIfInBounds i (.bool s), hv, hb0, box_set hh _, hc, hmx, by simpa using hsz, ?_⟩⟩
      rw [Array.toList_setIfInBounds, List.take_set, htake]
  · exact (Chg.refl _ _).setCell (.inl (.inr (.inr (.inr (.inl hg))))) _
end Go.Proofs.YtminceigjejipabGreat

namespace Go.Proofs.YtminceigjejipabGreat
open Go.RowKit

theorem MkOk.bl {m : MkG} (h : MkOk m) : m.bids.length ≤ 300 := Nat.le_trans h.nb h.nl

theorem MktTo.after {w w1 w2 : World} {p : Nat} {V V1 : MV} {m2 : MkG} (hc : Chg (V.foot p) w w1) (hf : ∀ k, V1.foot p k → V.foot p k ∨ w.heap.size ≤ k) (h : MktTo w1 p V1 m2 w2) : MktTo w p V m2 w2 := by
  obtain ⟨V2, b1, b2, b3⟩ := h
  refine ⟨V2, b1, hc.trans b2 (fun x hx hxf => ?_), fun k hk => ?_⟩
  · rcases hf x hxf with h | h
    · exact h
    · omega
  · rcases b3 k hk with h | h
    · exact hf k h
    · exact .inr (Nat.le_trans hc.size h)

/-- the frame of a logged call that is answered ErrFull -/
theorem MktTo.full {w w' : World} {p : Nat} {V : MV} {m : MkG} (h : MktAt w p V m) (hc : Chg (fun _ => False) w w') : MktTo w p V m w' := (MktTo.refl h).chg0 hc

set_option maxHeartbeats 1000000 in
theorem cancel_full (p : Nat) (V : MV) (m : MkG) (ten ref : Int) (w : World) (hm : MktAt w p V m) (hl : m.log.length = 300) :
    Calls Tryz.prog 34 #[.pointer (some ⟨p, 0, none⟩), .int .i64 ten, .int .i64 ref] w fun e w' => e = .returned (.int .i64 2) ∧ MktTo w p V m w' := by
  have HM := hide hm
  have HL := hide hl
  clear hm hl
  go_enter Tryz.func34, Tryz.ntmps34
  go_wp2_with fail
  refine (logged_full p V m (callCancel ten ref) _ HM.out HL.out).mono ?_
  rintro e w1 ⟨rfl, h1⟩
  have H1 := hide h1
  clear h1
  go_wp2
  go_ret
  exact ⟨rfl, MktTo.full HM.out H1.out⟩

set_option maxHeartbeats 2000000 in
theorem cancel_ok (p : Nat) (V : MV) (m : MkG) (ten ref : Int) (w : World) (hm : MktAt w p V m) (hok : MkOk m) (hl : m.log.length < 300) :
    Calls Tryz.prog 34 #[.pointer (some ⟨p, 0, none⟩), .int .i64 ten, .int .i64 ref] w fun e w' => e = .returned (.int .i64 (cancelE m ten ref)) ∧ MktTo w p V (cancelM m ten ref) w' := by
  have HM := hide hm
  have HL := hide hl
  have HOK := hide hok
  clear hm hl hok
  go_enter Tryz.func34, Tryz.ntmps34
  go_wp2_with fail
  refine (logged_ok p V m (callCancel ten ref) _ HM.out HL.out).mono ?_
  rintro e w1 ⟨rfl, hto⟩
  obtain ⟨V1, hm1, hc1, hf1⟩ := hto
  have H1 := hide hm1
  have HTO := hide (show MktTo w p V (m.logs (callCancel ten ref)) w1 from ⟨V1, hm1, hc1, hf1⟩)
  have HAF := hide (fun m2 w2 (h : MktTo w1 p V1 m2 w2) => MktTo.after hc1 hf1 h)
  clear hm1 hc1 hf1
  go_wp2_with fail
  refine (tenant_any p V1 _ ten _ H1.out).mono ?_
  rintro e w2 ⟨rfl, hw⟩
  subst w2
  have et : (m.logs (callCancel ten ref)).tenB ten = m.tenB ten := rfl
  rw [et]
  clear et
  cases hT : m.tenB ten
  · have E1 := hide (show cancelE m ten ref = 3 by simp [cancelE, hT])
    clear hT
    go_wp2
    go_ret
    exact ⟨ret_int E1.out.symm, by rw [show cancelM m ten ref = m.logs (callCancel ten ref) by simp [cancelM, E1.out]]; exact HTO.out⟩
  · go_wp2_with fail
    refine (find_any p V1 _ ten ref _ H1.out HOK.out.bl).mono ?_
    rintro e w2 ⟨rfl, hw⟩
    subst w2
    have ef : findZ (m.logs (callCancel ten ref)).bids ten ref = findZ m.bids ten ref := rfl
    rw [ef]
    clear ef
    have hfl := findZ_lt m.bids ten ref
    have hbl := HOK.out.bl
    by_cases hf : findZ m.bids ten ref < 0
    · have E1 := hide (show cancelE m ten ref = 5 by simp [cancelE, hT, hf])
      clear hT hfl
      generalize findZ m.bids ten ref = z at *
      go_wp2
      go_ret
      exact ⟨ret_int E1.out.symm, by rw [show cancelM m ten ref = m.logs (callCancel ten ref) by simp [cancelM, E1.out]]; exact HTO.out⟩
    · obtain ⟨i, hi⟩ := Int.eq_ofNat_of_zero_le (show 0 ≤ findZ m.bids ten ref by omega)
      obtain ⟨b, hb⟩ : ∃ b, m.bids[i]? = some b := ⟨_, List.getElem?_eq_getElem (by omega)⟩
      obtain ⟨ao, cap, hv, hel⟩ := H1.out.bid_form
      obtain ⟨g, hao, hown, hcl, hfr⟩ := hel i b hb
      subst hao
      have hil : (i : Int) < (m.bids.length : Int) := by omega
      have c7 : w1.cell? ⟨p, 7, none⟩ = some (.slice (some ⟨g, 0, none⟩) m.bids.length cap) := by rw [← show V1.bv = .slice (some ⟨g, 0, none⟩) m.bids.length cap from hv]; exact H1.out.cell 7
      have c8 : w1.cell? ⟨g, i * 12 + 8, none⟩ = some (.int .i64 b.state) := hcl 8 _ rfl
      have f8 := hfr (i * 12 + 8)
      have HB := hide hb
      have HOW := hide hown
      have HF := hide (show ¬ findZ m.bids ten ref < 0 from hf)
      have HI := hide hi
      rw [hi]
      clear hcl hfr hel hv hb hown hfl hf hi
      cases hs : b.state == 1
      · have E1 := hide (show cancelE m ten ref = 8 by
          simp only [cancelE, hT, HI.out, stateAt, Int.toNat_natCast, HB.out]
          simp at hs
          simp [hs])
        clear hT
        generalize m.bids.length = n at *
        go_wp2
        go_ret
        exact ⟨ret_int E1.out.symm, by rw [show cancelM m ten ref = m.logs (callCancel ten ref) by simp [cancelM, E1.out]]; exact HTO.out⟩
      · have E1 := hide (show cancelE m ten ref = 0 by
          simp only [cancelE, hT, HI.out, stateAt, Int.toNat_natCast, HB.out]
          simp at hs
          simp [hs])
        have E2 := hide (show cancelM m ten ref = { m.logs (callCancel ten ref) with bids := m.bids.set i { b with state := 3 } } by
          simp only [cancelM, E1.out, if_true, HI.out, Int.toNat_natCast]
          have : (m.logs (callCancel ten ref)).bids = m.bids := rfl
          rw [this, setState, HB.out])
        have HFIN := hide (show MktTo w p V (cancelM m ten ref) (w1.setCell ⟨g, i * 12 + 8, none⟩ (.int .i64 3)) by
          rw [E2.out]
          exact HAF.out _ _ (H1.out.setState (i := i) (b := b) (s := 3) HB.out HOW.out))
        clear hT
        generalize m.bids.length = n at *
        go_wp2
        go_ret
        exact ⟨ret_int E1.out.symm, HFIN.out⟩

set_option maxHeartbeats 1000000 in
theorem suspend_full (p : Nat) (V : MV) (m : MkG) (ten : Int) (on : Bool) (w : World) (hm : MktAt w p V m) (hl : m.log.length = 300) :
    Calls Tryz.prog 36 #[.pointer (some ⟨p, 0, none⟩), .int .i64 ten, .bool on] w fun e w' => e = .returned (.int .i64 2) ∧ MktTo w p V m w' := by
  have HM := hide hm
  have HL := hide hl
  clear hm hl
  go_enter Tryz.func36, Tryz.ntmps36
  go_wp2_with fail
  refine (logged_full p V m (callSuspend ten on) _ HM.out HL.out).mono ?_
  rintro e w1 ⟨rfl, h1⟩
  have H1 := hide h1
  clear h1
  go_wp2
  go_ret
  exact ⟨rfl, MktTo.full HM.out H1.out⟩

theorem tenB_true {m : MkG} {k : Int} (h : m.tenB k = true) : 0 ≤ k ∧ k < m.c.ten := by simpa [MkG.tenB] using h

set_option maxHeartbeats 2000000 in
theorem suspend_ok (p : Nat) (V : MV) (m : MkG) (ten : Int) (on : Bool) (w : World) (hm : MktAt w p V m) (hok : MkOk m) (hl : m.log.length < 300) :
    Calls Tryz.prog 36 #[.pointer (some ⟨p, 0, none⟩), .int .i64 ten, .bool on] w fun e w' => e = .returned (.int .i64 (suspendE m ten)) ∧ MktTo w p V (suspendM m ten on) w' := by
  have HM := hide hm
  have HL := hide hl
  have HOK := hide hok
  clear hm hl hok
  go_enter Tryz.func36, Tryz.ntmps36
  go_wp2_with fail
  refine (logged_ok p V m (callSuspend ten on) _ HM.out HL.out).mono ?_
  rintro e w1 ⟨rfl, hto⟩
  obtain ⟨V1, hm1, hc1, hf1⟩ := hto
  have H1 := hide hm1
  have HTO := hide (show MktTo w p V (m.logs (callSuspend ten on)) w1 from ⟨V1, hm1, hc1, hf1⟩)
  have HAF := hide (fun m2 w2 (h : MktTo w1 p V1 m2 w2) => MktTo.after hc1 hf1 h)
  clear hm1 hc1 hf1
  go_wp2_with fail
  refine (tenant_any p V1 _ ten _ H1.out).mono ?_
  rintro e w2 ⟨rfl, hw⟩
  subst w2
  have et : (m.logs (callSuspend ten on)).tenB ten = m.tenB ten := rfl
  rw [et]
  clear et
  cases hT : m.tenB ten
  · have E1 := hide (show suspendE m ten = 3 by simp [suspendE, hT])
    clear hT
    go_wp2
    go_ret
    exact ⟨ret_int E1.out.symm, by rw [show suspendM m ten on = m.logs (callSuspend ten on) by simp [suspendM, E1.out]]; exact HTO.out⟩
  · obtain ⟨t0, t1⟩ := tenB_true hT
    have hns := HOK.out.ns
    have hcf := cfgOk_true HOK.out.ck
    obtain ⟨i, rfl⟩ := Int.eq_ofNat_of_zero_le t0
    obtain ⟨ao, cap, hv, hel⟩ := H1.out.susp_form
    obtain ⟨g, hao, hown, hcl, hfr⟩ := hel i (by show i < m.susp.length; omega)
    subst hao
    have hil : (i : Int) < (m.susp.length : Int) := by omega
    have hsl : m.susp.length ≤ 8 := by omega
    have c8 : w1.cell? ⟨p, 8, none⟩ = some (.slice (some ⟨g, 0, none⟩) m.susp.length cap) := by rw [← show V1.sv = .slice (some ⟨g, 0, none⟩) m.susp.length cap from hv]; exact H1.out.cell 8
    have E1 := hide (show suspendE m i = 0 by simp [suspendE, hT])
    have HFIN := hide (show MktTo w p V (suspendM m i on) (w1.setCell ⟨g, i, none⟩ (.bool on)) by
      rw [show suspendM m i on = { m.logs (callSuspend i on) with susp := m.susp.set i on } by simp [suspendM, E1.out, MkG.logs]]
      exact HAF.out _ _ (H1.out.setSusp (s := on) (by show i < m.susp.length; omega) hown))
    clear hT hel hv hown hns hcf t0 t1
    generalize m.susp.length = n at *
    go_wp2
    go_ret
    exact ⟨ret_int E1.out.symm, HFIN.out⟩
end Go.Proofs.YtminceigjejipabGreat
