import Derived.Test.YtpenifeenfcphaaMkC
import Derived.Deep.RegionLaw
namespace Go.Proofs.Ytpenifeenfcphaa
open Go.RowKit

theorem infoCall : (Try.prog.info? 119).map (fun i => (i.zero, i.size, i.bytes)) = some (some (.agg #[.int .i64 0, .int .i64 0, .int .i64 0, .int .i64 0, .int .i64 0, .int .i64 0, .int .i64 0, .int .i64 0, .int .i64 0, .bool false]), 10, 80) := by kernel_rfl
theorem infoBid : (Try.prog.info? 123).map (fun i => (i.zero, i.size, i.bytes)) = some (some (.agg #[.int .i64 0, .int .i64 0, .int .i64 0, .int .i64 0, .int .i64 0, .int .i64 0, .int .i64 0, .int .i64 0, .int .i64 0, .int .i64 0, .int .i64 0, .bool false]), 12, 96) := by kernel_rfl

/-- a market that has become another: where it lies now, what has turned -/
def MktTo (w : World) (p : Nat) (V : MV) (m' : MkG) (w' : World) : Prop :=
  ∃ V', MktAt w' p V' m' ∧ Chg (V.foot p) w w' ∧ ∀ k, V'.foot p k → V.foot p k ∨ w.heap.size ≤ k

theorem MktTo.refl {w : World} {p : Nat} {V : MV} {m : MkG} (h : MktAt w p V m) : MktTo w p V m w := ⟨V, h, Chg.refl _ _, fun _ hk => .inl hk⟩
theorem MktTo.chg0 {w w' w2 : World} {p : Nat} {V : MV} {m : MkG} (h : MktTo w p V m w') (hc : Chg (fun _ => False) w' w2) : MktTo w p V m w2 := by
  obtain ⟨V', h1, h2, h3⟩ := h
  exact ⟨V', h1.chg0 hc, h2.trans hc (fun _ _ h => h.elim), h3⟩
theorem MktTo.start {w w0 w' : World} {p : Nat} {V : MV} {m : MkG} (hc : Chg (fun _ => False) w0 w) (h : MktTo w p V m w') : MktTo w0 p V m w' := by
  obtain ⟨V', h1, h2, h3⟩ := h
  exact ⟨V', h1, (hc.mono (O' := V.foot p) (fun _ _ h => h.elim)).trans h2 (fun _ _ h => h), fun k hk => by
    rcases h3 k hk with h | h
    · exact .inl h
    · exact .inr (Nat.le_trans hc.size h)⟩
theorem MktTo.trans {w w' w2 : World} {p : Nat} {V : MV} {m m2 : MkG} (h : MktTo w p V m w') (h2 : ∀ V', MktAt w' p V' m → MktTo w' p V' m2 w2) : MktTo w p V m2 w2 := by
  obtain ⟨V', a1, a2, a3⟩ := h
  obtain ⟨V2, b1, b2, b3⟩ := h2 V' a1
  refine ⟨V2, b1, a2.trans b2 (fun x hx hf => ?_), fun k hk => ?_⟩
  · rcases a3 x hf with h | h
    · exact h
    · omega
  · rcases b3 k hk with h | h
    · exact a3 k h
    · exact .inr (Nat.le_trans a2.size h)

theorem box_set {w : World} {p f : Nat} {cs : Array Value} {T : TypeId} (h : w.heap[p]? = some (.cells cs T (0, 0))) (u : Value) : (w.setCell ⟨p, f, none⟩ u).heap[p]? = some (.cells (cs.setIfInBounds f u) T (0, 0)) := by
  simp only [World.setCell, Array.getElem?_modify]
  simp [h]

/-- one entry more in the log -/
theorem MktAt.logs {w w1 w2 : World} {p : Nat} {V : MV} {m : MkG} {c : CallG} {g cap : Nat} (h : MktAt w p V m) (hc1 : Chg (fun _ => False) w w1)
    (hown : w2.ownsRow 0 119 10 (.slice (some ⟨g, 0, none⟩) (m.log.length + 1) cap) (m.log.length + 1) (m.log.flatMap callCells ++ callCells c)) (hgrow : w1.grownBy w2 V.lv.ownBlock) (hat : V.lv.ownBlock = some g ∨ w.heap.size ≤ g) :
    w2.cell? ⟨p, 9, none⟩ = some V.lv ∧ w2.frozen? ⟨p, 9, none⟩ = false ∧ MktTo w p V (m.logs c) (w2.setCell ⟨p, 9, none⟩ (.slice (some ⟨g, 0, none⟩) (m.log.length + 1) cap)) := by
  have h1 := h.chg0 hc1
  have hlt1 := h1.lt
  have nl : V.lv.ownBlock ≠ some p := ownsRow_box h1.log h1.box (by decide)
  have keep : ∀ k, V.foot p k → V.lv.ownBlock ≠ some k → w2.heap[k]? = w1.heap[k]? := fun k hk hn => hgrow.block k (h1.foot_lt k hk) (fun e => hn e.symm)
  have hb2 : w2.heap[p]? = some (.cells (mktBox V m) 98 (0, 0)) := (keep p (.inl rfl) nl).trans h1.box
  refine ⟨by unfold World.cell?; rw [hb2]; rfl, by unfold World.frozen?; rw [hb2]; simp, ?_⟩
  have far : ∀ k, k ≠ p → (w2.setCell ⟨p, 9, none⟩ (.slice (some ⟨g, 0, none⟩) (m.log.length + 1) cap)).heap[k]? = w2.heap[k]? := fun k hk => Below.heap_setCell _ _ _ _ hk
  have ex : (mktBox V m).setIfInBounds 9 (.slice (some ⟨g, 0, none⟩) (m.log.length + 1) cap) = mktBox { V with lv := .slice (some ⟨g, 0, none⟩) (m.log.length + 1) cap } (m.logs c) := rfl
  have hgp : g ≠ p := by
    rintro rfl
    obtain ⟨cu, hc⟩ := ownsRow_block hown (k := g) rfl
    rw [hb2] at hc
    simp at hc
  have old : ∀ {e : TypeId} {size n : Nat} {v : Value} {xs : List Value}, w1.ownsRow 0 e size v n xs → e ≠ 119 → e ≠ 98 → (∀ k, v.ownBlock = some k → V.foot p k) → (w2.setCell ⟨p, 9, none⟩ (.slice (some ⟨g, 0, none⟩) (m.log.length + 1) cap)).ownsRow 0 e size v n xs := by
    intro e size n v xs ho he he' hf
    refine ownsRow_keep ho (fun k hk => ?_)
    rw [far k (fun e => ownsRow_box ho h1.box he' (e ▸ hk))]
    exact keep k (hf k hk) (ownsRow_apart ho h1.log he hk)
  refine ⟨{ V with lv := .slice (some ⟨g, 0, none⟩) (m.log.length + 1) cap }, ⟨by rw [box_set hb2, ex], old h1.units (by decide) (by decide) (fun k hk => .inr (.inl hk)), old h1.bids (by decide) (by decide) (fun k hk => .inr (.inr (.inl hk))), old h1.susp (by decide) (by decide) (fun k hk => .inr (.inr (.inr (.inl hk)))), ?_,
    old h1.paid (by decide) (by decide) (fun k hk => .inr (.inr (.inr (.inr (.inr (.inl hk)))))), old h1.charges (by decide) (by decide) (fun k hk => .inr (.inr (.inr (.inr (.inr (.inr hk)))))), h.ne⟩, ?_, ?_⟩
  · have e1 : (m.logs c).log = m.log ++ [c] := rfl
    rw [e1, List.length_append, List.flatMap_append]
    simp only [List.flatMap_cons, List.flatMap_nil, List.append_nil, List.length_cons, List.length_nil, Nat.zero_add]
    exact ownsRow_keep hown (fun k hk => far k (fun e => by simp [Value.ownBlock] at hk; exact hgp (hk.trans e)))
  · exact (((hc1.mono (O' := V.foot p) (fun _ _ h => h.elim)).grown hgrow (fun k hk => .inl (.inr (.inr (.inr (.inr (.inl hk)))))))).setCell (.inl (.inl rfl)) _
  · intro k hk
    rcases hk with rfl | hk | hk | hk | hk | hk | hk
    · exact .inl (.inl rfl)
    · exact .inl (.inr (.inl hk))
    · exact .inl (.inr (.inr (.inl hk)))
    · exact .inl (.inr (.inr (.inr (.inl hk))))
    · simp [Value.ownBlock] at hk
      subst hk
      rcases hat with h | h
      · exact .inl (.inr (.inr (.inr (.inr (.inl h)))))
      · exact .inr h
    · exact .inl (.inr (.inr (.inr (.inr (.inr (.inl hk))))))
    · exact .inl (.inr (.inr (.inr (.inr (.inr (.inr hk))))))

set_option maxHeartbeats 1000000 in
theorem logged_full (p : Nat) (V : MV) (m : MkG) (c : CallG) (w : World) (hm : MktAt w p V m) (hn : m.log.length = 300) :
    Calls Try.prog 74 #[.pointer (some ⟨p, 0, none⟩), .agg #[.int .i64 c.kind, .int .i64 c.a, .int .i64 c.b, .int .i64 c.c, .int .i64 c.job.arr, .int .i64 c.job.dl, .int .i64 c.job.len, .int .i64 c.job.units, .int .i64 c.job.val, .bool c.on]] w fun e w' => e = .returned (.int .i64 2) ∧ Chg (fun _ => False) w w' := by
  have hc : w.cell? ⟨p, 9, none⟩ = some V.lv := hm.cell 9
  obtain ⟨ao, cap, hv⟩ := hm.log_form
  rw [hv, hn] at hc
  have hpl := hm.lt
  have d9 : ∀ o, (w.alloc o).cell? ⟨p, 9, none⟩ = some (.slice ao 300 cap) := fun o => by rw [World.cell?_alloc_lt _ _ _ (by exact hpl)]; exact hc
  clear hm hv hn hc
  go_enter Try.func74, Try.ntmps74
  go_wp2
  go_ret
  exact ⟨rfl, (Chg.refl _ _).alloc _⟩

theorem logs_arm {w w1 w2 : World} {p : Nat} {V : MV} {m : MkG} {c : CallG} {ao : Option Addr} {cap n g cap' H : Nat} (h : MktAt w p V m) (hv : V.lv = .slice ao m.log.length cap) (hn : n = m.log.length) (hc1 : Chg (fun _ => False) w w1)
    (hown : w2.ownsRow 0 119 10 (.slice (some ⟨g, 0, none⟩) (n + 1) cap') (n + 1) (m.log.flatMap callCells ++ callCells c)) (hgrow : w1.grownBy w2 (Value.ownBlock (.slice ao n cap))) (hat : Value.ownBlock (.slice ao n cap) = some g ∨ g = H) (hH : w.heap.size ≤ H) :
    w2.cell? ⟨p, 9, none⟩ = some (.slice ao n cap) ∧ w2.frozen? ⟨p, 9, none⟩ = false ∧ Hid (MktTo w p V (m.logs c) (w2.setCell ⟨p, 9, none⟩ (.slice (some ⟨g, 0, none⟩) (n + 1) cap'))) := by
  subst hn
  rw [← hv] at hgrow hat ⊢
  exact h.logs hc1 hown hgrow (by rcases hat with h | h; exact .inl h; exact .inr (by omega))

set_option maxRecDepth 100000 in
set_option maxHeartbeats 4000000 in
theorem logged_ok (p : Nat) (V : MV) (m : MkG) (c : CallG) (w : World) (hm : MktAt w p V m) (hn : m.log.length < 300) :
    Calls Try.prog 74 #[.pointer (some ⟨p, 0, none⟩), .agg #[.int .i64 c.kind, .int .i64 c.a, .int .i64 c.b, .int .i64 c.c, .int .i64 c.job.arr, .int .i64 c.job.dl, .int .i64 c.job.len, .int .i64 c.job.units, .int .i64 c.job.val, .bool c.on]] w fun e w' => e = .returned (.int .i64 0) ∧ MktTo w p V (m.logs c) w' := by
  obtain ⟨i0, hi, hz0, hz1, hz2⟩ := info_parts infoCall
  have HM := hide hm
  obtain ⟨ao, cap, hv⟩ := hm.log_form
  have hc : w.cell? ⟨p, 9, none⟩ = some (.slice ao m.log.length cap) := by rw [← hv]; exact hm.cell 9
  have hpl := hm.lt
  obtain ⟨n, hln⟩ : ∃ n, n = m.log.length := ⟨_, rfl⟩
  have HLOG : Hid (w.ownsRow 0 119 10 (.slice ao n cap) n (m.log.flatMap callCells)) := by rw [hln, ← hv]; exact hm.log
  rw [← hln] at hc hn
  have HLN := hide hln
  have HV := hide hv
  have d9 : ∀ o, (w.alloc o).cell? ⟨p, 9, none⟩ = some (.slice ao n cap) := fun o => by rw [World.cell?_alloc_lt _ _ _ (by exact hpl)]; exact hc
  have d9' : ∀ o o', ((w.alloc o).alloc o').cell? ⟨p, 9, none⟩ = some (.slice ao n cap) := fun o o' => by rw [World.cell?_alloc_lt _ _ _ (by simp; omega)]; exact d9 o
  clear hm hv hln hc
  go_enter Try.func74, Try.ntmps74
  go_wp2
  obtain ⟨w1, hw1⟩ : ∃ w1, w1 = w.alloc (.cells #[.int .i64 c.kind, .int .i64 c.a, .int .i64 c.b, .int .i64 c.c, .int .i64 c.job.arr, .int .i64 c.job.dl, .int .i64 c.job.len, .int .i64 c.job.units, .int .i64 c.job.val, .bool c.on] 119) := ⟨_, rfl⟩
  rw [← hw1]
  have b0 : w1.cell? ⟨w.heap.size, 0, none⟩ = some (.int .i64 c.kind) := by rw [hw1]; simp
  have b1 : w1.cell? ⟨w.heap.size, 1, none⟩ = some (.int .i64 c.a) := by rw [hw1]; simp
  have b2 : w1.cell? ⟨w.heap.size, 2, none⟩ = some (.int .i64 c.b) := by rw [hw1]; simp
  have b3 : w1.cell? ⟨w.heap.size, 3, none⟩ = some (.int .i64 c.c) := by rw [hw1]; simp
  have b4 : w1.cell? ⟨w.heap.size, 4, none⟩ = some (.int .i64 c.job.arr) := by rw [hw1]; simp
  have b5 : w1.cell? ⟨w.heap.size, 5, none⟩ = some (.int .i64 c.job.dl) := by rw [hw1]; simp
  have b6 : w1.cell? ⟨w.heap.size, 6, none⟩ = some (.int .i64 c.job.len) := by rw [hw1]; simp
  have b7 : w1.cell? ⟨w.heap.size, 7, none⟩ = some (.int .i64 c.job.units) := by rw [hw1]; simp
  have b8 : w1.cell? ⟨w.heap.size, 8, none⟩ = some (.int .i64 c.job.val) := by rw [hw1]; simp
  have b9 : w1.cell? ⟨w.heap.size, 9, none⟩ = some (.bool c.on) := by rw [hw1]; simp
  have p1 : w1.cell? ⟨p, 9, none⟩ = some (.slice ao n cap) := by rw [hw1]; exact d9 _
  have p2 : ∀ o, (w1.alloc o).cell? ⟨p, 9, none⟩ = some (.slice ao n cap) := fun o => by rw [hw1]; exact d9' _ _
  have HC1 : Hid (Chg (fun _ => False) w w1) := by rw [hw1]; exact (Chg.refl _ _).alloc _
  have HO1 : Hid (w1.ownsRow 0 119 10 (.slice ao n cap) n (m.log.flatMap callCells)) := by rw [hw1]; exact HLOG.out.alloc _
  clear d9 d9' hw1 HLOG
  go_region_law (refine step_append_lies _ rfl (.tmp 15) (.tmp 17) 96 rfl 0 119 i0 (.agg #[.int .i64 0, .int .i64 0, .int .i64 0, .int .i64 0, .int .i64 0, .int .i64 0, .int .i64 0, .int .i64 0, .int .i64 0, .bool false]) 10 80 Try.underlying96 hi hz0 hz1 hz2 rfl (by decide) (.slice ao n cap) n (m.log.flatMap callCells) (by simp [Act.eval]) (by exact HO1.out.alloc _) ⟨w1.heap.size, 0, none⟩ 1 1 (callCells c) (by simp [Act.eval]) rfl (by exact World.news_of_block (heap_alloc_new w1 _)) (by simp [callCells, Value.oneCell']) (by decide) (by unfold maxLen; omega) (by omega) (Nat.zero_le _) _ rfl ?_; intro g cap' w2 hown hgrow hat hlt; obtain ⟨s1, s2, s3⟩ := logs_arm HM.out HV.out HLN.out (by first | exact (HC1.out.alloc _).drew | exact HC1.out.drew.alloc _ | exact HC1.out.alloc _) hown hgrow hat (by have := HC1.out.size; simp; omega); clear hown hgrow hat hlt)
  all_goals
    go_wp2
    go_ret
    first | exact ⟨rfl, s3.out⟩ | exact ⟨rfl, s3.out.chg0 ((Chg.refl _ _).drew)⟩
end Go.Proofs.Ytpenifeenfcphaa
