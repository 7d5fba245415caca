import Derived.Test.YtminceigjejipabGreatG3
import Derived.Deep.OwnRows
namespace Go.Proofs.YtminceigjejipabGreat
open Go.RowKit

theorem infoBool : (Tryz.prog.info? 4).map (fun i => (i.zero, i.size, i.bytes)) = some (some (.bool false), 1, 1) := by kernel_rfl
theorem infoInt' : (Tryz.prog.info? 3).map (fun i => (i.zero, i.size, i.bytes)) = some (some (.int .i64 0), 1, 8) := by kernel_rfl

/-- one tick's units more -/
theorem MktAt.unitMore {w w1 w2 : World} {p : Nat} {V : MV} {m : MkG} {u : Int} {g cap : Nat} (h : MktAt w p V m) (hc1 : Chg (fun _ => False) w w1)
    (hown : w2.ownsRow 0 3 1 (.slice (some ⟨g, 0, none⟩) (m.units.length + 1) cap) (m.units.length + 1) (m.units.map (Value.int .i64) ++ [.int .i64 u])) (hgrow : w1.grownBy w2 V.uv.ownBlock) (hat : V.uv.ownBlock = some g ∨ w.heap.size ≤ g) :
    w2.cell? ⟨p, 6, none⟩ = some V.uv ∧ w2.frozen? ⟨p, 6, none⟩ = false ∧ MktTo w p V { m with units := m.units ++ [u] } (w2.setCell ⟨p, 6, none⟩ (.slice (some ⟨g, 0, none⟩) (m.units.length + 1) cap)) := by
  have h1 := h.chg0 hc1
  have nl : V.uv.ownBlock ≠ some p := ownsRow_box h1.units h1.box (by decide)
  have keep : ∀ k, V.foot p k → V.uv.ownBlock ≠ some k → w2.heap[k]? = w1.heap[k]? := fun k hk hn => hgrow.block k (h1.foot_lt k hk) (fun e => hn e.symm)
  have hb2 : w2.heap[p]? = some (.cells (mktBox V m) 87 (0, 0)) := (keep p (.inl rfl) nl).trans h1.box
  refine ⟨by unfold World.cell?; rw [hb2]; rfl, by unfold World.frozen?; rw [hb2]; simp, ?_⟩
  have far : ∀ k, k ≠ p → (w2.setCell ⟨p, 6, none⟩ (.slice (some ⟨g, 0, none⟩) (m.units.length + 1) cap)).heap[k]? = w2.heap[k]? := fun k hk => Below.heap_setCell _ _ _ _ hk
  have ex : (mktBox V m).setIfInBounds 6 (.slice (some ⟨g, 0, none⟩) (m.units.length + 1) cap) = mktBox { V with uv := .slice (some ⟨g, 0, none⟩) (m.units.length + 1) cap } { m with units := m.units ++ [u] } := rfl
  have hgp : g ≠ p := by
    rintro rfl
    obtain ⟨cu, hc⟩ := ownsRow_block hown (k := g) rfl
    rw [hb2] at hc
    simp at hc
  have old : ∀ {e : TypeId} {size n : Nat} {v : Value} {xs : List Value}, w1.ownsRow 0 e size v n xs → (∀ k, v.ownBlock = some k → V.uv.ownBlock ≠ some k) → e ≠ 87 → (∀ k, v.ownBlock = some k → V.foot p k) → (w2.setCell ⟨p, 6, none⟩ (.slice (some ⟨g, 0, none⟩) (m.units.length + 1) cap)).ownsRow 0 e size v n xs := by
    intro e size n v xs ho he he' hf
    refine ownsRow_keep ho (fun k hk => ?_)
    rw [far k (fun e => ownsRow_box ho h1.box he' (e ▸ hk))]
    exact keep k (hf k hk) (he k hk)
  refine ⟨{ V with uv := .slice (some ⟨g, 0, none⟩) (m.units.length + 1) cap }, ⟨by rw [box_set hb2, ex], ?_, old h1.bids (fun k hk => ownsRow_apart h1.bids h1.units (by decide) hk) (by decide) (fun k hk => .inr (.inr (.inl hk))), old h1.susp (fun k hk => ownsRow_apart h1.susp h1.units (by decide) hk) (by decide) (fun k hk => .inr (.inr (.inr (.inl hk)))), old h1.log (fun k hk => ownsRow_apart h1.log h1.units (by decide) hk) (by decide) (fun k hk => .inr (.inr (.inr (.inr (.inl hk))))),
    old h1.paid (fun k hk h' => h.ne k h' hk) (by decide) (fun k hk => .inr (.inr (.inr (.inr (.inr (.inl hk)))))), old h1.charges (fun k hk => ownsRow_apart h1.charges h1.units (by decide) hk) (by decide) (fun k hk => .inr (.inr (.inr (.inr (.inr (.inr hk)))))), ?_⟩, ?_, ?_⟩
  · show (w2.setCell _ _).ownsRow 0 _ 1 _ (m.units ++ [u]).length ((m.units ++ [u]).map (Value.int .i64))
    rw [List.length_append, List.map_append]
    exact ownsRow_keep hown (fun k hk => far k (fun e => by simp [Value.ownBlock] at hk; exact hgp (hk.trans e)))
  · intro k hk hk'
    simp [Value.ownBlock] at hk
    subst hk
    rcases hat with h' | h'
    · exact h.ne g h' hk'
    · have := (h.paid.lt g hk').2
      omega
  · exact (((hc1.mono (O' := V.foot p) (fun _ _ h => h.elim)).grown hgrow (fun k hk => .inl (.inr (.inl hk))))).setCell (.inl (.inl rfl)) _
  · intro k hk
    rcases hk with rfl | hk | hk | hk | hk | hk | hk
    · exact .inl (.inl rfl)
    · simp [Value.ownBlock] at hk
      subst hk
      rcases hat with h | h
      · exact .inl (.inr (.inl h))
      · exact .inr h
    · exact .inl (.inr (.inr (.inl hk)))
    · exact .inl (.inr (.inr (.inr (.inl hk))))
    · exact .inl (.inr (.inr (.inr (.inr (.inl hk)))))
    · exact .inl (.inr (.inr (.inr (.inr (.inr (.inl hk))))))
    · exact .inl (.inr (.inr (.inr (.inr (.inr (.inr hk))))))

theorem units_arm {w w1 w2 : World} {p : Nat} {V : MV} {m : MkG} {u : Int} {ao : Option Addr} {cap n g cap' H : Nat} (h : MktAt w p V m) (hv : V.uv = .slice ao m.units.length cap) (hn : n = m.units.length) (hc1 : Chg (fun _ => False) w w1)
    (hown : w2.ownsRow 0 3 1 (.slice (some ⟨g, 0, none⟩) (n + 1) cap') (n + 1) (m.units.map (Value.int .i64) ++ [.int .i64 u])) (hgrow : w1.grownBy w2 (Value.ownBlock (.slice ao n cap))) (hat : Value.ownBlock (.slice ao n cap) = some g ∨ g = H) (hH : w.heap.size ≤ H) :
    w2.cell? ⟨p, 6, none⟩ = some (.slice ao n cap) ∧ w2.frozen? ⟨p, 6, none⟩ = false ∧ Hid (MktTo w p V { m with units := m.units ++ [u] } (w2.setCell ⟨p, 6, none⟩ (.slice (some ⟨g, 0, none⟩) (n + 1) cap'))) := by
  subst hn
  rw [← hv] at hgrow hat ⊢
  exact h.unitMore hc1 hown hgrow (by rcases hat with h | h; exact .inl h; exact .inr (by omega))

theorem heap_at_new {w : World} {o : Obj} {n : Nat} (h : n = w.heap.size) : (w.alloc o).heap[n]? = some o := by
  subst h
  exact heap_alloc_new w o

theorem made_list (z : Value) (n : Nat) : (madeCells #[z] n).toList = List.replicate n z := by
  apply List.ext_getElem?
  intro i
  by_cases hi : i < n
  · simp [madeCells, hi, Nat.mod_one]
  · simp [madeCells, hi]

/-- a fresh market, its ticks' units still to come -/
theorem open_start {W : World} {nk nt S D p : Nat} {cap res quo : Int} (h8 : nt ≤ 8) (_ : S ≠ D) (h1 : W.heap[S]? = some (.cells (madeCells #[.bool false] nt) 4 (0, 0))) (h2 : W.heap[D]? = some (.cells (madeCells #[.int .i64 0] nt) 3 (0, 0)))
    (h3 : W.heap[p]? = some (.cells #[.int .i64 (nk : Int), .int .i64 cap, .int .i64 res, .int .i64 (nt : Int), .int .i64 quo, .int .i64 0, .slice none 0 0, .slice none 0 0, .slice (some ⟨S, 0, none⟩) nt nt, .slice none 0 0, .slice (some ⟨D, 0, none⟩) nt nt, .slice none 0 0, .int .i64 (-1), .int .i64 0] 87 (0, 0))) :
    MktAt W p ⟨.slice none 0 0, .slice none 0 0, .slice (some ⟨S, 0, none⟩) nt nt, .slice none 0 0, .slice (some ⟨D, 0, none⟩) nt nt, .slice none 0 0⟩ { openM ⟨nk, cap, res, nt, quo⟩ with units := [] } := by
  refine ⟨h3, World.ownsRow_nil _ _ _ _, World.ownsRow_nil _ _ _ _, ?_, World.ownsRow_nil _ _ _ _, ?_, World.ownsRow_nil _ _ _ _, fun k hk => by simp [Value.ownBlock] at hk⟩
  · show W.ownsRow 0 _ 1 _ (List.replicate (Int.toNat (nt : Int)) false).length ((List.replicate (Int.toNat (nt : Int)) false).map Value.bool)
    rw [Int.toNat_natCast, List.length_replicate, List.map_replicate]
    exact ⟨by simp, .inr ⟨S, nt, _, rfl, Nat.zero_le _, h1, Nat.le_refl _, by unfold maxLen; omega, by rw [size_madeCells]; omega, by rw [made_list]; simp⟩⟩
  · show W.ownsRow 0 _ 1 _ (List.replicate (Int.toNat (nt : Int)) (0 : Int)).length ((List.replicate (Int.toNat (nt : Int)) (0 : Int)).map (Value.int .i64))
    rw [Int.toNat_natCast, List.length_replicate, List.map_replicate]
    exact ⟨by simp, .inr ⟨D, nt, _, rfl, Nat.zero_le _, h2, Nat.le_refl _, by unfold maxLen; omega, by rw [size_madeCells]; omega, by rw [made_list]; simp⟩⟩

def OpenRel (w : World) (nk nt : Nat) (cap res quo : Int) (i : Value) (wr : World) : Prop :=
  ∃ (k : Nat) (V : MV), k ≤ nk ∧ i = .int .i64 (k : Int) ∧ MktAt wr (w.heap.size + 1 + 1 + 1) V { openM ⟨nk, cap, res, nt, quo⟩ with units := List.replicate k cap } ∧ wr.cell? ⟨w.heap.size, 0, none⟩ = some (.int .i64 (nk : Int)) ∧ wr.cell? ⟨w.heap.size, 1, none⟩ = some (.int .i64 cap) ∧ Chg (fun _ => False) w wr ∧ ∀ x, V.foot (w.heap.size + 1 + 1 + 1) x → w.heap.size < x

theorem OpenRel.drew {w : World} {nk nt : Nat} {cap res quo : Int} {i : Value} {wr : World} (h : OpenRel w nk nt cap res quo i wr) : OpenRel w nk nt cap res quo i wr.drew := by
  obtain ⟨k, V, h1, h2, h3, h4, h5, h6, h7⟩ := h
  exact ⟨k, V, h1, h2, h3.chg0 ((Chg.refl _ _).drew), h4, h5, h6.drew, h7⟩

theorem foot_start {S D p x N : Nat} {nt : Nat} (h : (⟨.slice none 0 0, .slice none 0 0, .slice (some ⟨S, 0, none⟩) nt nt, .slice none 0 0, .slice (some ⟨D, 0, none⟩) nt nt, .slice none 0 0⟩ : MV).foot p x) (h1 : N < S) (h2 : N < D) (h3 : N < p) : N < x := by
  rcases h with h | h | h | h | h | h | h <;> first | omega | (simp [Value.ownBlock] at h; done) | (simp [Value.ownBlock] at h; omega)

theorem openA (w : World) (nk nt : Nat) (cap res quo : Int) (h8 : nt ≤ 8) : OpenRel w nk nt cap res quo (.int .i64 0) ((((w.alloc (.cells #[.int .i64 (nk : Int), .int .i64 cap, .int .i64 res, .int .i64 (nt : Int), .int .i64 quo] 49)).alloc (.cells (madeCells #[.bool false] nt) 4)).alloc (.cells (madeCells #[.int .i64 0] nt) 3)).alloc (.cells #[.int .i64 (nk : Int), .int .i64 cap, .int .i64 res, .int .i64 (nt : Int), .int .i64 quo, .int .i64 0, .slice none 0 0, .slice none 0 0, .slice (some ⟨w.heap.size + 1, 0, none⟩) nt nt, .slice none 0 0, .slice (some ⟨w.heap.size + 1 + 1, 0, none⟩) nt nt, .slice none 0 0, .int .i64 (-1), .int .i64 0] 87)) := by
  refine ⟨0, _, Nat.zero_le _, rfl, open_start (S := w.heap.size + 1) (D := w.heap.size + 1 + 1) h8 (by omega) ?_ ?_ ?_, ?_, ?_, ((((Chg.refl _ _).alloc _).alloc _).alloc _).alloc _, fun x hx => foot_start hx (by omega) (by omega) (by omega)⟩
  · rw [Below.heap_alloc _ _ _ (by simp), Below.heap_alloc _ _ _ (by simp)]; exact heap_at_new (by simp)
  · rw [Below.heap_alloc _ _ _ (by simp)]; exact heap_at_new (by simp)
  · exact heap_at_new (by simp)
  · rw [World.cell?_alloc_lt _ _ _ (by simp; omega), World.cell?_alloc_lt _ _ _ (by simp; omega), World.cell?_alloc_lt _ _ _ (by simp)]; simp
  · rw [World.cell?_alloc_lt _ _ _ (by simp; omega), World.cell?_alloc_lt _ _ _ (by simp; omega), World.cell?_alloc_lt _ _ _ (by simp)]; simp
theorem openW (w : World) (nk nt : Nat) (cap res quo : Int) (h8 : nt ≤ 8) : OpenRel w nk nt cap res quo (.int .i64 0) ((((w.alloc (.cells #[.int .i64 (nk : Int), .int .i64 cap, .int .i64 res, .int .i64 (nt : Int), .int .i64 quo] 49)).alloc (.cells (madeCells #[.int .i64 0] nt) 3)).alloc (.cells (madeCells #[.bool false] nt) 4)).alloc (.cells #[.int .i64 (nk : Int), .int .i64 cap, .int .i64 res, .int .i64 (nt : Int), .int .i64 quo, .int .i64 0, .slice none 0 0, .slice none 0 0, .slice (some ⟨w.heap.size + 1 + 1, 0, none⟩) nt nt, .slice none 0 0, .slice (some ⟨w.heap.size + 1, 0, none⟩) nt nt, .slice none 0 0, .int .i64 (-1), .int .i64 0] 87)) := by
  refine ⟨0, _, Nat.zero_le _, rfl, open_start (S := w.heap.size + 1 + 1) (D := w.heap.size + 1) h8 (by omega) ?_ ?_ ?_, ?_, ?_, ((((Chg.refl _ _).alloc _).alloc _).alloc _).alloc _, fun x hx => foot_start hx (by omega) (by omega) (by omega)⟩
  · rw [Below.heap_alloc _ _ _ (by simp)]; exact heap_at_new (by simp)
  · rw [Below.heap_alloc _ _ _ (by simp), Below.heap_alloc _ _ _ (by simp)]; exact heap_at_new (by simp)
  · exact heap_at_new (by simp)
  · rw [World.cell?_alloc_lt _ _ _ (by simp; omega), World.cell?_alloc_lt _ _ _ (by simp; omega), World.cell?_alloc_lt _ _ _ (by simp)]; simp
  · rw [World.cell?_alloc_lt _ _ _ (by simp; omega), World.cell?_alloc_lt _ _ _ (by simp; omega), World.cell?_alloc_lt _ _ _ (by simp)]; simp

set_option maxRecDepth 100000 in
set_option maxHeartbeats 4000000 in
theorem open_any (c : CfgG) (w : World) (hc : cfgOk c = true) :
    Calls Tryz.prog 29 #[.agg #[.int .i64 c.ticks, .int .i64 c.cap, .int .i64 c.res, .int .i64 c.ten, .int .i64 c.quo]] w fun e w' => ∃ p V, e = .returned (.pointer (some ⟨p, 0, none⟩)) ∧ MktAt w' p V (openM c) ∧ Chg (fun _ => False) w w' ∧ ∀ k, V.foot p k → w.heap.size ≤ k := by
  obtain ⟨⟨a1, a2⟩, ⟨a3, a4⟩, ⟨a5, a6⟩, ⟨a7, a8⟩, a9, a10⟩ := cfgOk_true hc
  obtain ⟨tk, cap, res, ten, quo⟩ := c
  simp only at *
  obtain ⟨nt, rfl⟩ := Int.eq_ofNat_of_zero_le (show 0 ≤ ten by omega)
  obtain ⟨nk, rfl⟩ := Int.eq_ofNat_of_zero_le (show 0 ≤ tk by omega)
  have hmk1 := run_make_row' (P := Tryz.prog) 84 4 (.bool false) 1 Tryz.underlying84 infoBool rfl .i64 .i64 nt (by omega) (by omega)
  have hmk2 := run_make_row' (P := Tryz.prog) 24 3 (.int .i64 0) 8 Tryz.underlying24 infoInt' rfl .i64 .i64 nt (by omega) (by omega)
  clear hc
  go_enter Tryz.func29, Tryz.ntmps29
  go_wp2
  go_region
  all_goals
    go_wp2
    go_loopw [4] (fun i wr => OpenRel w nk nt cap res quo i wr) (fun i _ => nk - (intOf i).toNat)
    case atStart => first | exact openA w nk nt cap res quo (by omega) | exact openW w nk nt cap res quo (by omega) | exact (openA w nk nt cap res quo (by omega)).drew | exact (openW w nk nt cap res quo (by omega)).drew
    case round =>
      clear hmk1 hmk2
      obtain ⟨k, V, hk, rfl, hm, q0, q1, hch, hft⟩ := hrel
      have HM := hide hm
      have HCH := hide hch
      have HFT := hide hft
      have hpl := hm.lt
      by_cases hlt : k < nk
      · obtain ⟨ua, uc, huv, _⟩ := hm.units_form
        have HUV : Hid (V.uv = .slice ua (MkG.units { openM ⟨nk, cap, res, nt, quo⟩ with units := List.replicate k cap }).length uc) := huv
        have HLK : Hid (k = (MkG.units { openM ⟨nk, cap, res, nt, quo⟩ with units := List.replicate k cap }).length) := by simp [Hid]
        have c6 : wr.cell? ⟨w.heap.size + 1 + 1 + 1, 6, none⟩ = some (.slice ua k uc) := by
          have h6 : wr.cell? ⟨w.heap.size + 1 + 1 + 1, 6, none⟩ = some V.uv := hm.cell 6
          rw [h6, HUV.out, ← HLK.out]
        have c6' : ∀ o, (wr.alloc o).cell? ⟨w.heap.size + 1 + 1 + 1, 6, none⟩ = some (.slice ua k uc) := fun o => by rw [World.cell?_alloc_lt _ _ _ (by exact hpl)]; exact c6
        have HOU : Hid (wr.ownsRow 0 3 1 (.slice ua k uc) k ((List.replicate k cap).map (Value.int .i64))) := by
          have := hm.units
          rw [HUV.out, ← HLK.out] at this
          exact this
        obtain ⟨i0, hi, hz0, hz1, hz2⟩ := info_parts infoInt'
        have hq1 : w.heap.size < wr.heap.size := by omega
        have HQ0 := hide q0
        have HQ1 := hide q1
        clear hm hch hft huv
        go_wp2
        go_region_law (refine step_append_lies _ rfl (.tmp 24) (.tmp 27) 24 rfl 0 3 i0 (.int .i64 0) 1 8 Tryz.underlying24 hi hz0 hz1 hz2 rfl (by decide) (.slice ua k uc) k ((List.replicate k cap).map (Value.int .i64)) (by simp [Act.eval]) (by exact HOU.out.alloc _) ⟨wr.heap.size, 0, none⟩ 1 1 [.int .i64 cap] (by simp [Act.eval]) rfl (by exact World.news_of_block (heap_alloc_new wr _)) (by simp [Value.oneCell']) (by decide) (by unfold maxLen; omega) (by omega) (Nat.zero_le _) _ rfl ?_; intro g cap' w3 hown hgrow hat2 hlt2; obtain ⟨s1, s2, s3⟩ := units_arm HM.out HUV.out HLK.out (by first | exact ((Chg.refl _ _).alloc _).drew | exact (Chg.refl _ _).alloc _) hown hgrow hat2 (by simp); clear hown hgrow hat2 hlt2)
        all_goals
          have S3 := hide s3.out
          clear s1 s2 s3 c6 c6'
          go_wp2
          go_roundw
          case rel =>
            obtain ⟨V', b1, b2, b3⟩ := S3.out
            have nq : ¬ V.foot (w.heap.size + 1 + 1 + 1) w.heap.size := fun h => by have := HFT.out _ h; omega
            first
              | exact ⟨k + 1, V', by omega, by go_num, by rw [List.replicate_succ']; exact b1, by rw [b2.cell (by exact hq1) nq]; exact HQ0.out, by rw [b2.cell (by exact hq1) nq]; exact HQ1.out, HCH.out.trans b2 (fun x hx h => by have := HFT.out _ h; omega), fun x hx => by rcases b3 x hx with h | h; exact HFT.out x h; omega⟩
              | exact OpenRel.drew ⟨k + 1, V', by omega, by go_num, by rw [List.replicate_succ']; exact b1, by rw [b2.cell (by exact hq1) nq]; exact HQ0.out, by rw [b2.cell (by exact hq1) nq]; exact HQ1.out, HCH.out.trans b2 (fun x hx h => by have := HFT.out _ h; omega), fun x hx => by rcases b3 x hx with h | h; exact HFT.out x h; omega⟩
          case measure => simp [intOf]; omega
      · clear hm hch hft
        have hkn : k = nk := by omega
        have HKN := hide hkn
        clear hkn
        go_wp2
        go_ret
        refine ⟨_, rfl, V, ?_, HCH.out, fun x hx => by have := HFT.out x hx; omega⟩
        have := HM.out
        rw [HKN.out] at this
        exact this
end Go.Proofs.YtminceigjejipabGreat
