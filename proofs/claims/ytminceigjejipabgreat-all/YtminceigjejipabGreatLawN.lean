import Derived.Test.YtminceigjejipabGreatG5
import Derived.Test.YtminceigjejipabGreatG7
/-
  WHAT CAME OUT: the lists that the caller keeps, with its marks; 'looks' over them.
-/
namespace Go.Proofs.YtminceigjejipabGreat
open Go.RowKit

def markZ (n : Nat) : Int := -1000 - (n : Int)

set_option maxHeartbeats 1000000 in
theorem markName_any (n : Nat) (w : World) (hn : n < 500000000000000) :
    Calls Tryz.prog 18 #[.int .i64 (n : Int)] w fun e w' => e = .returned (.agg #[.int .i64 (markZ n), .int .i64 (markZ n)]) ∧ Chg (fun _ => False) w w' := by
  have hw : IntKind.i64.wrap (-1000 - (n : Int)) = -1000 - (n : Int) := by rw [IntKind.wrap_i64]; omega
  go_enter Tryz.func18, Tryz.ntmps18
  go_wp2
  refine bodyPost_ret (v := .agg #[.int .i64 (-1000 - (n : Int)), .int .i64 (-1000 - (n : Int))]) (by simp [results, Tryz.results18, go_sem]) rfl ⟨rfl, ?_⟩
  exact (Chg.refl _ _).alloc _

set_option maxHeartbeats 1000000 in
theorem markInvoice_any (n : Nat) (w : World) (hn : n < 500000000000000) :
    Calls Tryz.prog 19 #[.int .i64 (n : Int)] w fun e w' => e = .returned (.agg #[.int .i64 (markZ n), .int .i64 (markZ n), .int .i64 (markZ n)]) ∧ Chg (fun _ => False) w w' := by
  have hw : IntKind.i64.wrap (-1000 - (n : Int)) = -1000 - (n : Int) := by rw [IntKind.wrap_i64]; omega
  go_enter Tryz.func19, Tryz.ntmps19
  go_wp2
  refine bodyPost_ret (v := .agg #[.int .i64 (-1000 - (n : Int)), .int .i64 (-1000 - (n : Int)), .int .i64 (-1000 - (n : Int))]) (by simp [results, Tryz.results19, go_sem]) rfl ⟨rfl, ?_⟩
  exact (Chg.refl _ _).alloc _

/-- lists that came out, each of things of sz cells, all marked -/
structure OutC (TS : TypeId) (sz : Nat) (w : World) (ov : Value) (vs : List Value) (F : Nat → Prop) : Prop where
  own : w.ownsRow 0 TS 1 ov vs.length vs
  ownF : ∀ k, ov.ownBlock = some k → F k
  lt : ∀ k, F k → k < w.heap.size
  len : vs.length < 5000000000000
  item : ∀ (i : Nat) v, vs[i]? = some v → ∃ ao n cap, v = .slice ao n cap ∧ n ≤ 100000 ∧ ∀ j, j < n → ∃ g, ao = some ⟨g, 0, none⟩ ∧ F g ∧ ov.ownBlock ≠ some g ∧ ∀ r, r < sz → w.cell? ⟨g, j * sz + r, none⟩ = some (.int .i64 (markZ (i - i % 2)))

theorem OutC.nil (TS : TypeId) (sz : Nat) (w : World) : OutC TS sz w (.slice none 0 0) [] (fun _ => False) :=
  ⟨World.ownsRow_nil _ _ _ _, fun k hk => by simp [Value.ownBlock] at hk, fun _ h => h.elim, by simp, fun i v h => by simp at h⟩
theorem OutC.frame {TS : TypeId} {sz : Nat} {w w' : World} {ov : Value} {vs : List Value} {F : Nat → Prop} (h : OutC TS sz w ov vs F) (hf : ∀ k, F k → w'.heap[k]? = w.heap[k]?) : OutC TS sz w' ov vs F := by
  refine ⟨ownsRow_keep h.own (fun k hk => hf k (h.ownF k hk)), h.ownF, fun k hk => ?_, h.len, fun i v hv => ?_⟩
  · have h1 := h.lt k hk
    have h2 := hf k hk
    rw [Array.getElem?_eq_getElem h1] at h2
    exact (Array.getElem?_eq_some_iff.1 h2).1
  · obtain ⟨ao, n, cap, h1, h2, h3⟩ := h.item i v hv
    refine ⟨ao, n, cap, h1, h2, fun j hj => ?_⟩
    obtain ⟨g, a1, a2, a4, a3⟩ := h3 j hj
    exact ⟨g, a1, a2, a4, fun r hr => by rw [World.cell?_of_block (w := w) (hf g a2)]; exact a3 r hr⟩
theorem OutC.chg0 {TS : TypeId} {sz : Nat} {w w' : World} {ov : Value} {vs : List Value} {F : Nat → Prop} (h : OutC TS sz w ov vs F) (hc : Chg (fun _ => False) w w') : OutC TS sz w' ov vs F := h.frame (fun k hk => hc.block k (h.lt k hk) (fun h => h))
/-- a list more -/
theorem OutC.snoc {TS : TypeId} {sz : Nat} {w wa w' : World} {nv v : Value} {vs : List Value} {F : Nat → Prop} {g cap n c2 : Nat} {ao : Option Addr} (h : OutC TS sz w nv vs F) (hc : Chg (fun _ => False) w wa) (hlen : vs.length + 1 < 5000000000000)
    (hown : w'.ownsRow 0 TS 1 (.slice (some ⟨g, 0, none⟩) (vs.length + 1) cap) (vs.length + 1) (vs ++ [v])) (hgrow : wa.grownBy w' nv.ownBlock) (hat : nv.ownBlock = some g ∨ w.heap.size ≤ g) (hgl : g < w'.heap.size)
    (hv : v = .slice ao n c2) (hn : n ≤ 100000) (hm : ∀ j, j < n → ∃ gb, ao = some ⟨gb, 0, none⟩ ∧ gb < w.heap.size ∧ nv.ownBlock ≠ some gb ∧ ∀ r, r < sz → w.cell? ⟨gb, j * sz + r, none⟩ = some (.int .i64 (markZ (vs.length - vs.length % 2)))) (hvl : ∀ k, v.ownBlock = some k → k < w.heap.size) :
    OutC TS sz w' (.slice (some ⟨g, 0, none⟩) (vs.length + 1) cap) (vs ++ [v]) (fun k => F k ∨ k = g ∨ v.ownBlock = some k) := by
  have hc3 : Chg (fun k => nv.ownBlock = some k) w w' := (hc.mono (fun _ _ h => h.elim)).grown hgrow (fun k hk => .inl hk)
  have hle : (vs ++ [v]).length = vs.length + 1 := by simp
  have gne : ∀ gb, gb < w.heap.size → nv.ownBlock ≠ some gb → Value.ownBlock (.slice (some ⟨g, 0, none⟩) (vs.length + 1) cap) ≠ some gb := fun gb h1 h2 e => by
    simp [Value.ownBlock] at e
    subst e
    rcases hat with e | e
    · exact h2 e
    · omega
  refine ⟨by rw [hle]; exact hown, fun k hk => by simp [Value.ownBlock] at hk; exact .inr (.inl hk.symm), fun k hk => ?_, by rw [hle]; exact hlen, fun i x hx => ?_⟩
  · rcases hk with hk | rfl | hk
    · exact Nat.lt_of_lt_of_le (h.lt k hk) hc3.size
    · exact hgl
    · exact Nat.lt_of_lt_of_le (hvl k hk) hc3.size
  · rw [List.getElem?_append] at hx
    by_cases e : i < vs.length
    · rw [if_pos e] at hx
      obtain ⟨ao, n, c, h1, h2, h3⟩ := h.item i x hx
      refine ⟨ao, n, c, h1, h2, fun j hj => ?_⟩
      obtain ⟨gb, a1, a2, a4, a3⟩ := h3 j hj
      exact ⟨gb, a1, .inl a2, gne gb (h.lt gb a2) a4, fun r hr => by rw [hc3.cell (by exact h.lt gb a2) a4]; exact a3 r hr⟩
    · rw [if_neg e] at hx
      by_cases e2 : i = vs.length
      · subst e2
        simp at hx
        subst hx
        refine ⟨ao, n, c2, hv, hn, fun j hj => ?_⟩
        obtain ⟨gb, a1, a2, a4, a3⟩ := hm j hj
        exact ⟨gb, a1, .inr (.inr (by rw [hv, a1]; rfl)), gne gb a2 a4, fun r hr => by rw [hc3.cell (by exact a2) a4]; exact a3 r hr⟩
      · have : 1 ≤ i - vs.length := by omega
        rw [List.getElem?_eq_none (by simpa using this)] at hx
        cases hx
theorem OutC.form {TS : TypeId} {sz : Nat} {w : World} {ov : Value} {vs : List Value} {F : Nat → Prop} (h : OutC TS sz w ov vs F) : ∃ ao cap, ov = .slice ao vs.length cap ∧ ∀ (i : Nat) v, vs[i]? = some v → ∃ g, ao = some ⟨g, 0, none⟩ ∧ g < w.heap.size ∧ w.cell? ⟨g, i, none⟩ = some v := by
  rcases h.own.2 with ⟨hv, h0⟩ | ⟨g, cap, cur, hv, hg, hh, r⟩
  · exact ⟨none, 0, by rw [hv, h0], fun i v hi => by have := (List.getElem?_eq_some_iff.1 hi).1; omega⟩
  · refine ⟨some ⟨g, 0, none⟩, cap, hv, fun i v hi => ⟨g, rfl, (Array.getElem?_eq_some_iff.1 hh).1, ?_⟩⟩
    have := h.own.cells (g := g) (by rw [hv]; rfl) i v hi
    rwa [Addr.add_lit, Nat.zero_add] at this

theorem even_emod (i : Nat) (h : i < 50000000000000) : IntKind.i64.wrap ((i : Int) - (i : Int).tmod 2) = ((i - i % 2 : Nat) : Int) := by
  rw [Int.tmod_eq_emod_of_nonneg (by omega), IntKind.wrap_i64]
  omega

set_option maxRecDepth 100000 in
set_option maxHeartbeats 8000000 in
theorem looks_any (B : Nat) (v0 v1 v2 nv bv : Value) (ns bs : List Value) (FN FB : Nat → Prop) (w : World) (hbox : BoxAt w B v0 v1 v2 nv bv) (hN : OutC 59 2 w nv ns FN) (hB : OutC 63 3 w bv bs FB) :
    Calls Tryz.prog 7 #[.pointer (some ⟨B, 0, none⟩)] w fun e w' => e = .returned (.bool true) ∧ Chg (fun _ => False) w w' := by
  have hBl := hbox.lt
  have HBOX := hide hbox
  have HN := hide hN
  have HB := hide hB
  have HLN := hide hN.len
  have HLB := hide hB.len
  obtain ⟨na, nc, hnv, hnel⟩ := hN.form
  obtain ⟨ba, bc, hbv, hbel⟩ := hB.form
  obtain ⟨nn, hnn⟩ : ∃ nn, nn = ns.length := ⟨_, rfl⟩
  obtain ⟨nb, hnb⟩ : ∃ nb, nb = bs.length := ⟨_, rfl⟩
  have hnl : nn < 5000000000000 := by rw [hnn]; exact hN.len
  have hbl : nb < 5000000000000 := by rw [hnb]; exact hB.len
  rw [← hnn] at hnv
  rw [← hnb] at hbv
  have HNEL := hide hnel
  have HBEL := hide hbel
  have HNN := hide hnn
  have HNB := hide hnb
  have C3 : Hid (w.cell? ⟨B, 3, none⟩ = some (.slice na nn nc)) := by have := hbox.cell 3; rw [hnv] at this; exact this
  have C4 : Hid (w.cell? ⟨B, 4, none⟩ = some (.slice ba nb bc)) := by have := hbox.cell 4; rw [hbv] at this; exact this
  clear hbox hN hB hnel hbel hnn hnb hnv hbv HBOX
  go_enter Tryz.func7, Tryz.ntmps7
  go_wp2
  go_loopw [3] (fun x wr => ∃ i : Nat, i ≤ nn ∧ x = .int .i64 i ∧ Chg (fun _ => False) w wr) (fun x _ => nn - (intOf x).toNat)
  case atStart => exact ⟨0, by omega, rfl, Chg.refl _ _⟩
  case round =>
    obtain ⟨i, hi, rfl, hch⟩ := hrel
    have HCH := hide hch
    have c3 : wr.cell? ⟨B, 3, none⟩ = some (.slice na nn nc) := by rw [hch.cell (by exact hBl) (fun h => h)]; exact C3.out
    clear hch
    by_cases hlt : i < nn
    · obtain ⟨v, hv⟩ : ∃ v, ns[i]? = some v := ⟨_, List.getElem?_eq_getElem (by rw [← HNN.out]; exact hlt)⟩
      obtain ⟨g, hna, hgl, hgc⟩ := HNEL.out i v hv
      subst hna
      obtain ⟨ao, n, cap, rfl, hn, hit⟩ := HN.out.item i v hv
      have HIT := hide hit
      have HGC := hide hgc
      clear hit hv hgc
      go_wp2
      clear c3
      go_loopw [4] (fun x wr => ∃ j : Nat, j ≤ n ∧ x = .int .i64 j ∧ Chg (fun _ => False) w wr) (fun x _ => n - (intOf x).toNat)
      case atStart => exact ⟨0, by omega, rfl, HCH.out⟩
      case round =>
        clear HCH
        obtain ⟨j, hj, rfl, hch⟩ := hrel
        have HCH := hide hch
        have c3 : wr.cell? ⟨B, 3, none⟩ = some (.slice (some ⟨g, 0, none⟩) nn nc) := by rw [hch.cell (by exact hBl) (fun h => h)]; exact C3.out
        have cv : wr.cell? ⟨g, i, none⟩ = some (.slice ao n cap) := by rw [hch.cell (by exact hgl) (fun h => h)]; exact HGC.out
        have i0 : (0 : Int) ≤ (i : Int) := by omega
        have i1 : (i : Int) < (nn : Int) := by omega
        by_cases hjl : j < n
        · obtain ⟨g2, hao, hF, _, hc⟩ := HIT.out j hjl
          subst hao
          have hg2 : g2 < w.heap.size := HN.out.lt g2 hF
          have m0 : wr.cell? ⟨g2, j * 2, none⟩ = some (.int .i64 (markZ (i - i % 2))) := by rw [hch.cell (by exact hg2) (fun h => h)]; exact hc 0 (by omega)
          have m1 : wr.cell? ⟨g2, j * 2 + 1, none⟩ = some (.int .i64 (markZ (i - i % 2))) := by rw [hch.cell (by exact hg2) (fun h => h)]; exact hc 1 (by omega)
          have j0 : (0 : Int) ≤ (j : Int) := by omega
          have j1 : (j : Int) < (n : Int) := by omega
          have hs := hch.size
          have hBr : B < wr.heap.size := by omega
          have hgr : g < wr.heap.size := by omega
          have hg2r : g2 < wr.heap.size := by omega
          have HMK := hide (show ∀ w' : World, Calls Tryz.prog 18 #[.int .i64 (IntKind.i64.wrap ((i : Int) - (i : Int).tmod 2))] w' fun e w'' => e = .returned (.agg #[.int .i64 (markZ (i - i % 2)), .int .i64 (markZ (i - i % 2))]) ∧ Chg (fun _ => False) w' w'' from fun w' => by
            rw [even_emod i (by omega)]; exact markName_any (i - i % 2) w' (by omega))
          clear hch hc hF HIT HGC HNEL
          generalize markZ (i - i % 2) = mz at *
          go_wp2
          go_region_held3 (fun w' => w'.cell? ⟨B, 3, none⟩ = some (.slice (some ⟨g, 0, none⟩) nn nc) ∧ w'.cell? ⟨g, i, none⟩ = some (.slice (some ⟨g2, 0, none⟩) n cap) ∧ w'.cell? ⟨g2, j * 2, none⟩ = some (.int .i64 mz) ∧ w'.cell? ⟨g2, j * 2 + 1, none⟩ = some (.int .i64 mz)) (go_keep)
            (first | (go_at_call 18; refine (HMK.out wr.drew).mono ?_; rintro e w2 ⟨rfl, hq⟩; have x0 := hq.cell (p := ⟨B, 3, none⟩) hBr (fun h => h); have x1 := hq.cell (p := ⟨g, i, none⟩) hgr (fun h => h); have x2 := hq.cell (p := ⟨g2, j * 2, none⟩) hg2r (fun h => h); have x3 := hq.cell (p := ⟨g2, j * 2 + 1, none⟩) hg2r (fun h => h); have HQ := hide hq; clear hq))
          all_goals
            clear x0 x1 x2 x3 c3 cv m0 m1 HMK
            have HC2 := hide (HCH.out.trans (show Chg (fun _ => False) wr w2 from ⟨HQ.out.os, HQ.out.tape, HQ.out.output, HQ.out.size, HQ.out.block⟩) (fun _ _ h => h))
            clear HQ
            go_wp2
            go_roundw
            case rel => exact ⟨j + 1, by omega, by go_num, HC2.out⟩
            case measure => simp [intOf]; omega
        · go_wp2
          go_roundw
          case rel => exact ⟨i + 1, by omega, by go_num, HCH.out⟩
          case measure => simp [intOf]; omega
    · clear HN HNEL
      go_wp2
      clear c3
      go_loopw [5] (fun x wr => ∃ i : Nat, i ≤ nb ∧ x = .int .i64 i ∧ Chg (fun _ => False) w wr) (fun x _ => nb - (intOf x).toNat)
      case atStart => exact ⟨0, by omega, rfl, HCH.out⟩
      case round =>
        clear HCH hlt hi
        obtain ⟨i, hi, rfl, hch⟩ := hrel
        have HCH := hide hch
        have c4 : wr.cell? ⟨B, 4, none⟩ = some (.slice ba nb bc) := by rw [hch.cell (by exact hBl) (fun h => h)]; exact C4.out
        clear hch
        by_cases hlt : i < nb
        · obtain ⟨v, hv⟩ : ∃ v, bs[i]? = some v := ⟨_, List.getElem?_eq_getElem (by rw [← HNB.out]; exact hlt)⟩
          obtain ⟨g, hba, hgl, hgc⟩ := HBEL.out i v hv
          subst hba
          obtain ⟨ao, n, cap, rfl, hn, hit⟩ := HB.out.item i v hv
          have HIT := hide hit
          have HGC := hide hgc
          clear hit hv hgc
          go_wp2
          clear c4
          go_loopw [6] (fun x wr => ∃ j : Nat, j ≤ n ∧ x = .int .i64 j ∧ Chg (fun _ => False) w wr) (fun x _ => n - (intOf x).toNat)
          case atStart => exact ⟨0, by omega, rfl, HCH.out⟩
          case round =>
            clear HCH
            obtain ⟨j, hj, rfl, hch⟩ := hrel
            have HCH := hide hch
            have c4 : wr.cell? ⟨B, 4, none⟩ = some (.slice (some ⟨g, 0, none⟩) nb bc) := by rw [hch.cell (by exact hBl) (fun h => h)]; exact C4.out
            have cv : wr.cell? ⟨g, i, none⟩ = some (.slice ao n cap) := by rw [hch.cell (by exact hgl) (fun h => h)]; exact HGC.out
            have i0 : (0 : Int) ≤ (i : Int) := by omega
            have i1 : (i : Int) < (nb : Int) := by omega
            by_cases hjl : j < n
            · obtain ⟨g2, hao, hF, _, hc⟩ := HIT.out j hjl
              subst hao
              have hg2 : g2 < w.heap.size := HB.out.lt g2 hF
              have m0 : wr.cell? ⟨g2, j * 3, none⟩ = some (.int .i64 (markZ (i - i % 2))) := by rw [hch.cell (by exact hg2) (fun h => h)]; exact hc 0 (by omega)
              have m1 : wr.cell? ⟨g2, j * 3 + 1, none⟩ = some (.int .i64 (markZ (i - i % 2))) := by rw [hch.cell (by exact hg2) (fun h => h)]; exact hc 1 (by omega)
              have m2 : wr.cell? ⟨g2, j * 3 + 2, none⟩ = some (.int .i64 (markZ (i - i % 2))) := by rw [hch.cell (by exact hg2) (fun h => h)]; exact hc 2 (by omega)
              have j0 : (0 : Int) ≤ (j : Int) := by omega
              have j1 : (j : Int) < (n : Int) := by omega
              have hs := hch.size
              have hBr : B < wr.heap.size := by omega
              have hgr : g < wr.heap.size := by omega
              have hg2r : g2 < wr.heap.size := by omega
              have HMK := hide (show ∀ w' : World, Calls Tryz.prog 19 #[.int .i64 (IntKind.i64.wrap ((i : Int) - (i : Int).tmod 2))] w' fun e w'' => e = .returned (.agg #[.int .i64 (markZ (i - i % 2)), .int .i64 (markZ (i - i % 2)), .int .i64 (markZ (i - i % 2))]) ∧ Chg (fun _ => False) w' w'' from fun w' => by
                rw [even_emod i (by omega)]; exact markInvoice_any (i - i % 2) w' (by omega))
              clear hch hc hF HIT HGC HBEL
              generalize markZ (i - i % 2) = mz at *
              go_wp2
              go_region_held3 (fun w' => w'.cell? ⟨B, 4, none⟩ = some (.slice (some ⟨g, 0, none⟩) nb bc) ∧ w'.cell? ⟨g, i, none⟩ = some (.slice (some ⟨g2, 0, none⟩) n cap) ∧ w'.cell? ⟨g2, j * 3, none⟩ = some (.int .i64 mz) ∧ w'.cell? ⟨g2, j * 3 + 1, none⟩ = some (.int .i64 mz) ∧ w'.cell? ⟨g2, j * 3 + 2, none⟩ = some (.int .i64 mz)) (go_keep)
                (first | (go_at_call 19; refine (HMK.out wr.drew).mono ?_; rintro e w2 ⟨rfl, hq⟩; have x0 := hq.cell (p := ⟨B, 4, none⟩) hBr (fun h => h); have x1 := hq.cell (p := ⟨g, i, none⟩) hgr (fun h => h); have x2 := hq.cell (p := ⟨g2, j * 3, none⟩) hg2r (fun h => h); have x3 := hq.cell (p := ⟨g2, j * 3 + 1, none⟩) hg2r (fun h => h); have x4 := hq.cell (p := ⟨g2, j * 3 + 2, none⟩) hg2r (fun h => h); have HQ := hide hq; clear hq))
              all_goals
                clear x0 x1 x2 x3 x4 c4 cv m0 m1 m2 HMK
                have HC2 := hide (HCH.out.trans (show Chg (fun _ => False) wr w2 from ⟨HQ.out.os, HQ.out.tape, HQ.out.output, HQ.out.size, HQ.out.block⟩) (fun _ _ h => h))
                clear HQ
                go_wp2
                go_roundw
                case rel => exact ⟨j + 1, by omega, by go_num, HC2.out⟩
                case measure => simp [intOf]; omega
            · go_wp2
              go_roundw
              case rel => exact ⟨i + 1, by omega, by go_num, HCH.out⟩
              case measure => simp [intOf]; omega
        · go_wp2
          go_ret
          exact ⟨rfl, HCH.out⟩
end Go.Proofs.YtminceigjejipabGreat
