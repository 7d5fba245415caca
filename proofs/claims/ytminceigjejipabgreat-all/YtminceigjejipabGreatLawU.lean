import Derived.Test.YtminceigjejipabGreatG17
import Derived.Deep.Cut
/-
  'ticked': both markets' Tick, held against one another; the caller writes its marks into what came out.
-/
namespace Go.Proofs.YtminceigjejipabGreat
open Go.RowKit

theorem infoNames : (Tryz.prog.info? 59).map (fun i => (i.zero, i.size, i.bytes)) = some (some (.slice none 0 0), 1, 24) := by kernel_rfl

/-- behind both ticks -/
structure TickMid (YAt : World → Nat → (Nat → Prop) → MkG → Prop) (w : World) (y r : Nat) (F : Nat → Prop) (names : List (Int × Int)) (m' : MkG) (lv kv : Value) (F2 : Nat → Prop) (w2 : World) : Prop where
  pair : PairM YAt w2 y r F2 m'
  chg : Chg F w w2
  foot : ∀ k, F2 k → F k ∨ w.heap.size ≤ k
  l : w2.ownsRow 0 61 2 lv names.length (names.flatMap nameCells)
  k : w2.ownsRow 0 61 2 kv names.length (names.flatMap nameCells)
  lb : ∀ k, lv.ownBlock = some k → w.heap.size ≤ k ∧ ¬ F2 k

theorem tick_mid {YAt : World → Nat → (Nat → Prop) → MkG → Prop} (hY : YardSpec YAt) {w w0 w1 w2 : World} {y r : Nat} {F FY FY' : Nat → Prop} {V : MV} {m m' : MkG} {names : List (Int × Int)} {lv kv : Value} (hc0 : Chg (fun _ => False) w w0)
    (hmr : MktAt w r V m) (hF : ∀ k, F k ↔ FY k ∨ V.foot r k) (hdis : ∀ k, FY k → ¬ V.foot r k) (hy1 : YAt w1 y FY' m') (hc1 : Chg FY w0 w1) (hf1 : ∀ k, FY' k → FY k ∨ w0.heap.size ≤ k) (hok : GoodM m')
    (hl : w1.ownsRow 0 61 2 lv names.length (names.flatMap nameCells)) (hlb : ∀ k, lv.ownBlock = some k → w0.heap.size ≤ k ∧ ¬ FY' k) (hto : TickTo w1 r V names m' kv w2) :
    ∃ F2, TickMid YAt w y r F names m' lv kv F2 w2 := by
  obtain ⟨⟨V', b1, b2, b3⟩, hk, _⟩ := hto
  have hs0 := hc0.size
  have hs1 := hc1.size
  have hFl := hY.lt _ _ _ _ hy1
  have hVl := hmr.foot_lt
  have dis : ∀ k, FY' k → ¬ V.foot r k := fun k hk hf => by
    rcases hf1 k hk with h | h
    · exact hdis k h hf
    · have := hVl k hf; omega
  refine ⟨fun k => FY' k ∨ V'.foot r k, ⟨FY', V', hY.frame _ _ _ _ _ hy1 (fun k hk => b2.block k (hFl k hk) (dis k hk)), b1, hok, fun _ => Iff.rfl, fun k hk hf => ?_⟩, ?_, fun k hk => ?_, ?_, hk, fun k hk => ⟨?_, ?_⟩⟩
  · rcases b3 k hf with h | h
    · exact dis k hk h
    · have := hFl k hk; omega
  · exact ((hc0.mono (O' := F) (fun _ _ h => h.elim)).trans hc1 (fun x _ hx => (hF x).2 (.inl hx))).trans b2 (fun x _ hx => (hF x).2 (.inr hx))
  · rcases hk with hk | hk
    · rcases hf1 k hk with h | h
      · exact .inl ((hF k).2 (.inl h))
      · exact .inr (by omega)
    · rcases b3 k hk with h | h
      · exact .inl ((hF k).2 (.inr h))
      · exact .inr (by omega)
  · exact ownsRow_keep hl (fun k hk => b2.block k (hl.lt k hk).2 (fun hf => by have := hVl k hf; have := (hlb k hk).1; omega))
  · have := (hlb k hk).1
    omega
  · rintro (h | h)
    · exact (hlb k hk).2 h
    · have a1 := (hlb k hk).1
      have a2 := (hl.lt k hk).2
      rcases b3 k h with h | h
      · have := hVl k h; omega
      · omega

/-- what 'ticked' leaves -/
def Ticked (YAt : World → Nat → (Nat → Prop) → MkG → Prop) (w : World) (B y r : Nat) (F FN : Nat → Prop) (v0 v1 v2 v4 : Value) (nn : Nat) (w' : World) : Prop :=
  ∃ m' F' FN' nv' vs', PairM YAt w' y r F' m' ∧ BoxAt w' B v0 v1 v2 nv' v4 ∧ OutC 59 2 w' nv' vs' FN' ∧ vs'.length = nn + 2 ∧ Chg (fun k => k = B ∨ F k ∨ FN k) w w' ∧ (∀ k, F' k → F k ∨ w.heap.size ≤ k) ∧ (∀ k, FN' k → FN k ∨ w.heap.size ≤ k) ∧ (∀ k, F' k → ¬ FN' k)

theorem BoxAt.set3 {w : World} {B : Nat} {v0 v1 v2 v3 v4 : Value} (h : BoxAt w B v0 v1 v2 v3 v4) (u : Value) : BoxAt (w.setCell ⟨B, 3, none⟩ u) B v0 v1 v2 u v4 := by
  unfold BoxAt
  simp only [World.setCell, Array.getElem?_modify]
  rw [show w.heap[B]? = _ from h]
  simp

theorem pair_cells {w : World} {v : Value} {names : List (Int × Int)} (h : w.ownsRow 0 61 2 v names.length (names.flatMap nameCells)) {i : Nat} {x : Int × Int} (hx : names[i]? = some x) : ∃ g cap, v = .slice (some ⟨g, 0, none⟩) names.length cap ∧ g < w.heap.size ∧ w.cell? ⟨g, i * 2, none⟩ = some (.int .i64 x.1) ∧ w.cell? ⟨g, i * 2 + 1, none⟩ = some (.int .i64 x.2) := by
  rcases h.2 with ⟨hv, h0⟩ | ⟨g, cap, cur, hv, hg, hh, r⟩
  · have := (List.getElem?_eq_some_iff.1 hx).1
    omega
  · refine ⟨g, cap, hv, (Array.getElem?_eq_some_iff.1 hh).1, ?_, ?_⟩
    · have := h.cells (g := g) (by rw [hv]; rfl) (i * 2 + 0) (.int .i64 x.1) (by rw [flat_get nameCells 2 (fun _ => rfl) names i x 0 hx (by omega)]; rfl)
      rwa [Addr.add_lit, Nat.zero_add] at this
    · have := h.cells (g := g) (by rw [hv]; rfl) (i * 2 + 1) (.int .i64 x.2) (by rw [flat_get nameCells 2 (fun _ => rfl) names i x 1 hx (by omega)]; rfl)
      rwa [Addr.add_lit, Nat.zero_add] at this

/-- the lists, once the caller has appended its marks -/
theorem tick7 {wr w7 : World} {o : Obj} {la : Option Addr} {lc n gg gc : Nat} {mz : Int} (hl : wr.ownsRow 0 61 2 (.slice la n lc) n (List.replicate (n * 2) (.int .i64 mz)))
    (hgo : w7.ownsRow 0 61 2 (.slice (some ⟨gg, 0, none⟩) (n + 3) gc) (n + 3) (List.replicate (n * 2) (.int .i64 mz) ++ [.int .i64 mz, .int .i64 mz, .int .i64 mz, .int .i64 mz, .int .i64 mz, .int .i64 mz])) (hgr : (wr.alloc o).grownBy w7 (Value.ownBlock (.slice la n lc)))
    (hat : Value.ownBlock (.slice la n lc) = some gg ∨ (gg = wr.heap.size + 1 ∧ ∀ k, k < wr.heap.size + 1 → w7.heap[k]? = (wr.alloc o).heap[k]?)) :
    (∀ j, j < n → ∃ gl, la = some ⟨gl, 0, none⟩ ∧ gl < wr.heap.size ∧ ∀ r, r < 2 → w7.cell? ⟨gl, j * 2 + r, none⟩ = some (.int .i64 mz)) ∧ (∀ j, j < n + 3 → ∀ r, r < 2 → w7.cell? ⟨gg, j * 2 + r, none⟩ = some (.int .i64 mz)) ∧ (Value.ownBlock (.slice la n lc) = some gg ∨ wr.heap.size ≤ gg) ∧ Chg (fun b => Value.ownBlock (.slice la n lc) = some b) wr w7 := by
  have all6 : List.replicate (n * 2) (Value.int .i64 mz) ++ [.int .i64 mz, .int .i64 mz, .int .i64 mz, .int .i64 mz, .int .i64 mz, .int .i64 mz] = List.replicate ((n + 3) * 2) (.int .i64 mz) := by
    rw [show (n + 3) * 2 = n * 2 + 6 by omega, ← List.replicate_append_replicate]
    rfl
  rw [all6] at hgo
  have gcell : ∀ j, j < n + 3 → ∀ r, r < 2 → w7.cell? ⟨gg, j * 2 + r, none⟩ = some (.int .i64 mz) := fun j hj r hr => by
    have := hgo.cells (g := gg) rfl (j * 2 + r) (.int .i64 mz) (by rw [List.getElem?_replicate, if_pos (by omega)])
    rwa [Addr.add_lit, Nat.zero_add] at this
  refine ⟨fun j hj => ?_, gcell, ?_, (((Chg.refl (fun _ => False) wr).alloc o).mono (fun _ _ h => h.elim)).grown hgr (fun k hk => .inl hk)⟩
  · obtain ⟨gl, cap, hv, _, hgl⟩ := hl.form (by omega)
    simp only [Value.slice.injEq] at hv
    obtain ⟨rfl, _, _⟩ := hv
    refine ⟨gl, rfl, hgl, fun r hr => ?_⟩
    have hc := hl.cells (g := gl) rfl (j * 2 + r) (.int .i64 mz) (by rw [List.getElem?_replicate, if_pos (by omega)])
    rw [Addr.add_lit, Nat.zero_add] at hc
    rcases hat with e | ⟨_, e⟩
    · simp [Value.ownBlock] at e
      subst e
      exact gcell j (by omega) r hr
    · rw [World.cell?_of_block (w := wr) (by rw [e gl (by omega)]; exact Below.heap_alloc _ _ _ hgl)]
      exact hc
  · rcases hat with e | ⟨e, _⟩
    · exact .inl e
    · exact .inr (by omega)

/-- a list goes to the caller's own -/
theorem out_step {w wa w8 : World} {B nn na' g cap n c2 H : Nat} {v0 v1 v2 v4 v : Value} {na : Option Addr} {vs : List Value} {FN : Nat → Prop} {ao : Option Addr} (hbox : BoxAt w B v0 v1 v2 (.slice na nn na') v4) (hN : OutC 59 2 w (.slice na nn na') vs FN) (hnn : nn = vs.length) (hBN : ¬ FN B) (hlen : vs.length + 1 < 5000000000000) (hc : Chg (fun _ => False) w wa)
    (hown : w8.ownsRow 0 59 1 (.slice (some ⟨g, 0, none⟩) (nn + 1) cap) (nn + 1) (vs ++ [v])) (hgrow : wa.grownBy w8 (Value.ownBlock (.slice na nn na'))) (hat : Value.ownBlock (.slice na nn na') = some g ∨ g = H) (hH : w.heap.size ≤ H) (hgl : g < w8.heap.size)
    (hv : v = .slice ao n c2) (hn : n ≤ 100000) (hm : ∀ j, j < n → ∃ gb, ao = some ⟨gb, 0, none⟩ ∧ gb < w.heap.size ∧ Value.ownBlock (.slice na nn na') ≠ some gb ∧ ∀ r, r < 2 → w.cell? ⟨gb, j * 2 + r, none⟩ = some (.int .i64 (markZ (vs.length - vs.length % 2)))) (hvl : ∀ k, v.ownBlock = some k → k < w.heap.size ∧ k ≠ B) :
    w8.cell? ⟨B, 3, none⟩ = some (.slice na nn na') ∧ w8.frozen? ⟨B, 3, none⟩ = false ∧ Hid (BoxAt (w8.setCell ⟨B, 3, none⟩ (.slice (some ⟨g, 0, none⟩) (nn + 1) cap)) B v0 v1 v2 (.slice (some ⟨g, 0, none⟩) (nn + 1) cap) v4 ∧
      OutC 59 2 (w8.setCell ⟨B, 3, none⟩ (.slice (some ⟨g, 0, none⟩) (nn + 1) cap)) (.slice (some ⟨g, 0, none⟩) (nn + 1) cap) (vs ++ [v]) (fun k => FN k ∨ k = g ∨ v.ownBlock = some k) ∧
      Chg (fun k => k = B ∨ FN k) w (w8.setCell ⟨B, 3, none⟩ (.slice (some ⟨g, 0, none⟩) (nn + 1) cap)) ∧ (FN g ∨ w.heap.size ≤ g)) := by
  subst hnn
  have hBl := hbox.lt
  have nB : Value.ownBlock (.slice na vs.length na') ≠ some B := fun e => hBN (hN.ownF B e)
  have hc8 : Chg (fun k => FN k) w w8 := ((hc.mono (fun _ _ h => h.elim)).grown hgrow (fun k hk => .inl (hN.ownF k hk)))
  have hb8 : BoxAt w8 B v0 v1 v2 (.slice na vs.length na') v4 := hbox.chg hc8 hBN
  have hatg : FN g ∨ w.heap.size ≤ g := by
    rcases hat with e | e
    · exact .inl (hN.ownF g e)
    · exact .inr (by omega)
  have gB : g ≠ B := by
    rintro rfl
    rcases hatg with e | e
    · exact hBN e
    · omega
  have hO := hN.snoc hc hlen hown hgrow (by rcases hat with e | e; exact .inl e; exact .inr (by omega)) hgl hv hn (fun j hj => by
    obtain ⟨gb, a1, a2, a3, a4⟩ := hm j hj
    exact ⟨gb, a1, a2, a3, a4⟩) (fun k hk => (hvl k hk).1)
  have e3 := hb8.cell 3
  refine ⟨e3, hb8.free 3, hb8.set3 _, hO.frame (fun k hk => Below.heap_setCell _ _ _ _ ?_), (hc8.mono (fun _ _ h => .inr h)).setCell (.inl (.inl rfl)) _, hatg⟩
  rcases hk with hk | rfl | hk
  · exact fun e => hBN (by have e' : k = B := e; rw [e'] at hk; exact hk)
  · exact gB
  · exact (hvl k hk).2

set_option maxRecDepth 100000 in
set_option maxHeartbeats 8000000 in
theorem ticked_any {YAt : World → Nat → (Nat → Prop) → MkG → Prop} (hY : YardSpec YAt) (hT : TickY YAt) (B y r : Nat) (F FN : Nat → Prop) (m : MkG) (v0 v1 v2 nv v4 : Value) (vs : List Value) (w : World) (hp : PairM YAt w y r F m)
    (hbox : BoxAt w B v0 v1 v2 nv v4) (hN : OutC 59 2 w nv vs FN) (hev : vs.length % 2 = 0) (hlen : vs.length + 2 < 5000000000000) (hFN : ∀ k, F k → ¬ FN k) (hBF : ¬ F B) (hBN : ¬ FN B) :
    Calls Tryz.prog 16 #[.pointer (some ⟨B, 0, none⟩), .agg #[.pointer (some ⟨y, 0, none⟩), .pointer (some ⟨r, 0, none⟩)]] w fun e w' => e = .returned (.bool true) ∧ Ticked YAt w B y r F FN v0 v1 v2 v4 vs.length w' := by
  have HY := hide hY
  have HT := hide hT
  have HP := hide hp
  have HBOX := hide hbox
  have HN := hide hN
  have HEV := hide hev
  have HFN := hide hFN
  have HBF := hide (And.intro hBF hBN)
  have HPL := hide (fun k hk => PairM.lt hY hp k hk)
  have hBl := hbox.lt
  obtain ⟨FY, V, hy, hmr, hok, hF, hdis⟩ := hp
  have HYA := hide hy
  have HMR := hide hmr
  have HOK := hide hok.ok
  have HG := hide hok.ghost
  have HGD := hide hok
  have HF := hide hF
  have HDIS := hide hdis
  clear hY hT hbox hN hev hFN hBF hBN hy hmr hok hF hdis
  go_enter Tryz.func16, Tryz.ntmps16
  go_wp2_with fail
  obtain ⟨w0, hw0⟩ : ∃ w0, w0 = w.alloc (.cells #[.pointer (some ⟨y, 0, none⟩), .pointer (some ⟨r, 0, none⟩)] 56) := ⟨_, rfl⟩
  rw [← hw0]
  have hbq : w0.heap[w.heap.size]? = some (.cells #[.pointer (some ⟨y, 0, none⟩), .pointer (some ⟨r, 0, none⟩)] 56 (0, 0)) := by rw [hw0]; exact heap_alloc_new w _
  have hc0 : Chg (fun _ => False) w w0 := by rw [hw0]; exact (Chg.refl _ _).alloc _
  have hs0 : w0.heap.size = w.heap.size + 1 := by rw [hw0]; simp
  clear hw0
  have hYl := HY.out.lt _ _ _ _ HYA.out
  refine (HT.out w0 y FY m (HY.out.frame _ _ _ _ _ HYA.out (fun k hk => hc0.block k (hYl k hk) (fun h => h))) HOK.out HG.out).mono ?_
  rintro e w1 ⟨lv, names, z, m', FY', rfl, hTR, hy1, hc1, hf1, hlo, hlb, hnil⟩
  have hbq1 : w1.heap[w.heap.size]? = some (.cells #[.pointer (some ⟨y, 0, none⟩), .pointer (some ⟨r, 0, none⟩)] 56 (0, 0)) := (hc1.block _ (by omega) (fun h => by have := hYl _ h; omega)).trans hbq
  have q1 : w1.cell? ⟨w.heap.size, 1, none⟩ = some (.pointer (some ⟨r, 0, none⟩)) := by unfold World.cell?; rw [hbq1]; rfl
  have HM1 := hide ((HMR.out.chg0 hc0).chg hc1 (fun k hk hf => HDIS.out k hf hk))
  have HOK' := hide (HGD.out.tick hTR)
  have HTR := hide hTR
  have HNL := hide (hTR.names_len HOK.out)
  have HMID := hide (fun kv w2 (hto : TickTo w1 r V names m' kv w2) => tick_mid (lv := lv) HY.out hc0 HMR.out HF.out HDIS.out hy1 hc1 hf1 HOK'.out hlo hlb hto)
  have HNIL := hide hnil
  clear hbq hc0 hTR hy1 hc1 hf1 hlo hlb hnil hbq1 hs0 hYl
  go_wp2_with fail
  refine (refTick_any r V m _ HM1.out HOK.out HG.out).mono ?_
  rintro e w2 ⟨kv, names2, z2, m2, rfl, hTR2, hto⟩
  obtain ⟨rfl, rfl, rfl⟩ := HTR.out.unique hTR2
  obtain ⟨F2, hmid⟩ := HMID.out kv w2 hto
  have HM := hide hmid
  clear hTR2 hto hmid HMID HM1 q1 HMR HYA HF HDIS
  obtain ⟨la, lc, rfl⟩ := ownsRow_form HM.out.l
  obtain ⟨ka, kc, rfl⟩ := ownsRow_form HM.out.k
  obtain ⟨nl, hnl⟩ : ∃ nl, nl = names.length := ⟨_, rfl⟩
  rw [← hnl] at HM HNL HNIL ⊢
  have HNLE := hide hnl
  have hnl3 := HNL.out
  clear hnl
  obtain ⟨bn, hbn⟩ : ∃ bn, bn = la.isNone := ⟨_, rfl⟩
  have hbz : bn = true ∨ z = 0 := by
    by_cases h : z = 0
    · exact .inr h
    · have := HNIL.out h
      simp at this
      left
      rw [hbn, this.1]
      rfl
  have qT : ∀ w' : World, (binOp .eql 59 (.slice la nl lc) (.slice none 0 0)).run Tryz.prog w' = .ok (.bool bn) w' := fun w' => by rw [hbn]; exact Lib.run_eql_slice_nil w' _ _ la nl lc 0 0 Tryz.underlying59
  clear HNIL
  have loop1 : ∀ (x : Nat), x < nl → ∃ gl gk a b, la = some ⟨gl, 0, none⟩ ∧ ka = some ⟨gk, 0, none⟩ ∧ gl < w2.heap.size ∧ gk < w2.heap.size ∧ w2.cell? ⟨gl, x * 2, none⟩ = some (.int .i64 a) ∧ w2.cell? ⟨gl, x * 2 + 1, none⟩ = some (.int .i64 b) ∧ w2.cell? ⟨gk, x * 2, none⟩ = some (.int .i64 a) ∧ w2.cell? ⟨gk, x * 2 + 1, none⟩ = some (.int .i64 b) := by
    intro x hx
    obtain ⟨p, hp⟩ : ∃ p, names[x]? = some p := ⟨_, List.getElem?_eq_getElem (by rw [← HNLE.out]; exact hx)⟩
    have h1 := HM.out.l
    have h2 := HM.out.k
    rw [HNLE.out] at h1 h2
    obtain ⟨gl, c1, e1, l1, x1, x2⟩ := pair_cells h1 hp
    obtain ⟨gk, c2, e2, l2, y1, y2⟩ := pair_cells h2 hp
    simp at e1 e2
    exact ⟨gl, gk, p.1, p.2, e1.1, e2.1, l1, l2, x1, x2, y1, y2⟩
  have HL1 := hide loop1
  clear loop1
  have HBN := hide hbn
  clear hbn
  obtain ⟨na, nc, hnv, hnel⟩ := HN.out.form
  obtain ⟨nn, hnn⟩ : ∃ nn, nn = vs.length := ⟨_, rfl⟩
  rw [← hnn] at hnv hlen
  have HNV := hide hnv
  have HNN := hide hnn
  have C3 : Hid (w2.cell? ⟨B, 3, none⟩ = some (.slice na nn nc)) := by
    have := (HBOX.out.chg HM.out.chg HBF.out.1).cell 3
    rw [hnv] at this
    exact this
  have hB2 : B < w2.heap.size := Nat.lt_of_lt_of_le hBl HM.out.chg.size
  clear hnv hnel hnn
  rcases hbz with rfl | rfl
  rotate_left
  cases bn
  all_goals
    go_wp2
    clear qT
    go_loopw [9, 10] (fun s x wr => ∃ k : Nat, k ≤ nl ∧ s = .bool true ∧ x = .int .i64 k ∧ Chg (fun _ => False) w2 wr) (fun _ x _ => nl - (intOf x).toNat)
    case atStart => exact ⟨0, by omega, rfl, rfl, Chg.refl _ _⟩
    case round =>
      obtain ⟨k, hk, rfl, rfl, hch⟩ := hrel
      have HCH := hide hch
      by_cases hlt : k < nl
      · obtain ⟨gl, gk, a, b, hla, hka, l1, l2, x1, x2, y1, y2⟩ := HL1.out k hlt
        subst hla hka
        have c1 : wr.cell? ⟨gl, k * 2, none⟩ = some (.int .i64 a) := by rw [hch.cell (by exact l1) (fun h => h)]; exact x1
        have c2 : wr.cell? ⟨gl, k * 2 + 1, none⟩ = some (.int .i64 b) := by rw [hch.cell (by exact l1) (fun h => h)]; exact x2
        have c3 : wr.cell? ⟨gk, k * 2, none⟩ = some (.int .i64 a) := by rw [hch.cell (by exact l2) (fun h => h)]; exact y1
        have c4 : wr.cell? ⟨gk, k * 2 + 1, none⟩ = some (.int .i64 b) := by rw [hch.cell (by exact l2) (fun h => h)]; exact y2
        have k0 : (0 : Int) ≤ (k : Int) := by omega
        have k1 : (k : Int) < (nl : Int) := by omega
        clear x1 x2 y1 y2 hch HL1
        go_wp2
        go_quiet (fail)
        go_wp2
        go_roundw
        case rel => exact ⟨k + 1, by omega, by simp, by go_num, HCH.out.drewN _⟩
        case measure => simp [intOf]; omega
      · have c3 : wr.cell? ⟨B, 3, none⟩ = some (.slice na nn nc) := by rw [hch.cell (by exact hB2) (fun h => h)]; exact C3.out
        clear hch HL1
        go_wp2_with fail
        refine (markName_any nn _ (by omega)).mono ?_
        rintro e w4 ⟨rfl, hq4⟩
        have HC4 := hide (HCH.out.trans hq4 (fun _ _ h => h))
        clear hq4 c3 HCH
        obtain ⟨mz, hmz⟩ : ∃ mz, mz = markZ nn := ⟨_, rfl⟩
        rw [← hmz]
        have HMZ := hide hmz
        clear hmz
        go_wp2
        obtain ⟨w5, hw5⟩ : ∃ w5, w5 = w4.alloc (.cells #[.int .i64 mz, .int .i64 mz] 61) := ⟨_, rfl⟩
        rw [← hw5]
        have hc5 : Chg (fun _ => False) w2 w5 := by rw [hw5]; exact HC4.out.alloc _
        have hb5 : w5.heap[w4.heap.size]? = some (.cells #[.int .i64 mz, .int .i64 mz] 61 (0, 0)) := by rw [hw5]; exact heap_alloc_new w4 _
        have hs24 := HC4.out.size
        have hs5 : w4.heap.size < w5.heap.size := by rw [hw5]; simp
        have HL2 := hide (show w2.ownsRow 0 61 2 (.slice la nl lc) nl (names.flatMap nameCells) by have := HM.out.l; rw [← HNLE.out] at this; exact this)
        have HL5 := hide (ownsRow_keep HL2.out (fun k hk => hc5.block k (HL2.out.lt k hk).2 (fun h => h)))
        have HLB := hide (fun k hk => (HL2.out.lt k hk).2)
        have HC5 := hide hc5
        have HB5 := hide hb5
        clear hw5 hc5 hb5 HC4
        go_loopw [12] (fun x wr => ∃ k : Nat, k ≤ nl ∧ x = .int .i64 k ∧ wr.ownsRow 0 61 2 (.slice la nl lc) nl (markTo (names.flatMap nameCells) (k * 2) (.int .i64 mz)) ∧ Chg (fun b => Value.ownBlock (.slice la nl lc) = some b) w5 wr) (fun x _ => nl - (intOf x).toNat)
        case atStart => exact ⟨0, by omega, rfl, by rw [Nat.zero_mul, markTo_zero]; exact HL5.out, Chg.refl _ _⟩
        case round =>
          clear HL5
          obtain ⟨k2, hk2, rfl, hown, hch⟩ := hrel
          have HOWN := hide hown
          have HCH := hide hch
          by_cases hlt2 : k2 < nl
          · obtain ⟨gl, cap0, hv0, _, hgl⟩ := hown.form (by omega)
            simp only [Value.slice.injEq] at hv0
            obtain ⟨hla, _, _⟩ := hv0
            subst hla
            obtain ⟨x, hx⟩ : ∃ x, names[k2]? = some x := ⟨_, List.getElem?_eq_getElem (by rw [← HNLE.out]; exact hlt2)⟩
            have g0 : (markTo (names.flatMap nameCells) (k2 * 2) (.int .i64 mz))[k2 * 2]? = some (.int .i64 x.1) := by
              have := flat_get nameCells 2 (fun _ => rfl) names k2 x 0 hx (by omega)
              simp only [Nat.add_zero] at this
              simp only [markTo, List.getElem?_mapIdx, this]
              show some (if k2 * 2 < k2 * 2 then _ else _) = _
              rw [if_neg (by omega)]
            have g1 : (markTo (names.flatMap nameCells) (k2 * 2) (.int .i64 mz))[k2 * 2 + 1]? = some (.int .i64 x.2) := by
              have := flat_get nameCells 2 (fun _ => rfl) names k2 x 1 hx (by omega)
              simp only [markTo, List.getElem?_mapIdx, this]
              show some (if k2 * 2 + 1 < k2 * 2 then _ else _) = _
              rw [if_neg (by omega)]
            have c1 : wr.cell? ⟨gl, k2 * 2, none⟩ = some (.int .i64 x.1) := by have := hown.cells (g := gl) rfl _ _ g0; rwa [Addr.add_lit, Nat.zero_add] at this
            have c2 : wr.cell? ⟨gl, k2 * 2 + 1, none⟩ = some (.int .i64 x.2) := by have := hown.cells (g := gl) rfl _ _ g1; rwa [Addr.add_lit, Nat.zero_add] at this
            obtain ⟨cu, hcu⟩ := ownsRow_block hown (k := gl) rfl
            have fz : ∀ q, wr.frozen? ⟨gl, q, none⟩ = false := fun q => by unfold World.frozen?; rw [hcu]; simp
            have hgl2 := HLB.out gl rfl
            have nmb : w4.heap.size ≠ gl := by omega
            have hbr : wr.heap[w4.heap.size]? = some (.cells #[.int .i64 mz, .int .i64 mz] 61 (0, 0)) := (hch.block _ hs5 (fun h => by simp [Value.ownBlock] at h; omega)).trans HB5.out
            have m0 : wr.cell? ⟨w4.heap.size, 0, none⟩ = some (.int .i64 mz) := by unfold World.cell?; rw [hbr]; rfl
            have m1 : wr.cell? ⟨w4.heap.size, 1, none⟩ = some (.int .i64 mz) := by unfold World.cell?; rw [hbr]; rfl
            have k0 : (0 : Int) ≤ (k2 : Int) := by omega
            have k1 : (k2 : Int) < (nl : Int) := by omega
            have HN1 := hide (show ((wr.setCell ⟨gl, k2 * 2, none⟩ (.int .i64 mz)).setCell ⟨gl, k2 * 2 + 1, none⟩ (.int .i64 mz)).ownsRow 0 61 2 (.slice (some ⟨gl, 0, none⟩) nl lc) nl (markTo (names.flatMap nameCells) ((k2 + 1) * 2) (.int .i64 mz)) by
              rw [show (k2 + 1) * 2 = k2 * 2 + 1 + 1 by omega, markTo_succ, markTo_succ]
              exact ownsRow_set2 (ownsRow_set2 HOWN.out (by omega) rfl _) (by omega) rfl _)
            clear hown hch hcu hbr g0 g1 hx
            go_wp2
            go_roundw
            case rel => exact ⟨k2 + 1, by omega, by go_num, HN1.out, (HCH.out.setCell (p := ⟨gl, k2 * 2, none⟩) (.inl rfl) _).setCell (p := ⟨gl, k2 * 2 + 1, none⟩) (.inl rfl) _⟩
            case measure => simp [intOf]; omega
          · clear hown
            have hk2n : k2 = nl := by omega
            subst hk2n
            have HL6 : Hid (wr.ownsRow 0 61 2 (.slice la k2 lc) k2 (List.replicate (k2 * 2) (.int .i64 mz))) := by
              have := HOWN.out
              rw [markTo_all (by rw [HM.out.l.1, ← HNLE.out]; exact Nat.le_refl _), HM.out.l.1, ← HNLE.out] at this
              exact this
            have hbr : wr.heap[w4.heap.size]? = some (.cells #[.int .i64 mz, .int .i64 mz] 61 (0, 0)) := (hch.block _ hs5 (fun h => by have := HLB.out _ h; omega)).trans HB5.out
            have m0 : wr.cell? ⟨w4.heap.size, 0, none⟩ = some (.int .i64 mz) := by unfold World.cell?; rw [hbr]; rfl
            have m1 : wr.cell? ⟨w4.heap.size, 1, none⟩ = some (.int .i64 mz) := by unfold World.cell?; rw [hbr]; rfl
            obtain ⟨i0, hi, hz0, hz1, hz2⟩ := info_parts infoName
            clear hch hbr HOWN
            go_wp2_with (first | (at_builtin; refine wpList_append_keeps _ rfl _ _ 59 rfl 0 61 i0 (.agg #[.int .i64 0, .int .i64 0]) 2 16 Tryz.underlying59 hi hz0 hz1 hz2 rfl (by decide) _ _ _ rfl (HL6.out.alloc _) ⟨wr.heap.size, 0, none⟩ 3 3 [.int .i64 mz, .int .i64 mz, .int .i64 mz, .int .i64 mz, .int .i64 mz, .int .i64 mz] rfl rfl (World.news_of_block (heap_alloc_new wr _)) (by simp [Value.oneCell']) (by decide) (by unfold maxLen; omega) (by omega) (Nat.zero_le _) _ rfl ?_))
            intro gg gc w7 hgo hgr hat hgl7
            obtain ⟨t1, t2, t3, t4⟩ := tick7 HL6.out hgo hgr hat
            have T1 := hide t1
            have T2 := hide t2
            have T3 := hide t3
            have hc67 : Chg (fun b => Value.ownBlock (.slice la k2 lc) = some b) w2 w7 := ((HC5.out.mono (fun _ _ h => h.elim)).trans HCH.out (fun _ _ h => h)).trans t4 (fun _ _ h => h)
            have hlbb : ∀ b, Value.ownBlock (.slice la k2 lc) = some b → w.heap.size ≤ b ∧ ¬ F2 b ∧ b < w2.heap.size := fun b hb => ⟨(HM.out.lb b hb).1, (HM.out.lb b hb).2, HLB.out b hb⟩
            have HCW := hide (show Chg F w w7 from HM.out.chg.trans hc67 (fun x hx e => by have := (hlbb x e).1; omega))
            have HP7 := hide (PairM.frame HY.out HM.out.pair (fun k hk => hc67.block k (PairM.lt HY.out HM.out.pair k hk) (fun e => (hlbb k e).2.1 hk)))
            have HB7 : Hid (BoxAt w7 B v0 v1 v2 (.slice na nn nc) v4) := by rw [← HNV.out]; exact HBOX.out.chg HCW.out HBF.out.1
            have HN7 : Hid (OutC 59 2 w7 (.slice na nn nc) vs FN) := by rw [← HNV.out]; exact HN.out.frame (fun k hk => HCW.out.block k (HN.out.lt k hk) (fun hf => HFN.out k hf hk))
            have HLBB := hide hlbb
            have HS27 := hide (show w2.heap.size ≤ w7.heap.size from hc67.size)
            have hs26 : w2.heap.size ≤ wr.heap.size := Nat.le_trans (by omega) HCH.out.size
            have HS67 := hide (show wr.heap.size ≤ w7.heap.size from t4.size)
            have HGG := hide (show w.heap.size ≤ gg ∧ gg < w7.heap.size ∧ ¬ F2 gg from by
              rcases t3 with e | e
              · exact ⟨(hlbb gg e).1, hgl7, (hlbb gg e).2.1⟩
              · have hsw := HM.out.chg.size
                exact ⟨by omega, hgl7, fun hf => by have := PairM.lt HY.out HM.out.pair gg hf; omega⟩)
            have c3 : w7.cell? ⟨B, 3, none⟩ = some (.slice na nn nc) := HB7.out.cell 3
            have hB7 : B < w7.heap.size := HB7.out.lt
            have HO7 := hide (show w7.ownsRow 0 59 1 (.slice na nn nc) nn vs from by have := HN7.out.own; rw [← HNN.out] at this; exact this)
            obtain ⟨j0, hj, hy0, hy1, hy2⟩ := info_parts infoNames
            clear t1 t2 t3 t4 hgo hgr hat hc67 hlbb m0 m1
            go_wp2_with (first | (at_builtin; refine wpList_append_lies _ rfl _ _ 30 rfl 0 59 j0 (.slice none 0 0) 1 24 Tryz.underlying30 hj hy0 hy1 hy2 rfl (by decide) _ _ _ rfl (HO7.out.alloc _) ⟨w7.heap.size, 0, none⟩ 1 1 [.slice la k2 lc] rfl rfl (World.news_of_block (heap_alloc_new w7 _)) (by simp [Value.oneCell']) (by decide) (by unfold maxLen; omega) (by omega) (Nat.zero_le _) _ rfl ?_))
            intro g8 c8 w8 hown8 hgr8 hat8 hlt8
            have hnle : nn = vs.length := HNN.out
            have hbw : B < w.heap.size := hBl
            have hmk : mz = markZ (vs.length - vs.length % 2) := by rw [HMZ.out, ← HNN.out]; have := HEV.out; rw [← HNN.out] at this; rw [this]; rfl
            obtain ⟨s1, s2, s3⟩ := out_step (v := .slice la k2 lc) (ao := la) (n := k2) (c2 := lc) HB7.out HN7.out hnle HBF.out.2 (by omega) ((Chg.refl _ _).alloc _) hown8 hgr8 hat8 (by omega) hlt8 rfl (by omega) (fun j hj => by
              obtain ⟨gl, e1, e2, e3⟩ := T1.out j hj
              have e4 := HLBB.out gl (by rw [e1]; rfl)
              exact ⟨gl, e1, by have := HS67.out; omega, fun hf => by have := HN.out.lt gl (HN7.out.ownF gl hf); omega, fun r hr => by rw [← hmk]; exact e3 r hr⟩) (fun k hk => by
              have e4 := HLBB.out k hk
              exact ⟨by have := HS27.out; omega, by omega⟩)
            obtain ⟨w9, hw9⟩ : ∃ w9, w9 = w8.setCell ⟨B, 3, none⟩ (.slice (some ⟨g8, 0, none⟩) (nn + 1) c8) := ⟨_, rfl⟩
            rw [← hw9] at s3
            have S3 := hide s3.out
            have HW9 := hide hw9
            have HGT := hide (show w7.heap.size ≤ w8.heap.size from Nat.le_trans (by simp) hgr8.size)
            have HMK := hide hmk
            clear s3 hown8 hgr8 hat8 hlt8 c3 hw9 hnle hmk hbw
            go_upto_region 15 with fail
            rw [← HW9.out]
            clear s1 s2
            have c3 : w9.cell? ⟨B, 3, none⟩ = some (.slice (some ⟨g8, 0, none⟩) (nn + 1) c8) := S3.out.1.cell 3
            have hB9 : B < w9.heap.size := S3.out.1.lt
            have HO9 := hide (show w9.ownsRow 0 59 1 (.slice (some ⟨g8, 0, none⟩) (nn + 1) c8) (nn + 1) (vs ++ [.slice la k2 lc]) from by have := S3.out.2.1.own; rw [List.length_append, ← HNN.out] at this; exact this)
            go_wp2_with (first | (at_builtin; refine wpList_append_lies _ rfl _ _ 30 rfl 0 59 j0 (.slice none 0 0) 1 24 Tryz.underlying30 hj hy0 hy1 hy2 rfl (by decide) _ _ _ rfl (HO9.out.alloc _) ⟨w9.heap.size, 0, none⟩ 1 1 [.slice (some ⟨gg, 0, none⟩) (k2 + 3) gc] rfl rfl (World.news_of_block (heap_alloc_new w9 _)) (by simp [Value.oneCell']) (by decide) (by unfold maxLen; omega) (by omega) (Nat.zero_le _) _ rfl ?_))
            intro g10 c10 w10 hown10 hgr10 hat10 hlt10
            have hs79 : w7.heap.size ≤ w9.heap.size := S3.out.2.2.1.size
            have hgc9 : ∀ q, w9.cell? ⟨gg, q, none⟩ = w7.cell? ⟨gg, q, none⟩ := fun q => S3.out.2.2.1.cell (p := ⟨gg, q, none⟩) HGG.out.2.1 (by
              rintro (e | e)
              · have := HGG.out.1; have := hBl; simp only at e; omega
              · have := HGG.out.1; have := HN.out.lt gg e; omega)
            have hg8 : Value.ownBlock (.slice (some ⟨g8, 0, none⟩) (nn + 1) c8) ≠ some gg := fun e => by
              simp [Value.ownBlock] at e
              rcases S3.out.2.2.2 with e2 | e2
              · have := HGG.out.1; have := HN.out.lt g8 e2; omega
              · have := HGG.out.2.1; omega
            have hmk2 : markZ ((vs ++ [Value.slice la k2 lc]).length - (vs ++ [Value.slice la k2 lc]).length % 2) = mz := by
              rw [List.length_append, List.length_singleton, HMK.out]
              have := HEV.out
              congr 1
              omega
            have hFB9 : ¬ (FN B ∨ B = g8 ∨ Value.ownBlock (.slice la k2 lc) = some B) := by
              rintro (e | e | e)
              · exact HBF.out.2 e
              · rcases S3.out.2.2.2 with e2 | e2
                · exact HBF.out.2 (e ▸ e2)
                · have := hB7; omega
              · have := (HLBB.out B e).1; have := hBl; omega
            have hln : nn + 1 = (vs ++ [Value.slice la k2 lc]).length := by rw [List.length_append, ← HNN.out]; rfl
            obtain ⟨s1, s2, s3⟩ := out_step (v := .slice (some ⟨gg, 0, none⟩) (k2 + 3) gc) (ao := some ⟨gg, 0, none⟩) (n := k2 + 3) (c2 := gc) S3.out.1 S3.out.2.1 hln hFB9 (by rw [← hln]; omega) ((Chg.refl _ _).alloc _) (by rw [List.append_assoc]; exact hown10) hgr10 hat10 (by omega) hlt10 rfl (by omega) (fun j hj =>
              ⟨gg, rfl, by have := HGG.out.2.1; omega, hg8, fun r hr => by rw [hmk2, hgc9]; exact T2.out j hj r hr⟩) (fun k hk => by
              simp [Value.ownBlock] at hk
              subst hk
              exact ⟨by have := HGG.out.2.1; omega, by have := HGG.out.1; omega⟩)
            have S11 := hide s3.out
            have HF2 := hide (show ∀ k, F2 k → ¬ (k = B ∨ (FN k ∨ k = g8 ∨ Value.ownBlock (.slice la k2 lc) = some k)) ∧ k ≠ g10 ∧ k ≠ gg from fun k hk => by
              have hkl := PairM.lt HY.out HM.out.pair k hk
              have hs27 := HS27.out
              refine ⟨?_, ?_, fun e => HGG.out.2.2 (e ▸ hk)⟩
              · rintro (e | e | e | e)
                · subst e
                  rcases HM.out.foot _ hk with h | h
                  · exact HBF.out.1 h
                  · omega
                · rcases HM.out.foot k hk with h | h
                  · exact HFN.out k h e
                  · have := HN.out.lt k e; omega
                · subst e
                  rcases S3.out.2.2.2 with e2 | e2
                  · rcases HM.out.foot _ hk with h | h
                    · exact HFN.out _ h e2
                    · have := HN.out.lt _ e2; omega
                  · omega
                · exact (HLBB.out k e).2.1 hk
              · intro e
                subst e
                rcases hat10 with e2 | e2
                · simp [Value.ownBlock] at e2
                  subst e2
                  rcases S3.out.2.2.2 with e3 | e3
                  · rcases HM.out.foot _ hk with h | h
                    · exact HFN.out _ h e3
                    · have := HN.out.lt _ e3; omega
                  · omega
                · omega)
            clear s3 hown10 hgr10 hat10 hlt10 c3 hgc9 hg8 hmk2 hFB9 hln hs79
            go_wp2
            go_ret
            have hs27 := HS27.out
            have hw7 := HCW.out.size
            have h9 : ∀ k, (FN k ∨ k = g8 ∨ Value.ownBlock (.slice la k2 lc) = some k) → FN k ∨ w.heap.size ≤ k := fun k hk => by
              rcases hk with e | e | e
              · exact .inl e
              · subst e
                rcases S3.out.2.2.2 with e2 | e2
                · exact .inl e2
                · exact .inr (by omega)
              · exact .inr (HLBB.out k e).1
            have hs9 := S3.out.2.2.1.size
            refine ⟨rfl, m', F2, _, _, _, ?_, S11.out.1, S11.out.2.1, ?_, ?_, HM.out.foot, ?_, ?_⟩
            · refine PairM.frame HY.out HP7.out (fun k hk => ?_)
              have hkl := PairM.lt HY.out HM.out.pair k hk
              rw [S11.out.2.2.1.block k (by omega) (HF2.out k hk).1, S3.out.2.2.1.block k (by omega) (fun h => (HF2.out k hk).1 (by rcases h with h | h; exact .inl h; exact .inr (.inl h)))]
            · rw [List.length_append, List.length_append]
              rfl
            · refine ((HCW.out.mono (O' := fun k => k = B ∨ F k ∨ FN k) (fun _ _ h => .inr (.inl h))).trans S3.out.2.2.1 (fun x hx h => ?_)).trans S11.out.2.2.1 (fun x hx h => ?_)
              · rcases h with h | h
                · exact .inl h
                · exact .inr (.inr h)
              · rcases h with h | h
                · exact .inl h
                · rcases h9 x h with h | h
                  · exact .inr (.inr h)
                  · omega
            · intro k hk
              rcases hk with hk | hk | hk
              · exact h9 k hk
              · subst hk
                rcases S11.out.2.2.2 with e | e
                · exact h9 _ e
                · exact .inr (by omega)
              · simp [Value.ownBlock] at hk
                subst hk
                exact .inr HGG.out.1
            · intro k hk hk'
              rcases hk' with e | e | e
              · exact (HF2.out k hk).1 (.inr e)
              · exact (HF2.out k hk).2.1 e
              · simp [Value.ownBlock] at e
                exact (HF2.out k hk).2.2 e.symm
end Go.Proofs.YtminceigjejipabGreat
