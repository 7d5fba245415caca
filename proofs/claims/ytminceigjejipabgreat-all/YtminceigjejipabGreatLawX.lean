import Derived.Test.YtminceigjejipabGreatLawU
import Derived.Test.YtminceigjejipabGreatG12
/-
  'billed': two lists of invoices, held against one another; the caller writes its marks into the first.
-/
namespace Go.Proofs.YtminceigjejipabGreat
open Go.RowKit

theorem infoBills : (Tryz.prog.info? 63).map (fun i => (i.zero, i.size, i.bytes)) = some (some (.slice none 0 0), 1, 24) := by kernel_rfl
theorem BoxAt.set4 {w : World} {B : Nat} {v0 v1 v2 v3 v4 : Value} (h : BoxAt w B v0 v1 v2 v3 v4) (u : Value) : BoxAt (w.setCell ⟨B, 4, none⟩ u) B v0 v1 v2 v3 u := by
  unfold BoxAt
  simp only [World.setCell, Array.getElem?_modify]
  rw [show w.heap[B]? = _ from h]
  simp
/-- the lists, once the caller has appended its marks -/
theorem bill7 {wr w7 : World} {o : Obj} {la : Option Addr} {lc n gg gc : Nat} {mz : Int} (hl : wr.ownsRow 0 65 3 (.slice la n lc) n (List.replicate (n * 3) (.int .i64 mz)))
    (hgo : w7.ownsRow 0 65 3 (.slice (some ⟨gg, 0, none⟩) (n + 3) gc) (n + 3) (List.replicate (n * 3) (.int .i64 mz) ++ [.int .i64 mz, .int .i64 mz, .int .i64 mz, .int .i64 mz, .int .i64 mz, .int .i64 mz, .int .i64 mz, .int .i64 mz, .int .i64 mz])) (hgr : (wr.alloc o).grownBy w7 (Value.ownBlock (.slice la n lc)))
    (hat : Value.ownBlock (.slice la n lc) = some gg ∨ (gg = wr.heap.size + 1 ∧ ∀ k, k < wr.heap.size + 1 → w7.heap[k]? = (wr.alloc o).heap[k]?)) :
    (∀ j, j < n → ∃ gl, la = some ⟨gl, 0, none⟩ ∧ gl < wr.heap.size ∧ ∀ r, r < 3 → w7.cell? ⟨gl, j * 3 + r, none⟩ = some (.int .i64 mz)) ∧ (∀ j, j < n + 3 → ∀ r, r < 3 → w7.cell? ⟨gg, j * 3 + r, none⟩ = some (.int .i64 mz)) ∧ (Value.ownBlock (.slice la n lc) = some gg ∨ wr.heap.size ≤ gg) ∧ Chg (fun b => Value.ownBlock (.slice la n lc) = some b) wr w7 := by
  have all9 : List.replicate (n * 3) (Value.int .i64 mz) ++ [.int .i64 mz, .int .i64 mz, .int .i64 mz, .int .i64 mz, .int .i64 mz, .int .i64 mz, .int .i64 mz, .int .i64 mz, .int .i64 mz] = List.replicate ((n + 3) * 3) (.int .i64 mz) := by
    rw [show (n + 3) * 3 = n * 3 + 9 by omega, ← List.replicate_append_replicate]
    rfl
  rw [all9] at hgo
  have gcell : ∀ j, j < n + 3 → ∀ r, r < 3 → w7.cell? ⟨gg, j * 3 + r, none⟩ = some (.int .i64 mz) := fun j hj r hr => by
    have := hgo.cells (g := gg) rfl (j * 3 + r) (.int .i64 mz) (by rw [List.getElem?_replicate, if_pos (by omega)])
    rwa [Addr.add_lit, Nat.zero_add] at this
  refine ⟨fun j hj => ?_, gcell, ?_, (((Chg.refl (fun _ => False) wr).alloc o).mono (fun _ _ h => h.elim)).grown hgr (fun k hk => .inl hk)⟩
  · obtain ⟨gl, cap, hv, _, hgl⟩ := hl.form (by omega)
    simp only [Value.slice.injEq] at hv
    obtain ⟨rfl, _, _⟩ := hv
    refine ⟨gl, rfl, hgl, fun r hr => ?_⟩
    have hc := hl.cells (g := gl) rfl (j * 3 + r) (.int .i64 mz) (by rw [List.getElem?_replicate, if_pos (by omega)])
    rw [Addr.add_lit, Nat.zero_add] at hc
    rcases hat with e | ⟨_, e⟩
    · simp [Value.ownBlock] at e
      subst e
      exact gcell j (by omega) r hr
    · rw [World.cell?_of_block (w := wr) (by rw [e gl (by omega)]; exact Below.heap_alloc _ _ _ hgl)]
      exact hc
  · rcases hat with e | ⟨e, _⟩
    · exact .inl e
    · exact .inr (by omega)

/-- a list goes to the caller's own -/
theorem out_step4 {w wa w8 : World} {B nn na' g cap n c2 H : Nat} {v0 v1 v2 v3 v : Value} {na : Option Addr} {vs : List Value} {FN : Nat → Prop} {ao : Option Addr} (hbox : BoxAt w B v0 v1 v2 v3 (.slice na nn na')) (hN : OutC 63 3 w (.slice na nn na') vs FN) (hnn : nn = vs.length) (hBN : ¬ FN B) (hlen : vs.length + 1 < 5000000000000) (hc : Chg (fun _ => False) w wa)
    (hown : w8.ownsRow 0 63 1 (.slice (some ⟨g, 0, none⟩) (nn + 1) cap) (nn + 1) (vs ++ [v])) (hgrow : wa.grownBy w8 (Value.ownBlock (.slice na nn na'))) (hat : Value.ownBlock (.slice na nn na') = some g ∨ g = H) (hH : w.heap.size ≤ H) (hgl : g < w8.heap.size)
    (hv : v = .slice ao n c2) (hn : n ≤ 100000) (hm : ∀ j, j < n → ∃ gb, ao = some ⟨gb, 0, none⟩ ∧ gb < w.heap.size ∧ Value.ownBlock (.slice na nn na') ≠ some gb ∧ ∀ r, r < 3 → w.cell? ⟨gb, j * 3 + r, none⟩ = some (.int .i64 (markZ (vs.length - vs.length % 2)))) (hvl : ∀ k, v.ownBlock = some k → k < w.heap.size ∧ k ≠ B) :
    w8.cell? ⟨B, 4, none⟩ = some (.slice na nn na') ∧ w8.frozen? ⟨B, 4, none⟩ = false ∧ Hid (BoxAt (w8.setCell ⟨B, 4, none⟩ (.slice (some ⟨g, 0, none⟩) (nn + 1) cap)) B v0 v1 v2 v3 (.slice (some ⟨g, 0, none⟩) (nn + 1) cap) ∧
      OutC 63 3 (w8.setCell ⟨B, 4, none⟩ (.slice (some ⟨g, 0, none⟩) (nn + 1) cap)) (.slice (some ⟨g, 0, none⟩) (nn + 1) cap) (vs ++ [v]) (fun k => FN k ∨ k = g ∨ v.ownBlock = some k) ∧
      Chg (fun k => k = B ∨ FN k) w (w8.setCell ⟨B, 4, none⟩ (.slice (some ⟨g, 0, none⟩) (nn + 1) cap)) ∧ (FN g ∨ w.heap.size ≤ g)) := by
  subst hnn
  have hBl := hbox.lt
  have nB : Value.ownBlock (.slice na vs.length na') ≠ some B := fun e => hBN (hN.ownF B e)
  have hc8 : Chg (fun k => FN k) w w8 := ((hc.mono (fun _ _ h => h.elim)).grown hgrow (fun k hk => .inl (hN.ownF k hk)))
  have hb8 : BoxAt w8 B v0 v1 v2 v3 (.slice na vs.length na') := hbox.chg hc8 hBN
  have hatg : FN g ∨ w.heap.size ≤ g := by
    rcases hat with e | e
    · exact .inl (hN.ownF g e)
    · exact .inr (by omega)
  have gB : g ≠ B := by
    rintro rfl
    rcases hatg with e | e
    · exact hBN e
    · omega
  have hO := hN.snoc hc hlen hown hgrow (by rcases hat with e | e; exact .inl e; exact .inr (by omega)) hgl hv hn (fun j hj => by
    obtain ⟨gb, a1, a2, a3, a4⟩ := hm j hj
    exact ⟨gb, a1, a2, a3, a4⟩) (fun k hk => (hvl k hk).1)
  have e3 := hb8.cell 4
  refine ⟨e3, hb8.free 4, hb8.set4 _, hO.frame (fun k hk => Below.heap_setCell _ _ _ _ ?_), (hc8.mono (fun _ _ h => .inr h)).setCell (.inl (.inl rfl)) _, hatg⟩
  rcases hk with hk | rfl | hk
  · exact fun e => hBN (by have e' : k = B := e; rw [e'] at hk; exact hk)
  · exact gB
  · exact (hvl k hk).2

theorem trip_cells {w : World} {v : Value} {l : List InvG} (h : w.ownsRow 0 65 3 v l.length (l.flatMap invCells)) {i : Nat} {x : InvG} (hx : l[i]? = some x) : ∃ g cap, v = .slice (some ⟨g, 0, none⟩) l.length cap ∧ g < w.heap.size ∧ w.cell? ⟨g, i * 3, none⟩ = some (.int .i64 x.ten) ∧ w.cell? ⟨g, i * 3 + 1, none⟩ = some (.int .i64 x.ref) ∧ w.cell? ⟨g, i * 3 + 2, none⟩ = some (.int .i64 x.cents) := by
  rcases h.2 with ⟨hv, h0⟩ | ⟨g, cap, cur, hv, hg, hh, r⟩
  · have := (List.getElem?_eq_some_iff.1 hx).1
    omega
  · have get : ∀ r u, (invCells x)[r]? = some u → r < 3 → w.cell? ⟨g, i * 3 + r, none⟩ = some u := fun r u hu hr => by
      have := h.cells (g := g) (by rw [hv]; rfl) (i * 3 + r) u (by rw [flat_get invCells 3 (fun _ => rfl) l i x r hx hr]; exact hu)
      rwa [Addr.add_lit, Nat.zero_add] at this
    exact ⟨g, cap, hv, (Array.getElem?_eq_some_iff.1 hh).1, get 0 _ rfl (by omega), get 1 _ rfl (by omega), get 2 _ rfl (by omega)⟩

/-- what 'billed' leaves -/
def Billed (w : World) (B : Nat) (lv : Value) (FB : Nat → Prop) (v0 v1 v2 v3 : Value) (nn : Nat) (w' : World) : Prop :=
  ∃ FB' bv' vs', BoxAt w' B v0 v1 v2 v3 bv' ∧ OutC 63 3 w' bv' vs' FB' ∧ vs'.length = nn + 2 ∧ Chg (fun k => k = B ∨ lv.ownBlock = some k ∨ FB k) w w' ∧ ∀ k, FB' k → FB k ∨ lv.ownBlock = some k ∨ w.heap.size ≤ k

set_option maxRecDepth 100000 in
set_option maxHeartbeats 8000000 in
theorem billed_any (B : Nat) (FB : Nat → Prop) (z : Int) (l : List InvG) (lv kv v0 v1 v2 v3 bv : Value) (vs : List Value) (w : World)
    (hl : w.ownsRow 0 65 3 lv l.length (l.flatMap invCells)) (hk : w.ownsRow 0 65 3 kv l.length (l.flatMap invCells)) (hll : l.length ≤ 300) (hnil : z ≠ 0 → lv = .slice none 0 0)
    (hbox : BoxAt w B v0 v1 v2 v3 bv) (hN : OutC 63 3 w bv vs FB) (hev : vs.length % 2 = 0) (hlen : vs.length + 2 < 5000000000000) (hBN : ¬ FB B) (hlb : ∀ k, lv.ownBlock = some k → ¬ FB k ∧ k ≠ B) :
    Calls Tryz.prog 51 #[.pointer (some ⟨B, 0, none⟩), lv, .int .i64 z, kv, .int .i64 z] w fun e w' => e = .returned (.bool true) ∧ Billed w B lv FB v0 v1 v2 v3 vs.length w' := by
  have HBOX := hide hbox
  have HN := hide hN
  have HEV := hide hev
  have HBN := hide hBN
  have HLB := hide hlb
  have HLO := hide hl
  have HKO := hide hk
  have HNIL := hide hnil
  have hBl := hbox.lt
  clear hbox hN hev hBN hlb hl hk hnil
  obtain ⟨la, lc, rfl⟩ := ownsRow_form HLO.out
  obtain ⟨ka, kc, rfl⟩ := ownsRow_form HKO.out
  obtain ⟨nl, hnl⟩ : ∃ nl, nl = l.length := ⟨_, rfl⟩
  rw [← hnl] at HLO HKO HNIL HLB hll ⊢
  have HNLE := hide hnl
  clear hnl
  obtain ⟨bn, hbn⟩ : ∃ bn, bn = la.isNone := ⟨_, rfl⟩
  have hbz : bn = true ∨ z = 0 := by
    by_cases h : z = 0
    · exact .inr h
    · have := HNIL.out h
      simp at this
      left
      rw [hbn, this.1]
      rfl
  have qT : ∀ w' : World, (binOp .eql 63 (.slice la nl lc) (.slice none 0 0)).run Tryz.prog w' = .ok (.bool bn) w' := fun w' => by rw [hbn]; exact Lib.run_eql_slice_nil w' _ _ la nl lc 0 0 Tryz.underlying63
  clear HNIL
  have loop1 : ∀ (x : Nat), x < nl → ∃ gl gk a b c, la = some ⟨gl, 0, none⟩ ∧ ka = some ⟨gk, 0, none⟩ ∧ gl < w.heap.size ∧ gk < w.heap.size ∧ w.cell? ⟨gl, x * 3, none⟩ = some (.int .i64 a) ∧ w.cell? ⟨gl, x * 3 + 1, none⟩ = some (.int .i64 b) ∧ w.cell? ⟨gl, x * 3 + 2, none⟩ = some (.int .i64 c) ∧ w.cell? ⟨gk, x * 3, none⟩ = some (.int .i64 a) ∧ w.cell? ⟨gk, x * 3 + 1, none⟩ = some (.int .i64 b) ∧ w.cell? ⟨gk, x * 3 + 2, none⟩ = some (.int .i64 c) := by
    intro x hx
    obtain ⟨p, hp⟩ : ∃ p, l[x]? = some p := ⟨_, List.getElem?_eq_getElem (by rw [← HNLE.out]; exact hx)⟩
    have h1 := HLO.out
    have h2 := HKO.out
    rw [HNLE.out] at h1 h2
    obtain ⟨gl, c1, e1, l1, x1, x2, x3⟩ := trip_cells h1 hp
    obtain ⟨gk, c2, e2, l2, y1, y2, y3⟩ := trip_cells h2 hp
    simp at e1 e2
    exact ⟨gl, gk, p.ten, p.ref, p.cents, e1.1, e2.1, l1, l2, x1, x2, x3, y1, y2, y3⟩
  have HL1 := hide loop1
  clear loop1
  have HBNN := hide hbn
  clear hbn
  obtain ⟨na, nc, hnv, hnel⟩ := HN.out.form
  obtain ⟨nn, hnn⟩ : ∃ nn, nn = vs.length := ⟨_, rfl⟩
  rw [← hnn] at hnv hlen
  have HNV := hide hnv
  have HNN := hide hnn
  have C4 : Hid (w.cell? ⟨B, 4, none⟩ = some (.slice na nn nc)) := by
    have := HBOX.out.cell 4
    rw [hnv] at this
    exact this
  clear hnv hnel hnn
  rcases hbz with rfl | rfl
  rotate_left
  cases bn
  all_goals
    go_enter Tryz.func51, Tryz.ntmps51
    go_wp2
    clear qT
    go_loopw [11, 12] (fun s x wr => ∃ k : Nat, k ≤ nl ∧ s = .bool true ∧ x = .int .i64 k ∧ Chg (fun _ => False) w wr) (fun _ x _ => nl - (intOf x).toNat)
    case atStart => exact ⟨0, by omega, rfl, rfl, Chg.refl _ _⟩
    case round =>
      obtain ⟨k, hk, rfl, rfl, hch⟩ := hrel
      have HCH := hide hch
      by_cases hlt : k < nl
      · obtain ⟨gl, gk, a, b, c, hla, hka, l1, l2, x1, x2, x3, y1, y2, y3⟩ := HL1.out k hlt
        subst hla hka
        have c1 : wr.cell? ⟨gl, k * 3, none⟩ = some (.int .i64 a) := by rw [hch.cell (by exact l1) (fun h => h)]; exact x1
        have c2 : wr.cell? ⟨gl, k * 3 + 1, none⟩ = some (.int .i64 b) := by rw [hch.cell (by exact l1) (fun h => h)]; exact x2
        have c2' : wr.cell? ⟨gl, k * 3 + 2, none⟩ = some (.int .i64 c) := by rw [hch.cell (by exact l1) (fun h => h)]; exact x3
        have c3 : wr.cell? ⟨gk, k * 3, none⟩ = some (.int .i64 a) := by rw [hch.cell (by exact l2) (fun h => h)]; exact y1
        have c4 : wr.cell? ⟨gk, k * 3 + 1, none⟩ = some (.int .i64 b) := by rw [hch.cell (by exact l2) (fun h => h)]; exact y2
        have c4' : wr.cell? ⟨gk, k * 3 + 2, none⟩ = some (.int .i64 c) := by rw [hch.cell (by exact l2) (fun h => h)]; exact y3
        have k0 : (0 : Int) ≤ (k : Int) := by omega
        have k1 : (k : Int) < (nl : Int) := by omega
        clear x1 x2 x3 y1 y2 y3 hch HL1
        go_wp2
        go_quiet (fail)
        go_wp2
        go_roundw
        case rel => exact ⟨k + 1, by omega, by simp, by go_num, HCH.out.drewN _⟩
        case measure => simp [intOf]; omega
      · have c4 : wr.cell? ⟨B, 4, none⟩ = some (.slice na nn nc) := by rw [hch.cell (by exact hBl) (fun h => h)]; exact C4.out
        clear hch HL1
        go_wp2_with fail
        refine (markInvoice_any nn _ (by omega)).mono ?_
        rintro e w4 ⟨rfl, hq4⟩
        have HC4 := hide (HCH.out.trans hq4 (fun _ _ h => h))
        clear hq4 c4 HCH
        obtain ⟨mz, hmz⟩ : ∃ mz, mz = markZ nn := ⟨_, rfl⟩
        rw [← hmz]
        have HMZ := hide hmz
        clear hmz
        go_wp2
        obtain ⟨w5, hw5⟩ : ∃ w5, w5 = w4.alloc (.cells #[.int .i64 mz, .int .i64 mz, .int .i64 mz] 65) := ⟨_, rfl⟩
        rw [← hw5]
        have hc5 : Chg (fun _ => False) w w5 := by rw [hw5]; exact HC4.out.alloc _
        have hb5 : w5.heap[w4.heap.size]? = some (.cells #[.int .i64 mz, .int .i64 mz, .int .i64 mz] 65 (0, 0)) := by rw [hw5]; exact heap_alloc_new w4 _
        have hs24 := HC4.out.size
        have hs5 : w4.heap.size < w5.heap.size := by rw [hw5]; simp
        have HL5 := hide (ownsRow_keep HLO.out (fun k hk => hc5.block k (HLO.out.lt k hk).2 (fun h => h)))
        have HLL := hide (fun k hk => (HLO.out.lt k hk).2)
        have HC5 := hide hc5
        have HB5 := hide hb5
        clear hw5 hc5 hb5 HC4
        go_loopw [14] (fun x wr => ∃ k : Nat, k ≤ nl ∧ x = .int .i64 k ∧ wr.ownsRow 0 65 3 (.slice la nl lc) nl (markTo (l.flatMap invCells) (k * 3) (.int .i64 mz)) ∧ Chg (fun b => Value.ownBlock (.slice la nl lc) = some b) w5 wr) (fun x _ => nl - (intOf x).toNat)
        case atStart => exact ⟨0, by omega, rfl, by rw [Nat.zero_mul, markTo_zero]; exact HL5.out, Chg.refl _ _⟩
        case round =>
          clear HL5
          obtain ⟨k2, hk2, rfl, hown, hch⟩ := hrel
          have HOWN := hide hown
          have HCH := hide hch
          by_cases hlt2 : k2 < nl
          · obtain ⟨gl, cap0, hv0, _, hgl⟩ := hown.form (by omega)
            simp only [Value.slice.injEq] at hv0
            obtain ⟨hla, _, _⟩ := hv0
            subst hla
            obtain ⟨x, hx⟩ : ∃ x, l[k2]? = some x := ⟨_, List.getElem?_eq_getElem (by rw [← HNLE.out]; exact hlt2)⟩
            have gX : ∀ r u, (invCells x)[r]? = some u → r < 3 → wr.cell? ⟨gl, k2 * 3 + r, none⟩ = some u := fun r u hu hr => by
              have g0 : (markTo (l.flatMap invCells) (k2 * 3) (.int .i64 mz))[k2 * 3 + r]? = some u := by
                have := flat_get invCells 3 (fun _ => rfl) l k2 x r hx hr
                simp only [markTo, List.getElem?_mapIdx, this, hu]
                show some (if k2 * 3 + r < k2 * 3 then _ else _) = _
                rw [if_neg (by omega)]
              have := hown.cells (g := gl) rfl _ _ g0
              rwa [Addr.add_lit, Nat.zero_add] at this
            have c1 : wr.cell? ⟨gl, k2 * 3, none⟩ = some (.int .i64 x.ten) := gX 0 _ rfl (by omega)
            have c2 : wr.cell? ⟨gl, k2 * 3 + 1, none⟩ = some (.int .i64 x.ref) := gX 1 _ rfl (by omega)
            have c3 : wr.cell? ⟨gl, k2 * 3 + 2, none⟩ = some (.int .i64 x.cents) := gX 2 _ rfl (by omega)
            obtain ⟨cu, hcu⟩ := ownsRow_block hown (k := gl) rfl
            have fz : ∀ q, wr.frozen? ⟨gl, q, none⟩ = false := fun q => by unfold World.frozen?; rw [hcu]; simp
            have hgl2 := HLL.out gl rfl
            have nmb : w4.heap.size ≠ gl := by omega
            have hbr : wr.heap[w4.heap.size]? = some (.cells #[.int .i64 mz, .int .i64 mz, .int .i64 mz] 65 (0, 0)) := (hch.block _ hs5 (fun h => by simp [Value.ownBlock] at h; omega)).trans HB5.out
            have m0 : wr.cell? ⟨w4.heap.size, 0, none⟩ = some (.int .i64 mz) := by unfold World.cell?; rw [hbr]; rfl
            have m1 : wr.cell? ⟨w4.heap.size, 1, none⟩ = some (.int .i64 mz) := by unfold World.cell?; rw [hbr]; rfl
            have m2 : wr.cell? ⟨w4.heap.size, 2, none⟩ = some (.int .i64 mz) := by unfold World.cell?; rw [hbr]; rfl
            have k0 : (0 : Int) ≤ (k2 : Int) := by omega
            have k1 : (k2 : Int) < (nl : Int) := by omega
            have HN1 := hide (show (((wr.setCell ⟨gl, k2 * 3, none⟩ (.int .i64 mz)).setCell ⟨gl, k2 * 3 + 1, none⟩ (.int .i64 mz)).setCell ⟨gl, k2 * 3 + 2, none⟩ (.int .i64 mz)).ownsRow 0 65 3 (.slice (some ⟨gl, 0, none⟩) nl lc) nl (markTo (l.flatMap invCells) ((k2 + 1) * 3) (.int .i64 mz)) by
              rw [show (k2 + 1) * 3 = k2 * 3 + 1 + 1 + 1 by omega, markTo_succ, markTo_succ, markTo_succ]
              exact ownsRow_set2 (ownsRow_set2 (ownsRow_set2 HOWN.out (by omega) rfl _) (by omega) rfl _) (by omega) rfl _)
            clear hown hch hcu hbr gX hx
            go_wp2
            go_roundw
            case rel => exact ⟨k2 + 1, by omega, by go_num, HN1.out, ((HCH.out.setCell (p := ⟨gl, k2 * 3, none⟩) (.inl rfl) _).setCell (p := ⟨gl, k2 * 3 + 1, none⟩) (.inl rfl) _).setCell (p := ⟨gl, k2 * 3 + 2, none⟩) (.inl rfl) _⟩
            case measure => simp [intOf]; omega
          · clear hown
            have hk2n : k2 = nl := by omega
            subst hk2n
            have HL6 : Hid (wr.ownsRow 0 65 3 (.slice la k2 lc) k2 (List.replicate (k2 * 3) (.int .i64 mz))) := by
              have := HOWN.out
              rw [markTo_all (by rw [HLO.out.1]; exact Nat.le_refl _), HLO.out.1] at this
              exact this
            have hbr : wr.heap[w4.heap.size]? = some (.cells #[.int .i64 mz, .int .i64 mz, .int .i64 mz] 65 (0, 0)) := (hch.block _ hs5 (fun h => by have := HLL.out _ h; omega)).trans HB5.out
            have m0 : wr.cell? ⟨w4.heap.size, 0, none⟩ = some (.int .i64 mz) := by unfold World.cell?; rw [hbr]; rfl
            have m1 : wr.cell? ⟨w4.heap.size, 1, none⟩ = some (.int .i64 mz) := by unfold World.cell?; rw [hbr]; rfl
            have m2 : wr.cell? ⟨w4.heap.size, 2, none⟩ = some (.int .i64 mz) := by unfold World.cell?; rw [hbr]; rfl
            obtain ⟨i0, hi, hz0, hz1, hz2⟩ := info_parts infoInvoice
            clear hch hbr HOWN
            go_wp2_with (first | (at_builtin; refine wpList_append_keeps _ rfl _ _ 63 rfl 0 65 i0 (.agg #[.int .i64 0, .int .i64 0, .int .i64 0]) 3 24 Tryz.underlying63 hi hz0 hz1 hz2 rfl (by decide) _ _ _ rfl (HL6.out.alloc _) ⟨wr.heap.size, 0, none⟩ 3 3 [.int .i64 mz, .int .i64 mz, .int .i64 mz, .int .i64 mz, .int .i64 mz, .int .i64 mz, .int .i64 mz, .int .i64 mz, .int .i64 mz] rfl rfl (World.news_of_block (heap_alloc_new wr _)) (by simp [Value.oneCell']) (by decide) (by unfold maxLen; omega) (by omega) (Nat.zero_le _) _ rfl ?_))
            intro gg gc w7 hgo hgr hat hgl7
            obtain ⟨t1, t2, t3, t4⟩ := bill7 HL6.out hgo hgr hat
            have T1 := hide t1
            have T2 := hide t2
            have T3 := hide t3
            have hc67 : Chg (fun b => Value.ownBlock (.slice la k2 lc) = some b) w w7 := ((HC5.out.mono (fun _ _ h => h.elim)).trans HCH.out (fun _ _ h => h)).trans t4 (fun _ _ h => h)
            have HCW := hide hc67
            have HB7 : Hid (BoxAt w7 B v0 v1 v2 v3 (.slice na nn nc)) := by rw [← HNV.out]; exact HBOX.out.chg hc67 (fun h => (HLB.out B h).2 rfl)
            have HN7 : Hid (OutC 63 3 w7 (.slice na nn nc) vs FB) := by rw [← HNV.out]; exact HN.out.frame (fun k hk => hc67.block k (HN.out.lt k hk) (fun h => (HLB.out k h).1 hk))
            have HS27 := hide (show w.heap.size ≤ w7.heap.size from hc67.size)
            have hs26 : w.heap.size ≤ wr.heap.size := Nat.le_trans (by omega) HCH.out.size
            have HS67 := hide (show wr.heap.size ≤ w7.heap.size from t4.size)
            have HGG := hide (show (Value.ownBlock (.slice la k2 lc) = some gg ∨ w.heap.size ≤ gg) ∧ gg < w7.heap.size ∧ ¬ FB gg ∧ gg ≠ B from by
              rcases t3 with e | e
              · exact ⟨.inl e, hgl7, (HLB.out gg e).1, (HLB.out gg e).2⟩
              · exact ⟨.inr (by omega), hgl7, fun hf => by have := HN.out.lt gg hf; omega, by omega⟩)
            have c4 : w7.cell? ⟨B, 4, none⟩ = some (.slice na nn nc) := HB7.out.cell 4
            have hB7 : B < w7.heap.size := HB7.out.lt
            have HO7 := hide (show w7.ownsRow 0 63 1 (.slice na nn nc) nn vs from by have := HN7.out.own; rw [← HNN.out] at this; exact this)
            obtain ⟨j0, hj, hy0, hy1, hy2⟩ := info_parts infoBills
            clear t1 t2 t3 t4 hgo hgr hat hc67 m0 m1 m2
            go_wp2_with (first | (at_builtin; refine wpList_append_lies _ rfl _ _ 31 rfl 0 63 j0 (.slice none 0 0) 1 24 Tryz.underlying31 hj hy0 hy1 hy2 rfl (by decide) _ _ _ rfl (HO7.out.alloc _) ⟨w7.heap.size, 0, none⟩ 1 1 [.slice la k2 lc] rfl rfl (World.news_of_block (heap_alloc_new w7 _)) (by simp [Value.oneCell']) (by decide) (by unfold maxLen; omega) (by omega) (Nat.zero_le _) _ rfl ?_))
            intro g8 c8 w8 hown8 hgr8 hat8 hlt8
            have hnle : nn = vs.length := HNN.out
            have hmk : mz = markZ (vs.length - vs.length % 2) := by rw [HMZ.out, ← HNN.out]; have := HEV.out; rw [← HNN.out] at this; rw [this]; rfl
            obtain ⟨s1, s2, s3⟩ := out_step4 (v := .slice la k2 lc) (ao := la) (n := k2) (c2 := lc) HB7.out HN7.out hnle HBN.out (by omega) ((Chg.refl _ _).alloc _) hown8 hgr8 hat8 (by omega) hlt8 rfl (by omega) (fun j hj => by
              obtain ⟨gl, e1, e2, e3⟩ := T1.out j hj
              exact ⟨gl, e1, by have := HS67.out; omega, fun hf => (HLB.out gl (by rw [e1]; rfl)).1 (HN7.out.ownF gl hf), fun r hr => by rw [← hmk]; exact e3 r hr⟩) (fun k hk => ⟨by have := HS27.out; have := HLL.out k hk; omega, (HLB.out k hk).2⟩)
            obtain ⟨w9, hw9⟩ : ∃ w9, w9 = w8.setCell ⟨B, 4, none⟩ (.slice (some ⟨g8, 0, none⟩) (nn + 1) c8) := ⟨_, rfl⟩
            rw [← hw9] at s3
            have S3 := hide s3.out
            have HW9 := hide hw9
            have HMK := hide hmk
            clear s3 hown8 hgr8 hat8 hlt8 c4 hw9 hnle hmk
            go_upto_region 13 with fail
            rw [← HW9.out]
            clear s1 s2
            have c4 : w9.cell? ⟨B, 4, none⟩ = some (.slice (some ⟨g8, 0, none⟩) (nn + 1) c8) := S3.out.1.cell 4
            have hB9 : B < w9.heap.size := S3.out.1.lt
            have HO9 := hide (show w9.ownsRow 0 63 1 (.slice (some ⟨g8, 0, none⟩) (nn + 1) c8) (nn + 1) (vs ++ [.slice la k2 lc]) from by have := S3.out.2.1.own; rw [List.length_append, ← HNN.out] at this; exact this)
            go_wp2_with (first | (at_builtin; refine wpList_append_lies _ rfl _ _ 31 rfl 0 63 j0 (.slice none 0 0) 1 24 Tryz.underlying31 hj hy0 hy1 hy2 rfl (by decide) _ _ _ rfl (HO9.out.alloc _) ⟨w9.heap.size, 0, none⟩ 1 1 [.slice (some ⟨gg, 0, none⟩) (k2 + 3) gc] rfl rfl (World.news_of_block (heap_alloc_new w9 _)) (by simp [Value.oneCell']) (by decide) (by unfold maxLen; omega) (by omega) (Nat.zero_le _) _ rfl ?_))
            intro g10 c10 w10 hown10 hgr10 hat10 hlt10
            have hs79 : w7.heap.size ≤ w9.heap.size := S3.out.2.2.1.size
            have hgc9 : ∀ q, w9.cell? ⟨gg, q, none⟩ = w7.cell? ⟨gg, q, none⟩ := fun q => S3.out.2.2.1.cell (p := ⟨gg, q, none⟩) HGG.out.2.1 (by
              rintro (e | e)
              · exact HGG.out.2.2.2 e
              · exact HGG.out.2.2.1 e)
            have hg8 : Value.ownBlock (.slice (some ⟨g8, 0, none⟩) (nn + 1) c8) ≠ some gg := fun e => by
              simp [Value.ownBlock] at e
              rcases S3.out.2.2.2 with e2 | e2
              · exact HGG.out.2.2.1 (e ▸ e2)
              · have := HGG.out.2.1; omega
            have hmk2 : markZ ((vs ++ [Value.slice la k2 lc]).length - (vs ++ [Value.slice la k2 lc]).length % 2) = mz := by
              rw [List.length_append, List.length_singleton, HMK.out]
              have := HEV.out
              congr 1
              omega
            have hFB9 : ¬ (FB B ∨ B = g8 ∨ Value.ownBlock (.slice la k2 lc) = some B) := by
              rintro (e | e | e)
              · exact HBN.out e
              · rcases S3.out.2.2.2 with e2 | e2
                · exact HBN.out (e ▸ e2)
                · have := hB7; omega
              · exact (HLB.out B e).2 rfl
            have hln : nn + 1 = (vs ++ [Value.slice la k2 lc]).length := by rw [List.length_append, ← HNN.out]; rfl
            obtain ⟨s1, s2, s3⟩ := out_step4 (v := .slice (some ⟨gg, 0, none⟩) (k2 + 3) gc) (ao := some ⟨gg, 0, none⟩) (n := k2 + 3) (c2 := gc) S3.out.1 S3.out.2.1 hln hFB9 (by rw [← hln]; omega) ((Chg.refl _ _).alloc _) (by rw [List.append_assoc]; exact hown10) hgr10 hat10 (by omega) hlt10 rfl (by omega) (fun j hj =>
              ⟨gg, rfl, by have := HGG.out.2.1; omega, hg8, fun r hr => by rw [hmk2, hgc9]; exact T2.out j hj r hr⟩) (fun k hk => by
              simp [Value.ownBlock] at hk
              subst hk
              exact ⟨by have := HGG.out.2.1; omega, HGG.out.2.2.2⟩)
            have S11 := hide s3.out
            clear s3 hown10 hgr10 hat10 hlt10 c4 hgc9 hg8 hmk2 hFB9 hln hs79
            go_wp2
            go_ret
            have hs27 := HS27.out
            have h9 : ∀ k, (FB k ∨ k = g8 ∨ Value.ownBlock (.slice la k2 lc) = some k) → FB k ∨ Value.ownBlock (.slice la k2 lc) = some k ∨ w.heap.size ≤ k := fun k hk => by
              rcases hk with e | e | e
              · exact .inl e
              · subst e
                rcases S3.out.2.2.2 with e2 | e2
                · exact .inl e2
                · exact .inr (.inr (by omega))
              · exact .inr (.inl e)
            have hs9 := S3.out.2.2.1.size
            refine ⟨rfl, _, _, _, S11.out.1, S11.out.2.1, ?_, ?_, ?_⟩
            · rw [List.length_append, List.length_append]
              rfl
            · refine ((HCW.out.mono (O' := fun k => k = B ∨ Value.ownBlock (.slice la k2 lc) = some k ∨ FB k) (fun _ _ h => .inr (.inl h))).trans S3.out.2.2.1 (fun x hx h => ?_)).trans S11.out.2.2.1 (fun x hx h => ?_)
              · rcases h with h | h
                · exact .inl h
                · exact .inr (.inr h)
              · rcases h with h | h
                · exact .inl h
                · rcases h9 x h with h | h | h
                  · exact .inr (.inr h)
                  · exact .inr (.inl h)
                  · omega
            · intro k hk
              rcases hk with hk | hk | hk
              · exact h9 k hk
              · subst hk
                rcases S11.out.2.2.2 with e | e
                · exact h9 _ e
                · exact .inr (.inr (by omega))
              · simp [Value.ownBlock] at hk
                subst hk
                rcases HGG.out.1 with e | e
                · exact .inr (.inl e)
                · exact .inr (.inr e)
end Go.Proofs.YtminceigjejipabGreat
