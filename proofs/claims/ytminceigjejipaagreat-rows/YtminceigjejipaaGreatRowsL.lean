import Derived.Test.YtminceigjejipaaGreatRowsI
import Derived.JoinedCond
namespace Go.Proofs.YtminceigjejipaaGreat
open Go.ChangeShapes Go.WideShapes Go.ChangeAt Go.RowKit Go.Deep

/-- what holds between the steps of Rows -/
def InvR (B : Nat) (ca : Option Addr) (cl cc : Nat) (i : Nat) (O : Nat → Prop) (w : World) : Prop :=
  ∃ N ra rc ps, RowsAt B N ca cl cc (.slice none 0 0) (.slice none 0 0) (.slice none 0 0) ra rc ps w ∧ ps.length ≤ i ∧ ∀ k, O k ↔ B ≤ k ∧ k < N

theorem contains4 {x : Int} (h : List.contains [2, 3, 4, 5] x = true) : x = 2 ∨ x = 3 ∨ x = 4 ∨ x = 5 := by simpa using h

theorem playsR (w : World) (ca : Option Addr) (cl cc slen : Nat) (S : Nat → Int) (hw : ∀ t, t < slen * 10 → IsI64 (S t)) (hsl : slen < 1759218604391) :
    Plays w.heap.size slen S [2, 3, 4, 5] [2, 3, 4, 5] w (InvR w.heap.size ca cl cc) := by
  refine ⟨?_, ?_, ?_, ?_, ?_⟩
  · rintro i O w1 ⟨N, ra, rc, ps, h, _, hO⟩ k hk
    have := (hO k).1 hk
    have := h.nw
    exact ⟨by omega, by omega⟩
  · rintro i O w1 w2 ⟨N, ra, rc, ps, h, hl, hO⟩ hc
    exact ⟨N, ra, rc, ps, h.frame (fun k h1 h2 => hc.block k (by have := h.nw; omega) (fun hn => hn ((hO k).2 ⟨h1, h2⟩))) hc.size, hl, hO⟩
  · rintro i O w1 ⟨N, ra, rc, ps, h, hl, hO⟩
    exact ⟨N, ra, rc, ps, h, by omega, hO⟩
  · rintro i hi hp O w1 ⟨N, ra, rc, ps, h, hl, hO⟩ _
    have ha := hw (i * 10 + 1) (by omega)
    have hb := hw (i * 10 + 2) (by omega)
    -- the end of a step that turns no block of another
    have fin : ∀ (e : Ending) w2, e = .returned (.bool true) → (∃ N' ra' rc' ps', RowsAt w.heap.size N' ca cl cc (.slice none 0 0) (.slice none 0 0) (.slice none 0 0) ra' rc' ps' w2 ∧ ps'.length ≤ i + 1) → Chg O w1 w2 → ∃ b O', e = .returned (.bool b) ∧ InvR w.heap.size ca cl cc (i + 1) O' w2 ∧ Chg O w1 w2 ∧
        (b = false → List.contains [2, 3, 4, 5] (S (i * 10)) = false ∧ S (i * 10) ≠ 2 ∧ S (i * 10) ≠ 6) := by
      rintro e w2 rfl ⟨N', ra', rc', ps', h', hl'⟩ hc
      exact ⟨true, fun k => w.heap.size ≤ k ∧ k < N', rfl, ⟨N', ra', rc', ps', h', hl', fun _ => Iff.rfl⟩, hc, fun hx => by cases hx⟩
    rcases contains4 hp with hk | hk | hk | hk
    · have e : opAt S i = .agg #[.int .i64 2, .int .i64 (S (i * 10 + 1)), .int .i64 (S (i * 10 + 2)), .int .i64 (S (i * 10 + 3)), .int .i64 (S (i * 10 + 4)), .int .i64 (S (i * 10 + 5)), .int .i64 (S (i * 10 + 6)), .int .i64 (S (i * 10 + 7)), .int .i64 (S (i * 10 + 8)), .int .i64 (S (i * 10 + 9))] := by
        unfold opAt; rw [hk]
      rw [e]
      generalize S (i * 10 + 1) = n0 at *
      generalize S (i * 10 + 2) = v0 at *
      cases hnew : newB n0 v0
      · obtain ⟨n1, n2, n3⟩ := newB_false hnew
        obtain ⟨n, rfl⟩ := Int.eq_ofNat_of_zero_le (show 0 ≤ n0 by omega)
        refine (step_row w.heap.size n v0 _ _ _ _ _ _ _ w1 (fun wa w' => Rowed wa w.heap.size n ps.length v0 (.slice ca cl cc) (.slice ra ps.length rc) (.slice none 0 0) (.slice none 0 0) (.slice none 0 0) (ptrs ps) w') (fun o => ?_)).mono ?_
        · have hf : RowsAt w.heap.size N ca cl cc (.slice none 0 0) (.slice none 0 0) (.slice none 0 0) ra rc ps (w1.alloc o) := h.frame (fun k _ h2 => Below.heap_alloc _ _ _ (by have := h.nw; omega)) (by simp)
          exact rowed_ok w.heap.size n ps.length v0 ra rc _ _ _ _ (ptrs ps) (w1.alloc o) (by omega) (by omega) n3 (by omega) hf.box hf.own
        · rintro e w2 ⟨o, he, hr⟩
          have hf : RowsAt w.heap.size N ca cl cc (.slice none 0 0) (.slice none 0 0) (.slice none 0 0) ra rc ps (w1.alloc o) := h.frame (fun k _ h2 => Below.heap_alloc _ _ _ (by have := h.nw; omega)) (by simp)
          obtain ⟨ra', rc', ps', hlen, h', _⟩ := hf.added hr
          obtain ⟨_, _, _, _, _, _, _, _, _, _, _, _, _, hc, _⟩ := hr
          refine fin e w2 he ⟨_, ra', rc', ps', h', by omega⟩ ?_
          have hlt := h.own.lt
          exact (((Chg.refl O w1).alloc o)).trans hc (fun x hx hxx => by
            rcases hxx with rfl | hxx
            · exact (hO _).2 ⟨Nat.le_refl _, h.bn⟩
            · exact (hO x).2 ⟨by have := (hlt x hxx).1; omega, h.lt x hxx⟩)
      · refine (step_row w.heap.size n0 v0 _ _ _ _ _ _ _ w1 (fun wa w' => w' = wa) (fun o => rowed_bad w.heap.size n0 v0 _ hnew)).mono ?_
        rintro e w2 ⟨o, he, rfl⟩
        exact fin e _ he ⟨N, ra, rc, ps, h.frame (fun k _ h2 => Below.heap_alloc _ _ _ (by have := h.nw; omega)) (by simp), by omega⟩ ((Chg.refl _ _).alloc _)
    · have e : opAt S i = .agg #[.int .i64 3, .int .i64 (S (i * 10 + 1)), .int .i64 (S (i * 10 + 2)), .int .i64 (S (i * 10 + 3)), .int .i64 (S (i * 10 + 4)), .int .i64 (S (i * 10 + 5)), .int .i64 (S (i * 10 + 6)), .int .i64 (S (i * 10 + 7)), .int .i64 (S (i * 10 + 8)), .int .i64 (S (i * 10 + 9))] := by
        unfold opAt; rw [hk]
      rw [e]
      have hcell := h.box.cell 1
      simp at hcell
      by_cases hm : ps.length = 0
      · rw [hm] at hcell
        refine (step_add_none w.heap.size rc ra _ _ _ _ _ _ _ _ _ w1 hcell).mono ?_
        rintro e w2 ⟨he, hq⟩
        exact fin e w2 he ⟨N, ra, rc, ps, h.frame (fun k _ h2 => hq.block k (by have := h.nw; omega) (fun hn => hn)) hq.size, by omega⟩ (hq.mono (fun _ _ hx => hx.elim))
      · obtain ⟨j, hj, hjl⟩ : ∃ j : Nat, pickZ (S (i * 10 + 1)) ps.length = (j : Int) ∧ j < ps.length := by
          have := pickZ_lt (S (i * 10 + 1)) ps.length (by omega)
          exact ⟨(pickZ (S (i * 10 + 1)) ps.length).toNat, by omega, by omega⟩
        obtain ⟨g, hg⟩ : ∃ g, ps[j]? = some g := ⟨_, List.getElem?_eq_getElem hjl⟩
        obtain ⟨hat, hwi⟩ := h.at' j g hg
        have hnob := h.nob j g hg
        obtain ⟨gb, hra⟩ : ∃ gb, ra = some ⟨gb, 0, none⟩ := by
          rcases h.own.2 with ⟨_, h0⟩ | ⟨x, cap, cu, hv, _⟩
          · omega
          · simp only [Value.slice.injEq] at hv
            exact ⟨x, hv.1⟩
        subst hra
        have c0 := h.own.cells (g := gb) rfl (j * 2) _ (ptrs_get0 ps j g hg)
        have c1 := h.own.cells (g := gb) rfl (j * 2 + 1) _ (ptrs_get1 ps j g hg)
        rw [Addr.add_lit] at c0 c1
        simp only [Nat.zero_add] at c0 c1
        refine (step_add_some w.heap.size gb ps.length rc j g.pc g.gc g.pr g.gr g.n g.cc g.cr g.Z _ _ _ _ _ _ _ _ _ w1 hcell (by omega) hj hjl ha.1 ha.2 hb.2 c0 c1 hat hnob.1.1 hnob.1.2 (hnob.2 gb rfl).1 (hnob.2 gb rfl).2).mono ?_
        rintro e w2 ⟨Z', he, hp2, hc2⟩
        obtain ⟨ps', hlen, h', _⟩ := h.turned j g hg Z' hp2 hc2
        refine fin e w2 he ⟨N, _, rc, ps', h', by omega⟩ (hc2.mono (fun x _ hxx => ?_))
        rcases hxx with rfl | rfl
        · exact (hO _).2 hwi.2.1
        · exact (hO _).2 hwi.2.2.2
    · have e : opAt S i = .agg #[.int .i64 4, .int .i64 (S (i * 10 + 1)), .int .i64 (S (i * 10 + 2)), .int .i64 (S (i * 10 + 3)), .int .i64 (S (i * 10 + 4)), .int .i64 (S (i * 10 + 5)), .int .i64 (S (i * 10 + 6)), .int .i64 (S (i * 10 + 7)), .int .i64 (S (i * 10 + 8)), .int .i64 (S (i * 10 + 9))] := by
        unfold opAt; rw [hk]
      rw [e]
      have hcell := h.box.cell 1
      simp at hcell
      by_cases hm : ps.length = 0
      · rw [hm] at hcell
        refine (step_min_none w.heap.size rc ra _ _ _ _ _ _ _ _ _ w1 hcell).mono ?_
        rintro e w2 ⟨he, hq⟩
        exact fin e w2 he ⟨N, ra, rc, ps, h.frame (fun k _ h2 => hq.block k (by have := h.nw; omega) (fun hn => hn)) hq.size, by omega⟩ (hq.mono (fun _ _ hx => hx.elim))
      · obtain ⟨j, hj, hjl⟩ : ∃ j : Nat, pickZ (S (i * 10 + 1)) ps.length = (j : Int) ∧ j < ps.length := by
          have := pickZ_lt (S (i * 10 + 1)) ps.length (by omega)
          exact ⟨(pickZ (S (i * 10 + 1)) ps.length).toNat, by omega, by omega⟩
        obtain ⟨g, hg⟩ : ∃ g, ps[j]? = some g := ⟨_, List.getElem?_eq_getElem hjl⟩
        obtain ⟨hat, hwi⟩ := h.at' j g hg
        have hnob := h.nob j g hg
        obtain ⟨gb, hra⟩ : ∃ gb, ra = some ⟨gb, 0, none⟩ := by
          rcases h.own.2 with ⟨_, h0⟩ | ⟨x, cap, cu, hv, _⟩
          · omega
          · simp only [Value.slice.injEq] at hv
            exact ⟨x, hv.1⟩
        subst hra
        have c0 := h.own.cells (g := gb) rfl (j * 2) _ (ptrs_get0 ps j g hg)
        have c1 := h.own.cells (g := gb) rfl (j * 2 + 1) _ (ptrs_get1 ps j g hg)
        rw [Addr.add_lit] at c0 c1
        simp only [Nat.zero_add] at c0 c1
        refine (step_min_some w.heap.size gb ps.length rc j g.pc g.gc g.pr g.gr g.n g.cc g.cr g.Z _ _ _ _ _ _ _ _ _ w1 hcell (by omega) hj hjl ha.1 ha.2 hb.2 c0 c1 hat hnob.1.1 hnob.1.2 (hnob.2 gb rfl).1 (hnob.2 gb rfl).2).mono ?_
        rintro e w2 ⟨Z', he, hp2, hc2⟩
        obtain ⟨ps', hlen, h', _⟩ := h.turned j g hg Z' hp2 hc2
        refine fin e w2 he ⟨N, _, rc, ps', h', by omega⟩ (hc2.mono (fun x _ hxx => ?_))
        rcases hxx with rfl | rfl
        · exact (hO _).2 hwi.2.1
        · exact (hO _).2 hwi.2.2.2
    · have e : opAt S i = .agg #[.int .i64 5, .int .i64 (S (i * 10 + 1)), .int .i64 (S (i * 10 + 2)), .int .i64 (S (i * 10 + 3)), .int .i64 (S (i * 10 + 4)), .int .i64 (S (i * 10 + 5)), .int .i64 (S (i * 10 + 6)), .int .i64 (S (i * 10 + 7)), .int .i64 (S (i * 10 + 8)), .int .i64 (S (i * 10 + 9))] := by
        unfold opAt; rw [hk]
      rw [e]
      have hcell := h.box.cell 1
      simp at hcell
      by_cases hm : ps.length = 0
      · rw [hm] at hcell
        refine (step_fit_none w.heap.size rc ra _ _ _ _ _ _ _ _ _ w1 hcell).mono ?_
        rintro e w2 ⟨he, hq⟩
        exact fin e w2 he ⟨N, ra, rc, ps, h.frame (fun k _ h2 => hq.block k (by have := h.nw; omega) (fun hn => hn)) hq.size, by omega⟩ (hq.mono (fun _ _ hx => hx.elim))
      · obtain ⟨j, hj, hjl⟩ : ∃ j : Nat, pickZ (S (i * 10 + 1)) ps.length = (j : Int) ∧ j < ps.length := by
          have := pickZ_lt (S (i * 10 + 1)) ps.length (by omega)
          exact ⟨(pickZ (S (i * 10 + 1)) ps.length).toNat, by omega, by omega⟩
        obtain ⟨g, hg⟩ : ∃ g, ps[j]? = some g := ⟨_, List.getElem?_eq_getElem hjl⟩
        obtain ⟨hat, hwi⟩ := h.at' j g hg
        have hnob := h.nob j g hg
        obtain ⟨gb, hra⟩ : ∃ gb, ra = some ⟨gb, 0, none⟩ := by
          rcases h.own.2 with ⟨_, h0⟩ | ⟨x, cap, cu, hv, _⟩
          · omega
          · simp only [Value.slice.injEq] at hv
            exact ⟨x, hv.1⟩
        subst hra
        have c0 := h.own.cells (g := gb) rfl (j * 2) _ (ptrs_get0 ps j g hg)
        have c1 := h.own.cells (g := gb) rfl (j * 2 + 1) _ (ptrs_get1 ps j g hg)
        rw [Addr.add_lit] at c0 c1
        simp only [Nat.zero_add] at c0 c1
        refine (step_fit_some w.heap.size gb ps.length rc j g.pc g.gc g.pr g.gr g.n g.cc g.cr g.Z _ _ _ _ _ _ _ _ _ w1 hcell (by omega) hj hjl ha.1 ha.2 hb.2 c0 c1 hat hnob.1.1 hnob.1.2 (hnob.2 gb rfl).1 (hnob.2 gb rfl).2).mono ?_
        rintro e w2 ⟨Z', he, hp2, hc2⟩
        obtain ⟨ps', hlen, h', _⟩ := h.turned j g hg Z' hp2 hc2
        refine fin e w2 he ⟨N, _, rc, ps', h', by omega⟩ (hc2.mono (fun x _ hxx => ?_))
        rcases hxx with rfl | rfl
        · exact (hO _).2 hwi.2.1
        · exact (hO _).2 hwi.2.2.2
  · rintro i O w1 ⟨N, ra, rc, ps, h, hl, hO⟩
    have h3 := h.box.cell 3
    have h4 := h.box.cell 4
    simp at h3 h4
    refine (looks_nil w.heap.size w1 h3 h4).mono ?_
    rintro e w2 ⟨rfl, rfl⟩
    exact ⟨rfl, Chg.refl _ _⟩

set_option maxHeartbeats 400000 in
theorem rows_walk (w : World) (ca sa : Option Addr) (cl cc sl sc : Nat) (_ : IntRows w 5 ca cl) (hs : IntRows w 10 sa sl) (_ : cl < 5000000000000) (hsl : sl < 1759218604391) :
    Calls Tryz.prog 4 #[.slice ca cl cc, .slice sa sl sc] w fun e w' => e = .returned (.bool true) ∧ Below w.heap.size w w' := by
  rcases hs with rfl | ⟨b, off, S, hl0, rfl, hbl, hS, hw⟩
  · go_enter Tryz.func4, Tryz.ntmps4
    go_wp2_with fail
    refine (plays_none _ _ _ _ _ _ _ _).mono ?_
    rintro e w1 ⟨rfl, hb⟩
    go_wp2
    go_ret
    exact ⟨rfl, ((Below.refl _ _).alloc (Nat.le_refl _) _).trans (hb.mono (by simp))⟩
  · have HS : Hid (∀ t, t < sl * 10 → w.cell? ⟨b, off + t, none⟩ = some (.int .i64 (S t))) := hS
    have HW : Hid (∀ t, t < sl * 10 → IsI64 (S t)) := hw
    clear hS hw
    go_enter Tryz.func4, Tryz.ntmps4
    go_wp2_with fail
    obtain ⟨W, hW⟩ : ∃ W, W = w.alloc (.cells #[.int .i64 2, .int .i64 3, .int .i64 4, .int .i64 5] 3) := ⟨_, rfl⟩
    rw [← hW]
    have hb : Below w.heap.size w W := by rw [hW]; exact (Below.refl _ _).alloc (Nat.le_refl _) _
    have hsz : W.heap.size = w.heap.size + 1 := by rw [hW]; simp
    have p0 : ∀ j, j < 4 → W.cell? ⟨w.heap.size, j, none⟩ = some (.int .i64 (([2, 3, 4, 5] : List Int).getD j 0)) := fun j hj => by
      rw [hW]
      match j, hj with
      | 0, _ => simp
      | 1, _ => simp
      | 2, _ => simp
      | 3, _ => simp
    have hI : InvR W.heap.size ca cl cc 0 (fun k => W.heap.size ≤ k ∧ k < W.heap.size + 1) (W.alloc (.cells #[.slice ca cl cc, .slice none 0 0, .slice none 0 0, .slice none 0 0, .slice none 0 0] 33)) :=
      ⟨W.heap.size + 1, none, 0, [], ⟨heap_alloc_new W _, World.ownsRow_nil _ _ _ _, fun k hk => by simp [Value.ownBlock] at hk, by omega, by simp, fun i g hg => by simp at hg, fun i j g h hg => by simp at hg⟩, by simp, fun _ => Iff.rfl⟩
    refine (plays_some ca cl cc w.heap.size w.heap.size 4 4 4 4 b off sl sc S [2, 3, 4, 5] [2, 3, 4, 5] W (InvR W.heap.size ca cl cc) (playsR W ca cl cc sl S HW.out hsl) (by omega) (by omega)
      (fun t ht => by rw [hb.cell (by exact hbl)]; exact HS.out t ht) (by omega) (by omega) rfl rfl (by omega) (by omega) p0 p0 _ hI).mono ?_
    rintro e w1 ⟨rfl, hb1⟩
    have hfin : Below w.heap.size w w1 := hb.trans (hb1.mono (by omega))
    clear hb hsz p0 hb1 hW HS HW hI
    go_wp2
    go_ret
    exact ⟨rfl, hfin⟩

set_option maxRecDepth 100000 in
theorem rows_lifted (os : Os) (started : os.Started) (H : Type) (enc : TypeId × Value → H) :
    ReturnsInHanded {} Tryz.checked os 4 .any (Rows.rowsSpec.pre6 enc Tryz.prog Tryz.f4 Rows.rowsRow.domain false) (Rows.rowsSpec.post enc Tryz.prog Tryz.f4 false true false false) := by
  refine returnsInHanded_of_change_sized (C := Tryz.checked) own started (by kernel_rfl) Tryz.func4
    (ChangeSpec.witness6 (enc := enc) (C := Tryz.checked) false ⟨#[], #[.slice none 0 0, .slice none 0 0], []⟩ 8 (by kernel_rfl) (by kernel_rfl) (by kernel_rfl) (by kernel_rfl)) ?_
  intro W base args ds gs before hval0 hW _ hsz0 _
  have hsz : (DataW.weightsEach Tryz.prog (Tryz.f4.params.toList ++ Rows.rowsSpec.plain.varTypes Tryz.prog) (ds ++ gs)).all (· ≤ reachBytes) = true := hsz0
  clear hsz0
  have hval : ∀ (j : Nat) t v, Tryz.f4.params[j]? = some t → args[j]? = some v → Value.okWide Tryz.prog W .any base t v := hval0
  have hW' := hW
  obtain ⟨p, q, hA0, hV, rfl, _, _⟩ := hW
  have hA : DataW.TrodAll enc Tryz.prog W 0 (fun _ => true) true Tryz.f4.params.toList args.toList ds p := hA0
  rw [Tryz.params4] at hA hval hsz
  obtain ⟨v0, v1, d0, d1, p0, p1, rfl, rfl, rfl, h0, h1⟩ := trodAll_two hA
  obtain ⟨rfl, rfl⟩ := trodVars_none hV
  obtain ⟨ca, cl, cc, rfl⟩ := okWide_slice Tryz.underlying22 (hval 0 22 v0 rfl rfl)
  obtain ⟨sa, sl, sc, rfl⟩ := okWide_slice Tryz.underlying23 (hval 1 23 v1 rfl rfl)
  have h0k := h0
  have h1k := h1
  obtain ⟨f0, hf0⟩ := h0
  obtain ⟨f1, hf1⟩ := h1
  clear hA0 hval0
  simp only [List.append_nil] at hW'
  have hlt : ∀ x ∈ p0 ++ p1, x.block < W.heap.size := fun x hx => by simpa using hW'.lt x hx
  obtain ⟨hc, hcd⟩ := rows_of_slice Tryz.underlying22 cellsConfig (by omega) config_ints (by simpa [Value.cells] using hf0)
  obtain ⟨hs, hsd⟩ := rows_of_slice Tryz.underlying23 cellsOp (by omega) op_ints (by simpa [Value.cells] using hf1)
  have hcl : cl < 5000000000000 := by
    rcases hcd with ⟨_, h⟩ | ⟨el, sp, hd, hl⟩
    · omega
    · have hd' : d0 = .slice el sp := hd
      subst hd'
      have := sized_slice hsz (j := 0) (t := 22) (e := 49) rfl rfl Tryz.underlying22
      rw [bytesConfig] at this
      rw [← hl]
      exact small_slice this (by omega)
  have hsl : sl < 1759218604391 := by
    rcases hsd with ⟨_, h⟩ | ⟨el, sp, hd, hl⟩
    · omega
    · have hd' : d1 = .slice el sp := hd
      subst hd'
      have := sized_slice hsz (j := 1) (t := 23) (e := 37) rfl rfl Tryz.underlying23
      rw [bytesOp] at this
      rw [← hl]
      exact small_slice80 this
  refine (rows_walk W ca sa cl cc sl sc hc hs hcl hsl).mono fun e W' ⟨he, hb⟩ => ?_
  subst he
  refine ⟨_, rfl, _, _, _, [], p0 ++ p1, [], hW', ?_, ?_, rfl, hb.frame _, fun h => by cases h⟩
  · exact trodAll_mk1 (shut_bool Tryz.underlying4 _)
  · exact trodAll_mk2 (Below.trod laidOut (by kernel_rfl) (of_decide_eq_true (by kernel_rfl)) h0k hb (fun x hx => hlt x (List.mem_append_left _ hx))) (Below.trod laidOut (by kernel_rfl) (of_decide_eq_true (by kernel_rfl)) h1k hb (fun x hx => hlt x (List.mem_append_right _ hx)))

theorem rows_holds : Rows.RowsSaid :=
  OpenClaim.holds_of_wide 4 Tryz.f4 rfl rfl rfl rfl rfl rfl rfl ⟨rfl, rfl, rfl, rfl, rfl⟩ rfl rfl rfl rfl rfl (by kernel_rfl) Tryz.func4 (by kernel_rfl)
    (of_decide_eq_true (by kernel_rfl)) (by unfold Func.isWrapper; first | (rw [if_pos (by decide +kernel)]; kernel_rfl) | (rw [if_neg (by decide +kernel)]; exact ⟨rfl, rfl⟩))
    (fun os started H enc _ => rows_lifted os started H enc)
end Go.Proofs.YtminceigjejipaaGreat
