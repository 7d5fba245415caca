import Derived.Test.YtminceigjejipaaGreatG22
import Derived.Test.YtminceigjejipaaGreatG21
import Derived.JoinedCond
namespace Go.Proofs.YtminceigjejipaaGreat
open Go.ChangeShapes Go.WideShapes Go.ChangeAt Go.RowKit Go.Deep

set_option maxHeartbeats 400000 in
theorem ticks_walk {YAt : World → Nat → (Nat → Prop) → MkG → Prop} (hY : YardSpec YAt) (hT : TickY YAt) (w : World) (ca sa : Option Addr) (cl cc sl sc : Nat) (hc : IntRows w 5 ca cl) (hs : IntRows w 10 sa sl) (hcl : cl < 5000000000000) (hsl : sl < 1759218604391) :
    Calls Tryz.prog 6 #[.slice ca cl cc, .slice sa sl sc] w fun e w' => e = .returned (.bool true) ∧ Below w.heap.size w w' := by
  have HC : Hid (IntRows w 5 ca cl) := hc
  have HY := hide hY
  have HT := hide hT
  clear hc hY hT
  rcases hs with rfl | ⟨b, off, S, hl0, rfl, hbl, hS, hw⟩
  · go_enter Tryz.func6, Tryz.ntmps6
    go_wp2_with fail
    refine (plays_none _ _ _ _ _ _ _ _).mono ?_
    rintro e w1 ⟨rfl, hb⟩
    go_wp2
    go_ret
    exact ⟨rfl, ((Below.refl _ _).alloc (Nat.le_refl _) _).trans (hb.mono (by simp))⟩
  · have HS : Hid (∀ t, t < sl * 10 → w.cell? ⟨b, off + t, none⟩ = some (.int .i64 (S t))) := hS
    have HW : Hid (∀ t, t < sl * 10 → IsI64 (S t)) := hw
    clear hS hw
    go_enter Tryz.func6, Tryz.ntmps6
    go_wp2_with fail
    obtain ⟨W, hW⟩ : ∃ W, W = w.alloc (.cells #[.int .i64 6, .int .i64 7, .int .i64 8, .int .i64 9, .int .i64 10, .int .i64 11, .int .i64 12, .int .i64 13, .int .i64 14, .int .i64 15] 3) := ⟨_, rfl⟩
    rw [← hW]
    have hb : Below w.heap.size w W := by rw [hW]; exact (Below.refl _ _).alloc (Nat.le_refl _) _
    have hsz : W.heap.size = w.heap.size + 1 := by rw [hW]; simp
    have p0 : ∀ j, j < 10 → W.cell? ⟨w.heap.size, j, none⟩ = some (.int .i64 (kT.getD j 0)) := fun j hj => by
      rw [hW]
      match j, hj with
      | 0, _ => simp [kT]
      | 1, _ => simp [kT]
      | 2, _ => simp [kT]
      | 3, _ => simp [kT]
      | 4, _ => simp [kT]
      | 5, _ => simp [kT]
      | 6, _ => simp [kT]
      | 7, _ => simp [kT]
      | 8, _ => simp [kT]
      | 9, _ => simp [kT]
    have hI : InvT YAt W.heap.size ca cl cc 0 (fun k => W.heap.size ≤ k ∧ k < W.heap.size + 1) (W.alloc (.cells #[.slice ca cl cc, .slice none 0 0, .slice none 0 0, .slice none 0 0, .slice none 0 0] 33)) :=
      ⟨W.heap.size + 1, none, 0, [], .slice none 0 0, .slice none 0 0, [], [], fun _ => False, fun _ => False, ⟨⟨heap_alloc_new W _, World.ownsRow_nil _ _ _ _, fun k hk => by simp [Value.ownBlock] at hk, by omega, by simp, fun i g hg => by simp at hg, fun i j g h hg => by simp at hg⟩, OutC.nil _ _ _, OutC.nil _ _ _, rfl, rfl, fun _ h => h.elim, fun _ h => h.elim⟩, by simp, fun _ => Iff.rfl⟩
    refine (plays_some ca cl cc w.heap.size w.heap.size 10 10 10 10 b off sl sc S kT kT W (InvT YAt W.heap.size ca cl cc) (playsT HY.out HT.out W w ca cl cc sl S HW.out hsl hb HC.out hcl) (by omega) (by omega)
      (fun t ht => by rw [hb.cell (by exact hbl)]; exact HS.out t ht) (by omega) (by omega) rfl rfl (by omega) (by omega) p0 p0 _ hI).mono ?_
    rintro e w1 ⟨rfl, hb1⟩
    have hfin : Below w.heap.size w w1 := hb.trans (hb1.mono (by omega))
    clear hb hsz p0 hb1 hW HS HW hI HC HY HT
    go_wp2
    go_ret
    exact ⟨rfl, hfin⟩

set_option maxRecDepth 100000 in
theorem ticks_lifted (os : Os) (started : os.Started) (H : Type) (enc : TypeId × Value → H) :
    ReturnsInHanded {} Tryz.checked os 6 .any (Rows.ticksSpec.pre6 enc Tryz.prog Tryz.f6 Rows.ticksRow.domain false) (Rows.ticksSpec.post enc Tryz.prog Tryz.f6 false true false false) := by
  refine returnsInHanded_of_change_sized (C := Tryz.checked) own started (by kernel_rfl) Tryz.func6
    (ChangeSpec.witness6 (enc := enc) (C := Tryz.checked) false ⟨#[], #[.slice none 0 0, .slice none 0 0], []⟩ 8 (by kernel_rfl) (by kernel_rfl) (by kernel_rfl) (by kernel_rfl)) ?_
  intro W base args ds gs before hval0 hW _ hsz0 _
  have hsz : (DataW.weightsEach Tryz.prog (Tryz.f6.params.toList ++ Rows.ticksSpec.plain.varTypes Tryz.prog) (ds ++ gs)).all (· ≤ reachBytes) = true := hsz0
  clear hsz0
  have hval : ∀ (j : Nat) t v, Tryz.f6.params[j]? = some t → args[j]? = some v → Value.okWide Tryz.prog W .any base t v := hval0
  have hW' := hW
  obtain ⟨p, q, hA0, hV, rfl, _, _⟩ := hW
  have hA : DataW.TrodAll enc Tryz.prog W 0 (fun _ => true) true Tryz.f6.params.toList args.toList ds p := hA0
  rw [Tryz.params6] at hA hval hsz
  obtain ⟨v0, v1, d0, d1, p0, p1, rfl, rfl, rfl, h0, h1⟩ := trodAll_two hA
  obtain ⟨rfl, rfl⟩ := trodVars_none hV
  obtain ⟨ca, cl, cc, rfl⟩ := okWide_slice Tryz.underlying22 (hval 0 22 v0 rfl rfl)
  obtain ⟨sa, sl, sc, rfl⟩ := okWide_slice Tryz.underlying23 (hval 1 23 v1 rfl rfl)
  have h0k := h0
  have h1k := h1
  obtain ⟨f0, hf0⟩ := h0
  obtain ⟨f1, hf1⟩ := h1
  clear hA0 hval0
  simp only [List.append_nil] at hW'
  have hlt : ∀ x ∈ p0 ++ p1, x.block < W.heap.size := fun x hx => by simpa using hW'.lt x hx
  obtain ⟨hc, hcd⟩ := rows_of_slice Tryz.underlying22 cellsConfig (by omega) config_ints (by simpa [Value.cells] using hf0)
  obtain ⟨hs, hsd⟩ := rows_of_slice Tryz.underlying23 cellsOp (by omega) op_ints (by simpa [Value.cells] using hf1)
  have hcl : cl < 5000000000000 := by
    rcases hcd with ⟨_, h⟩ | ⟨el, sp, hd, hl⟩
    · omega
    · have hd' : d0 = .slice el sp := hd
      subst hd'
      have := sized_slice hsz (j := 0) (t := 22) (e := 49) rfl rfl Tryz.underlying22
      rw [bytesConfig] at this
      rw [← hl]
      exact small_slice this (by omega)
  have hsl : sl < 1759218604391 := by
    rcases hsd with ⟨_, h⟩ | ⟨el, sp, hd, hl⟩
    · omega
    · have hd' : d1 = .slice el sp := hd
      subst hd'
      have := sized_slice hsz (j := 1) (t := 23) (e := 37) rfl rfl Tryz.underlying23
      rw [bytesOp] at this
      rw [← hl]
      exact small_slice80 this
  refine (ticks_walk yardSpec tickY W ca sa cl cc sl sc hc hs hcl hsl).mono fun e W' ⟨he, hb⟩ => ?_
  subst he
  refine ⟨_, rfl, _, _, _, [], p0 ++ p1, [], hW', ?_, ?_, rfl, hb.frame _, fun h => by cases h⟩
  · exact trodAll_mk1 (shut_bool Tryz.underlying4 _)
  · exact trodAll_mk2 (Below.trod laidOut (by kernel_rfl) (of_decide_eq_true (by kernel_rfl)) h0k hb (fun x hx => hlt x (List.mem_append_left _ hx))) (Below.trod laidOut (by kernel_rfl) (of_decide_eq_true (by kernel_rfl)) h1k hb (fun x hx => hlt x (List.mem_append_right _ hx)))

theorem ticks_holds : Rows.TicksSaid :=
  OpenClaim.holds_of_wide 6 Tryz.f6 rfl rfl rfl rfl rfl rfl rfl ⟨rfl, rfl, rfl, rfl, rfl⟩ rfl rfl rfl rfl rfl (by kernel_rfl) Tryz.func6 (by kernel_rfl)
    (of_decide_eq_true (by kernel_rfl)) (by unfold Func.isWrapper; first | (rw [if_pos (by decide +kernel)]; kernel_rfl) | (rw [if_neg (by decide +kernel)]; exact ⟨rfl, rfl⟩))
    (fun os started H enc _ => ticks_lifted os started H enc)
end Go.Proofs.YtminceigjejipaaGreat
