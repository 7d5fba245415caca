import Derived.Test.YtminceigjejipaaKpD
import Derived.Great.Frames
import Derived.Deep.RegionHeld3
/-
  yardkeep: 'notes' of a bid: the region that lays the bid into the book, over a frame that is a variable.
-/
namespace Go.Proofs.Ytminceigjejipaa
open Go.RowKit

/-- the region of that number -/
noncomputable def regionOf (n : Nat) : Code → Option (Array Oper)
  | .region i ops _ => if i == n then some ops else none
  | .seq a b => match regionOf n a with | some o => some o | none => regionOf n b
  | .cond _ a b => match regionOf n a with | some o => some o | none => regionOf n b
  | .block _ a => regionOf n a
  | .loop a => regionOf n a
  | .scope a => regionOf n a
  | _ => none
noncomputable def opsOf (f : Func) (n : Nat) : Array Oper := ((f.body.bind (regionOf n)).getD #[])

section
variable {P : Program} {ops : Array Oper} {Q : Exit → Act → World → Prop} {S : World → Prop} {md : Region.Mode}
theorem take_op {i : Nat} {fuel : Nat} {listed : Array Bool} {a : Act} {w : World} (oi : Oper) (d : Nat) (v : Value) (hi : ops[i]? = some oi) (hd : oi.dst = some d) (hg : oi.guard = none)
    (hs : Region.noSelect ops = true) (hf : Region.free md ops listed i = true) (hr : (Region.ready md ops listed).contains i = true)
    (hQ : ∀ c a d v w, Q (.panic c) (Act.put a d v) w → Q (.panic c) a w) (hy : ∀ w, S w → (execOp a.eval oi).run P w = .ok (.value v) w) (hS : S w)
    (h : wpAnyH P md ops Q S fuel (listed.setIfInBounds i true) (a.put (some d) v) w) : wpAnyH P md ops Q S (fuel + 1) listed a w :=
  wpAnyH_take hi hs hf hr (fun c a w => hQ c a _ v w) (.inl ⟨by simp [Region.wanted, hg], hy⟩) hS (by rw [hd]; exact h)
theorem ready_val {i : Nat} {fuel : Nat} {listed : Array Bool} {a : Act} {w w' : World} {rs : List Nat} (oi : Oper) (d : Nat) (v : Value) (hi : ops[i]? = some oi) (hd : oi.dst = some d) (hg : oi.guard = none)
    (hy : (execOp a.eval oi).run P w = .ok (.value v) w') (hS : S w') (h : wpAnyH P md ops Q S fuel (listed.setIfInBounds i true) (a.put (some d) v) w') (hs : AllReadyH P md ops Q S fuel listed a w rs) : AllReadyH P md ops Q S fuel listed a w (i :: rs) :=
  AllReadyH.cons hi (fun K hK => by
    rw [if_pos (by simp [Region.wanted, hg])]
    unfold Oper.wp
    rw [hy]
    show K (a.put oi.dst v) w'
    rw [hd]
    exact hK.out _ _ hS (fun _ => h)) hs
theorem ready_skip {i : Nat} {fuel : Nat} {listed : Array Bool} {a : Act} {w w' : World} {rs : List Nat} (oi : Oper) (hi : ops[i]? = some oi) (hd : oi.dst = none) (hg : oi.guard = none)
    (hy : (execOp a.eval oi).run P w = .ok .skip w') (hS : S w') (h : wpAnyH P md ops Q S fuel (listed.setIfInBounds i true) a w') (hs : AllReadyH P md ops Q S fuel listed a w rs) : AllReadyH P md ops Q S fuel listed a w (i :: rs) :=
  AllReadyH.cons hi (fun K hK => by
    rw [if_pos (by simp [Region.wanted, hg])]
    unfold Oper.wp
    rw [hy]
    show K (a.put oi.dst undef) w'
    rw [hd]
    exact hK.out _ _ hS (fun _ => h)) hs
theorem ready_wp {i : Nat} {fuel : Nat} {listed : Array Bool} {a : Act} {w : World} {rs : List Nat} (oi : Oper) (hi : ops[i]? = some oi) (hg : oi.guard = none)
    (h : ∀ K : Act → World → Prop, (∀ a w, S w → wpAnyH P md ops Q S fuel (listed.setIfInBounds i true) a w → K a w) → oi.wp P a w K Q) (hs : AllReadyH P md ops Q S fuel listed a w rs) : AllReadyH P md ops Q S fuel listed a w (i :: rs) :=
  AllReadyH.cons hi (fun K hK => by
    rw [if_pos (by simp [Region.wanted, hg])]
    exact h K (fun a w hS hW => hK.out a w hS (fun _ => hW))) hs
theorem run_move' {o : Oper} {a : Act} {v : Value} (x : Operand) (h : o.op = .move x) (hx : a.eval x = v) (w : World) : (execOp a.eval o).run P w = .ok (.value v) w := by
  rw [BigFrame.run_move x h, hx]
theorem run_nil' {o : Oper} {a : Act} {ad : Addr} (x : Operand) (h : o.op = .nilCheck x) (hx : a.eval x = .pointer (some ad)) (w : World) : (execOp a.eval o).run P w = .ok (.value (.pointer (some ad))) w := by
  unfold execOp
  rw [h]
  simp only [hx]
  rfl
theorem run_fld {o : Oper} {a : Act} {ad : Addr} {v : Value} (T : TypeId) (x : Operand) (f : Nat) (h : o.op = .fieldAddr T x f) (hx : a.eval x = .pointer (some ad)) (hr : ∀ w, (Instr.fieldAt T (.pointer (some ad)) f).run P w = .ok v w) (w : World) : (execOp a.eval o).run P w = .ok (.value v) w := by
  unfold execOp
  rw [h]
  simp only [hx, Sem.run_bind, hr, Result.andThen_ok]
  rfl
theorem run_ld {o : Oper} {a : Act} {ad : Addr} {v : Value} (T : TypeId) (x : Operand) (h : o.op = .load T x) (hx : a.eval x = .pointer (some ad)) (w : World) (hr : (Instr.loadAt T (.pointer (some ad))).run P w = .ok v w) : (execOp a.eval o).run P w = .ok (.value v) w := by
  unfold execOp
  rw [h]
  simp only [hx, Sem.run_bind, hr, Result.andThen_ok]
  rfl
theorem run_bsl {o : Oper} {a : Act} {v : Value} (T : TypeId) (n : Nat) (ps : Array (Nat × Operand)) (vs : Array (Nat × Value)) (h : o.op = .buildSlice T n ps) (hx : (ps.map fun (i, x) => (i, a.eval x)) = vs) (w w' : World) (hr : (Instr.buildSlice T n vs).run P w = .ok v w') : (execOp a.eval o).run P w = .ok (.value v) w' := by
  unfold execOp
  rw [h]
  simp only [hx, Sem.run_bind, hr, Result.andThen_ok]
  rfl
theorem run_sto {o : Oper} {a : Act} {u v : Value} (T : TypeId) (x y : Operand) (h : o.op = .store T x y) (hx : a.eval x = u) (hy : a.eval y = v) (w w' : World) (hr : (Instr.storeAt T u v).run P w = .ok () w') : (execOp a.eval o).run P w = .ok .skip w' := by
  unfold execOp
  rw [h]
  simp only [hx, hy, Sem.run_bind, hr, Result.andThen_ok]
  rfl
theorem run_bld {o : Oper} {a : Act} {v : Value} (T : TypeId) (ps : Array (Nat × Operand)) (vs : Array (Nat × Value)) (h : o.op = .build T ps) (hx : (ps.map fun (i, x) => (i, a.eval x)) = vs) (w : World) (hr : (Instr.build T vs).run P w = .ok v w) : (execOp a.eval o).run P w = .ok (.value v) w := by
  unfold execOp
  rw [h]
  simp only [hx, Sem.run_bind, hr, Result.andThen_ok]
  rfl
end

noncomputable def o11 : Array Oper := opsOf Try.f19 11

theorem fld_book (p : Nat) (w : World) : (Instr.fieldAt 66 (.pointer (some ⟨p, 0, none⟩)) 1).run Try.prog w = .ok (.pointer (some ⟨p, 5, none⟩)) w := by go_simp
theorem fld_step1 (p : Nat) (w : World) : (Instr.fieldAt 56 (.pointer (some ⟨p, 0, none⟩)) 1).run Try.prog w = .ok (.pointer (some ⟨p, 1, none⟩)) w := by go_simp
theorem fld_step2 (p : Nat) (w : World) : (Instr.fieldAt 56 (.pointer (some ⟨p, 0, none⟩)) 2).run Try.prog w = .ok (.pointer (some ⟨p, 2, none⟩)) w := by go_simp
theorem ld_int (p k : Nat) (z : Int) (w : World) (h : w.cell? ⟨p, k, none⟩ = some (.int .i64 z)) : (Instr.loadAt 3 (.pointer (some ⟨p, k, none⟩))).run Try.prog w = .ok (.int .i64 z) w := by go_simp
theorem ld_known (p k : Nat) (v : Value) (w : World) (h : w.cell? ⟨p, k, none⟩ = some v) : (Instr.loadAt 63 (.pointer (some ⟨p, k, none⟩))).run Try.prog w = .ok v w := by go_simp
theorem ld_job (r : Nat) (ja jd jl ju jv : Int) (w : World) (z0 : w.cell? ⟨r, 0, none⟩ = some (.int .i64 ja)) (z1 : w.cell? ⟨r, 1, none⟩ = some (.int .i64 jd)) (z2 : w.cell? ⟨r, 2, none⟩ = some (.int .i64 jl)) (z3 : w.cell? ⟨r, 3, none⟩ = some (.int .i64 ju)) (z4 : w.cell? ⟨r, 4, none⟩ = some (.int .i64 jv)) : (Instr.loadAt 54 (.pointer (some ⟨r, 0, none⟩))).run Try.prog w = .ok (.agg #[.int .i64 ja, .int .i64 jd, .int .i64 jl, .int .i64 ju, .int .i64 jv]) w := by go_simp
theorem bld_bid (w : World) : (Instr.build 68 #[(0, .int .i64 1), (1, .int .i64 (-1))]).run Try.prog w = .ok (.agg #[.int .i64 1, .int .i64 (-1)]) w := by go_simp
theorem bld_known (a b ja jd jl ju jv t i : Int) (w : World) : (Instr.build 70 #[(0, .int .i64 a), (1, .int .i64 b), (2, .agg #[.int .i64 ja, .int .i64 jd, .int .i64 jl, .int .i64 ju, .int .i64 jv]), (3, .int .i64 t), (4, .int .i64 i), (5, .agg #[.int .i64 1, .int .i64 (-1)])]).run Try.prog w = .ok (.agg #[.int .i64 a, .int .i64 b, .int .i64 ja, .int .i64 jd, .int .i64 jl, .int .i64 ju, .int .i64 jv, .int .i64 t, .int .i64 i, .int .i64 1, .int .i64 (-1), .bool false]) w := by go_simp

theorem bsl_known (a b ja jd jl ju jv t i : Int) (w : World) : (Instr.buildSlice 63 1 #[(0, .agg #[.int .i64 a, .int .i64 b, .int .i64 ja, .int .i64 jd, .int .i64 jl, .int .i64 ju, .int .i64 jv, .int .i64 t, .int .i64 i, .int .i64 1, .int .i64 (-1), .bool false])]).run Try.prog w = .ok (.slice (some ⟨w.heap.size, 0, none⟩) 1 1) (w.alloc (.cells #[.int .i64 a, .int .i64 b, .int .i64 ja, .int .i64 jd, .int .i64 jl, .int .i64 ju, .int .i64 jv, .int .i64 t, .int .i64 i, .int .i64 1, .int .i64 (-1), .bool false] 70)) := by go_simp
theorem sto_known (p k n c : Nat) (ao : Option Addr) (v : Value) (w : World) (h : w.cell? ⟨p, k, none⟩ = some v) (hf : w.frozen? ⟨p, k, none⟩ = false) : (Instr.storeAt 63 (.pointer (some ⟨p, k, none⟩)) (.slice ao n c)).run Try.prog w = .ok () (w.setCell ⟨p, k, none⟩ (.slice ao n c)) := by go_simp

/-- the cells that are read -/
def BidS (q r : Nat) (sa sb ja jd jl ju jv : Int) : World → Prop := (fun w' : World => w'.cell? ⟨q, 1, none⟩ = some (.int .i64 sa) ∧ w'.cell? ⟨q, 2, none⟩ = some (.int .i64 sb) ∧ w'.cell? ⟨r, 0, none⟩ = some (.int .i64 ja) ∧ w'.cell? ⟨r, 1, none⟩ = some (.int .i64 jd) ∧ w'.cell? ⟨r, 2, none⟩ = some (.int .i64 jl) ∧ w'.cell? ⟨r, 3, none⟩ = some (.int .i64 ju) ∧ w'.cell? ⟨r, 4, none⟩ = some (.int .i64 jv))
theorem BidS.grow {q r : Nat} {sa sb ja jd jl ju jv : Int} {w w' : World} {ob : Option Nat} (h : BidS q r sa sb ja jd jl ju jv w) (hg : w.grownBy w' ob) (hq : ob ≠ some q) (hr : ob ≠ some r) : BidS q r sa sb ja jd jl ju jv w' := by
  have lt : ∀ (b k : Nat) (v : Value), w.cell? ⟨b, k, none⟩ = some v → b < w.heap.size := fun b k v hv => by
    rcases Nat.lt_or_ge b w.heap.size with e | e
    · exact e
    · unfold World.cell? at hv
      rw [Array.getElem?_eq_none e] at hv
      simp at hv
  have far : ∀ (b k : Nat) (v : Value), ob ≠ some b → w.cell? ⟨b, k, none⟩ = some v → w'.cell? ⟨b, k, none⟩ = some v := fun b k v hb hv => (hg.cell_far ⟨b, k, none⟩ (lt b k v hv) (Ne.symm hb)).trans hv
  exact ⟨far _ _ _ hq h.1, far _ _ _ hq h.2.1, far _ _ _ hr h.2.2.1, far _ _ _ hr h.2.2.2.1, far _ _ _ hr h.2.2.2.2.1, far _ _ _ hr h.2.2.2.2.2.1, far _ _ _ hr h.2.2.2.2.2.2⟩
theorem BidS.alloc {q r : Nat} {sa sb ja jd jl ju jv : Int} {w : World} (h : BidS q r sa sb ja jd jl ju jv w) (o : Obj) : BidS q r sa sb ja jd jl ju jv (w.alloc o) := by
  have far : ∀ (b k : Nat) (v : Value), w.cell? ⟨b, k, none⟩ = some v → (w.alloc o).cell? ⟨b, k, none⟩ = some v := fun b k v hv => (World.cell?_alloc_some w _ o (by rw [hv]; rfl)).trans hv
  exact ⟨far _ _ _ h.1, far _ _ _ h.2.1, far _ _ _ h.2.2.1, far _ _ _ h.2.2.2.1, far _ _ _ h.2.2.2.2.1, far _ _ _ h.2.2.2.2.2.1, far _ _ _ h.2.2.2.2.2.2⟩
theorem BidS.set {q r : Nat} {sa sb ja jd jl ju jv : Int} {w : World} (h : BidS q r sa sb ja jd jl ju jv w) {p k : Nat} (hq : p ≠ q) (hr : p ≠ r) (v : Value) : BidS q r sa sb ja jd jl ju jv (w.setCell ⟨p, k, none⟩ v) := by
  have far : ∀ (b j : Nat) (u : Value), p ≠ b → w.cell? ⟨b, j, none⟩ = some u → (w.setCell ⟨p, k, none⟩ v).cell? ⟨b, j, none⟩ = some u := fun b j u hb hv => (World.cell?_setCell_far w _ _ v hb).trans hv
  exact ⟨far _ _ _ hq h.1, far _ _ _ hq h.2.1, far _ _ _ hr h.2.2.1, far _ _ _ hr h.2.2.2.1, far _ _ _ hr h.2.2.2.2.1, far _ _ _ hr h.2.2.2.2.2.1, far _ _ _ hr h.2.2.2.2.2.2⟩

set_option maxRecDepth 100000 in
set_option maxHeartbeats 4000000 in
theorem bid_tail {Q : Exit → Act → World → Prop} (B : Act) (w2 w3 : World) (p q r n bc : Nat) (ba : Option Addr) (V : BV) (b : BookG) (sa sb ja jd jl ju jv at' i : Int) (o : KnownG) (hsz : B.tmps.size = 190)
    (b107 : B.eval (.tmp 107) = .pointer (some ⟨p, 0, none⟩)) (b111 : B.eval (.tmp 111) = .slice ba n bc) (b121 : B.eval (.tmp 121) = .slice (some ⟨w2.heap.size, 0, none⟩) 1 1)
    (hb : BookAt w2 p V b) (hv : V.bv = .slice ba b.bids.length bc) (hn : n = b.bids.length) (hnb : n ≤ 300) (hc : Chg (fun _ => False) w2 w3) (hal : w3.heap[w2.heap.size]? = some (.cells #[.int .i64 sa, .int .i64 sb, .int .i64 ja, .int .i64 jd, .int .i64 jl, .int .i64 ju, .int .i64 jv, .int .i64 at', .int .i64 i, .int .i64 1, .int .i64 (-1), .bool false] 70 (0, 0)))
    (hq : Value.ownBlock (.slice ba n bc) ≠ some q) (hr : Value.ownBlock (.slice ba n bc) ≠ some r) (hpq : p ≠ q) (hpr : p ≠ r)
    (hS : BidS q r sa sb ja jd jl ju jv w3)
    (ho : knownCells o = [.int .i64 sa, .int .i64 sb, .int .i64 ja, .int .i64 jd, .int .i64 jl, .int .i64 ju, .int .i64 jv, .int .i64 at', .int .i64 i, .int .i64 1, .int .i64 (-1), .bool false])
    (hQ : ∀ c a d v w, Q (.panic c) (Act.put a d v) w → Q (.panic c) a w)
    (hK : ∀ (v : Value) (w' : World), BookTo w2 p V { b with bids := b.bids ++ [o] } w' → Q .normal (((B.put (some 122) v).put (some 123) (.pointer (some ⟨p, 0, none⟩))).put (some 124) (.pointer (some ⟨p, 5, none⟩))) w')
    (listed : Array Bool) (hl : listed = #[true, true, true, true, true, true, true, true, true, true, true, true, true, true, true, false, false, false, false]) :
    wpAnyH Try.prog .any o11 Q (BidS q r sa sb ja jd jl ju jv) 4 listed B w3 := by
  subst hl
  obtain ⟨i0', hi, hz0, hz1, hz2⟩ := info_parts infoKnown
  refine wpAnyH_ready (rs := [15]) (by kernel_rfl) (by simp) (ready_wp (i := 15) (o11.getD 15 default) rfl rfl (fun K hk => ?_) AllReadyH.nil)
  refine wp_append_lies _ (.tmp 111) (.tmp 121) 63 rfl 0 70 i0' (.agg #[.int .i64 0, .int .i64 0, .int .i64 0, .int .i64 0, .int .i64 0, .int .i64 0, .int .i64 0, .int .i64 0, .int .i64 0, .int .i64 0, .int .i64 0, .bool false]) 12 96 Try.underlying63 hi hz0 hz1 hz2 rfl (by decide) (.slice ba n bc) n (b.bids.flatMap knownCells) b111 (by rw [hn, ← hv]; exact (hb.chg0 hc).bids) ⟨w2.heap.size, 0, none⟩ 1 1 [.int .i64 sa, .int .i64 sb, .int .i64 ja, .int .i64 jd, .int .i64 jl, .int .i64 ju, .int .i64 jv, .int .i64 at', .int .i64 i, .int .i64 1, .int .i64 (-1), .bool false] b121 rfl (World.news_of_block hal) (by simp [Value.oneCell']) (by decide) (by unfold maxLen; omega) (by omega) (Nat.zero_le _) w3.heap.size rfl ?_
  intro g cap' w6 hown hgrow hat2 hlt2
  rw [← ho] at hown
  obtain ⟨s1, s2, s3⟩ := book_arm hb hv hn hc hown hgrow hat2 hc.size
  have hS6 := hS.grow hgrow hq hr
  refine hk _ _ hS6 ?_
  show wpAnyH _ _ _ _ _ _ _ (B.put (some 122) _) _
  refine take_op (i := 16) (o11.getD 16 default) 123 (.pointer (some ⟨p, 0, none⟩)) rfl rfl rfl (by kernel_rfl) (by kernel_rfl) (by kernel_rfl) hQ (fun w _ => run_nil' (.tmp 107) rfl (by simp [Act.eval_put_ne, b107]) w) hS6 ?_
  refine take_op (i := 17) (o11.getD 17 default) 124 (.pointer (some ⟨p, 5, none⟩)) rfl rfl rfl (by kernel_rfl) (by kernel_rfl) (by kernel_rfl) hQ (fun w _ => run_fld 66 (.tmp 123) 1 rfl (by simp [Act.eval_put_same, Act.size_put, hsz]) (fld_book p) w) hS6 ?_
  refine wpAnyH_ready (rs := [18]) (by kernel_rfl) (by simp) (ready_skip (i := 18) (o11.getD 18 default) rfl rfl rfl (run_sto 63 (.tmp 124) (.tmp 122) rfl (by simp [Act.eval_put_same, Act.size_put, hsz]) (by simp [Act.eval_put_ne, Act.eval_put_same, hsz]) w6 _ (sto_known p 5 (n + 1) cap' (some ⟨g, 0, none⟩) _ w6 s1 s2)) (hS6.set hpq hpr _) ?_ AllReadyH.nil)
  refine wpAnyH_done (by kernel_rfl) ?_ _
  exact hK _ _ s3.out

set_option maxRecDepth 100000 in
set_option maxHeartbeats 4000000 in
theorem bid_region {Q : Exit → Act → World → Prop} (A : Act) (w2 : World) (p q r n bc : Nat) (ba : Option Addr) (V : BV) (b : BookG) (sa sb ja jd jl ju jv at' i : Int) (o : KnownG) (hsz : A.tmps.size = 190)
    (e0 : A.eval (.tmp 0) = .pointer (some ⟨p, 0, none⟩)) (e1 : A.eval (.tmp 1) = .int .i64 i) (e7 : A.eval (.tmp 7) = .pointer (some ⟨q, 0, none⟩)) (e11 : A.eval (.tmp 11) = .pointer (some ⟨r, 0, none⟩)) (e12 : A.eval (.tmp 12) = .int .i64 at')
    (hb : BookAt w2 p V b) (hv : V.bv = .slice ba b.bids.length bc) (hn : n = b.bids.length) (hnb : n ≤ 300)
    (y1 : w2.cell? ⟨q, 1, none⟩ = some (.int .i64 sa)) (y2 : w2.cell? ⟨q, 2, none⟩ = some (.int .i64 sb))
    (z0 : w2.cell? ⟨r, 0, none⟩ = some (.int .i64 ja)) (z1 : w2.cell? ⟨r, 1, none⟩ = some (.int .i64 jd)) (z2 : w2.cell? ⟨r, 2, none⟩ = some (.int .i64 jl)) (z3 : w2.cell? ⟨r, 3, none⟩ = some (.int .i64 ju)) (z4 : w2.cell? ⟨r, 4, none⟩ = some (.int .i64 jv))
    (hq : Value.ownBlock (.slice ba n bc) ≠ some q) (hr : Value.ownBlock (.slice ba n bc) ≠ some r) (hpq : p ≠ q) (hpr : p ≠ r)
    (ho : knownCells o = [.int .i64 sa, .int .i64 sb, .int .i64 ja, .int .i64 jd, .int .i64 jl, .int .i64 ju, .int .i64 jv, .int .i64 at', .int .i64 i, .int .i64 1, .int .i64 (-1), .bool false])
    (hK : ∀ (v107 v108 v109 v110 v112 v113 v114 v115 v116 v117 v118 v119 v120 v111 v121 v122 v123 v124 : Value) (w' : World), BookTo w2 p V { b with bids := b.bids ++ [o] } w' → Q .normal ((((((((((((((((((A.put (some 107) v107).put (some 108) v108).put (some 109) v109).put (some 110) v110).put (some 112) v112).put (some 113) v113).put (some 114) v114).put (some 115) v115).put (some 116) v116).put (some 117) v117).put (some 118) v118).put (some 119) v119).put (some 120) v120).put (some 111) v111).put (some 121) v121).put (some 122) v122).put (some 123) v123).put (some 124) v124) w') :
    (Code.region 11 o11 true).wp Try.prog Q A w2 := by
  have c5 : w2.drew.cell? ⟨p, 5, none⟩ = some (.slice ba n bc) := by rw [hn, ← hv]; exact hb.cell 5
  refine wp_region_noPanic ?_
  have hQ : ∀ c a d v w, NoPanic Q (.panic c) (Act.put a d v) w → NoPanic Q (.panic c) a w := fun _ _ _ _ _ h => h
  refine wp_region_held_drew (S := BidS q r sa sb ja jd jl ju jv) (by kernel_rfl) ⟨y1, y2, z0, z1, z2, z3, z4⟩ (fun hS => ?_)
  refine take_op (i := 0) (o11.getD 0 default) 107 (.pointer (some ⟨p, 0, none⟩)) rfl rfl rfl (by kernel_rfl) (by kernel_rfl) (by kernel_rfl) hQ (fun w _ => run_move' (.tmp 0) rfl (by simp [e0]) w) hS ?_
  refine take_op (i := 1) (o11.getD 1 default) 108 (.pointer (some ⟨p, 0, none⟩)) rfl rfl rfl (by kernel_rfl) (by kernel_rfl) (by kernel_rfl) hQ (fun w _ => run_move' (.tmp 0) rfl (by simp [Act.eval_put_ne, e0]) w) hS ?_
  refine take_op (i := 2) (o11.getD 2 default) 109 (.pointer (some ⟨p, 0, none⟩)) rfl rfl rfl (by kernel_rfl) (by kernel_rfl) (by kernel_rfl) hQ (fun w _ => run_nil' (.tmp 108) rfl (by simp [Act.eval_put_same, Act.size_put, hsz]) w) hS ?_
  refine take_op (i := 3) (o11.getD 3 default) 110 (.pointer (some ⟨p, 5, none⟩)) rfl rfl rfl (by kernel_rfl) (by kernel_rfl) (by kernel_rfl) hQ (fun w _ => run_fld 66 (.tmp 109) 1 rfl (by simp [Act.eval_put_same, Act.size_put, hsz]) (fld_book p) w) hS ?_
  refine take_op (i := 5) (o11.getD 5 default) 112 (.pointer (some ⟨q, 1, none⟩)) rfl rfl rfl (by kernel_rfl) (by kernel_rfl) (by kernel_rfl) hQ (fun w _ => run_fld 56 (.tmp 7) 1 rfl (by simp [Act.eval_put_ne, e7]) (fld_step1 q) w) hS ?_
  refine take_op (i := 6) (o11.getD 6 default) 113 (.int .i64 sa) rfl rfl rfl (by kernel_rfl) (by kernel_rfl) (by kernel_rfl) hQ (fun w hS => run_ld 3 (.tmp 112) rfl (by simp [Act.eval_put_same, Act.size_put, hsz]) w (ld_int q 1 sa w hS.1)) hS ?_
  refine take_op (i := 7) (o11.getD 7 default) 114 (.pointer (some ⟨q, 2, none⟩)) rfl rfl rfl (by kernel_rfl) (by kernel_rfl) (by kernel_rfl) hQ (fun w _ => run_fld 56 (.tmp 7) 2 rfl (by simp [Act.eval_put_ne, e7]) (fld_step2 q) w) hS ?_
  refine take_op (i := 8) (o11.getD 8 default) 115 (.int .i64 sb) rfl rfl rfl (by kernel_rfl) (by kernel_rfl) (by kernel_rfl) hQ (fun w hS => run_ld 3 (.tmp 114) rfl (by simp [Act.eval_put_same, Act.size_put, hsz]) w (ld_int q 2 sb w hS.2.1)) hS ?_
  refine take_op (i := 9) (o11.getD 9 default) 116 (.agg #[.int .i64 ja, .int .i64 jd, .int .i64 jl, .int .i64 ju, .int .i64 jv]) rfl rfl rfl (by kernel_rfl) (by kernel_rfl) (by kernel_rfl) hQ (fun w hS => run_ld 54 (.tmp 11) rfl (by simp [Act.eval_put_ne, e11]) w (ld_job r ja jd jl ju jv w hS.2.2.1 hS.2.2.2.1 hS.2.2.2.2.1 hS.2.2.2.2.2.1 hS.2.2.2.2.2.2)) hS ?_
  refine take_op (i := 10) (o11.getD 10 default) 117 (.int .i64 at') rfl rfl rfl (by kernel_rfl) (by kernel_rfl) (by kernel_rfl) hQ (fun w _ => run_move' (.tmp 12) rfl (by simp [Act.eval_put_ne, e12]) w) hS ?_
  refine take_op (i := 11) (o11.getD 11 default) 118 (.int .i64 i) rfl rfl rfl (by kernel_rfl) (by kernel_rfl) (by kernel_rfl) hQ (fun w _ => run_move' (.tmp 1) rfl (by simp [Act.eval_put_ne, e1]) w) hS ?_
  refine take_op (i := 12) (o11.getD 12 default) 119 (.agg #[.int .i64 1, .int .i64 (-1)]) rfl rfl rfl (by kernel_rfl) (by kernel_rfl) (by kernel_rfl) hQ (fun w _ => run_bld 68 #[(0, .const (.int .i64 1)), (1, .const (.int .i64 (-1)))] #[(0, .int .i64 1), (1, .int .i64 (-1))] rfl (by simp [Act.eval]) w (bld_bid w)) hS ?_
  refine take_op (i := 13) (o11.getD 13 default) 120 (.agg #[.int .i64 sa, .int .i64 sb, .int .i64 ja, .int .i64 jd, .int .i64 jl, .int .i64 ju, .int .i64 jv, .int .i64 at', .int .i64 i, .int .i64 1, .int .i64 (-1), .bool false]) rfl rfl rfl (by kernel_rfl) (by kernel_rfl) (by kernel_rfl) hQ (fun w _ => run_bld 70 #[(0, .tmp 113), (1, .tmp 115), (2, .tmp 116), (3, .tmp 117), (4, .tmp 118), (5, .tmp 119)] #[(0, .int .i64 sa), (1, .int .i64 sb), (2, .agg #[.int .i64 ja, .int .i64 jd, .int .i64 jl, .int .i64 ju, .int .i64 jv]), (3, .int .i64 at'), (4, .int .i64 i), (5, .agg #[.int .i64 1, .int .i64 (-1)])] rfl (by simp [Act.eval_put_ne, Act.eval_put_same, Act.size_put, hsz]) w (bld_known sa sb ja jd jl ju jv at' i w)) hS ?_
  refine wpAnyH_ready (rs := [4, 14]) (by kernel_rfl) (by simp) ?_
  refine ready_val (i := 4) (o11.getD 4 default) 111 (.slice ba n bc) rfl rfl rfl (run_ld 63 (.tmp 110) rfl (by simp [Act.eval_put_ne, Act.eval_put_same, Act.size_put, hsz]) _ (ld_known p 5 _ _ c5)) hS ?_ ?_
  · refine wpAnyH_ready (rs := [14]) (by kernel_rfl) (by simp) (ready_val (i := 14) (o11.getD 14 default) 121 (.slice (some ⟨w2.heap.size, 0, none⟩) 1 1) rfl rfl rfl (run_bsl 63 1 #[(0, .tmp 120)] #[(0, .agg #[.int .i64 sa, .int .i64 sb, .int .i64 ja, .int .i64 jd, .int .i64 jl, .int .i64 ju, .int .i64 jv, .int .i64 at', .int .i64 i, .int .i64 1, .int .i64 (-1), .bool false])] rfl (by simp [Act.eval_put_ne, Act.eval_put_same, Act.size_put, hsz]) _ _ (bsl_known sa sb ja jd jl ju jv at' i _)) (hS.alloc _) ?_ AllReadyH.nil)
    exact bid_tail _ w2 _ p q r n bc ba V b sa sb ja jd jl ju jv at' i o (by simp [Act.size_put, hsz]) (by simp [Act.eval_put_ne, Act.eval_put_same, hsz]) (by simp [Act.eval_put_ne, Act.eval_put_same, Act.size_put, hsz]) (by simp [Act.eval_put_same, Act.size_put, hsz]) hb hv hn hnb ((Chg.refl _ _).drew.alloc _) (heap_alloc_new w2.drew _) hq hr hpq hpr (hS.alloc _) ho hQ (fun v w' h => NoPanic.normal (hK _ _ _ _ _ _ _ _ _ _ _ _ _ _ _ _ _ _ w' h)) _ (by kernel_rfl)
  refine ready_val (i := 14) (o11.getD 14 default) 121 (.slice (some ⟨w2.heap.size, 0, none⟩) 1 1) rfl rfl rfl (run_bsl 63 1 #[(0, .tmp 120)] #[(0, .agg #[.int .i64 sa, .int .i64 sb, .int .i64 ja, .int .i64 jd, .int .i64 jl, .int .i64 ju, .int .i64 jv, .int .i64 at', .int .i64 i, .int .i64 1, .int .i64 (-1), .bool false])] rfl (by simp [Act.eval_put_same, Act.size_put, hsz]) _ _ (bsl_known sa sb ja jd jl ju jv at' i _)) (hS.alloc _) ?_ AllReadyH.nil
  refine wpAnyH_ready (rs := [4]) (by kernel_rfl) (by simp) (ready_val (i := 4) (o11.getD 4 default) 111 (.slice ba n bc) rfl rfl rfl (run_ld 63 (.tmp 110) rfl (by simp [Act.eval_put_ne, Act.eval_put_same, Act.size_put, hsz]) _ (ld_known p 5 _ _ ((World.cell?_alloc_some w2.drew _ _ (by rw [c5]; rfl)).trans c5))) (hS.alloc _) ?_ AllReadyH.nil)
  rw [Act.put_comm _ _ _ (by intro d hd; cases hd; decide)]
  exact bid_tail _ w2 _ p q r n bc ba V b sa sb ja jd jl ju jv at' i o (by simp [Act.size_put, hsz]) (by simp [Act.eval_put_ne, Act.eval_put_same, hsz]) (by simp [Act.eval_put_ne, Act.eval_put_same, Act.size_put, hsz]) (by simp [Act.eval_put_same, Act.size_put, hsz]) hb hv hn hnb ((Chg.refl _ _).drew.alloc _) (heap_alloc_new w2.drew _) hq hr hpq hpr (hS.alloc _) ho hQ (fun v w' h => NoPanic.normal (hK _ _ _ _ _ _ _ _ _ _ _ _ _ _ _ _ _ _ w' h)) _ (by kernel_rfl)
end Go.Proofs.Ytminceigjejipaa
