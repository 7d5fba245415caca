import Derived.Test.YtminceigjejipaaG10
/-
  yardkeep: A STEP ('does') over the program's market: what it tells, what it leaves.
-/
namespace Go.Proofs.Ytminceigjejipaa
open Go.RowKit

structure StepG where
  kind : Int
  a : Int
  b : Int
  c : Int
  job : JobG
def stepV (s : StepG) : Value := .agg #[.int .i64 s.kind, .int .i64 s.a, .int .i64 s.b, .int .i64 s.c, .int .i64 s.job.arr, .int .i64 s.job.dl, .int .i64 s.job.len, .int .i64 s.job.units, .int .i64 s.job.val]
structure StepI64 (s : StepG) : Prop where
  a : I64 s.a
  b : I64 s.b
  c : I64 s.c
  j : JobI64 s.job

def evenB (b : Int) : Bool := b.tmod 2 == 0
/-- what a step tells, and makes of the market -/
def DoesRes (m : MkG) (s : StepG) (z : Int) (names : List (Int × Int)) (bills : List InvG) (m' : MkG) : Prop :=
  (s.kind = 1 ∧ SubmitRes m s.a s.b s.job z m' ∧ names = [] ∧ bills = []) ∨
  (s.kind = 2 ∧ CancelRes m s.a s.b z m' ∧ names = [] ∧ bills = []) ∨
  (s.kind = 3 ∧ SuspendRes m s.a (evenB s.b) z m' ∧ names = [] ∧ bills = []) ∨
  (s.kind = 4 ∧ CapacityRes m s.a s.b s.c z m' ∧ names = [] ∧ bills = []) ∨
  (s.kind = 5 ∧ TickRes m z names m' ∧ bills = []) ∨
  (s.kind = 6 ∧ BillRes m z bills m' ∧ names = []) ∨
  (s.kind = 7 ∧ PayRes m s.a s.b z m' ∧ names = [] ∧ bills = []) ∨
  ((s.kind < 1 ∨ 7 < s.kind) ∧ z = 0 ∧ m' = m ∧ names = [] ∧ bills = [])
theorem DoesRes.good {m m' : MkG} {s : StepG} {z : Int} {names : List (Int × Int)} {bills : List InvG} (h : DoesRes m s z names bills m') (hg : GoodM m) : GoodM m' := by
  rcases h with ⟨_, h, _⟩ | ⟨_, h, _⟩ | ⟨_, h, _⟩ | ⟨_, h, _⟩ | ⟨_, h, _⟩ | ⟨_, h, _⟩ | ⟨_, h, _⟩ | ⟨_, _, rfl, _⟩
  · exact hg.submit h
  · exact hg.cancel h
  · exact hg.suspend h
  · exact hg.capacity h
  · exact hg.tick h
  · exact hg.bill h
  · exact hg.pay h
  · exact hg

/-- behind a step: the market, the lists that came out -/
structure ToldAt (YAt : World → Nat → (Nat → Prop) → MkG → Prop) (w : World) (y : Nat) (F : Nat → Prop) (m' : MkG) (names : List (Int × Int)) (bills : List InvG) (nv bv : Value) (F' : Nat → Prop) (w' : World) : Prop where
  yard : YAt w' y F' m'
  chg : Chg F w w'
  foot : ∀ k, F' k → F k ∨ w.heap.size ≤ k
  ns : w'.ownsRow 0 90 2 nv names.length (names.flatMap nameCells)
  bs : w'.ownsRow 0 88 3 bv bills.length (bills.flatMap invCells)
  nn : ∀ k, nv.ownBlock = some k → w.heap.size ≤ k ∧ ¬ F' k
  bn : ∀ k, bv.ownBlock = some k → w.heap.size ≤ k ∧ ¬ F' k
theorem ToldAt.chg0 {YAt : World → Nat → (Nat → Prop) → MkG → Prop} (hY : YardSpec YAt) {w w' w2 : World} {y : Nat} {F : Nat → Prop} {m' : MkG} {names : List (Int × Int)} {bills : List InvG} {nv bv : Value} {F' : Nat → Prop} (h : ToldAt YAt w y F m' names bills nv bv F' w') {X : Nat → Prop} (hc : Chg X w' w2) (hX : ∀ k, X k → w.heap.size ≤ k ∧ ¬ F' k ∧ nv.ownBlock ≠ some k ∧ bv.ownBlock ≠ some k) : ToldAt YAt w y F m' names bills nv bv F' w2 := by
  have hs := h.chg.size
  exact ⟨hY.frame _ _ _ _ _ h.yard (fun k hk => hc.block k (hY.lt _ _ _ _ h.yard k hk) (fun e => (hX k e).2.1 hk)), h.chg.trans hc (fun k hk e => by have := (hX k e).1; omega), h.foot, ownsRow_keep h.ns (fun k hk => hc.block k (h.ns.lt k hk).2 (fun e => (hX k e).2.2.1 hk)), ownsRow_keep h.bs (fun k hk => hc.block k (h.bs.lt k hk).2 (fun e => (hX k e).2.2.2 hk)), h.nn, h.bn⟩
theorem ToldAt.start {YAt : World → Nat → (Nat → Prop) → MkG → Prop} {w w0 w' : World} {y : Nat} {F : Nat → Prop} {m' : MkG} {names : List (Int × Int)} {bills : List InvG} {nv bv : Value} {F' : Nat → Prop} (hc : Chg (fun _ => False) w0 w) (h : ToldAt YAt w y F m' names bills nv bv F' w') : ToldAt YAt w0 y F m' names bills nv bv F' w' := by
  have hs := hc.size
  exact ⟨h.yard, (hc.mono (fun _ _ h => h.elim)).trans h.chg (fun _ _ h => h), fun k hk => by rcases h.foot k hk with e | e; exact .inl e; exact .inr (by omega), h.ns, h.bs, fun k hk => ⟨by have := (h.nn k hk).1; omega, (h.nn k hk).2⟩, fun k hk => ⟨by have := (h.bn k hk).1; omega, (h.bn k hk).2⟩⟩
theorem ToldAt.plain {YAt : World → Nat → (Nat → Prop) → MkG → Prop} {w w' : World} {y : Nat} {F : Nat → Prop} {m' : MkG} (h : YTo YAt w y F m' w') : ∃ F', ToldAt YAt w y F m' [] [] (.slice none 0 0) (.slice none 0 0) F' w' := by
  obtain ⟨F', a1, a2, a3⟩ := h
  exact ⟨F', a1, a2, a3, World.ownsRow_nil _ _ _ _, World.ownsRow_nil _ _ _ _, fun k hk => by simp [Value.ownBlock] at hk, fun k hk => by simp [Value.ownBlock] at hk⟩

theorem three_set {w : World} {q : Nat} {x y z a b c : Value} {T : TypeId} (h : w.heap[q]? = some (.cells #[x, y, z] T (0, 0))) :
    (((w.setCell ⟨q, 0, none⟩ a).setCell ⟨q, 1, none⟩ b).setCell ⟨q, 2, none⟩ c).cell? ⟨q, 0, none⟩ = some a ∧ (((w.setCell ⟨q, 0, none⟩ a).setCell ⟨q, 1, none⟩ b).setCell ⟨q, 2, none⟩ c).cell? ⟨q, 1, none⟩ = some b ∧ (((w.setCell ⟨q, 0, none⟩ a).setCell ⟨q, 1, none⟩ b).setCell ⟨q, 2, none⟩ c).cell? ⟨q, 2, none⟩ = some c := by
  have h2 := box_set (f := 2) (box_set (f := 1) (box_set (f := 0) h a) b) c
  refine ⟨?_, ?_, ?_⟩
  · unfold World.cell?; rw [h2]; rfl
  · unfold World.cell?; rw [h2]; rfl
  · unfold World.cell?; rw [h2]; rfl

/-- the two boxes of 'does' -/
structure Bd (w : World) (q : Nat) (s : StepG) : Prop where
  b : w.heap[q]? = some (.cells #[.int .i64 s.kind, .int .i64 s.a, .int .i64 s.b, .int .i64 s.c, .int .i64 s.job.arr, .int .i64 s.job.dl, .int .i64 s.job.len, .int .i64 s.job.units, .int .i64 s.job.val] 56 (0, 0))
  r : w.heap[q + 1]? = some (.cells #[.int .i64 0, .slice none 0 0, .slice none 0 0] 51 (0, 0))
theorem Bd.chg {w w' : World} {O : Nat → Prop} {q : Nat} {s : StepG} (h : Bd w q s) (hc : Chg O w w') (hO : ∀ k, O k → k < q) : Bd w' q s :=
  ⟨(hc.block _ (Array.getElem?_eq_some_iff.1 h.b).1 (fun e => by have := hO _ e; omega)).trans h.b, (hc.block _ (Array.getElem?_eq_some_iff.1 h.r).1 (fun e => by have := hO _ e; omega)).trans h.r⟩
theorem Bd.c0 {w : World} {q : Nat} {s : StepG} (h : Bd w q s) : w.cell? ⟨q + 1, 0, none⟩ = some (.int .i64 0) ∧ w.cell? ⟨q + 1, 1, none⟩ = some (.slice none 0 0) ∧ w.cell? ⟨q + 1, 2, none⟩ = some (.slice none 0 0) ∧ ∀ r, w.frozen? ⟨q + 1, r, none⟩ = false := by
  refine ⟨?_, ?_, ?_, fun r => ?_⟩
  · unfold World.cell?; rw [h.r]; rfl
  · unfold World.cell?; rw [h.r]; rfl
  · unfold World.cell?; rw [h.r]; rfl
  · unfold World.frozen?; rw [h.r]; simp
theorem bd_alloc (w : World) (s : StepG) (w1 : World) (h : w1 = (w.alloc (.cells #[.int .i64 s.kind, .int .i64 s.a, .int .i64 s.b, .int .i64 s.c, .int .i64 s.job.arr, .int .i64 s.job.dl, .int .i64 s.job.len, .int .i64 s.job.units, .int .i64 s.job.val] 56)).alloc (.cells #[.int .i64 0, .slice none 0 0, .slice none 0 0] 51)) : Chg (fun _ => False) w w1 ∧ Bd w1 w.heap.size s := by
  subst h
  refine ⟨((Chg.refl _ _).alloc _).alloc _, ?_, ?_⟩
  · rw [Below.heap_alloc _ _ _ (by simp)]; exact heap_alloc_new w _
  · have := heap_alloc_new (w.alloc (.cells #[.int .i64 s.kind, .int .i64 s.a, .int .i64 s.b, .int .i64 s.c, .int .i64 s.job.arr, .int .i64 s.job.dl, .int .i64 s.job.len, .int .i64 s.job.units, .int .i64 s.job.val] 56)) (.cells #[.int .i64 0, .slice none 0 0, .slice none 0 0] 51)
    simpa using this

/-- what 'does' leaves -/
def Does (YAt : World → Nat → (Nat → Prop) → MkG → Prop) (w : World) (y : Nat) (F : Nat → Prop) (m : MkG) (s : StepG) (e : Ending) (w' : World) : Prop :=
  ∃ z names bills m' F' nv bv, e = .returned (.agg #[.int .i64 z, nv, bv]) ∧ DoesRes m s z names bills m' ∧ ToldAt YAt w y F m' names bills nv bv F' w'

theorem does_end {YAt : World → Nat → (Nat → Prop) → MkG → Prop} (hY : YardSpec YAt) {w w1 w2 : World} {y : Nat} {F F' : Nat → Prop} {m' : MkG} {names : List (Int × Int)} {bills : List InvG} {nv bv z : Value} (hc : Chg (fun _ => False) w w1) (h : ToldAt YAt w1 y F m' names bills nv bv F' w2) (hF : ∀ k, F k → k < w.heap.size) (hs1 : w1.heap.size = w.heap.size + 1 + 1) : ToldAt YAt w y F m' names bills nv bv F' (((w2.setCell ⟨w.heap.size + 1, 0, none⟩ z).setCell ⟨w.heap.size + 1, 1, none⟩ nv).setCell ⟨w.heap.size + 1, 2, none⟩ bv) := by
  refine (h.start hc).chg0 hY (X := fun k => k = w.heap.size + 1) ((((Chg.refl (fun k => k = w.heap.size + 1) w2).setCell (p := ⟨w.heap.size + 1, 0, none⟩) (.inl rfl) _).setCell (p := ⟨w.heap.size + 1, 1, none⟩) (.inl rfl) _).setCell (p := ⟨w.heap.size + 1, 2, none⟩) (.inl rfl) _) (fun k hk => ?_)
  subst hk
  refine ⟨by omega, fun e => ?_, fun e => ?_, fun e => ?_⟩
  · rcases h.foot _ e with e | e
    · have := hF _ e; omega
    · omega
  · have := (h.nn _ e).1; omega
  · have := (h.bn _ e).1; omega

set_option maxRecDepth 100000 in
set_option maxHeartbeats 2000000 in
theorem does_1 {YAt : World → Nat → (Nat → Prop) → MkG → Prop} (hY : YardSpec YAt) (y : Nat) (F : Nat → Prop) (m : MkG) (s : StepG) (w : World) (hy : YAt w y F m) (hok : GoodM m) (hi : StepI64 s) (hk : s.kind = 1) :
    Calls Try.prog 18 #[.pointer (some ⟨y, 0, none⟩), stepV s] w (Does YAt w y F m s) := by
  obtain ⟨k0, sa, sb, sc, j⟩ := s
  simp only at hk
  subst hk
  have HY := hide hY
  have HYA := hide hy
  have HOK := hide hok
  have HFY := hide (fun k (hk : F k) => hY.lt _ _ _ _ hy k hk)
  obtain ⟨i1, i2, i3, i4⟩ := hi
  simp only at i1 i2 i3 i4
  clear hy hok hY 
  unfold stepV
  go_enter Try.func18, Try.ntmps18
  go_wp2_with fail
  obtain ⟨w1, hw1⟩ : ∃ w1, w1 = (w.alloc (.cells #[.int .i64 1, .int .i64 sa, .int .i64 sb, .int .i64 sc, .int .i64 j.arr, .int .i64 j.dl, .int .i64 j.len, .int .i64 j.units, .int .i64 j.val] 56)).alloc (.cells #[.int .i64 0, .slice none 0 0, .slice none 0 0] 51) := ⟨_, rfl⟩
  rw [← hw1]
  obtain ⟨hc1, hbd⟩ := bd_alloc w ⟨1, sa, sb, sc, j⟩ w1 hw1
  have HS1 := hide (show w1.heap.size = w.heap.size + 1 + 1 by rw [hw1]; simp)
  have HC1 := hide hc1
  have HBD := hide hbd
  have HY1 := hide (HY.out.frame _ w1 _ _ _ HYA.out (fun k hk => hc1.block k (HFY.out k hk) (fun h => h)))
  clear hw1 hc1 hbd
  refine (HY.out.submit w1 y F m sa sb j HY1.out HOK.out.ok i1 i2 i4).mono ?_
  rintro e w2 ⟨z, m1, rfl, hres, hto⟩
  have HR := hide hres
  obtain ⟨F', htold⟩ := ToldAt.plain hto
  clear hres hto
  have HT := hide htold
  have HB2 := hide (HBD.out.chg htold.chg (fun k hk => HFY.out k hk))
  obtain ⟨z0, z1, z2, zf⟩ := HB2.out.c0
  clear htold
  go_wp2
  obtain ⟨r0, r1, r2⟩ := three_set (a := .int .i64 z) (b := (.slice none 0 0)) (c := (.slice none 0 0)) HB2.out.r
  refine bodyPost_ret (v := .agg #[.int .i64 z, (.slice none 0 0), (.slice none 0 0)]) (by simp [results, Try.results18, go_sem, r0, r1, r2]) rfl ⟨z, [], [], m1, F', (.slice none 0 0), (.slice none 0 0), rfl, .inl ⟨rfl, HR.out, rfl, rfl⟩, does_end HY.out HC1.out HT.out HFY.out HS1.out⟩

set_option maxRecDepth 100000 in
set_option maxHeartbeats 2000000 in
theorem does_2 {YAt : World → Nat → (Nat → Prop) → MkG → Prop} (hY : YardSpec YAt) (y : Nat) (F : Nat → Prop) (m : MkG) (s : StepG) (w : World) (hy : YAt w y F m) (hok : GoodM m) (hi : StepI64 s) (hk : s.kind = 2) :
    Calls Try.prog 18 #[.pointer (some ⟨y, 0, none⟩), stepV s] w (Does YAt w y F m s) := by
  obtain ⟨k0, sa, sb, sc, j⟩ := s
  simp only at hk
  subst hk
  have HY := hide hY
  have HYA := hide hy
  have HOK := hide hok
  have HFY := hide (fun k (hk : F k) => hY.lt _ _ _ _ hy k hk)
  obtain ⟨i1, i2, i3, i4⟩ := hi
  simp only at i1 i2 i3 i4
  clear hy hok hY 
  unfold stepV
  go_enter Try.func18, Try.ntmps18
  go_wp2_with fail
  obtain ⟨w1, hw1⟩ : ∃ w1, w1 = (w.alloc (.cells #[.int .i64 2, .int .i64 sa, .int .i64 sb, .int .i64 sc, .int .i64 j.arr, .int .i64 j.dl, .int .i64 j.len, .int .i64 j.units, .int .i64 j.val] 56)).alloc (.cells #[.int .i64 0, .slice none 0 0, .slice none 0 0] 51) := ⟨_, rfl⟩
  rw [← hw1]
  obtain ⟨hc1, hbd⟩ := bd_alloc w ⟨2, sa, sb, sc, j⟩ w1 hw1
  have HS1 := hide (show w1.heap.size = w.heap.size + 1 + 1 by rw [hw1]; simp)
  have HC1 := hide hc1
  have HBD := hide hbd
  have HY1 := hide (HY.out.frame _ w1 _ _ _ HYA.out (fun k hk => hc1.block k (HFY.out k hk) (fun h => h)))
  clear hw1 hc1 hbd
  refine (HY.out.cancel w1 y F m sa sb HY1.out HOK.out.ok i1 i2).mono ?_
  rintro e w2 ⟨z, m1, rfl, hres, hto⟩
  have HR := hide hres
  obtain ⟨F', htold⟩ := ToldAt.plain hto
  clear hres hto
  have HT := hide htold
  have HB2 := hide (HBD.out.chg htold.chg (fun k hk => HFY.out k hk))
  obtain ⟨z0, z1, z2, zf⟩ := HB2.out.c0
  clear htold
  go_wp2
  obtain ⟨r0, r1, r2⟩ := three_set (a := .int .i64 z) (b := (.slice none 0 0)) (c := (.slice none 0 0)) HB2.out.r
  refine bodyPost_ret (v := .agg #[.int .i64 z, (.slice none 0 0), (.slice none 0 0)]) (by simp [results, Try.results18, go_sem, r0, r1, r2]) rfl ⟨z, [], [], m1, F', (.slice none 0 0), (.slice none 0 0), rfl, .inr (.inl ⟨rfl, HR.out, rfl, rfl⟩), does_end HY.out HC1.out HT.out HFY.out HS1.out⟩

set_option maxRecDepth 100000 in
set_option maxHeartbeats 2000000 in
theorem does_3 {YAt : World → Nat → (Nat → Prop) → MkG → Prop} (hY : YardSpec YAt) (y : Nat) (F : Nat → Prop) (m : MkG) (s : StepG) (w : World) (hy : YAt w y F m) (hok : GoodM m) (hi : StepI64 s) (hk : s.kind = 3) :
    Calls Try.prog 18 #[.pointer (some ⟨y, 0, none⟩), stepV s] w (Does YAt w y F m s) := by
  obtain ⟨k0, sa, sb, sc, j⟩ := s
  simp only at hk
  subst hk
  have HY := hide hY
  have HYA := hide hy
  have HOK := hide hok
  have HFY := hide (fun k (hk : F k) => hY.lt _ _ _ _ hy k hk)
  obtain ⟨i1, i2, i3, i4⟩ := hi
  simp only at i1 i2 i3 i4
  clear hy hok hY 
  unfold stepV
  go_enter Try.func18, Try.ntmps18
  go_wp2_with fail
  obtain ⟨w1, hw1⟩ : ∃ w1, w1 = (w.alloc (.cells #[.int .i64 3, .int .i64 sa, .int .i64 sb, .int .i64 sc, .int .i64 j.arr, .int .i64 j.dl, .int .i64 j.len, .int .i64 j.units, .int .i64 j.val] 56)).alloc (.cells #[.int .i64 0, .slice none 0 0, .slice none 0 0] 51) := ⟨_, rfl⟩
  rw [← hw1]
  obtain ⟨hc1, hbd⟩ := bd_alloc w ⟨3, sa, sb, sc, j⟩ w1 hw1
  have HS1 := hide (show w1.heap.size = w.heap.size + 1 + 1 by rw [hw1]; simp)
  have HC1 := hide hc1
  have HBD := hide hbd
  have HY1 := hide (HY.out.frame _ w1 _ _ _ HYA.out (fun k hk => hc1.block k (HFY.out k hk) (fun h => h)))
  clear hw1 hc1 hbd
  refine (HY.out.suspend w1 y F m sa _ HY1.out HOK.out.ok i1).mono ?_
  rintro e w2 ⟨z, m1, rfl, hres, hto⟩
  have HR := hide hres
  obtain ⟨F', htold⟩ := ToldAt.plain hto
  clear hres hto
  have HT := hide htold
  have HB2 := hide (HBD.out.chg htold.chg (fun k hk => HFY.out k hk))
  obtain ⟨z0, z1, z2, zf⟩ := HB2.out.c0
  clear htold
  go_wp2
  obtain ⟨r0, r1, r2⟩ := three_set (a := .int .i64 z) (b := (.slice none 0 0)) (c := (.slice none 0 0)) HB2.out.r
  refine bodyPost_ret (v := .agg #[.int .i64 z, (.slice none 0 0), (.slice none 0 0)]) (by simp [results, Try.results18, go_sem, r0, r1, r2]) rfl ⟨z, [], [], m1, F', (.slice none 0 0), (.slice none 0 0), rfl, .inr (.inr (.inl ⟨rfl, HR.out, rfl, rfl⟩)), does_end HY.out HC1.out HT.out HFY.out HS1.out⟩

set_option maxRecDepth 100000 in
set_option maxHeartbeats 2000000 in
theorem does_4 {YAt : World → Nat → (Nat → Prop) → MkG → Prop} (hY : YardSpec YAt) (y : Nat) (F : Nat → Prop) (m : MkG) (s : StepG) (w : World) (hy : YAt w y F m) (hok : GoodM m) (hi : StepI64 s) (hk : s.kind = 4) :
    Calls Try.prog 18 #[.pointer (some ⟨y, 0, none⟩), stepV s] w (Does YAt w y F m s) := by
  obtain ⟨k0, sa, sb, sc, j⟩ := s
  simp only at hk
  subst hk
  have HY := hide hY
  have HYA := hide hy
  have HOK := hide hok
  have HFY := hide (fun k (hk : F k) => hY.lt _ _ _ _ hy k hk)
  obtain ⟨i1, i2, i3, i4⟩ := hi
  simp only at i1 i2 i3 i4
  clear hy hok hY 
  unfold stepV
  go_enter Try.func18, Try.ntmps18
  go_wp2_with fail
  obtain ⟨w1, hw1⟩ : ∃ w1, w1 = (w.alloc (.cells #[.int .i64 4, .int .i64 sa, .int .i64 sb, .int .i64 sc, .int .i64 j.arr, .int .i64 j.dl, .int .i64 j.len, .int .i64 j.units, .int .i64 j.val] 56)).alloc (.cells #[.int .i64 0, .slice none 0 0, .slice none 0 0] 51) := ⟨_, rfl⟩
  rw [← hw1]
  obtain ⟨hc1, hbd⟩ := bd_alloc w ⟨4, sa, sb, sc, j⟩ w1 hw1
  have HS1 := hide (show w1.heap.size = w.heap.size + 1 + 1 by rw [hw1]; simp)
  have HC1 := hide hc1
  have HBD := hide hbd
  have HY1 := hide (HY.out.frame _ w1 _ _ _ HYA.out (fun k hk => hc1.block k (HFY.out k hk) (fun h => h)))
  clear hw1 hc1 hbd
  refine (HY.out.capacity w1 y F m sa sb sc HY1.out HOK.out.ok i1 i2 i3).mono ?_
  rintro e w2 ⟨z, m1, rfl, hres, hto⟩
  have HR := hide hres
  obtain ⟨F', htold⟩ := ToldAt.plain hto
  clear hres hto
  have HT := hide htold
  have HB2 := hide (HBD.out.chg htold.chg (fun k hk => HFY.out k hk))
  obtain ⟨z0, z1, z2, zf⟩ := HB2.out.c0
  clear htold
  go_wp2
  obtain ⟨r0, r1, r2⟩ := three_set (a := .int .i64 z) (b := (.slice none 0 0)) (c := (.slice none 0 0)) HB2.out.r
  refine bodyPost_ret (v := .agg #[.int .i64 z, (.slice none 0 0), (.slice none 0 0)]) (by simp [results, Try.results18, go_sem, r0, r1, r2]) rfl ⟨z, [], [], m1, F', (.slice none 0 0), (.slice none 0 0), rfl, .inr (.inr (.inr (.inl ⟨rfl, HR.out, rfl, rfl⟩))), does_end HY.out HC1.out HT.out HFY.out HS1.out⟩

set_option maxRecDepth 100000 in
set_option maxHeartbeats 2000000 in
theorem does_7 {YAt : World → Nat → (Nat → Prop) → MkG → Prop} (hY : YardSpec YAt) (hP : PaidY YAt) (y : Nat) (F : Nat → Prop) (m : MkG) (s : StepG) (w : World) (hy : YAt w y F m) (hok : GoodM m) (hi : StepI64 s) (hk : s.kind = 7) :
    Calls Try.prog 18 #[.pointer (some ⟨y, 0, none⟩), stepV s] w (Does YAt w y F m s) := by
  obtain ⟨k0, sa, sb, sc, j⟩ := s
  simp only at hk
  subst hk
  have HY := hide hY
  have HP := hide hP
  have HYA := hide hy
  have HOK := hide hok
  have HFY := hide (fun k (hk : F k) => hY.lt _ _ _ _ hy k hk)
  obtain ⟨i1, i2, i3, i4⟩ := hi
  simp only at i1 i2 i3 i4
  clear hy hok hY hP
  unfold stepV
  go_enter Try.func18, Try.ntmps18
  go_wp2_with fail
  obtain ⟨w1, hw1⟩ : ∃ w1, w1 = (w.alloc (.cells #[.int .i64 7, .int .i64 sa, .int .i64 sb, .int .i64 sc, .int .i64 j.arr, .int .i64 j.dl, .int .i64 j.len, .int .i64 j.units, .int .i64 j.val] 56)).alloc (.cells #[.int .i64 0, .slice none 0 0, .slice none 0 0] 51) := ⟨_, rfl⟩
  rw [← hw1]
  obtain ⟨hc1, hbd⟩ := bd_alloc w ⟨7, sa, sb, sc, j⟩ w1 hw1
  have HS1 := hide (show w1.heap.size = w.heap.size + 1 + 1 by rw [hw1]; simp)
  have HC1 := hide hc1
  have HBD := hide hbd
  have HY1 := hide (HY.out.frame _ w1 _ _ _ HYA.out (fun k hk => hc1.block k (HFY.out k hk) (fun h => h)))
  clear hw1 hc1 hbd
  refine (HP.out.pay w1 y F m sa sb HY1.out HOK.out i1 i2).mono ?_
  rintro e w2 ⟨z, m1, rfl, hres, hto⟩
  have HR := hide hres
  obtain ⟨F', htold⟩ := ToldAt.plain hto
  clear hres hto
  have HT := hide htold
  have HB2 := hide (HBD.out.chg htold.chg (fun k hk => HFY.out k hk))
  obtain ⟨z0, z1, z2, zf⟩ := HB2.out.c0
  clear htold
  go_wp2
  obtain ⟨r0, r1, r2⟩ := three_set (a := .int .i64 z) (b := (.slice none 0 0)) (c := (.slice none 0 0)) HB2.out.r
  refine bodyPost_ret (v := .agg #[.int .i64 z, (.slice none 0 0), (.slice none 0 0)]) (by simp [results, Try.results18, go_sem, r0, r1, r2]) rfl ⟨z, [], [], m1, F', (.slice none 0 0), (.slice none 0 0), rfl, .inr (.inr (.inr (.inr (.inr (.inr (.inl ⟨rfl, HR.out, rfl, rfl⟩)))))), does_end HY.out HC1.out HT.out HFY.out HS1.out⟩

set_option maxRecDepth 100000 in
set_option maxHeartbeats 2000000 in
theorem does_5 {YAt : World → Nat → (Nat → Prop) → MkG → Prop} (hY : YardSpec YAt) (hT : TickY YAt) (y : Nat) (F : Nat → Prop) (m : MkG) (s : StepG) (w : World) (hy : YAt w y F m) (hok : GoodM m) (hi : StepI64 s) (hk : s.kind = 5) :
    Calls Try.prog 18 #[.pointer (some ⟨y, 0, none⟩), stepV s] w (Does YAt w y F m s) := by
  obtain ⟨k0, sa, sb, sc, j⟩ := s
  simp only at hk
  subst hk
  have HY := hide hY
  have HTK := hide hT
  have HYA := hide hy
  have HOK := hide hok
  have HFY := hide (fun k (hk : F k) => hY.lt _ _ _ _ hy k hk)
  obtain ⟨i1, i2, i3, i4⟩ := hi
  simp only at i1 i2 i3 i4
  clear hy hok hY hT
  unfold stepV
  go_enter Try.func18, Try.ntmps18
  go_wp2_with fail
  obtain ⟨w1, hw1⟩ : ∃ w1, w1 = (w.alloc (.cells #[.int .i64 5, .int .i64 sa, .int .i64 sb, .int .i64 sc, .int .i64 j.arr, .int .i64 j.dl, .int .i64 j.len, .int .i64 j.units, .int .i64 j.val] 56)).alloc (.cells #[.int .i64 0, .slice none 0 0, .slice none 0 0] 51) := ⟨_, rfl⟩
  rw [← hw1]
  obtain ⟨hc1, hbd⟩ := bd_alloc w ⟨5, sa, sb, sc, j⟩ w1 hw1
  have HS1 := hide (show w1.heap.size = w.heap.size + 1 + 1 by rw [hw1]; simp)
  have HC1 := hide hc1
  have HBD := hide hbd
  have HY1 := hide (HY.out.frame _ w1 _ _ _ HYA.out (fun k hk => hc1.block k (HFY.out k hk) (fun h => h)))
  clear hw1 hc1 hbd
  refine (HTK.out w1 y F m HY1.out HOK.out.ok HOK.out.ghost).mono ?_
  rintro e w2 ⟨lv, names, z, m1, F', rfl, hres, b1, b2, b3, b4, b5, _⟩
  have HR := hide hres
  have htold : ToldAt YAt w1 y F m1 names [] lv (.slice none 0 0) F' w2 := ⟨b1, b2, b3, b4, World.ownsRow_nil _ _ _ _, b5, fun k hk => by simp [Value.ownBlock] at hk⟩
  obtain ⟨la, lc, rfl⟩ := ownsRow_form b4
  clear hres b1 b2 b3 b4 b5
  have HT := hide htold
  have HB2 := hide (HBD.out.chg htold.chg (fun k hk => HFY.out k hk))
  obtain ⟨z0, z1, z2, zf⟩ := HB2.out.c0
  clear htold
  go_wp2
  obtain ⟨r0, r1, r2⟩ := three_set (a := .int .i64 z) (b := (.slice la names.length lc)) (c := (.slice none 0 0)) HB2.out.r
  refine bodyPost_ret (v := .agg #[.int .i64 z, (.slice la names.length lc), (.slice none 0 0)]) (by simp [results, Try.results18, go_sem, r0, r1, r2]) rfl ⟨z, names, [], m1, F', (.slice la names.length lc), (.slice none 0 0), rfl, .inr (.inr (.inr (.inr (.inl ⟨rfl, HR.out, rfl⟩)))), does_end HY.out HC1.out HT.out HFY.out HS1.out⟩

set_option maxRecDepth 100000 in
set_option maxHeartbeats 2000000 in
theorem does_6 {YAt : World → Nat → (Nat → Prop) → MkG → Prop} (hY : YardSpec YAt) (hP : PaidY YAt) (y : Nat) (F : Nat → Prop) (m : MkG) (s : StepG) (w : World) (hy : YAt w y F m) (hok : GoodM m) (hi : StepI64 s) (hk : s.kind = 6) :
    Calls Try.prog 18 #[.pointer (some ⟨y, 0, none⟩), stepV s] w (Does YAt w y F m s) := by
  obtain ⟨k0, sa, sb, sc, j⟩ := s
  simp only at hk
  subst hk
  have HY := hide hY
  have HP := hide hP
  have HYA := hide hy
  have HOK := hide hok
  have HFY := hide (fun k (hk : F k) => hY.lt _ _ _ _ hy k hk)
  obtain ⟨i1, i2, i3, i4⟩ := hi
  simp only at i1 i2 i3 i4
  clear hy hok hY hP
  unfold stepV
  go_enter Try.func18, Try.ntmps18
  go_wp2_with fail
  obtain ⟨w1, hw1⟩ : ∃ w1, w1 = (w.alloc (.cells #[.int .i64 6, .int .i64 sa, .int .i64 sb, .int .i64 sc, .int .i64 j.arr, .int .i64 j.dl, .int .i64 j.len, .int .i64 j.units, .int .i64 j.val] 56)).alloc (.cells #[.int .i64 0, .slice none 0 0, .slice none 0 0] 51) := ⟨_, rfl⟩
  rw [← hw1]
  obtain ⟨hc1, hbd⟩ := bd_alloc w ⟨6, sa, sb, sc, j⟩ w1 hw1
  have HS1 := hide (show w1.heap.size = w.heap.size + 1 + 1 by rw [hw1]; simp)
  have HC1 := hide hc1
  have HBD := hide hbd
  have HY1 := hide (HY.out.frame _ w1 _ _ _ HYA.out (fun k hk => hc1.block k (HFY.out k hk) (fun h => h)))
  clear hw1 hc1 hbd
  refine (HP.out.bill w1 y F m HY1.out HOK.out).mono ?_
  rintro e w2 ⟨lv, l, z, m1, F', rfl, hres, hio⟩
  have HR := hide hres
  have htold : ToldAt YAt w1 y F m1 [] l (.slice none 0 0) lv F' w2 := ⟨hio.yard, hio.chg, hio.foot, World.ownsRow_nil _ _ _ _, hio.own, fun k hk => by simp [Value.ownBlock] at hk, hio.new⟩
  obtain ⟨la, lc, rfl⟩ := ownsRow_form hio.own
  clear hres hio
  have HT := hide htold
  have HB2 := hide (HBD.out.chg htold.chg (fun k hk => HFY.out k hk))
  obtain ⟨z0, z1, z2, zf⟩ := HB2.out.c0
  clear htold
  go_wp2
  obtain ⟨r0, r1, r2⟩ := three_set (a := .int .i64 z) (b := (.slice none 0 0)) (c := (.slice la l.length lc)) HB2.out.r
  refine bodyPost_ret (v := .agg #[.int .i64 z, (.slice none 0 0), (.slice la l.length lc)]) (by simp [results, Try.results18, go_sem, r0, r1, r2]) rfl ⟨z, [], l, m1, F', (.slice none 0 0), (.slice la l.length lc), rfl, .inr (.inr (.inr (.inr (.inr (.inl ⟨rfl, HR.out, rfl⟩))))), does_end HY.out HC1.out HT.out HFY.out HS1.out⟩

set_option maxRecDepth 100000 in
set_option maxHeartbeats 2000000 in
theorem does_0 {YAt : World → Nat → (Nat → Prop) → MkG → Prop} (hY : YardSpec YAt) (y : Nat) (F : Nat → Prop) (m : MkG) (s : StepG) (w : World) (hy : YAt w y F m) (hk : s.kind < 1 ∨ 7 < s.kind) :
    Calls Try.prog 18 #[.pointer (some ⟨y, 0, none⟩), stepV s] w (Does YAt w y F m s) := by
  obtain ⟨k0, sa, sb, sc, j⟩ := s
  simp only at hk
  have HK := hide hk
  have HY := hide hY
  have HYA := hide hy
  have HFY := hide (fun k (hk : F k) => hY.lt _ _ _ _ hy k hk)
  have n1 : (k0 == 1) = false := by simp; omega
  have n2 : (k0 == 2) = false := by simp; omega
  have n3 : (k0 == 3) = false := by simp; omega
  have n4 : (k0 == 4) = false := by simp; omega
  have n5 : (k0 == 5) = false := by simp; omega
  have n6 : (k0 == 6) = false := by simp; omega
  have n7 : (k0 == 7) = false := by simp; omega
  clear hy hY hk
  unfold stepV
  go_enter Try.func18, Try.ntmps18
  go_wp2
  obtain ⟨w1, hw1⟩ : ∃ w1, w1 = (w.alloc (.cells #[.int .i64 k0, .int .i64 sa, .int .i64 sb, .int .i64 sc, .int .i64 j.arr, .int .i64 j.dl, .int .i64 j.len, .int .i64 j.units, .int .i64 j.val] 56)).alloc (.cells #[.int .i64 0, .slice none 0 0, .slice none 0 0] 51) := ⟨_, rfl⟩
  rw [← hw1]
  obtain ⟨hc1, hbd⟩ := bd_alloc w ⟨k0, sa, sb, sc, j⟩ w1 hw1
  have HS1 := hide (show w1.heap.size = w.heap.size + 1 + 1 by rw [hw1]; simp)
  have HY1 := hide (HY.out.frame _ w1 _ _ _ HYA.out (fun k hk => hc1.block k (HFY.out k hk) (fun h => h)))
  obtain ⟨z0, z1, z2, _⟩ := hbd.c0
  refine bodyPost_ret (v := .agg #[.int .i64 0, (.slice none 0 0), (.slice none 0 0)]) (by simp [results, Try.results18, go_sem, z0, z1, z2]) rfl ⟨0, [], [], m, F, _, _, rfl, .inr (.inr (.inr (.inr (.inr (.inr (.inr ⟨HK.out, rfl, rfl, rfl, rfl⟩)))))), ToldAt.start hc1 ⟨HY1.out, Chg.refl _ _, fun _ h => .inl h, World.ownsRow_nil _ _ _ _, World.ownsRow_nil _ _ _ _, fun k hk => by simp [Value.ownBlock] at hk, fun k hk => by simp [Value.ownBlock] at hk⟩⟩

theorem does_any {YAt : World → Nat → (Nat → Prop) → MkG → Prop} (hY : YardSpec YAt) (hT : TickY YAt) (hP : PaidY YAt) (y : Nat) (F : Nat → Prop) (m : MkG) (s : StepG) (w : World) (hy : YAt w y F m) (hok : GoodM m) (hi : StepI64 s) :
    Calls Try.prog 18 #[.pointer (some ⟨y, 0, none⟩), stepV s] w (Does YAt w y F m s) := by
  by_cases h1 : s.kind = 1
  · exact does_1 hY y F m s w hy hok hi h1
  by_cases h2 : s.kind = 2
  · exact does_2 hY y F m s w hy hok hi h2
  by_cases h3 : s.kind = 3
  · exact does_3 hY y F m s w hy hok hi h3
  by_cases h4 : s.kind = 4
  · exact does_4 hY y F m s w hy hok hi h4
  by_cases h5 : s.kind = 5
  · exact does_5 hY hT y F m s w hy hok hi h5
  by_cases h6 : s.kind = 6
  · exact does_6 hY hP y F m s w hy hok hi h6
  by_cases h7 : s.kind = 7
  · exact does_7 hY hP y F m s w hy hok hi h7
  exact does_0 hY y F m s w hy (by omega)
end Go.Proofs.Ytminceigjejipaa
