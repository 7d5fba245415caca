import Derived.Test.YtminceigjejipaaG13
import Derived.Test.YtminceigjejipaaKpB
/-
  yardkeep, Quiet: two markets that hold one; sameBills, sameTold, asks.
-/
namespace Go.Proofs.Ytminceigjejipaa
open Go.RowKit

theorem DoesRes.unique {m m1 m2 : MkG} {s : StepG} {z1 z2 : Int} {n1 n2 : List (Int × Int)} {b1 b2 : List InvG} (h : DoesRes m s z1 n1 b1 m1) (h' : DoesRes m s z2 n2 b2 m2) : z1 = z2 ∧ n1 = n2 ∧ b1 = b2 ∧ m1 = m2 := by
  rcases h with ⟨e, h, rfl, rfl⟩ | ⟨e, h, rfl, rfl⟩ | ⟨e, h, rfl, rfl⟩ | ⟨e, h, rfl, rfl⟩ | ⟨e, h, rfl⟩ | ⟨e, h, rfl⟩ | ⟨e, h, rfl, rfl⟩ | ⟨e, rfl, rfl, rfl, rfl⟩ <;>
    rcases h' with ⟨e', h', rfl, rfl⟩ | ⟨e', h', rfl, rfl⟩ | ⟨e', h', rfl, rfl⟩ | ⟨e', h', rfl, rfl⟩ | ⟨e', h', rfl⟩ | ⟨e', h', rfl⟩ | ⟨e', h', rfl, rfl⟩ | ⟨e', rfl, rfl, rfl, rfl⟩ <;>
    first
      | (exfalso; omega)
      | (have := LogRes.unique h h'; exact ⟨this.1, rfl, rfl, this.2⟩)
      | (have := CapacityRes.unique h h'; exact ⟨this.1, rfl, rfl, this.2⟩)
      | (have := TickRes.unique h h'; exact ⟨this.1, this.2.1, rfl, this.2.2⟩)
      | (have := BillRes.unique h h'; exact ⟨this.1, rfl, this.2.1, this.2.2⟩)
      | exact ⟨rfl, rfl, rfl, rfl⟩
/-- a call that is logged is ErrFull just if the log is full -/
theorem DoesRes.full {m m' : MkG} {s : StepG} {z : Int} {names : List (Int × Int)} {bills : List InvG} (h : DoesRes m s z names bills m') (hk : 1 ≤ s.kind ∧ s.kind ≤ 7) : z = 2 ↔ m.log.length = 300 := by
  have sub : submitE m s.a s.b s.job ≠ 2 := by
    unfold submitE
    split
    · decide
    · split
      · decide
      · split
        · decide
        · split
          · decide
          · split <;> decide
  have can : cancelE m s.a s.b ≠ 2 := by
    unfold cancelE
    split
    · decide
    · split
      · decide
      · split <;> decide
  have sus : suspendE m s.a ≠ 2 := by unfold suspendE; split <;> decide
  have pay : payE m s.a s.b ≠ 2 := by
    unfold payE
    split
    · decide
    · split <;> decide
  rcases h with ⟨_, h, _⟩ | ⟨_, h, _⟩ | ⟨_, h, _⟩ | ⟨_, h, _⟩ | ⟨_, h, _⟩ | ⟨_, h, _⟩ | ⟨_, h, _⟩ | ⟨e, _⟩
  · rcases h with ⟨hl, hz, _⟩ | ⟨hl, hz, _⟩ <;> constructor <;> intro _ <;> omega
  · rcases h with ⟨hl, hz, _⟩ | ⟨hl, hz, _⟩ <;> constructor <;> intro _ <;> omega
  · rcases h with ⟨hl, hz, _⟩ | ⟨hl, hz, _⟩ <;> constructor <;> intro _ <;> omega
  · rcases h with ⟨hl, hz, _⟩ | ⟨hl, ⟨_, hz, _⟩ | ⟨_, _, hz, _⟩ | ⟨_, _, hz, _⟩⟩ <;> constructor <;> intro _ <;> omega
  · rcases h with ⟨hl, hz, _⟩ | ⟨hl, _, hz, _⟩ | ⟨hl, _, hz, _⟩ <;> constructor <;> intro _ <;> omega
  · rcases h with ⟨hl, hz, _⟩ | ⟨hl, hz, _⟩ <;> constructor <;> intro _ <;> omega
  · rcases h with ⟨hl, hz, _⟩ | ⟨hl, hz, _⟩ <;> constructor <;> intro _ <;> omega
  · omega
theorem DoesRes.lists {m m' : MkG} {s : StepG} {z : Int} {names : List (Int × Int)} {bills : List InvG} (h : DoesRes m s z names bills m') (hok : MkOk m) : names.length ≤ 300 ∧ bills.length ≤ 300 := by
  rcases h with ⟨_, _, rfl, rfl⟩ | ⟨_, _, rfl, rfl⟩ | ⟨_, _, rfl, rfl⟩ | ⟨_, _, rfl, rfl⟩ | ⟨_, h, rfl⟩ | ⟨_, h, rfl⟩ | ⟨_, _, rfl, rfl⟩ | ⟨_, _, _, rfl, rfl⟩
  all_goals first
    | exact ⟨by simp, by simp⟩
    | exact ⟨TickRes.names_len h hok, by simp⟩
    | exact ⟨by simp, BillRes.len h hok⟩

theorem nameRow_cell {w : World} {v : Value} {l : List (Int × Int)} {i : Nat} {c : Int × Int} (h : w.ownsRow 0 90 2 v l.length (l.flatMap nameCells)) (hc : l[i]? = some c) :
    ∃ g cap, v = .slice (some ⟨g, 0, none⟩) l.length cap ∧ w.cell? ⟨g, i * 2, none⟩ = some (.int .i64 c.1) ∧ w.cell? ⟨g, i * 2 + 1, none⟩ = some (.int .i64 c.2) := by
  rcases h.2 with ⟨hv, h0⟩ | ⟨g, cap, cur, hv, hg, hh, r⟩
  · have := (List.getElem?_eq_some_iff.1 hc).1
    omega
  · refine ⟨g, cap, hv, ?_, ?_⟩
    · have h1 := h.cells (g := g) (by rw [hv]; rfl) (i * 2) (.int .i64 c.1) (by
        have := flat_get nameCells 2 (fun _ => rfl) l i c 0 hc (by omega)
        rw [Nat.add_zero] at this
        rw [this]; rfl)
      rwa [Addr.add_lit, Nat.zero_add] at h1
    · have h1 := h.cells (g := g) (by rw [hv]; rfl) (i * 2 + 1) (.int .i64 c.2) (by rw [flat_get nameCells 2 (fun _ => rfl) l i c 1 hc (by omega)]; rfl)
      rwa [Addr.add_lit, Nat.zero_add] at h1

set_option maxRecDepth 100000 in
set_option maxHeartbeats 4000000 in
theorem ksame_any (l : List InvG) (av bv : Value) (w : World) (ha : w.ownsRow 0 88 3 av l.length (l.flatMap invCells)) (hb : w.ownsRow 0 88 3 bv l.length (l.flatMap invCells)) (hl : l.length ≤ 300) :
    Calls Try.prog 33 #[av, bv] w fun e w' => e = .returned (.bool true) ∧ Chg (fun _ => False) w w' := by
  obtain ⟨aa, ac, hav⟩ := ownsRow_form ha
  obtain ⟨ba, bc, hbv⟩ := ownsRow_form hb
  subst hav hbv
  have HA := hide ha
  have HB := hide hb
  obtain ⟨n, hn⟩ : ∃ n, n = l.length := ⟨_, rfl⟩
  have HN := hide hn
  rw [← hn] at hl HA HB ⊢
  clear ha hb hn
  go_enter Try.func33, Try.ntmps33
  go_wp2
  go_loopw [5] (fun i wr => ∃ k : Nat, k ≤ n ∧ i = .int .i64 k ∧ Chg (fun _ => False) w wr) (fun i _ => n - (intOf i).toNat)
  case atStart => exact ⟨0, by omega, rfl, Chg.refl _ _⟩
  case round =>
    obtain ⟨k, hk, rfl, hcr⟩ := hrel
    have HCR := hide hcr
    by_cases hlt : k < n
    · obtain ⟨c, hc⟩ : ∃ c, l[k]? = some c := ⟨_, List.getElem?_eq_getElem (by rw [← HN.out]; exact hlt)⟩
      have hra : wr.ownsRow 0 88 3 (.slice aa n ac) l.length (l.flatMap invCells) := by
        have h1 := HA.out
        rw [HN.out] at h1 ⊢
        exact ownsRow_keep h1 (fun q hq => hcr.block q (h1.lt q hq).2 (fun h => h))
      have hrb : wr.ownsRow 0 88 3 (.slice ba n bc) l.length (l.flatMap invCells) := by
        have h1 := HB.out
        rw [HN.out] at h1 ⊢
        exact ownsRow_keep h1 (fun q hq => hcr.block q (h1.lt q hq).2 (fun h => h))
      obtain ⟨ga, ca, hva, _, _, hca⟩ := invRow_cell hra hc
      obtain ⟨gb, cb, hvb, _, _, hcb⟩ := invRow_cell hrb hc
      have haa : aa = some ⟨ga, 0, none⟩ := by simp at hva; exact hva.1
      have hbb : ba = some ⟨gb, 0, none⟩ := by simp at hvb; exact hvb.1
      subst haa hbb
      have k0 : (0 : Int) ≤ (k : Int) := by omega
      have k1 : (k : Int) < (n : Int) := by omega
      have hd : decide ((k : Int) < (n : Int)) = true := by simpa using k1
      have a0 : wr.cell? ⟨ga, k * 3, none⟩ = some (.int .i64 c.ten) := hca 0 _ rfl
      have a1 : wr.cell? ⟨ga, k * 3 + 1, none⟩ = some (.int .i64 c.ref) := hca 1 _ rfl
      have a2 : wr.cell? ⟨ga, k * 3 + 2, none⟩ = some (.int .i64 c.cents) := hca 2 _ rfl
      have b0 : wr.cell? ⟨gb, k * 3, none⟩ = some (.int .i64 c.ten) := hcb 0 _ rfl
      have b1 : wr.cell? ⟨gb, k * 3 + 1, none⟩ = some (.int .i64 c.ref) := hcb 1 _ rfl
      have b2 : wr.cell? ⟨gb, k * 3 + 2, none⟩ = some (.int .i64 c.cents) := hcb 2 _ rfl
      clear hcr hra hrb hva hvb hca hcb hc
      go_wp2
      go_quiet (fail)
      go_wp2
      go_roundw
      case rel => exact ⟨k + 1, by omega, by go_num, HCR.out.drewN _⟩
      case measure => simp [intOf]; omega
    · have hd : decide ((k : Int) < (n : Int)) = false := by simp; omega
      clear hcr
      go_wp2
      go_ret
      exact ⟨rfl, HCR.out⟩
end Go.Proofs.Ytminceigjejipaa
