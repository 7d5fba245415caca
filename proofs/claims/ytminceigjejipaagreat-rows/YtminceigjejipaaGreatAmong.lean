import Derived.Test.YtminceigjejipaaGreatBase
namespace Go.Proofs.YtminceigjejipaaGreat
open Go.RowKit

theorem contains_snoc (l : List Int) (a x : Int) : (l ++ [a]).contains x = (l.contains x || (a == x)) := by
  simp
  rw [Bool.eq_iff_iff]; simp
  constructor <;> (intro h; rcases h with h | h <;> first | exact .inl h | exact .inr h.symm)

set_option maxHeartbeats 400000 in
theorem among_any (b n cap : Nat) (zs : List Int) (x : Int) (w : World) (hn : zs.length = n) (hs : n ≤ 1000)
    (hcells : ∀ j, j < n → w.cell? ⟨b, j, none⟩ = some (.int .i64 (zs.getD j 0))) :
    Calls Tryz.prog 10 #[.slice (some ⟨b, 0, none⟩) n cap, .int .i64 x] w fun e w' => e = .returned (.bool (zs.contains x)) ∧ w' = w := by
  go_enter Tryz.func10, Tryz.ntmps10
  go_wp2
  go_loop [5] (fun i => ∃ k : Nat, k ≤ n ∧ i = .int .i64 k ∧ (zs.take k).contains x = false) (fun i => n - (intOf i).toNat)
  case atStart => exact ⟨0, Nat.zero_le _, rfl, by simp⟩
  case round =>
    obtain ⟨k, hk, rfl, hc⟩ := hrel
    have HC : Hid ((zs.take k).contains x = false) := hc
    clear hc
    by_cases hlt : k < n
    · have hcell := hcells k hlt
      have hts : zs.take (k + 1) = zs.take k ++ [zs.getD k 0] := by
        rw [List.take_succ_eq_append_getElem (by omega)]
        simp [List.getD, hn, hlt]
      have HT := contains_snoc (zs.take k) (zs.getD k 0) x
      rw [← hts, HC.out] at HT
      have HT' : Hid ((zs.take (k + 1)).contains x = (false || zs.getD k 0 == x)) := HT
      clear HT hts
      obtain ⟨z, hz⟩ : ∃ z, z = zs.getD k 0 := ⟨_, rfl⟩
      rw [← hz] at hcell HT'
      clear hz hcells
      cases hx : z == x
      · go_wp2
        go_round
        case rel => exact ⟨k + 1, by omega, by go_num, by rw [HT'.out, hx]; rfl⟩
        case measure => simp [intOf]; omega
      · go_wp2
        go_ret
        refine ⟨ret_bool ?_, rfl⟩
        have h1 := HT'.out
        rw [hx] at h1
        have : x ∈ zs.take (k + 1) := by simpa using h1
        simpa using List.mem_of_mem_take this
    · go_wp2
      go_ret
      refine ⟨ret_bool ?_, rfl⟩
      have h1 := HC.out
      rw [List.take_of_length_le (by omega)] at h1
      simpa using h1.symm
end Go.Proofs.YtminceigjejipaaGreat
