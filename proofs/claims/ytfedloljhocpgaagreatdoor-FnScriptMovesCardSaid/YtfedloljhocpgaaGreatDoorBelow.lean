import Derived.Test.YtfedloljhocpgaaGreatDoorRows
import Derived.Test.YtfedloljhocpgaaGreatDoorRange
namespace Go.PM
theorem range_step (k m : Nat) (h : k < m) : List.range k ++ [k] <+: List.range m := by
  rw [← List.range_succ]
  obtain ⟨d, rfl⟩ : ∃ d, m = (k + 1) + d := ⟨m - (k + 1), by omega⟩
  rw [List.range_add]
  exact List.prefix_append _ _
end Go.PM
namespace Go.Proofs.YtfedloljhocpgaaGreatDoor
open Go.RowKit Go.PM
attribute [local go_sem] Oper.semAt_some

set_option maxRecDepth 100000 in
set_option maxHeartbeats 1000000 in
theorem below_iter (F : Fence) (n : Nat) (hF : F.fn 56) (hro : F.round = none) (hn : 1 ≤ n) :
    Iter 0 F n Tryz.prog 56 (fun y => #[.int .i64 9] ++ #[y] ++ #[]) (fun p : Nat => #[.int .i64 p]) (List.range 9) := by
  intro l J Jx W hJ hJx hY h0
  refine callsIn_of_wp Tryz.func56 rfl hF ?_ hro
  simp only [Tryz.ntmps56, List.size_toArray, List.length_cons, List.length_nil, Nat.reduceAdd, Nat.reduceSub, Array.replicate_succ, Array.replicate_zero, List.push_toArray, List.append_toArray, List.nil_append, List.cons_append]
  gi_wp2
  gi_loopw [4, 6] (fun _ i wr => ∃ k : Nat, k ≤ 9 ∧ i = .int .i64 k ∧ J (List.range k) wr ∧ W.heap.size ≤ wr.heap.size) (fun _ i _ => 9 - (intOf i).toNat)
  case atStart => exact ⟨0, by omega, rfl, h0, Nat.le_refl _⟩
  case round =>
    obtain ⟨k, hk, rfl, hj, hsz⟩ := hrel
    by_cases hlt : k < 9
    · obtain ⟨fn, tmps, assign, body, hy, hR⟩ := hY (List.range k) k wr hj hsz (range_step k 9 hlt)
      gi_wp2
      refine hR.mono ?_
      rintro e W3 (⟨rfl, hJ3, hK3, _⟩ | ⟨rfl, hJx3, _⟩)
      · have hsz3 := Nat.le_trans hsz hK3.size
        gi_wp2
        go_roundw
        case rel => exact ⟨k + 1, by omega, by go_num, by rw [List.range_succ]; exact hJ3, hsz3⟩
        case measure => simp [intOf]; omega
      · gi_wp2
        refine bodyPost_ret (results_none rfl _ _ _) rfl ?_
        exact ⟨⟨_, rfl⟩, .inr ⟨_, range_step k 9 hlt, hJx3⟩⟩
    · have hk' : k = 9 := by omega
      have hj' := hj
      rw [hk'] at hj'
      clear hk'
      gi_wp2
      go_end0
      exact ⟨⟨_, rfl⟩, .inl hj'⟩
end Go.Proofs.YtfedloljhocpgaaGreatDoor

