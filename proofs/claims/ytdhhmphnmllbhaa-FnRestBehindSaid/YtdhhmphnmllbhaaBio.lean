import Derived.Test.YtdhhmphnmllbhaaIdle
import Derived.Test.YtdhhmphnmllbhaaOrdI
namespace Go.PM
open Go.RowKit
/-- the moves without idle ones, in the order of their places; none where they are not valid -/
def bioM (xs : List Mv) : List Mv := if mvalid xs then busyF xs 9 else []
theorem bioM_yes {xs : List Mv} (h : MV xs) : bioM xs = busyF xs 9 := if_pos (by simpa [mvalid] using h)
theorem bioM_no {xs : List Mv} (h : ¬ MV xs) : bioM xs = [] := if_neg (by simpa [mvalid] using h)
theorem bioM_len (xs : List Mv) : (bioM xs).length ≤ 9 := by
  unfold bioM; split
  · exact busyF_len xs 9
  · simp
theorem Wt_nil : Wt [] := ⟨by simp, by simp, by simp, by simp, by simp [rdN]⟩
theorem bioM_Wt (xs : List Mv) : Wt (bioM xs) := by
  by_cases h : MV xs
  · rw [bioM_yes h]; exact busyF_Wt h
  · rw [bioM_no h]; exact Wt_nil
theorem bioM_tab {xs : List Mv} (h : MV xs) : mvT (noIdle (tabOf xs)) (List.range 9) = bioM xs := by
  rw [mvT_idle, bioM_yes h]
  exact lsF_congr fun p hp => srcT_M h hp
theorem bioM_zero {xs : List Mv} (h : ¬ MV xs) : mvT (noIdle (fun _ => emp)) (List.range 9) = bioM xs := by
  rw [mvT_idle, bioM_no h, ← lsF_nm]
  exact lsF_congr fun p _ => srcT_zero p
theorem ordM_bio (xs : List Mv) : ordM xs = ordF 19 (bioM xs) := by
  by_cases h : MV xs
  · rw [bioM_yes h]; unfold ordM; rw [if_pos (by simpa [mvalid] using h)]
  · rw [bioM_no h, ordF_nil]; unfold ordM; rw [if_neg (by simpa [mvalid] using h)]
theorem stL_len (ms : List Mv) : (stL ms).length = ms.length := by simp [stL]
theorem ordM_len (xs : List Mv) : (ordM xs).length ≤ 19 := by
  unfold ordM; split
  · exact ordF_len _ _
  · simp
theorem wspM_len (xs : List Mv) : (wspM xs).length ≤ 9 := by
  unfold wspM; split
  · have h1 := takF_len 9 (busyF xs 9)
    have h2 := busyF_len xs 9
    unfold takM; omega
  · simp
theorem takF_nil (n : Nat) : takF n [] = [] := takF_none rfl
end Go.PM
namespace Go.Proofs.Ytdhhmphnmllbhaa
open Go.RowKit Go.PM
attribute [local go_sem] Oper.semAt_some

end Go.Proofs.Ytdhhmphnmllbhaa
