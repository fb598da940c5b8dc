import Derived.Test.YtogkodjlbdlgjaaNames
namespace Go.PM
open Go.RowKit
/-- the table with the sources of the first k places in it -/
def mix (f : Nat → ByteArray) (k : Nat) : Nat → ByteArray := fun q => if q < k then srcT f q else f q
theorem mix_zero (f : Nat → ByteArray) : mix f 0 = f := by funext q; simp [mix]
theorem mix_at (f : Nat → ByteArray) (k : Nat) : srcT (mix f k) k = srcT f k := by simp [srcT, mix]
theorem mix_set (f : Nat → ByteArray) (k : Nat) (hk : k < 9) : (tabA (mix f k)).setIfInBounds k (.string (srcT f k)) = tabA (mix f (k + 1)) := by
  have h := tabC_set (mix f k) k hk (srcT f k)
  have e : (fun q => if q = k then srcT f k else mix f k q) = mix f (k + 1) := by
    funext q
    by_cases hq : q = k
    · subst hq; simp [mix]
    · by_cases h2 : q < k
      · simp [mix, hq, h2, Nat.lt_succ_of_lt h2]
      · have : ¬ q < k + 1 := by omega
        simp [mix, hq, h2, this]
  rw [e] at h
  exact h
end Go.PM
namespace Go.Proofs.Ytogkodjlbdlgjaa
open Go.RowKit Go.PM
attribute [local go_sem] Oper.semAt_some

end Go.Proofs.Ytogkodjlbdlgjaa
