import Derived.Test.YtfedloljhocpgaaGreatDoorRange
import Derived.RegionIn
import Derived.Sort.QuietThIn
namespace Go.PM
open Go.RowKit
def noDefer (ops : Array Oper) : Bool := ops.all fun o => match o.op with | .defer _ => false | _ => true
section
variable {F : Fence} {n : Nat} {P : Program} {ops : Array Oper} {Q : Exit → Act → World → Prop} {md : Region.Mode}
theorem uponIn_inRound (l : Nat) (o : Oper) (a : Act) (K : Act → World → Prop) (r : Result Next) : o.uponIn F n P a K Q r → o.uponIn (F.inRound l) n P a K Q r := by
  intro h
  cases r with
  | ok x w => cases x <;> exact h
  | halt x w => cases x <;> exact h
theorem operIn_inRound (l : Nat) (hro : F.round = none) {o : Oper} (ho : ∀ c, o.op ≠ .defer c) (a : Act) (w : World) (K : Act → World → Prop) (h : o.wpIn F n P a w K Q) : o.wpIn (F.inRound l) n P a w K Q := by
  refine ⟨h.1, uponIn_inRound l o a K _ ?_⟩
  have h2 := h.2
  rw [hro, Oper.semAt_none] at h2
  rw [Fence.inRound_round, Oper.semAt_some l _ _ ho]
  exact h2
theorem opIn_inRound (l : Nat) (hro : F.round = none) (hd : noDefer ops = true) (i : Nat) (K : Act → World → Prop) (a : Act) (w : World) (h : wpOpIn F n P ops Q i K a w) : wpOpIn (F.inRound l) n P ops Q i K a w := by
  unfold wpOpIn at *
  cases ho : ops[i]? with
  | none => rw [ho] at h; exact h
  | some o =>
    rw [ho] at h
    have hn : ∀ c, o.op ≠ .defer c := by
      unfold noDefer at hd
      rw [Array.all_eq_true] at hd
      obtain ⟨hi, he⟩ := Array.getElem?_eq_some_iff.1 ho
      have := hd i hi
      rw [he] at this
      intro c hc; rw [hc] at this; cases this
    by_cases hw : Region.wanted o (yielded ops a.tmps) = true
    · simp only [hw, if_true] at h ⊢
      exact operIn_inRound l hro hn a w K h
    · simp only [hw] at h ⊢
      exact h
theorem anyIn_inRound (l : Nat) (hro : F.round = none) (hd : noDefer ops = true) : ∀ (fuel : Nat) (listed : Array Bool) (a : Act) (w : World), wpAnyIn F n P md ops Q fuel listed a w → wpAnyIn (F.inRound l) n P md ops Q fuel listed a w := by
  intro fuel
  induction fuel with
  | zero => intro listed a w h; exact h
  | succ fuel ih =>
    intro listed a w h
    refine ⟨h.1, fun i hi => opIn_inRound l hro hd i _ a w ?_⟩
    exact wpOpIn_mono (fun a w => ih _ a w) (h.2 i hi)
theorem region_inRound {id l : Nat} {a : Act} {w : World} (hro : F.round = none) (hd : noDefer ops = true) (hm : P.follows .mixedOrders = true)
    (h : wpAnyIn F n P .any ops Q ops.size (Array.replicate ops.size false) a w.drew) : (Code.region id ops true).wpIn (F.inRound l) n P Q a w :=
  wpIn_region_any hm (anyIn_inRound l hro hd _ _ _ _ h)
theorem region_quiet_inRound {C : World → Prop} {id l : Nat} {a : Act} {w : World} (hro : F.round = none) (hd : noDefer ops = true) (hm : P.follows .mixedOrders = true) (hB : Region.lexB .any ops = true) (hC : C w.drew)
    (h : wpQuietIn F n P ops C (fun a' => ∀ w', C w' → Q .normal a' w') ops.toList a) : (Code.region id ops true).wpIn (F.inRound l) n P Q a w := by
  simp only [Region.lexB, Bool.and_eq_true] at hB
  refine region_inRound hro hd hm (wpAnyIn_of_quiet (Q := fun a' => ∀ w', C w' → Q .normal a' w') hro (fun _ w' hw' h => h w' hw') _ _ _ _ hC ?_)
  have := wpAnyQIn_lex (F := F) (n := n) (C := C) (md := .any) hB.1 ops.toList 0 (Array.replicate ops.size false) a (by simp) (by simpa using hB.2) h
  simpa using this
end
end Go.PM

