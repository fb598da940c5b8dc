import Derived.Test.YtfedloljhocpgaaGreatDoorLib
import Derived.Lib.Join
import Derived.Lib.ItoaLen
namespace Go.PG
open Go.RowKit Go.PM
def itoaB (n : Int) : ByteArray := ⟨(Lib.itoa n).toArray⟩
theorem itoaB_data (n : Int) : (itoaB n).data.toList = Lib.itoa n := by simp [itoaB]
def i64ok (n : Int) : Prop := -9223372036854775808 ≤ n ∧ n ≤ 9223372036854775807
def numL (ns : List Int) : List UInt8 := Lib.join (ns.map Lib.itoa) [32]
def numB (ns : List Int) : ByteArray := if ns = [] then ⟨#[45]⟩ else ⟨(numL ns).toArray⟩
theorem numB_none {ns : List Int} (h : ns = []) : numB ns = ⟨#[45]⟩ := by simp [numB, h]
theorem numB_some {ns : List Int} (h : ns ≠ []) : numB ns = ⟨(numL ns).toArray⟩ := by simp [numB, h]
theorem itoa_ne (n : Int) : Lib.itoa n ≠ [] := by
  unfold Lib.itoa
  split
  · simp
  · intro h
    have := congrArg List.length h
    rw [Lib.decDigits_length] at this
    have := Lib.nDigits_pos n.toNat
    simp at *; omega
theorem numL_len (xs : List Int) (h : ∀ n ∈ xs, i64ok n) : (numL xs).length ≤ 22 * xs.length := by
  induction xs with
  | nil => simp [numL, Lib.join_nil]
  | cons x r ih =>
    have ih := ih fun n hn => h n (List.mem_cons_of_mem _ hn)
    unfold numL at ih ⊢
    have hx := Lib.itoa_length_le x (h x List.mem_cons_self).1 (h x List.mem_cons_self).2
    rw [List.map_cons, Lib.join_cons, List.length_append]
    cases r with
    | nil => simp [Lib.joinTail]; omega
    | cons y r =>
      have h2 : (Lib.joinTail [32] (List.map Lib.itoa (y :: r))).length = 1 + (Lib.join (List.map Lib.itoa (y :: r)) [32]).length := by
        rw [List.map_cons, Lib.join_cons]; simp [Lib.joinTail]; omega
      rw [h2]; simp only [List.length_cons] at *; omega
end Go.PG

