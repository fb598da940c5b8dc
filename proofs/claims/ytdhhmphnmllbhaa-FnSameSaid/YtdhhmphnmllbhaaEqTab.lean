import Derived.Test.YtdhhmphnmllbhaaTab
import Derived.ChangeKeysEq
namespace Go.Proofs.Ytdhhmphnmllbhaa
open Go.RowKit Go.PM
set_option maxRecDepth 100000 in
set_option maxHeartbeats 2000000 in
theorem eq_str (d : Nat) (a b : ByteArray) (W : World) : (Op.equalIn (d + 1) 9 (.string a) (.string b)).run Try.prog W = .ok (a == b) W := by
  simp [Op.equalIn, go_sem]
theorem eq_items (f g : Nat → ByteArray) (W : World) : ∀ is : List Nat, (∀ i ∈ is, i < 9) → (Op.eqItems 9999 9 1 (tabA f) (tabA g) is).run Try.prog W = .ok (is.all fun p => f p == g p) W := by
  intro is
  induction is with
  | nil => intro _; rfl
  | cons i is ih =>
    intro h
    have hi := h i (List.mem_cons_self ..)
    have h1 : (part 9 (tabA f) (i * 1)).run Try.prog W = .ok (.string (f i)) W := run_part_plain (P := Try.prog) W (by kernel_rfl) (by rw [Nat.mul_one]; exact tabC_at f i hi)
    have h2 : (part 9 (tabA g) (i * 1)).run Try.prog W = .ok (.string (g i)) W := run_part_plain (P := Try.prog) W (by kernel_rfl) (by rw [Nat.mul_one]; exact tabC_at g i hi)
    have h3 := eq_str 9998 (f i) (g i) W
    rw [Op.eqItems, Sem.run_bind, h1, Result.andThen_ok, Sem.run_bind, h2, Result.andThen_ok, Sem.run_bind, h3, Result.andThen_ok, List.all_cons]
    cases hb : (f i == g i)
    · rfl
    · rw [if_neg (by decide), ih (fun j hj => h j (List.mem_cons_of_mem _ hj)), Bool.true_and]
theorem eq_tab (f g : Nat → ByteArray) (W : World) : (Op.equal 62 (tabX f) (tabX g)).run Try.prog W = .ok ((List.range 9).all fun p => f p == g p) W := by
  have his : (Try.prog.info? 9).isSome = true := by kernel_rfl
  obtain ⟨i, hi⟩ := Option.isSome_iff_exists.1 his
  have hc : Try.prog.cellsOf 9 = 1 := by kernel_rfl
  have h := run_equalIn_array (P := Try.prog) (w := W) 9999 (t := 62) (e := 9) (n := 9) (tabA f) (tabA g) Try.underlying62 hi
  rw [hc] at h
  exact h.trans (eq_items f g W _ (fun i hi => by simpa using hi))
theorem beq_ba (a b : ByteArray) : (a == b) = decide (a = b) := by
  cases a with | mk a =>
  cases b with | mk b =>
  have h : ((ByteArray.mk a) == (ByteArray.mk b)) = (a == b) := rfl
  rw [h]
  by_cases e : a = b
  · subst e; simp
  · have : ¬ (ByteArray.mk a) = (ByteArray.mk b) := fun x => e (congrArg ByteArray.data x)
    simp [e]
theorem all_beq (f g : Nat → ByteArray) (l : List Nat) : (l.all fun p => f p == g p) = l.all fun p => decide (f p = g p) := by
  have : (fun p => f p == g p) = fun p => decide (f p = g p) := by funext p; exact beq_ba _ _
  rw [this]
end Go.Proofs.Ytdhhmphnmllbhaa
