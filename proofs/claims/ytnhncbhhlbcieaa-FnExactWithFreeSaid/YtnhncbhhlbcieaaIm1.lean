import Derived.Test.YtnhncbhhlbcieaaRows
import Derived.Test.YtnhncbhhlbcieaaPm
import Derived.Test.YtnhncbhhlbcieaaShelf
namespace Go.Proofs.Ytnhncbhhlbcieaa
open Go.RowKit Go.PM Go.Lib

theorem positionIn_yes (names : ByteArray) (c : UInt8) (i : Nat) (h : indexByte names.data.toList c = (i : Nat)) (w : World) :
    Calls Try.prog 20 #[.string names, .string ⟨#[c]⟩] w fun e w' => e = .returned (.tuple #[.int .i64 i, .bool true]) ∧ w = w' := by
  have hI : ∀ W, Calls Try.prog 32 #[.string names, .string ⟨#[c]⟩] W fun e w' => e = .returned (.int .i64 (i : Nat)) ∧ W = w' := fun W =>
    (Try.strings_Index_one _ c W).mono fun _ _ ⟨h1, h2⟩ => ⟨by rw [h1, h], h2.symm⟩
  have h0 : (0 : Int) ≤ (i : Int) := by omega
  clear h
  go_enter Try.func20, Try.ntmps20
  go_wp2_with (go_at_call 32; refine (hI _).mono ?_; rintro e w' ⟨rfl, rfl⟩)
  go_ret2
  exact ⟨rfl, rfl⟩
theorem positionIn_no (names s : ByteArray) (h : ∀ c, s = ⟨#[c]⟩ → c ∉ names.data.toList) (w : World) :
    Calls Try.prog 20 #[.string names, .string s] w fun e w' => e = .returned (.tuple #[.int .i64 0, .bool false]) ∧ w = w' := by
  by_cases h1 : s.size = 1
  · obtain ⟨c, rfl⟩ := one_of_size h1
    have h3 : indexByte names.data.toList c < 0 := by
      have := h c rfl
      rw [← indexByte_mem] at this; omega
    have hI : ∀ W, Calls Try.prog 32 #[.string names, .string ⟨#[c]⟩] W fun e w' => e = .returned (.int .i64 (indexByte names.data.toList c)) ∧ W = w' := fun W =>
      (Try.strings_Index_one _ c W).mono fun _ _ ⟨h1, h2⟩ => ⟨h1, h2.symm⟩
    generalize indexByte names.data.toList c = i at *
    clear h h1
    go_enter Try.func20, Try.ntmps20
    go_wp2_with (go_at_call 32; refine (hI _).mono ?_; rintro e w' ⟨rfl, rfl⟩)
    go_ret2
    exact ⟨rfl, rfl⟩
  · have h2 : ((s.size : Int) != 1) = true := by simp; omega
    clear h h1
    go_enter Try.func20, Try.ntmps20
    go_wp2
    go_ret2
    exact ⟨rfl, rfl⟩
theorem digits_mem (c : UInt8) : c ∈ ([48, 49, 50, 51, 52, 53, 54, 55, 56, 57] : List UInt8) ↔ 48 ≤ c.toNat ∧ c.toNat ≤ 57 := by
  constructor
  · intro h
    simp only [List.mem_cons, List.not_mem_nil, or_false] at h
    rcases h with rfl | rfl | rfl | rfl | rfl | rfl | rfl | rfl | rfl | rfl <;> decide
  · intro ⟨h1, h2⟩
    obtain ⟨n, hn⟩ : ∃ n, c.toNat = n := ⟨_, rfl⟩
    have hc : c = UInt8.ofNat n := by rw [← hn]; simp
    subst hc
    rw [hn] at h1 h2
    have : n = 48 ∨ n = 49 ∨ n = 50 ∨ n = 51 ∨ n = 52 ∨ n = 53 ∨ n = 54 ∨ n = 55 ∨ n = 56 ∨ n = 57 := by omega
    rcases this with rfl | rfl | rfl | rfl | rfl | rfl | rfl | rfl | rfl | rfl <;> decide
theorem isDigit_c (s : ByteArray) (w : World) :
    Calls Try.prog 35 #[.string s] w fun e w' => e = .returned (.bool (isD s)) ∧ w = w' := by
  rcases Bool.eq_false_or_eq_true (isD s) with h | h
  · obtain ⟨c, rfl⟩ := one_of_size (isD_size h)
    have h2 : c ∈ ([48, 49, 50, 51, 52, 53, 54, 55, 56, 57] : List UInt8) := by
      rw [digits_mem]; simpa [isD] using h
    obtain ⟨i, hi⟩ := Int.eq_ofNat_of_zero_le ((indexByte_mem _ _).2 h2)
    have h5 := fun W => positionIn_yes ⟨#[48, 49, 50, 51, 52, 53, 54, 55, 56, 57]⟩ c i hi W
    have HH := Lib.hid h
    clear h h2 hi
    go_enter Try.func35, Try.ntmps35
    go_wp2_with (go_at_call 20; refine (h5 _).mono ?_; rintro e w' ⟨rfl, rfl⟩)
    go_ret
    exact ⟨by rw [HH.out]; rfl, rfl⟩
  · have h5 := fun W => positionIn_no ⟨#[48, 49, 50, 51, 52, 53, 54, 55, 56, 57]⟩ s (fun c hc hm => by
      rw [hc] at h
      have : isD ⟨#[c]⟩ = true := by
        have := (digits_mem c).1 hm
        simpa [isD] using this
      rw [this] at h; cases h) W
    have HH := Lib.hid h
    clear h
    go_enter Try.func35, Try.ntmps35
    go_wp2_with (go_at_call 20; refine (h5 _).mono ?_; rintro e w' ⟨rfl, rfl⟩)
    go_ret
    exact ⟨by rw [HH.out]; rfl, rfl⟩
end Go.Proofs.Ytnhncbhhlbcieaa
