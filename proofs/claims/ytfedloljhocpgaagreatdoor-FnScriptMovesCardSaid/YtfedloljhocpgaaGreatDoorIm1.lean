import Derived.Test.YtfedloljhocpgaaGreatDoorRows
import Derived.Test.YtfedloljhocpgaaGreatDoorPm
import Derived.Test.YtfedloljhocpgaaGreatDoorShelf
namespace Go.Proofs.YtfedloljhocpgaaGreatDoor
open Go.RowKit Go.PM Go.Lib

theorem positionIn_yes (names : ByteArray) (c : UInt8) (i : Nat) (h : indexByte names.data.toList c = (i : Nat)) (w : World) :
    Calls Tryz.prog 101 #[.string names, .string ⟨#[c]⟩] w fun e w' => e = .returned (.tuple #[.int .i64 i, .bool true]) ∧ w = w' := by
  have hI : ∀ W, Calls Tryz.prog 149 #[.string names, .string ⟨#[c]⟩] W fun e w' => e = .returned (.int .i64 (i : Nat)) ∧ W = w' := fun W =>
    (Tryz.strings_Index_one _ c W).mono fun _ _ ⟨h1, h2⟩ => ⟨by rw [h1, h], h2.symm⟩
  have h0 : (0 : Int) ≤ (i : Int) := by omega
  clear h
  go_enter Tryz.func101, Tryz.ntmps101
  go_wp2_with (go_at_call 149; refine (hI _).mono ?_; rintro e w' ⟨rfl, rfl⟩)
  go_ret2
  exact ⟨rfl, rfl⟩
theorem positionIn_no (names s : ByteArray) (h : ∀ c, s = ⟨#[c]⟩ → c ∉ names.data.toList) (w : World) :
    Calls Tryz.prog 101 #[.string names, .string s] w fun e w' => e = .returned (.tuple #[.int .i64 0, .bool false]) ∧ w = w' := by
  by_cases h1 : s.size = 1
  · obtain ⟨c, rfl⟩ := one_of_size h1
    have h3 : indexByte names.data.toList c < 0 := by
      have := h c rfl
      rw [← indexByte_mem] at this; omega
    have hI : ∀ W, Calls Tryz.prog 149 #[.string names, .string ⟨#[c]⟩] W fun e w' => e = .returned (.int .i64 (indexByte names.data.toList c)) ∧ W = w' := fun W =>
      (Tryz.strings_Index_one _ c W).mono fun _ _ ⟨h1, h2⟩ => ⟨h1, h2.symm⟩
    generalize indexByte names.data.toList c = i at *
    clear h h1
    go_enter Tryz.func101, Tryz.ntmps101
    go_wp2_with (go_at_call 149; refine (hI _).mono ?_; rintro e w' ⟨rfl, rfl⟩)
    go_ret2
    exact ⟨rfl, rfl⟩
  · have h2 : ((s.size : Int) != 1) = true := by simp; omega
    clear h h1
    go_enter Tryz.func101, Tryz.ntmps101
    go_wp2
    go_ret2
    exact ⟨rfl, rfl⟩
theorem indexOf_yes (s : ByteArray) (h : isP s = true) (w : World) :
    Calls Tryz.prog 46 #[.string s] w fun e w' => e = .returned (.tuple #[.int .i64 (pidx s), .bool true]) ∧ w = w' := by
  obtain ⟨c, rfl⟩ := one_of_size (isP_size h)
  have h2 : c ∈ placesL := by simpa [isP] using h
  have h4 : indexByte placesL c = (pidx ⟨#[c]⟩ : Nat) := (pidx_one h2).1
  have h5 := fun W => positionIn_yes ⟨#[97, 98, 99, 100, 101, 102, 65, 66, 67]⟩ c _ h4 W
  clear h h2 h4
  generalize pidx ⟨#[c]⟩ = i at *
  go_enter Tryz.func46, Tryz.ntmps46
  go_wp2_with (go_at_call 101; refine (h5 _).mono ?_; rintro e w' ⟨rfl, rfl⟩)
  go_ret2
  exact ⟨rfl, rfl⟩
theorem indexOf_no (s : ByteArray) (h : isP s = false) (w : World) :
    Calls Tryz.prog 46 #[.string s] w fun e w' => e = .returned (.tuple #[.int .i64 0, .bool false]) ∧ w = w' := by
  have h5 := fun W => positionIn_no ⟨#[97, 98, 99, 100, 101, 102, 65, 66, 67]⟩ s (fun c hc hm => by
    rw [hc] at h
    have : isP ⟨#[c]⟩ = true := by simpa [isP, placesL] using hm
    rw [this] at h; cases h) W
  clear h
  go_enter Tryz.func46, Tryz.ntmps46
  go_wp2_with (go_at_call 101; refine (h5 _).mono ?_; rintro e w' ⟨rfl, rfl⟩)
  go_ret2
  exact ⟨rfl, rfl⟩
theorem isPlace_c (s : ByteArray) (w : World) :
    Calls Tryz.prog 179 #[.string s] w fun e w' => e = .returned (.bool (isP s)) ∧ w = w' := by
  rcases Bool.eq_false_or_eq_true (isP s) with h | h
  · go_enter Tryz.func179, Tryz.ntmps179
    go_wp2_with (go_at_call 46; refine (indexOf_yes s h _).mono ?_; rintro e w' ⟨rfl, rfl⟩)
    go_ret
    exact ⟨by rw [h]; rfl, rfl⟩
  · go_enter Tryz.func179, Tryz.ntmps179
    go_wp2_with (go_at_call 46; refine (indexOf_no s h _).mono ?_; rintro e w' ⟨rfl, rfl⟩)
    go_ret
    exact ⟨by rw [h]; rfl, rfl⟩
theorem digits_mem (c : UInt8) : c ∈ ([48, 49, 50, 51, 52, 53, 54, 55, 56, 57] : List UInt8) ↔ 48 ≤ c.toNat ∧ c.toNat ≤ 57 := by
  constructor
  · intro h
    simp only [List.mem_cons, List.not_mem_nil, or_false] at h
    rcases h with rfl | rfl | rfl | rfl | rfl | rfl | rfl | rfl | rfl | rfl <;> decide
  · intro ⟨h1, h2⟩
    obtain ⟨n, hn⟩ : ∃ n, c.toNat = n := ⟨_, rfl⟩
    have hc : c = UInt8.ofNat n := by rw [← hn]; simp
    subst hc
    rw [hn] at h1 h2
    have : n = 48 ∨ n = 49 ∨ n = 50 ∨ n = 51 ∨ n = 52 ∨ n = 53 ∨ n = 54 ∨ n = 55 ∨ n = 56 ∨ n = 57 := by omega
    rcases this with rfl | rfl | rfl | rfl | rfl | rfl | rfl | rfl | rfl | rfl <;> decide
theorem isDigit_c (s : ByteArray) (w : World) :
    Calls Tryz.prog 145 #[.string s] w fun e w' => e = .returned (.bool (isD s)) ∧ w = w' := by
  rcases Bool.eq_false_or_eq_true (isD s) with h | h
  · obtain ⟨c, rfl⟩ := one_of_size (isD_size h)
    have h2 : c ∈ ([48, 49, 50, 51, 52, 53, 54, 55, 56, 57] : List UInt8) := by
      rw [digits_mem]; simpa [isD] using h
    obtain ⟨i, hi⟩ := Int.eq_ofNat_of_zero_le ((indexByte_mem _ _).2 h2)
    have h5 := fun W => positionIn_yes ⟨#[48, 49, 50, 51, 52, 53, 54, 55, 56, 57]⟩ c i hi W
    have HH := Lib.hid h
    clear h h2 hi
    go_enter Tryz.func145, Tryz.ntmps145
    go_wp2_with (go_at_call 101; refine (h5 _).mono ?_; rintro e w' ⟨rfl, rfl⟩)
    go_ret
    exact ⟨by rw [HH.out]; rfl, rfl⟩
  · have h5 := fun W => positionIn_no ⟨#[48, 49, 50, 51, 52, 53, 54, 55, 56, 57]⟩ s (fun c hc hm => by
      rw [hc] at h
      have : isD ⟨#[c]⟩ = true := by
        have := (digits_mem c).1 hm
        simpa [isD] using this
      rw [this] at h; cases h) W
    have HH := Lib.hid h
    clear h
    go_enter Tryz.func145, Tryz.ntmps145
    go_wp2_with (go_at_call 101; refine (h5 _).mono ?_; rintro e w' ⟨rfl, rfl⟩)
    go_ret
    exact ⟨by rw [HH.out]; rfl, rfl⟩
theorem isSource_c (s : ByteArray) (w : World) :
    Calls Tryz.prog 148 #[.string s] w fun e w' => e = .returned (.bool (isS s)) ∧ w = w' := by
  have HS : Hid (isS s = (isP s || isD s)) := rfl
  rcases Bool.eq_false_or_eq_true (isP s) with h | h
  all_goals
    go_enter Tryz.func148, Tryz.ntmps148
    go_wp2_with (first | (go_at_call 179; refine (isPlace_c _ _).mono ?_; rintro e w' ⟨rfl, rfl⟩) | (go_at_call 145; refine (isDigit_c _ _).mono ?_; rintro e w' ⟨rfl, rfl⟩))
    go_ret
    exact ⟨by rw [HS.out, h]; rfl, rfl⟩
theorem name_c (p : Nat) (hp : p < 9) (w : World) :
    Calls Tryz.prog 59 #[.int .i64 p] w fun e w' => e = .returned (.string (nm p)) ∧ w = w' := by
  have HN : Hid (∀ q, q < 9 → (ByteArray.mk #[97, 98, 99, 100, 101, 102, 65, 66, 67]).extract q (q+1) = nm q) := by
    show ∀ q, _
    intro q hq
    match q, hq with
    | 0, _ | 1, _ | 2, _ | 3, _ | 4, _ | 5, _ | 6, _ | 7, _ | 8, _ => decide +kernel
  go_enter Tryz.func59, Tryz.ntmps59
  go_wp2
  go_ret
  exact ⟨by rw [← HN.out p hp]; rfl, rfl⟩
theorem source_c (f : Nat → ByteArray) (p : Nat) (hp : p < 9) (w : World) :
    Calls Tryz.prog 110 #[tabX f, .int .i64 p] w fun e w' => e = .returned (.string (srcT f p)) ∧ Below w.heap.size w w' := by
  change Calls Tryz.prog _ #[tabV f, .int .i64 p] w _
  have hi := tabC_at f p hp
  by_cases h : f p = emp
  · have hi' : (tabC f)[p]? = some (.string ⟨#[]⟩) := by rw [hi, h]
    have HH := Lib.hid h
    clear hi h
    go_enter Tryz.func110, Tryz.ntmps110
    go_wp2_with (go_at_call 59; refine (name_c p hp _).mono ?_; rintro e w' ⟨rfl, rfl⟩)
    go_ret
    exact ⟨by rw [show srcT f p = nm p from if_pos HH.out]; rfl, by (repeat' (first | (with_reducible exact Below.refl _ _) | (with_reducible assumption) | (with_reducible refine Below.alloc ?_ ?_ _) | (with_reducible refine Below.drew ?_) | (with_reducible refine Below.setCell ?_ ?_ _) | (with_reducible exact Nat.le_refl _) | omega | ((repeat (first | rewrite [World.size_alloc] | rewrite [World.size_setCell] | rewrite [World.size_drew])); omega) | (simp; omega) | (simp; done)))⟩
  · have HH := Lib.hid h
    have hb : (f p).toList.isEmpty = false := by
      rw [ByteArray.toList_eq]
      cases hl : (f p).data.toList with
      | nil => exact absurd (Go.WideShapes.bytes_inj (by rw [hl])) h
      | cons a l => rfl
    clear h
    go_enter Tryz.func110, Tryz.ntmps110
    go_wp2
    go_ret
    exact ⟨by rw [show srcT f p = f p from if_neg HH.out]; rfl, by (repeat' (first | (with_reducible exact Below.refl _ _) | (with_reducible assumption) | (with_reducible refine Below.alloc ?_ ?_ _) | (with_reducible refine Below.drew ?_) | (with_reducible refine Below.setCell ?_ ?_ _) | (with_reducible exact Nat.le_refl _) | omega | ((repeat (first | rewrite [World.size_alloc] | rewrite [World.size_setCell] | rewrite [World.size_drew])); omega) | (simp; omega) | (simp; done)))⟩
set_option maxHeartbeats 400000 in
theorem with_yes (f : Nat → ByteArray) (a b : ByteArray) (ha : isP a = true) (hf : f (pidx a) = emp) (hb : isS b = true) (w : World) :
    Calls Tryz.prog 98 #[tabX f, .agg #[.string a, .string b]] w fun e w' => e = .returned (.tuple #[tabX (upd f (pidx a) b), .bool true]) ∧ Below w.heap.size w w' := by
  change Calls Tryz.prog _ #[tabV f, .agg #[.string a, .string b]] w _
  have hp := (pidx_spec ha).1
  have hi : (tabC f)[pidx a]? = some (.string ⟨#[]⟩) := by rw [tabC_at f _ hp, hf]
  have hg : ∃ g, g = upd f (pidx a) b := ⟨_, rfl⟩
  obtain ⟨g, hg⟩ := hg
  have hset : (tabC f).setIfInBounds (pidx a) (.string b) = tabC g := by rw [hg]; exact tabC_set f _ hp b
  have HG := Lib.hid hg
  clear hf hg
  have g0 := tabC_at g 0 (by omega)
  have g1 := tabC_at g 1 (by omega)
  have g2 := tabC_at g 2 (by omega)
  have g3 := tabC_at g 3 (by omega)
  have g4 := tabC_at g 4 (by omega)
  have g5 := tabC_at g 5 (by omega)
  have g6 := tabC_at g 6 (by omega)
  have g7 := tabC_at g 7 (by omega)
  have g8 := tabC_at g 8 (by omega)
  go_enter Tryz.func98, Tryz.ntmps98
  go_wp2_with (first | (go_at_call 46; refine (indexOf_yes a ha _).mono ?_; rintro e w' ⟨rfl, rfl⟩) | (go_at_call 148; refine (isSource_c b _).mono ?_; rintro e w' ⟨rfl, rfl⟩))
  refine bodyPost_ret (v := .tuple #[tabX g, .bool true]) (by simp [results, Tryz.results98, go_sem]) rfl ⟨by rw [HG.out], ?_⟩
  (repeat' (first | (with_reducible exact Below.refl _ _) | (with_reducible assumption) | (with_reducible refine Below.alloc ?_ ?_ _) | (with_reducible refine Below.drew ?_) | (with_reducible refine Below.setCell ?_ ?_ _) | (with_reducible exact Nat.le_refl _) | omega | ((repeat (first | rewrite [World.size_alloc] | rewrite [World.size_setCell] | rewrite [World.size_drew])); omega) | (simp; omega) | (simp; done)))
set_option maxHeartbeats 400000 in
theorem with_no (f : Nat → ByteArray) (a b : ByteArray) (h : ¬ (isP a = true ∧ f (pidx a) = emp ∧ isS b = true)) (w : World) :
    Calls Tryz.prog 98 #[tabX f, .agg #[.string a, .string b]] w fun e w' => e = .returned (.tuple #[zX, .bool false]) ∧ Below w.heap.size w w' := by
  change Calls Tryz.prog _ #[tabV f, .agg #[.string a, .string b]] w _
  rcases Bool.eq_false_or_eq_true (isP a) with ha | ha
  · have hp := (pidx_spec ha).1
    have hi := tabC_at f _ hp
    by_cases hf : f (pidx a) = emp
    · have hb : isS b = false := by
        rcases Bool.eq_false_or_eq_true (isS b) with hb | hb
        · exact absurd ⟨ha, hf, hb⟩ h
        · exact hb
      rw [hf] at hi
      clear h hf
      go_enter Tryz.func98, Tryz.ntmps98
      go_wp2_with (first | (go_at_call 46; refine (indexOf_yes a ha _).mono ?_; rintro e w' ⟨rfl, rfl⟩) | (go_at_call 148; refine (isSource_c b _).mono ?_; rintro e w' ⟨rfl, rfl⟩))
      refine bodyPost_ret (v := .tuple #[zX, .bool false]) (by simp [results, Tryz.results98, go_sem, emp]) rfl ⟨rfl, ?_⟩
      (repeat' (first | (with_reducible exact Below.refl _ _) | (with_reducible assumption) | (with_reducible refine Below.alloc ?_ ?_ _) | (with_reducible refine Below.drew ?_) | (with_reducible refine Below.setCell ?_ ?_ _) | (with_reducible exact Nat.le_refl _) | omega | ((repeat (first | rewrite [World.size_alloc] | rewrite [World.size_setCell] | rewrite [World.size_drew])); omega) | (simp; omega) | (simp; done)))
    · have hb : (f (pidx a)).toList.isEmpty = false := by
        rw [ByteArray.toList_eq]
        cases hl : (f (pidx a)).data.toList with
        | nil => exact absurd (Go.WideShapes.bytes_inj (by rw [hl])) hf
        | cons a l => rfl
      clear h hf
      go_enter Tryz.func98, Tryz.ntmps98
      go_wp2_with (first | (go_at_call 46; refine (indexOf_yes a ha _).mono ?_; rintro e w' ⟨rfl, rfl⟩) | (go_at_call 148; refine (isSource_c b _).mono ?_; rintro e w' ⟨rfl, rfl⟩))
      refine bodyPost_ret (v := .tuple #[zX, .bool false]) (by simp [results, Tryz.results98, go_sem]) rfl ⟨rfl, ?_⟩
      (repeat' (first | (with_reducible exact Below.refl _ _) | (with_reducible assumption) | (with_reducible refine Below.alloc ?_ ?_ _) | (with_reducible refine Below.drew ?_) | (with_reducible refine Below.setCell ?_ ?_ _) | (with_reducible exact Nat.le_refl _) | omega | ((repeat (first | rewrite [World.size_alloc] | rewrite [World.size_setCell] | rewrite [World.size_drew])); omega) | (simp; omega) | (simp; done)))
  · clear h
    go_enter Tryz.func98, Tryz.ntmps98
    go_wp2_with (first | (go_at_call 46; refine (indexOf_no a ha _).mono ?_; rintro e w' ⟨rfl, rfl⟩) | (go_at_call 148; refine (isSource_c b _).mono ?_; rintro e w' ⟨rfl, rfl⟩))
    refine bodyPost_ret (v := .tuple #[zX, .bool false]) (by simp [results, Tryz.results98, go_sem]) rfl ⟨rfl, ?_⟩
    (repeat' (first | (with_reducible exact Below.refl _ _) | (with_reducible assumption) | (with_reducible refine Below.alloc ?_ ?_ _) | (with_reducible refine Below.drew ?_) | (with_reducible refine Below.setCell ?_ ?_ _) | (with_reducible exact Nat.le_refl _) | omega | ((repeat (first | rewrite [World.size_alloc] | rewrite [World.size_setCell] | rewrite [World.size_drew])); omega) | (simp; omega) | (simp; done)))
end Go.Proofs.YtfedloljhocpgaaGreatDoor

