import Derived.Test.YtnhncbhhlbcieaaSlS
import Derived.Test.YtnhncbhhlbcieaaSlW
namespace Go.PD
open Go.PM Go.RowKit Go.Lib
theorem one_at {a : ByteArray} (h : a.size = 1) (h0 : 0 < a.size) (c : UInt8) : a[0] = c ↔ a = ⟨#[c]⟩ := by
  obtain ⟨d, rfl⟩ := one_of_size h
  have e : (⟨#[d]⟩ : ByteArray)[0] = d := rfl
  rw [e]
  constructor
  · intro h; rw [h]
  · intro h
    have := congrArg (fun s : ByteArray => s.data.toList) h
    simpa using this
/-- a letter that serves: a register that stands in no step so far -/
def okF (xs : List St) (c : UInt8) : Bool := decide (c ∈ regsL) && decide (c ∉ snL xs)
theorem arF_ok (xs : List St) (free : List UInt8) : arF xs free = (decide (free.length ≤ 2 ∧ free.Nodup) && free.all (okF xs)) := rfl
theorem okF_reg {xs : List St} {c : UInt8} (h : decide (c ∈ regsL) = false) : okF xs c = false := by unfold okF; rw [h]; rfl
theorem okF_hit {xs : List St} (hv : svalid xs = true) {c : UInt8} (k : Nat) (hk : k < xs.length) (h : xs[k].2.1 = ⟨#[c]⟩ ∨ xs[k].2.2 = ⟨#[c]⟩) : okF xs c = false := by
  unfold okF
  rw [decide_eq_false (p := c ∉ snL xs), Bool.and_false]
  intro h2
  exact h2 ((snL_mem (sv_mem hv) c).2 ⟨_, List.getElem_mem hk, h⟩)
theorem okF_yes {xs : List St} (hv : svalid xs = true) {c : UInt8} (h1 : decide (c ∈ regsL) = true) (h2 : ∀ k (hk : k < xs.length), ¬ (xs[k].2.1 = ⟨#[c]⟩ ∨ xs[k].2.2 = ⟨#[c]⟩)) : okF xs c = true := by
  unfold okF
  rw [h1, Bool.true_and, decide_eq_true_eq, snL_mem (sv_mem hv)]
  rintro ⟨x, hx, e⟩
  obtain ⟨k, hk, rfl⟩ := List.getElem_of_mem hx
  exact h2 k hk e
theorem ar_bad {xs : List St} {free : List UInt8} (k : Nat) (hk : k < free.length) (h : okF xs free[k] = false) : arF xs free = false := by
  rw [arF_ok]
  have : free.all (okF xs) = false := List.all_eq_false.2 ⟨_, List.getElem_mem hk, by rw [h]; decide⟩
  rw [this, Bool.and_false]
theorem ar_all {xs : List St} {free : List UInt8} (h1 : free.length ≤ 2) (h2 : free.Nodup) (h : ∀ k (hk : k < free.length), okF xs free[k] = true) : arF xs free = true := by
  rw [arF_ok, decide_eq_true ⟨h1, h2⟩, Bool.true_and, List.all_eq_true]
  intro c hc
  obtain ⟨k, hk, rfl⟩ := List.getElem_of_mem hc
  exact h k hk
theorem ar_dup {xs : List St} {free : List UInt8} (h : ¬ free.Nodup) : arF xs free = false := by
  rw [arF_ok, decide_eq_false (fun h2 => h h2.2)]; rfl
theorem nodup_two {f : ByteArray} (h : f.size ≤ 2) : f.data.toList.Nodup ↔ ∀ (h0 : 0 < f.size) (h1 : 1 < f.size), f[0] ≠ f[1] := by
  obtain ⟨⟨l⟩⟩ := f
  have hl : l.length ≤ 2 := h
  match l, hl with
  | [], _ => exact ⟨fun _ h0 _ => absurd (show 0 < 0 from h0) (by decide), fun _ => by simp⟩
  | [a], _ => exact ⟨fun _ _ h1 => absurd (show 1 < 1 from h1) (by decide), fun _ => by simp⟩
  | [a, b], _ =>
    constructor
    · intro hn _ _ e
      have e' : a = b := e
      simp [e'] at hn
    · intro hh
      have : a ≠ b := hh (show 0 < 2 by decide) (show 1 < 2 by decide)
      simp [this]
theorem frX_snoc (xs : List St) (fl : List UInt8) (k : Nat) (hk : k < xs.length) : (xs.take (k + 1)).map (frX fl) = (xs.take k).map (frX fl) ++ [(xs[k].1, frN fl xs[k].2.1, frN fl xs[k].2.2)] := by
  rw [take_snoc xs k hk, List.map_append]; rfl
end Go.PD
namespace Go.Proofs.Ytnhncbhhlbcieaa
open Go.RowKit Go.PM Go.PD Go.Lib
attribute [local go_sem] Oper.semAt_some

theorem reg_in (c : UInt8) : decide (c ∈ regsL) = inB (c.toNat : Int) 97 102 := by
  unfold inB
  rw [Bool.eq_iff_iff, decide_eq_true_eq]
  constructor
  · intro h
    simp only [regsL, List.mem_cons, List.not_mem_nil, or_false] at h
    rcases h with rfl | rfl | rfl | rfl | rfl | rfl <;> decide
  · intro h
    have h2' : (97 : Int) ≤ (c.toNat : Int) ∧ (c.toNat : Int) ≤ 102 := by simpa using h
    have h2 : 97 ≤ c.toNat ∧ c.toNat ≤ 102 := by omega
    have h3 : c.toNat = 97 ∨ c.toNat = 98 ∨ c.toNat = 99 ∨ c.toNat = 100 ∨ c.toNat = 101 ∨ c.toNat = 102 := by omega
    have key : ∀ d : UInt8, c.toNat = d.toNat → c = d := fun d e => UInt8.toNat.inj e
    rcases h3 with h3 | h3 | h3 | h3 | h3 | h3
    · rw [key 97 h3]; decide
    · rw [key 98 h3]; decide
    · rw [key 99 h3]; decide
    · rw [key 100 h3]; decide
    · rw [key 101 h3]; decide
    · rw [key 102 h3]; decide
set_option maxHeartbeats 800000 in
theorem l8Instead_c (a free : ByteArray) (ha : a.size = 1) (hs : free.size ≤ 2) (w : World) :
    Calls Try.prog 14 #[.string a, .string free] w fun e w' => e = .returned (.string (frN free.data.toList a)) ∧ w = w' := by
  have hfl : free.data.toList.length = free.size := size_data free
  have HF13 := Lib.hid (fun c W => l13Find_c ⟨#[116, 117]⟩ c W (by decide))
  obtain ⟨c, rfl⟩ := one_of_size ha
  by_cases ht : c = 116
  · subst ht
    have h5 := Lib.hid (fun W => HF13.out 116 W)
    rw [show indexByte (ByteArray.mk #[116, 117]).data.toList 116 = 0 by decide] at h5
    by_cases h0 : 0 < free.size
    · have HX := Lib.hid (extract_one free 0 h0)
      have HF := Lib.hid (frN_t (free := free.data.toList) (by omega))
      have t1 : (0 : Int) < (free.size : Int) := by omega
      clear hfl ha
      go_enter Try.func14, Try.ntmps14
      go_wp2_with (go_at_call 26; refine (h5.out _).mono ?_; rintro e w' ⟨rfl, rfl⟩)
      go_ret
      exact ⟨by rw [HF.out, ← HX.out]; rfl, rfl⟩
    · have HF := Lib.hid (frN_t0 (free := free.data.toList) (by omega))
      have t1 : ¬ (0 : Int) < (free.size : Int) := by omega
      clear hfl ha
      go_enter Try.func14, Try.ntmps14
      go_wp2_with (go_at_call 26; refine (h5.out _).mono ?_; rintro e w' ⟨rfl, rfl⟩)
      go_ret
      exact ⟨by rw [HF.out]; rfl, rfl⟩
  by_cases hu : c = 117
  · subst hu
    have h5 := Lib.hid (fun W => HF13.out 117 W)
    rw [show indexByte (ByteArray.mk #[116, 117]).data.toList 117 = 1 by decide] at h5
    by_cases h0 : 1 < free.size
    · have HX := Lib.hid (extract_one free 1 h0)
      have HF := Lib.hid (frN_u (free := free.data.toList) (by omega))
      have t1 : (1 : Int) < (free.size : Int) := by omega
      clear hfl ha ht
      go_enter Try.func14, Try.ntmps14
      go_wp2_with (go_at_call 26; refine (h5.out _).mono ?_; rintro e w' ⟨rfl, rfl⟩)
      go_ret
      exact ⟨by rw [HF.out, ← HX.out]; rfl, rfl⟩
    · have HF := Lib.hid (frN_u0 (free := free.data.toList) (by omega))
      have t1 : ¬ (1 : Int) < (free.size : Int) := by omega
      clear hfl ha ht
      go_enter Try.func14, Try.ntmps14
      go_wp2_with (go_at_call 26; refine (h5.out _).mono ?_; rintro e w' ⟨rfl, rfl⟩)
      go_ret
      exact ⟨by rw [HF.out]; rfl, rfl⟩
  · have hne : ∀ d : UInt8, c ≠ d → (⟨#[c]⟩ : ByteArray) ≠ ⟨#[d]⟩ := fun d h e => h (by
      have := congrArg (fun s : ByteArray => s.data.toList) e
      simpa using this)
    have HF := Lib.hid (frN_other (free := free.data.toList) (hne 116 ht) (hne 117 hu))
    have h5 := Lib.hid (fun W => HF13.out c W)
    have hix : indexByte (ByteArray.mk #[116, 117]).data.toList c < 0 := by
      have h6 : ¬ 0 ≤ indexByte (ByteArray.mk #[116, 117]).data.toList c := by
        rw [indexByte_mem]
        intro h
        have : c = 116 ∨ c = 117 := by simpa using h
        rcases this with e | e
        · exact ht e
        · exact hu e
      omega
    generalize indexByte (ByteArray.mk #[116, 117]).data.toList c = z at *
    have t1 : ¬ 0 ≤ z := by omega
    clear hne ht hu hfl ha
    go_enter Try.func14, Try.ntmps14
    go_wp2_with (go_at_call 26; refine (h5.out _).mono ?_; rintro e w' ⟨rfl, rfl⟩)
    go_ret
    exact ⟨by rw [HF.out]; rfl, rfl⟩
end Go.Proofs.Ytnhncbhhlbcieaa
