import Derived.Test.YtpbaomnhchljbaaTop2
import Derived.Test.YtpbaomnhchljbaaHar
namespace Go.PM
open Go.RowKit
theorem place_of {a : ByteArray} (h : isP a = true) : ∃ p, p < 9 ∧ a = nm p := ⟨pidx a, (pidx_spec h).1, (pidx_spec h).2.symm⟩
def pmI (s : ByteArray) : Int := if isP s then (pidx s : Int) else -1
theorem pmI_yes {p : Nat} (hp : p < 9) {s : ByteArray} (h : nm p = s) : pmI s = p := by
  subst h
  rw [pmI, if_pos (isP_nm hp), pidx_nm hp]
theorem pmI_no {s : ByteArray} (h : ∀ p, p < 9 → ¬ nm p = s) : pmI s = -1 := by
  refine if_neg fun hp => ?_
  obtain ⟨p, hp9, e⟩ := place_of hp
  exact h p hp9 e.symm
theorem rdS_value {f : Nat → UInt8} {a : ByteArray} (h : isP a = true) : rdS f a = f (pidx a) := by
  rw [rdS_cell (isP_isC h).1, (isP_isC h).2]
theorem rdS_dig {f : Nat → UInt8} {a : ByteArray} (h : isS a = true) (hp : isP a = false) : (⟨#[rdS f a]⟩ : ByteArray) = a := by
  have hd : isD a = true := by unfold isS at h; rw [hp, Bool.false_or] at h; exact h
  rw [rdS_digit (isD_notC hd)]
  obtain ⟨c, rfl⟩ := one_of_size (isD_size hd)
  simp [fc]
theorem srcM_S {xs : List Mv} (h : MV xs) {a : ByteArray} (ha : isP a = true) : isS (srcM xs a) = true := by
  unfold srcM
  cases hf : xs.find? (fun m => decide (m.1 = a)) with
  | none => show isS a = true; unfold isS; rw [ha]; rfl
  | some m =>
    have hm := h.1 m (List.mem_of_find?_eq_some hf)
    unfold mok at hm; rw [Bool.and_eq_true] at hm
    exact hm.2
theorem ao_cell {xs : List Mv} (h : MV xs) (f : Nat → UInt8) (k : Nat) (hk : k < 9) : (stB (aoS (tabOf xs) f)).extract k (k + 1) = ⟨#[rdS f (srcM xs (nm k))]⟩ := by
  rw [stB_cell _ k (by omega)]
  have h1 := srcM_place h (isP_nm hk)
  rw [pidx_nm hk] at h1
  unfold aoS
  rw [if_pos hk, h1]
theorem ofB_cell {s : ByteArray} (h : s.size = 11) (k : Nat) (hk : k < 11) : s.extract k (k + 1) = ⟨#[ofB s k]⟩ := by
  have := stB_cell (ofB s) k hk
  rw [ofB_stB h] at this
  exact this
theorem ao_valid {xs : List Mv} (h : MV xs) {s : ByteArray} (hs : stateV s = true) : stateV (stB (aoS (tabOf xs) (ofB s))) = true := by
  have h11 := (stateV_of hs).1
  unfold stateV at hs
  rw [Bool.and_eq_true, List.all_eq_true] at hs
  have hf : ∀ q, q < 11 → isV (ofB s q) = true := fun q hq => by
    refine hs.1 _ ?_
    have hl : q < s.data.toList.length := by rw [size_data]; omega
    unfold ofB
    rw [List.getD_eq_getElem?_getD, List.getElem?_eq_getElem hl]
    exact List.getElem_mem hl
  have hg : ∀ q, q < 11 → isV (aoS (tabOf xs) (ofB s) q) = true := fun q hq => by
    unfold aoS
    split
    · next hq9 =>
      have h1 := srcM_place h (isP_nm hq9)
      rw [pidx_nm hq9] at h1
      rw [h1]
      have hS := srcM_S h (isP_nm hq9)
      rcases Bool.eq_false_or_eq_true (isP (srcM xs (nm q))) with hp | hp
      · rw [rdS_value hp]
        exact hf _ (by have := (pidx_spec hp).1; omega)
      · have hd : isD (srcM xs (nm q)) = true := by unfold isS at hS; rw [hp, Bool.false_or] at hS; exact hS
        rw [rdS_digit (isD_notC hd)]
        obtain ⟨c, hc⟩ := one_of_size (isD_size hd)
        rw [hc] at hd ⊢
        have h2 : 48 ≤ c.toNat ∧ c.toNat ≤ 57 := by simpa [isD] using hd
        simp [fc, isV, h2]
    · exact hf q hq
  generalize aoS (tabOf xs) (ofB s) = g at *
  unfold stateV
  rw [Bool.and_eq_true]
  refine ⟨?_, by simp [stB_size]⟩
  rw [List.all_eq_true]
  intro x hx
  have : x = g 0 ∨ x = g 1 ∨ x = g 2 ∨ x = g 3 ∨ x = g 4 ∨ x = g 5 ∨ x = g 6 ∨ x = g 7 ∨ x = g 8 ∨ x = g 9 ∨ x = g 10 := by simpa [stB] using hx
  rcases this with rfl | rfl | rfl | rfl | rfl | rfl | rfl | rfl | rfl | rfl | rfl <;> exact hg _ (by decide)
theorem ao_tail {xs : List Mv} {s : ByteArray} (h : s.size = 11) : (stB (aoS (tabOf xs) (ofB s))).extract 9 11 = s.extract 9 11 := by
  obtain ⟨⟨l⟩⟩ := s
  have hl : l.length = 11 := h
  match l, hl with
  | [a0, a1, a2, a3, a4, a5, a6, a7, a8, a9, a10], _ => rfl
end Go.PM
namespace Go.Proofs.Ytpbaomnhchljbaa
open Go.RowKit Go.PM
set_option maxHeartbeats 800000 in
theorem pmIndex_c (s : ByteArray) (w : World) :
    Calls Try.prog 19 #[.string s] w fun e w' => e = .returned (.int .i64 (pmI s)) ∧ Below w.heap.size w w' := by
  have HNM : Hid (∀ q, q < 9 → (ByteArray.mk #[97, 98, 99, 100, 101, 102, 65, 66, 67]).extract q (q+1) = nm q) := by
    show ∀ q, _
    intro q hq
    match q, hq with
    | 0, _ | 1, _ | 2, _ | 3, _ | 4, _ | 5, _ | 6, _ | 7, _ | 8, _ => decide +kernel
  have HY := Lib.hid (fun p hp h => pmI_yes (s := s) (p := p) hp h)
  have HN := Lib.hid (pmI_no (s := s))
  go_enter Try.func19, Try.ntmps19
  go_wp2
  go_loopw [4, 7] (fun _ i wr => ∃ (k : Nat), k ≤ 9 ∧ i = .int .i64 k ∧ Hid (∀ p, p < k → ¬ nm p = s) ∧ Below w.heap.size w wr) (fun _ i _ => 9 - (intOf i).toNat)
  case atStart => exact ⟨0, by omega, rfl, fun p hp => absurd hp (Nat.not_lt_zero p), Below.refl _ _⟩
  case round =>
    obtain ⟨k, hk, rfl, hp, hb⟩ := hrel
    have hbs := hb.size
    by_cases hlt : k < 9
    · have i1 : (k : Int) < 9 := by omega
      have hex := HNM.out k hlt
      have H1 := Lib.hid (HY.out k hlt)
      have H2 : Hid (¬ nm k = s → ∀ p, p < k + 1 → ¬ nm p = s) := fun h p hpk => by
        rcases Nat.lt_succ_iff_lt_or_eq.1 hpk with h2 | h2
        · exact hp.out p h2
        · subst h2; exact h
      generalize nm k = q at *
      have tq := beq_str q s
      by_cases he : q = s
      · rw [decide_eq_true he] at tq
        have H3 := Lib.hid (H1.out he)
        clear he
        go_wp2
        go_ret
        exact ⟨by rw [H3.out]; rfl, hb⟩
      · rw [decide_eq_false he] at tq
        have H3 := Lib.hid (H2.out he)
        clear he
        go_wp2
        go_roundw
        case rel => exact ⟨k + 1, by omega, by go_num, H3.out, hb⟩
        case measure => simp [intOf] <;> omega
    · have H1 := Lib.hid (HN.out (fun p hp9 => hp.out p (by omega)))
      go_wp2
      go_ret
      exact ⟨by rw [H1.out]; rfl, hb⟩
end Go.Proofs.Ytpbaomnhchljbaa
