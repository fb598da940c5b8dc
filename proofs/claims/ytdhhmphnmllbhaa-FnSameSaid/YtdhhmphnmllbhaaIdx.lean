import Derived.Test.YtdhhmphnmllbhaaReaders
import Derived.Test.YtdhhmphnmllbhaaHar
namespace Go.PM
open Go.RowKit
theorem place_of {a : ByteArray} (h : isP a = true) : ∃ p, p < 9 ∧ a = nm p := ⟨pidx a, (pidx_spec h).1, (pidx_spec h).2.symm⟩
def pmI (s : ByteArray) : Int := if isP s then (pidx s : Int) else -1
theorem pmI_yes {p : Nat} (hp : p < 9) {s : ByteArray} (h : nm p = s) : pmI s = p := by
  subst h
  rw [pmI, if_pos (isP_nm hp), pidx_nm hp]
theorem pmI_no {s : ByteArray} (h : ∀ p, p < 9 → ¬ nm p = s) : pmI s = -1 := by
  refine if_neg fun hp => ?_
  obtain ⟨p, hp9, e⟩ := place_of hp
  exact h p hp9 e.symm
end Go.PM
namespace Go.Proofs.Ytdhhmphnmllbhaa
open Go.RowKit Go.PM
set_option maxHeartbeats 800000 in
theorem pmIndex_c (s : ByteArray) (w : World) :
    Calls Try.prog 21 #[.string s] w fun e w' => e = .returned (.int .i64 (pmI s)) ∧ Below w.heap.size w w' := by
  have HNM : Hid (∀ q, q < 9 → (ByteArray.mk #[97, 98, 99, 100, 101, 102, 65, 66, 67]).extract q (q+1) = nm q) := by
    show ∀ q, _
    intro q hq
    match q, hq with
    | 0, _ | 1, _ | 2, _ | 3, _ | 4, _ | 5, _ | 6, _ | 7, _ | 8, _ => decide +kernel
  have HY := Lib.hid (fun p hp h => pmI_yes (s := s) (p := p) hp h)
  have HN := Lib.hid (pmI_no (s := s))
  go_enter Try.func21, Try.ntmps21
  go_wp2
  go_loopw [4, 7] (fun _ i wr => ∃ (k : Nat), k ≤ 9 ∧ i = .int .i64 k ∧ Hid (∀ p, p < k → ¬ nm p = s) ∧ Below w.heap.size w wr) (fun _ i _ => 9 - (intOf i).toNat)
  case atStart => exact ⟨0, by omega, rfl, fun p hp => absurd hp (Nat.not_lt_zero p), Below.refl _ _⟩
  case round =>
    obtain ⟨k, hk, rfl, hp, hb⟩ := hrel
    have hbs := hb.size
    by_cases hlt : k < 9
    · have i1 : (k : Int) < 9 := by omega
      have hex := HNM.out k hlt
      have H1 := Lib.hid (HY.out k hlt)
      have H2 : Hid (¬ nm k = s → ∀ p, p < k + 1 → ¬ nm p = s) := fun h p hpk => by
        rcases Nat.lt_succ_iff_lt_or_eq.1 hpk with h2 | h2
        · exact hp.out p h2
        · subst h2; exact h
      generalize nm k = q at *
      have tq := beq_str q s
      by_cases he : q = s
      · rw [decide_eq_true he] at tq
        have H3 := Lib.hid (H1.out he)
        clear he
        go_wp2
        go_ret
        exact ⟨by rw [H3.out]; rfl, hb⟩
      · rw [decide_eq_false he] at tq
        have H3 := Lib.hid (H2.out he)
        clear he
        go_wp2
        go_roundw
        case rel => exact ⟨k + 1, by omega, by go_num, H3.out, hb⟩
        case measure => simp [intOf] <;> omega
    · have H1 := Lib.hid (HN.out (fun p hp9 => hp.out p (by omega)))
      go_wp2
      go_ret
      exact ⟨by rw [H1.out]; rfl, hb⟩
end Go.Proofs.Ytdhhmphnmllbhaa
