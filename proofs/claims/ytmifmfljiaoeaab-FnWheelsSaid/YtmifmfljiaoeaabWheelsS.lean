import Derived.Test.YtmifmfljiaoeaabWheelR
import Derived.Test.YtmifmfljiaoeaabCut
import Derived.Test.YtmifmfljiaoeaabMarkT
namespace Go.PW
open Go.PM
def wheelsT (f : Nat → ByteArray) (k : Nat) : List ByteArray := (wheelsF f k).map txt
def wheelsB (xs : List Mv) : List ByteArray := if mvalid xs then wheelsT (tabOf xs) 9 else []
theorem wheelsB_len (xs : List Mv) : (wheelsB xs).length ≤ 1000 := by
  unfold wheelsB
  by_cases h : mvalid xs = true
  · rw [if_pos h]
    have := wheelsF_len (f := tabOf xs) 9
    unfold wheelsT; rw [List.length_map]; omega
  · rw [if_neg h]; simp
end Go.PW
namespace Go.Proofs.Ytmifmfljiaoeaab
open Go.RowKit Go.PM Go.PW Go.Lib

set_option maxRecDepth 100000 in
set_option maxHeartbeats 1000000 in
theorem spWheelsOf_c (xs : List Mv) (v : Value) (w : World) (hx : RdM w v xs) (hz : ∀ m ∈ xs, m.1.size ≤ 9223372036854775807 ∧ m.2.size ≤ 9223372036854775807) (hn' : xs.length ≤ 1048576) :
    Calls Try.prog 36 #[v] w fun e w' => ∃ v', e = .returned (.tuple #[v', .bool (mvalid xs)]) ∧ w'.ownsRow w.heap.size 9 1 v' (wheelsB xs).length (tcells (wheelsB xs)) ∧ Below w.heap.size w w' := by
  have hE := World.ownsRow_lit (e := 9) (base := w.heap.size) (size := 1) w #[] 0 (Nat.le_refl _) (Nat.zero_le _) rfl
  rcases Bool.eq_false_or_eq_true (mvalid xs) with h1 | h1
  · rw [h1, show wheelsB xs = wheelsT (tabOf xs) 9 from if_pos h1]
    have hmv : MV xs := by simpa [mvalid] using h1
    have HN : Hid (∀ q, q < 9 → (ByteArray.mk #[97, 98, 99, 100, 101, 102, 65, 66, 67]).extract q (q+1) = sn q) := by
      show ∀ q, _
      intro q hq
      match q, hq with
      | 0, _ | 1, _ | 2, _ | 3, _ | 4, _ | 5, _ | 6, _ | 7, _ | 8, _ => decide +kernel
    have HRG := Lib.hid (fun i (hi : i < 9) W (hW : RdM W v xs) => l3Wheel_c xs hmv v i hi W hW)
    have HX := Lib.hid (fun W (hW : Below w.heap.size w W) => hx.below hW)
    generalize tabOf xs = f at *
    go_enter Try.func36, Try.ntmps36
    go_wp2_with fail
    refine (spMovesValid_c xs v _ (hx.below ((Below.refl _ _).alloc (Nat.le_refl _) _)) hz hn').mono ?_
    rintro e w1 ⟨he, hb1⟩
    rw [h1] at he
    subst he
    have hb1w : Below w.heap.size w w1 := ((Below.refl _ _).alloc (Nat.le_refl _) _).trans (hb1.mono (by simp))
    have hE1 := own_keep hE hb1
    clear hb1
    go_wp2
    go_loopw [4, 5, 6, 7, 13] (fun o sn _ _ i wr => ∃ (k : Nat), k ≤ 9 ∧ i = .int .i64 k ∧ wr.ownsRow w.heap.size 9 1 o (wheelsT f k).length (tcells (wheelsT f k)) ∧ sn = .string (txt (wheelsF f k).flatten) ∧ Below w.heap.size w wr) (fun _ _ _ _ i _ => 9 - (RowKit.intOf i).toNat)
    case atStart => exact ⟨0, by omega, rfl, hE1, rfl, hb1w⟩
    case round =>
      obtain ⟨k, hk, rfl, ho, rfl, hb⟩ := hrel
      have hbs := hb.size
      by_cases hlt : k < 9
      · have hex := HN.out k hlt
        have hxr := HX.out wr hb
        have hrg := HRG.out k hlt wr hxr
        have hfl := wheelsF_flat (f := f) k
        have hfz := txt_size (wheelsF f k).flatten
        have hsz := txt_size (wheelL f k)
        have hwl := wheelL_len (f := f) k
        obtain ⟨h, hh, hle, hm⟩ := wheelL_head (f := f) hlt
        have hh9 : h < 9 := by omega
        have HSEEN := Lib.hid (fun hl => seen_iff (f := f) hlt hl hh)
        have hmem := txt_mem (fun a ha => by have := hfl.1 a ha; omega) (show h < 19 by omega) (l := (wheelsF f k).flatten)
        have HME := Lib.hid hmem
        have hpos : 0 < (wheelL f k).length := List.length_pos_of_mem hm
        have HT0 : Hid (∀ hp : 0 < (txt (wheelL f k)).size, (txt (wheelL f k))[0] = ch h) := by
          show ∀ hp, _
          cases hwl2 : wheelL f k with
          | nil => rw [hwl2] at hm; cases hm
          | cons a l =>
            rw [hwl2] at hh
            simp at hh
            subst hh
            intro _; rfl
        have HRX := Lib.hid hrg
        have HFW : Hid (firstW f k = decide (1 < (wheelL f k).length ∧ (wheelL f k).head? = some k)) := rfl
        have HY := Lib.hid (wheelsF_yes (f := f) (k := k))
        have HNN := Lib.hid (wheelsF_no (f := f) (k := k))
        have HHH := Lib.hid hh
        have hWl := wheelsF_len (f := f) k
        have HWT : Hid (∀ j, wheelsT f j = (wheelsF f j).map txt) := fun _ => rfl
        clear hrg hmem hh hm
        by_cases hone : 1 < (wheelL f k).length
        · by_cases hhk : h = k
          · have hfw : firstW f k = true := by rw [HFW.out, decide_eq_true_eq]; exact ⟨hone, by rw [HHH.out, hhk]⟩
            have hyes := HY.out hfw
            have hin : h ∉ (wheelsF f k).flatten := (HSEEN.out hone).2 hhk
            have HIX : Hid (¬ (0 : Int) ≤ indexByte (txt (wheelsF f k).flatten).data.toList (ch h)) := fun hq => hin (HME.out.1 ((indexByte_mem _ _).1 hq))
            have HTX : Hid (wheelsT f (k + 1) = wheelsT f k ++ [txt (wheelL f k)]) := by show _ = _; rw [HWT.out, HWT.out, hyes]; simp
            have HSX : Hid (txt (wheelsF f (k + 1)).flatten = txt (wheelsF f k).flatten ++ txt (wheelL f k)) := by
              show _ = _
              rw [hyes, List.flatten_append, txt_append]; simp
            have hrl : (wheelsT f k).length ≤ 9 := by rw [HWT.out, List.length_map]; omega
            clear hyes hin hfw hhk
            generalize txt (wheelL f k) = t at *
            generalize ch h = c at *
            generalize txt (wheelsF f k).flatten = sf at *
            have htp : 0 < t.size := by omega
            have ht1 := HT0.out htp
            have hsf : sf.size ≤ 9223372036854775807 := by have := hfl.2; omega
            have hix := HIX.out
            have hlt0 : indexByte sf.data.toList c < 0 := by omega
            have hz1 : (1 : Int) < (t.size : Int) := by omega
            go_wp2_with fail
            refine HRX.out.mono ?_
            rintro e w2 ⟨rfl, hb2⟩
            have ho2 := own_keep ho hb2
            have hbw := hb.trans (hb2.mono hbs)
            have hbws := hbw.size
            have hnw := one_new w2 (.string t) 9
            have hown0 := own_keep ho2 ((Below.refl _ _).alloc (Nat.le_refl _) (.cells #[.string t] 9))
            go_wp2_with (first | (go_at_call 64; refine (l13Find_c sf c _ hsf).mono ?_; rintro e w' ⟨rfl, rfl⟩) | (at_builtin; refine app_str rfl (.tmp 32) (.tmp 34) rfl w.heap.size u4 (wheelsT f k) t ⟨w2.heap.size, 0, none⟩ 1 (by rfl) (by rfl) hown0 hnw (by omega) (by simp; omega) ?_; intro v' w3 hown3 hgrow3))
            have hb3 := below_grown hgrow3 (B := w.heap.size) (by simp; omega) (own_block_ge ho)
            have hbw3 := (hbw.alloc hbws (.cells #[.string t] 9)).trans hb3
            go_roundw
            case rel =>
              refine ⟨k + 1, by omega, by go_num, ?_, by rw [HSX.out], hbw3⟩
              rw [HTX.out]; exact hown3
            case measure => simp [RowKit.intOf]; omega
          · have hfw : firstW f k = false := by
              rw [HFW.out, decide_eq_false_iff_not]
              rintro ⟨_, h2⟩
              rw [HHH.out] at h2
              exact hhk (Option.some.inj h2)
            have hno := HNN.out hfw
            have HNX := Lib.hid hno
            have hin : h ∈ (wheelsF f k).flatten := Classical.not_not.1 fun hq => hhk ((HSEEN.out hone).1 hq)
            have HIX : Hid ((0 : Int) ≤ indexByte (txt (wheelsF f k).flatten).data.toList (ch h)) := (indexByte_mem _ _).2 (HME.out.2 hin)
            clear hno hin hfw hhk
            generalize txt (wheelL f k) = t at *
            generalize ch h = c at *
            generalize hsfe : txt (wheelsF f k).flatten = sf at *
            have HSF := Lib.hid hsfe
            clear hsfe
            have htp : 0 < t.size := by omega
            have ht1 := HT0.out htp
            have hsf : sf.size ≤ 9223372036854775807 := by have := hfl.2; omega
            have hix := HIX.out
            have hz1 : (1 : Int) < (t.size : Int) := by omega
            go_wp2_with fail
            refine HRX.out.mono ?_
            rintro e w2 ⟨rfl, hb2⟩
            have ho2 := own_keep ho hb2
            have hbw := hb.trans (hb2.mono hbs)
            go_wp2_with (go_at_call 64; refine (l13Find_c sf c _ hsf).mono ?_; rintro e w' ⟨rfl, rfl⟩)
            go_roundw
            case rel => exact ⟨k + 1, by omega, by go_num, by rw [HWT.out, HNX.out, ← HWT.out]; exact ho2, by rw [HNX.out, HSF.out], hbw⟩
            case measure => simp [RowKit.intOf]; omega
        · have hfw : firstW f k = false := by
            rw [HFW.out, decide_eq_false_iff_not]
            rintro ⟨h1, _⟩; exact hone h1
          have HNX := Lib.hid (HNN.out hfw)
          clear hfw
          generalize txt (wheelL f k) = t at *
          have hz1 : ¬ (1 : Int) < (t.size : Int) := by omega
          go_wp2_with fail
          refine HRX.out.mono ?_
          rintro e w2 ⟨rfl, hb2⟩
          have ho2 := own_keep ho hb2
          have hbw := hb.trans (hb2.mono hbs)
          clear hb2 ho
          go_wp2
          go_roundw
          case rel => exact ⟨k + 1, by omega, by go_num, by rw [HWT.out, HNX.out, ← HWT.out]; exact ho2, by rw [HNX.out], hbw⟩
          case measure => simp [RowKit.intOf]; omega
      · have hk9 : k = 9 := by omega
        subst hk9
        go_wp2
        go_ret2
        exact ⟨_, rfl, ho, hb⟩
  · rw [h1, show wheelsB xs = [] from if_neg (by rw [h1]; decide)]
    go_enter Try.func36, Try.ntmps36
    go_wp2_with fail
    refine (spMovesValid_c xs v _ (hx.below ((Below.refl _ _).alloc (Nat.le_refl _) _)) hz hn').mono ?_
    rintro e w1 ⟨he, hb1⟩
    rw [h1] at he
    subst he
    have hb1w : Below w.heap.size w w1 := ((Below.refl _ _).alloc (Nat.le_refl _) _).trans (hb1.mono (by simp))
    have hE1 := own_keep hE hb1
    clear hb1
    go_wp2
    go_ret2
    exact ⟨_, rfl, hE1, hb1w⟩
end Go.Proofs.Ytmifmfljiaoeaab
