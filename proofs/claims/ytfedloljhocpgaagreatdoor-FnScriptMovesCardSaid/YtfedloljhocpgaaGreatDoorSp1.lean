import Derived.Test.YtfedloljhocpgaaGreatDoorRows
import Derived.Test.YtfedloljhocpgaaGreatDoorPm
namespace Go.Proofs.YtfedloljhocpgaaGreatDoor
open Go.RowKit Go.PM Go.Lib

def inB (n lo hi : Int) : Bool := decide (lo ≤ n ∧ n ≤ hi)
theorem l1In_c (n lo hi : Int) (w : World) :
    Calls Tryz.prog 133 #[.int .i64 n, .int .i64 lo, .int .i64 hi] w fun e w' => e = .returned (.bool (inB n lo hi)) ∧ w = w' := by
  by_cases h1 : lo ≤ n
  · by_cases h2 : n ≤ hi
    · go_enter Tryz.func133, Tryz.ntmps133
      go_wp2
      go_ret
      simp [inB, h1, h2]
    · go_enter Tryz.func133, Tryz.ntmps133
      go_wp2
      go_ret
      simp [inB]; omega
  · go_enter Tryz.func133, Tryz.ntmps133
    go_wp2
    go_ret
    simp [inB]; omega

theorem indexByte_drop (l : List UInt8) (c : UInt8) (k : Nat) (hk : k < l.length) : indexByte (l.drop k) c = if l[k] = c then 0 else if indexByte (l.drop (k+1)) c == -1 then -1 else indexByte (l.drop (k+1)) c + 1 := by
  rw [List.drop_eq_getElem_cons hk, indexByte]
  simp only [beq_iff_eq]

set_option maxHeartbeats 400000 in
theorem l13Find_c (s : ByteArray) (c : UInt8) (w : World) (hs : s.size ≤ 9223372036854775807) :
    Calls Tryz.prog 94 #[.string s, .int .u8 c.toNat] w fun e w' => e = .returned (.int .i64 (indexByte s.data.toList c)) ∧ w = w' := by
  go_enter Tryz.func94, Tryz.ntmps94
  go_wp2
  go_loop [5] (fun i => ∃ k : Nat, k ≤ s.size ∧ i = .int .i64 k ∧ Hid (indexByte s.data.toList c = if indexByte (s.data.toList.drop k) c == -1 then -1 else indexByte (s.data.toList.drop k) c + k)) (fun i => s.size - (intOf i).toNat)
  case atStart => exact ⟨0, by omega, rfl, by show _ = _; simp⟩
  case round =>
    obtain ⟨k, hk, rfl, hf⟩ := hrel
    have hll : k < s.size → k < s.data.toList.length := fun h => by rw [size_data]; exact h
    by_cases hlt : k < s.size
    · have hd := indexByte_drop s.data.toList c k (hll hlt)
      have hge := indexByte_ge (s.data.toList.drop (k+1)) c
      have hsk : s.data.toList[k]'(hll hlt) = s[k] := rfl
      rw [hsk] at hd
      have HD := Lib.hid hd
      clear hd hsk hll
      go_wp2
      · have h : ((s[k].toNat : Int) == c.toNat) = true := by assumption
        go_ret
        have h' : s[k] = c := by
          have : s[k].toNat = c.toNat := by simp at h; omega
          exact UInt8.toNat_inj.1 this
        refine ⟨?_, rfl⟩
        have := HD.out
        rw [if_pos h'] at this
        have := hf.out
        rw [‹indexByte (List.drop k s.data.toList) c = 0›] at this
        rw [this]; simp
      · have h : ((s[k].toNat : Int) == c.toNat) = false := by assumption
        go_round
        case rel =>
          refine ⟨k + 1, by omega, by go_num, ?_⟩
          show _ = _
          have h' : ¬ s[k] = c := by
            intro e; rw [e] at h; simp at h
          have h1 := HD.out
          rw [if_neg h'] at h1
          have h2 := hf.out
          rw [h1] at h2
          rw [h2]
          by_cases h0 : indexByte (List.drop (k+1) s.data.toList) c = -1
          · simp [h0]
          · have h3 : ¬ (indexByte (List.drop (k+1) s.data.toList) c + 1 = -1) := by omega
            simp [h0, h3]; omega
        case measure => simp [intOf]; omega
    · have hk' : s.data.toList.drop k = [] := by rw [List.drop_eq_nil_iff, size_data]; omega
      have H := hf.out
      rw [hk'] at H
      have HH := Lib.hid H
      clear hk' H
      go_wp2
      go_ret
      exact ⟨by rw [HH.out]; rfl, rfl⟩

theorem l1Place_c (s : ByteArray) (w : World) :
    Calls Tryz.prog 92 #[.string s] w fun e w' => e = .returned (.bool (isP s)) ∧ w = w' := by
  by_cases h1 : s.size = 1
  · obtain ⟨c, rfl⟩ := one_of_size h1
    have hm := indexByte_mem placesL c
    have HI : Hid (isP ⟨#[c]⟩ = decide (0 ≤ indexByte placesL c)) := by show _ = _; simp [isP, hm]
    clear h1 hm
    go_enter Tryz.func92, Tryz.ntmps92
    go_wp2_with (go_at_call 94; refine (l13Find_c _ c _ (by decide)).mono ?_; rintro e w' ⟨rfl, rfl⟩)
    go_ret
    exact ⟨by rw [HI.out]; rfl, rfl⟩
  · have h2 : ((s.size : Int) == 1) = false := by simp; omega
    have HI : Hid (isP s = false) := by
      show _ = _
      by_cases h : isP s = true
      · exact absurd (isP_size h) h1
      · simpa using h
    clear h1
    go_enter Tryz.func92, Tryz.ntmps92
    go_wp2
    go_ret
    exact ⟨by rw [HI.out]; rfl, rfl⟩

theorem l1Digit_c (s : ByteArray) (w : World) :
    Calls Tryz.prog 93 #[.string s] w fun e w' => e = .returned (.bool (isD s)) ∧ w = w' := by
  by_cases h1 : s.size = 1
  · obtain ⟨c, rfl⟩ := one_of_size h1
    have HI : Hid (isD ⟨#[c]⟩ = inB (c.toNat : Int) 48 57) := by
      show _ = _
      simp only [isD, inB]; congr 1; simp; omega
    clear h1
    go_enter Tryz.func93, Tryz.ntmps93
    go_wp2_with (go_at_call 133; refine (l1In_c _ _ _ _).mono ?_; rintro e w' ⟨rfl, rfl⟩)
    go_ret
    refine ⟨?_, rfl⟩
    rw [HI.out]
    simp only [wrap64_u8]
    rfl
  · have h2 : ((s.size : Int) == 1) = false := by simp; omega
    have HI : Hid (isD s = false) := by
      show _ = _
      by_cases h : isD s = true
      · exact absurd (isD_size h) h1
      · simpa using h
    clear h1
    go_enter Tryz.func93, Tryz.ntmps93
    go_wp2
    go_ret
    exact ⟨by rw [HI.out]; rfl, rfl⟩

set_option maxRecDepth 100000 in
set_option maxHeartbeats 800000 in
theorem spMovesValid_c (xs : List Mv) (v : Value) (w : World) (hx : RdM w v xs) (_hz : ∀ m ∈ xs, m.1.size ≤ 9223372036854775807 ∧ m.2.size ≤ 9223372036854775807) (hn' : xs.length ≤ 1048576) :
    Calls Tryz.prog 40 #[v] w fun e w' => e = .returned (.bool (mvalid xs)) ∧ Below w.heap.size w w' := by
  obtain ⟨A, cap, rfl, hn, hc, hcell⟩ := hx.open
  go_enter Tryz.func40, Tryz.ntmps40
  go_wp2
  go_loopw [3, 5, 8] (fun sn _ i wr => ∃ (k : Nat) (t : ByteArray), k ≤ xs.length ∧ i = .int .i64 k ∧ sn = .string t ∧ t.size ≤ 1048576 ∧ Hid (t.data.toList = tos (xs.take k) ∧ MV (xs.take k)) ∧ Below w.heap.size w wr) (fun _ _ i _ => xs.length - (intOf i).toNat)
  case atStart => exact ⟨0, ⟨#[]⟩, by omega, rfl, rfl, by decide, ⟨by simp [tos], by simpa using MV_nil⟩, Below.refl _ _⟩
  case round =>
    obtain ⟨k, t, hk, rfl, rfl, ht0, ht, hb⟩ := hrel
    have hbs := hb.size
    by_cases hlt : k < xs.length
    · obtain ⟨b, off, rfl, hbl, hc1, hc2⟩ := hcell k hlt
      have hd1 := (hb.cell (p := ⟨b, off + k * 2, none⟩) hbl).trans hc1
      have hd2 := (hb.cell (p := ⟨b, off + k * 2 + 1, none⟩) hbl).trans hc2
      have ht1 : t.size ≤ 9223372036854775807 := by omega
      have hst := MV_step k hlt
      have hts : tos (xs.take (k+1)) = tos (xs.take k) ++ xs[k].1.data.toList := by rw [take_snoc xs k hlt]; unfold tos; rw [List.flatMap_append]; simp only [List.flatMap_cons, List.flatMap_nil, List.append_nil]
      have hpre : MV xs → MV (xs.take (k+1)) := fun h => MV_take h _
      generalize hxa : xs[k].1 = a at *
      generalize hxb : xs[k].2 = b2 at *
      clear hc1 hc2 hcell
      have HPRE := Lib.hid hpre
      have HST : Hid (MV (xs.take (k+1)) ↔ isP a = true ∧ isS b2 = true ∧ a ∉ (xs.take k).map (·.1)) := by
        show _ ↔ _
        rw [hst]; unfold mok; rw [hxa, hxb, Bool.and_eq_true]
        exact ⟨fun h => ⟨h.2.1.1, h.2.1.2, h.2.2⟩, fun h => ⟨ht.out.2, ⟨h.1, h.2.1⟩, h.2.2⟩⟩
      have HTS := Lib.hid hts
      have HXX := Lib.hid hxa
      clear hpre hst hts hxa hxb
      rcases Bool.eq_false_or_eq_true (isP a) with hp | hp
      · obtain ⟨c, rfl⟩ := one_of_size (isP_size hp)
        have hor : ∀ x y : Bool, isP b2 = x → isD b2 = y → isS b2 = (x || y) := by rintro x y rfl rfl; rfl
        have HOR := Lib.hid hor
        clear hor
        rcases Bool.eq_false_or_eq_true (isP b2) with hq | hq
        rotate_left
        rcases Bool.eq_false_or_eq_true (isD b2) with hq2 | hq2
        rotate_left
        · have HF : Hid (mvalid xs = false) := by
            show _ = _
            simp only [mvalid, decide_eq_false_iff_not]
            intro h
            have h2 := (HST.out.1 (HPRE.out h)).2.1
            rw [HOR.out _ _ hq hq2] at h2; cases h2
          go_wp2_with (first | (go_at_call 92; refine (l1Place_c _ _).mono ?_; rintro e w' ⟨rfl, rfl⟩) | (go_at_call 93; refine (l1Digit_c _ _).mono ?_; rintro e w' ⟨rfl, rfl⟩) | (go_at_call 94; refine (l13Find_c t c _ ht1).mono ?_; rintro e w' ⟨rfl, rfl⟩))
          go_ret
          exact ⟨by rw [HF.out]; rfl, by (repeat' (first | (with_reducible exact Below.refl _ _) | (with_reducible assumption) | (with_reducible refine Below.alloc ?_ ?_ _) | (with_reducible refine Below.drew ?_) | (with_reducible refine Below.setCell ?_ ?_ _) | (with_reducible exact Nat.le_refl _) | omega | ((repeat (first | rewrite [World.size_alloc] | rewrite [World.size_setCell] | rewrite [World.size_drew])); omega) | (simp; omega) | (simp; done)))⟩
        all_goals
          by_cases hin : (0 : Int) ≤ indexByte t.data.toList c
          · have HF : Hid (mvalid xs = false) := by
              show _ = _
              simp only [mvalid, decide_eq_false_iff_not]
              intro h
              have h2 := (HST.out.1 (HPRE.out h)).2.2
              have h3 := (indexByte_mem _ _).1 hin
              rw [ht.out.1] at h3
              exact h2 ((tos_mem ht.out.2 c).1 h3)
            go_wp2_with (first | (go_at_call 92; refine (l1Place_c _ _).mono ?_; rintro e w' ⟨rfl, rfl⟩) | (go_at_call 93; refine (l1Digit_c _ _).mono ?_; rintro e w' ⟨rfl, rfl⟩) | (go_at_call 94; refine (l13Find_c t c _ ht1).mono ?_; rintro e w' ⟨rfl, rfl⟩))
            go_ret
            exact ⟨by rw [HF.out]; rfl, by (repeat' (first | (with_reducible exact Below.refl _ _) | (with_reducible assumption) | (with_reducible refine Below.alloc ?_ ?_ _) | (with_reducible refine Below.drew ?_) | (with_reducible refine Below.setCell ?_ ?_ _) | (with_reducible exact Nat.le_refl _) | omega | ((repeat (first | rewrite [World.size_alloc] | rewrite [World.size_setCell] | rewrite [World.size_drew])); omega) | (simp; omega) | (simp; done)))⟩
          · have HT : Hid (MV (xs.take (k+1))) := by
              refine HST.out.2 ⟨hp, ?_, ?_⟩
              · first | (rw [HOR.out _ _ hq rfl]; rfl) | (rw [HOR.out _ _ hq hq2]; rfl)
              · intro h2
                have h3 := (tos_mem ht.out.2 c).2 h2
                rw [← ht.out.1] at h3
                exact hin ((indexByte_mem _ _).2 h3)
            have ht2 : t.size ≤ 9 := by
              have h1 := tos_length ht.out.2
              have h2 := MV_len ht.out.2
              have h3 := size_data t
              rw [ht.out.1] at h3
              omega
            go_wp2_with (first | (go_at_call 92; refine (l1Place_c _ _).mono ?_; rintro e w' ⟨rfl, rfl⟩) | (go_at_call 93; refine (l1Digit_c _ _).mono ?_; rintro e w' ⟨rfl, rfl⟩) | (go_at_call 94; refine (l13Find_c t c _ ht1).mono ?_; rintro e w' ⟨rfl, rfl⟩))
            go_roundw
            case rel =>
              refine ⟨k + 1, _, by omega, by go_num, rfl, ?_, ⟨?_, HT.out⟩, by (repeat' (first | (with_reducible exact Below.refl _ _) | (with_reducible assumption) | (with_reducible refine Below.alloc ?_ ?_ _) | (with_reducible refine Below.drew ?_) | (with_reducible refine Below.setCell ?_ ?_ _) | (with_reducible exact Nat.le_refl _) | omega | ((repeat (first | rewrite [World.size_alloc] | rewrite [World.size_setCell] | rewrite [World.size_drew])); omega) | (simp; omega) | (simp; done)))⟩
              · have h1 : (⟨#[c]⟩ : ByteArray).size = 1 := rfl
                simp only [ByteArray.size_append]; omega
              · rw [HTS.out, ← ht.out.1]; simp
            case measure => simp [intOf]; omega
      · have HF : Hid (mvalid xs = false) := by
          show _ = _
          simp only [mvalid, decide_eq_false_iff_not]
          intro h
          have h2 := (HST.out.1 (HPRE.out h)).1
          rw [hp] at h2; cases h2
        go_wp2_with (first | (go_at_call 92; refine (l1Place_c _ _).mono ?_; rintro e w' ⟨rfl, rfl⟩) | (go_at_call 93; refine (l1Digit_c _ _).mono ?_; rintro e w' ⟨rfl, rfl⟩) | (go_at_call 94; refine (l13Find_c t c _ ht1).mono ?_; rintro e w' ⟨rfl, rfl⟩))
        go_ret
        exact ⟨by rw [HF.out]; rfl, by (repeat' (first | (with_reducible exact Below.refl _ _) | (with_reducible assumption) | (with_reducible refine Below.alloc ?_ ?_ _) | (with_reducible refine Below.drew ?_) | (with_reducible refine Below.setCell ?_ ?_ _) | (with_reducible exact Nat.le_refl _) | omega | ((repeat (first | rewrite [World.size_alloc] | rewrite [World.size_setCell] | rewrite [World.size_drew])); omega) | (simp; omega) | (simp; done)))⟩
    · have hk' : k = xs.length := by omega
      have h1 := ht.out.2
      rw [hk', List.take_of_length_le (Nat.le_refl _)] at h1
      have HT : Hid (mvalid xs = true) := by show _ = _; simpa [mvalid] using h1
      clear h1 hk'
      go_wp2
      go_ret
      exact ⟨by rw [HT.out]; rfl, hb⟩
end Go.Proofs.YtfedloljhocpgaaGreatDoor

