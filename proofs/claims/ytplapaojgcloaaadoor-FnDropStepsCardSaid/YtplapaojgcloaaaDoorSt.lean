import Derived.Test.YtplapaojgcloaaaDoorIm3
namespace Go.PM
open Go.RowKit
def zS : Nat → UInt8 := fun _ => 0
abbrev zSA : Array Value := #[.int .u8 0, .int .u8 0, .int .u8 0, .int .u8 0, .int .u8 0, .int .u8 0, .int .u8 0, .int .u8 0, .int .u8 0, .int .u8 0, .int .u8 0]
theorem stC_zS : stC zS = zSA := by simp [stC, zS]
def stOf (s : ByteArray) : Nat → UInt8 := if stateV s then ofB s else zS
theorem stOf_yes {s : ByteArray} (h : stateV s = true) : stOf s = ofB s := if_pos h
theorem stOf_no {s : ByteArray} (h : stateV s = false) : stOf s = zS := if_neg (by rw [h]; decide)
def valL (l : List UInt8) (k : Nat) : Bool := (l.take k).all isV
theorem valL_succ (l : List UInt8) (k : Nat) (hk : k < l.length) : valL l (k + 1) = (valL l k && isV l[k]) := by
  unfold valL; rw [take_snoc l k hk, List.all_append]; simp
def mixS (s : ByteArray) (k : Nat) : Nat → UInt8 := fun p => if p < k then ofB s p else 0
theorem mixS_zero (s : ByteArray) : mixS s 0 = zS := by funext p; simp [mixS, zS]
theorem mixS_succ (s : ByteArray) (k : Nat) : updS (mixS s k) k (ofB s k) = mixS s (k + 1) := by
  funext p
  unfold updS mixS
  by_cases h : p = k
  · subst h; simp
  · by_cases h2 : p < k
    · simp [h, h2, Nat.lt_succ_of_lt h2]
    · have : ¬ p < k + 1 := by omega
      simp [h, h2, this]
theorem mixS_full (s : ByteArray) : stC (mixS s 11) = stC (ofB s) := stC_congr fun p hp => by simp [mixS, hp]
end Go.PM
namespace Go.Proofs.YtplapaojgcloaaaDoor
open Go.RowKit Go.PM

set_option maxHeartbeats 800000 in
theorem isValue_c (c : UInt8) (w : World) : Calls Tryd.prog 103 #[.int .u8 c.toNat] w fun e w' => e = .returned (.bool (isV c)) ∧ w = w' := by
  have HV : Hid (isV c = (decide (48 ≤ c.toNat ∧ c.toNat ≤ 57) || (decide (97 ≤ c.toNat ∧ c.toNat ≤ 122) || decide (65 ≤ c.toNat ∧ c.toNat ≤ 90)))) := rfl
  obtain ⟨n, hn⟩ : ∃ n : Nat, c.toNat = n := ⟨_, rfl⟩
  rw [hn] at HV ⊢
  clear hn
  by_cases h1 : (48 : Int) ≤ n <;> by_cases h2 : (n : Int) ≤ 57 <;> by_cases h3 : (97 : Int) ≤ n <;> by_cases h4 : (n : Int) ≤ 122 <;> by_cases h5 : (65 : Int) ≤ n <;> by_cases h6 : (n : Int) ≤ 90 <;> (try omega)
  all_goals
    go_enter Tryd.func103, Tryd.ntmps103
    go_wp2
    go_ret
    refine ⟨?_, rfl⟩
    rw [HV.out]
    simp
    omega
set_option maxRecDepth 100000 in
set_option maxHeartbeats 800000 in
theorem stateOf_c (s : ByteArray) (w : World) (_hs : s.size ≤ 9223372036854775807) :
    Calls Tryd.prog 57 #[.string s] w fun e w' => e = .returned (.tuple #[stV (stOf s), .bool (stateV s)]) ∧ Below w.heap.size w w' := by
  have HR : ∀ (tmps : Array Value) (W : World) (f : Nat → UInt8) (x : Bool), At W w.heap.size 78 (stC f) → tmps.getD 2 undef = .pointer (some ⟨w.heap.size, 0, none⟩) → tmps.getD 3 undef = .bool x →
      (results Tryd.f57 tmps).run Tryd.prog W = .ok (.tuple #[stV f, .bool x]) W := fun tmps W f x hA h2 h3 =>
    results_row2 Tryd.results57 tmps W _ _ _ h2 h3 hA 11 5 Tryd.underlying78 (by kernel_rfl)
  by_cases hl : s.size = 11
  rotate_left
  · have hl1 : ((s.size : Int) != 11) = true := by simp; omega
    have HF : Hid (stateV s = false) := by show _ = _; simp [stateV, hl]
    have HG : Hid (stOf s = zS) := stOf_no HF.out
    clear hl
    go_enter Tryd.func57, Tryd.ntmps57
    go_wp2
    exact bodyPost_ret (v := .tuple #[stV zS, .bool false]) (HR _ _ zS false ((At.new _ _ _).alloc _) rfl rfl) rfl ⟨by rw [HG.out, HF.out], by (repeat' (first | (with_reducible exact Below.refl _ _) | (with_reducible assumption) | (with_reducible refine Below.alloc ?_ ?_ _) | (with_reducible refine Below.drew ?_) | (with_reducible refine Below.setCell ?_ ?_ _) | (with_reducible exact Nat.le_refl _) | omega | ((repeat (first | rewrite [World.size_alloc] | rewrite [World.size_setCell] | rewrite [World.size_drew])); omega) | (simp; omega) | (simp; done)))⟩
  · have hl1 : ((s.size : Int) != 11) = false := by simp; omega
    have HV : Hid (stateV s = valL s.data.toList 11) := by
      show _ = _
      have : s.data.toList.take 11 = s.data.toList := by rw [List.take_of_length_le]; rw [size_data, hl]; omega
      simp [stateV, valL, this, hl]
    have HVS := Lib.hid (fun k hk => valL_succ s.data.toList k hk)
    have hl2 : s.data.toList.length = 11 := by rw [size_data, hl]
    have hl3 := Lib.hid hl
    clear hl
    go_enter Tryd.func57, Tryd.ntmps57
    go_wp2
    have hw0 : ∃ W0 : World, W0 = (w.alloc (Obj.cells zSA 78)).alloc (Obj.cells zSA 78) := ⟨_, rfl⟩
    obtain ⟨W0, hW0⟩ := hw0
    have hB0 : Below w.heap.size w W0 := by rw [hW0]; (repeat' (first | (with_reducible exact Below.refl _ _) | (with_reducible assumption) | (with_reducible refine Below.alloc ?_ ?_ _) | (with_reducible refine Below.drew ?_) | (with_reducible refine Below.setCell ?_ ?_ _) | (with_reducible exact Nat.le_refl _) | omega | ((repeat (first | rewrite [World.size_alloc] | rewrite [World.size_setCell] | rewrite [World.size_drew])); omega) | (simp; omega) | (simp; done)))
    have hA0 : At W0 w.heap.size 78 (stC zS) := by rw [hW0, stC_zS]; exact (At.new _ _ _).alloc _
    have hA1 : At W0 (w.heap.size + 1) 78 (stC zS) := by
      rw [hW0, stC_zS]; have := At.new (w.alloc (Obj.cells zSA 78)) 78 zSA
      rwa [World.size_alloc] at this
    rw [← show W0 = _ from hW0]
    clear hW0
    go_loopw [5, 10] (fun _ i wr => ∃ (k : Nat), k ≤ 11 ∧ i = .int .i64 k ∧ Below w.heap.size w wr ∧ At wr w.heap.size 78 (stC zS) ∧ At wr (w.heap.size + 1) 78 (stC (mixS s k)) ∧ Hid (valL s.data.toList k = true)) (fun _ i _ => 11 - (RowKit.intOf i).toNat)
    case atStart => exact ⟨0, by omega, rfl, hB0, hA0, by rw [mixS_zero]; exact hA1, rfl⟩
    case round =>
      obtain ⟨k, hk, rfl, hb, hA2, hA3, hm⟩ := hrel
      have hbs := hb.size
      have hlt3 := hA3.lt
      by_cases hlt : k < 11
      · have hlk : k < s.data.toList.length := by omega
        have hks : k < s.size := by have := hl3.out; omega
        have hvs := HVS.out k hlk
        have hget : s.data.toList[k] = s[k] := rfl
        have hof : ofB s k = s[k] := by rw [ofB, List.getD_eq_getElem?_getD, List.getElem?_eq_getElem hlk, hget]; rfl
        rw [hget] at hvs
        have hsc := mixS_succ s k
        rw [hof] at hsc
        have hst := stC_set (mixS s k) k hlt s[k]
        rw [hsc] at hst
        have HVS1 := Lib.hid hvs
        have HST := Lib.hid hst
        have hpc := (hA3.cell k).trans (stC_at _ k hlt)
        have hpf := hA3.frozen k
        have i0 : (0 : Int) ≤ (k : Int) := by omega
        have i1 : (k : Int) < 11 := by omega
        clear hvs hget hof hsc hst hlk
        rcases Bool.eq_false_or_eq_true (isV s[k]) with hv | hv
        · have HT : Hid (valL s.data.toList (k + 1) = true) := by show _ = _; rw [HVS1.out, hm.out, hv]; rfl
          go_wp2_with (go_at_call 103; refine (isValue_c _ _).mono ?_; rintro e w' ⟨rfl, rfl⟩)
          go_roundw
          case rel =>
            refine ⟨k + 1, by omega, by go_num, by (repeat' (first | (with_reducible exact Below.refl _ _) | (with_reducible assumption) | (with_reducible refine Below.alloc ?_ ?_ _) | (with_reducible refine Below.drew ?_) | (with_reducible refine Below.setCell ?_ ?_ _) | (with_reducible exact Nat.le_refl _) | omega | ((repeat (first | rewrite [World.size_alloc] | rewrite [World.size_setCell] | rewrite [World.size_drew])); omega) | (simp; omega) | (simp; done))), hA2.far (by simp) _, ?_, HT⟩
            rw [← HST.out]
            exact hA3.set k _
          case measure => simp [RowKit.intOf]; omega
        · have HF : Hid (stateV s = false) := by
            show _ = _
            rw [HV.out]
            have h1 : valL s.data.toList (k + 1) = false := by rw [HVS1.out, hv, Bool.and_false]
            cases h2 : valL s.data.toList 11 with
            | false => rfl
            | true =>
              unfold valL at h1 h2
              rw [List.all_eq_true] at h2
              rw [List.all_eq_false] at h1
              obtain ⟨x, hx, hx2⟩ := h1
              exact absurd (h2 x (List.take_subset_take_left _ (by omega) hx)) hx2
          have HG : Hid (stOf s = zS) := stOf_no HF.out
          go_wp2_with (first | (go_at_call 103; refine (isValue_c _ _).mono ?_; rintro e w' ⟨rfl, rfl⟩) | (refine st_row rfl 78 (.tmp 2) (.tmp 18) rfl rfl w.heap.size 78 (stC zS) (stC zS) hA2 (by rfl) (by rfl) (by kernel_rfl) rfl (stC_one _) ?_; intro W5 hA5 hg5))
          exact bodyPost_ret (v := .tuple #[stV zS, .bool false]) (HR _ _ zS false hA5 rfl rfl) rfl ⟨by rw [HG.out, HF.out], hb.trans (below_grown hg5 hbs (fun g hg => by cases hg; exact Nat.le_refl _))⟩
      · have hk' : k = 11 := by omega
        have HT : Hid (stateV s = true) := by show _ = _; rw [HV.out, ← hk']; exact hm.out
        have HG : Hid (stOf s = ofB s) := stOf_yes HT.out
        have hA4 : At wr (w.heap.size + 1) 78 (stC (ofB s)) := by rw [← mixS_full, ← hk']; exact hA3
        clear hA3 hk'
        go_wp2_with (first | (refine ld_row rfl 78 (.tmp 4) rfl (w.heap.size + 1) 78 (stC (ofB s)) hA4 (by rfl) 11 5 Tryd.underlying78 (by kernel_rfl) ?_) | (refine st_row rfl 78 (.tmp 2) (.tmp 25) rfl rfl w.heap.size 78 (stC zS) (stC (ofB s)) hA2 (by rfl) (by rfl) (by kernel_rfl) rfl (stC_one _) ?_; intro W5 hA5 hg5))
        exact bodyPost_ret (v := .tuple #[stV (ofB s), .bool true]) (HR _ _ (ofB s) true hA5 rfl rfl) rfl ⟨by rw [HG.out, HT.out], hb.trans (below_grown hg5 hbs (fun g hg => by cases hg; exact Nat.le_refl _))⟩
end Go.Proofs.YtplapaojgcloaaaDoor
