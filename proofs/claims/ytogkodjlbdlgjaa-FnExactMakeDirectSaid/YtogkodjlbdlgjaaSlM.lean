import Derived.Test.YtogkodjlbdlgjaaSlD
namespace Go.PD
open Go.PM Go.RowKit
theorem noswF {xs : List St} (h : xs.any swF = false) : ∀ x ∈ xs, swF x = false := fun x hx => by
  have := List.any_eq_false.1 h x hx
  simpa using this
theorem md_kind {xs : List St} (hv : svalid xs = true) (h : xs.any swF = false) : ∀ k (hk : k < xs.length), far xs[k] = true → xs[k].1 = 0 := fun k hk hf =>
  far_kind (svalid_at hv k hk) (noswF h _ (List.getElem_mem hk)) hf
end Go.PD
namespace Go.Proofs.Ytogkodjlbdlgjaa
open Go.RowKit Go.PM Go.PD Go.Lib

theorem directSteps_c (A : Option Addr) (n cap : Nat) (w : World) :
    Calls Try.prog 61 #[.slice A n cap] w fun e w' => e = .returned (.func (.func 105) #[] #[.pointer (some ⟨w.heap.size, 0, none⟩)]) ∧ w' = w.alloc (.cells #[.slice A n cap] 23) := by
  go_enter Try.func61, Try.ntmps61
  go_wp2
  go_ret
  exact ⟨rfl, rfl⟩
set_option maxRecDepth 100000 in
set_option maxHeartbeats 1600000 in
theorem imMakeDirect_c (xs : List St) (v : Value) (w : World) (hx : RdS w v xs) :
    Calls Try.prog 14 #[v] w fun e w' => ∃ v', e = .returned (.tuple #[v', .bool (mdB xs)]) ∧ w'.ownsRow w.heap.size 67 3 v' (mdS xs).length (scells (mdS xs)) ∧ Below w.heap.size w w' := by
  obtain ⟨A0, cap0, rfl, _⟩ := hx.open
  have hsv := Lib.hid (imSequenceValid_c xs _ w hx)
  have HNO : Hid (mdB xs = false → mdS xs = []) := mdS_no
  have HYS : Hid (mdB xs = true → mdS xs = mkD xs) := mdS_yes
  have HX := Lib.hid (fun W (hb : Below w.heap.size w W) => hx.below hb)
  have hown0 : ∀ W : World, W.ownsRow w.heap.size 67 3 (.slice none 0 0) ([] : List St).length (scells []) := fun W => ⟨rfl, .inl ⟨rfl, rfl⟩⟩
  rcases Bool.eq_false_or_eq_true (svalid xs) with h1 | h1
  · have hlen := svalid_len h1
    have HSN := Lib.hid (fun W hW => stepNames_c xs h1 (.slice A0 xs.length cap0) W hW)
    have hcon : ∀ (W : World), Calls Try.prog 56 #[.string (snT xs), .string ⟨#[117]⟩] W fun e w' => e = .returned (.bool (hasU xs)) ∧ W = w' := fun W =>
      (Try.strings_Contains_one (snT xs) 117 W).mono fun _ _ ⟨e1, e2⟩ => ⟨by
        rw [e1]; congr 2; simp only [hasU, indexByte_mem, snT_list], e2.symm⟩
    have HC := Lib.hid hcon
    clear hcon
    have HSW := Lib.hid (fun W hW => containsSwap_c xs (.slice A0 xs.length cap0) W hW (by omega))
    have HU := Lib.hid (fun h => md_hasU (xs := xs) h)
    have HSF := Lib.hid (fun h => md_swF (xs := xs) h)
    have HIM := Lib.hid (fun h h' => md_im (xs := xs) h1 h h')
    have HKD := Lib.hid (fun h => md_kind (xs := xs) h1 h)
    have hmd := (mkD_len xs).2
    have H1 := Lib.hid h1
    clear h1 hx
    rcases Bool.eq_false_or_eq_true (hasU xs) with hu | hu
    · rw [hu] at HC
      have HF := Lib.hid (HU.out hu)
      clear HU HIM
      go_enter Try.func14, Try.ntmps14
      go_wp2_with fail
      refine hsv.out.mono ?_
      rintro e w1 ⟨rfl, hb1⟩
      rw [H1.out]
      have hx1 := HX.out _ hb1
      go_wp2_with (first | (go_at_call 57; refine (HSN.out _ hx1).mono ?_; rintro e w2 ⟨rfl, hb2⟩) | (go_at_call 56; refine (HC.out _).mono ?_; rintro e w' ⟨rfl, rfl⟩))
      go_ret2
      exact ⟨_, by rw [HF.out]; rfl, by rw [HNO.out HF.out]; exact hown0 _, hb1.trans (hb2.mono hb1.size)⟩
    rcases Bool.eq_false_or_eq_true (xs.any swF) with hs | hs
    · rw [hu] at HC
      rw [hs] at HSW
      have HF := Lib.hid (HSF.out hs)
      clear HU HIM
      go_enter Try.func14, Try.ntmps14
      go_wp2_with fail
      refine hsv.out.mono ?_
      rintro e w1 ⟨rfl, hb1⟩
      rw [H1.out]
      have hx1 := HX.out _ hb1
      go_wp2_with (first | (go_at_call 57; refine (HSN.out _ hx1).mono ?_; rintro e w2 ⟨rfl, hb2⟩) | (go_at_call 56; refine (HC.out _).mono ?_; rintro e w' ⟨rfl, rfl⟩) | (go_at_call 58; refine (HSW.out _ (HX.out _ (hb1.trans (hb2.mono hb1.size)))).mono ?_; rintro e w3 ⟨rfl, hb3⟩))
      go_ret2
      exact ⟨_, by rw [HF.out]; rfl, by rw [HNO.out HF.out]; exact hown0 _, (hb1.trans (hb2.mono hb1.size)).trans (hb3.mono (hb1.trans (hb2.mono hb1.size)).size)⟩
    · rw [hu] at HC
      rw [hs] at HSW
      have HF := Lib.hid (HIM.out hu hs)
      have HKD2 := Lib.hid (HKD.out hs)
      clear HU HIM HSF HKD hs hu
      go_enter Try.func14, Try.ntmps14
      go_wp2_with fail
      refine hsv.out.mono ?_
      rintro e w1 ⟨rfl, hb1⟩
      rw [H1.out]
      have hx1 := HX.out _ hb1
      go_wp2_with (first | (go_at_call 57; refine (HSN.out _ hx1).mono ?_; rintro e w2 ⟨rfl, hb2⟩) | (go_at_call 56; refine (HC.out _).mono ?_; rintro e w' ⟨rfl, rfl⟩) | (go_at_call 58; refine (HSW.out _ (HX.out _ (hb1.trans (hb2.mono hb1.size)))).mono ?_; rintro e w3 ⟨rfl, hb3⟩; refine held ?_))
      unfold Held
      have hB3 := (hb1.trans (hb2.mono hb1.size)).trans (hb3.mono (hb1.trans (hb2.mono hb1.size)).size)
      have hs3 := hB3.size
      clear hb1 hb2 hb3 hx1 HC HSW HSN
      go_wp2_with fail
      refine (directSteps_c _ _ _ _).mono ?_
      rintro e w4 ⟨rfl, hw4⟩
      have hB34 : Below w3.heap.size w3 w4 := by rw [hw4]; exact (Below.refl _ _).alloc (Nat.le_refl _) _
      have hA4 : At w4 w3.heap.size 23 #[.slice A0 xs.length cap0] := by rw [hw4]; exact At.new _ _ _
      have hB4 := hB3.trans (hB34.mono hs3)
      have hs4 := hB4.size
      have hx4 := HX.out _ hB4
      have HCO := Lib.hid (collectT_c 105 #[] #[.pointer (some ⟨w3.heap.size, 0, none⟩)] (fun _ _ => rfl) (mkD xs) (direct_iter xs _ w3.heap.size 4 (by decide) HKD2.out hlen) w4 (fun A hA => ⟨hA4.keep hA, hx4.below hA⟩) (by omega))
      clear hw4 hA4 hB34 hx4 hB3 hs3
      go_wp2_with fail
      refine HCO.out.mono ?_
      rintro e w5 ⟨v5, rfl, ho5, hb5⟩
      have hB5 := hB4.trans (hb5.mono hs4)
      have ho6 := own_more ho5 hs4
      obtain ⟨A, cap, rfl, _⟩ := Rd.of_own ho5
      clear hb5 ho5 HCO hB4
      by_cases hc : (mkD xs).length ≤ 60
      · have HFT : Hid (mdB xs = true) := by show _ = _; rw [HF.out]; exact decide_eq_true hc
        have HYY := Lib.hid (HYS.out HFT.out)
        generalize mkD xs = ys at *
        have t1 : ¬ (60 : Int) < (ys.length : Int) := by omega
        go_wp2
        go_ret2
        exact ⟨_, by rw [HFT.out]; rfl, by rw [HYY.out]; exact ho6, hB5⟩
      · have HFT : Hid (mdB xs = false) := by show _ = _; rw [HF.out]; exact decide_eq_false hc
        have HYY := Lib.hid (HNO.out HFT.out)
        generalize mkD xs = ys at *
        have t1 : (60 : Int) < (ys.length : Int) := by omega
        clear ho6
        go_wp2
        go_ret2
        exact ⟨_, by rw [HFT.out]; rfl, by rw [HYY.out]; exact hown0 _, hB5⟩
  · have HF := Lib.hid (md_inv h1)
    have H1 := Lib.hid h1
    clear h1
    go_enter Try.func14, Try.ntmps14
    go_wp2_with fail
    refine hsv.out.mono ?_
    rintro e w1 ⟨rfl, hb1⟩
    rw [H1.out]
    go_wp2
    go_ret2
    exact ⟨_, by rw [HF.out]; rfl, by rw [HNO.out HF.out]; exact hown0 _, hb1⟩
end Go.Proofs.Ytogkodjlbdlgjaa
