import Derived.Test.YtogkodjlbdlgjaaSlI3
import Derived.Test.YtogkodjlbdlgjaaSlF
namespace Go.Proofs.Ytogkodjlbdlgjaa
open Go.RowKit Go.PM Go.PD Go.Lib

set_option maxRecDepth 100000 in
set_option maxHeartbeats 1600000 in
theorem indexSwap_c (xs : List St) (v : Value) (w : World) (hx : RdS w v xs) (hl : xs.length ≤ 1048576) :
    Calls Try.prog 103 #[v, .func (.func 59) #[] #[]] w fun e w' => (∃ z : Int, e = .returned (.int .i64 z) ∧ Hid (xs.any swF = decide (0 ≤ z))) ∧ Below w.heap.size w w' := by
  obtain ⟨A, cap, rfl, hn, hc, hcell⟩ := hx.open
  have HS := Lib.hid (fun k a b W => swapsSlot_c k a b W)
  have HY : Hid (∀ k (hk : k < xs.length), swF xs[k] = true → xs.any swF = true) := fun k hk h => List.any_eq_true.2 ⟨_, List.getElem_mem hk, h⟩
  have HN : Hid ((∀ j (hj : j < xs.length), swF xs[j] = false) → xs.any swF = false) := fun h => List.any_eq_false.2 fun x hx => by
    obtain ⟨k, hk, rfl⟩ := List.getElem_of_mem hx
    rw [h k hk]; decide
  go_enter Try.func103, Try.ntmps103
  go_wp2
  go_loopw [5, 8] (fun _ i wr => ∃ (k : Nat), k ≤ xs.length ∧ i = .int .i64 k ∧ Below w.heap.size w wr ∧ Hid (∀ j (hj : j < k) (hj2 : j < xs.length), swF xs[j] = false)) (fun _ i _ => xs.length - (RowKit.intOf i).toNat)
  case atStart => exact ⟨0, by omega, rfl, Below.refl _ _, fun j hj => by omega⟩
  case round =>
    obtain ⟨k, hk, rfl, hb, hm⟩ := hrel
    have hbs := hb.size
    by_cases hlt : k < xs.length
    · obtain ⟨b, off, rfl, hbl, hc1, hc2, hc3⟩ := hcell k hlt
      have hd1 := (hb.cell (p := ⟨b, off + k * 3, none⟩) hbl).trans hc1
      have hd2 := (hb.cell (p := ⟨b, off + k * 3 + 1, none⟩) hbl).trans hc2
      have hd3 := (hb.cell (p := ⟨b, off + k * 3 + 2, none⟩) hbl).trans hc3
      clear hc1 hc2 hc3 hcell
      have HE : Hid (swF xs[k] = swF (xs[k].1, xs[k].2.1, xs[k].2.2)) := rfl
      have HYK := Lib.hid (HY.out k hlt)
      have HNX : Hid (swF xs[k] = false → ∀ j (hj : j < k + 1) (hj2 : j < xs.length), swF xs[j] = false) := fun h j hj hj2 => by
        by_cases e : j = k
        · subst e; exact h
        · exact hm.out j (by omega) hj2
      have HSS := Lib.hid (fun W => HS.out xs[k].1 xs[k].2.1 xs[k].2.2 W)
      generalize xs[k].1 = x1 at *
      generalize xs[k].2.1 = x2 at *
      generalize xs[k].2.2 = x3 at *
      generalize swF (x1, x2, x3) = f at *
      cases f with
      | true =>
        go_wp2_with (go_at_call 59; refine (HSS.out _).mono ?_; rintro e w3 ⟨rfl, hb3⟩)
        go_ret
        exact ⟨⟨_, rfl, by show _ = _; rw [HYK.out HE.out]; exact (decide_eq_true (by omega)).symm⟩, hb.trans (hb3.mono hbs)⟩
      | false =>
        go_wp2_with (go_at_call 59; refine (HSS.out _).mono ?_; rintro e w3 ⟨rfl, hb3⟩)
        go_roundw
        case rel => exact ⟨k + 1, by omega, by go_num, hb.trans (hb3.mono hbs), HNX.out HE.out⟩
        case measure => simp [RowKit.intOf]; omega
    · have HZZ := Lib.hid (HN.out fun j hj => hm.out j (by omega) hj)
      go_wp2
      go_ret
      exact ⟨⟨_, rfl, by show _ = _; rw [HZZ.out]; rfl⟩, hb⟩
theorem containsSwap_c (xs : List St) (v : Value) (w : World) (hx : RdS w v xs) (hl : xs.length ≤ 1048576) :
    Calls Try.prog 58 #[v, .func (.func 59) #[] #[]] w fun e w' => e = .returned (.bool (xs.any swF)) ∧ Below w.heap.size w w' := by
  have HI := Lib.hid (indexSwap_c xs v w hx hl)
  generalize xs.any swF = f at *
  go_enter Try.func58, Try.ntmps58
  go_wp2_with fail
  refine HI.out.mono ?_
  rintro e w1 ⟨⟨z, rfl, hz⟩, hb⟩
  go_wp2
  go_ret
  exact ⟨by rw [hz.out]; rfl, hb⟩
set_option maxHeartbeats 800000 in
theorem freeName_c (a free : ByteArray) (hs : free.size ≤ 2) (w : World) :
    Calls Try.prog 79 #[.string a, .string free] w fun e w' => e = .returned (.string (frN free.data.toList a)) ∧ w = w' := by
  have hfl : free.data.toList.length = free.size := size_data free
  by_cases ht : a = ⟨#[116]⟩
  · subst ht
    have h5 := fun W => positionIn_yes ⟨#[116, 117]⟩ 116 0 (by decide) W
    by_cases h0 : 0 < free.size
    · have HX := Lib.hid (extract_one free 0 h0)
      have HF := Lib.hid (frN_t (free := free.data.toList) (by omega))
      have t1 : (0 : Int) < (free.size : Int) := by omega
      clear hfl
      go_enter Try.func79, Try.ntmps79
      go_wp2_with (go_at_call 73; refine (h5 _).mono ?_; rintro e w' ⟨rfl, rfl⟩)
      go_ret
      exact ⟨by rw [HF.out, ← HX.out]; rfl, rfl⟩
    · have HF := Lib.hid (frN_t0 (free := free.data.toList) (by omega))
      have t1 : ¬ (0 : Int) < (free.size : Int) := by omega
      clear hfl
      go_enter Try.func79, Try.ntmps79
      go_wp2_with (go_at_call 73; refine (h5 _).mono ?_; rintro e w' ⟨rfl, rfl⟩)
      go_ret
      exact ⟨by rw [HF.out]; rfl, rfl⟩
  by_cases hu : a = spU
  · subst hu
    have h5 := fun W => positionIn_yes ⟨#[116, 117]⟩ 117 1 (by decide) W
    by_cases h0 : 1 < free.size
    · have HX := Lib.hid (extract_one free 1 h0)
      have HF := Lib.hid (frN_u (free := free.data.toList) (by omega))
      have t1 : (1 : Int) < (free.size : Int) := by omega
      clear hfl ht
      go_enter Try.func79, Try.ntmps79
      go_wp2_with (go_at_call 73; refine (h5 _).mono ?_; rintro e w' ⟨rfl, rfl⟩)
      go_ret
      exact ⟨by rw [HF.out, ← HX.out]; rfl, rfl⟩
    · have HF := Lib.hid (frN_u0 (free := free.data.toList) (by omega))
      have t1 : ¬ (1 : Int) < (free.size : Int) := by omega
      clear hfl ht
      go_enter Try.func79, Try.ntmps79
      go_wp2_with (go_at_call 73; refine (h5 _).mono ?_; rintro e w' ⟨rfl, rfl⟩)
      go_ret
      exact ⟨by rw [HF.out]; rfl, rfl⟩
  · have h5 := fun W => positionIn_no ⟨#[116, 117]⟩ a (fun c hc hm => by
      subst hc
      have : c = 116 ∨ c = 117 := by simpa using hm
      rcases this with rfl | rfl
      · exact ht rfl
      · exact hu rfl) W
    have HF := Lib.hid (frN_other (free := free.data.toList) ht hu)
    clear ht hu hfl
    go_enter Try.func79, Try.ntmps79
    go_wp2_with (go_at_call 73; refine (h5 _).mono ?_; rintro e w' ⟨rfl, rfl⟩)
    go_ret
    exact ⟨by rw [HF.out]; rfl, rfl⟩
set_option maxHeartbeats 800000 in
theorem areFree_c (free : ByteArray) (xs : List St) (hv : svalid xs = true) (v : Value) (w : World) (hx : RdS w v xs) (hf : free.size ≤ 1048576) :
    Calls Try.prog 78 #[.string free, v] w fun e w' => e = .returned (.bool (arF xs free.data.toList)) ∧ Below w.heap.size w w' := by
  have hfl : free.data.toList.length = free.size := size_data free
  have HPL : Hid (∀ W, Calls Try.prog 88 #[.string ⟨#[97, 98, 99, 100, 101, 102]⟩, .string free] W fun e w' => e = .returned (.string (rgB free.data.toList)) ∧ W = w') := fun W => namesIn_c ⟨#[97, 98, 99, 100, 101, 102]⟩ free (by decide) W
  have HSN := Lib.hid (stepNames_c xs hv v w hx)
  have hlen := svalid_len hv
  have hns := snT_size hv xs.length
  rw [snT_full] at hns
  by_cases h1 : (rgB free.data.toList).size = free.size
  · have t1 : (((rgB free.data.toList).size : Int) == (free.size : Int)) = true := by simp [h1]
    by_cases h2 : free.size ≤ 2
    · have HY := Lib.hid (ar_yes (xs := xs) (free := free.data.toList) (by rw [h1, hfl]) (by omega))
      have HCA := Lib.hid (fun W => Try.strings_ContainsAny_laid (snT xs) free W (by omega) (by omega) (fun j b hb => nm_ascii hv b (by rw [← snT_list]; exact List.mem_of_getElem? hb)) (fun j b hb => free_ascii (by rw [h1, hfl]) b (List.mem_of_getElem? hb)))
      have t2 : (free.size : Int) ≤ 2 := by omega
      rw [snT_list] at HCA
      clear hv hfl h1 h2
      generalize rgB free.data.toList = rg at *
      generalize snT xs = nt at *
      go_enter Try.func78, Try.ntmps78
      go_wp2_with (first | (go_at_call 88; refine (HPL.out _).mono ?_; rintro e w' ⟨rfl, rfl⟩) | (go_at_call 57; refine HSN.out.mono ?_; rintro e w2 ⟨rfl, hb2⟩) | (go_at_call 116; refine (HCA.out _).mono ?_; rintro e w3 ⟨rfl, hb3⟩))
      go_ret
      exact ⟨by rw [HY.out]; rfl, hb2.trans (hb3.mono hb2.size)⟩
    · have HN := Lib.hid (ar_no2 (xs := xs) (free := free.data.toList) (by omega))
      have t2 : ¬ (free.size : Int) ≤ 2 := by omega
      clear hv hfl h1 h2
      generalize rgB free.data.toList = rg at *
      go_enter Try.func78, Try.ntmps78
      go_wp2_with (first | (go_at_call 88; refine (HPL.out _).mono ?_; rintro e w' ⟨rfl, rfl⟩))
      go_ret
      exact ⟨by rw [HN.out]; rfl, Below.refl _ _⟩
  · have t1 : (((rgB free.data.toList).size : Int) == (free.size : Int)) = false := by simp; omega
    have HN := Lib.hid (ar_no1 (xs := xs) (free := free.data.toList) (by rw [hfl]; exact h1))
    clear hv hfl h1
    generalize rgB free.data.toList = rg at *
    go_enter Try.func78, Try.ntmps78
    go_wp2_with (first | (go_at_call 88; refine (HPL.out _).mono ?_; rintro e w' ⟨rfl, rfl⟩))
    go_ret
    exact ⟨by rw [HN.out]; rfl, Below.refl _ _⟩
end Go.Proofs.Ytogkodjlbdlgjaa
