/- Proved: for every input of the form's own reach the law FnExactSignOf answers true and its arguments read afterwards as before; no further condition. -/
import Derived.Test.YteadhnpmmpninaaSwJA
import Derived.Test.YteadhnpmmpninaaBusy
import Derived.Test.YteadhnpmmpninaaRows
import Derived.Test.YteadhnpmmpninaaLib
import Derived.ProofKit
import Derived.OpenShut
import Derived.ShutString
import Derived.ChangeOld
import Derived.Deep.Slices
import Derived.ChangeSame
import Derived.Carry
import Derived.Test.YteadhnpmmpninaaHar
namespace Go.PS
open Go.PM Go.RowKit Go.PW
/-- how many steps moves take with swaps; how many swaps an exchange takes; its sign -/
def cwI (xs : List Mv) : Int := if mvalid xs then ((busyF xs 9).length : Int) - ((ringsB xs).length : Int) else -1
def csI (xs : List Mv) : Int := if exchB xs then cwI xs else -1
def sgI (xs : List Mv) : Int := if exchB xs then (if (swM xs).length % 2 = 0 then 1 else -1) else 0
theorem exch_mv {xs : List Mv} (h : exchB xs = true) : mvalid xs = true := by
  have := (exchB_iff.1 h).1
  simpa [mvalid] using this
theorem ringsB_len {xs : List Mv} (h : mvalid xs = true) : (ringsB xs).length = (ringsF (nxT (tabOf xs)) 9).length := by
  unfold ringsB ringsT; rw [if_pos h, List.length_map]
theorem ringsB_le (xs : List Mv) : (ringsB xs).length ≤ 9 := by
  rcases Bool.eq_false_or_eq_true (mvalid xs) with h | h
  · rw [ringsB_len h]
    exact (ringsF_lt (nice (SV_tab (by simpa [mvalid] using h))) 9 (Nat.le_refl _)).2.1
  · unfold ringsB; rw [if_neg (by rw [h]; decide)]; simp
theorem flat_low {f : Nat → ByteArray} (hf : SV f) : ∀ x ∈ (ringsF (nxT f) 9).flatten, x < 9 ∧ sx f x ≠ x := fun x hx => by
  obtain ⟨r, hr, hxr⟩ := List.mem_flatten.1 hx
  have hq := PO.ringQ f hf hr
  obtain ⟨i, hi⟩ := List.getElem?_of_mem hxr
  have hil := (List.getElem?_eq_some_iff.1 hi).1
  rw [List.getElem?_eq_getElem hil] at hi
  have e := Option.some.inj hi
  have h2 := hq.two
  refine ⟨by rw [← e]; exact hq.low i hil, fun es => ?_⟩
  have h3 := hq.next i hil
  rw [e, es, ← e] at h3
  have h4 := (List.getElem_inj hq.nodup).1 h3
  by_cases h5 : i + 1 < r.length
  · rw [Nat.mod_eq_of_lt h5] at h4; omega
  · rw [show i + 1 = r.length by omega, Nat.mod_self] at h4; omega
theorem busy_flat {xs : List Mv} (h : exchB xs = true) : (busyF xs 9).length = (ringsF (nxT (tabOf xs)) 9).flatten.length := by
  obtain ⟨h1, h2⟩ := exchB_iff.1 h
  have hf := SV_tab h1
  have hn := nice hf
  have hbf : (busyF xs 9).length = ((List.range 9).filter (busyH xs)).length := by unfold busyF; rw [List.length_map]
  have hbz : ∀ p, p < 9 → (busyH xs p = true ↔ sx (tabOf xs) p ≠ p) := fun p hp => by
    unfold busyH
    rw [decide_eq_true_eq, ← srcM_nm h1 hp, ne_eq, src_self hf hp]
  rw [hbf]
  refine Nat.le_antisymm ?_ ?_
  · refine PM.nodup_le _ _ (List.nodup_range.filter _) fun a ha => ?_
    obtain ⟨ha1, ha2⟩ := List.mem_filter.1 ha
    have ha9 : a < 9 := by simpa using ha1
    refine PO.ringsF_in hn ha9 (PO.exch_ring hf h2 ha9 fun e => ?_) 9 ha9
    exact (hbz a ha9).1 ha2 ((src_self hf ha9).1 e)
  · refine PM.nodup_le _ _ (PO.ringsF_nodup hn 9 (Nat.le_refl _)) fun a ha => ?_
    have := flat_low hf a ha
    exact List.mem_filter.2 ⟨by simpa using this.1, (hbz a this.1).2 this.2⟩
theorem cs_len {xs : List Mv} (h : exchB xs = true) : csI xs = ((swM xs).length : Int) := by
  obtain ⟨h1, h2⟩ := exchB_iff.1 h
  have hm := exch_mv h
  unfold csI cwI
  rw [if_pos h, if_pos hm, busy_flat h, ringsB_len hm, swM_rings h]
  have := prs_count _ (rings_pos (SV_tab h1))
  omega
theorem cs_no {xs : List Mv} (h : exchB xs = false) : csI xs = -1 := if_neg (by rw [h]; decide)
end Go.PS
namespace Go.Proofs.Yteadhnpmmpninaa
open Go.RowKit Go.PM Go.PS Go.PW Go.Lib

set_option maxRecDepth 100000 in
set_option maxHeartbeats 1000000 in
theorem imCountWithSwaps_c (xs : List Mv) (v : Value) (w : World) (hx : RdM w v xs) (hn' : xs.length ≤ 1048576) :
    Calls Try.prog 35 #[v] w fun e w' => e = .returned (.int .i64 (cwI xs)) ∧ Below w.heap.size w w' := by
  have HN : Hid (cwI xs = if mvalid xs then ((busyF xs 9).length : Int) - ((ringsB xs).length : Int) else -1) := rfl
  have HI : Hid (countI xs = if mvalid xs then ((busyF xs 9).length : Int) else -1) := rfl
  have hl1 := busyF_len xs 9
  have hl2 := ringsB_le xs
  have HC := Lib.hid (imRingsOf_c xs v w hx)
  have HB := Lib.hid (fun W (hW : Below w.heap.size w W) => imCountBusy_c xs v W (hx.below hW) hn')
  go_enter Try.func35, Try.ntmps35
  go_wp2_with fail
  refine HC.out.mono ?_
  rintro e w1 ⟨v', rfl, ho, hb⟩
  obtain ⟨A, cap, rfl, _⟩ := Rd.of_own ho
  clear ho HC hx
  have hs1 := hb.size
  rcases Bool.eq_false_or_eq_true (mvalid xs) with h1 | h1
  · have hci := HI.out
    rw [h1, if_pos rfl] at hci
    have hcb := HB.out _ hb
    rw [hci] at hcb
    generalize (ringsB xs).length = n at *
    generalize (busyF xs 9).length = m at *
    go_wp2_with (go_at_call 74; refine hcb.mono ?_; rintro e w2 ⟨rfl, hb2⟩; refine held ?_)
    unfold Held
    have hb3 := hb.trans (hb2.mono hs1)
    clear hb2 hcb hci
    go_wp2
    go_ret
    exact ⟨by rw [HN.out, h1, if_pos rfl]; rfl, hb3⟩
  · go_wp2
    go_ret
    exact ⟨by rw [HN.out, h1]; rfl, hb⟩
set_option maxRecDepth 100000 in
set_option maxHeartbeats 1000000 in
theorem spCountWithSwaps_c (xs : List Mv) (v : Value) (w : World) (hx : RdM w v xs) (hz : ∀ m ∈ xs, m.1.size ≤ 9223372036854775807 ∧ m.2.size ≤ 9223372036854775807) (hn' : xs.length ≤ 1048576) :
    Calls Try.prog 34 #[v] w fun e w' => e = .returned (.int .i64 (cwI xs)) ∧ Below w.heap.size w w' := by
  have HN : Hid (cwI xs = if mvalid xs then ((busyF xs 9).length : Int) - ((ringsB xs).length : Int) else -1) := rfl
  have hl1 := busyF_len xs 9
  have hl2 := ringsB_le xs
  have HX := Lib.hid (fun W (hW : Below w.heap.size w W) => hx.below hW)
  have HV := Lib.hid (spMovesValid_c xs v w hx hz hn')
  rcases Bool.eq_false_or_eq_true (mvalid xs) with h1 | h1
  · have HB := Lib.hid (fun W (hW : RdM W v xs) => l1Busy_c xs v W hW)
    have HL := Lib.hid (fun W (hW : RdM W v xs) => l3Rings_c xs (by simpa [mvalid] using h1) v W hW)
    have HRB : Hid (ringsT (nxT (tabOf xs)) 9 = ringsB xs) := by show _ = _; unfold ringsB; rw [if_pos h1]
    rw [HRB.out] at HL
    rw [h1] at HV HN
    clear hx hz h1 HRB
    generalize ringsB xs = rs at *
    generalize busyF xs 9 = bs at *
    go_enter Try.func34, Try.ntmps34
    go_wp2_with fail
    refine HV.out.mono ?_
    rintro e w1 ⟨rfl, hb1⟩
    have hs1 := hb1.size
    have hx1 := HX.out _ hb1
    go_wp2_with (go_at_call 53; refine (HB.out _ hx1).mono ?_; rintro e w2 ⟨v2, rfl, ho2, hb2⟩; refine held ?_)
    unfold Held
    have hB2 := hb1.trans (hb2.mono hs1)
    have hx2 := HX.out _ hB2
    have hs2 := hB2.size
    obtain ⟨A2, cap2, rfl, _⟩ := Rd.of_own ho2
    clear ho2 hx1 hb2
    go_wp2_with (go_at_call 54; refine (HL.out _ hx2).mono ?_; rintro e w3 ⟨v3, rfl, ho3, hb3⟩; refine held ?_)
    unfold Held
    have hB3 := hB2.trans (hb3.mono hs2)
    obtain ⟨A3, cap3, rfl, _⟩ := Rd.of_own ho3
    clear ho3 hx2 hb3
    generalize rs.length = n at *
    generalize bs.length = m at *
    go_wp2
    go_ret
    exact ⟨by rw [HN.out]; rfl, hB3⟩
  · rw [h1] at HV HN
    clear hx hz
    go_enter Try.func34, Try.ntmps34
    go_wp2_with fail
    refine HV.out.mono ?_
    rintro e w1 ⟨rfl, hb1⟩
    go_wp2
    go_ret
    exact ⟨by rw [HN.out]; rfl, hb1⟩
set_option maxRecDepth 100000 in
theorem imCountSwaps_c (xs : List Mv) (v : Value) (w : World) (hx : RdM w v xs) (hn' : xs.length ≤ 1048576) :
    Calls Try.prog 17 #[v] w fun e w' => e = .returned (.int .i64 (csI xs)) ∧ Below w.heap.size w w' := by
  have HN : Hid (csI xs = if exchB xs then cwI xs else -1) := rfl
  have HX := Lib.hid (fun W (hW : Below w.heap.size w W) => hx.below hW)
  have HV := Lib.hid (imIsExchange_c xs v w hx)
  rcases Bool.eq_false_or_eq_true (exchB xs) with h1 | h1
  · have HB := Lib.hid (fun W (hW : RdM W v xs) => imCountWithSwaps_c xs v W hW hn')
    rw [h1] at HV HN
    clear hx
    generalize cwI xs = n at *
    go_enter Try.func17, Try.ntmps17
    go_wp2_with fail
    refine HV.out.mono ?_
    rintro e w1 ⟨rfl, hb1⟩
    have hs1 := hb1.size
    have hx1 := HX.out _ hb1
    go_wp2_with (go_at_call 35; refine (HB.out _ hx1).mono ?_; rintro e w2 ⟨rfl, hb2⟩; refine held ?_)
    unfold Held
    have hB2 := hb1.trans (hb2.mono hs1)
    go_wp2
    go_ret
    exact ⟨by rw [HN.out]; rfl, hB2⟩
  · rw [h1] at HV HN
    clear hx
    go_enter Try.func17, Try.ntmps17
    go_wp2_with fail
    refine HV.out.mono ?_
    rintro e w1 ⟨rfl, hb1⟩
    go_wp2
    go_ret
    exact ⟨by rw [HN.out]; rfl, hb1⟩
set_option maxRecDepth 100000 in
set_option maxHeartbeats 1000000 in
theorem spCountSwaps_c (xs : List Mv) (v : Value) (w : World) (hx : RdM w v xs) (hz : ∀ m ∈ xs, m.1.size ≤ 9223372036854775807 ∧ m.2.size ≤ 9223372036854775807) (hn' : xs.length ≤ 1048576) :
    Calls Try.prog 20 #[v] w fun e w' => e = .returned (.int .i64 (csI xs)) ∧ Below w.heap.size w w' := by
  have HX := Lib.hid (fun W (hW : Below w.heap.size w W) => hx.below hW)
  have HV := Lib.hid (spIsExchange_c xs v w hx hz hn')
  have hl1 := busyF_len xs 9
  have hl2 := ringsB_le xs
  rcases Bool.eq_false_or_eq_true (exchB xs) with h0 | h0
  · have h1 := exch_mv h0
    have HN : Hid (csI xs = ((busyF xs 9).length : Int) - ((ringsB xs).length : Int)) := by show _ = _; unfold csI cwI; rw [if_pos h0, if_pos h1]
    have HB := Lib.hid (fun W (hW : RdM W v xs) => l1Busy_c xs v W hW)
    have HL := Lib.hid (fun W (hW : RdM W v xs) => l3Rings_c xs (by simpa [mvalid] using h1) v W hW)
    have HRB : Hid (ringsT (nxT (tabOf xs)) 9 = ringsB xs) := by show _ = _; unfold ringsB; rw [if_pos h1]
    rw [HRB.out] at HL
    rw [h0] at HV
    clear hx hz h1 h0 HRB
    generalize ringsB xs = rs at *
    generalize busyF xs 9 = bs at *
    go_enter Try.func20, Try.ntmps20
    go_wp2_with fail
    refine HV.out.mono ?_
    rintro e w1 ⟨rfl, hb1⟩
    have hs1 := hb1.size
    have hx1 := HX.out _ hb1
    go_wp2_with (go_at_call 53; refine (HB.out _ hx1).mono ?_; rintro e w2 ⟨v2, rfl, ho2, hb2⟩; refine held ?_)
    unfold Held
    have hB2 := hb1.trans (hb2.mono hs1)
    have hx2 := HX.out _ hB2
    have hs2 := hB2.size
    obtain ⟨A2, cap2, rfl, _⟩ := Rd.of_own ho2
    clear ho2 hx1 hb2
    go_wp2_with (go_at_call 54; refine (HL.out _ hx2).mono ?_; rintro e w3 ⟨v3, rfl, ho3, hb3⟩; refine held ?_)
    unfold Held
    have hB3 := hB2.trans (hb3.mono hs2)
    obtain ⟨A3, cap3, rfl, _⟩ := Rd.of_own ho3
    clear ho3 hx2 hb3
    generalize rs.length = n at *
    generalize bs.length = m at *
    go_wp2
    go_ret
    exact ⟨by rw [HN.out]; rfl, hB3⟩
  · have HN := Lib.hid (cs_no h0)
    rw [h0] at HV
    clear hx hz
    go_enter Try.func20, Try.ntmps20
    go_wp2_with fail
    refine HV.out.mono ?_
    rintro e w1 ⟨rfl, hb1⟩
    go_wp2
    go_ret
    exact ⟨by rw [HN.out]; rfl, hb1⟩
set_option maxRecDepth 100000 in
set_option maxHeartbeats 1000000 in
theorem imSignOf_c (xs : List Mv) (v : Value) (w : World) (hx : RdM w v xs) (hn' : xs.length ≤ 1048576) :
    Calls Try.prog 18 #[v] w fun e w' => e = .returned (.int .i64 (sgI xs)) ∧ Below w.heap.size w w' := by
  have HN : Hid (sgI xs = if exchB xs then (if (swM xs).length % 2 = 0 then 1 else -1) else 0) := rfl
  have HV := Lib.hid (imCountSwaps_c xs v w hx hn')
  rcases Bool.eq_false_or_eq_true (exchB xs) with h1 | h1
  · have hc := cs_len h1
    rw [hc] at HV
    rw [h1, if_pos rfl] at HN
    have hl := swM_le xs
    clear hc hx
    generalize (swM xs).length = n at *
    have n0 : (0 : Int) ≤ (n : Int) := by omega
    have n1 : ¬ (n : Int) < 0 := by omega
    rcases Nat.mod_two_eq_zero_or_one n with h2 | h2
    · have n2 : (n : Int).tmod 2 = 0 := by rw [Int.tmod_eq_emod_of_nonneg n0]; omega
      have n3 : (n : Int) % 2 = 0 := by omega
      have HH := Lib.hid h2
      clear h2
      go_enter Try.func18, Try.ntmps18
      go_wp2_with fail
      refine HV.out.mono ?_
      rintro e w1 ⟨rfl, hb1⟩
      go_wp2
      go_ret
      exact ⟨by rw [HN.out, if_pos HH.out]; rfl, hb1⟩
    · have n2 : (n : Int).tmod 2 = 1 := by rw [Int.tmod_eq_emod_of_nonneg n0]; omega
      have n3 : (n : Int) % 2 = 1 := by omega
      have HH : Hid (¬ n % 2 = 0) := by show ¬ _; omega
      clear h2
      go_enter Try.func18, Try.ntmps18
      go_wp2_with fail
      refine HV.out.mono ?_
      rintro e w1 ⟨rfl, hb1⟩
      go_wp2
      go_ret
      exact ⟨by rw [HN.out, if_neg HH.out]; rfl, hb1⟩
  · rw [cs_no h1] at HV
    rw [h1] at HN
    clear hx
    go_enter Try.func18, Try.ntmps18
    go_wp2_with fail
    refine HV.out.mono ?_
    rintro e w1 ⟨rfl, hb1⟩
    go_wp2
    go_ret
    exact ⟨by rw [HN.out]; rfl, hb1⟩
set_option maxRecDepth 100000 in
set_option maxHeartbeats 1000000 in
theorem spSignOf_c (xs : List Mv) (v : Value) (w : World) (hx : RdM w v xs) (hz : ∀ m ∈ xs, m.1.size ≤ 9223372036854775807 ∧ m.2.size ≤ 9223372036854775807) (hn' : xs.length ≤ 1048576) :
    Calls Try.prog 21 #[v] w fun e w' => e = .returned (.int .i64 (sgI xs)) ∧ Below w.heap.size w w' := by
  have HN : Hid (sgI xs = if exchB xs then (if (swM xs).length % 2 = 0 then 1 else -1) else 0) := rfl
  have HV := Lib.hid (spCountSwaps_c xs v w hx hz hn')
  rcases Bool.eq_false_or_eq_true (exchB xs) with h1 | h1
  · have hc := cs_len h1
    rw [hc] at HV
    rw [h1, if_pos rfl] at HN
    have hl := swM_le xs
    clear hc hx
    generalize (swM xs).length = n at *
    have n0 : (0 : Int) ≤ (n : Int) := by omega
    have n1 : ¬ (n : Int) < 0 := by omega
    rcases Nat.mod_two_eq_zero_or_one n with h2 | h2
    · have n2 : (n : Int).tmod 2 = 0 := by rw [Int.tmod_eq_emod_of_nonneg n0]; omega
      have n3 : (n : Int) % 2 = 0 := by omega
      have HH := Lib.hid h2
      clear h2
      go_enter Try.func21, Try.ntmps21
      go_wp2_with fail
      refine HV.out.mono ?_
      rintro e w1 ⟨rfl, hb1⟩
      go_wp2
      go_ret
      exact ⟨by rw [HN.out, if_pos HH.out]; rfl, hb1⟩
    · have n2 : (n : Int).tmod 2 = 1 := by rw [Int.tmod_eq_emod_of_nonneg n0]; omega
      have n3 : (n : Int) % 2 = 1 := by omega
      have HH : Hid (¬ n % 2 = 0) := by show ¬ _; omega
      clear h2
      go_enter Try.func21, Try.ntmps21
      go_wp2_with fail
      refine HV.out.mono ?_
      rintro e w1 ⟨rfl, hb1⟩
      go_wp2
      go_ret
      exact ⟨by rw [HN.out, if_neg HH.out]; rfl, hb1⟩
  · rw [cs_no h1] at HV
    rw [h1] at HN
    clear hx
    go_enter Try.func21, Try.ntmps21
    go_wp2_with fail
    refine HV.out.mono ?_
    rintro e w1 ⟨rfl, hb1⟩
    go_wp2
    go_ret
    exact ⟨by rw [HN.out]; rfl, hb1⟩
set_option maxRecDepth 100000 in
theorem spSwapsFor_c (xs : List Mv) (v : Value) (w : World) (hx : RdM w v xs) (hz : ∀ m ∈ xs, m.1.size ≤ 9223372036854775807 ∧ m.2.size ≤ 9223372036854775807) (hn' : xs.length ≤ 1048576) :
    Calls Try.prog 14 #[v] w fun e w' => ∃ v', e = .returned (.tuple #[v', .bool (exchB xs)]) ∧ w'.ownsRow w.heap.size 33 3 v' (swL (swM xs)).length (scells (swL (swM xs))) ∧ Below w.heap.size w w' := by
  have HX := Lib.hid (fun W (hW : Below w.heap.size w W) => hx.below hW)
  have HV := Lib.hid (spIsExchange_c xs v w hx hz hn')
  rcases Bool.eq_false_or_eq_true (exchB xs) with h0 | h0
  · have HL := Lib.hid (fun W (hW : RdM W v xs) => l7Rings_c xs (exchB_iff.1 h0).1 v W hW)
    rw [← swM_rings h0] at HL
    have H0 := Lib.hid h0
    rw [h0] at HV
    clear hx hz h0
    generalize swL (swM xs) = ys at *
    go_enter Try.func14, Try.ntmps14
    go_wp2_with fail
    refine HV.out.mono ?_
    rintro e w1 ⟨rfl, hb1⟩
    have hs1 := hb1.size
    have hx1 := HX.out _ hb1
    go_wp2_with (go_at_call 48; refine (HL.out _ hx1).mono ?_; rintro e w2 ⟨v2, rfl, ho2, hb2⟩; refine held ?_)
    unfold Held
    have hB2 := hb1.trans (hb2.mono hs1)
    have ho3 := own_more ho2 hs1
    clear ho2 hb2
    go_wp2
    go_ret2
    exact ⟨_, by rw [H0.out]; rfl, ho3, hB2⟩
  · have HNO : Hid (swL (swM xs) = []) := by show _ = _; rw [swM_no h0]; rfl
    have H0 := Lib.hid h0
    rw [h0] at HV
    clear hx hz h0
    go_enter Try.func14, Try.ntmps14
    go_wp2_with fail
    refine HV.out.mono ?_
    rintro e w1 ⟨rfl, hb1⟩
    have hs1 := hb1.size
    have hE := World.ownsRow_lit (e := 33) (base := w.heap.size) (size := 3) w1 #[] 0 hs1 (Nat.zero_le _) rfl
    go_wp2
    go_ret2
    exact ⟨_, by rw [H0.out]; rfl, by rw [HNO.out]; exact hE, by (repeat' (first | (with_reducible exact Below.refl _ _) | (with_reducible assumption) | (with_reducible refine Below.alloc ?_ ?_ _) | (with_reducible refine Below.drew ?_) | (with_reducible refine Below.setCell ?_ ?_ _) | (with_reducible exact Nat.le_refl _) | omega | ((repeat (first | rewrite [World.size_alloc] | rewrite [World.size_setCell] | rewrite [World.size_drew])); omega) | (simp; omega) | (simp; done)))⟩
end Go.Proofs.Yteadhnpmmpninaa
namespace Go.Proofs.Yteadhnpmmpninaa
open Go.RowKit Go.PM Go.ChangeShapes Go.WideShapes Go.Deep

theorem own : ownKnob Try.prog.godebug = none := by kernel_rfl
theorem laidOut : laidOutB Try.prog = true := by kernel_rfl

theorem exists_list {α : Type} (Q : Nat → α → Prop) : ∀ n, (∀ i, i < n → ∃ m, Q i m) → ∃ xs : List α, xs.length = n ∧ ∀ i (h : i < xs.length), Q i xs[i]
  | 0, _ => ⟨[], rfl, fun i h => absurd h (Nat.not_lt_zero _)⟩
  | n + 1, h => by
    obtain ⟨xs, hl, hx⟩ := exists_list Q n fun i hi => h i (by omega)
    obtain ⟨m, hm⟩ := h n (by omega)
    refine ⟨xs ++ [m], by simp [hl], fun i hi => ?_⟩
    by_cases h1 : i < xs.length
    · rw [List.getElem_append_left h1]; exact hx i h1
    · have h2 : i = xs.length := by simp at hi; omega
      subst h2
      rw [List.getElem_append_right (Nat.le_refl _)]
      simpa [hl] using hm

theorem rdM_mk {w : World} {ad : Addr} {cap : Nat} (xs : List Mv) (hc : xs.length ≤ cap) (hn : xs.length ≤ 9223372036854775807)
    (h : ∀ i (hi : i < xs.length), w.cell? (ad.add (i * 2)) = some (.string xs[i].1) ∧ w.cell? ((ad.add (i * 2)).add 1) = some (.string xs[i].2)) : RdM w (.slice (some ad) xs.length cap) xs := by
  refine ⟨some ad, cap, rfl, hc, hn, mcells_length xs, fun h0 => ?_⟩
  have h1 := (h 0 h0).1
  obtain ⟨b, off, spot⟩ := ad
  have hs : spot = none := by
    have := World.cell?_spot h1
    simpa [Addr.add] using this
  subst hs
  have hadd : ∀ o i, (Addr.mk b o none).add i = ⟨b, o + i, none⟩ := fun o i => by
    unfold Addr.add; split
    · next h => subst h; rfl
    · rfl
  refine ⟨b, off, rfl, ?_, fun j u hu => ?_⟩
  · rcases Nat.lt_or_ge b w.heap.size with hlt | hge
    · exact hlt
    · rw [hadd] at h1
      simp [World.cell?, Array.getElem?_eq_none hge] at h1
  · have hj : j < xs.length * 2 := by rw [← mcells_length]; exact (List.getElem?_eq_some_iff.1 hu).1
    have hk : j / 2 < xs.length := by omega
    have hm := mcells_at xs (j / 2) _ (List.getElem?_eq_getElem hk)
    have hh := h (j / 2) hk
    rw [hadd, hadd] at hh
    rcases Nat.mod_two_eq_zero_or_one j with h0 | h0
    · have e : j / 2 * 2 = j := by omega
      rw [e] at hm hh
      rw [hm.1] at hu
      rw [hh.1, hu]
    · have e : j / 2 * 2 + 1 = j := by omega
      rw [e] at hm
      rw [Nat.add_assoc, e] at hh
      rw [hm.2] at hu
      rw [hh.2, hu]

set_option maxRecDepth 100000 in
theorem open_moves {H : Type} {enc : TypeId × Value → H} {W : World} {base fuel : Nat} {spare : Nat → Bool} {held : Bool} {a : Option Addr} {n c : Nat} {x : DataW H × List MemPlace}
    (h : DataW.trod enc Try.prog W base spare held fuel 40 [.slice a n c] = some x) :
    ∃ xs : List Mv, RdM W (.slice a n c) xs ∧ ∀ m ∈ xs, m.1.size ≤ 9223372036854775807 ∧ m.2.size ≤ 9223372036854775807 := by
  rcases open_slice Try.underlying40 h with ⟨hcs, _⟩ | ⟨ad, len, cap, m, k, D, Pl, hcs, hb, hl, hm, hmm, hx, hi⟩
  · simp at hcs
    obtain ⟨rfl, rfl, rfl⟩ := hcs
    exact ⟨[], ⟨none, 0, rfl, by simp, by simp, rfl, by simp⟩, by simp⟩
  · simp at hcs
    obtain ⟨rfl, rfl, rfl⟩ := hcs
    have hC : Try.prog.cellsOf 80 = 2 := by kernel_rfl
    have hml : n ≤ m := by rw [hmm]; split <;> omega
    have hM : maxLen = 9223372036854775807 := rfl
    obtain ⟨xs, hxl, hxs⟩ := exists_list (fun i (m : Mv) => W.cell? (ad.add (i * 2)) = some (.string m.1) ∧ W.cell? ((ad.add (i * 2)).add 1) = some (.string m.2) ∧ m.1.size ≤ 9223372036854775807 ∧ m.2.size ≤ 9223372036854775807) n (fun i hin => by
      obtain ⟨cs', hc', ht⟩ := hi i (by omega)
      rw [hC] at hc'
      obtain ⟨y0, y1, k', _, hlen, h0, h1⟩ := trod_struct2 Try.underlying80 ht
      obtain ⟨_, hcl, hat⟩ := World.cells?_some hc'
      rw [hC] at hlen
      match cs', hlen with
      | [c0, c1], _ =>
        have e0 : Try.prog.cellsOf 9 = 1 := by kernel_rfl
        simp only [e0] at h0 h1
        simp at h0 h1
        obtain ⟨s, hs, _, hs1⟩ := DataW.trod_string Try.underlying9 h0
        obtain ⟨t, hta, _, ht1⟩ := DataW.trod_string Try.underlying9 h1
        simp at hs hta
        subst hs hta
        refine ⟨(s, t), ?_, ?_, hM ▸ hs1, hM ▸ ht1⟩
        · have := hat 0 (by omega)
          simpa [Addr.add] using this
        · have := hat 1 (by omega)
          simpa using this)
    subst hxl
    refine ⟨xs, rdM_mk xs hl (by omega) fun i hi => ⟨(hxs i hi).1, (hxs i hi).2.1⟩, fun m hm => ?_⟩
    obtain ⟨i, hi, rfl⟩ := List.getElem_of_mem hm
    exact (hxs i hi).2.2
end Go.Proofs.Yteadhnpmmpninaa
namespace Go.Proofs.Yteadhnpmmpninaa
open Go.RowKit Go.PM Go.PS
set_option maxRecDepth 100000 in
set_option maxHeartbeats 1600000 in
theorem exSignOf (w : World) (xs0 : List Mv) (v0 : Value) (hx0 : RdM w v0 xs0) (hz0 : ∀ m ∈ xs0, m.1.size ≤ 9223372036854775807 ∧ m.2.size ≤ 9223372036854775807) :
    Calls Try.prog 10 #[v0] w fun e w' => e = .returned (.bool true) ∧ Below w.heap.size w w' := by
  go_enter Try.func10, Try.ntmps10
  go_wp2_with fail
  refine (szMoveS_c xs0 v0 1048576 _ (by decide) (by decide) hx0 hz0).mono ?_
  rintro e w1 ⟨⟨r0, rfl, hr0, hq0⟩, Hw1⟩
  have HR0 := Lib.hid hr0
  clear hr0
  have Bw1 := Hw1
  have Zw1 := Bw1.size
  by_cases hneg0 : r0 < 0
  · go_wp2
    go_ret
    exact ⟨rfl, Bw1⟩
  have hl0 : xs0.length ≤ 1048576 := by have := HR0.out (by omega); have := msize_len xs0; omega
  have hm0 : msize xs0 ≤ 1048576 := by have := HR0.out (by omega); omega
  go_wp2_with fail
  refine (toMoveS_c xs0 v0 _ (hx0.below Bw1) hl0).mono ?_
  rintro e w2 ⟨uw2, rfl, how2, Hw2⟩
  have Bw2 : Below w.heap.size w w2 := Bw1.trans (Hw2.mono Zw1)
  have Zw2 := Bw2.size
  have Rw2 : RdM w2 uw2 xs0 := Rd.of_own how2
  go_wp2_with fail
  refine (spSignOf_c xs0 uw2 _ Rw2 hz0 hl0).mono ?_
  rintro e w3 ⟨rfl, Hw3⟩
  have Bw3 : Below w.heap.size w w3 := Bw2.trans (Hw3.mono Zw2)
  have Zw3 := Bw3.size
  go_wp2_with fail
  refine (toMoveS_c xs0 v0 _ (hx0.below Bw3) hl0).mono ?_
  rintro e w4 ⟨uw4, rfl, how4, Hw4⟩
  have Bw4 : Below w.heap.size w w4 := Bw3.trans (Hw4.mono Zw3)
  have Zw4 := Bw4.size
  have Rw4 : RdM w4 uw4 xs0 := Rd.of_own how4
  go_wp2_with fail
  refine (imSignOf_c xs0 uw4 _ Rw4 hl0).mono ?_
  rintro e w5 ⟨rfl, Hw5⟩
  have Bw5 : Below w.heap.size w w5 := Bw4.trans (Hw5.mono Zw4)
  have Zw5 := Bw5.size
  have Q0 : RdM w5 uw4 xs0 := Rw4.below Hw5
  go_wp2_with fail
  refine (toMoveS_c xs0 v0 _ (hx0.below Bw5) hl0).mono ?_
  rintro e w6 ⟨uw6, rfl, how6, Hw6⟩
  have Bw6 : Below w.heap.size w w6 := Bw5.trans (Hw6.mono Zw5)
  have Zw6 := Bw6.size
  have Rw6 : RdM w6 uw6 xs0 := Rd.of_own how6
  go_wp2_with fail
  refine (eqMoveS_c xs0 xs0 uw4 uw6 _ (Q0.below Hw6) Rw6).mono ?_
  rintro e w7 ⟨he0, Hw7⟩
  rw [show decide (xs0 = xs0) = true by simp] at he0
  subst he0
  have Bw7 : Below w.heap.size w w7 := Bw6.trans (Hw7.mono Zw6)
  have Zw7 := Bw7.size
  go_wp2
  go_ret
  exact ⟨rfl, Bw7⟩

namespace fnExactSignOf
open Go.RowKit Go.PM Go.ChangeShapes Go.WideShapes Go.ChangeAt
open Go.ChangeMaps (open_string shut_string)
set_option maxRecDepth 100000 in
theorem lifted (os : Os) (started : os.Started) (H : Type) (enc : TypeId × Value → H) :
    ReturnsInHanded {} Try.checked os 10 .any (Rows.fnExactSignOfSpec.pre6 enc Try.prog Try.f10 Rows.fnExactSignOfRow.domain false) (Rows.fnExactSignOfSpec.post enc Try.prog Try.f10 false true false false) := by
  refine returnsInHanded_of_change (C := Try.checked) own started (by kernel_rfl) Try.func10
    (ChangeSpec.witness6 (enc := enc) (C := Try.checked) false ⟨#[], #[.slice none 0 0], []⟩ 8 (by kernel_rfl) (by kernel_rfl) (by kernel_rfl) (by kernel_rfl)) ?_
  intro W base args ds gs before hval0 hW hcnd _
  have hval : ∀ (j : Nat) t v, Try.f10.params[j]? = some t → args[j]? = some v → Value.okWide Try.prog W .any base t v := hval0
  have hW' := hW
  obtain ⟨p, q, hA0, hV, rfl, hfz, hnd⟩ := hW
  have hA : DataW.TrodAll enc Try.prog W 0 (fun _ => true) true Try.f10.params.toList args.toList ds p := hA0
  rw [Try.params10] at hA hval
  obtain ⟨v0, vs0, d0, ds0, p0, q0, hargs, rfl, rfl, h0, r0⟩ := trodAll_cons hA
  obtain ⟨rfl, rfl, rfl⟩ := trodAll_nil r0
  obtain rfl : args = #[v0] := by cases args; simp_all
  obtain ⟨rfl, rfl⟩ := trodVars_none hV
  have k0 := h0
  have lt0 : ∀ x ∈ p0, x.block < W.heap.size := by obtain ⟨m, hm⟩ := k0; exact DataW.trod_lt m _ _ _ hm
  obtain ⟨a0, len0, cap0, rfl⟩ := okWide_slice Try.underlying40 (hval 0 40 v0 rfl rfl)
  obtain ⟨xs0, hx0, hz0⟩ : ∃ xs : List Mv, RdM W (.slice a0 len0 cap0) xs ∧ ∀ m ∈ xs, m.1.size ≤ 9223372036854775807 ∧ m.2.size ≤ 9223372036854775807 := by obtain ⟨fuel, hf⟩ := h0; exact open_moves hf
  clear hA0 hval0
  refine (exSignOf W xs0 _ hx0 hz0).mono fun e W' ⟨he, bel⟩ => ?_
  subst he
  exact ⟨_, rfl, _, _, _, [], _, [], hW', trodAll_mk1 (shut_bool Try.underlying4 _), (trodAll_cons_mk (Below.trod laidOut (by kernel_rfl) (of_decide_eq_true (by kernel_rfl)) k0 bel lt0) trodAll_mk0), rfl, bel.frame _, fun h => by cases h⟩

theorem over : Rows.fnExactSignOfRow.holds Try.pinned (OpenSpec.ofChange Rows.fnExactSignOfSpec) :=
  OpenClaim.holds_of_wide 10 Try.f10 rfl rfl rfl rfl rfl rfl rfl ⟨rfl, rfl, rfl, rfl, rfl⟩ rfl rfl rfl rfl rfl (by kernel_rfl) Try.func10 (by kernel_rfl)
    (of_decide_eq_true (by kernel_rfl)) (by unfold Func.isWrapper; first | (rw [if_pos (by decide +kernel)]; kernel_rfl) | (rw [if_neg (by decide +kernel)]; exact ⟨rfl, rfl⟩))
    (fun os started H enc _ => lifted os started H enc)

/-- The statement. -/
theorem proved : Rows.FnExactSignOfSaid := over
end fnExactSignOf
end Go.Proofs.Yteadhnpmmpninaa
