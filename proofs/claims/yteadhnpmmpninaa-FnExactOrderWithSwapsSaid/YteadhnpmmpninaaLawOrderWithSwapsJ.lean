/- Proved: for every input of the form's own reach the law FnExactOrderWithSwaps answers true and its arguments read afterwards as before; no further condition. -/
import Derived.Test.YteadhnpmmpninaaLawOrderWithSwapsJA
import Derived.Test.YteadhnpmmpninaaBusy
import Derived.Test.YteadhnpmmpninaaComp
import Derived.Test.YteadhnpmmpninaaBusyP
import Derived.Test.YteadhnpmmpninaaRow
import Derived.Test.YteadhnpmmpninaaIm2
import Derived.Test.YteadhnpmmpninaaTail
import Derived.Test.YteadhnpmmpninaaHar
import Derived.Laws.CopyOwn
import Derived.Stop.RegionWithIn
import Derived.Test.YteadhnpmmpninaaIdle
import Derived.Test.YteadhnpmmpninaaApp
import Derived.Deep.RegionLaw
import Derived.Test.YteadhnpmmpninaaMark
import Derived.Test.YteadhnpmmpninaaRows
import Derived.Test.YteadhnpmmpninaaLib
import Derived.ProofKit
import Derived.OpenShut
import Derived.ShutString
import Derived.ChangeOld
import Derived.Deep.Slices
import Derived.ChangeSame
import Derived.Carry
namespace Go.PS
open Go.PM Go.RowKit Go.PW
/-- how many steps moves take with swaps; how many swaps an exchange takes; its sign -/
def cwI (xs : List Mv) : Int := if mvalid xs then ((busyF xs 9).length : Int) - ((ringsB xs).length : Int) else -1
def csI (xs : List Mv) : Int := if exchB xs then cwI xs else -1
def sgI (xs : List Mv) : Int := if exchB xs then (if (swM xs).length % 2 = 0 then 1 else -1) else 0
theorem exch_mv {xs : List Mv} (h : exchB xs = true) : mvalid xs = true := by
  have := (exchB_iff.1 h).1
  simpa [mvalid] using this
theorem ringsB_len {xs : List Mv} (h : mvalid xs = true) : (ringsB xs).length = (ringsF (nxT (tabOf xs)) 9).length := by
  unfold ringsB ringsT; rw [if_pos h, List.length_map]
theorem ringsB_le (xs : List Mv) : (ringsB xs).length ≤ 9 := by
  rcases Bool.eq_false_or_eq_true (mvalid xs) with h | h
  · rw [ringsB_len h]
    exact (ringsF_lt (nice (SV_tab (by simpa [mvalid] using h))) 9 (Nat.le_refl _)).2.1
  · unfold ringsB; rw [if_neg (by rw [h]; decide)]; simp
theorem flat_low {f : Nat → ByteArray} (hf : SV f) : ∀ x ∈ (ringsF (nxT f) 9).flatten, x < 9 ∧ sx f x ≠ x := fun x hx => by
  obtain ⟨r, hr, hxr⟩ := List.mem_flatten.1 hx
  have hq := PO.ringQ f hf hr
  obtain ⟨i, hi⟩ := List.getElem?_of_mem hxr
  have hil := (List.getElem?_eq_some_iff.1 hi).1
  rw [List.getElem?_eq_getElem hil] at hi
  have e := Option.some.inj hi
  have h2 := hq.two
  refine ⟨by rw [← e]; exact hq.low i hil, fun es => ?_⟩
  have h3 := hq.next i hil
  rw [e, es, ← e] at h3
  have h4 := (List.getElem_inj hq.nodup).1 h3
  by_cases h5 : i + 1 < r.length
  · rw [Nat.mod_eq_of_lt h5] at h4; omega
  · rw [show i + 1 = r.length by omega, Nat.mod_self] at h4; omega
theorem busy_flat {xs : List Mv} (h : exchB xs = true) : (busyF xs 9).length = (ringsF (nxT (tabOf xs)) 9).flatten.length := by
  obtain ⟨h1, h2⟩ := exchB_iff.1 h
  have hf := SV_tab h1
  have hn := nice hf
  have hbf : (busyF xs 9).length = ((List.range 9).filter (busyH xs)).length := by unfold busyF; rw [List.length_map]
  have hbz : ∀ p, p < 9 → (busyH xs p = true ↔ sx (tabOf xs) p ≠ p) := fun p hp => by
    unfold busyH
    rw [decide_eq_true_eq, ← srcM_nm h1 hp, ne_eq, src_self hf hp]
  rw [hbf]
  refine Nat.le_antisymm ?_ ?_
  · refine PM.nodup_le _ _ (List.nodup_range.filter _) fun a ha => ?_
    obtain ⟨ha1, ha2⟩ := List.mem_filter.1 ha
    have ha9 : a < 9 := by simpa using ha1
    refine PO.ringsF_in hn ha9 (PO.exch_ring hf h2 ha9 fun e => ?_) 9 ha9
    exact (hbz a ha9).1 ha2 ((src_self hf ha9).1 e)
  · refine PM.nodup_le _ _ (PO.ringsF_nodup hn 9 (Nat.le_refl _)) fun a ha => ?_
    have := flat_low hf a ha
    exact List.mem_filter.2 ⟨by simpa using this.1, (hbz a this.1).2 this.2⟩
theorem cs_len {xs : List Mv} (h : exchB xs = true) : csI xs = ((swM xs).length : Int) := by
  obtain ⟨h1, h2⟩ := exchB_iff.1 h
  have hm := exch_mv h
  unfold csI cwI
  rw [if_pos h, if_pos hm, busy_flat h, ringsB_len hm, swM_rings h]
  have := prs_count _ (rings_pos (SV_tab h1))
  omega
theorem cs_no {xs : List Mv} (h : exchB xs = false) : csI xs = -1 := if_neg (by rw [h]; decide)
end Go.PS
namespace Go.Proofs.Yteadhnpmmpninaa
open Go.RowKit Go.PM Go.PS Go.PW Go.Lib

set_option maxRecDepth 100000 in
set_option maxHeartbeats 1000000 in
theorem imCountWithSwaps_c (xs : List Mv) (v : Value) (w : World) (hx : RdM w v xs) (hn' : xs.length ≤ 1048576) :
    Calls Try.prog 35 #[v] w fun e w' => e = .returned (.int .i64 (cwI xs)) ∧ Below w.heap.size w w' := by
  have HN : Hid (cwI xs = if mvalid xs then ((busyF xs 9).length : Int) - ((ringsB xs).length : Int) else -1) := rfl
  have HI : Hid (countI xs = if mvalid xs then ((busyF xs 9).length : Int) else -1) := rfl
  have hl1 := busyF_len xs 9
  have hl2 := ringsB_le xs
  have HC := Lib.hid (imRingsOf_c xs v w hx)
  have HB := Lib.hid (fun W (hW : Below w.heap.size w W) => imCountBusy_c xs v W (hx.below hW) hn')
  go_enter Try.func35, Try.ntmps35
  go_wp2_with fail
  refine HC.out.mono ?_
  rintro e w1 ⟨v', rfl, ho, hb⟩
  obtain ⟨A, cap, rfl, _⟩ := Rd.of_own ho
  clear ho HC hx
  have hs1 := hb.size
  rcases Bool.eq_false_or_eq_true (mvalid xs) with h1 | h1
  · have hci := HI.out
    rw [h1, if_pos rfl] at hci
    have hcb := HB.out _ hb
    rw [hci] at hcb
    generalize (ringsB xs).length = n at *
    generalize (busyF xs 9).length = m at *
    go_wp2_with (go_at_call 74; refine hcb.mono ?_; rintro e w2 ⟨rfl, hb2⟩; refine held ?_)
    unfold Held
    have hb3 := hb.trans (hb2.mono hs1)
    clear hb2 hcb hci
    go_wp2
    go_ret
    exact ⟨by rw [HN.out, h1, if_pos rfl]; rfl, hb3⟩
  · go_wp2
    go_ret
    exact ⟨by rw [HN.out, h1]; rfl, hb⟩
set_option maxRecDepth 100000 in
set_option maxHeartbeats 1000000 in
theorem spCountWithSwaps_c (xs : List Mv) (v : Value) (w : World) (hx : RdM w v xs) (hz : ∀ m ∈ xs, m.1.size ≤ 9223372036854775807 ∧ m.2.size ≤ 9223372036854775807) (hn' : xs.length ≤ 1048576) :
    Calls Try.prog 34 #[v] w fun e w' => e = .returned (.int .i64 (cwI xs)) ∧ Below w.heap.size w w' := by
  have HN : Hid (cwI xs = if mvalid xs then ((busyF xs 9).length : Int) - ((ringsB xs).length : Int) else -1) := rfl
  have hl1 := busyF_len xs 9
  have hl2 := ringsB_le xs
  have HX := Lib.hid (fun W (hW : Below w.heap.size w W) => hx.below hW)
  have HV := Lib.hid (spMovesValid_c xs v w hx hz hn')
  rcases Bool.eq_false_or_eq_true (mvalid xs) with h1 | h1
  · have HB := Lib.hid (fun W (hW : RdM W v xs) => l1Busy_c xs v W hW)
    have HL := Lib.hid (fun W (hW : RdM W v xs) => l3Rings_c xs (by simpa [mvalid] using h1) v W hW)
    have HRB : Hid (ringsT (nxT (tabOf xs)) 9 = ringsB xs) := by show _ = _; unfold ringsB; rw [if_pos h1]
    rw [HRB.out] at HL
    rw [h1] at HV HN
    clear hx hz h1 HRB
    generalize ringsB xs = rs at *
    generalize busyF xs 9 = bs at *
    go_enter Try.func34, Try.ntmps34
    go_wp2_with fail
    refine HV.out.mono ?_
    rintro e w1 ⟨rfl, hb1⟩
    have hs1 := hb1.size
    have hx1 := HX.out _ hb1
    go_wp2_with (go_at_call 53; refine (HB.out _ hx1).mono ?_; rintro e w2 ⟨v2, rfl, ho2, hb2⟩; refine held ?_)
    unfold Held
    have hB2 := hb1.trans (hb2.mono hs1)
    have hx2 := HX.out _ hB2
    have hs2 := hB2.size
    obtain ⟨A2, cap2, rfl, _⟩ := Rd.of_own ho2
    clear ho2 hx1 hb2
    go_wp2_with (go_at_call 54; refine (HL.out _ hx2).mono ?_; rintro e w3 ⟨v3, rfl, ho3, hb3⟩; refine held ?_)
    unfold Held
    have hB3 := hB2.trans (hb3.mono hs2)
    obtain ⟨A3, cap3, rfl, _⟩ := Rd.of_own ho3
    clear ho3 hx2 hb3
    generalize rs.length = n at *
    generalize bs.length = m at *
    go_wp2
    go_ret
    exact ⟨by rw [HN.out]; rfl, hB3⟩
  · rw [h1] at HV HN
    clear hx hz
    go_enter Try.func34, Try.ntmps34
    go_wp2_with fail
    refine HV.out.mono ?_
    rintro e w1 ⟨rfl, hb1⟩
    go_wp2
    go_ret
    exact ⟨by rw [HN.out]; rfl, hb1⟩
set_option maxRecDepth 100000 in
theorem imCountSwaps_c (xs : List Mv) (v : Value) (w : World) (hx : RdM w v xs) (hn' : xs.length ≤ 1048576) :
    Calls Try.prog 17 #[v] w fun e w' => e = .returned (.int .i64 (csI xs)) ∧ Below w.heap.size w w' := by
  have HN : Hid (csI xs = if exchB xs then cwI xs else -1) := rfl
  have HX := Lib.hid (fun W (hW : Below w.heap.size w W) => hx.below hW)
  have HV := Lib.hid (imIsExchange_c xs v w hx)
  rcases Bool.eq_false_or_eq_true (exchB xs) with h1 | h1
  · have HB := Lib.hid (fun W (hW : RdM W v xs) => imCountWithSwaps_c xs v W hW hn')
    rw [h1] at HV HN
    clear hx
    generalize cwI xs = n at *
    go_enter Try.func17, Try.ntmps17
    go_wp2_with fail
    refine HV.out.mono ?_
    rintro e w1 ⟨rfl, hb1⟩
    have hs1 := hb1.size
    have hx1 := HX.out _ hb1
    go_wp2_with (go_at_call 35; refine (HB.out _ hx1).mono ?_; rintro e w2 ⟨rfl, hb2⟩; refine held ?_)
    unfold Held
    have hB2 := hb1.trans (hb2.mono hs1)
    go_wp2
    go_ret
    exact ⟨by rw [HN.out]; rfl, hB2⟩
  · rw [h1] at HV HN
    clear hx
    go_enter Try.func17, Try.ntmps17
    go_wp2_with fail
    refine HV.out.mono ?_
    rintro e w1 ⟨rfl, hb1⟩
    go_wp2
    go_ret
    exact ⟨by rw [HN.out]; rfl, hb1⟩
set_option maxRecDepth 100000 in
set_option maxHeartbeats 1000000 in
theorem spCountSwaps_c (xs : List Mv) (v : Value) (w : World) (hx : RdM w v xs) (hz : ∀ m ∈ xs, m.1.size ≤ 9223372036854775807 ∧ m.2.size ≤ 9223372036854775807) (hn' : xs.length ≤ 1048576) :
    Calls Try.prog 20 #[v] w fun e w' => e = .returned (.int .i64 (csI xs)) ∧ Below w.heap.size w w' := by
  have HX := Lib.hid (fun W (hW : Below w.heap.size w W) => hx.below hW)
  have HV := Lib.hid (spIsExchange_c xs v w hx hz hn')
  have hl1 := busyF_len xs 9
  have hl2 := ringsB_le xs
  rcases Bool.eq_false_or_eq_true (exchB xs) with h0 | h0
  · have h1 := exch_mv h0
    have HN : Hid (csI xs = ((busyF xs 9).length : Int) - ((ringsB xs).length : Int)) := by show _ = _; unfold csI cwI; rw [if_pos h0, if_pos h1]
    have HB := Lib.hid (fun W (hW : RdM W v xs) => l1Busy_c xs v W hW)
    have HL := Lib.hid (fun W (hW : RdM W v xs) => l3Rings_c xs (by simpa [mvalid] using h1) v W hW)
    have HRB : Hid (ringsT (nxT (tabOf xs)) 9 = ringsB xs) := by show _ = _; unfold ringsB; rw [if_pos h1]
    rw [HRB.out] at HL
    rw [h0] at HV
    clear hx hz h1 h0 HRB
    generalize ringsB xs = rs at *
    generalize busyF xs 9 = bs at *
    go_enter Try.func20, Try.ntmps20
    go_wp2_with fail
    refine HV.out.mono ?_
    rintro e w1 ⟨rfl, hb1⟩
    have hs1 := hb1.size
    have hx1 := HX.out _ hb1
    go_wp2_with (go_at_call 53; refine (HB.out _ hx1).mono ?_; rintro e w2 ⟨v2, rfl, ho2, hb2⟩; refine held ?_)
    unfold Held
    have hB2 := hb1.trans (hb2.mono hs1)
    have hx2 := HX.out _ hB2
    have hs2 := hB2.size
    obtain ⟨A2, cap2, rfl, _⟩ := Rd.of_own ho2
    clear ho2 hx1 hb2
    go_wp2_with (go_at_call 54; refine (HL.out _ hx2).mono ?_; rintro e w3 ⟨v3, rfl, ho3, hb3⟩; refine held ?_)
    unfold Held
    have hB3 := hB2.trans (hb3.mono hs2)
    obtain ⟨A3, cap3, rfl, _⟩ := Rd.of_own ho3
    clear ho3 hx2 hb3
    generalize rs.length = n at *
    generalize bs.length = m at *
    go_wp2
    go_ret
    exact ⟨by rw [HN.out]; rfl, hB3⟩
  · have HN := Lib.hid (cs_no h0)
    rw [h0] at HV
    clear hx hz
    go_enter Try.func20, Try.ntmps20
    go_wp2_with fail
    refine HV.out.mono ?_
    rintro e w1 ⟨rfl, hb1⟩
    go_wp2
    go_ret
    exact ⟨by rw [HN.out]; rfl, hb1⟩
set_option maxRecDepth 100000 in
set_option maxHeartbeats 1000000 in
theorem imSignOf_c (xs : List Mv) (v : Value) (w : World) (hx : RdM w v xs) (hn' : xs.length ≤ 1048576) :
    Calls Try.prog 18 #[v] w fun e w' => e = .returned (.int .i64 (sgI xs)) ∧ Below w.heap.size w w' := by
  have HN : Hid (sgI xs = if exchB xs then (if (swM xs).length % 2 = 0 then 1 else -1) else 0) := rfl
  have HV := Lib.hid (imCountSwaps_c xs v w hx hn')
  rcases Bool.eq_false_or_eq_true (exchB xs) with h1 | h1
  · have hc := cs_len h1
    rw [hc] at HV
    rw [h1, if_pos rfl] at HN
    have hl := swM_le xs
    clear hc hx
    generalize (swM xs).length = n at *
    have n0 : (0 : Int) ≤ (n : Int) := by omega
    have n1 : ¬ (n : Int) < 0 := by omega
    rcases Nat.mod_two_eq_zero_or_one n with h2 | h2
    · have n2 : (n : Int).tmod 2 = 0 := by rw [Int.tmod_eq_emod_of_nonneg n0]; omega
      have n3 : (n : Int) % 2 = 0 := by omega
      have HH := Lib.hid h2
      clear h2
      go_enter Try.func18, Try.ntmps18
      go_wp2_with fail
      refine HV.out.mono ?_
      rintro e w1 ⟨rfl, hb1⟩
      go_wp2
      go_ret
      exact ⟨by rw [HN.out, if_pos HH.out]; rfl, hb1⟩
    · have n2 : (n : Int).tmod 2 = 1 := by rw [Int.tmod_eq_emod_of_nonneg n0]; omega
      have n3 : (n : Int) % 2 = 1 := by omega
      have HH : Hid (¬ n % 2 = 0) := by show ¬ _; omega
      clear h2
      go_enter Try.func18, Try.ntmps18
      go_wp2_with fail
      refine HV.out.mono ?_
      rintro e w1 ⟨rfl, hb1⟩
      go_wp2
      go_ret
      exact ⟨by rw [HN.out, if_neg HH.out]; rfl, hb1⟩
  · rw [cs_no h1] at HV
    rw [h1] at HN
    clear hx
    go_enter Try.func18, Try.ntmps18
    go_wp2_with fail
    refine HV.out.mono ?_
    rintro e w1 ⟨rfl, hb1⟩
    go_wp2
    go_ret
    exact ⟨by rw [HN.out]; rfl, hb1⟩
set_option maxRecDepth 100000 in
set_option maxHeartbeats 1000000 in
theorem spSignOf_c (xs : List Mv) (v : Value) (w : World) (hx : RdM w v xs) (hz : ∀ m ∈ xs, m.1.size ≤ 9223372036854775807 ∧ m.2.size ≤ 9223372036854775807) (hn' : xs.length ≤ 1048576) :
    Calls Try.prog 21 #[v] w fun e w' => e = .returned (.int .i64 (sgI xs)) ∧ Below w.heap.size w w' := by
  have HN : Hid (sgI xs = if exchB xs then (if (swM xs).length % 2 = 0 then 1 else -1) else 0) := rfl
  have HV := Lib.hid (spCountSwaps_c xs v w hx hz hn')
  rcases Bool.eq_false_or_eq_true (exchB xs) with h1 | h1
  · have hc := cs_len h1
    rw [hc] at HV
    rw [h1, if_pos rfl] at HN
    have hl := swM_le xs
    clear hc hx
    generalize (swM xs).length = n at *
    have n0 : (0 : Int) ≤ (n : Int) := by omega
    have n1 : ¬ (n : Int) < 0 := by omega
    rcases Nat.mod_two_eq_zero_or_one n with h2 | h2
    · have n2 : (n : Int).tmod 2 = 0 := by rw [Int.tmod_eq_emod_of_nonneg n0]; omega
      have n3 : (n : Int) % 2 = 0 := by omega
      have HH := Lib.hid h2
      clear h2
      go_enter Try.func21, Try.ntmps21
      go_wp2_with fail
      refine HV.out.mono ?_
      rintro e w1 ⟨rfl, hb1⟩
      go_wp2
      go_ret
      exact ⟨by rw [HN.out, if_pos HH.out]; rfl, hb1⟩
    · have n2 : (n : Int).tmod 2 = 1 := by rw [Int.tmod_eq_emod_of_nonneg n0]; omega
      have n3 : (n : Int) % 2 = 1 := by omega
      have HH : Hid (¬ n % 2 = 0) := by show ¬ _; omega
      clear h2
      go_enter Try.func21, Try.ntmps21
      go_wp2_with fail
      refine HV.out.mono ?_
      rintro e w1 ⟨rfl, hb1⟩
      go_wp2
      go_ret
      exact ⟨by rw [HN.out, if_neg HH.out]; rfl, hb1⟩
  · rw [cs_no h1] at HV
    rw [h1] at HN
    clear hx
    go_enter Try.func21, Try.ntmps21
    go_wp2_with fail
    refine HV.out.mono ?_
    rintro e w1 ⟨rfl, hb1⟩
    go_wp2
    go_ret
    exact ⟨by rw [HN.out]; rfl, hb1⟩
set_option maxRecDepth 100000 in
theorem spSwapsFor_c (xs : List Mv) (v : Value) (w : World) (hx : RdM w v xs) (hz : ∀ m ∈ xs, m.1.size ≤ 9223372036854775807 ∧ m.2.size ≤ 9223372036854775807) (hn' : xs.length ≤ 1048576) :
    Calls Try.prog 14 #[v] w fun e w' => ∃ v', e = .returned (.tuple #[v', .bool (exchB xs)]) ∧ w'.ownsRow w.heap.size 33 3 v' (swL (swM xs)).length (scells (swL (swM xs))) ∧ Below w.heap.size w w' := by
  have HX := Lib.hid (fun W (hW : Below w.heap.size w W) => hx.below hW)
  have HV := Lib.hid (spIsExchange_c xs v w hx hz hn')
  rcases Bool.eq_false_or_eq_true (exchB xs) with h0 | h0
  · have HL := Lib.hid (fun W (hW : RdM W v xs) => l7Rings_c xs (exchB_iff.1 h0).1 v W hW)
    rw [← swM_rings h0] at HL
    have H0 := Lib.hid h0
    rw [h0] at HV
    clear hx hz h0
    generalize swL (swM xs) = ys at *
    go_enter Try.func14, Try.ntmps14
    go_wp2_with fail
    refine HV.out.mono ?_
    rintro e w1 ⟨rfl, hb1⟩
    have hs1 := hb1.size
    have hx1 := HX.out _ hb1
    go_wp2_with (go_at_call 48; refine (HL.out _ hx1).mono ?_; rintro e w2 ⟨v2, rfl, ho2, hb2⟩; refine held ?_)
    unfold Held
    have hB2 := hb1.trans (hb2.mono hs1)
    have ho3 := own_more ho2 hs1
    clear ho2 hb2
    go_wp2
    go_ret2
    exact ⟨_, by rw [H0.out]; rfl, ho3, hB2⟩
  · have HNO : Hid (swL (swM xs) = []) := by show _ = _; rw [swM_no h0]; rfl
    have H0 := Lib.hid h0
    rw [h0] at HV
    clear hx hz h0
    go_enter Try.func14, Try.ntmps14
    go_wp2_with fail
    refine HV.out.mono ?_
    rintro e w1 ⟨rfl, hb1⟩
    have hs1 := hb1.size
    have hE := World.ownsRow_lit (e := 33) (base := w.heap.size) (size := 3) w1 #[] 0 hs1 (Nat.zero_le _) rfl
    go_wp2
    go_ret2
    exact ⟨_, by rw [H0.out]; rfl, by rw [HNO.out]; exact hE, by (repeat' (first | (with_reducible exact Below.refl _ _) | (with_reducible assumption) | (with_reducible refine Below.alloc ?_ ?_ _) | (with_reducible refine Below.drew ?_) | (with_reducible refine Below.setCell ?_ ?_ _) | (with_reducible exact Nat.le_refl _) | omega | ((repeat (first | rewrite [World.size_alloc] | rewrite [World.size_setCell] | rewrite [World.size_drew])); omega) | (simp; omega) | (simp; done)))⟩
end Go.Proofs.Yteadhnpmmpninaa
namespace Go.PM
open Go.RowKit
theorem beqB (a b : ByteArray) : (a == b) = (a.data == b.data) := by cases a; cases b; rfl
instance lawB : LawfulBEq ByteArray where
  eq_of_beq {a b} h := by
    rw [beqB] at h
    exact ByteArray.ext (eq_of_beq h)
  rfl {a} := by rw [beqB]; exact beq_self_eq_true _
/-- how many of the moves read a place -/
def rdN (xs : List Mv) (a : ByteArray) : Nat := (xs.map (·.2)).count a
/-- a move whose place none reads -/
def freeB (xs : List Mv) (m : Mv) : Bool := decide (rdN xs m.1 = 0)
/-- the first move that can be done ahead of all others -/
def aheadI (xs : List Mv) : Option Nat := xs.findIdx? (freeB xs)
def aheadZ (xs : List Mv) : Int := match aheadI xs with
  | some i => (i : Int)
  | none => -1
def spT : ByteArray := ⟨#[116]⟩
/-- moves that read a place read another one instead -/
def instM (a b : ByteArray) (xs : List Mv) : List Mv := xs.map fun m => if m.2 = a then (m.1, b) else m
/-- moves behind one that is done -/
def redM (d : Mv) (xs : List Mv) : List Mv := if isD d.2 = true then xs else instM d.2 d.1 xs
theorem isP_cases {s : ByteArray} (h : isP s = true) : isD s = false ∧ s ≠ spT := by
  obtain ⟨h1, h2⟩ := pidx_spec h
  rw [← h2]
  generalize pidx s = p at h1
  match p, h1 with
  | 0, _ | 1, _ | 2, _ | 3, _ | 4, _ | 5, _ | 6, _ | 7, _ | 8, _ => decide +kernel
theorem isD_cases {s : ByteArray} (h : isD s = true) : isP s = false ∧ s ≠ spT := by
  refine ⟨?_, fun e => ?_⟩
  · rcases Bool.eq_false_or_eq_true (isP s) with h1 | h1
    · rw [(isP_cases h1).1] at h; cases h
    · exact h1
  · subst e; revert h; decide +kernel
theorem spT_cases : isP spT = false ∧ isD spT = false := by decide +kernel
theorem instM_len (a b : ByteArray) (xs : List Mv) : (instM a b xs).length = xs.length := by simp [instM]
theorem redM_len (d : Mv) (xs : List Mv) : (redM d xs).length = xs.length := by
  unfold redM; split
  · rfl
  · exact instM_len _ _ _
theorem instM_keys (a b : ByteArray) (xs : List Mv) : (instM a b xs).map (·.1) = xs.map (·.1) := by
  unfold instM
  rw [List.map_map]
  refine List.map_congr_left fun m _ => ?_
  show (if m.2 = a then (m.1, b) else m).1 = m.1
  split <;> rfl
theorem redM_keys (d : Mv) (xs : List Mv) : (redM d xs).map (·.1) = xs.map (·.1) := by
  unfold redM; split
  · rfl
  · exact instM_keys _ _ _
theorem instM_mem {a b : ByteArray} {xs : List Mv} {m : Mv} (h : m ∈ instM a b xs) : ∃ x ∈ xs, m.1 = x.1 ∧ ((x.2 = a ∧ m.2 = b) ∨ (x.2 ≠ a ∧ m = x)) := by
  unfold instM at h
  obtain ⟨x, hx, e⟩ := List.mem_map.1 h
  by_cases hxa : x.2 = a
  · rw [if_pos hxa] at e; subst e
    exact ⟨x, hx, rfl, .inl ⟨hxa, rfl⟩⟩
  · rw [if_neg hxa] at e; subst e
    exact ⟨x, hx, rfl, .inr ⟨hxa, rfl⟩⟩
theorem instM_at (a b : ByteArray) (xs : List Mv) (k : Nat) (hk : k < (instM a b xs).length) : (instM a b xs)[k] = if (xs[k]'(by rwa [instM_len] at hk)).2 = a then ((xs[k]'(by rwa [instM_len] at hk)).1, b) else xs[k]'(by rwa [instM_len] at hk) := by
  simp only [instM, List.getElem_map]
theorem instM_none {a b : ByteArray} {xs : List Mv} (h : rdN xs a = 0) : instM a b xs = xs := by
  unfold instM
  have : ∀ m ∈ xs, (if m.2 = a then (m.1, b) else m) = m := fun m hm => by
    rw [if_neg]
    intro e
    unfold rdN at h
    rw [List.count_eq_zero] at h
    exact h (List.mem_map.2 ⟨m, hm, e⟩)
  rw [List.map_congr_left this, List.map_id']
theorem instM_rdN (a b : ByteArray) (hab : b ≠ a) : ∀ xs : List Mv, rdN (instM a b xs) a = 0 ∧ rdN (instM a b xs) b = rdN xs b + rdN xs a ∧ ∀ c, c ≠ a → c ≠ b → rdN (instM a b xs) c = rdN xs c
  | [] => ⟨rfl, rfl, fun _ _ _ => rfl⟩
  | x :: xs => by
    obtain ⟨h1, h2, h3⟩ := instM_rdN a b hab xs
    have e : instM a b (x :: xs) = (if x.2 = a then (x.1, b) else x) :: instM a b xs := rfl
    unfold rdN at *
    rw [e, List.map_cons, List.map_cons]
    by_cases hx : x.2 = a
    · rw [if_pos hx]
      refine ⟨?_, ?_, fun c hc hc2 => ?_⟩
      · rw [List.count_cons_of_ne (by exact hab), h1]
      · rw [List.count_cons_self, h2, hx, List.count_cons_of_ne (by exact fun e => hab e.symm), List.count_cons_self]; omega
      · rw [List.count_cons_of_ne (by exact fun e => hc2 e.symm), h3 c hc hc2, hx, List.count_cons_of_ne (by exact fun e => hc e.symm)]
    · rw [if_neg hx]
      refine ⟨?_, ?_, fun c hc hc2 => ?_⟩
      · rw [List.count_cons_of_ne hx, h1]
      · rw [List.count_cons, h2, List.count_cons_of_ne hx, List.count_cons]; omega
      · rw [List.count_cons, h3 c hc hc2, List.count_cons]
theorem rdN_zero {xs : List Mv} {a : ByteArray} : rdN xs a = 0 ↔ ∀ m ∈ xs, m.2 ≠ a := by
  unfold rdN
  rw [List.count_eq_zero]
  constructor
  · intro h m hm e; exact h (List.mem_map.2 ⟨m, hm, e⟩)
  · intro h hm
    obtain ⟨m, hm, e⟩ := List.mem_map.1 hm
    exact h m hm e
theorem rdN_erase (xs : List Mv) (i : Nat) (hi : i < xs.length) (a : ByteArray) : rdN xs a = rdN (xs.eraseIdx i) a + if xs[i].2 = a then 1 else 0 := by
  induction xs generalizing i with
  | nil => simp at hi
  | cons x xs ih =>
    cases i with
    | zero =>
      unfold rdN
      rw [List.eraseIdx_zero, List.tail_cons, List.map_cons, List.count_cons]
      simp
    | succ i =>
      have := ih i (by simpa using hi)
      unfold rdN at this ⊢
      rw [List.eraseIdx_cons_succ, List.map_cons, List.map_cons, List.count_cons, List.count_cons, this]
      simp only [List.getElem_cons_succ]; omega
theorem erase_mem {α : Type _} {xs : List α} {i : Nat} {m : α} (h : m ∈ xs.eraseIdx i) : m ∈ xs := (List.eraseIdx_sublist xs i).subset h
theorem erase_key {xs : List Mv} (hn : (xs.map (·.1)).Nodup) {i : Nat} (hi : i < xs.length) : ∀ m ∈ xs.eraseIdx i, m.1 ≠ xs[i].1 := by
  induction xs generalizing i with
  | nil => simp at hi
  | cons x xs ih =>
    rw [List.map_cons, List.nodup_cons] at hn
    intro m hm e
    cases i with
    | zero =>
      rw [List.eraseIdx_zero, List.tail_cons] at hm
      exact hn.1 (List.mem_map.2 ⟨m, hm, by simpa using e⟩)
    | succ i =>
      rw [List.eraseIdx_cons_succ, List.mem_cons] at hm
      simp only [List.getElem_cons_succ] at e
      rcases hm with rfl | hm
      · exact hn.1 (List.mem_map.2 ⟨xs[i]'(by simpa using hi), List.getElem_mem _, e.symm⟩)
      · exact ih hn.2 (by simpa using hi) m hm e
theorem erase_or {α : Type _} {xs : List α} {i : Nat} (hi : i < xs.length) {m : α} (h : m ∈ xs) : m = xs[i] ∨ m ∈ xs.eraseIdx i := by
  induction xs generalizing i with
  | nil => simp at hi
  | cons x xs ih =>
    cases i with
    | zero =>
      rw [List.mem_cons] at h
      rcases h with rfl | h
      · exact .inl rfl
      · exact .inr (by simpa using h)
    | succ i =>
      rw [List.mem_cons] at h
      rw [List.eraseIdx_cons_succ, List.mem_cons]
      rcases h with rfl | h
      · exact .inr (.inl rfl)
      · rcases ih (by simpa using hi) h with e | e
        · exact .inl (by simpa using e)
        · exact .inr (.inr e)
/-- moves that wait -/
structure Wt (ws : List Mv) : Prop where
  keys : (ws.map (·.1)).Nodup
  to_ : ∀ m ∈ ws, isP m.1 = true
  from_ : ∀ m ∈ ws, isP m.2 = true ∨ isD m.2 = true ∨ m.2 = spT
  ne : ∀ m ∈ ws, m.1 ≠ m.2
  one : rdN ws spT ≤ 1
theorem aheadI_some {ws : List Mv} {i : Nat} (h : aheadI ws = some i) : ∃ hi : i < ws.length, rdN ws ws[i].1 = 0 := by
  unfold aheadI at h
  obtain ⟨h1, h2, _⟩ := List.findIdx?_eq_some_iff_getElem.1 h
  refine ⟨h1, ?_⟩
  unfold freeB at h2
  simpa using h2
theorem aheadI_none {ws : List Mv} (h : aheadI ws = none) : ∀ m ∈ ws, rdN ws m.1 ≠ 0 := by
  intro m hm e
  unfold aheadI at h
  have := List.findIdx?_eq_none_iff.1 h m hm
  unfold freeB at this
  simp [e] at this
theorem Wt.erase {ws : List Mv} (h : Wt ws) (i : Nat) : Wt (ws.eraseIdx i) := by
  refine ⟨h.keys.sublist ((List.eraseIdx_sublist ws i).map _), fun m hm => h.to_ m (erase_mem hm), fun m hm => h.from_ m (erase_mem hm), fun m hm => h.ne m (erase_mem hm), ?_⟩
  refine Nat.le_trans ?_ h.one
  unfold rdN
  exact ((List.eraseIdx_sublist ws i).map _).count_le _
theorem Wt.inst {ws : List Mv} (h : Wt ws) {a b : ByteArray} (_hab : b ≠ a) (hb : isP b = true ∨ b = spT) (hk : ∀ m ∈ ws, m.1 ≠ b) (h1 : rdN (instM a b ws) spT ≤ 1) : Wt (instM a b ws) := by
  refine ⟨by rw [instM_keys]; exact h.keys, fun m hm => ?_, fun m hm => ?_, fun m hm => ?_, h1⟩
  · obtain ⟨x, hx, e, _⟩ := instM_mem hm
    rw [e]; exact h.to_ x hx
  · obtain ⟨x, hx, e, (⟨e1, e2⟩ | ⟨e1, e2⟩)⟩ := instM_mem hm
    · rw [e2]
      rcases hb with hb | hb
      · exact .inl hb
      · exact .inr (.inr hb)
    · rw [e2]; exact h.from_ x hx
  · obtain ⟨x, hx, e, (⟨e1, e2⟩ | ⟨e1, e2⟩)⟩ := instM_mem hm
    · rw [e, e2]; exact hk x hx
    · rw [e2]; exact h.ne x hx
theorem perm_of_sub {α : Type _} [BEq α] [LawfulBEq α] : ∀ (l m : List α), l.Nodup → (∀ a ∈ l, a ∈ m) → m.length ≤ l.length → l.Perm m
  | [], m, _, _, hl => by
    have : m = [] := List.length_eq_zero_iff.1 (by simpa using hl)
    rw [this]
  | a :: l, m, hn, hs, hl => by
    rw [List.nodup_cons] at hn
    have ha : a ∈ m := hs a (by simp)
    have h1 := perm_of_sub l (m.erase a) hn.2 (fun b hb => (List.mem_erase_of_ne (fun (e : b = a) => hn.1 (by rw [← e]; exact hb))).2 (hs b (by simp [hb]))) (by
      rw [List.length_erase_of_mem ha]; simp only [List.length_cons] at hl; omega)
    exact (List.Perm.cons a h1).trans (List.perm_cons_erase ha).symm
/-- where each place waits for a reader, all moves are of closed rings -/
theorem Wt.full {ws : List Mv} (h : Wt ws) (hn : aheadI ws = none) : (∀ m ∈ ws, rdN ws m.1 = 1) ∧ (∀ m ∈ ws, ∃ x ∈ ws, x.1 = m.2) ∧ rdN ws spT = 0 := by
  have hp : (ws.map (·.1)).Perm (ws.map (·.2)) := by
    refine perm_of_sub _ _ h.keys (fun a ha => ?_) (by simp)
    obtain ⟨m, hm, rfl⟩ := List.mem_map.1 ha
    have := aheadI_none hn m hm
    unfold rdN at this
    exact List.count_pos_iff.1 (Nat.pos_of_ne_zero this)
  have hx : ∀ m ∈ ws, ∃ x ∈ ws, x.1 = m.2 := fun m hm => by
    have := hp.mem_iff.2 (List.mem_map.2 ⟨m, hm, rfl⟩ : m.2 ∈ ws.map (·.2))
    obtain ⟨x, hx, e⟩ := List.mem_map.1 this
    exact ⟨x, hx, e⟩
  refine ⟨fun m hm => ?_, hx, ?_⟩
  · unfold rdN
    rw [← hp.count_eq]
    have h1 := (List.nodup_iff_count.1 h.keys) m.1
    have h2 : 0 < (ws.map (·.1)).count m.1 := List.count_pos_iff.2 (List.mem_map.2 ⟨m, hm, rfl⟩)
    omega
  · rw [rdN_zero]
    intro m hm e
    obtain ⟨x, hx, e2⟩ := hx m hm
    exact (isP_cases (h.to_ x hx)).2 (e2.trans e)
theorem Wt.some_ {ws : List Mv} (h : Wt ws) {i : Nat} (hi : i < ws.length) (_hf : rdN ws ws[i].1 = 0) : Wt (redM ws[i] (ws.eraseIdx i)) := by
  unfold redM
  split
  · exact h.erase i
  · next hd =>
    have hm := List.getElem_mem hi
    have hne := h.ne _ hm
    refine (h.erase i).inst hne (.inl (h.to_ _ hm)) (erase_key h.keys hi) ?_
    have ht : ws[i].1 ≠ spT := (isP_cases (h.to_ _ hm)).2
    obtain ⟨r1, r2, r3⟩ := instM_rdN ws[i].2 ws[i].1 hne (ws.eraseIdx i)
    by_cases e : ws[i].2 = spT
    · rw [e] at r1; rw [e, r1]; omega
    · rw [r3 _ (fun e' => e e'.symm) (fun e' => ht e'.symm)]
      exact (h.erase i).one
theorem Wt.none_ {ws : List Mv} (h : Wt ws) (h0 : 0 < ws.length) (hn : aheadI ws = none) : Wt (redM (spT, ws[0].1) ws) ∧ rdN (redM (spT, ws[0].1) ws) spT = 1 := by
  obtain ⟨f1, f2, f3⟩ := h.full hn
  have hm := List.getElem_mem h0
  have hp := isP_cases (h.to_ _ hm)
  have e : redM (spT, ws[0].1) ws = instM ws[0].1 spT ws := by
    unfold redM
    rw [if_neg]
    show ¬ isD ws[0].1 = true
    rw [hp.1]; decide
  obtain ⟨r1, r2, r3⟩ := instM_rdN ws[0].1 spT (fun e => hp.2 e.symm) ws
  have h1 : rdN (instM ws[0].1 spT ws) spT = 1 := by rw [r2, f3, f1 _ hm]
  rw [e]
  exact ⟨h.inst (fun e => hp.2 e.symm) (.inr rfl) (fun m hm => (isP_cases (h.to_ m hm)).2) (by omega), h1⟩
/-- the steps of an order -/
def ordF : Nat → List Mv → List Mv
  | 0, _ => []
  | _ + 1, [] => []
  | n + 1, x :: xs => match aheadI (x :: xs) with
    | some i => match (x :: xs)[i]? with
      | some m => m :: ordF n (redM m ((x :: xs).eraseIdx i))
      | none => []
    | none => (spT, x.1) :: ordF n (redM (spT, x.1) (x :: xs))
theorem ordF_nil (n : Nat) : ordF n [] = [] := by cases n <;> rfl
theorem ordF_some {n : Nat} {ws : List Mv} {i : Nat} (hi : i < ws.length) (h : aheadI ws = some i) : ordF (n + 1) ws = ws[i] :: ordF n (redM ws[i] (ws.eraseIdx i)) := by
  cases ws with
  | nil => simp at hi
  | cons x xs =>
    rw [ordF, h]
    simp only
    rw [List.getElem?_eq_getElem hi]
theorem ordF_none {n : Nat} {ws : List Mv} (h0 : 0 < ws.length) (h : aheadI ws = none) : ordF (n + 1) ws = (spT, ws[0].1) :: ordF n (redM (spT, ws[0].1) ws) := by
  cases ws with
  | nil => simp at h0
  | cons x xs =>
    rw [ordF, h]
    rfl
/-- what is left of an order takes fewer steps than this -/
def muW (ws : List Mv) : Nat := 2 * ws.length + if rdN ws spT = 0 then 1 else 0
theorem muW_some {ws : List Mv} {i : Nat} (hi : i < ws.length) (d : Mv) : muW (redM d (ws.eraseIdx i)) + 1 ≤ muW ws := by
  unfold muW
  rw [redM_len, List.length_eraseIdx_of_lt hi]
  split <;> split <;> omega
theorem muW_none {ws : List Mv} (h : Wt ws) (h0 : 0 < ws.length) (hn : aheadI ws = none) : muW (redM (spT, ws[0].1) ws) + 1 ≤ muW ws := by
  have h1 := (h.none_ h0 hn).2
  have h2 := (h.full hn).2.2
  unfold muW
  rw [redM_len, h1, h2]
  simp
/-- what is taken ahead, as long as there is such a move -/
def takF : Nat → List Mv → List Mv
  | 0, _ => []
  | n + 1, xs => match aheadI xs with
    | some i => match xs[i]? with
      | some m => m :: takF n (xs.eraseIdx i)
      | none => []
    | none => []
theorem takF_some {n : Nat} {ws : List Mv} {i : Nat} (hi : i < ws.length) (h : aheadI ws = some i) : takF (n + 1) ws = ws[i] :: takF n (ws.eraseIdx i) := by
  rw [takF, h]
  simp only
  rw [List.getElem?_eq_getElem hi]
theorem takF_none {n : Nat} {ws : List Mv} (h : aheadI ws = none) : takF n ws = [] := by
  cases n with
  | zero => rfl
  | succ n => rw [takF, h]
theorem takF_len : ∀ n ws, (takF n ws).length ≤ ws.length
  | 0, _ => Nat.zero_le _
  | n + 1, ws => by
    rw [takF]
    cases h : aheadI ws with
    | none => exact Nat.zero_le _
    | some i =>
      obtain ⟨hi, _⟩ := aheadI_some h
      simp only
      rw [List.getElem?_eq_getElem hi]
      have := takF_len n (ws.eraseIdx i)
      rw [List.length_eraseIdx_of_lt hi] at this
      simp only [List.length_cons]; omega
theorem ordF_len : ∀ n ws, (ordF n ws).length ≤ n
  | 0, _ => Nat.le_refl _
  | n + 1, [] => Nat.zero_le _
  | n + 1, x :: xs => by
    rw [ordF]
    split
    · split
      · have := ordF_len n; simp only [List.length_cons]; exact Nat.succ_le_succ (this _)
      · exact Nat.zero_le _
    · simp only [List.length_cons]; exact Nat.succ_le_succ (ordF_len n _)
theorem busyF_Wt {xs : List Mv} (h : MV xs) : Wt (busyF xs 9) := by
  have hl : busyF xs 9 = lsF (fun p => srcM xs (nm p)) 9 := rfl
  have hMV : MV (busyF xs 9) := by rw [hl]; exact lsF_MV (SVal_M h)
  refine ⟨hMV.2, fun m hm => ?_, fun m hm => ?_, fun m hm => ?_, ?_⟩
  · have := hMV.1 m hm
    unfold mok at this; rw [Bool.and_eq_true] at this; exact this.1
  · have := hMV.1 m hm
    unfold mok at this; rw [Bool.and_eq_true] at this
    have h2 := this.2
    unfold isS at h2; rw [Bool.or_eq_true] at h2
    exact h2.elim .inl (fun h => .inr (.inl h))
  · rw [hl] at hm
    obtain ⟨p, _, hne, e⟩ := lsF_mem hm
    rw [e]; exact fun e => hne e.symm
  · have : rdN (busyF xs 9) spT = 0 := by
      rw [rdN_zero]
      intro m hm e
      have := hMV.1 m hm
      unfold mok at this; rw [Bool.and_eq_true] at this
      have h2 := this.2
      rw [e] at h2
      revert h2; decide +kernel
    omega
/-- steps that do moves; moves in an order in which they can be done -/
def ordM (xs : List Mv) : List Mv := if mvalid xs then ordF 19 (busyF xs 9) else []
def takM (xs : List Mv) : List Mv := takF 9 (busyF xs 9)
def wspB (xs : List Mv) : Bool := mvalid xs && decide ((takM xs).length = (busyF xs 9).length)
def wspM (xs : List Mv) : List Mv := if wspB xs then takM xs else []
end Go.PM
namespace Go.PS
open Go.PM Go.RowKit Go.PW
/-- what is left when all has been taken ahead that can be -/
def remF : Nat → List Mv → List Mv
  | 0, ws => ws
  | n + 1, ws => match aheadI ws with
    | some i => remF n (ws.eraseIdx i)
    | none => ws
theorem remF_some {n : Nat} {ws : List Mv} {i : Nat} (h : aheadI ws = some i) : remF (n + 1) ws = remF n (ws.eraseIdx i) := by rw [remF, h]
theorem remF_none {n : Nat} {ws : List Mv} (h : aheadI ws = none) : remF n ws = ws := by
  cases n with
  | zero => rfl
  | succ n => rw [remF, h]
theorem remF_sub : ∀ (n : Nat) (ws : List Mv), (remF n ws).Sublist ws
  | 0, ws => List.Sublist.refl ws
  | n + 1, ws => by
    cases h : aheadI ws with
    | none => rw [remF_none h]; exact List.Sublist.refl ws
    | some i => rw [remF_some h]; exact (remF_sub n _).trans (List.eraseIdx_sublist ws i)
theorem remF_ahead : ∀ (n : Nat) (ws : List Mv), ws.length ≤ n → aheadI (remF n ws) = none
  | 0, ws, hl => by
    have : ws = [] := List.length_eq_zero_iff.1 (by omega)
    rw [this]; rfl
  | n + 1, ws, hl => by
    cases h : aheadI ws with
    | none => rw [remF_none h]; exact h
    | some i =>
      obtain ⟨hi, _⟩ := aheadI_some h
      rw [remF_some h]
      exact remF_ahead n _ (by rw [List.length_eraseIdx_of_lt hi]; omega)
theorem tak_sub : ∀ (n : Nat) (ws : List Mv), ∀ m ∈ takF n ws, m ∈ ws
  | 0, _, m, h => by cases h
  | n + 1, ws, m, h => by
    cases ha : aheadI ws with
    | none => rw [takF_none ha] at h; cases h
    | some i =>
      obtain ⟨hi, _⟩ := aheadI_some ha
      rw [takF_some hi ha] at h
      rcases List.mem_cons.1 h with rfl | h
      · exact List.getElem_mem hi
      · exact erase_mem (tak_sub n _ m h)
theorem tak_rem : ∀ (n : Nat) (ws : List Mv), (ws.map (·.1)).Nodup → (∀ m ∈ ws, m ∈ takF n ws ∨ m ∈ remF n ws) ∧ (∀ a ∈ takF n ws, ∀ b ∈ remF n ws, a.1 ≠ b.1) ∧ (takF n ws).length + (remF n ws).length = ws.length
  | 0, ws, _ => ⟨fun m h => .inr h, fun a h => (by cases h), by simp [takF, remF]⟩
  | n + 1, ws, hk => by
    cases ha : aheadI ws with
    | none =>
      rw [takF_none ha, remF_none ha]
      exact ⟨fun m h => .inr h, fun a h => (by cases h), by simp⟩
    | some i =>
      obtain ⟨hi, _⟩ := aheadI_some ha
      rw [takF_some hi ha, remF_some ha]
      obtain ⟨h1, h2, h3⟩ := tak_rem n (ws.eraseIdx i) (hk.sublist ((List.eraseIdx_sublist ws i).map _))
      refine ⟨fun m hm => ?_, fun a h b hb => ?_, ?_⟩
      · rcases erase_or hi hm with rfl | hm
        · exact .inl (by simp)
        · exact (h1 m hm).imp (fun h => by simp [h]) id
      · rcases List.mem_cons.1 h with rfl | h
        · exact fun e => erase_key hk hi b ((remF_sub n _).subset hb) e.symm
        · exact h2 a h b hb
      · rw [List.length_eraseIdx_of_lt hi] at h3
        simp only [List.length_cons]; omega
/-- a table without the moves that are done -/
def delF (f : Nat → ByteArray) (T : List Mv) : Nat → ByteArray := fun p => if nm p ∈ T.map (·.1) then emp else f p
theorem delF_nil (f : Nat → ByteArray) : delF f [] = f := by funext p; simp [delF]
theorem delF_snoc (f : Nat → ByteArray) (T : List Mv) (m : Mv) (hm : isP m.1 = true) (p : Nat) (hp : p < 9) : (if p = pidx m.1 then emp else delF f T p) = delF f (T ++ [m]) p := by
  unfold delF
  have hs := pidx_spec hm
  rw [List.map_append, List.map_cons, List.map_nil]
  by_cases e : p = pidx m.1
  · rw [if_pos e, if_pos (by rw [e, hs.2]; simp)]
  · rw [if_neg e]
    have : (nm p ∈ T.map (·.1) ++ [m.1]) ↔ nm p ∈ T.map (·.1) := by
      rw [List.mem_append, List.mem_singleton]
      constructor
      · rintro (h | h)
        · exact h
        · exact absurd (by rw [← h, pidx_nm hp]) e
      · exact .inl
    by_cases h : nm p ∈ T.map (·.1)
    · rw [if_pos h, if_pos (this.2 h)]
    · rw [if_neg h, if_neg (fun h2 => h (this.1 h2))]
theorem busy_at {xs : List Mv} {p : Nat} (hp : p < 9) : nm p ∈ (busyF xs 9).map (·.1) ↔ srcM xs (nm p) ≠ nm p := by
  unfold busyF
  rw [List.map_map, List.mem_map]
  constructor
  · rintro ⟨q, hq, e⟩
    obtain ⟨h1, h2⟩ := List.mem_filter.1 hq
    have : q = p := nm_inj (by simpa using h1) hp e
    subst this
    simpa [busyH] using h2
  · intro h
    exact ⟨p, List.mem_filter.2 ⟨by simpa using hp, by simpa [busyH] using h⟩, rfl⟩
theorem busy_is {xs : List Mv} {m : Mv} (h : m ∈ busyF xs 9) : ∃ p, p < 9 ∧ m = (nm p, srcM xs (nm p)) ∧ srcM xs (nm p) ≠ nm p := by
  unfold busyF at h
  obtain ⟨q, hq, rfl⟩ := List.mem_map.1 h
  obtain ⟨h1, h2⟩ := List.mem_filter.1 hq
  exact ⟨q, by simpa using h1, rfl, by simpa [busyH] using h2⟩
/-- the moves that are left of all -/
def remM (xs : List Mv) : List Mv := remF 9 (busyF xs 9)
theorem remM_MV {xs : List Mv} (h : MV xs) : MV (remM xs) := by
  have hl : busyF xs 9 = lsF (fun p => srcM xs (nm p)) 9 := rfl
  have hB : MV (busyF xs 9) := by rw [hl]; exact lsF_MV (SVal_M h)
  have hs := remF_sub 9 (busyF xs 9)
  exact ⟨fun m hm => hB.1 m (hs.subset hm), hB.2.sublist (hs.map _)⟩
theorem rem_src {xs : List Mv} (h : MV xs) {p : Nat} (hp : p < 9) : srcT (delF (tabOf xs) (takM xs)) p = srcT (tabOf (remM xs)) p := by
  have hW := busyF_Wt h
  obtain ⟨t1, t2, _⟩ := tak_rem 9 (busyF xs 9) hW.keys
  rw [srcM_nm (remM_MV h) hp]
  have hd : srcT (delF (tabOf xs) (takM xs)) p = if nm p ∈ (takM xs).map (·.1) then nm p else srcM xs (nm p) := by
    by_cases e : nm p ∈ (takM xs).map (·.1)
    · rw [if_pos e]; unfold srcT delF; rw [if_pos e, if_pos rfl]
    · rw [if_neg e, ← srcM_nm h hp]; unfold srcT delF; rw [if_neg e]
  rw [hd]
  by_cases hr : nm p ∈ (remM xs).map (·.1)
  · obtain ⟨m, hm, e⟩ := List.mem_map.1 hr
    have hmb := (remF_sub 9 (busyF xs 9)).subset hm
    obtain ⟨q, hq, rfl, _⟩ := busy_is hmb
    have : q = p := nm_inj hq hp e
    subst this
    have h1 := srcM_of_mem (remM_MV h) hm
    rw [if_neg (fun h2 => by
      obtain ⟨a, ha, e2⟩ := List.mem_map.1 h2
      exact t2 a ha _ hm e2)]
    exact h1.symm
  · have h1 : srcM (remM xs) (nm p) = nm p := by
      refine Classical.not_not.1 fun hne => hr ?_
      exact List.mem_map.2 ⟨_, mem_of_srcM hne, rfl⟩
    rw [h1]
    split
    · rfl
    · next hn =>
      refine Classical.not_not.1 fun hne => ?_
      have h2 := (busy_at hp).2 hne
      obtain ⟨m, hm, e⟩ := List.mem_map.1 h2
      rcases t1 m hm with h3 | h3
      · exact hn (List.mem_map.2 ⟨m, h3, e⟩)
      · exact hr (List.mem_map.2 ⟨m, h3, e⟩)
theorem remM_Wt {xs : List Mv} (h : MV xs) : Wt (remM xs) := by
  have hW := busyF_Wt h
  have hs := remF_sub 9 (busyF xs 9)
  refine ⟨hW.keys.sublist (hs.map _), fun m hm => hW.to_ m (hs.subset hm), fun m hm => hW.from_ m (hs.subset hm), fun m hm => hW.ne m (hs.subset hm), ?_⟩
  refine Nat.le_trans ?_ hW.one
  unfold rdN
  exact (hs.map _).count_le _
theorem remM_exch {xs : List Mv} (h : MV xs) : Exch (srcT (tabOf (remM xs))) := by
  have hM := remM_MV h
  have ha := aheadI_none (remF_ahead 9 (busyF xs 9) (busyF_len xs 9))
  intro q hq
  by_cases hr : nm q ∈ (remM xs).map (·.1)
  · obtain ⟨m, hm, e⟩ := List.mem_map.1 hr
    have h1 := ha m hm
    have h2 : ∃ x ∈ remM xs, x.2 = nm q := Classical.byContradiction fun hno => h1 (rdN_zero.2 fun x hx ex => hno ⟨x, hx, by rw [ex]; exact e⟩)
    obtain ⟨x, hx, ex⟩ := h2
    have hP := (remM_Wt h).to_ x hx
    have hs := pidx_spec hP
    refine ⟨pidx x.1, hs.1, ?_⟩
    rw [srcM_nm hM hs.1, hs.2, srcM_of_mem hM hx]; exact ex
  · refine ⟨q, hq, ?_⟩
    rw [srcM_nm hM hq]
    refine Classical.not_not.1 fun hne => hr ?_
    exact List.mem_map.2 ⟨_, mem_of_srcM hne, rfl⟩
theorem del_exch {xs : List Mv} (h : MV xs) : Exch (srcT (delF (tabOf xs) (takM xs))) := (remM_exch h).congr fun _p hp => (rem_src h hp).symm
theorem nxT_congr {f g : Nat → ByteArray} (h : ∀ p, p < 9 → srcT f p = srcT g p) : nxT f = nxT g := by
  funext i
  unfold nxT
  by_cases hi : i < 9
  · rw [if_pos hi, if_pos hi]
    have : sx f i = sx g i := by unfold sx; rw [h i hi]
    rw [this]
  · rw [if_neg hi, if_neg hi]
theorem del_SV {xs : List Mv} (h : MV xs) : SV (delF (tabOf xs) (takM xs)) := fun p hp => by rw [rem_src h hp]; exact SV_tab (remM_MV h) p hp
/-- the swaps of what is left -/
def rwM (xs : List Mv) : List (Nat × Nat) := (ringsF (nxT (tabOf (remM xs))) 9).flatMap prs
theorem rw_del {xs : List Mv} (h : MV xs) : (rsA 9 (invI (srcT (delF (tabOf xs) (takM xs))))).1 = rwM xs := by
  rw [(rsA_rings (del_SV h) (del_exch h) 9 (Nat.le_refl _)).1, nxT_congr fun p hp => rem_src h hp]; rfl
/-- steps that do moves with swaps -/
def owS (xs : List Mv) : List St := if mvalid xs then stL (takM xs) ++ swL (rwM xs) else []
theorem owS_yes {xs : List Mv} (h : mvalid xs = true) : owS xs = stL (takM xs) ++ swL (rwM xs) := if_pos h
theorem owS_no {xs : List Mv} (h : mvalid xs = false) : owS xs = [] := if_neg (by rw [h]; decide)
theorem rwM_le {xs : List Mv} (h : MV xs) : (rwM xs).length ≤ 9 := by
  rw [← rw_del h]; exact rsA_le (inv_prm (del_exch h)) 9 (Nat.le_refl _)
theorem takM_le (xs : List Mv) : (takM xs).length ≤ 9 := by
  have h1 := takF_len 9 (busyF xs 9)
  have h2 := busyF_len xs 9
  unfold takM; omega
theorem owS_le (xs : List Mv) : (owS xs).length ≤ 18 := by
  rcases Bool.eq_false_or_eq_true (mvalid xs) with h | h
  · rw [owS_yes h, List.length_append, swL_len]
    have h1 := takM_le xs
    have h2 := rwM_le (xs := xs) (by simpa [mvalid] using h)
    unfold stL; rw [List.length_map]; omega
  · rw [owS_no h]; simp
end Go.PS
namespace Go.PM
open Go.RowKit
/-- an array of nine numbers -/
def cntC (f : Nat → Nat) : Array Value := #[.int .i64 (f 0 : Nat), .int .i64 (f 1 : Nat), .int .i64 (f 2 : Nat), .int .i64 (f 3 : Nat), .int .i64 (f 4 : Nat), .int .i64 (f 5 : Nat), .int .i64 (f 6 : Nat), .int .i64 (f 7 : Nat), .int .i64 (f 8 : Nat)]
theorem cntC_at (f : Nat → Nat) (p : Nat) (hp : p < 9) : (cntC f)[p]? = some (.int .i64 (f p : Nat)) := by
  match p, hp with
  | 0, _ | 1, _ | 2, _ | 3, _ | 4, _ | 5, _ | 6, _ | 7, _ | 8, _ => rfl
theorem cntC_set (f : Nat → Nat) (p : Nat) (hp : p < 9) (n : Nat) : (cntC f).setIfInBounds p (.int .i64 (n : Nat)) = cntC (fun q => if q = p then n else f q) := by
  match p, hp with
  | 0, _ | 1, _ | 2, _ | 3, _ | 4, _ | 5, _ | 6, _ | 7, _ | 8, _ => simp [cntC]
theorem cntC_congr {f g : Nat → Nat} (h : ∀ p, p < 9 → f p = g p) : cntC f = cntC g := by
  unfold cntC
  rw [h 0 (by omega), h 1 (by omega), h 2 (by omega), h 3 (by omega), h 4 (by omega), h 5 (by omega), h 6 (by omega), h 7 (by omega), h 8 (by omega)]
theorem cntC_one (f : Nat → Nat) : (cntC f).all (·.oneCell') = true := by simp [cntC, Value.oneCell']
/-- how many of the moves read each place -/
def cntF (xs : List Mv) (p : Nat) : Nat := rdN xs (nm p)
theorem rdN_snoc (xs : List Mv) (x : Mv) (a : ByteArray) : rdN (xs ++ [x]) a = rdN xs a + if x.2 = a then 1 else 0 := by
  unfold rdN
  rw [List.map_append, List.count_append, List.map_cons, List.map_nil, List.count_cons]
  simp
theorem rdN_le (xs : List Mv) (a : ByteArray) : rdN xs a ≤ xs.length := by
  unfold rdN
  have := List.count_le_length (a := a) (l := xs.map (·.2))
  simpa using this
theorem cntF_yes (xs : List Mv) (x : Mv) (h : isP x.2 = true) : cntC (fun q => if q = pidx x.2 then cntF xs (pidx x.2) + 1 else cntF xs q) = cntC (cntF (xs ++ [x])) := by
  refine cntC_congr fun p hp => ?_
  have hx := pidx_spec h
  unfold cntF
  rw [rdN_snoc]
  by_cases e : p = pidx x.2
  · subst e
    rw [if_pos rfl, if_pos hx.2.symm]
  · rw [if_neg e, if_neg (fun e2 => e (by rw [e2, pidx_nm hp]))]; rfl
theorem cntF_no (xs : List Mv) (x : Mv) (h : isP x.2 = false) : cntC (cntF xs) = cntC (cntF (xs ++ [x])) := by
  refine cntC_congr fun p hp => ?_
  unfold cntF
  rw [rdN_snoc, if_neg (fun e => by rw [e, isP_nm hp] at h; cases h)]; rfl
end Go.PM
namespace Go.Proofs.Yteadhnpmmpninaa
open Go.RowKit Go.PM

set_option maxRecDepth 100000 in
set_option maxHeartbeats 1600000 in
theorem countReaders_c (xs : List Mv) (v : Value) (w : World) (hx : RdM w v xs) (hn' : xs.length ≤ 1048576) :
    Calls Try.prog 133 #[v] w fun e w' => e = .returned (.agg (cntC (cntF xs))) ∧ Below w.heap.size w w' := by
  obtain ⟨A, cap, rfl, hn, hc, hcell⟩ := hx.open
  have hz : (#[.int .i64 0, .int .i64 0, .int .i64 0, .int .i64 0, .int .i64 0, .int .i64 0, .int .i64 0, .int .i64 0, .int .i64 0] : Array Value) = cntC (cntF []) := rfl
  go_enter Try.func133, Try.ntmps133
  go_wp2
  clear hz
  obtain ⟨W0, hW0⟩ : ∃ W0 : World, W0 = (w.alloc (Obj.cells (cntC (cntF [])) 144)).alloc (Obj.cells (cntC (cntF [])) 144) := ⟨_, rfl⟩
  have hB0 : Below w.heap.size w W0 := by rw [hW0]; (repeat' (first | (with_reducible exact Below.refl _ _) | (with_reducible assumption) | (with_reducible refine Below.alloc ?_ ?_ _) | (with_reducible refine Below.drew ?_) | (with_reducible refine Below.setCell ?_ ?_ _) | (with_reducible exact Nat.le_refl _) | omega | ((repeat (first | rewrite [World.size_alloc] | rewrite [World.size_setCell] | rewrite [World.size_drew])); omega) | (simp; omega) | (simp; done)))
  have hA0 : At W0 w.heap.size 144 (cntC (cntF [])) := by rw [hW0]; exact (At.new _ _ _).alloc _
  have hA1 : At W0 (w.heap.size + 1) 144 (cntC (cntF [])) := by
    rw [hW0]; have := At.new (w.alloc (Obj.cells (cntC (cntF [])) 144)) 144 (cntC (cntF []))
    rwa [World.size_alloc] at this
  rw [← hW0]
  clear hW0
  go_loopw [5, 6, 7, 10] (fun _ _ _ i wr => ∃ (k : Nat), k ≤ xs.length ∧ i = .int .i64 k ∧ Below w.heap.size w wr ∧ At wr w.heap.size 144 (cntC (cntF [])) ∧ At wr (w.heap.size + 1) 144 (cntC (cntF (xs.take k)))) (fun _ _ _ i _ => xs.length - (RowKit.intOf i).toNat)
  case atStart => exact ⟨0, by omega, rfl, hB0, hA0, by simpa using hA1⟩
  case round =>
    obtain ⟨k, hk, rfl, hb, hA2, hA4⟩ := hrel
    have hbs := hb.size
    have hlt4 := hA4.lt
    by_cases hlt : k < xs.length
    · obtain ⟨b, off, rfl, hbl, hc1, hc2⟩ := hcell k hlt
      have hd1 := (hb.cell (p := ⟨b, off + k * 2, none⟩) hbl).trans hc1
      have hd2 := (hb.cell (p := ⟨b, off + k * 2 + 1, none⟩) hbl).trans hc2
      clear hc1 hc2 hcell
      have hsn := take_snoc xs k hlt
      have hY := cntF_yes (xs.take k) xs[k]
      have hN := cntF_no (xs.take k) xs[k]
      have hle : ∀ p, cntF (xs.take k) p ≤ 1048576 := fun p => by
        have := rdN_le (xs.take k) (nm p)
        rw [List.length_take] at this
        unfold cntF; omega
      rw [← hsn] at hY hN
      clear hsn
      generalize xs[k].1 = a at *
      generalize xs[k].2 = b2 at *
      have HY := Lib.hid hY
      have HN := Lib.hid hN
      generalize hG : cntF (xs.take k) = G at *
      clear hY hN hG
      rcases Bool.eq_false_or_eq_true (isP b2) with hp | hp
      · have hp9 := (pidx_spec hp).1
        have HS := Lib.hid ((cntC_set G (pidx b2) hp9 (G (pidx b2) + 1)).trans (HY.out hp))
        have hkc : At (wr.alloc (.cells #[.string a, .string b2] 31)) (w.heap.size + 1) 144 (cntC G) := hA4.alloc _
        have c4 := (hkc.cell (pidx b2)).trans (cntC_at G _ hp9)
        have z4 := hkc.frozen (pidx b2)
        have hgl := hle (pidx b2)
        have i0 : (0 : Int) ≤ (pidx b2 : Int) := by omega
        have i1 : (pidx b2 : Int) < 9 := by omega
        have HI := Lib.hid (fun W => indexOf_yes b2 hp W)
        generalize pidx b2 = q at *
        generalize G q = gq at *
        go_wp2_with (go_at_call 73; refine (HI.out _).mono ?_; rintro e w' ⟨rfl, rfl⟩)
        go_roundw
        case rel =>
          refine ⟨k + 1, by omega, by go_num, by (repeat' (first | (with_reducible exact Below.refl _ _) | (with_reducible assumption) | (with_reducible refine Below.alloc ?_ ?_ _) | (with_reducible refine Below.drew ?_) | (with_reducible refine Below.setCell ?_ ?_ _) | (with_reducible exact Nat.le_refl _) | omega | ((repeat (first | rewrite [World.size_alloc] | rewrite [World.size_setCell] | rewrite [World.size_drew])); omega) | (simp; omega) | (simp; done))), (At.far hA2 (by simp) _).alloc _, ?_⟩
          rw [← HS.out]
          exact (hA4.set q _).alloc _
        case measure => simp [RowKit.intOf]; omega
      · go_wp2_with (go_at_call 73; refine (indexOf_no b2 hp _).mono ?_; rintro e w' ⟨rfl, rfl⟩)
        go_roundw
        case rel =>
          refine ⟨k + 1, by omega, by go_num, by (repeat' (first | (with_reducible exact Below.refl _ _) | (with_reducible assumption) | (with_reducible refine Below.alloc ?_ ?_ _) | (with_reducible refine Below.drew ?_) | (with_reducible refine Below.setCell ?_ ?_ _) | (with_reducible exact Nat.le_refl _) | omega | ((repeat (first | rewrite [World.size_alloc] | rewrite [World.size_setCell] | rewrite [World.size_drew])); omega) | (simp; omega) | (simp; done))), hA2.alloc _, ?_⟩
          rw [← HN.out hp]
          exact hA4.alloc _
        case measure => simp [RowKit.intOf]; omega
    · have hk' : k = xs.length := by omega
      rw [hk', List.take_of_length_le (Nat.le_refl _)] at hA4
      clear hk' hcell
      have hGG := Lib.hid (fun (e : Ending) (h : e = Ending.returned (.agg (cntC (cntF xs)))) => h)
      obtain ⟨G, hG⟩ : ∃ G, G = cntF xs := ⟨_, rfl⟩
      rw [← hG] at hA4
      have HG := Lib.hid hG
      clear hG hGG
      have hl2 := hA2.lt
      go_wp2_with (first | (refine ld_row rfl 144 (.tmp 3) rfl (w.heap.size + 1) 144 (cntC G) hA4 (by rfl) 9 3 Try.underlying144 (by kernel_rfl) ?_) | (refine st_row rfl 144 (.tmp 2) (.tmp 27) rfl rfl w.heap.size 144 (cntC (cntF [])) (cntC G) hA2 (by rfl) (by rfl) (by kernel_rfl) rfl (cntC_one _) ?_; intro W6 hA6 hg6))
      have bel : Below w.heap.size w W6 := hb.trans (below_grown hg6 hbs (fun g hg => by cases hg; omega))
      exact bodyPost_ret (v := .agg (cntC G)) (results_row1 Try.results133 _ _ w.heap.size 144 (cntC G) (by rfl) hA6 9 3 Try.underlying144 (by kernel_rfl)) rfl ⟨by rw [HG.out], bel⟩

/-- whether a move can be done ahead of those that are counted -/
def aheadP (xs : List Mv) (m : Mv) : Bool := decide (rdN xs m.1 = 0)
set_option maxRecDepth 100000 in
set_option maxHeartbeats 1600000 in
theorem ahead_c (xs : List Mv) (m : Mv) (hp : isP m.1 = true) (w : World) (hle : xs.length ≤ 1048576) :
    Calls Try.prog 134 #[.agg (cntC (cntF xs)), .agg #[.string m.1, .string m.2]] w fun e w' => e = .returned (.bool (freeB xs m)) ∧ Below w.heap.size w w' := by
  have hp9 := (pidx_spec hp).1
  have hf : Hid (freeB xs m = ((cntF xs (pidx m.1) : Int) == 0)) := by
    show _ = _
    unfold freeB cntF
    rw [(pidx_spec hp).2]
    rw [Bool.eq_iff_iff]; simp
  have hcn := cntC_at (cntF xs) (pidx m.1) hp9
  have hg0 : cntF xs (pidx m.1) ≤ 1048576 := by have := rdN_le xs (nm (pidx m.1)); unfold cntF; omega
  have hnew := At.new w 144 (cntC (cntF xs))
  have hnew2 := hnew.alloc (.cells #[.string m.1, .string m.2] 31)
  have c4 := (hnew2.cell (pidx m.1)).trans hcn
  have hl := hnew2.lt
  have i0 : (0 : Int) ≤ (pidx m.1 : Int) := by omega
  have i1 : (pidx m.1 : Int) < 9 := by omega
  have HY := Lib.hid (fun W => indexOf_yes m.1 hp W)
  generalize cntF xs (pidx m.1) = n0 at *
  generalize cntC (cntF xs) = G at *
  generalize pidx m.1 = q at *
  clear hcn
  go_enter Try.func134, Try.ntmps134
  go_wp2_with (go_at_call 73; refine (HY.out _).mono ?_; rintro e w' ⟨rfl, rfl⟩)
  go_ret
  exact ⟨by rw [hf.out]; rfl, by (repeat' (first | (with_reducible exact Below.refl _ _) | (with_reducible assumption) | (with_reducible refine Below.alloc ?_ ?_ _) | (with_reducible refine Below.drew ?_) | (with_reducible refine Below.setCell ?_ ?_ _) | (with_reducible exact Nat.le_refl _) | omega | ((repeat (first | rewrite [World.size_alloc] | rewrite [World.size_setCell] | rewrite [World.size_drew])); omega) | (simp; omega) | (simp; done)))⟩
end Go.Proofs.Yteadhnpmmpninaa
namespace Go.PM
open Go.RowKit
theorem aheadZ_at {xs : List Mv} {k : Nat} (hk : k < xs.length) (h : ∀ j (hj : j < k), freeB xs (xs[j]'(by omega)) = false) (hf : freeB xs xs[k] = true) : aheadZ xs = (k : Int) := by
  have : aheadI xs = some k := by
    unfold aheadI
    rw [List.findIdx?_eq_some_iff_getElem]
    exact ⟨hk, hf, fun j hj => by rw [h j hj]; decide⟩
  unfold aheadZ; rw [this]
theorem aheadZ_none {xs : List Mv} (h : ∀ j (hj : j < xs.length), freeB xs xs[j] = false) : aheadZ xs = -1 := by
  have : aheadI xs = none := by
    unfold aheadI
    rw [List.findIdx?_eq_none_iff]
    intro m hm
    obtain ⟨j, hj, rfl⟩ := List.getElem_of_mem hm
    exact h j hj
  unfold aheadZ; rw [this]
theorem aheadZ_lt (xs : List Mv) : aheadZ xs = -1 ∨ ∃ i : Nat, i < xs.length ∧ aheadZ xs = i ∧ aheadI xs = some i := by
  cases h : aheadI xs with
  | none => left; unfold aheadZ; rw [h]
  | some i =>
    right
    obtain ⟨hi, _⟩ := aheadI_some h
    exact ⟨i, hi, by unfold aheadZ; rw [h], rfl⟩
theorem aheadI_of_neg {xs : List Mv} (h : aheadZ xs = -1) : aheadI xs = none := by
  cases h2 : aheadI xs with
  | none => rfl
  | some i =>
    unfold aheadZ at h
    rw [h2] at h
    simp only at h
    omega
end Go.PM
namespace Go.Proofs.Yteadhnpmmpninaa
open Go.RowKit Go.PM

set_option maxRecDepth 100000 in
set_option maxHeartbeats 1600000 in
theorem indexFunc_c (xs : List Mv) (v : Value) (w : World) (hx : RdM w v xs) (hn' : xs.length ≤ 1048576) (hP : ∀ m ∈ xs, isP m.1 = true) :
    Calls Try.prog 132 #[v, .func (.func 134) #[.agg (cntC (cntF xs))] #[]] w fun e w' => e = .returned (.int .i64 (aheadZ xs)) ∧ Below w.heap.size w w' := by
  obtain ⟨A, cap, rfl, hn, hc, hcell⟩ := hx.open
  have HA := Lib.hid (fun m W hp => ahead_c xs m hp W hn')
  have HP := Lib.hid hP
  have HZ := Lib.hid (aheadZ_none (xs := xs))
  have HK := Lib.hid (fun k hk h => aheadZ_at (xs := xs) (k := k) hk h)
  clear hP
  generalize cntC (cntF xs) = G at *
  go_enter Try.func132, Try.ntmps132
  go_wp2
  go_loopw [5, 8] (fun _ i wr => ∃ (k : Nat), k ≤ xs.length ∧ i = .int .i64 k ∧ Below w.heap.size w wr ∧ Hid (∀ j (hj : j < k) (hj2 : j < xs.length), freeB xs xs[j] = false)) (fun _ i _ => xs.length - (RowKit.intOf i).toNat)
  case atStart => exact ⟨0, by omega, rfl, Below.refl _ _, fun j hj => by omega⟩
  case round =>
    obtain ⟨k, hk, rfl, hb, hm⟩ := hrel
    have hbs := hb.size
    by_cases hlt : k < xs.length
    · obtain ⟨b, off, rfl, hbl, hc1, hc2⟩ := hcell k hlt
      have hd1 := (hb.cell (p := ⟨b, off + k * 2, none⟩) hbl).trans hc1
      have hd2 := (hb.cell (p := ⟨b, off + k * 2 + 1, none⟩) hbl).trans hc2
      clear hc1 hc2 hcell
      have ha := HA.out xs[k] wr (HP.out _ (List.getElem_mem hlt))
      have HKK := Lib.hid (fun h => HK.out k hlt h)
      have HNX : Hid (freeB xs xs[k] = false → ∀ j (hj : j < k + 1) (hj2 : j < xs.length), freeB xs xs[j] = false) := fun h j hj hj2 => by
        by_cases e : j = k
        · subst e; exact h
        · exact hm.out j (by omega) hj2
      generalize freeB xs xs[k] = fb at *
      generalize xs[k].1 = x1 at *
      generalize xs[k].2 = x2 at *
      have HAA := Lib.hid ha
      clear ha
      cases fb with
      | true =>
        go_wp2_with (go_at_call 134; refine HAA.out.mono ?_; rintro e w3 ⟨rfl, hb3⟩)
        go_ret
        exact ⟨by rw [HKK.out (fun j hj => hm.out j hj (by omega)) (by first | trivial | rfl)]; rfl, hb.trans (hb3.mono hbs)⟩
      | false =>
        go_wp2_with (go_at_call 134; refine HAA.out.mono ?_; rintro e w3 ⟨rfl, hb3⟩)
        go_roundw
        case rel => exact ⟨k + 1, by omega, by go_num, hb.trans (hb3.mono hbs), HNX.out (by first | trivial | rfl)⟩
        case measure => simp [RowKit.intOf]; omega
    · have hz := HZ.out fun j hj => hm.out j (by omega) hj
      have HZZ := Lib.hid hz
      clear hz
      go_wp2
      go_ret
      exact ⟨by rw [HZZ.out]; rfl, hb⟩
set_option maxRecDepth 100000 in
set_option maxHeartbeats 1600000 in
theorem firstAhead_c (xs : List Mv) (v : Value) (w : World) (hx : RdM w v xs) (hn' : xs.length ≤ 1048576) (hP : ∀ m ∈ xs, isP m.1 = true) :
    Calls Try.prog 112 #[v] w fun e w' => e = .returned (.int .i64 (aheadZ xs)) ∧ Below w.heap.size w w' := by
  go_enter Try.func112, Try.ntmps112
  go_wp2_with fail
  refine (countReaders_c xs v _ hx hn').mono ?_
  rintro e w1 ⟨rfl, hb1⟩
  have hs1 := hb1.size
  have hx1 := hx.below hb1
  go_wp2_with fail
  refine (indexFunc_c xs v _ hx1 hn' hP).mono ?_
  rintro e w2 ⟨rfl, hb2⟩
  have hb := hb1.trans (hb2.mono hs1)
  clear hb2
  go_wp2
  go_ret
  exact ⟨rfl, hb⟩
end Go.Proofs.Yteadhnpmmpninaa
namespace Go.PM
open Go.RowKit
section
variable {P : Program}
/-- copy into a row that is known whole, elements of s cells -/
theorem run_copyN (w : World) (dT sT ty elem : TypeId) (s g o dLen dCap : Nat) (a : Addr) (sLen sCap : Nat) (cur : Array Value) (t : TypeId) (cs : List Value)
    (hu : P.underlying dT = some (.slice elem)) (hs : (P.info? elem).map (·.size) = some s)
    (hg : w.heap[g]? = some (.cells cur t (0, 0))) (hn : cs.length = Nat.min sLen dLen * s)
    (hsrc : ∀ j v, cs[j]? = some v → w.cell? (a.add j) = some v) (hfit : o + cs.length ≤ cur.size) (h1 : ∀ v ∈ cs, v.oneCell' = true) :
    (Builtin.copy_ #[dT, sT] ty #[.slice (some ⟨g, o, none⟩) dLen dCap, .slice (some a) sLen sCap]).run P w =
      .ok (goInt (Nat.min sLen dLen : Nat)) (w.setRow g (cur.toList.take o ++ cs ++ cur.toList.drop (o + cs.length)).toArray) := by
  have hl := run_loadCells_list (P := P) w a cs hsrc
  have hst := run_storeCells_at P g o t cs 0 cur w hg (by simpa using hfit) h1
  cases hq : P.info? elem with
  | none => simp [hq] at hs
  | some i =>
    have hi : i.size = s := by simpa [hq] using hs
    simp only [hn] at hl
    rw [← hn] at hl
    simp [Builtin.copy_, run_underlying hu, Builtin.lenOf, Builtin.firstCells, sizeOf, typeInfo, hq, hi, ← hn, hl, hst]
theorem run_copyN0 (w : World) (dT sT ty elem : TypeId) (s : Nat) (d a : Option Addr) (dLen dCap sLen sCap : Nat) (hu : P.underlying dT = some (.slice elem)) (hs : (P.info? elem).map (·.size) = some s) (hn : Nat.min sLen dLen = 0) :
    (Builtin.copy_ #[dT, sT] ty #[.slice d dLen dCap, .slice a sLen sCap]).run P w = .ok (goInt 0) w := by
  cases hq : P.info? elem with
  | none => simp [hq] at hs
  | some i =>
    have hl : ∀ a, (loadCells a 0).run P w = .ok #[] w := fun a => run_loadCells_list (P := P) w a [] (by simp)
    cases d <;> cases a <;> simp [Builtin.copy_, run_underlying hu, Builtin.lenOf, Builtin.firstCells, sizeOf, typeInfo, hq, hn, hl, storeCells]
theorem wpList_copyN {w : World} {ops : Array Oper} {rest : List Oper} {o : Oper} {a : Act} {Q : Exit → Act → World → Prop} (hgd : o.guard = none) (d s : Operand) (dT sT : TypeId)
    (ho : o.op = .call { callee := .builtin .copy, args := #[d, s], argTypes := #[dT, sT] }) (elem : TypeId) (sz : Nat) (hu : P.underlying dT = some (.slice elem)) (hsz : (P.info? elem).map (·.size) = some sz)
    (dp sp : Option Addr) (dLen dCap sLen sCap : Nat) (hd : a.eval d = .slice dp dLen dCap) (hs : a.eval s = .slice sp sLen sCap)
    (g off : Nat) (cur : List Value) (t : TypeId) (hg : w.heap[g]? = some (.cells cur.toArray t (0, 0))) (cs : List Value) (hn : cs.length = Nat.min sLen dLen * sz)
    (hpos : 0 < Nat.min sLen dLen → dp = some ⟨g, off, none⟩ ∧ ∃ ad, sp = some ad ∧ ∀ j v, cs[j]? = some v → w.cell? (ad.add j) = some v)
    (hfit : off + cs.length ≤ cur.length) (h1 : ∀ v ∈ cs, v.oneCell' = true) (B : Nat) (w0 : World) (hb : Below B w0 w) (hBg : B ≤ g)
    (h : ∀ w', Hid (w'.heap[g]? = some (.cells (splice cur off cs).toArray t (0, 0))) → Below B w0 w' → wpList P ops Q rest (a.put o.dst (goInt (Nat.min sLen dLen : Nat))) w') :
    wpList P ops Q (o :: rest) a w := by
  refine wpList_plain hgd fun K hK => ?_
  by_cases h0 : Nat.min sLen dLen = 0
  · obtain rfl : cs = [] := List.eq_nil_of_length_eq_zero (by rw [hn, h0, Nat.zero_mul])
    have hrun := run_copyN0 (P := P) w dT sT o.type elem sz dp sp dLen dCap sLen sCap hu hsz h0
    unfold Oper.wp
    simp [execOp, ho, resolve, invoke, builtin, hd, hs, hrun, Result.andThen]
    have := h w (show _ = _ by simpa [splice] using hg) hb
    rw [h0] at this
    exact hK _ _ this
  · obtain ⟨rfl, ad, rfl, hsrc⟩ := hpos (by omega)
    have hrun := run_copyN (P := P) w dT sT o.type elem sz g off dLen dCap ad sLen sCap cur.toArray t cs hu hsz hg hn hsrc (by simpa using hfit) h1
    unfold Oper.wp
    simp [execOp, ho, resolve, invoke, builtin, hd, hs, hrun, Result.andThen]
    have := h _ (show _ = _ by simpa [splice] using setRow_heap w g _ _ t _ hg) (below_setRow hb hBg _)
    refine hK _ _ ?_
    simpa [splice] using this
end
theorem mcells_one (xs : List Mv) : ∀ v ∈ mcells xs, v.oneCell' = true := by
  intro v hv
  unfold mcells at hv
  obtain ⟨m, _, h⟩ := List.mem_flatMap.1 hv
  simp at h
  rcases h with rfl | rfl <;> rfl
theorem own_at (w : World) (g base : Nat) (e : TypeId) (xs : List Mv) (hg : At w g e (mcells xs).toArray) (hb : base ≤ g) (hn : xs.length ≤ 1048576) :
    w.ownsRow base e 2 (.slice (some ⟨g, 0, none⟩) xs.length xs.length) xs.length (mcells xs) := by
  have hl := mcells_length xs
  have hm : maxLen = 9223372036854775807 := rfl
  refine ⟨hl, .inr ⟨g, xs.length, (mcells xs).toArray, rfl, hb, hg, Nat.le_refl _, by omega, by simp [hl], by simp [← hl]⟩⟩
end Go.PM
namespace Go.PM
open Go.RowKit
theorem mcells_take (xs : List Mv) (k : Nat) : (mcells xs).take (k * 2) = mcells (xs.take k) := by
  induction xs generalizing k with
  | nil => simp [mcells]
  | cons x xs ih =>
    cases k with
    | zero => simp [mcells]
    | succ k =>
      rw [mcells_cons, List.take_succ_cons, mcells_cons, ← ih k, show (k + 1) * 2 = k * 2 + 1 + 1 by omega]
      rfl
theorem mcells_drop (xs : List Mv) (k : Nat) : (mcells xs).drop (k * 2) = mcells (xs.drop k) := by
  induction xs generalizing k with
  | nil => simp [mcells]
  | cons x xs ih =>
    cases k with
    | zero => simp [mcells]
    | succ k =>
      rw [mcells_cons, List.drop_succ_cons, ← ih k, show (k + 1) * 2 = k * 2 + 1 + 1 by omega]
      rfl
theorem Rd.cellsFrom {w : World} {b off n cap : Nat} {xs : List Mv} (h : RdM w (.slice (some ⟨b, off, none⟩) n cap) xs) : ∀ j u, (mcells xs)[j]? = some u → w.cell? ⟨b, off + j, none⟩ = some u := by
  intro j u hu
  obtain ⟨A, cap', e, hc, hn, hl, hr⟩ := h
  have h0 : 0 < xs.length := by
    have := (List.getElem?_eq_some_iff.1 hu).1
    rw [mcells_length] at this; omega
  obtain ⟨b', off', eA, hb, hcell⟩ := hr h0
  cases e; cases eA
  exact hcell j u hu
end Go.PM
namespace Go.Proofs.Yteadhnpmmpninaa
open Go.RowKit Go.PM

set_option maxRecDepth 100000 in
set_option maxHeartbeats 1600000 in
theorem without_c (xs : List Mv) (v : Value) (i : Nat) (hi : i < xs.length) (w : World) (hx : RdM w v xs) (hn' : xs.length ≤ 1048576) :
    Calls Try.prog 113 #[v, .int .i64 i] w fun e w' => ∃ v', e = .returned v' ∧ w'.ownsRow w.heap.size 31 2 v' (xs.eraseIdx i).length (mcells (xs.eraseIdx i)) ∧ Below w.heap.size w w' := by
  have hx0 := hx
  obtain ⟨A, cap, rfl, hn, hc, hcell⟩ := hx.open
  obtain ⟨b, off, rfl, hbl, _, _⟩ := hcell i hi
  clear hcell
  have hsrc := Rd.cellsFrom hx0
  clear hx hx0
  obtain ⟨i0, hi0, hz0, hz1, hz2⟩ := info_parts infoMv
  have hmk := fun W : World => run_make (P := Try.prog) W 23 31 i0 _ Try.underlying23 hi0 hz0 .i64 .i64 ((xs.length - 1 : Nat) : Int) ((xs.length - 1 : Nat) : Int) (by omega) (Int.le_refl _) (by rw [hz2]; omega) (by omega)
  simp only [Int.toNat_natCast, hz1] at hmk
  have hsub : ((xs.length : Int) - 1) = ((xs.length - 1 : Nat) : Int) := by omega
  generalize xs.length - 1 = n1 at *
  obtain ⟨Z, hZ, hZl⟩ : ∃ Z : List Value, madeCells #[Value.string ⟨#[]⟩, Value.string ⟨#[]⟩] (n1 * 2) = Z.toArray ∧ Z.length = n1 * 2 := ⟨(madeCells #[Value.string ⟨#[]⟩, Value.string ⟨#[]⟩] (n1 * 2)).toList, by simp, by rw [Array.length_toList]; exact size_madeCells _ _⟩
  have hmk2 : ∀ W : World, Sem.run Try.prog (Instr.makeSlice 23 (.int .i64 (n1 : Nat)) (.int .i64 (n1 : Nat))) W = .ok (.slice (some ⟨W.heap.size, 0, none⟩) n1 n1) (W.alloc (.cells Z.toArray 31)) := fun W => by rw [hmk W]; exact congrArg (fun c => Result.ok (Value.slice (some ⟨W.heap.size, 0, none⟩) n1 n1) (W.alloc (.cells c 31))) hZ
  clear hmk hZ hz0 hz1 hz2 hi0 i0
  have hO : At (w.alloc (.cells Z.toArray 31)) w.heap.size 31 Z.toArray := At.new _ _ _
  have hB : Below w.heap.size w (w.alloc (.cells Z.toArray 31)) := (Below.refl _ _).alloc (Nat.le_refl _) _
  have hl1 : (mcells (xs.take i)).length = i * 2 := by rw [mcells_length, List.length_take]; omega
  have hl2 : (mcells (xs.drop (i + 1))).length = (n1 - i) * 2 := by rw [mcells_length, List.length_drop]; omega
  have hin : i ≤ n1 := by omega
  have hm1 : Nat.min i n1 = i := Nat.min_eq_left hin
  have s1 : ∀ j u, (mcells (xs.take i))[j]? = some u → (mcells xs)[j]? = some u := fun j u h => by
    rw [← mcells_take, List.getElem?_take] at h
    split at h
    · exact h
    · cases h
  have s2 : ∀ j u, (mcells (xs.drop (i + 1)))[j]? = some u → (mcells xs)[(i + 1) * 2 + j]? = some u := fun j u h => by
    rw [← mcells_drop, List.getElem?_drop] at h
    exact h
  have o1 := mcells_one (xs.take i)
  have o2 := mcells_one (xs.drop (i + 1))
  have hfin : ∀ X1 X2 : List Value, X1 = mcells (xs.take i) → X2 = mcells (xs.drop (i + 1)) → splice (splice Z 0 X1) (i * 2) X2 = mcells (xs.eraseIdx i) := fun X1 X2 e1 e2 => by
    have hl1' : X1.length = i * 2 := by rw [e1]; exact hl1
    have hl2' : X2.length = (n1 - i) * 2 := by rw [e2]; exact hl2
    have e3 : splice Z 0 X1 = X1 ++ Z.drop (i * 2) := by unfold splice; simp [hl1']
    rw [e3]
    unfold splice
    rw [List.take_left' hl1', List.drop_eq_nil_of_le (by rw [List.length_append, List.length_drop, hl1', hl2', hZl]; omega), List.append_nil, e1, e2, ← mcells_append, List.eraseIdx_eq_take_drop_succ]
  have hle : (xs.eraseIdx i).length = n1 := by rw [List.length_eraseIdx_of_lt hi]; omega
  obtain ⟨X1, hX1⟩ : ∃ X, X = mcells (xs.take i) := ⟨_, rfl⟩
  obtain ⟨X2, hX2⟩ : ∃ X, X = mcells (xs.drop (i + 1)) := ⟨_, rfl⟩
  have hf := Lib.hid (hfin X1 X2 hX1 hX2)
  rw [← hX1] at hl1 s1 o1
  rw [← hX2] at hl2 s2 o2
  have HX := Lib.hid (And.intro hX1 hX2)
  have HLE := Lib.hid hle
  have HS := Lib.hid hsrc
  clear hX1 hX2 hfin hle
  have hcp : ∀ (W : World), Below w.heap.size w W → ∀ (j : Nat) (u : Value), (mcells xs)[j]? = some u → W.cell? ⟨b, off + j, none⟩ = some u := fun W hW j u h => (hW.cell hbl).trans (hsrc j u h)
  have hp1 : 0 < Nat.min i n1 → (some ⟨w.heap.size, 0, none⟩ : Option Addr) = some ⟨w.heap.size, 0, none⟩ ∧ ∃ ad, (some ⟨b, off, none⟩ : Option Addr) = some ad ∧ ∀ j v, X1[j]? = some v → (w.alloc (.cells Z.toArray 31)).cell? (ad.add j) = some v :=
    fun _ => ⟨rfl, _, rfl, fun j u h => by rw [show (⟨b, off, none⟩ : Addr).add j = ⟨b, off + j, none⟩ by unfold Addr.add; split <;> simp_all]; exact hcp _ hB j u (s1 j u h)⟩
  go_enter Try.func113, Try.ntmps113
  go_wp2_with (refine wpList_copyN rfl (.tmp 10) (.tmp 13) 23 23 rfl 31 2 Try.underlying23 (by kernel_rfl) (some ⟨w.heap.size, 0, none⟩) (some ⟨b, off, none⟩) n1 n1 i cap (by rfl) (by rfl) w.heap.size 0 Z 31 hO X1 (by rw [hl1, hm1]) hp1 (by rw [hl1, hZl]; omega) o1 w.heap.size w hB (Nat.le_refl _) ?_; intro W1 hA1 hb1)
  clear hp1 hO hB
  have hin2 : (i : Int) ≤ (n1 : Int) := by omega
  have hin3 : ((i : Int) + 1) ≤ (xs.length : Int) := by omega
  refine region_tail (C := fun w' => w' = W1.drew) 7 (by kernel_rfl) (by kernel_rfl) rfl ?_
  simp only [List.take_succ_cons, List.take_zero, List.drop_succ_cons, List.drop_zero]
  go_big_quiet_step (fail)
  go_big_quiet_step (fail)
  go_big_quiet_step (fail)
  go_big_quiet_step (fail)
  go_big_quiet_step (fail)
  go_big_quiet_step (fail)
  go_big_quiet_step (fail)
  refine wpQuiet_nil ?_
  intro w' hw'
  subst hw'
  have hcopy : ∀ (W : World), Below w.heap.size w W → ∀ (j : Nat) (v : Value), X2[j]? = some v → W.cell? ((⟨b, off + (i + 1) * 2, none⟩ : Addr).add j) = some v := fun W hW j v h => by
    rw [show (⟨b, off + (i + 1) * 2, none⟩ : Addr).add j = ⟨b, off + ((i + 1) * 2 + j), none⟩ by unfold Addr.add; split <;> simp_all [Nat.add_assoc]]
    exact hcp W hW _ _ (s2 j v h)
  refine wpList_copyN rfl (.tmp 17) (.tmp 21) 23 23 rfl 31 2 Try.underlying23 (by kernel_rfl) _ _ (n1 - i) (n1 - i) (xs.length - (i + 1)) (cap - (i + 1)) (by rfl) (by rfl) w.heap.size (i * 2) (splice Z 0 X1) 31 hA1.out X2 ?_ ?_ ?_ o2 w.heap.size w hb1.drew (Nat.le_refl _) ?_
  · rw [hl2, show Nat.min (xs.length - (i + 1)) (n1 - i) = n1 - i from Nat.min_eq_right (by omega)]
  · intro h0
    rw [show Nat.min (xs.length - (i + 1)) (n1 - i) = n1 - i from Nat.min_eq_right (by omega)] at h0
    refine ⟨?_, ?_⟩
    · rw [if_neg (by omega)]
    · rw [if_neg (by omega)]
      exact ⟨_, rfl, hcopy _ hb1.drew⟩
  · rw [hl2]
    have : (splice Z 0 X1).length = Z.length := length_splice _ _ _ (by rw [hl1, hZl]; omega)
    rw [this, hZl]; omega
  · intro W2 hA2 hb2
    have hA3 := hA2.out
    rw [hf.out] at hA3
    have ho := own_at W2 w.heap.size w.heap.size 31 (xs.eraseIdx i) hA3 (Nat.le_refl _) (by rw [HLE.out]; omega)
    rw [HLE.out] at ho
    have HO := Lib.hid ho
    clear ho hA3 hA2 hcopy hcp
    generalize (if n1 = i then (some ⟨w.heap.size, 0, none⟩ : Option Addr) else some ⟨w.heap.size, i * 2, none⟩) = Q1
    generalize (if cap = i + 1 then (some ⟨b, off, none⟩ : Option Addr) else some ⟨b, off + (i + 1) * 2, none⟩) = Q2
    go_wp2
    go_ret
    exact ⟨_, rfl, by rw [HLE.out]; exact HO.out, hb2⟩
end Go.Proofs.Yteadhnpmmpninaa
namespace Go.PM
open Go.RowKit
/-- the first k moves are redirected -/
def redK (d : Mv) (xs : List Mv) (k : Nat) : List Mv := redM d (xs.take k) ++ xs.drop k
theorem redK_len (d : Mv) (xs : List Mv) (k : Nat) : (redK d xs k).length = xs.length := by
  unfold redK
  rw [List.length_append, redM_len, List.length_take, List.length_drop]; omega
theorem redK_zero (d : Mv) (xs : List Mv) : redK d xs 0 = xs := by
  unfold redK redM
  simp [instM]
theorem redK_full (d : Mv) (xs : List Mv) : redK d xs xs.length = redM d xs := by
  unfold redK; simp
def redB (d : Mv) (m : Mv) : Bool := decide (m.2 = d.2) && !isD d.2
theorem redM_append (d : Mv) (xs ys : List Mv) : redM d (xs ++ ys) = redM d xs ++ redM d ys := by
  unfold redM; split
  · rfl
  · simp [instM]
theorem redM_one (d m : Mv) : redM d [m] = [if redB d m = true then (m.1, d.1) else m] := by
  unfold redM redB instM
  by_cases h : isD d.2 = true
  · rw [if_pos h, h]; simp
  · rw [if_neg h]
    have : isD d.2 = false := by simpa using h
    rw [this]
    by_cases h2 : m.2 = d.2
    · simp [h2]
    · simp [h2]
theorem redK_at (d : Mv) (xs : List Mv) (k : Nat) (hk : k < xs.length) : (redK d xs k)[k]? = some xs[k] := by
  unfold redK
  rw [List.getElem?_append_right (by rw [redM_len, List.length_take]; omega), redM_len, List.length_take, List.getElem?_drop]
  rw [show k + (k - min k xs.length) = k by omega, List.getElem?_eq_getElem hk]
theorem redK_succ (d : Mv) (xs : List Mv) (k : Nat) (hk : k < xs.length) : redK d xs (k + 1) = (redK d xs k).set k (if redB d xs[k] = true then (xs[k].1, d.1) else xs[k]) := by
  have hl : (redM d (xs.take k)).length = k := by rw [redM_len, List.length_take]; omega
  unfold redK
  rw [take_snoc xs k hk, redM_append, redM_one, List.set_append_right _ _ (by omega), hl, Nat.sub_self, List.drop_eq_getElem_cons hk, List.set_cons_zero, List.append_assoc]
  rfl
theorem mcells_set2 (xs : List Mv) (k : Nat) (hk : k < xs.length) (s : ByteArray) : (mcells xs).set (k * 2 + 1) (.string s) = mcells (xs.set k (xs[k].1, s)) := by
  induction xs generalizing k with
  | nil => simp at hk
  | cons x xs ih =>
    cases k with
    | zero => simp [mcells]
    | succ k =>
      have := ih k (by simpa using hk)
      rw [mcells_cons, List.set_cons_succ, show (k + 1) * 2 = k * 2 + 1 + 1 by omega, List.set_cons_succ, this, List.set_cons_succ, mcells_cons]
      rfl
end Go.PM
namespace Go.Proofs.Yteadhnpmmpninaa
open Go.RowKit Go.PM

end Go.Proofs.Yteadhnpmmpninaa
namespace Go.PM
open Go.RowKit
def lenV : Value → Nat
  | .slice _ n _ => n
  | _ => 0
/-- the list that an iterator holds: the one that it began with, or a row of its own apart from the row r -/
def HeldW (B : Nat) (e : TypeId) (v : Value) (xs : List Mv) (r : Option Nat) (A : World) (wv : Value) (ws : List Mv) : Prop :=
  (wv = v ∧ ws = xs) ∨ (A.ownsRow B e 2 wv ws.length (mcells ws) ∧ ∀ g, wv.ownBlock = some g → r ≠ some g)
theorem grown_cell (W : World) (a : Addr) (v : Value) : W.grownBy (W.setCell a v) (some a.block) :=
  ⟨rfl, rfl, rfl, by simp [World.size_setCell], fun k _ hne => heap_setCell_other W a k v (fun e => hne (by rw [e]))⟩
theorem own_blk {w : World} {base : Nat} {e : TypeId} {size n g : Nat} {v : Value} {cs : List Value} (h : w.ownsRow base e size v n cs) (hg : v.ownBlock = some g) : g < w.heap.size ∧ base ≤ g := by
  refine ⟨?_, own_block_ge h g hg⟩
  rcases h.2 with ⟨rfl, _⟩ | ⟨g', cap, cur, rfl, _, hh, _⟩
  · cases hg
  · cases hg
    exact (Array.getElem?_eq_some_iff.1 hh).1
theorem HeldW.rd {B : Nat} {e : TypeId} {v : Value} {xs : List Mv} {r : Option Nat} {A : World} {wv : Value} {ws : List Mv} (h : HeldW B e v xs r A wv ws) (hx : RdM A v xs) : RdM A wv ws := by
  rcases h with ⟨rfl, rfl⟩ | ⟨h, _⟩
  · exact hx
  · exact Rd.of_own h
theorem HeldW.below {B : Nat} {e : TypeId} {v : Value} {xs : List Mv} {r : Option Nat} {A A' : World} {wv : Value} {ws : List Mv} (h : HeldW B e v xs r A wv ws) (hb : Below A.heap.size A A') : HeldW B e v xs r A' wv ws := by
  rcases h with h | ⟨h, h2⟩
  · exact .inl h
  · exact .inr ⟨own_keep h hb, h2⟩
theorem HeldW.step {B : Nat} {e : TypeId} {v : Value} {xs : List Mv} {r r' : Option Nat} {A A' : World} {wv : Value} {ws : List Mv} (h : HeldW B e v xs r A wv ws) (hs : RowStep B r r' A A') : HeldW B e v xs r' A' wv ws := by
  rcases h with h | ⟨h, h2⟩
  · exact .inl h
  · refine .inr ⟨⟨h.1, ?_⟩, fun g hg e => ?_⟩
    · rcases h.2 with h' | ⟨g, cap, cur, rfl, hbg, hh, hr⟩
      · exact .inl h'
      · have hlt := (Array.getElem?_eq_some_iff.1 hh).1
        exact .inr ⟨g, cap, cur, rfl, hbg, (hs.same g hbg hlt (fun e => h2 g rfl e.symm)).trans hh, hr⟩
    · have hb := own_blk h hg
      rcases hs.row with h3 | h3
      · exact h2 g hg (by rw [← h3]; exact e)
      · have := h3 g e; omega
theorem HeldW.new {B : Nat} {e : TypeId} {v : Value} {xs : List Mv} {r : Option Nat} {A A' : World} {wv : Value} {ws : List Mv} (h : A'.ownsRow A.heap.size e 2 wv ws.length (mcells ws)) (hB : B ≤ A.heap.size) (hr : ∀ g, r = some g → g < A.heap.size) : HeldW B e v xs r A' wv ws := by
  refine .inr ⟨own_more h hB, fun g hg e => ?_⟩
  have h1 := (own_blk h hg).2
  have := hr g e
  omega
end Go.PM
namespace Go.Proofs.Yteadhnpmmpninaa
open Go.RowKit Go.PM

set_option maxRecDepth 100000 in
set_option maxHeartbeats 1600000 in
theorem taken_iter (xs : List Mv) (v : Value) (b1 n : Nat) (hn : 1 ≤ n) (hW : Wt xs) (hl : xs.length ≤ 9) :
    IterR (fun A => At A b1 23 #[v] ∧ RdM A v xs) Fence.wide n Try.prog 111 (fun y => #[] ++ #[y] ++ #[.pointer (some ⟨b1, 0, none⟩)]) (fun m : Mv => #[.agg #[.string m.1, .string m.2]]) (takF 9 xs) := by
  intro l J r0 W hJ hP hY h0
  obtain ⟨⟨hA1, hx0⟩, hr0⟩ := hP _ _ _ h0
  have c1 : W.cell? ⟨b1, 0, none⟩ = some v := hA1.cell 0
  have HF := Lib.hid (fun ws wv A hx hl hp => firstAhead_c ws wv A hx (by omega : ws.length ≤ 1048576) hp)
  have HWO := Lib.hid (fun ws wv i hi A hx hl => without_c ws wv i hi A hx (by omega : ws.length ≤ 1048576))
  refine callsIn_of_wp Try.func111 rfl trivial ?_ rfl
  simp only [Try.ntmps111, List.size_toArray, List.length_cons, List.length_nil, Nat.reduceAdd, Nat.reduceSub, Array.replicate_succ, Array.replicate_zero, List.push_toArray, List.append_toArray, List.nil_append, List.cons_append]
  gi_wp2_with fail
  refine ⟨trivial, callsIn_wide.2 ((HF.out xs v _ hx0 (by omega) hW.to_).mono ?_)⟩
  rintro e w1 ⟨rfl, hb1⟩
  have hJ1 : J r0 [] w1 := hJ _ _ _ _ none h0 (grown_below hb1 none) (fun r e => by cases e)
  have hs1 := hb1.size
  clear c1 hA1 hx0
  gi_wp2
  gi_loopw [3, 4] (fun wv iv wr => ∃ (pre ws : List Mv) (r : Option Nat) (k : Nat), iv = .int .i64 (aheadZ ws) ∧ Hid (pre ++ takF k ws = takF 9 xs ∧ Wt ws) ∧ ws.length ≤ k ∧ ws.length ≤ 9 ∧ lenV wv = ws.length ∧ J r pre wr ∧ HeldW W.heap.size 31 v xs r wr wv ws ∧ W.heap.size ≤ wr.heap.size) (fun wv _ _ => lenV wv)
  case atStart =>
    obtain ⟨A, cap, e, _⟩ := (hP _ _ _ hJ1).1.2
    exact ⟨[], xs, r0, 9, rfl, ⟨rfl, hW⟩, hl, hl, by rw [e]; rfl, hJ1, .inl ⟨rfl, rfl⟩, hs1⟩
  case round =>
    obtain ⟨pre, ws, r, k, rfl, hpr, hk, h9, hlv, hj, hh, hsz⟩ := hrel
    obtain ⟨⟨_, hxr⟩, hrr⟩ := hP _ _ _ hj
    have hrd := hh.rd hxr
    rcases aheadZ_lt ws with hz | ⟨i, hi, hz, ha⟩
    · have hdone : J r (takF 9 xs) wr := by
        have := hpr.out.1
        rw [takF_none (aheadI_of_neg hz), List.append_nil] at this
        rw [← this]; exact hj
      rw [hz]
      gi_wp2
      go_end0
      exact ⟨⟨_, rfl⟩, r, hdone⟩
    · obtain ⟨k, rfl⟩ : ∃ k', k = k' + 1 := ⟨k - 1, by omega⟩
      have htk := takF_some (n := k) hi ha
      have hpx : pre ++ [ws[i]] <+: takF 9 xs := by
        rw [← hpr.out.1, htk]
        exact ⟨takF k (ws.eraseIdx i), by simp⟩
      have hyl := hY r pre ws[i] wr hj hsz hpx
      have hnx : Hid ((pre ++ [ws[i]]) ++ takF k (ws.eraseIdx i) = takF 9 xs ∧ Wt (ws.eraseIdx i)) := ⟨by rw [← hpr.out.1, htk]; simp, hpr.out.2.erase i⟩
      have hlen2 : (ws.eraseIdx i).length + 1 = ws.length := by rw [List.length_eraseIdx_of_lt hi]; omega
      obtain ⟨A, cap, rfl, hn1, hc1, hcell⟩ := hrd.open
      obtain ⟨b, off, rfl, hbl, d1, d2⟩ := hcell i hi
      have i0 : (0 : Int) ≤ (i : Int) := by omega
      have i1 : (i : Int) < (ws.length : Int) := by omega
      obtain ⟨fn, tmps, assign, body, hy, hR⟩ := hyl
      have HZ := Lib.hid hz
      rw [hz]
      clear hz ha htk hpx hcell hpr
      generalize hxm : ws[i] = m at *
      clear hxm
      gi_wp2
      refine hR.mono ?_
      rintro e W3 ⟨rfl, r', hJ3, hst⟩
      have hh3 := hh.step hst
      have hs3 := Nat.le_trans hsz hst.size
      obtain ⟨⟨_, hx3⟩, hr3⟩ := hP _ _ _ hJ3
      have hrd3 := hh3.rd hx3
      clear hrd hxr hrr hh hj d1 d2 hbl hst hR hy
      gi_wp2_with fail
      refine ⟨trivial, callsIn_wide.2 ((HWO.out ws _ i hi W3 hrd3 (by omega)).mono ?_)⟩
      rintro e W4 ⟨v4, rfl, ho4, hb4⟩
      have hh4 : HeldW W.heap.size 31 v xs r' W4 v4 (ws.eraseIdx i) := HeldW.new ho4 hs3 hr3
      have hJ4 : J r' (pre ++ [m]) W4 := hJ _ _ _ _ none hJ3 (grown_below hb4 none) (fun r e => by cases e)
      have hs4 := Nat.le_trans hs3 hb4.size
      have hrd4 : RdM W4 v4 (ws.eraseIdx i) := Rd.of_own ho4
      have hl4 : lenV v4 = (ws.eraseIdx i).length := by obtain ⟨A4, cap4, e4, _⟩ := hrd4; rw [e4]; rfl
      clear ho4 hh3 hJ3 hx3 hr3 hrd3 hb4
      generalize ws.eraseIdx i = ws2 at *
      gi_wp2_with fail
      refine ⟨trivial, callsIn_wide.2 ((HF.out ws2 v4 _ hrd4 (by omega) hnx.out.2.to_).mono ?_)⟩
      rintro e W5 ⟨rfl, hb5⟩
      have hh5 := hh4.below hb5
      have hJ5 : J r' (pre ++ [m]) W5 := hJ _ _ _ _ none hJ4 (grown_below hb5 none) (fun r e => by cases e)
      have hs5 := Nat.le_trans hs4 hb5.size
      clear hh4 hJ4 hrd4 hb5
      gi_wp2
      go_roundw
      case rel => exact ⟨pre ++ [m], ws2, r', k, rfl, hnx, by omega, by omega, hl4, hJ5, hh5, hs5⟩
      case measure => rw [hl4]; show _ < ws.length; omega
end Go.Proofs.Yteadhnpmmpninaa
namespace Go.PM
open Go.RowKit
theorem leastK_ex {P : Nat → Prop} : ∀ n, P n → ∃ m, P m ∧ ∀ k, P k → m ≤ k := by
  intro n
  induction n using Nat.strongRecOn with
  | ind n ih =>
    intro h
    by_cases h2 : ∃ m, m < n ∧ P m
    · obtain ⟨m, h3, h4⟩ := h2; exact ih m h3 h4
    · exact ⟨n, h, fun k hk => Nat.le_of_not_lt fun hlt => h2 ⟨k, hlt, hk⟩⟩
open Classical in
/-- the least number of which P holds -/
noncomputable def leastK (P : Nat → Prop) : Nat := if h : ∃ m, P m ∧ ∀ k, P k → m ≤ k then Classical.choose h else 0
theorem leastK_spec {P : Nat → Prop} (h : ∃ n, P n) : P (leastK P) ∧ ∀ k, P k → leastK P ≤ k := by
  obtain ⟨n, hn⟩ := h
  have hx := leastK_ex n hn
  unfold leastK
  rw [dif_pos hx]
  exact Classical.choose_spec hx
/-- what the ordering holds at the head of a round: k steps are enough for what waits -/
def OrdR (B : Nat) (e : TypeId) (v : Value) (xs : List Mv) (J : Option Nat → List Mv → World → Prop) (k : Nat) (wv : Value) (A : World) : Prop :=
  ∃ (pre ws : List Mv) (r : Option Nat), pre ++ ordF k ws = ordF 19 xs ∧ Wt ws ∧ muW ws ≤ k ∧ ws.length ≤ 9 ∧ J r pre A ∧ HeldW B e v xs r A wv ws ∧ B ≤ A.heap.size
end Go.PM
namespace Go.Proofs.Yteadhnpmmpninaa
open Go.RowKit Go.PM

end Go.Proofs.Yteadhnpmmpninaa
namespace Go.PM
open Go.RowKit
/-- the moves without idle ones, in the order of their places; none where they are not valid -/
def bioM (xs : List Mv) : List Mv := if mvalid xs then busyF xs 9 else []
theorem bioM_yes {xs : List Mv} (h : MV xs) : bioM xs = busyF xs 9 := if_pos (by simpa [mvalid] using h)
theorem bioM_no {xs : List Mv} (h : ¬ MV xs) : bioM xs = [] := if_neg (by simpa [mvalid] using h)
theorem bioM_len (xs : List Mv) : (bioM xs).length ≤ 9 := by
  unfold bioM; split
  · exact busyF_len xs 9
  · simp
theorem Wt_nil : Wt [] := ⟨by simp, by simp, by simp, by simp, by simp [rdN]⟩
theorem bioM_Wt (xs : List Mv) : Wt (bioM xs) := by
  by_cases h : MV xs
  · rw [bioM_yes h]; exact busyF_Wt h
  · rw [bioM_no h]; exact Wt_nil
theorem bioM_tab {xs : List Mv} (h : MV xs) : mvT (noIdle (tabOf xs)) (List.range 9) = bioM xs := by
  rw [mvT_idle, bioM_yes h]
  exact lsF_congr fun p hp => srcT_M h hp
theorem bioM_zero {xs : List Mv} (h : ¬ MV xs) : mvT (noIdle (fun _ => emp)) (List.range 9) = bioM xs := by
  rw [mvT_idle, bioM_no h, ← lsF_nm]
  exact lsF_congr fun p _ => srcT_zero p
theorem ordM_bio (xs : List Mv) : ordM xs = ordF 19 (bioM xs) := by
  by_cases h : MV xs
  · rw [bioM_yes h]; unfold ordM; rw [if_pos (by simpa [mvalid] using h)]
  · rw [bioM_no h, ordF_nil]; unfold ordM; rw [if_neg (by simpa [mvalid] using h)]
theorem stL_len (ms : List Mv) : (stL ms).length = ms.length := by simp [stL]
theorem ordM_len (xs : List Mv) : (ordM xs).length ≤ 19 := by
  unfold ordM; split
  · exact ordF_len _ _
  · simp
theorem wspM_len (xs : List Mv) : (wspM xs).length ≤ 9 := by
  unfold wspM; split
  · have h1 := takF_len 9 (busyF xs 9)
    have h2 := busyF_len xs 9
    unfold takM; omega
  · simp
theorem takF_nil (n : Nat) : takF n [] = [] := takF_none rfl
end Go.PM
namespace Go.Proofs.Yteadhnpmmpninaa
open Go.RowKit Go.PM
attribute [local go_sem] Oper.semAt_some

theorem takenAhead_c (A : Option Addr) (n c : Nat) (w : World) :
    Calls Try.prog 70 #[.slice A n c] w fun e w' => e = .returned (.func (.func 111) #[] #[.pointer (some ⟨w.heap.size, 0, none⟩)]) ∧ w.alloc (.cells #[.slice A n c] 23) = w' := by
  go_enter Try.func70, Try.ntmps70
  go_wp2
  go_ret
  exact ⟨rfl, rfl⟩
end Go.Proofs.Yteadhnpmmpninaa
namespace Go.PS
open Go.PM Go.RowKit
theorem tabC_congr {f g : Nat → ByteArray} (h : ∀ p, p < 9 → f p = g p) : tabC f = tabC g := by
  unfold tabC
  rw [h 0 (by omega), h 1 (by omega), h 2 (by omega), h 3 (by omega), h 4 (by omega), h 5 (by omega), h 6 (by omega), h 7 (by omega), h 8 (by omega)]
theorem del_set {f : Nat → ByteArray} {T : List Mv} {m : Mv} (hm : isP m.1 = true) : (tabC (delF f T)).setIfInBounds (pidx m.1) (.string emp) = tabC (delF f (T ++ [m])) := by
  rw [tabC_set _ _ (pidx_spec hm).1]
  exact tabC_congr fun p hp => delF_snoc f T m hm p hp
end Go.PS
namespace Go.Proofs.Yteadhnpmmpninaa
open Go.RowKit Go.PM Go.PS Go.PW Go.Lib
attribute [local go_sem] Oper.semAt_some

theorem wpIn_noP {F : Fence} {n : Nat} {P : Program} {c : Code} {K : Act → World → Prop} {Q : Exit → Act → World → Prop} {a : Act} {w : World} (h : c.wpIn F n P (Exit.then K (fun _ _ _ => False)) a w) : c.wpIn F n P (Exit.then K Q) a w :=
  Code.wpIn_mono (fun e a w h => by cases e <;> first | exact h | exact h.elim) h
theorem opIn_row {F : Fence} {n : Nat} {o : Oper} {a : Act} {w : World} {K : Act → World → Prop} {Q : Exit → Act → World → Prop} (_hgd : o.guard = none) (ty : TypeId) (x : Operand) (ho : o.op = .load ty x) (b : Nat) (t : TypeId) (cs : Array Value) (hA : At w b t cs) (hx : a.eval x = .pointer (some ⟨b, 0, none⟩))
    (k : Nat) (e : TypeId) (hu : Try.prog.underlying ty = some (.array k e)) (hi : (Try.prog.info? ty).map (·.size) = some cs.size) (h : K (a.put o.dst (.agg cs)) w) : o.wpIn F n Try.prog a w K Q := by
  unfold Oper.wpIn
  refine ⟨?_, ?_⟩
  · simp [Oper.about, ho]
  · rw [Oper.semAt_plain F _ _ (by rw [ho]; intro c hc'; cases hc')]
    simp only [execOp, ho, hx, Instr.loadAt, Instr.sureAddr, Sem.run_bind, Sem.run_pure, Result.andThen_ok, run_loadVar_row w b t ty cs (0, 0) _ hA hu rfl hi]
    exact h
set_option maxRecDepth 100000 in
set_option maxHeartbeats 4000000 in
theorem imOrderWithSwaps_yes (xs : List Mv) (h1 : MV xs) (v : Value) (w : World) (hx : RdM w v xs) :
    Calls Try.prog 33 #[v] w fun e w' => ∃ v', e = .returned (.tuple #[v', .bool true]) ∧ w'.ownsRow w.heap.size 33 3 v' (owS xs).length (scells (owS xs)) ∧ Below w.heap.size w w' := by
  have HT := Lib.hid (tableOf_yes xs h1 v w hx)
  have HLI := Lib.hid (fun W => list_c (noIdle (tabOf xs)) W)
  rw [bioM_tab h1] at HLI
  have HWT := Lib.hid (bioM_Wt xs)
  have HLN := Lib.hid (bioM_len xs)
  have HPE := Lib.hid (fun W => permutationOf_c (delF (tabOf xs) (takM xs)) (del_exch h1) W)
  have HRS := Lib.hid (fun b W hA => ringSwaps_c (invI (srcT (delF (tabOf xs) (takM xs)))) (inv_prm (del_exch h1)) b W hA)
  have HRW := Lib.hid (rw_del h1)
  have HOW := Lib.hid (owS_yes (xs := xs) (by simpa [mvalid] using h1))
  have HTK : Hid (takM xs = takF 9 (bioM xs)) := by show _ = _; rw [bioM_yes h1]; rfl
  have HD0 := Lib.hid (delF_nil (tabOf xs))
  have HDS := Lib.hid (fun T m hm p hp => delF_snoc (tabOf xs) T m hm p hp)
  have HID := Lib.hid (fun W => idle_c (tabOf xs) W)
  have HRL := Lib.hid (rwM_le h1)
  have HDB : Hid (∀ m ∈ bioM xs, isP m.1 = true) := (bioM_Wt xs).to_
  clear hx h1
  generalize hbs : bioM xs = bs at *
  generalize tabOf xs = f at *
  refine (callsIn_wide (n := 5)).1 ?_
  refine callsIn_of_wp_marks Try.func33 rfl trivial ?_ rfl
  simp only [Try.ntmps33, List.size_toArray, List.length_cons, List.length_nil, Nat.reduceAdd, Nat.reduceSub, Array.replicate_succ, Array.replicate_zero, List.push_toArray, List.append_toArray, List.nil_append, List.cons_append]
  gi_wp2_with fail
  refine ⟨trivial, callsIn_wide.2 (HT.out.mono ?_)⟩
  rintro e w1 ⟨rfl, hb1⟩
  have hs1 := hb1.size
  have k1 : At (w1.alloc (.cells (tabA f) 56)) w1.heap.size 56 (tabC f) := At.new w1 _ _
  gi_wp2_with (refine ldIn_row rfl 56 (.tmp 4) rfl w1.heap.size 56 (tabC f) (k1.alloc _) (by rfl) 9 9 Try.underlying56 (by kernel_rfl) ?_; refine held ?_)
  unfold Held
  gi_wp2_with fail
  refine ⟨trivial, callsIn_wide.2 ((HID.out _).mono ?_)⟩
  rintro e w2 ⟨rfl, hb2⟩
  have kt0 : At ((w1.alloc (.cells (tabA f) 56)).alloc (.cells #[.slice none 0 0] 25)) w1.heap.size 56 (tabC f) := k1.alloc _
  have ks0 : At ((w1.alloc (.cells (tabA f) 56)).alloc (.cells #[.slice none 0 0] 25)) (w1.heap.size + 1) 25 #[.slice none 0 0] := by
    have := At.new (w1.alloc (.cells (tabA f) 56)) 25 #[.slice none 0 0]
    rwa [World.size_alloc] at this
  have hB1 : Below w.heap.size w ((w1.alloc (.cells (tabA f) 56)).alloc (.cells #[.slice none 0 0] 25)) := (hb1.alloc hs1 _).alloc (by simp; omega) _
  have kt2 := kt0.keep hb2
  have ks2 := ks0.keep hb2
  have hB2 := hB1.trans (hb2.mono hB1.size)
  have hs2 := hB2.size
  clear hb1 k1 kt0 ks0 hB1 hb2
  gi_wp2_with fail
  refine ⟨trivial, callsIn_wide.2 ((HLI.out _).mono ?_)⟩
  rintro e w3 ⟨v3, rfl, ho3, hb3⟩
  have kt3 := kt2.keep hb3
  have ks3 := ks2.keep hb3
  have hB3 := hB2.trans (hb3.mono hs2)
  have hs3 := hB3.size
  have hl2 := kt2.lt
  have hl3 := ks2.lt
  obtain ⟨A3, c3, rfl, _⟩ := Rd.of_own ho3
  clear hb3 hB2 kt2 ks2
  gi_wp2_with fail
  refine ⟨trivial, callsIn_wide.2 ((takenAhead_c _ _ _ _).mono ?_)⟩
  rintro e wq ⟨rfl, rfl⟩
  have hax : Below w3.heap.size w3 (w3.alloc (.cells #[.slice A3 bs.length c3] 23)) := (Below.refl _ _).alloc (Nat.le_refl _) _
  have kt4 := kt3.keep hax
  have ks4 := ks3.keep hax
  have ho4 := own_keep ho3 hax
  have hB4 := hB3.trans (hax.mono hs3)
  have hA4 : At (w3.alloc (.cells #[.slice A3 bs.length c3] 23)) w3.heap.size 23 #[.slice A3 bs.length c3] := At.new _ _ _
  obtain ⟨W0, hW0⟩ : ∃ W0, W0 = w3.alloc (.cells #[.slice A3 bs.length c3] 23) := ⟨_, rfl⟩
  have hS0 : W0.heap.size = w3.heap.size + 1 := by rw [hW0]; simp
  rw [← hW0] at kt4 ks4 ho4 hB4 hA4 ⊢
  have hz3 := ks3.lt
  have HBz := Lib.hid (show w.heap.size ≤ w1.heap.size from hs1)
  clear hax hB3 kt3 ks3 ho3 hW0
  gi_wp2
  refine range_lawR (F := Fence.wide) (gf := 111) (lf := #[]) (lb := #[.pointer (some ⟨w3.heap.size, 0, none⟩)]) (Pr := fun A => At A w3.heap.size 23 #[.slice A3 bs.length c3] ∧ RdM A (.slice A3 bs.length c3) bs) rfl (by decide) rfl trivial (fun _ _ => rfl) (encs := fun m : Mv => #[.agg #[.string m.1, .string m.2]]) (xs := takF 9 bs)
    (taken_iter bs _ w3.heap.size 4 (by omega) HWT.out HLN.out) (fun _ => rfl)
    (fun r pre W => (∃ o, RowAt W (w1.heap.size + 1) 25 (W0.heap.size + 2) 33 3 r (stL pre).length (scells (stL pre)) o) ∧ At W w1.heap.size 56 (tabC (delF f pre)) ∧ At W w3.heap.size 23 #[.slice A3 bs.length c3] ∧ W.ownsRow w2.heap.size 31 2 (.slice A3 bs.length c3) bs.length (mcells bs) ∧ Below w.heap.size w W) none ?_ ?_ ?_
    (fun m a' W => ∃ b, At W b 31 #[.string m.1, .string m.2] ∧ W0.heap.size ≤ b ∧ a' = { tmps := #[v, undef, .slice none 0 0, .bool false, .pointer (some ⟨w1.heap.size, 0, none⟩), .bool true, .pointer (some ⟨w1.heap.size + 1, 0, none⟩), .pointer (some ⟨b, 0, none⟩), undef, undef, .tuple #[tabX f, .bool true], v, .tuple #[tabX f, .bool true], tabX f, .bool true, .bool true, .bool false, .agg (tabC f), tabX (mixG (noIdle f) f 9), .slice A3 bs.length c3, .func (.func 111) #[] #[.pointer (some ⟨w3.heap.size, 0, none⟩)], .agg #[.string m.1, .string m.2], undef, undef, undef, undef, undef, undef, undef, undef, undef, undef, undef, undef, undef, undef, undef, undef, undef, undef], defers := [] }) ?_ ?_ ?_ ?_
  · rintro r pre A ⟨⟨o, ho⟩, h2, h3, h4, h5⟩
    exact ⟨⟨h3, Rd.of_own h4⟩, ho.lives⟩
  · rintro r s A A' row ⟨⟨o, ho⟩, h2, h3, h4, h5⟩ hg hr
    exact ⟨⟨o, ho.turn hg (fun q e => (hr q e).2)⟩, h2.turn hg (fun q e => (hr q e).2), h3.turn hg (fun q e => (hr q e).2), own_turn h4 hg (fun q e => (hr q e).2), h5.trans (below_grown hg h5.size (fun g e => by have := (hr g e).1; omega))⟩
  · exact ⟨⟨_, ks4, ⟨rfl, .inl ⟨rfl, rfl⟩⟩, rfl⟩, by rw [HD0.out]; exact kt4, hA4, ho4, hB4⟩
  · rintro m a' s A A' row ⟨b, k1, kb, k2⟩ hg hr
    exact ⟨b, k1.turn hg (fun r e => (hr r e).2), kb, k2⟩
  · intro l r pre m W K hI hp hsz hK
    obtain ⟨⟨o, k1, k2, k3⟩, h2, h3, h4, h5⟩ := hI
    have hbl : Below W.heap.size W (W.alloc (.cells #[.string m.1, .string m.2] 31)) := (Below.refl _ _).alloc (Nat.le_refl _) _
    have r1 : (∃ o, RowAt (W.alloc (.cells #[.string m.1, .string m.2] 31)) (w1.heap.size + 1) 25 (W0.heap.size + 2) 33 3 r (stL pre).length (scells (stL pre)) o) ∧ At (W.alloc (.cells #[.string m.1, .string m.2] 31)) w1.heap.size 56 (tabC (delF f pre)) ∧ At (W.alloc (.cells #[.string m.1, .string m.2] 31)) w3.heap.size 23 #[.slice A3 bs.length c3] ∧ (W.alloc (.cells #[.string m.1, .string m.2] 31)).ownsRow w2.heap.size 31 2 (.slice A3 bs.length c3) bs.length (mcells bs) ∧ Below w.heap.size w (W.alloc (.cells #[.string m.1, .string m.2] 31)) :=
      ⟨⟨o, k1.alloc _, own_keep k2 hbl, k3⟩, h2.alloc _, h3.alloc _, own_keep h4 hbl, h5.alloc h5.size _⟩
    have r2 := At.new W 31 #[.string m.1, .string m.2]
    have hW0W : W0.heap.size ≤ W.heap.size := by omega
    clear k1 k2 k3 h2 h3 h4 h5
    gi_wp2
    exact hK _ _ hbl r1 ⟨_, r2, hW0W, rfl⟩
  · rintro l r pre m a' W ⟨⟨o, k1, k2, k0⟩, kt, ka, kv, k3⟩ ⟨b, q1, hb0, rfl⟩ hp hsz
    have hmp : isP m.1 = true := HDB.out m (tak_sub 9 bs m (hp.mem (by simp)))
    have hlp := pidx_spec hmp
    have hpl : pre.length + 1 ≤ 9 := by
      have h1 := hp.length_le
      have h2 := takF_len 9 bs
      have := HLN.out
      simp at h1; omega
    have hpn : (stL (pre ++ [m])).length = (stL pre).length + 1 := by simp [stL]
    have hps : (stL pre).length = pre.length := by simp [stL]
    have c0 : W.cell? ⟨b, 0, none⟩ = some (.string m.1) := q1.cell 0
    have c1 : W.cell? ⟨b, 1, none⟩ = some (.string m.2) := q1.cell 1
    have cs3 : W.cell? ⟨w1.heap.size + 1, 0, none⟩ = some o := k1.cell 0
    have hl1 := k1.lt
    have hlb := q1.lt
    have HIX := Lib.hid (fun W' => indexOf_yes m.1 hmp W')
    have HDE := Lib.hid (del_set (f := f) (T := pre) hmp)
    have hnw := three_new W (.int .i64 0) (.string m.1) (.string m.2) 33
    gi_wp2_with (gi_at_builtin; refine held ?_)
    unfold Held
    obtain ⟨i0, hi0, hz0, hz1, hz2⟩ := info_parts infoSt3
    refine wpListIn_lies rfl (.tmp 22) (.tmp 25) 25 rfl (W0.heap.size + 2) 33 i0 _ 3 40 Try.underlying25 hi0 hz0 hz1 hz2 rfl (by omega) o (stL pre).length (scells (stL pre)) (by rfl) (own_keep k2 ((Below.refl _ _).alloc (Nat.le_refl _) _)) ⟨W.heap.size, 0, none⟩ 1 1 [Value.int .i64 0, Value.string m.1, Value.string m.2] (by rfl) rfl hnw
      (by intro u hu; simp at hu; rcases hu with rfl | rfl | rfl <;> rfl) (by omega) (by simp only [maxLen]; omega) (by omega) (by simp; omega) ?_
    intro g cap W3 hown3 hgrow3 hlies hg3
    have hax : Below W.heap.size W (W.alloc (.cells #[.int .i64 0, .string m.1, .string m.2] 33)) := (Below.refl _ _).alloc (Nat.le_refl _) _
    have k2a := own_keep k2 hax
    have j1 := at_grown' (k1.keep hax) hgrow3 (box_apart k2a (k1.keep hax) (by decide))
    have jt := at_grown' (kt.keep hax) hgrow3 (box_apart k2a (kt.keep hax) (by decide))
    have ja := at_grown' (ka.keep hax) hgrow3 (box_apart k2a (ka.keep hax) (by decide))
    have jq := at_grown' (q1.keep hax) hgrow3 (box_apart k2a (q1.keep hax) (by decide))
    have jv := own_grown (own_keep kv hax) hgrow3 (rows_neS (own_keep kv hax) k2a (by decide))
    have hge := own_block_ge k2
    have hcs : scells (stL pre) ++ [Value.int .i64 0, Value.string m.1, Value.string m.2] = scells (stL (pre ++ [m])) := by unfold stL; rw [List.map_append, scells_append]; simp [scells, stpM]
    rw [hcs, ← hpn] at hown3
    have s1 := grownBy_setCell' W3 (w1.heap.size + 1) (.slice (some ⟨g, 0, none⟩) ((stL pre).length + 1) cap)
    have s2 := grown_cellP (W3.setCell ⟨w1.heap.size + 1, 0, none⟩ (.slice (some ⟨g, 0, none⟩) ((stL pre).length + 1) cap)) ⟨w1.heap.size, pidx m.1, none⟩ (.string emp)
    have hge3 := own_block_ge hown3
    have m1 : At ((W3.setCell ⟨w1.heap.size + 1, 0, none⟩ (.slice (some ⟨g, 0, none⟩) ((stL pre).length + 1) cap)).setCell ⟨w1.heap.size, pidx m.1, none⟩ (.string emp)) (w1.heap.size + 1) 25 #[.slice (some ⟨g, 0, none⟩) ((stL pre).length + 1) cap] := at_grown' (j1.set 0 _) s2 (by simp)
    have mt : At ((W3.setCell ⟨w1.heap.size + 1, 0, none⟩ (.slice (some ⟨g, 0, none⟩) ((stL pre).length + 1) cap)).setCell ⟨w1.heap.size, pidx m.1, none⟩ (.string emp)) w1.heap.size 56 (tabC (delF f (pre ++ [m]))) := by
      have := (at_grown' jt s1 (by simp)).set (pidx m.1) (.string emp)
      rw [HDE.out] at this
      exact this
    have ma := at_grown' (at_grown' ja s1 (fun e => by simp at e; omega)) s2 (fun e => by simp at e; omega)
    have mv := own_grown (own_grown jv s1 (.inl fun e => by have q : w2.heap.size ≤ w1.heap.size + 1 := own_block_ge kv _ e; omega)) s2 (.inl fun e => by have q : w2.heap.size ≤ w1.heap.size := own_block_ge kv _ e; omega)
    have mr := own_grown (own_grown hown3 s1 (.inl fun e => by have q : W0.heap.size + 2 ≤ w1.heap.size + 1 := hge3 _ e; omega)) s2 (.inl fun e => by have q : W0.heap.size + 2 ≤ w1.heap.size := hge3 _ e; omega)
    have hB3 : Below w.heap.size w W3 := (k3.alloc k3.size _).trans (below_grown hgrow3 (by have := k3.size; simp; omega) (fun g e => by have := hge g e; have := hB4.size; omega))
    have hst : RowStep W0.heap.size r (some g) W ((W3.setCell ⟨w1.heap.size + 1, 0, none⟩ (.slice (some ⟨g, 0, none⟩) ((stL pre).length + 1) cap)).setCell ⟨w1.heap.size, pidx m.1, none⟩ (.string emp)) := by
      have hz3 := hgrow3.size
      simp at hz3
      refine ⟨by simp [World.size_setCell]; omega, fun k h1 h2 h3 => ?_, ?_⟩
      · rw [heap_setCell_other _ _ _ _ (by show k ≠ w1.heap.size; omega), heap_setCell_other _ _ _ _ (by show k ≠ w1.heap.size + 1; omega), hgrow3.block k (by simp; omega) (by rw [k0]; exact h3)]
        exact Below.heap_alloc _ _ _ h2
      · rcases hlies with h | h
        · exact .inl (by rw [← h, k0])
        · exact .inr fun q e => by cases e; rw [h]; simp
    rw [hpn] at mr
    have fin : ∃ r', ((∃ o, RowAt ((W3.setCell ⟨w1.heap.size + 1, 0, none⟩ (.slice (some ⟨g, 0, none⟩) ((stL pre).length + 1) cap)).setCell ⟨w1.heap.size, pidx m.1, none⟩ (.string emp)) (w1.heap.size + 1) 25 (W0.heap.size + 2) 33 3 r' (stL (pre ++ [m])).length (scells (stL (pre ++ [m]))) o) ∧ At ((W3.setCell ⟨w1.heap.size + 1, 0, none⟩ (.slice (some ⟨g, 0, none⟩) ((stL pre).length + 1) cap)).setCell ⟨w1.heap.size, pidx m.1, none⟩ (.string emp)) w1.heap.size 56 (tabC (delF f (pre ++ [m]))) ∧ At ((W3.setCell ⟨w1.heap.size + 1, 0, none⟩ (.slice (some ⟨g, 0, none⟩) ((stL pre).length + 1) cap)).setCell ⟨w1.heap.size, pidx m.1, none⟩ (.string emp)) w3.heap.size 23 #[.slice A3 bs.length c3] ∧ ((W3.setCell ⟨w1.heap.size + 1, 0, none⟩ (.slice (some ⟨g, 0, none⟩) ((stL pre).length + 1) cap)).setCell ⟨w1.heap.size, pidx m.1, none⟩ (.string emp)).ownsRow w2.heap.size 31 2 (.slice A3 bs.length c3) bs.length (mcells bs) ∧ Below w.heap.size w ((W3.setCell ⟨w1.heap.size + 1, 0, none⟩ (.slice (some ⟨g, 0, none⟩) ((stL pre).length + 1) cap)).setCell ⟨w1.heap.size, pidx m.1, none⟩ (.string emp))) ∧
        RowStep W0.heap.size r r' W ((W3.setCell ⟨w1.heap.size + 1, 0, none⟩ (.slice (some ⟨g, 0, none⟩) ((stL pre).length + 1) cap)).setCell ⟨w1.heap.size, pidx m.1, none⟩ (.string emp)) := by
      refine ⟨some g, ⟨⟨_, m1, ?_, rfl⟩, mt, ma, mv, (hB3.setCell (by show w.heap.size ≤ w1.heap.size + 1; omega) _).setCell (by show w.heap.size ≤ w1.heap.size; omega) _⟩, hst⟩
      rw [hpn]; exact mr
    have FIN := Lib.hid fin
    have d1 := j1.cell 0
    have d2 := j1.frozen 0
    have d3 : W3.cell? ⟨b, 0, none⟩ = some (.string m.1) := jq.cell 0
    have d4 : W3.cell? ⟨b, 1, none⟩ = some (.string m.2) := jq.cell 1
    have d5 : W3.cell? ⟨w1.heap.size, pidx m.1, none⟩ = some (.string (delF f pre (pidx m.1))) := (jt.cell _).trans (tabC_at _ _ hlp.1)
    have d6 : W3.frozen? ⟨w1.heap.size, pidx m.1, none⟩ = false := jt.frozen _
    have l5 := j1.lt
    have l6 := jt.lt
    have l7 := jq.lt
    have i0' : (0 : Int) ≤ (pidx m.1 : Int) := by omega
    have i1' : (pidx m.1 : Int) < 9 := by have := hlp.1; omega
    clear hnw c0 c1 cs3 k1 k2 k3 q1 hgrow3 hge hcs hown3 m1 mt ma mv mr hst hB3 hlies j1 jt ja jq jv hax k2a s1 s2 hge3 fin kt ka kv hmp hlp hp HDB
    generalize delF f pre (pidx m.1) = oldv at *
    generalize pidx m.1 = j at *
    gi_wp2_with fail
    refine ⟨trivial, CallsIn.inRound l (callsIn_wide.2 ((HIX.out _).mono ?_))⟩
    rintro e wq ⟨rfl, rfl⟩
    gi_wp2
    have FIN2 := FIN.out
    rw [hps] at FIN2
    exact FIN2
  · rintro D r W hD ⟨⟨o, k1, k2, k0⟩, kt, _, _, k3⟩ hd
    rw [← HTK.out] at k2 kt
    have c2 : W.drew.cell? ⟨w1.heap.size + 1, 0, none⟩ = some o := k1.cell 0
    have ktd : At W.drew w1.heap.size 56 (tabC (delF f (takM xs))) := kt
    have k2d : W.drew.ownsRow (W0.heap.size + 2) 33 3 o (stL (takM xs)).length (scells (stL (takM xs))) := k2
    have hdd : W.drew.heap[D]? = some (.deferred (some [])) := hd
    have k3d := k3.drew
    have hl1 : w1.heap.size + 1 < W.drew.heap.size := k1.lt
    have hDl : D < W.drew.heap.size := (Array.getElem?_eq_some_iff.1 hd).1
    have hLT : (stL (takM xs)).length ≤ 9 := by unfold stL; rw [List.length_map]; exact takM_le xs
    have hLR : (swL (rwM xs)).length ≤ 9 := by rw [swL_len]; exact HRL.out
    have hbz := HBz.out
    clear k1 k2 k3 kt hd
    gi_wp2
    refine wpIn_noP ?_
    refine region_late2 (F := Fence.wide) (C := fun w' => w' = W.drew) (D := fun w' => w'.cell? ⟨w1.heap.size + 1, 0, none⟩ = some o) 1 3 rfl (by kernel_rfl) (by kernel_rfl) _ (by rfl) (by simp) o (by intro _ _ _ h; exact h) (yieldsD_load (by rfl) _ _ (by rfl) _ Try.underlying25 _ (by rfl) o) (fun w' hw => by subst hw; exact c2) rfl ?_
    simp only [List.take_succ_cons, List.take_zero, List.drop_succ_cons, List.drop_zero, Nat.reduceSub, Nat.reduceAdd]
    simp only [Act.put, List.setIfInBounds_toArray, List.set_cons_succ, List.set_cons_zero]
    refine wpQuietIn_nil ?_
    intro w' hw'
    subst hw'
    refine ⟨c2, op_k (fun K hK => ?_)⟩
    refine opIn_row rfl 56 (.tmp 4) rfl w1.heap.size 56 _ ktd (by rfl) 9 9 Try.underlying56 (by kernel_rfl) (hK _ _ ?_)
    clear hK K
    refine ⟨c2, op_k (fun K hK => ?_)⟩
    go_simp
    refine ⟨trivial, callsIn_wide.2 ((HPE.out _).mono ?_)⟩
    rintro e w4 ⟨b, rfl, hb4, hge4, hB4'⟩
    refine hK _ _ ?_
    clear hK K
    have d2 : w4.cell? ⟨w1.heap.size + 1, 0, none⟩ = some o := (hB4'.cell (p := ⟨w1.heap.size + 1, 0, none⟩) hl1).trans c2
    refine ⟨d2, op_k (fun K hK => ?_)⟩
    go_simp
    refine ⟨trivial, callsIn_wide.2 ((HRS.out b _ hb4).mono ?_)⟩
    rintro e w5 ⟨v5, rfl, ho5, hg5⟩
    refine hK _ _ ?_
    clear hK K
    have hb4l := hb4.lt
    have e2 : w5.cell? ⟨w1.heap.size + 1, 0, none⟩ = some o := hg5.cell d2 (by show some (w1.heap.size + 1) ≠ some b; intro e; cases e; omega)
    refine ⟨e2, ?_⟩
    rw [HRW.out] at ho5
    have hob : ∀ g, o.ownBlock = some g → g < W.drew.heap.size ∧ g ≠ D := fun g hg => ⟨(own_blk k2d hg).1, fun e => by
      subst e
      rcases k2d.2 with ⟨rfl, _⟩ | ⟨g', cap, cur, rfl, _, hh, _⟩
      · cases hg
      · cases hg
        rw [hdd] at hh; cases hh⟩
    have own4 := own_keep k2d hB4'
    have own5 := own_grown own4 hg5 (.inl fun e => by have := (hob b e).1; omega)
    have hs4 := hB4'.size
    have hs5 := hg5.size
    refine listIn_rows rfl (.tmp 35) (.tmp 38) rfl (W0.heap.size + 2) w4.heap.size o v5 (stL (takM xs)) (swL (rwM xs)) (by rfl) (by rfl) own5 ho5 (by omega) (by omega) ?_
    intro v6 w6 hown6 hg6
    have hd6 : w6.heap[D]? = some (.deferred (some [])) := by
      rw [hg6.block D (by omega) (fun e => (hob D e.symm).2 rfl), hg5.block D (by omega) (fun e => by cases e; omega), hB4'.block D hDl]
      exact hdd
    have hB6 : Below w.heap.size w w6 := ((k3d.trans (hB4'.mono k3d.size)).trans (below_grown hg5 (by omega) (fun g e => by cases e; omega))).trans (below_grown hg6 (by omega) (fun g e => by have := (own_blk own5 e).2; omega))
    have hOWN : w6.ownsRow w.heap.size 33 3 v6 (owS xs).length (scells (owS xs)) := by
      rw [HOW.out]; exact own_more hown6 (by omega)
    clear hown6 hg6 own5 own4 ho5 hg5 hB4' hb4 e2 d2 c2 ktd k2d hdd k3d hob
    gi_wp2
    refine ⟨by simp, .inl ⟨D, _, rfl, run_takeDeferred hd6, ?_⟩⟩
    have hR : ∀ tmps : Array Value, tmps.getD 2 undef = v6 → tmps.getD 3 undef = .bool true → (results Try.f33 tmps).run Try.prog (w6.putObj D (.deferred none)) = .ok (.tuple #[v6, .bool true]) (w6.putObj D (.deferred none)) := fun tmps h2 h3 => by
      have h2' : tmps[2]?.getD undef = v6 := by simpa using h2
      have h3' : tmps[3]?.getD undef = .bool true := by simpa using h3
      simp [results, Try.results33, h2', h3']
    exact ⟨_, hR _ rfl rfl, _, rfl, own_turn hOWN (grownBy_putObj' w6 D _) (fun r e => by cases e; exact ⟨_, hd6, rfl⟩), hB6.trans ⟨rfl, rfl, rfl, by simp [World.putObj], fun k hk => World.putObj_heap_other (by omega)⟩⟩
set_option maxRecDepth 100000 in
set_option maxHeartbeats 4000000 in
theorem imOrderWithSwaps_c (xs : List Mv) (v : Value) (w : World) (hx : RdM w v xs) :
    Calls Try.prog 33 #[v] w fun e w' => ∃ v', e = .returned (.tuple #[v', .bool (mvalid xs)]) ∧ w'.ownsRow w.heap.size 33 3 v' (owS xs).length (scells (owS xs)) ∧ Below w.heap.size w w' := by
  rcases Bool.eq_false_or_eq_true (mvalid xs) with hm1 | hm0
  · rw [hm1]; exact imOrderWithSwaps_yes xs (by simpa [mvalid] using hm1) v w hx
  · have h1 : ¬ MV xs := by simpa [mvalid] using hm0
    have HM := Lib.hid hm0
    have HS := Lib.hid (owS_no hm0)
    have HT := Lib.hid (tableOf_no xs h1 v w hx)
    clear h1 hx hm0
    go_enter Try.func33, Try.ntmps33
    go_wp2_with fail
    refine HT.out.mono ?_
    rintro e w1 ⟨rfl, hb1⟩
    have hs1 := hb1.size
    go_wp2
    go_ret2
    exact ⟨_, by rw [HM.out]; rfl, by rw [HS.out]; exact ⟨rfl, .inl ⟨rfl, rfl⟩⟩, by (repeat' (first | (with_reducible exact Below.refl _ _) | (with_reducible assumption) | (with_reducible refine Below.alloc ?_ ?_ _) | (with_reducible refine Below.drew ?_) | (with_reducible refine Below.setCell ?_ ?_ _) | (with_reducible exact Nat.le_refl _) | omega | ((repeat (first | rewrite [World.size_alloc] | rewrite [World.size_setCell] | rewrite [World.size_drew])); omega) | (simp; omega) | (simp; done)))⟩
end Go.Proofs.Yteadhnpmmpninaa
namespace Go.PM
open Go.RowKit
theorem rdN_take (xs : List Mv) (k : Nat) (hk : k < xs.length) (a : ByteArray) : rdN (xs.take (k + 1)) a = rdN (xs.take k) a + if xs[k].2 = a then 1 else 0 := by
  rw [take_snoc xs k hk]
  unfold rdN
  rw [List.map_append, List.count_append, List.map_cons, List.map_nil, List.count_cons]
  simp
theorem instM_take (a b : ByteArray) (xs : List Mv) (k : Nat) (hk : k < xs.length) : instM a b (xs.take (k + 1)) = instM a b (xs.take k) ++ [(xs[k].1, if xs[k].2 = a then b else xs[k].2)] := by
  rw [take_snoc xs k hk]
  unfold instM
  rw [List.map_append, List.map_cons, List.map_nil]
  by_cases h : xs[k].2 = a
  · rw [if_pos h, if_pos h]
  · rw [if_neg h, if_neg h]
def readB (xs : List Mv) (a : ByteArray) : Bool := decide (rdN xs a ≠ 0)
theorem readB_at {xs : List Mv} {k : Nat} (hk : k < xs.length) {a : ByteArray} (h : xs[k].2 = a) : readB xs a = true := by
  unfold readB
  rw [decide_eq_true_eq]
  intro e
  exact rdN_zero.1 e _ (List.getElem_mem hk) h
theorem readB_no {xs : List Mv} {a : ByteArray} (h : rdN xs a = 0) : readB xs a = false := by
  unfold readB; rw [decide_eq_false_iff_not]; exact fun e => e h
end Go.PM
namespace Go.Proofs.Yteadhnpmmpninaa
open Go.RowKit Go.PM
attribute [local go_sem] Oper.semAt_some

set_option maxRecDepth 100000 in
set_option maxHeartbeats 800000 in
theorem l5Read_c (xs : List Mv) (v : Value) (a : ByteArray) (w : World) (hx : RdM w v xs) :
    Calls Try.prog 110 #[v, .string a] w fun e w' => e = .returned (.bool (readB xs a)) ∧ Below w.heap.size w w' := by
  obtain ⟨A, cap, rfl, hn, hc, hcell⟩ := hx.open
  have HRN := Lib.hid (readB_no (xs := xs) (a := a))
  go_enter Try.func110, Try.ntmps110
  go_wp2
  go_loopw [6, 9] (fun _ i wr => ∃ (k : Nat), k ≤ xs.length ∧ i = .int .i64 k ∧ Hid (rdN (xs.take k) a = 0) ∧ Below w.heap.size w wr) (fun _ i _ => xs.length - (intOf i).toNat)
  case atStart => exact ⟨0, by omega, rfl, by show _ = _; simp [rdN], Below.refl _ _⟩
  case round =>
    obtain ⟨k, hk, rfl, hm, hb⟩ := hrel
    have hbs := hb.size
    by_cases hlt : k < xs.length
    · obtain ⟨b, off, rfl, hbl, hc1, hc2⟩ := hcell k hlt
      have hd1 := (hb.cell (p := ⟨b, off + k * 2, none⟩) hbl).trans hc1
      have hd2 := (hb.cell (p := ⟨b, off + k * 2 + 1, none⟩) hbl).trans hc2
      clear hc1 hc2 hcell
      have HR := Lib.hid (rdN_take xs k hlt a)
      have HY := Lib.hid (readB_at (xs := xs) (a := a) hlt)
      generalize xs[k].1 = x1 at *
      generalize xs[k].2 = x2 at *
      go_wp2
      · have h : (x2.toList == a.toList) = true := by assumption
        rw [beq_str, decide_eq_true_eq] at h
        go_ret
        exact ⟨by rw [HY.out h]; rfl, by (repeat' (first | (with_reducible exact Below.refl _ _) | (with_reducible assumption) | (with_reducible refine Below.alloc ?_ ?_ _) | (with_reducible refine Below.drew ?_) | (with_reducible refine Below.setCell ?_ ?_ _) | (with_reducible exact Nat.le_refl _) | omega | ((repeat (first | rewrite [World.size_alloc] | rewrite [World.size_setCell] | rewrite [World.size_drew])); omega) | (simp; omega) | (simp; done)))⟩
      · have h : (x2.toList == a.toList) = false := by assumption
        rw [beq_str, decide_eq_false_iff_not] at h
        go_roundw
        case rel => exact ⟨k + 1, by omega, by go_num, by show _ = _; rw [HR.out, hm.out, if_neg h], by (repeat' (first | (with_reducible exact Below.refl _ _) | (with_reducible assumption) | (with_reducible refine Below.alloc ?_ ?_ _) | (with_reducible refine Below.drew ?_) | (with_reducible refine Below.setCell ?_ ?_ _) | (with_reducible exact Nat.le_refl _) | omega | ((repeat (first | rewrite [World.size_alloc] | rewrite [World.size_setCell] | rewrite [World.size_drew])); omega) | (simp; omega) | (simp; done)))⟩
        case measure => simp [intOf]; omega
    · have hk' : k = xs.length := by omega
      have h1 := hm.out
      rw [hk', List.take_of_length_le (Nat.le_refl _)] at h1
      have HF := Lib.hid (HRN.out h1)
      clear h1 hk'
      go_wp2
      go_ret
      exact ⟨by rw [HF.out]; rfl, hb⟩
end Go.Proofs.Yteadhnpmmpninaa
namespace Go.PM
open Go.RowKit
theorem add_off (b off j : Nat) : (⟨b, off, none⟩ : Addr).add j = ⟨b, off + j, none⟩ := by
  unfold Addr.add; split <;> simp_all
theorem own_lit1 (w : World) (e : TypeId) (base B : Nat) (hB : w.heap.size = B) (hb : base ≤ B) : (w.alloc (.cells #[] e)).drew.ownsRow base e 2 (.slice (some ⟨B, 0, none⟩) 0 0) ([] : List Mv).length (mcells []) := by
  subst hB
  exact World.ownsRow_lit (e := e) (base := base) (size := 2) w #[] 0 hb (Nat.zero_le _) rfl
end Go.PM
namespace Go.Proofs.Yteadhnpmmpninaa
open Go.RowKit Go.PM
attribute [local go_sem] Oper.semAt_some

/-- append of moves that lie somewhere, as a step of a region that draws -/
theorem step_appM {ops : Array Oper} {o : Oper} {a : Act} {w : World} {K : Act → World → Prop} {Q : Exit → Act → World → Prop} {E : Prop} (hgd : o.guard = none) (s x : Operand)
    (ho : o.op = .call { callee := .builtin .append, args := #[s, x], argTypes := #[23, 23] })
    (base : Nat) (v : Value) (ys zs : List Mv) (ad : Addr) (c : Nat) (hs : a.eval s = v) (hx : a.eval x = .slice (some ad) zs.length c)
    (hown : w.ownsRow base 31 2 v ys.length (mcells ys)) (hnew : ∀ j u, (mcells zs)[j]? = some u → w.cell? (ad.add j) = some u)
    (hlen : ys.length + zs.length ≤ 1048576) (hbase : base ≤ w.heap.size)
    (h : ∀ v' w', Hid (w'.ownsRow base 31 2 v' (ys ++ zs).length (mcells (ys ++ zs))) → w.grownBy w' v.ownBlock → K (a.put o.dst v') w') :
    if Region.wanted o (yielded ops a.tmps) = true then Oper.wp Try.prog o a w K Q else E := by
  have hw : Region.wanted o (yielded ops a.tmps) = true := by simp [Region.wanted, hgd]
  rw [if_pos hw]
  obtain ⟨i0, hi0, hz0, hz1, hz2⟩ := info_parts infoMv
  obtain ⟨v', w', hr, h2, h3, _⟩ := run_append_own (P := Try.prog) w base 23 o.type 31 i0 _ 2 32 Try.underlying23 hi0 hz0 hz1 hz2 rfl (by omega) v ys.length (mcells ys) hown ad zs.length c (mcells zs) (mcells_length zs) hnew (mcells_one zs) (by simp only [maxLen]; omega) (by omega) hbase
  unfold Oper.wp
  simp [execOp, ho, resolve, invoke, builtin, hs, hx, hr, Result.andThen]
  refine h v' w' ?_ h3
  show World.ownsRow _ _ _ _ _ _ _
  rw [mcells_append, List.length_append]
  exact h2

set_option maxRecDepth 100000 in
set_option maxHeartbeats 3200000 in
theorem l5Next_c (xs : List Mv) (v : Value) (w : World) (hx : RdM w v xs) (hn' : xs.length ≤ 1048575) (hne : ∀ m ∈ xs, m.1 ≠ m.2) :
    Calls Try.prog 69 #[v] w fun e w' => e = .returned (.int .i64 (aheadZ xs)) ∧ Below w.heap.size w w' := by
  have hx0 := hx
  obtain ⟨A, cap, rfl, hn, hc, hcell⟩ := hx.open
  have HZ := Lib.hid (aheadZ_none (xs := xs))
  have HK := Lib.hid (fun k hk h => aheadZ_at (xs := xs) (k := k) hk h)
  have HRD := Lib.hid (fun ys v a W h => l5Read_c ys v a W h)
  have HNE := Lib.hid hne
  clear hne hx
  go_enter Try.func69, Try.ntmps69
  go_wp2
  go_loopw [3, 4, 5, 8] (fun _ _ _ i wr => ∃ (k : Nat), k ≤ xs.length ∧ i = .int .i64 k ∧ Below w.heap.size w wr ∧ Hid (∀ j (hj : j < k) (hj2 : j < xs.length), freeB xs xs[j] = false)) (fun _ _ _ i _ => xs.length - (RowKit.intOf i).toNat)
  case atStart => exact ⟨0, by omega, rfl, Below.refl _ _, fun j hj => by omega⟩
  case round =>
    obtain ⟨k, hk, rfl, hb, hm⟩ := hrel
    have hbs := hb.size
    by_cases hlt : k < xs.length
    · obtain ⟨b, off, rfl, hbl, hc1, hc2⟩ := hcell k hlt
      have hd1 := (hb.cell (p := ⟨b, off + k * 2, none⟩) hbl).trans hc1
      have hd2 := (hb.cell (p := ⟨b, off + k * 2 + 1, none⟩) hbl).trans hc2
      have hsrc := Rd.cellsFrom hx0
      have hcp : ∀ (W : World), Below w.heap.size w W → ∀ (j : Nat) (u : Value), (mcells (xs.take k))[j]? = some u → W.cell? ((⟨b, off, none⟩ : Addr).add j) = some u := fun W hW j u h => by
        rw [add_off]
        refine (hW.cell hbl).trans (hsrc j u ?_)
        rw [← mcells_take, List.getElem?_take] at h
        split at h
        · exact h
        · cases h
      have hcq : ∀ (W : World), Below w.heap.size w W → ∀ (j : Nat) (u : Value), (mcells (xs.drop (k + 1)))[j]? = some u → W.cell? ((⟨b, off + (k + 1) * 2, none⟩ : Addr).add j) = some u := fun W hW j u h => by
        rw [add_off, Nat.add_assoc]
        refine (hW.cell hbl).trans (hsrc _ u ?_)
        rw [← mcells_drop, List.getElem?_drop] at h
        exact h
      have hltk : (xs.take k).length = k := by rw [List.length_take]; omega
      have hldk : (xs.drop (k + 1)).length = xs.length - (k + 1) := by rw [List.length_drop]
      have hsum : (xs.take k).length + (xs.drop (k + 1)).length ≤ 1048576 := by omega
      have i0 : (0 : Int) ≤ (k : Int) := by omega
      have i1 : (k : Int) ≤ (xs.length : Int) := by omega
      have i2 : (k : Int) + 1 ≤ (xs.length : Int) := by omega
      have HER : Hid (xs.take k ++ xs.drop (k + 1) = xs.eraseIdx k) := by show _ = _; rw [List.eraseIdx_eq_take_drop_succ]
      have HFB : Hid (readB (xs.eraseIdx k) xs[k].1 = !freeB xs xs[k]) := by
        show _ = _
        have h1 := rdN_erase xs k hlt xs[k].1
        rw [if_neg (fun e => HNE.out _ (List.getElem_mem hlt) e.symm), Nat.add_zero] at h1
        unfold readB freeB
        rw [h1]
        by_cases e : rdN (xs.eraseIdx k) xs[k].1 = 0 <;> simp [e]
      have HKK := Lib.hid (fun h => HK.out k hlt h)
      have HNX : Hid (freeB xs xs[k] = false → ∀ j (hj : j < k + 1) (hj2 : j < xs.length), freeB xs xs[j] = false) := fun h j hj hj2 => by
        by_cases e : j = k
        · subst e; exact h
        · exact hm.out j (by omega) hj2
      have HCP := Lib.hid hcp
      have HCQ := Lib.hid hcq
      clear hc1 hc2 hcell hcp hcq hsrc
      generalize hfb : freeB xs xs[k] = fb at *
      clear hfb
      generalize xs[k].1 = x1 at *
      generalize xs[k].2 = x2 at *
      generalize xs.take k = p1 at *
      generalize xs.drop (k + 1) = p2 at *
      generalize xs.eraseIdx k = er at *
      have HB1 : Hid (Below w.heap.size w (wr.alloc (.cells #[.string x1, .string x2] 31))) := hb.alloc hbs _
      have n1 : k ≤ cap := by omega
      have n2 : k + 1 ≤ xs.length := by omega
      have n3 : k + 1 ≤ cap := by omega
      have n4 : IntKind.i64.wrap ((k : Int) + 1) = (k : Int) + 1 := IntWalk.i64_in _ ⟨by omega, by omega⟩
      have n5 : ((k : Int) + 1).toNat = k + 1 := by omega
      have n6 : (0 : Int) ≤ (k : Int) + 1 := by omega
      by_cases hcap : cap = k + 1
      · subst hcap
        have hp20 : p2.length = 0 := by omega
        have n7 : (k : Int) ≤ (k : Int) + 1 := by omega
        have HCZ : Hid (∀ (W : World) (j : Nat) (u : Value), (mcells p2)[j]? = some u → W.cell? ((⟨b, off, none⟩ : Addr).add j) = some u) := fun W j u h => by
          have : p2 = [] := List.length_eq_zero_iff.1 (by omega)
          rw [this] at h; simp [mcells] at h
        go_wp2
        go_region_law (first
          | (refine step_appM rfl (.tmp 13) (.tmp 16) rfl (wr.heap.size + 1) (.slice (some ⟨wr.heap.size + 1, 0, none⟩) 0 0) [] p1 ⟨b, off, none⟩ (k + 1) (by rfl) (by rw [hltk]; rfl) (own_lit1 _ _ _ _ (by simp) (by omega)) (HCP.out _ (by (repeat' (first | (with_reducible exact Below.refl _ _) | (with_reducible assumption) | (with_reducible refine Below.alloc ?_ ?_ _) | (with_reducible refine Below.drew ?_) | (with_reducible refine Below.setCell ?_ ?_ _) | (with_reducible exact Nat.le_refl _) | omega | ((repeat (first | rewrite [World.size_alloc] | rewrite [World.size_setCell] | rewrite [World.size_drew])); omega) | (simp; omega) | (simp; done))))) (by simp; omega) (by simp only [World.size_alloc, World.size_drew]; omega) ?_; intro v1 w1 ho1 hg1; have hb1 := Below.trans (show Below w.heap.size w ((wr.alloc (.cells #[.string x1, .string x2] 31)).alloc (.cells #[] 31)).drew by (repeat' (first | (with_reducible exact Below.refl _ _) | (with_reducible assumption) | (with_reducible refine Below.alloc ?_ ?_ _) | (with_reducible refine Below.drew ?_) | (with_reducible refine Below.setCell ?_ ?_ _) | (with_reducible exact Nat.le_refl _) | omega | ((repeat (first | rewrite [World.size_alloc] | rewrite [World.size_setCell] | rewrite [World.size_drew])); omega) | (simp; omega) | (simp; done)))) (below_grown hg1 (by simp; omega) (fun g e => by have e' : some (wr.heap.size + 1) = some g := e; cases e'; omega)))
          | (refine step_appM rfl (.tmp 17) (.tmp 21) rfl (wr.heap.size + 1) _ _ p2 ⟨b, off, none⟩ 0 (by rfl) (by rw [hp20]; rfl) ho1.out (HCZ.out _) (by simpa using hsum) (by have := hg1.size; simp at this; omega) ?_; intro v2 w2 ho2 hg2))
        have hz1 := hg1.size
        have hz2 := hg2.size
        simp only [World.size_alloc, World.size_drew] at hz1
        have hrd2 : RdM w2 v2 er := by
          have := Rd.of_own ho2.out
          rw [List.nil_append, HER.out] at this
          exact this
        have hge1 := own_block_ge ho1.out
        have hN0 : At ((wr.alloc (.cells #[.string x1, .string x2] 31)).alloc (.cells #[] 31)).drew wr.heap.size 31 #[.string x1, .string x2] := (At.new wr 31 #[.string x1, .string x2]).alloc _
        have hN1 : At w1 wr.heap.size 31 #[.string x1, .string x2] := hN0.grown hg1 (by intro e; have e' : some wr.heap.size = some (wr.heap.size + 1) := e; have := Option.some.inj e'; omega)
        have hN2 : At w2 wr.heap.size 31 #[.string x1, .string x2] := hN1.grown hg2 (fun e => by have := hge1 _ e.symm; omega)
        have q1 : w2.cell? ⟨wr.heap.size, 0, none⟩ = some (.string x1) := hN2.cell 0
        have hb2 : Below w.heap.size w w2 := hb1.trans (below_grown hg2 (by omega) (fun g e => by have := hge1 g e; omega))
        have hs2 := hb2.size
        clear hg1 hg2 hN0 hN1 hN2 ho1 ho2 hd1 hd2 hb1
        have HRR := Lib.hid (HRD.out er v2 x1 w2 hrd2)
        rw [HFB.out] at HRR
        clear hrd2
        cases fb with
        | true =>
          go_wp2_with (go_at_call 110; refine HRR.out.mono ?_; rintro e w3 ⟨rfl, hb3⟩)
          go_ret
          exact ⟨by rw [HKK.out (fun j hj => hm.out j hj (by omega)) (by first | trivial | rfl)]; rfl, hb2.trans (hb3.mono hs2)⟩
        | false =>
          go_wp2_with (go_at_call 110; refine HRR.out.mono ?_; rintro e w3 ⟨rfl, hb3⟩)
          go_roundw
          case rel => exact ⟨k + 1, by omega, by go_num, hb2.trans (hb3.mono hs2), HNX.out (by first | trivial | rfl)⟩
          case measure => simp [RowKit.intOf]; omega
      · go_wp2
        go_region_law (first
          | (refine step_appM rfl (.tmp 13) (.tmp 16) rfl (wr.heap.size + 1) (.slice (some ⟨wr.heap.size + 1, 0, none⟩) 0 0) [] p1 ⟨b, off, none⟩ cap (by rfl) (by rw [hltk]; rfl) (own_lit1 _ _ _ _ (by simp) (by omega)) (HCP.out _ (by (repeat' (first | (with_reducible exact Below.refl _ _) | (with_reducible assumption) | (with_reducible refine Below.alloc ?_ ?_ _) | (with_reducible refine Below.drew ?_) | (with_reducible refine Below.setCell ?_ ?_ _) | (with_reducible exact Nat.le_refl _) | omega | ((repeat (first | rewrite [World.size_alloc] | rewrite [World.size_setCell] | rewrite [World.size_drew])); omega) | (simp; omega) | (simp; done))))) (by simp; omega) (by simp only [World.size_alloc, World.size_drew]; omega) ?_; intro v1 w1 ho1 hg1; have hb1 := Below.trans (show Below w.heap.size w ((wr.alloc (.cells #[.string x1, .string x2] 31)).alloc (.cells #[] 31)).drew by (repeat' (first | (with_reducible exact Below.refl _ _) | (with_reducible assumption) | (with_reducible refine Below.alloc ?_ ?_ _) | (with_reducible refine Below.drew ?_) | (with_reducible refine Below.setCell ?_ ?_ _) | (with_reducible exact Nat.le_refl _) | omega | ((repeat (first | rewrite [World.size_alloc] | rewrite [World.size_setCell] | rewrite [World.size_drew])); omega) | (simp; omega) | (simp; done)))) (below_grown hg1 (by simp; omega) (fun g e => by have e' : some (wr.heap.size + 1) = some g := e; cases e'; omega)))
          | (refine step_appM rfl (.tmp 17) (.tmp 21) rfl (wr.heap.size + 1) _ _ p2 ⟨b, off + (k + 1) * 2, none⟩ (cap - (k + 1)) (by rfl) (by rw [hldk]; rfl) ho1.out (HCQ.out _ hb1) (by simpa using hsum) (by have := hg1.size; simp at this; omega) ?_; intro v2 w2 ho2 hg2))
        have hz1 := hg1.size
        have hz2 := hg2.size
        simp only [World.size_alloc, World.size_drew] at hz1
        have hrd2 : RdM w2 v2 er := by
          have := Rd.of_own ho2.out
          rw [List.nil_append, HER.out] at this
          exact this
        have hge1 := own_block_ge ho1.out
        have hN0 : At ((wr.alloc (.cells #[.string x1, .string x2] 31)).alloc (.cells #[] 31)).drew wr.heap.size 31 #[.string x1, .string x2] := (At.new wr 31 #[.string x1, .string x2]).alloc _
        have hN1 : At w1 wr.heap.size 31 #[.string x1, .string x2] := hN0.grown hg1 (by intro e; have e' : some wr.heap.size = some (wr.heap.size + 1) := e; have := Option.some.inj e'; omega)
        have hN2 : At w2 wr.heap.size 31 #[.string x1, .string x2] := hN1.grown hg2 (fun e => by have := hge1 _ e.symm; omega)
        have q1 : w2.cell? ⟨wr.heap.size, 0, none⟩ = some (.string x1) := hN2.cell 0
        have hb2 : Below w.heap.size w w2 := hb1.trans (below_grown hg2 (by omega) (fun g e => by have := hge1 g e; omega))
        have hs2 := hb2.size
        clear hg1 hg2 hN0 hN1 hN2 ho1 ho2 hd1 hd2 hb1
        have HRR := Lib.hid (HRD.out er v2 x1 w2 hrd2)
        rw [HFB.out] at HRR
        clear hrd2
        cases fb with
        | true =>
          go_wp2_with (go_at_call 110; refine HRR.out.mono ?_; rintro e w3 ⟨rfl, hb3⟩)
          go_ret
          exact ⟨by rw [HKK.out (fun j hj => hm.out j hj (by omega)) (by first | trivial | rfl)]; rfl, hb2.trans (hb3.mono hs2)⟩
        | false =>
          go_wp2_with (go_at_call 110; refine HRR.out.mono ?_; rintro e w3 ⟨rfl, hb3⟩)
          go_roundw
          case rel => exact ⟨k + 1, by omega, by go_num, hb2.trans (hb3.mono hs2), HNX.out (by first | trivial | rfl)⟩
          case measure => simp [RowKit.intOf]; omega
    · have hz := HZ.out fun j hj => hm.out j (by omega) hj
      have HZZ := Lib.hid hz
      clear hz
      go_wp2
      go_ret
      exact ⟨by rw [HZZ.out]; rfl, hb⟩
end Go.Proofs.Yteadhnpmmpninaa
namespace Go.PS
open Go.PM Go.RowKit Go.PW
/-- what is taken, and what waits, at the head of a round -/
def OwSs (w : World) (e f : TypeId) (bs : List Mv) (k : Nat) (ov wv : Value) (A : World) : Prop :=
  ∃ (pre ws : List Mv), pre ++ takF k ws = takF 9 bs ∧ remF k ws = remF 9 bs ∧ Wt ws ∧ ws.length ≤ k ∧ ws.length ≤ 9 ∧ pre.length ≤ 9 ∧ A.ownsRow w.heap.size e 2 wv ws.length (mcells ws) ∧ A.ownsRow w.heap.size f 3 ov (stL pre).length (scells (stL pre)) ∧ Below w.heap.size w A
end Go.PS
namespace Go.Proofs.Yteadhnpmmpninaa
open Go.RowKit Go.PM Go.PS Go.PW Go.Lib
attribute [local go_sem] Oper.semAt_some

theorem list_st {ops : Array Oper} {rest : List Oper} {o : Oper} {a : Act} {Q : Exit → Act → World → Prop} {w : World} (hgd : o.guard = none) (s x : Operand)
    (ho : o.op = .call { callee := .builtin .append, args := #[s, x], argTypes := #[25, 25] })
    (base : Nat) (v : Value) (ys : List St) (m : St) (ad : Addr) (c : Nat) (hs : a.eval s = v) (hx : a.eval x = .slice (some ad) 1 c)
    (hown : w.ownsRow base 33 3 v ys.length (scells ys)) (hnew : ∀ j u, [Value.int .i64 m.1, Value.string m.2.1, Value.string m.2.2][j]? = some u → w.cell? (ad.add j) = some u)
    (hlen : ys.length ≤ 1048576) (hbase : base ≤ w.heap.size)
    (h : ∀ v' w', w'.ownsRow base 33 3 v' (ys ++ [m]).length (scells (ys ++ [m])) → w.grownBy w' v.ownBlock → wpList Try.prog ops Q rest (a.put o.dst v') w') : wpList Try.prog ops Q (o :: rest) a w := by
  obtain ⟨i0, hi0, hz0, hz1, hz2⟩ := info_parts infoSt3
  refine wpList_append_own w hgd s x _ ho base 33 i0 _ 3 40 Try.underlying25 hi0 hz0 hz1 hz2 rfl (by omega) v ys.length (scells ys) hs hown ad 1 c [Value.int .i64 m.1, Value.string m.2.1, Value.string m.2.2] hx rfl hnew
    (by intro u hu; simp at hu; rcases hu with rfl | rfl | rfl <;> rfl) (by simp only [maxLen]; omega) (by omega) hbase ?_
  intro v' w' h2 h3 _
  refine h v' w' ?_ h3
  have hcs : scells ys ++ [Value.int .i64 m.1, Value.string m.2.1, Value.string m.2.2] = scells (ys ++ [m]) := by rw [scells_append]; simp [scells]
  rw [← hcs, List.length_append]
  simpa using h2
theorem list_rows {ops : Array Oper} {rest : List Oper} {o : Oper} {a : Act} {Q : Exit → Act → World → Prop} {w : World} (hgd : o.guard = none) (s x : Operand)
    (ho : o.op = .call { callee := .builtin .append, args := #[s, x], argTypes := #[25, 25] })
    (base base2 : Nat) (v v2 : Value) (ys zs : List St) (hs : a.eval s = v) (hx : a.eval x = v2)
    (hown : w.ownsRow base 33 3 v ys.length (scells ys)) (hown2 : w.ownsRow base2 33 3 v2 zs.length (scells zs))
    (hlen : ys.length + zs.length ≤ 1048576) (hbase : base ≤ w.heap.size)
    (h : ∀ v' w', w'.ownsRow base 33 3 v' (ys ++ zs).length (scells (ys ++ zs)) → w.grownBy w' v.ownBlock → wpList Try.prog ops Q rest (a.put o.dst v') w') : wpList Try.prog ops Q (o :: rest) a w := by
  refine wpList_plain hgd fun K hK' => ?_
  obtain ⟨v', w', hrun, r1, r2⟩ := run_app_rows w o.type base base2 v v2 ys zs hown hown2 hlen hbase
  unfold Oper.wp
  simp [execOp, ho, resolve, invoke, builtin, hs, hx, hrun, Result.andThen]
  exact hK' _ _ (h v' w' r1 r2)
set_option maxRecDepth 100000 in
set_option maxHeartbeats 6400000 in
theorem spOrderWithSwaps_c (xs : List Mv) (v : Value) (w : World) (hx : RdM w v xs) (hz : ∀ m ∈ xs, m.1.size ≤ 9223372036854775807 ∧ m.2.size ≤ 9223372036854775807) (hn' : xs.length ≤ 1048576) :
    Calls Try.prog 32 #[v] w fun e w' => ∃ v', e = .returned (.tuple #[v', .bool (mvalid xs)]) ∧ w'.ownsRow w.heap.size 33 3 v' (owS xs).length (scells (owS xs)) ∧ Below w.heap.size w w' := by
  have HX := Lib.hid (fun W (hW : Below w.heap.size w W) => hx.below hW)
  have hE0 := World.ownsRow_lit (e := 33) (base := w.heap.size) (size := 3) w #[] 0 (Nat.le_refl _) (Nat.zero_le _) rfl
  have hb0 : Below w.heap.size w (w.alloc (.cells #[] 33)) := (Below.refl _ _).alloc (Nat.le_refl _) _
  have HV := Lib.hid (spMovesValid_c xs v _ (hx.below hb0) hz hn')
  rcases Bool.eq_false_or_eq_true (mvalid xs) with hm1 | hm1
  · have h1 : MV xs := by simpa [mvalid] using hm1
    have hW := busyF_Wt h1
    have hl9 := busyF_len xs 9
    have HM1 := Lib.hid hm1
    have HOW := Lib.hid (owS_yes hm1)
    have HTK : Hid (takM xs = takF 9 (busyF xs 9)) := rfl
    have HRM : Hid (remF 9 (busyF xs 9) = remM xs) := rfl
    have HRL := Lib.hid (fun v W (h : RdM W v (remM xs)) => l7Rings_c (remM xs) (remM_MV h1) v W h)
    have HRWl := Lib.hid (rwM_le h1)
    have HNX := Lib.hid (fun ws wv A hx hl hn => l5Next_c ws wv A hx (by omega : ws.length ≤ 1048575) hn)
    have HB := Lib.hid (fun W (hW : RdM W v xs) => l1Busy_c xs v W hW)
    rw [hm1] at HV
    clear hx hz h1 hm1
    go_enter Try.func32, Try.ntmps32
    go_wp2_with fail
    refine HV.out.mono ?_
    rintro e w1 ⟨rfl, hb1⟩
    have hE1 := own_keep hE0 hb1
    have hB1 := hb0.trans (hb1.mono hb0.size)
    have hs1 := hB1.size
    have hx1 := HX.out _ hB1
    clear hE0 hb0 HV hb1
    go_wp2_with (go_at_call 53; refine (HB.out _ hx1).mono ?_; rintro e w2 ⟨v2, rfl, ho2, hb2⟩; refine held ?_)
    unfold Held
    have hB2 := hB1.trans (hb2.mono hs1)
    have hR0 : OwSs w 31 33 (busyF xs 9) 9 (.slice (some ⟨w.heap.size, 0, none⟩) 0 0) v2 w2 :=
      ⟨[], busyF xs 9, rfl, rfl, hW, hl9, hl9, by simp, own_more ho2 hs1, own_keep hE1 hb2, hB2⟩
    clear hE1 hB1 HB ho2 hb2 hB2 hW hx1
    generalize hbe : busyF xs 9 = bs at *
    clear hbe
    go_wp2
    go_loopw [4, 5, 6] (fun ov wv _ wr => ∃ k, OwSs w 31 33 bs k ov wv wr) (fun _ wv _ _ => lenV wv)
    case atStart => exact ⟨9, hR0⟩
    case round =>
      clear hR0
      obtain ⟨k, pre, ws, hpr, hrem, hwt, hk, h9, hp9, ho, hov, hb⟩ := hrel
      have hbs := hb.size
      have hrd : RdM wr u5 ws := Rd.of_own ho
      have hnx := HNX.out ws _ wr hrd (by omega) hwt.ne
      rcases aheadZ_lt ws with hz2 | ⟨i, hi, hz2, ha⟩
      · have ha := aheadI_of_neg hz2
        rw [hz2] at hnx
        rw [takF_none ha, List.append_nil] at hpr
        rw [remF_none ha, HRM.out] at hrem
        have HR2 := Lib.hid (fun v W (h : RdM W v ws) => HRL.out v W (by rw [← hrem]; exact h))
        have hpl : (stL pre).length ≤ 9 := by unfold stL; rw [List.length_map]; exact hp9
        have HFI : Hid (owS xs = stL pre ++ swL (rwM xs)) := by show _ = _; rw [HOW.out, HTK.out, hpr]
        have hrl : (swL (rwM xs)).length ≤ 9 := by rw [swL_len]; exact HRWl.out
        have HRW : Hid (swL ((ringsF (nxT (tabOf (remM xs))) 9).flatMap prs) = swL (rwM xs)) := rfl
        rw [HRW.out] at HR2
        clear hz2 hpr hrem HRW
        generalize swL (rwM xs) = zs at *
        generalize stL pre = ys at *
        go_wp2_with (go_at_call 69; refine hnx.mono ?_; rintro e w1' ⟨rfl, hb1⟩; refine held ?_)
        unfold Held
        have hB1 := hb.trans (hb1.mono hbs)
        have hs1' := hB1.size
        have hov1 := own_keep hov hb1
        have hrd1 := hrd.below hb1
        clear hb1 ho hov hrd hb hnx
        go_wp2_with (go_at_call 48; refine (HR2.out _ _ hrd1).mono ?_; rintro e w2' ⟨v2', rfl, ho2', hb2'⟩; refine held ?_)
        unfold Held
        have hov2 := own_keep hov1 hb2'
        have hB2 := hB1.trans (hb2'.mono hs1')
        have hs2 := hB2.size
        clear hb2' hov1 hrd1 hB1
        go_wp2_with (at_builtin; refine held ?_)
        unfold Held
        refine list_rows rfl (.tmp 18) (.tmp 20) rfl w.heap.size w1'.heap.size u4 v2' ys zs (by rfl) (by rfl) hov2 ho2' (by omega) hs2 ?_
        intro v3 w3 hown3 hg3
        have hB3 := hB2.trans (below_grown hg3 (B := w.heap.size) hs2 (own_block_ge hov2))
        clear hov2 ho2' hB2 hg3
        go_wp2
        go_ret2
        exact ⟨_, by rw [HM1.out]; rfl, by rw [HFI.out]; exact hown3, hB3⟩
      · obtain ⟨A, cap, rfl, hn1, hc1, hcell⟩ := hrd.open
        obtain ⟨k, rfl⟩ : ∃ k', k = k' + 1 := ⟨k - 1, by omega⟩
        have htk := takF_some (n := k) hi ha
        have hre := remF_some (n := k) ha
        obtain ⟨b, off, rfl, hbl, d1, d2⟩ := hcell i hi
        have HNEW : Hid ((pre ++ [ws[i]]) ++ takF k (ws.eraseIdx i) = takF 9 bs ∧ remF k (ws.eraseIdx i) = remF 9 bs ∧ Wt (ws.eraseIdx i) ∧ (ws.eraseIdx i).length ≤ k ∧ (ws.eraseIdx i).length ≤ 9 ∧ (pre ++ [ws[i]]).length ≤ 9 ∧ (ws.eraseIdx i).length < ws.length) := by
          have hle : (ws.eraseIdx i).length = ws.length - 1 := List.length_eraseIdx_of_lt hi
          have hpp : (pre ++ [ws[i]]) ++ takF k (ws.eraseIdx i) = takF 9 bs := by rw [← hpr, htk]; simp
          refine ⟨hpp, by rw [← hrem, hre], hwt.erase i, by omega, by omega, ?_, by omega⟩
          have h1 := congrArg List.length hpp
          have h2 := takF_len 9 bs
          rw [List.length_append] at h1
          omega
        have hpl : (stL pre).length ≤ 9 := by unfold stL; rw [List.length_map]; exact hp9
        have HST : Hid (∀ m : Mv, stL (pre ++ [m]) = stL pre ++ [((0, m.1, m.2) : St)]) := by
          show ∀ m, _
          intro m; unfold stL; rw [List.map_append]; rfl
        have i0 : (0 : Int) ≤ (i : Int) := by omega
        have i1 : (i : Int) < (ws.length : Int) := by omega
        have i1n : ¬ (i : Int) < 0 := by omega
        rw [hz2] at hnx
        clear hz2 htk hre hcell hpr hrem ha
        generalize ws[i] = m at *
        rw [show m = (m.1, m.2) from rfl] at HNEW
        generalize m.1 = x1 at *
        generalize m.2 = x2 at *
        go_wp2_with (go_at_call 69; refine hnx.mono ?_; rintro e w1' ⟨rfl, hb1⟩; refine held ?_)
        unfold Held
        have hB1 := hb.trans (hb1.mono hbs)
        have ho1 := own_keep ho hb1
        have hov1 := own_keep hov hb1
        have e1 := (hb1.cell (p := ⟨b, off + i * 2, none⟩) hbl).trans d1
        have e2 := (hb1.cell (p := ⟨b, off + i * 2 + 1, none⟩) hbl).trans d2
        have hs1' := hB1.size
        have hnw := three_new w1' (.int .i64 0) (.string x1) (.string x2) 33
        clear hb1 ho hov hrd hb d1 d2 hnx
        go_wp2_with (at_builtin; refine held ?_)
        unfold Held
        refine list_st rfl (.tmp 22) (.tmp 28) rfl w.heap.size _ (stL pre) (0, x1, x2) ⟨w1'.heap.size, 0, none⟩ 1 (by rfl) (by rfl) (own_keep hov1 ((Below.refl _ _).alloc (Nat.le_refl _) _)) hnw (by omega) (by simp; omega) ?_
        intro v3 wx hov3 hg3
        rw [← HST.out (x1, x2)] at hov3
        have hbx : Below w.heap.size w (w1'.alloc (.cells #[.int .i64 0, .string x1, .string x2] 33)) := hB1.alloc hs1' _
        have hB3 := hbx.trans (below_grown hg3 (by simp; omega) (own_block_ge hov1))
        have hs3 := hB3.size
        have ho3 := own_grown (own_keep ho1 ((Below.refl _ _).alloc (Nat.le_refl _) (.cells #[.int .i64 0, .string x1, .string x2] 33))) hg3 (rows_neS ho1 hov1 (by decide))
        have hrdx : RdM wx (.slice (some ⟨b, off, none⟩) ws.length cap) ws := Rd.of_own ho3
        have hblx : b < wx.heap.size := (own_blk ho3 rfl).1
        have hsrc := Rd.cellsFrom hrdx
        clear hg3 hbx hB1 hov1 ho1 e1 e2 hnw
        have hcp : ∀ (W : World), Below wx.heap.size wx W → ∀ (j : Nat) (u : Value), (mcells (ws.take i))[j]? = some u → W.cell? ((⟨b, off, none⟩ : Addr).add j) = some u := fun W hW j u h => by
          rw [add_off]
          refine (hW.cell hblx).trans (hsrc j u ?_)
          rw [← mcells_take, List.getElem?_take] at h
          split at h
          · exact h
          · cases h
        have hcq : ∀ (W : World), Below wx.heap.size wx W → ∀ (j : Nat) (u : Value), (mcells (ws.drop (i + 1)))[j]? = some u → W.cell? ((⟨b, off + (i + 1) * 2, none⟩ : Addr).add j) = some u := fun W hW j u h => by
          rw [add_off, Nat.add_assoc]
          refine (hW.cell hblx).trans (hsrc _ u ?_)
          rw [← mcells_drop, List.getElem?_drop] at h
          exact h
        have hltk : (ws.take i).length = i := by rw [List.length_take]; omega
        have hldk : (ws.drop (i + 1)).length = ws.length - (i + 1) := by rw [List.length_drop]
        have hsum : (ws.take i).length + (ws.drop (i + 1)).length ≤ 1048576 := by omega
        have i2 : (i : Int) + 1 ≤ (ws.length : Int) := by omega
        have i3 : (i : Int) ≤ (ws.length : Int) := by omega
        have HER : Hid (ws.take i ++ ws.drop (i + 1) = ws.eraseIdx i) := by show _ = _; rw [List.eraseIdx_eq_take_drop_succ]
        have HCP := Lib.hid hcp
        have HCQ := Lib.hid hcq
        have n1 : i ≤ cap := by omega
        have n2 : i + 1 ≤ ws.length := by omega
        have n3 : i + 1 ≤ cap := by omega
        have n4 : IntKind.i64.wrap ((i : Int) + 1) = (i : Int) + 1 := IntWalk.i64_in _ ⟨by omega, by omega⟩
        have n5 : ((i : Int) + 1).toNat = i + 1 := by omega
        have n6 : (0 : Int) ≤ (i : Int) + 1 := by omega
        clear hcp hcq hsrc
        generalize ws.take i = p1 at *
        generalize ws.drop (i + 1) = p2 at *
        by_cases hcap : cap = i + 1
        · subst hcap
          have hp20 : p2.length = 0 := by omega
          have n7 : (i : Int) ≤ (i : Int) + 1 := by omega
          have HCZ : Hid (∀ (W : World) (j : Nat) (u : Value), (mcells p2)[j]? = some u → W.cell? ((⟨b, off, none⟩ : Addr).add j) = some u) := fun W j u h => by
            have : p2 = [] := List.length_eq_zero_iff.1 (by omega)
            rw [this] at h; simp [mcells] at h
          go_wp2
          go_region_law (first
                    | (refine step_appM rfl (.tmp 30) (.tmp 33) rfl wx.heap.size (.slice (some ⟨wx.heap.size, 0, none⟩) 0 0) [] p1 ⟨b, off, none⟩ (i + 1) (by rfl) (by rw [hltk]; rfl) (own_lit1 _ _ _ _ rfl (Nat.le_refl _)) (HCP.out _ (by (repeat' (first | (with_reducible exact Below.refl _ _) | (with_reducible assumption) | (with_reducible refine Below.alloc ?_ ?_ _) | (with_reducible refine Below.drew ?_) | (with_reducible refine Below.setCell ?_ ?_ _) | (with_reducible exact Nat.le_refl _) | omega | ((repeat (first | rewrite [World.size_alloc] | rewrite [World.size_setCell] | rewrite [World.size_drew])); omega) | (simp; omega) | (simp; done))))) (by simp; omega) (by simp) ?_; intro vq wq ho1 hg1; have hb1' := Below.trans (show Below wx.heap.size wx ((wx.alloc (.cells #[] 31)).drew) by (repeat' (first | (with_reducible exact Below.refl _ _) | (with_reducible assumption) | (with_reducible refine Below.alloc ?_ ?_ _) | (with_reducible refine Below.drew ?_) | (with_reducible refine Below.setCell ?_ ?_ _) | (with_reducible exact Nat.le_refl _) | omega | ((repeat (first | rewrite [World.size_alloc] | rewrite [World.size_setCell] | rewrite [World.size_drew])); omega) | (simp; omega) | (simp; done)))) (below_grown hg1 (by simp) (fun g e => by have e' : some wx.heap.size = some g := e; cases e'; omega)))
                    | (refine step_appM rfl (.tmp 34) (.tmp 38) rfl wx.heap.size _ _ p2 ⟨b, off, none⟩ 0 (by rfl) (by rw [hp20]; rfl) ho1.out (HCZ.out _) (by simpa using hsum) (by have := hg1.size; simp at this; omega) ?_; intro v2 w2 ho2 hg2))
          have hz1 := hg1.size
          have hz2 := hg2.size
          simp only [World.size_alloc, World.size_drew] at hz1
          have hge1 := own_block_ge ho1.out
          have hb2 : Below wx.heap.size wx w2 := hb1'.trans (below_grown hg2 (by omega) (fun g e => by have := hge1 g e; omega))
          have ho2' : w2.ownsRow wx.heap.size 31 2 v2 (ws.eraseIdx i).length (mcells (ws.eraseIdx i)) := by
            have := ho2.out
            rw [List.nil_append, HER.out] at this
            exact this
          have HO2 := Lib.hid ho2'
          clear hg1 hg2 ho1 ho2 hb1' ho2' hge1 hz1 hz2 HCP HCQ HER
          
          have hov4 := own_keep hov3 hb2
          have hB4 := hB3.trans (hb2.mono hs3)
          have hlv2 : lenV v2 = (ws.eraseIdx i).length := by obtain ⟨A, c, e, _⟩ := Rd.of_own HO2.out; rw [e]; rfl
          have hR : OwSs w 31 33 bs k v3 v2 w2 := ⟨_, ws.eraseIdx i, HNEW.out.1, HNEW.out.2.1, HNEW.out.2.2.1, HNEW.out.2.2.2.1, HNEW.out.2.2.2.2.1, HNEW.out.2.2.2.2.2.1, own_more HO2.out hs3, hov4, hB4⟩
          have hlt5 := HNEW.out.2.2.2.2.2.2
          clear hov4 hB4 hov3 hrdx ho3 hB3 hb2
          go_simp
          try go_wp2
          go_roundw
          case rel => exact ⟨k, hR⟩
          case measure => rw [hlv2]; exact hlt5
        · go_wp2
          go_region_law (first
                    | (refine step_appM rfl (.tmp 30) (.tmp 33) rfl wx.heap.size (.slice (some ⟨wx.heap.size, 0, none⟩) 0 0) [] p1 ⟨b, off, none⟩ cap (by rfl) (by rw [hltk]; rfl) (own_lit1 _ _ _ _ rfl (Nat.le_refl _)) (HCP.out _ (by (repeat' (first | (with_reducible exact Below.refl _ _) | (with_reducible assumption) | (with_reducible refine Below.alloc ?_ ?_ _) | (with_reducible refine Below.drew ?_) | (with_reducible refine Below.setCell ?_ ?_ _) | (with_reducible exact Nat.le_refl _) | omega | ((repeat (first | rewrite [World.size_alloc] | rewrite [World.size_setCell] | rewrite [World.size_drew])); omega) | (simp; omega) | (simp; done))))) (by simp; omega) (by simp) ?_; intro vq wq ho1 hg1; have hb1' := Below.trans (show Below wx.heap.size wx ((wx.alloc (.cells #[] 31)).drew) by (repeat' (first | (with_reducible exact Below.refl _ _) | (with_reducible assumption) | (with_reducible refine Below.alloc ?_ ?_ _) | (with_reducible refine Below.drew ?_) | (with_reducible refine Below.setCell ?_ ?_ _) | (with_reducible exact Nat.le_refl _) | omega | ((repeat (first | rewrite [World.size_alloc] | rewrite [World.size_setCell] | rewrite [World.size_drew])); omega) | (simp; omega) | (simp; done)))) (below_grown hg1 (by simp) (fun g e => by have e' : some wx.heap.size = some g := e; cases e'; omega)))
                    | (refine step_appM rfl (.tmp 34) (.tmp 38) rfl wx.heap.size _ _ p2 ⟨b, off + (i + 1) * 2, none⟩ (cap - (i + 1)) (by rfl) (by rw [hldk]; rfl) ho1.out (HCQ.out _ hb1') (by simpa using hsum) (by have := hg1.size; simp at this; omega) ?_; intro v2 w2 ho2 hg2))
          have hz1 := hg1.size
          have hz2 := hg2.size
          simp only [World.size_alloc, World.size_drew] at hz1
          have hge1 := own_block_ge ho1.out
          have hb2 : Below wx.heap.size wx w2 := hb1'.trans (below_grown hg2 (by omega) (fun g e => by have := hge1 g e; omega))
          have ho2' : w2.ownsRow wx.heap.size 31 2 v2 (ws.eraseIdx i).length (mcells (ws.eraseIdx i)) := by
            have := ho2.out
            rw [List.nil_append, HER.out] at this
            exact this
          have HO2 := Lib.hid ho2'
          clear hg1 hg2 ho1 ho2 hb1' ho2' hge1 hz1 hz2 HCP HCQ HER
          
          have hov4 := own_keep hov3 hb2
          have hB4 := hB3.trans (hb2.mono hs3)
          have hlv2 : lenV v2 = (ws.eraseIdx i).length := by obtain ⟨A, c, e, _⟩ := Rd.of_own HO2.out; rw [e]; rfl
          have hR : OwSs w 31 33 bs k v3 v2 w2 := ⟨_, ws.eraseIdx i, HNEW.out.1, HNEW.out.2.1, HNEW.out.2.2.1, HNEW.out.2.2.2.1, HNEW.out.2.2.2.2.1, HNEW.out.2.2.2.2.2.1, own_more HO2.out hs3, hov4, hB4⟩
          have hlt5 := HNEW.out.2.2.2.2.2.2
          clear hov4 hB4 hov3 hrdx ho3 hB3 hb2
          go_simp
          try go_wp2
          go_roundw
          case rel => exact ⟨k, hR⟩
          case measure => rw [hlv2]; exact hlt5
  · have HNO := Lib.hid (owS_no hm1)
    have HM1 := Lib.hid hm1
    rw [hm1] at HV
    clear hx hz hm1
    go_enter Try.func32, Try.ntmps32
    go_wp2_with fail
    refine HV.out.mono ?_
    rintro e w1 ⟨rfl, hb1⟩
    have hE1 := own_keep hE0 hb1
    have hB1 := hb0.trans (hb1.mono hb0.size)
    go_wp2
    go_ret2
    exact ⟨_, by rw [HM1.out]; rfl, by rw [HNO.out]; exact hE1, hB1⟩
end Go.Proofs.Yteadhnpmmpninaa
namespace Go.PM
open Go.RowKit
def ssize : List St → Nat
  | [] => 0
  | x :: xs => x.2.1.size + x.2.2.size + 1 + ssize xs
theorem ssize_len (xs : List St) : xs.length ≤ ssize xs := by
  induction xs with
  | nil => simp [ssize]
  | cons x xs ih => simp only [ssize, List.length_cons]; omega
theorem ssize_append (xs ys : List St) : ssize (xs ++ ys) = ssize xs + ssize ys := by
  induction xs with
  | nil => simp [ssize]
  | cons x xs ih => simp only [List.cons_append, ssize, ih]; omega
theorem ssize_take_succ (xs : List St) (k : Nat) (hk : k < xs.length) : ssize (xs.take (k+1)) = ssize (xs.take k) + xs[k].2.1.size + xs[k].2.2.size + 1 := by
  rw [take_snoc xs k hk, ssize_append]; simp only [ssize]; omega
def zSt : List Value := [.int .i64 0, .string ⟨#[]⟩, .string ⟨#[]⟩]
def shalf (xs : List St) (k : Nat) : List Value := scells (xs.take k) ++ (List.replicate (xs.length - k) zSt).flatten
theorem shalf_at (xs : List St) (k : Nat) (hk : k < xs.length) : (shalf xs k)[k*3]? = some (Value.int .i64 0) ∧ (shalf xs k)[k*3+1]? = some (Value.string ⟨#[]⟩) ∧ (shalf xs k)[k*3+2]? = some (Value.string ⟨#[]⟩) := by
  have hl : (scells (xs.take k)).length = k * 3 := by rw [scells_length, List.length_take]; omega
  obtain ⟨d, hd⟩ : ∃ d, xs.length - k = d + 1 := ⟨xs.length - k - 1, by omega⟩
  unfold shalf
  rw [hd, List.replicate_succ, List.flatten_cons]
  refine ⟨?_, ?_, ?_⟩
  · rw [List.getElem?_append_right (by omega), hl]; simp [zSt]
  · rw [List.getElem?_append_right (by omega), hl, show k * 3 + 1 - k * 3 = 1 by omega]; simp [zSt]
  · rw [List.getElem?_append_right (by omega), hl, show k * 3 + 2 - k * 3 = 2 by omega]; simp [zSt]
theorem shalf_set (xs : List St) (k : Nat) (hk : k < xs.length) : (((shalf xs k).set (k*3) (.int .i64 xs[k].1)).set (k*3+1) (.string xs[k].2.1)).set (k*3+2) (.string xs[k].2.2) = shalf xs (k+1) := by
  have hl : (scells (xs.take k)).length = k * 3 := by rw [scells_length, List.length_take]; omega
  obtain ⟨d, hd⟩ : ∃ d, xs.length - k = d + 1 := ⟨xs.length - k - 1, by omega⟩
  unfold shalf
  rw [hd, List.replicate_succ, List.flatten_cons, show xs.length - (k+1) = d by omega, take_snoc xs k hk, scells_append]
  rw [List.set_append_right _ _ (by omega), List.set_append_right _ _ (by omega), List.set_append_right _ _ (by omega), hl]
  rw [show k * 3 - k * 3 = 0 by omega, show k * 3 + 1 - k * 3 = 1 by omega, show k * 3 + 2 - k * 3 = 2 by omega]
  simp [scells, zSt]
theorem shalf_zero (xs : List St) : shalf xs 0 = (List.replicate xs.length zSt).flatten := by simp [shalf, scells]
theorem shalf_full (xs : List St) : shalf xs xs.length = scells xs := by simp [shalf]
def stEq (k : Int) (a b : ByteArray) (k' : Int) (a' b' : ByteArray) : Bool := decide (k = k' ∧ a = a' ∧ b = b')
end Go.PM
namespace Go.Proofs.Yteadhnpmmpninaa
open Go.RowKit Go.PM

set_option maxHeartbeats 400000 in
theorem szStep_c (k : Int) (a b : ByteArray) (left : Int) (w : World) (h0 : 0 ≤ left) (h1 : left ≤ 1048576) (ha : a.size ≤ 9223372036854775807) (hb : b.size ≤ 9223372036854775807) :
    Calls Try.prog 75 #[.agg #[.int .i64 k, .string a, .string b], .int .i64 left] w fun e w' => (∃ r : Int, e = .returned (.int .i64 r) ∧ (0 ≤ r → r + a.size + b.size = left) ∧ r ≤ left) ∧ Below w.heap.size w w' := by
  go_enter Try.func75, Try.ntmps75
  go_wp2_with fail
  refine (szMove_c a b left _ h0 h1 ha hb).mono ?_
  rintro e w1 ⟨⟨r, rfl, hr, hq⟩, hb1⟩
  have HR := Lib.hid hr
  clear hr
  have hb2 : Below w.heap.size w w1 := ((Below.refl _ _).alloc (Nat.le_refl _) _).trans (hb1.mono (by simp))
  by_cases hn : r < 0
  · go_wp2
    go_ret
    exact ⟨⟨-1, rfl, by omega, by omega⟩, hb2⟩
  · go_wp2
    go_ret
    exact ⟨⟨r, rfl, HR.out, hq⟩, hb2⟩
set_option maxHeartbeats 400000 in
theorem szStepS_c (xs : List St) (v : Value) (left : Int) (w : World) (h0 : 0 ≤ left) (h1 : left ≤ 1048576) (hx : RdS w v xs) (hz : ∀ m ∈ xs, m.2.1.size ≤ 9223372036854775807 ∧ m.2.2.size ≤ 9223372036854775807) :
    Calls Try.prog 36 #[v, .int .i64 left] w fun e w' => (∃ r : Int, e = .returned (.int .i64 r) ∧ (0 ≤ r → r + ssize xs = left) ∧ r ≤ left) ∧ Below w.heap.size w w' := by
  obtain ⟨A, cap, rfl, hn, hc, hcell⟩ := hx.open
  by_cases c1 : left - (xs.length : Int) < 0
  · go_enter Try.func36, Try.ntmps36
    go_wp2
    go_ret
    exact ⟨⟨-1, rfl, by omega, by omega⟩, Below.refl _ _⟩
  go_enter Try.func36, Try.ntmps36
  go_wp2
  go_loopw [1, 5] (fun l i wr => ∃ (k : Nat) (r : Int), k ≤ xs.length ∧ i = .int .i64 k ∧ l = .int .i64 r ∧ 0 ≤ r ∧ r ≤ 1048576 ∧ r ≤ left ∧ Hid (r + ssize (xs.take k) + (xs.length - k) = left) ∧ Below w.heap.size w wr) (fun _ i _ => xs.length - (intOf i).toNat)
  case atStart => exact ⟨0, _, by omega, rfl, rfl, by omega, by omega, by omega, by show _ = _; simp [ssize], Below.refl _ _⟩
  case round =>
    obtain ⟨k, r, hk, rfl, rfl, hr0, hr1, hr2, hr3, hb⟩ := hrel
    by_cases hlt : k < xs.length
    · obtain ⟨b, off, rfl, hbl, hc1, hc2, hc3⟩ := hcell k hlt
      have hd1 := (hb.cell (p := ⟨b, off + k * 3, none⟩) hbl).trans hc1
      have hd2 := (hb.cell (p := ⟨b, off + k * 3 + 1, none⟩) hbl).trans hc2
      have hd3 := (hb.cell (p := ⟨b, off + k * 3 + 2, none⟩) hbl).trans hc3
      have hzz := hz xs[k] (List.getElem_mem hlt)
      clear hc1 hc2 hc3
      have hts := ssize_take_succ xs k hlt
      have HR : Hid (∀ r' : Int, r' + (xs[k].2.1.size : Int) + xs[k].2.2.size = r → r' + ssize (xs.take (k+1)) + (xs.length - ((k + 1 : Nat) : Int)) = left) := by
        intro r' h'; have := hr3; unfold Hid at this; rw [hts]; push_cast; omega
      clear hts hcell
      go_wp2_with fail
      refine (szStep_c _ _ _ r _ hr0 hr1 hzz.1 hzz.2).mono ?_
      rintro e w' ⟨⟨r', rfl, hr4, hr5⟩, hb'⟩
      have hr6 := Lib.hid hr4; clear hr4
      by_cases hneg : r' < 0
      · go_wp2
        go_ret
        exact ⟨⟨-1, rfl, by omega, by omega⟩, hb.trans (hb'.mono hb.size)⟩
      · go_wp2
        go_roundw
        case rel => exact ⟨k + 1, r', by omega, by go_num, rfl, by omega, by omega, by omega, HR.out _ (hr6.out (by omega)), hb.trans (hb'.mono hb.size)⟩
        case measure => simp [intOf]; omega
    · have hk' : k = xs.length := by omega
      have hr3' := hr3.out
      rw [hk', List.take_of_length_le (Nat.le_refl _)] at hr3'
      have HR : Hid (r + (ssize xs : Int) = left) := by show _ = _; omega
      clear hr3' hk'
      go_wp2
      go_ret
      exact ⟨⟨r, rfl, fun _ => HR.out, hr2⟩, hb⟩
theorem toStep_c (k : Int) (a b : ByteArray) (w : World) :
    Calls Try.prog 79 #[.agg #[.int .i64 k, .string a, .string b]] w fun e w' => e = .returned (.agg #[.int .i64 k, .string a, .string b]) ∧ Below w.heap.size w w' := by
  have hA1 : At (((w.alloc (.cells #[.int .i64 k, .string a, .string b] 95)).alloc (.cells #[.int .i64 0, .string ⟨#[]⟩, .string ⟨#[]⟩] 33)).alloc (.cells #[.int .i64 k, .string ⟨#[]⟩, .string ⟨#[]⟩] 33)) (w.heap.size + 1) 33 #[.int .i64 0, .string ⟨#[]⟩, .string ⟨#[]⟩] := by
    have := At.new (w.alloc (.cells #[.int .i64 k, .string a, .string b] 95)) 33 #[.int .i64 0, .string ⟨#[]⟩, .string ⟨#[]⟩]
    rw [World.size_alloc] at this; exact this.alloc _
  have hA2 : At (((w.alloc (.cells #[.int .i64 k, .string a, .string b] 95)).alloc (.cells #[.int .i64 0, .string ⟨#[]⟩, .string ⟨#[]⟩] 33)).alloc (.cells #[.int .i64 k, .string ⟨#[]⟩, .string ⟨#[]⟩] 33)) (w.heap.size + 1 + 1) 33 #[.int .i64 k, .string ⟨#[]⟩, .string ⟨#[]⟩] := by
    have := At.new ((w.alloc (.cells #[.int .i64 k, .string a, .string b] 95)).alloc (.cells #[.int .i64 0, .string ⟨#[]⟩, .string ⟨#[]⟩] 33)) 33 #[.int .i64 k, .string ⟨#[]⟩, .string ⟨#[]⟩]
    rwa [World.size_alloc, World.size_alloc] at this
  go_enter Try.func79, Try.ntmps79
  go_wp2_with fail
  refine (toMove_c a b _).mono ?_
  rintro e w1 ⟨rfl, hb1⟩
  have k1 := hA1.keep hb1
  have k2 := hA2.keep hb1
  have hB : Below w.heap.size w w1 := Below.trans (by (repeat' (first | (with_reducible exact Below.refl _ _) | (with_reducible assumption) | (with_reducible refine Below.alloc ?_ ?_ _) | (with_reducible refine Below.drew ?_) | (with_reducible refine Below.setCell ?_ ?_ _) | (with_reducible exact Nat.le_refl _) | omega | ((repeat (first | rewrite [World.size_alloc] | rewrite [World.size_setCell] | rewrite [World.size_drew])); omega) | (simp; omega) | (simp; done)))) (hb1.mono (by simp; omega))
  have hl1 := k1.lt
  have hl2 := k2.lt
  clear hA1 hA2
  have q1 : w1.cell? ⟨w.heap.size + 1, 0, none⟩ = some (.int .i64 0) := k1.cell 0
  have q2 : w1.cell? ⟨w.heap.size + 1, 1, none⟩ = some (.string ⟨#[]⟩) := k1.cell 1
  have q3 : w1.cell? ⟨w.heap.size + 1, 2, none⟩ = some (.string ⟨#[]⟩) := k1.cell 2
  have q4 : w1.cell? ⟨w.heap.size + 1 + 1, 0, none⟩ = some (.int .i64 k) := k2.cell 0
  have q5 : w1.cell? ⟨w.heap.size + 1 + 1, 1, none⟩ = some (.string ⟨#[]⟩) := k2.cell 1
  have q6 : w1.cell? ⟨w.heap.size + 1 + 1, 2, none⟩ = some (.string ⟨#[]⟩) := k2.cell 2
  have z1 := k1.frozen 0
  have z2 := k1.frozen 1
  have z3 := k1.frozen 2
  have z4 := k2.frozen 0
  have z5 := k2.frozen 1
  have z6 := k2.frozen 2
  clear k1 k2
  go_wp2
  refine bodyPost_ret (v := .agg #[.int .i64 k, .string a, .string b]) (by simp [results, Try.results79, go_sem, q1, q2, q3]) rfl ⟨rfl, ?_⟩
  (repeat' (first | (with_reducible exact Below.refl _ _) | (with_reducible assumption) | (with_reducible refine Below.alloc ?_ ?_ _) | (with_reducible refine Below.drew ?_) | (with_reducible refine Below.setCell ?_ ?_ _) | (with_reducible exact Nat.le_refl _) | omega | ((repeat (first | rewrite [World.size_alloc] | rewrite [World.size_setCell] | rewrite [World.size_drew])); omega) | (simp; omega) | (simp; done)))
theorem infoSt : (Try.prog.info? 33).map (fun i => (i.zero, i.size, i.bytes)) = some (some (.agg #[.int .i64 0, .string ⟨#[]⟩, .string ⟨#[]⟩]), 3, 40) := by kernel_rfl

set_option maxHeartbeats 400000 in
theorem toStepS_c (xs : List St) (v : Value) (w : World) (hx : RdS w v xs) (hn' : xs.length ≤ 1048576) :
    Calls Try.prog 38 #[v] w fun e w' => ∃ v', e = .returned v' ∧ w'.ownsRow w.heap.size 33 3 v' xs.length (scells xs) ∧ Below w.heap.size w w' := by
  obtain ⟨A, cap, rfl, hn, hc, hcell⟩ := hx.open
  obtain ⟨i0, hi0, hz0, hz1, hz2⟩ := info_parts infoSt
  have hmk := fun W : World => run_make (P := Try.prog) W 25 33 i0 _ Try.underlying25 hi0 hz0 .i64 .i64 xs.length xs.length (by omega) (Int.le_refl _) (by rw [hz2]; omega) (by omega)
  simp only [Int.toNat_natCast, hz1] at hmk
  have hO := own_made w w.heap.size 33 #[Value.int .i64 0, Value.string ⟨#[]⟩, Value.string ⟨#[]⟩] 3 xs.length rfl (by omega) (by omega) (Nat.le_refl _)
  have hB : Below w.heap.size w (w.alloc (Obj.cells (madeCells #[Value.int .i64 0, Value.string ⟨#[]⟩, Value.string ⟨#[]⟩] (xs.length * 3)) 33)) := (Below.refl _ _).alloc (Nat.le_refl _) _
  go_enter Try.func38, Try.ntmps38
  go_wp2
  generalize (w.alloc (Obj.cells (madeCells #[Value.int .i64 0, Value.string ⟨#[]⟩, Value.string ⟨#[]⟩] (xs.length * 3)) 33)) = W1 at *
  go_loopw [4] (fun i wr => ∃ (k : Nat), k ≤ xs.length ∧ i = .int .i64 k ∧ wr.ownsRow w.heap.size 33 3 (.slice (some ⟨w.heap.size, 0, none⟩) xs.length xs.length) xs.length (shalf xs k) ∧ Below w.heap.size w wr) (fun i _ => xs.length - (intOf i).toNat)
  case atStart => exact ⟨0, by omega, rfl, by rw [shalf_zero]; exact hO, hB⟩
  case round =>
    obtain ⟨k, hk, rfl, ho, hb⟩ := hrel
    by_cases hlt : k < xs.length
    · obtain ⟨b, off, rfl, hbl, hc1, hc2, hc3⟩ := hcell k hlt
      have hd1 := (hb.cell (p := ⟨b, off + k * 3, none⟩) hbl).trans hc1
      have hd2 := (hb.cell (p := ⟨b, off + k * 3 + 1, none⟩) hbl).trans hc2
      have hd3 := (hb.cell (p := ⟨b, off + k * 3 + 2, none⟩) hbl).trans hc3
      clear hc1 hc2 hc3 hcell
      go_wp2_with fail
      refine (toStep_c _ _ _ _).mono ?_
      rintro e w' ⟨rfl, hb'⟩
      have ho' := own_keep ho hb'
      have hf1 := ho'.frozenAt (k * 3)
      have hf2 := ho'.frozenAt (k * 3 + 1)
      have hf3 := ho'.frozenAt (k * 3 + 2)
      have hg1 := (ho'.cellAt (k * 3) (by omega)).trans (shalf_at xs k hlt).1
      have hg2 := (ho'.cellAt (k * 3 + 1) (by omega)).trans (shalf_at xs k hlt).2.1
      have hg3 := (ho'.cellAt (k * 3 + 2) (by omega)).trans (shalf_at xs k hlt).2.2
      go_wp2
      go_roundw
      case rel =>
        refine ⟨k + 1, by omega, by go_num, ?_, ?_⟩
        · rw [← shalf_set xs k hlt]
          exact (((ho'.stored (k * 3) _).1.stored (k * 3 + 1) _).1.stored (k * 3 + 2) _).1
        · exact ((((hb.trans (hb'.mono hb.size)).setCell (Nat.le_refl _) _).setCell (Nat.le_refl _) _).setCell (Nat.le_refl _) _)
      case measure => simp [intOf]; omega
    · have hk' : k = xs.length := by omega
      have ho2 := ho
      rw [hk', shalf_full] at ho2
      go_wp2
      go_ret
      exact ⟨_, rfl, ho2, hb⟩
set_option maxHeartbeats 400000 in
theorem eqStep_c (k : Int) (a b : ByteArray) (k' : Int) (c d : ByteArray) (w : World) :
    Calls Try.prog 65 #[.agg #[.int .i64 k, .string a, .string b], .agg #[.int .i64 k', .string c, .string d]] w fun e w' => e = .returned (.bool (stEq k a b k' c d)) ∧ Below w.heap.size w w' := by
  have HS : Hid (stEq k a b k' c d = (decide (k = k') && mvEq a b c d)) := by show _ = _; simp [stEq, mvEq]
  by_cases hk : k = k'
  · have e1 : (k != k') = false := by simp [hk]
    have HK := Lib.hid hk
    clear hk
    rcases Bool.eq_false_or_eq_true (mvEq a b c d) with hm | hm
    all_goals
      go_enter Try.func65, Try.ntmps65
      go_wp2_with fail
      refine (eqMove_c a b c d _).mono ?_
      rintro e w1 ⟨rfl, hb1⟩
      rw [hm]
      have hB : Below w.heap.size w w1 := Below.trans (by (repeat' (first | (with_reducible exact Below.refl _ _) | (with_reducible assumption) | (with_reducible refine Below.alloc ?_ ?_ _) | (with_reducible refine Below.drew ?_) | (with_reducible refine Below.setCell ?_ ?_ _) | (with_reducible exact Nat.le_refl _) | omega | ((repeat (first | rewrite [World.size_alloc] | rewrite [World.size_setCell] | rewrite [World.size_drew])); omega) | (simp; omega) | (simp; done)))) (hb1.mono (by simp; omega))
      go_wp2
      go_ret
      exact ⟨by rw [HS.out, hm, decide_eq_true HK.out]; rfl, hB⟩
  · have e1 : (k != k') = true := by simp [hk]
    have HK := Lib.hid hk
    clear hk
    go_enter Try.func65, Try.ntmps65
    go_wp2
    go_ret
    exact ⟨by rw [HS.out, decide_eq_false HK.out]; rfl, by (repeat' (first | (with_reducible exact Below.refl _ _) | (with_reducible assumption) | (with_reducible refine Below.alloc ?_ ?_ _) | (with_reducible refine Below.drew ?_) | (with_reducible refine Below.setCell ?_ ?_ _) | (with_reducible exact Nat.le_refl _) | omega | ((repeat (first | rewrite [World.size_alloc] | rewrite [World.size_setCell] | rewrite [World.size_drew])); omega) | (simp; omega) | (simp; done)))⟩
end Go.Proofs.Yteadhnpmmpninaa
namespace Go.Proofs.Yteadhnpmmpninaa
open Go.RowKit Go.PM Go.ChangeShapes Go.WideShapes Go.Deep

theorem own : ownKnob Try.prog.godebug = none := by kernel_rfl
theorem laidOut : laidOutB Try.prog = true := by kernel_rfl

theorem exists_list {α : Type} (Q : Nat → α → Prop) : ∀ n, (∀ i, i < n → ∃ m, Q i m) → ∃ xs : List α, xs.length = n ∧ ∀ i (h : i < xs.length), Q i xs[i]
  | 0, _ => ⟨[], rfl, fun i h => absurd h (Nat.not_lt_zero _)⟩
  | n + 1, h => by
    obtain ⟨xs, hl, hx⟩ := exists_list Q n fun i hi => h i (by omega)
    obtain ⟨m, hm⟩ := h n (by omega)
    refine ⟨xs ++ [m], by simp [hl], fun i hi => ?_⟩
    by_cases h1 : i < xs.length
    · rw [List.getElem_append_left h1]; exact hx i h1
    · have h2 : i = xs.length := by simp at hi; omega
      subst h2
      rw [List.getElem_append_right (Nat.le_refl _)]
      simpa [hl] using hm

theorem rdM_mk {w : World} {ad : Addr} {cap : Nat} (xs : List Mv) (hc : xs.length ≤ cap) (hn : xs.length ≤ 9223372036854775807)
    (h : ∀ i (hi : i < xs.length), w.cell? (ad.add (i * 2)) = some (.string xs[i].1) ∧ w.cell? ((ad.add (i * 2)).add 1) = some (.string xs[i].2)) : RdM w (.slice (some ad) xs.length cap) xs := by
  refine ⟨some ad, cap, rfl, hc, hn, mcells_length xs, fun h0 => ?_⟩
  have h1 := (h 0 h0).1
  obtain ⟨b, off, spot⟩ := ad
  have hs : spot = none := by
    have := World.cell?_spot h1
    simpa [Addr.add] using this
  subst hs
  have hadd : ∀ o i, (Addr.mk b o none).add i = ⟨b, o + i, none⟩ := fun o i => by
    unfold Addr.add; split
    · next h => subst h; rfl
    · rfl
  refine ⟨b, off, rfl, ?_, fun j u hu => ?_⟩
  · rcases Nat.lt_or_ge b w.heap.size with hlt | hge
    · exact hlt
    · rw [hadd] at h1
      simp [World.cell?, Array.getElem?_eq_none hge] at h1
  · have hj : j < xs.length * 2 := by rw [← mcells_length]; exact (List.getElem?_eq_some_iff.1 hu).1
    have hk : j / 2 < xs.length := by omega
    have hm := mcells_at xs (j / 2) _ (List.getElem?_eq_getElem hk)
    have hh := h (j / 2) hk
    rw [hadd, hadd] at hh
    rcases Nat.mod_two_eq_zero_or_one j with h0 | h0
    · have e : j / 2 * 2 = j := by omega
      rw [e] at hm hh
      rw [hm.1] at hu
      rw [hh.1, hu]
    · have e : j / 2 * 2 + 1 = j := by omega
      rw [e] at hm
      rw [Nat.add_assoc, e] at hh
      rw [hm.2] at hu
      rw [hh.2, hu]

set_option maxRecDepth 100000 in
theorem open_moves {H : Type} {enc : TypeId × Value → H} {W : World} {base fuel : Nat} {spare : Nat → Bool} {held : Bool} {a : Option Addr} {n c : Nat} {x : DataW H × List MemPlace}
    (h : DataW.trod enc Try.prog W base spare held fuel 40 [.slice a n c] = some x) :
    ∃ xs : List Mv, RdM W (.slice a n c) xs ∧ ∀ m ∈ xs, m.1.size ≤ 9223372036854775807 ∧ m.2.size ≤ 9223372036854775807 := by
  rcases open_slice Try.underlying40 h with ⟨hcs, _⟩ | ⟨ad, len, cap, m, k, D, Pl, hcs, hb, hl, hm, hmm, hx, hi⟩
  · simp at hcs
    obtain ⟨rfl, rfl, rfl⟩ := hcs
    exact ⟨[], ⟨none, 0, rfl, by simp, by simp, rfl, by simp⟩, by simp⟩
  · simp at hcs
    obtain ⟨rfl, rfl, rfl⟩ := hcs
    have hC : Try.prog.cellsOf 80 = 2 := by kernel_rfl
    have hml : n ≤ m := by rw [hmm]; split <;> omega
    have hM : maxLen = 9223372036854775807 := rfl
    obtain ⟨xs, hxl, hxs⟩ := exists_list (fun i (m : Mv) => W.cell? (ad.add (i * 2)) = some (.string m.1) ∧ W.cell? ((ad.add (i * 2)).add 1) = some (.string m.2) ∧ m.1.size ≤ 9223372036854775807 ∧ m.2.size ≤ 9223372036854775807) n (fun i hin => by
      obtain ⟨cs', hc', ht⟩ := hi i (by omega)
      rw [hC] at hc'
      obtain ⟨y0, y1, k', _, hlen, h0, h1⟩ := trod_struct2 Try.underlying80 ht
      obtain ⟨_, hcl, hat⟩ := World.cells?_some hc'
      rw [hC] at hlen
      match cs', hlen with
      | [c0, c1], _ =>
        have e0 : Try.prog.cellsOf 9 = 1 := by kernel_rfl
        simp only [e0] at h0 h1
        simp at h0 h1
        obtain ⟨s, hs, _, hs1⟩ := DataW.trod_string Try.underlying9 h0
        obtain ⟨t, hta, _, ht1⟩ := DataW.trod_string Try.underlying9 h1
        simp at hs hta
        subst hs hta
        refine ⟨(s, t), ?_, ?_, hM ▸ hs1, hM ▸ ht1⟩
        · have := hat 0 (by omega)
          simpa [Addr.add] using this
        · have := hat 1 (by omega)
          simpa using this)
    subst hxl
    refine ⟨xs, rdM_mk xs hl (by omega) fun i hi => ⟨(hxs i hi).1, (hxs i hi).2.1⟩, fun m hm => ?_⟩
    obtain ⟨i, hi, rfl⟩ := List.getElem_of_mem hm
    exact (hxs i hi).2.2
end Go.Proofs.Yteadhnpmmpninaa
namespace Go.PM
open Go.RowKit
/-- the cells behind n marked steps, the first mark being number k -/
def smarks : Nat → Nat → List St
  | 0, _ => []
  | n + 1, k => ((k : Int), mT (k + 1), mT (k + 2)) :: smarks n (k + 3)
theorem smarks_length (n k : Nat) : (smarks n k).length = n := by
  induction n generalizing k with
  | zero => rfl
  | succ n ih => simp [smarks, ih]
theorem smarks_at (n k i : Nat) (h : i < (smarks n k).length) : (smarks n k)[i] = (((k + 3 * i : Nat) : Int), mT (k + 3 * i + 1), mT (k + 3 * i + 2)) := by
  induction n generalizing k i with
  | zero => simp [smarks] at h
  | succ n ih =>
    cases i with
    | zero => rfl
    | succ i =>
      simp only [smarks, List.getElem_cons_succ]
      rw [ih, show k + 3 + 3 * i = k + 3 * (i + 1) by omega]
def smix (xs : List St) (i k : Nat) : List St := smarks i k ++ xs.drop i
theorem smarks_snoc (i k : Nat) : smarks (i + 1) k = smarks i k ++ [(((k + 3 * i : Nat) : Int), mT (k + 3 * i + 1), mT (k + 3 * i + 2))] := by
  induction i generalizing k with
  | zero => rfl
  | succ i ih =>
    rw [smarks, ih (k + 3)]
    simp only [smarks, List.cons_append]
    rw [show k + 3 + 3 * i = k + 3 * (i + 1) by omega]
theorem smix_length (xs : List St) (i k : Nat) (h : i ≤ xs.length) : (smix xs i k).length = xs.length := by
  simp [smix, smarks_length]; omega
theorem smix_set (xs : List St) (i k : Nat) (h : i < xs.length) : (((scells (smix xs i k)).set (i * 3) (.int .i64 ((k + 3 * i : Nat) : Int))).set (i * 3 + 1) (.string (mT (k + 3 * i + 1)))).set (i * 3 + 2) (.string (mT (k + 3 * i + 2))) = scells (smix xs (i + 1) k) := by
  have hl : (scells (smarks i k)).length = i * 3 := by rw [scells_length, smarks_length]
  unfold smix
  rw [smarks_snoc, List.drop_eq_getElem_cons h, scells_append, scells_append, scells_append, scells_cons]
  rw [List.set_append_right _ _ (by omega), List.set_append_right _ _ (by omega), List.set_append_right _ _ (by omega), hl, Nat.sub_self, show i * 3 + 1 - i * 3 = 1 by omega, show i * 3 + 2 - i * 3 = 2 by omega]
  simp [scells]
end Go.PM
namespace Go.Proofs.Yteadhnpmmpninaa
open Go.RowKit Go.PM

set_option maxRecDepth 100000 in
set_option maxHeartbeats 400000 in
theorem eqStepS_c (xs ys : List St) (v u : Value) (w : World) (hx : RdS w v xs) (hy : RdS w u ys) :
    Calls Try.prog 27 #[v, u] w fun e w' => e = .returned (.bool (decide (xs = ys))) ∧ Below w.heap.size w w' := by
  obtain ⟨A, cap, rfl, hn, hc, hcell⟩ := hx.open
  obtain ⟨A', cap', rfl, hn', hc', hcell'⟩ := hy.open
  by_cases hl : xs.length = ys.length
  · have hl1 : ((xs.length : Int) == ys.length) = true := by simp [hl]
    have hl2 := Lib.hid hl
    clear hl
    go_enter Try.func27, Try.ntmps27
    go_wp2
    go_loopw [5] (fun i wr => ∃ (k : Nat), k ≤ xs.length ∧ i = .int .i64 k ∧ Hid (xs.take k = ys.take k) ∧ Below w.heap.size w wr) (fun i _ => xs.length - (intOf i).toNat)
    case atStart => exact ⟨0, by omega, rfl, by show _ = _; simp, Below.refl _ _⟩
    case round =>
      obtain ⟨k, hk, rfl, ht, hb⟩ := hrel
      by_cases hlt : k < xs.length
      · obtain ⟨b, off, rfl, hbl, hc1, hc2, hc3⟩ := hcell k hlt
        obtain ⟨b', off', rfl, hbl', hc1', hc2', hc3'⟩ := hcell' k (by have := hl2.out; omega)
        have hlt2 : k < ys.length := by have := hl2.out; omega
        have HE : Hid (∀ h : stEq xs[k].1 xs[k].2.1 xs[k].2.2 ys[k].1 ys[k].2.1 ys[k].2.2 = true, xs[k] = ys[k]) := fun h => by
          simp [stEq] at h
          exact Prod.ext h.1 (Prod.ext h.2.1 h.2.2)
        have HN : Hid (stEq xs[k].1 xs[k].2.1 xs[k].2.2 ys[k].1 ys[k].2.1 ys[k].2.2 = false → ¬ xs = ys) := fun h e => by
          subst e; simp [stEq] at h
        have HT : Hid (xs[k] = ys[k] → xs.take (k + 1) = ys.take (k + 1)) := fun h => by rw [take_snoc xs k hlt, take_snoc ys k hlt2, ht.out, h]
        have hx1 : ∀ x : Ext w.heap.size wr, x.val.cell? ⟨b, off + k * 3, none⟩ = some (.int .i64 xs[k].1) := fun x => ((x.property.cell (p := ⟨b, _, none⟩) hbl).trans (hb.cell (p := ⟨b, _, none⟩) hbl)).trans hc1
        have hx2 : ∀ x : Ext w.heap.size wr, x.val.cell? ⟨b, off + k * 3 + 1, none⟩ = some (.string xs[k].2.1) := fun x => ((x.property.cell (p := ⟨b, _, none⟩) hbl).trans (hb.cell (p := ⟨b, _, none⟩) hbl)).trans hc2
        have hx3 : ∀ x : Ext w.heap.size wr, x.val.cell? ⟨b, off + k * 3 + 2, none⟩ = some (.string xs[k].2.2) := fun x => ((x.property.cell (p := ⟨b, _, none⟩) hbl).trans (hb.cell (p := ⟨b, _, none⟩) hbl)).trans hc3
        have hx4 : ∀ x : Ext w.heap.size wr, x.val.cell? ⟨b', off' + k * 3, none⟩ = some (.int .i64 ys[k].1) := fun x => ((x.property.cell (p := ⟨b', _, none⟩) hbl').trans (hb.cell (p := ⟨b', _, none⟩) hbl')).trans hc1'
        have hx5 : ∀ x : Ext w.heap.size wr, x.val.cell? ⟨b', off' + k * 3 + 1, none⟩ = some (.string ys[k].2.1) := fun x => ((x.property.cell (p := ⟨b', _, none⟩) hbl').trans (hb.cell (p := ⟨b', _, none⟩) hbl')).trans hc2'
        have hx6 : ∀ x : Ext w.heap.size wr, x.val.cell? ⟨b', off' + k * 3 + 2, none⟩ = some (.string ys[k].2.2) := fun x => ((x.property.cell (p := ⟨b', _, none⟩) hbl').trans (hb.cell (p := ⟨b', _, none⟩) hbl')).trans hc3'
        clear hc1 hc2 hc3 hcell hc1' hc2' hc3' hcell'
        have i0 : (0 : Int) ≤ (k : Int) := by omega
        have i1 : (k : Int) < xs.length := by omega
        have i2 : (k : Int) < ys.length := by omega
        generalize xs[k].1 = x1 at *
        generalize xs[k].2.1 = x2 at *
        generalize xs[k].2.2 = x3 at *
        generalize ys[k].1 = y1 at *
        generalize ys[k].2.1 = y2 at *
        generalize ys[k].2.2 = y3 at *
        have hE := fun W => eqStep_c x1 x2 x3 y1 y2 y3 W
        generalize stEq x1 x2 x3 y1 y2 y3 = q at *
        go_wp2
        refine wp_region_ext w.heap.size (by kernel_rfl) (by kernel_rfl) ?_
        repeat (go_big_quiet_step ((go_at_call 65; exact ext_call _ hb.size (hE _))))
        refine wpQuiet_nil ?_
        intro w2 hw'
        obtain ⟨xw, hxw⟩ := hw'
        have hb2 := xw.property
        rw [← hxw] at hb2
        clear hxw xw
        clear hx1 hx2 hx3 hx4 hx5 hx6 hE
        rcases q with _ | _
        · have HD : Hid (decide (xs = ys) = false) := decide_eq_false (HN.out rfl)
          go_wp2
          go_ret
          exact ⟨by rw [HD.out]; rfl, hb.trans hb2⟩
        · have HD : Hid (xs.take (k + 1) = ys.take (k + 1)) := HT.out (HE.out rfl)
          go_wp2
          go_roundw
          case rel => exact ⟨k + 1, by omega, by go_num, HD, hb.trans hb2⟩
          case measure => simp [intOf]; omega
      · have hk' : k = xs.length := by omega
        have h2 := ht.out
        have h3 := hl2.out
        rw [hk', List.take_of_length_le (Nat.le_refl _), List.take_of_length_le (by omega)] at h2
        have H2 := Lib.hid h2
        clear h2 h3 hk'
        go_wp2
        go_ret
        exact ⟨by simp [H2.out], hb⟩
  · go_enter Try.func27, Try.ntmps27
    go_wp2
    · go_ret
      exact ⟨by simp; intro h; subst h; simp at hl, Below.refl _ _⟩
theorem rdS_mk {w : World} {ad : Addr} {cap : Nat} (xs : List St) (hc : xs.length ≤ cap) (hn : xs.length ≤ 9223372036854775807)
    (h : ∀ i (hi : i < xs.length), w.cell? (ad.add (i * 3)) = some (.int .i64 xs[i].1) ∧ w.cell? ((ad.add (i * 3)).add 1) = some (.string xs[i].2.1) ∧ w.cell? ((ad.add (i * 3)).add 2) = some (.string xs[i].2.2)) : RdS w (.slice (some ad) xs.length cap) xs := by
  refine ⟨some ad, cap, rfl, hc, hn, scells_length xs, fun h0 => ?_⟩
  have h1 := (h 0 h0).1
  obtain ⟨b, off, spot⟩ := ad
  have hs : spot = none := by
    have := World.cell?_spot h1
    simpa [Addr.add] using this
  subst hs
  have hadd : ∀ o i, (Addr.mk b o none).add i = ⟨b, o + i, none⟩ := fun o i => by
    unfold Addr.add; split
    · next h => subst h; rfl
    · rfl
  refine ⟨b, off, rfl, ?_, fun j u hu => ?_⟩
  · rcases Nat.lt_or_ge b w.heap.size with hlt | hge
    · exact hlt
    · rw [hadd] at h1
      simp [World.cell?, Array.getElem?_eq_none hge] at h1
  · have hj : j < xs.length * 3 := by rw [← scells_length]; exact (List.getElem?_eq_some_iff.1 hu).1
    have hk : j / 3 < xs.length := by omega
    have hm := scells_at xs (j / 3) _ (List.getElem?_eq_getElem hk)
    have hh := h (j / 3) hk
    rw [hadd, hadd, hadd] at hh
    have h3 : j % 3 = 0 ∨ j % 3 = 1 ∨ j % 3 = 2 := by omega
    rcases h3 with h0 | h0 | h0
    · have e : j / 3 * 3 = j := by omega
      rw [e] at hm hh
      rw [hm.1] at hu
      rw [hh.1, hu]
    · have e : j / 3 * 3 + 1 = j := by omega
      rw [e] at hm
      rw [Nat.add_assoc, e] at hh
      rw [hm.2.1] at hu
      rw [hh.2.1, hu]
    · have e : j / 3 * 3 + 2 = j := by omega
      rw [e] at hm
      have h4 := hh.2.2
      rw [Nat.add_assoc, e] at h4
      rw [hm.2.2] at hu
      rw [h4, hu]
open Go.ChangeShapes Go.WideShapes Go.Deep in
set_option maxRecDepth 100000 in
theorem open_steps {H : Type} {enc : TypeId × Value → H} {W : World} {base fuel : Nat} {spare : Nat → Bool} {held : Bool} {a : Option Addr} {n c : Nat} {x : DataW H × List MemPlace}
    (h : DataW.trod enc Try.prog W base spare held fuel 47 [.slice a n c] = some x) :
    ∃ xs : List St, RdS W (.slice a n c) xs ∧ ∀ m ∈ xs, m.2.1.size ≤ 9223372036854775807 ∧ m.2.2.size ≤ 9223372036854775807 := by
  rcases open_slice Try.underlying47 h with ⟨hcs, _⟩ | ⟨ad, len, cap, m, k, D, Pl, hcs, hb, hl, hm, hmm, hx, hi⟩
  · simp at hcs
    obtain ⟨rfl, rfl, rfl⟩ := hcs
    exact ⟨[], ⟨none, 0, rfl, by simp, by simp, rfl, by simp⟩, by simp⟩
  · simp at hcs
    obtain ⟨rfl, rfl, rfl⟩ := hcs
    have hC : Try.prog.cellsOf 95 = 3 := by kernel_rfl
    have hC2 : Try.prog.cellsOf 80 = 2 := by kernel_rfl
    have hml : n ≤ m := by rw [hmm]; split <;> omega
    have hM : maxLen = 9223372036854775807 := rfl
    obtain ⟨xs, hxl, hxs⟩ := exists_list (fun i (m : St) => W.cell? (ad.add (i * 3)) = some (.int .i64 m.1) ∧ W.cell? ((ad.add (i * 3)).add 1) = some (.string m.2.1) ∧ W.cell? ((ad.add (i * 3)).add 2) = some (.string m.2.2) ∧ m.2.1.size ≤ 9223372036854775807 ∧ m.2.2.size ≤ 9223372036854775807) n (fun i hin => by
      obtain ⟨cs', hc', ht⟩ := hi i (by omega)
      rw [hC] at hc'
      obtain ⟨y0, y1, k', _, hlen, h0, h1⟩ := trod_struct2 Try.underlying95 ht
      obtain ⟨_, hcl, hat⟩ := World.cells?_some hc'
      rw [hC] at hlen
      match cs', hlen with
      | [c0, c1, c2], _ =>
        have e0 : Try.prog.cellsOf 9 = 1 := by kernel_rfl
        have e1 : Try.prog.cellsOf 3 = 1 := by kernel_rfl
        simp only [e1, hC2] at h0 h1
        simp at h0 h1
        obtain ⟨z0, z1, k2, _, hlen2, g0, g1⟩ := trod_struct2 Try.underlying80 h1
        simp only [e0] at g0 g1
        simp at g0 g1
        obtain ⟨kk, hk, _, _⟩ := DataW.trod_int Try.underlying3 h0
        obtain ⟨s, hs, _, hs1⟩ := DataW.trod_string Try.underlying9 g0
        obtain ⟨t, hta, _, ht1⟩ := DataW.trod_string Try.underlying9 g1
        simp at hk hs hta
        subst hk hs hta
        refine ⟨(kk, s, t), ?_, ?_, ?_, hM ▸ hs1, hM ▸ ht1⟩
        · have := hat 0 (by omega)
          simpa [Addr.add] using this
        · have := hat 1 (by omega)
          simpa using this
        · have := hat 2 (by omega)
          simpa using this)
    subst hxl
    refine ⟨xs, rdS_mk xs hl (by omega) fun i hi => ⟨(hxs i hi).1, (hxs i hi).2.1, (hxs i hi).2.2.1⟩, fun m hm => ?_⟩
    obtain ⟨i, hi, rfl⟩ := List.getElem_of_mem hm
    exact (hxs i hi).2.2.2
end Go.Proofs.Yteadhnpmmpninaa
namespace Go.Proofs.Yteadhnpmmpninaa
open Go.RowKit Go.PM

set_option maxRecDepth 100000 in
set_option maxHeartbeats 1600000 in
theorem markStepS_c (xs : List St) (v : Value) (base : Nat) (k : Int) (w : World) (ho : w.ownsRow base 33 3 v xs.length (scells xs)) (hn : xs.length ≤ 1048576) (h1 : 1 ≤ k) (hk : k ≤ 2097152) :
    Calls Try.prog 30 #[v, .int .i64 k] w fun e w' => e = .returned (.int .i64 (k + 3 * (xs.length : Int))) ∧ w'.ownsRow base 33 3 v xs.length (scells (smarks xs.length k.toNat)) ∧ w.grownBy w' v.ownBlock := by
  by_cases h0 : xs.length = 0
  · have hx : xs = [] := List.length_eq_zero_iff.1 h0
    subst hx
    have ho2 := ho
    obtain ⟨A, cap, rfl, _⟩ := Rd.of_own ho
    have ho3 := Lib.hid ho2
    clear ho ho2
    simp only [List.length_nil]
    go_enter Try.func30, Try.ntmps30
    go_wp2
    refine wp_loop_rounds 1 ?_
    rw [rounds_succ]
    go_wp2
    go_ret
    exact ⟨by simp, by simpa [smarks] using ho3.out, grown_refl _ _⟩
  · obtain ⟨g, cap, rfl, _⟩ := ho.form (by omega)
    have hA0 : (0 : Int) < xs.length := by omega
    clear h0
    go_enter Try.func30, Try.ntmps30
    go_wp2
    go_loopw [1, 5] (fun m i wr => ∃ (j : Nat), j ≤ xs.length ∧ i = .int .i64 j ∧ m = .int .i64 (k + 3 * (j : Int)) ∧ wr.ownsRow base 33 3 (.slice (some ⟨g, 0, none⟩) xs.length cap) xs.length (scells (smix xs j k.toNat)) ∧ w.grownBy wr (some g)) (fun _ i _ => xs.length - (intOf i).toNat)
    case atStart => exact ⟨0, by omega, rfl, by simp, by simpa [smix, smarks] using ho, grown_refl _ _⟩
    case round =>
      obtain ⟨j, hj, rfl, rfl, hr, hg⟩ := hrel
      by_cases hlt : j < xs.length
      · have hms := smix_set xs j k.toNat hlt
        have hml := smix_length xs j k.toNat hj
        have HMS := Lib.hid hms
        have hcl : ∀ i, i < xs.length * 3 → ∃ u, (scells (smix xs j k.toNat))[i]? = some u := fun i hi => by
          have : i < (scells (smix xs j k.toNat)).length := by rw [scells_length, hml]; exact hi
          exact ⟨_, List.getElem?_eq_getElem this⟩
        obtain ⟨c0, hc0⟩ := hcl (j * 3) (by omega)
        obtain ⟨c1, hc1⟩ := hcl (j * 3 + 1) (by omega)
        obtain ⟨c2, hc2⟩ := hcl (j * 3 + 2) (by omega)
        have HC := Lib.hid (And.intro hc0 (And.intro hc1 hc2))
        have hlg := (own_lt hr).1
        have hf0 := hr.frozenAt (j * 3)
        have hq0 := (hr.cellAt (j * 3) (by omega)).trans HC.out.1
        clear hms hml hcl hc0 hc1 hc2
        go_wp2_with fail
        have hr0 := (hr.stored (j * 3) (.int .i64 (k + 3 * (j : Int)))).1
        have hg0 := grown_trans hg (hr.stored (j * 3) (.int .i64 (k + 3 * (j : Int)))).2
        clear hr hf0 hq0 hg
        generalize wr.setCell ⟨g, j * 3, none⟩ (.int .i64 (k + 3 * (j : Int))) = w0 at *
        refine (markText_i _ _ (by omega) (by omega)).mono ?_
        rintro e w1 ⟨rfl, hb1⟩
        have hr1 := own_keep hr0 hb1
        have hf1 := hr1.frozenAt (j * 3 + 1)
        have hq1 : w1.cell? ⟨g, j * 3 + 1, none⟩ = some c1 := (hr1.cellAt (j * 3 + 1) (by omega)).trans (by rw [List.getElem?_set_ne (by omega)]; exact HC.out.2.1)
        have hg1 := grown_trans hg0 (grown_below hb1 (some g))
        clear hr0 hg0
        go_wp2_with fail
        have hr2 := (hr1.stored (j * 3 + 1) (.string (mT (k + 3 * (j : Int) + 1).toNat))).1
        have hg2 := grown_trans hg1 (hr1.stored (j * 3 + 1) (.string (mT (k + 3 * (j : Int) + 1).toNat))).2
        clear hr1 hf1 hq1 hg1
        generalize w1.setCell ⟨g, j * 3 + 1, none⟩ (.string (mT (k + 3 * (j : Int) + 1).toNat)) = w2 at *
        refine (markText_i _ _ (by omega) (by omega)).mono ?_
        rintro e w3 ⟨rfl, hb3⟩
        have hr3 := own_keep hr2 hb3
        have hf3 := hr3.frozenAt (j * 3 + 1 + 1)
        have hq3 : w3.cell? ⟨g, j * 3 + 1 + 1, none⟩ = some c2 := (hr3.cellAt (j * 3 + 1 + 1) (by omega)).trans (by rw [List.getElem?_set_ne (by omega), List.getElem?_set_ne (by omega)]; exact HC.out.2.2)
        have hg3 := grown_trans hg2 (grown_below hb3 (some g))
        clear hr2 hg2
        go_wp2
        go_roundw
        case rel =>
          refine ⟨j + 1, by omega, by go_num, by go_num, ?_, ?_⟩
          · rw [← HMS.out]
            have e0 : ((k.toNat + 3 * j : Nat) : Int) = k + 3 * (j : Int) := by omega
            have e1 : (k + 3 * (j : Int) + 1).toNat = k.toNat + 3 * j + 1 := by omega
            have e2 : (k + 3 * (j : Int) + 1 + 1).toNat = k.toNat + 3 * j + 2 := by omega
            have h := (hr3.stored (j * 3 + 1 + 1) (.string (mT (k + 3 * (j : Int) + 1 + 1).toNat))).1
            rw [e1, e2] at h
            rw [e0, e2]
            exact h
          · exact grown_trans hg3 (hr3.stored (j * 3 + 1 + 1) _).2
        case measure => simp [intOf]; omega
      · have hj' : j = xs.length := by omega
        have h3 := hr
        rw [hj'] at h3
        have e3 : smix xs xs.length k.toNat = smarks xs.length k.toNat := by simp [smix]
        rw [e3] at h3
        have HJ : Hid ((j : Int) = xs.length) := by show _ = _; rw [hj']
        clear hj' e3
        go_wp2
        go_ret
        exact ⟨by rw [← HJ.out]; rfl, h3, hg⟩
end Go.Proofs.Yteadhnpmmpninaa
namespace Go.Proofs.Yteadhnpmmpninaa
open Go.RowKit Go.PM
set_option maxRecDepth 100000 in
set_option maxHeartbeats 1600000 in
theorem heldStepS_c (n : Nat) (v : Value) (k : Int) (w : World) (hx : RdS w v (smarks n k.toNat)) (hn : n ≤ 1048576) (h1 : 1 ≤ k) (hk : k ≤ 4194304) :
    Calls Try.prog 31 #[v, .int .i64 k] w fun e w' => e = .returned (.int .i64 (k + 3 * (n : Int))) ∧ Below w.heap.size w w' := by
  obtain ⟨A, cap, hv, hnn, hc, hcell⟩ := hx.open
  rw [smarks_length] at hv hnn hc
  subst hv
  go_enter Try.func31, Try.ntmps31
  go_wp2
  go_loopw [1, 5] (fun m i wr => ∃ (j : Nat), j ≤ n ∧ i = .int .i64 j ∧ m = .int .i64 (k + 3 * (j : Int)) ∧ Below w.heap.size w wr) (fun _ i _ => n - (intOf i).toNat)
  case atStart => exact ⟨0, by omega, rfl, by simp, Below.refl _ _⟩
  case round =>
    obtain ⟨j, hj, rfl, rfl, hb⟩ := hrel
    have hbs := hb.size
    by_cases hlt : j < n
    · obtain ⟨b, off, rfl, hbl, hc0, hc1, hc2⟩ := hcell j (by rw [smarks_length]; exact hlt)
      rw [smarks_at] at hc0 hc1 hc2
      have e0 : ((k.toNat + 3 * j : Nat) : Int) = k + 3 * (j : Int) := by omega
      have e1 : (k + 3 * (j : Int) + 1).toNat = k.toNat + 3 * j + 1 := by omega
      have e2 : (k + 3 * (j : Int) + 1 + 1).toNat = k.toNat + 3 * j + 2 := by omega
      simp only at hc0 hc1 hc2
      rw [e0] at hc0
      rw [← e1] at hc1
      rw [← e2] at hc2
      have hd0 : wr.cell? ⟨b, off + j * 3, none⟩ = some (.int .i64 (k + 3 * (j : Int))) := (hb.cell (p := ⟨b, _, none⟩) hbl).trans hc0
      have hx1 : ∀ x : Ext w.heap.size wr, x.val.cell? ⟨b, off + j * 3 + 1, none⟩ = some (.string (mT (k + 3 * (j : Int) + 1).toNat)) := fun x => ((x.property.cell (p := ⟨b, _, none⟩) hbl).trans (hb.cell (p := ⟨b, _, none⟩) hbl)).trans hc1
      clear e0 e1 e2 hcell
      have i0 : (0 : Int) ≤ (j : Int) := by omega
      have i1 : (j : Int) < n := by omega
      go_wp2
      refine wp_region_ext w.heap.size (by kernel_rfl) (by kernel_rfl) ?_
      repeat (go_big_quiet_step ((go_at_call 67; exact ext_call _ hb.size (markText_i _ _ (by omega) (by omega)))))
      refine wpQuiet_nil ?_
      intro w2 hw'
      obtain ⟨xw, hxw⟩ := hw'
      have hb2 := xw.property
      rw [← hxw] at hb2
      clear hxw xw
      have hbw2 := hb.trans hb2
      have hd2 : w2.cell? ⟨b, off + j * 3 + 2, none⟩ = some (.string (mT (k + 3 * (j : Int) + 1 + 1).toNat)) := (hbw2.cell (p := ⟨b, _, none⟩) hbl).trans hc2
      have hx2 : ∀ x : Ext w.heap.size w2, x.val.cell? ⟨b, off + j * 3 + 2, none⟩ = some (.string (mT (k + 3 * (j : Int) + 1 + 1).toNat)) := fun x => (x.property.cell (p := ⟨b, _, none⟩) hbl).trans hd2
      clear hx1 hd2 hb2 hc0 hc1 hc2 hd0
      have hbs2 := hbw2.size
      go_wp2
      refine wp_region_ext w.heap.size (by kernel_rfl) (by kernel_rfl) ?_
      repeat (go_big_quiet_step ((go_at_call 67; exact ext_call _ hbw2.size (markText_i _ _ (by omega) (by omega)))))
      refine wpQuiet_nil ?_
      intro w3 hw'
      obtain ⟨xw, hxw⟩ := hw'
      have hb3 := xw.property
      rw [← hxw] at hb3
      clear hxw xw
      clear hx2
      go_wp2
      go_roundw
      case rel => exact ⟨j + 1, by omega, by go_num, by go_num, hbw2.trans hb3⟩
      case measure => simp [intOf]; omega
    · have HJ : Hid ((j : Int) = n) := by show _ = _; omega
      go_wp2
      go_ret
      exact ⟨by rw [← HJ.out]; rfl, hb⟩
end Go.Proofs.Yteadhnpmmpninaa
namespace Go.Proofs.Yteadhnpmmpninaa
open Go.RowKit Go.PM Go.PS
set_option maxRecDepth 100000 in
set_option maxHeartbeats 6400000 in
theorem exOrderWithSwaps (w : World) (xs0 : List Mv) (v0 : Value) (hx0 : RdM w v0 xs0) (hz0 : ∀ m ∈ xs0, m.1.size ≤ 9223372036854775807 ∧ m.2.size ≤ 9223372036854775807) :
    Calls Try.prog 6 #[v0] w fun e w' => e = .returned (.bool true) ∧ Below w.heap.size w w' := by
  obtain ⟨ys, hys⟩ : ∃ ys, ys = owS xs0 := ⟨_, rfl⟩
  have hly : ys.length ≤ 1048576 := by rw [hys]; exact (by have := owS_le xs0; omega)
  have HYS := Lib.hid hys
  clear hys
  go_enter Try.func6, Try.ntmps6
  go_wp2_with fail
  refine (szMoveS_c xs0 v0 1048576 _ (by decide) (by decide) hx0 hz0).mono ?_
  rintro e w1 ⟨⟨r0, rfl, hr0, hq0⟩, Hw1⟩
  have HR0 := Lib.hid hr0
  clear hr0
  have Bw1 := Hw1
  have Zw1 := Bw1.size
  by_cases hneg0 : r0 < 0
  · go_wp2
    go_ret
    exact ⟨rfl, Bw1⟩
  have hl0 : xs0.length ≤ 1048576 := by have := HR0.out (by omega); have := msize_len xs0; omega
  go_wp2_with fail
  refine (toMoveS_c xs0 v0 _ (hx0.below Bw1) hl0).mono ?_
  rintro e w2 ⟨c0, rfl, o_c0, Hw2⟩
  have Bw2 : Below w.heap.size w w2 := Bw1.trans (Hw2.mono Zw1)
  have Zw2 := Bw2.size
  go_wp2_with fail
  refine (spOrderWithSwaps_c xs0 c0 _ (Rd.of_own o_c0) hz0 hl0).mono ?_
  rw [show owS xs0 = ys from HYS.out.symm]
  rintro e w3 ⟨s, rfl, o_s, Hw3⟩
  have ne_c0_s := own_ne o_c0 o_s (Nat.le_refl _)
  have Bw3 : Below w.heap.size w w3 := Bw2.trans (Hw3.mono Zw2)
  have Zw3 := Bw3.size
  have c0_w3 := own_keep o_c0 Hw3
  go_wp2_with fail
  refine (toMoveS_c xs0 v0 _ (hx0.below Bw3) hl0).mono ?_
  rintro e w4 ⟨x0, rfl, o_x0, Hw4⟩
  have ne_s_x0 := own_ne o_s o_x0 (Nat.le_refl _)
  have Bw4 : Below w.heap.size w w4 := Bw3.trans (Hw4.mono Zw3)
  have Zw4 := Bw4.size
  have s_w4 := own_keep o_s Hw4
  go_wp2_with fail
  refine (imOrderWithSwaps_c xs0 x0 _ (Rd.of_own o_x0)).mono ?_
  rw [show owS xs0 = ys from HYS.out.symm]
  rintro e w5 ⟨g, rfl, o_g, Hw5⟩
  have ne_s_g := own_ne s_w4 o_g (Nat.le_refl _)
  have ne_x0_g := own_ne o_x0 o_g (Nat.le_refl _)
  have Bw5 : Below w.heap.size w w5 := Bw4.trans (Hw5.mono Zw4)
  have Zw5 := Bw5.size
  have s_w5 := own_keep s_w4 Hw5
  have x0_w5 := own_keep o_x0 Hw5
  go_wp2_with fail
  refine (eqStepS_c ys ys g s _ (Rd.of_own o_g) (Rd.of_own s_w5)).mono ?_
  rintro e w6 ⟨he, Hw6⟩
  rw [show decide (ys = ys) = true by simp] at he
  subst he
  have Bw6 : Below w.heap.size w w6 := Bw5.trans (Hw6.mono Zw5)
  have Zw6 := Bw6.size
  have s_w6 := own_keep s_w5 Hw6
  have x0_w6 := own_keep x0_w5 Hw6
  have g_w6 := own_keep o_g Hw6
  go_wp2_with fail
  refine (toMoveS_c xs0 v0 _ (hx0.below Bw6) hl0).mono ?_
  rintro e w7 ⟨t0, rfl, o_t0, Hw7⟩
  have ne_s_t0 := own_ne s_w6 o_t0 (Nat.le_refl _)
  have ne_x0_t0 := own_ne x0_w6 o_t0 (Nat.le_refl _)
  have ne_g_t0 := own_ne g_w6 o_t0 (Nat.le_refl _)
  have Bw7 : Below w.heap.size w w7 := Bw6.trans (Hw7.mono Zw6)
  have Zw7 := Bw7.size
  have s_w7 := own_keep s_w6 Hw7
  have x0_w7 := own_keep x0_w6 Hw7
  have g_w7 := own_keep g_w6 Hw7
  go_wp2_with fail
  refine (eqMoveS_c xs0 xs0 x0 t0 _ (Rd.of_own x0_w7) (Rd.of_own o_t0)).mono ?_
  rintro e w8 ⟨he, Hw8⟩
  rw [show decide (xs0 = xs0) = true by simp] at he
  subst he
  have Bw8 : Below w.heap.size w w8 := Bw7.trans (Hw8.mono Zw7)
  have Zw8 := Bw8.size
  have s_w8 := own_keep s_w7 Hw8
  have x0_w8 := own_keep x0_w7 Hw8
  have g_w8 := own_keep g_w7 Hw8
  have t0_w8 := own_keep o_t0 Hw8
  go_wp2_with fail
  refine (markMoveS_c xs0 x0 _ 1 _ x0_w8 hl0 (by omega) (by omega)).mono ?_
  rintro e w9 ⟨rfl, _, Hw9⟩
  have Bw9 := Bw8.trans (below_grown Hw9 (B := w.heap.size) Zw8 (fun g hg => by have := own_block_ge o_x0 g hg; omega))
  have Zw9 := Bw9.size
  have Yw9 := Hw9.size
  have s_w9 := own_grown s_w8 Hw9 ne_s_x0
  have g_w9 := own_grown g_w8 Hw9 (ne_turn ne_x0_g)
  go_wp2_with fail
  refine (eqStepS_c ys ys g s _ (Rd.of_own g_w9) (Rd.of_own s_w9)).mono ?_
  rintro e w10 ⟨he, Hw10⟩
  rw [show decide (ys = ys) = true by simp] at he
  subst he
  have Bw10 : Below w.heap.size w w10 := Bw9.trans (Hw10.mono Zw9)
  have Zw10 := Bw10.size
  have s_w10 := own_keep s_w9 Hw10
  have g_w10 := own_keep g_w9 Hw10
  go_wp2_with fail
  refine (markStepS_c ys g _ 1 _ g_w10 hly (by omega) (by omega)).mono ?_
  rintro e w11 ⟨rfl, om_g, Hw11⟩
  have Bw11 := Bw10.trans (below_grown Hw11 (B := w.heap.size) Zw10 (fun g hg => by have := own_block_ge o_g g hg; omega))
  have Zw11 := Bw11.size
  have Yw11 := Hw11.size
  have s_w11 := own_grown s_w10 Hw11 ne_s_g
  have k_w11 : RdS w11 g (smarks ys.length 1) := by
    have := Rd.of_own om_g
    unfold RdS; rw [smarks_length]; exact this
  go_wp2_with fail
  refine (heldStepS_c ys.length g 1 _ k_w11 hly (by decide) (by decide)).mono ?_
  rintro e w12 ⟨rfl, Hw12⟩
  have Bw12 : Below w.heap.size w w12 := Bw11.trans (Hw12.mono Zw11)
  have Zw12 := Bw12.size
  have s_w12 := own_keep s_w11 Hw12
  have k_w12 := k_w11.below Hw12
  go_wp2_with fail
  refine (toMoveS_c xs0 v0 _ (hx0.below Bw12) hl0).mono ?_
  rintro e w13 ⟨d0, rfl, o_d0, Hw13⟩
  have ne_s_d0 := own_ne s_w12 o_d0 (Nat.le_refl _)
  have Bw13 : Below w.heap.size w w13 := Bw12.trans (Hw13.mono Zw12)
  have Zw13 := Bw13.size
  have s_w13 := own_keep s_w12 Hw13
  have k_w13 := k_w12.below Hw13
  go_wp2_with fail
  refine (imOrderWithSwaps_c xs0 d0 _ (Rd.of_own o_d0)).mono ?_
  rw [show owS xs0 = ys from HYS.out.symm]
  rintro e w14 ⟨h, rfl, o_h, Hw14⟩
  have ne_s_h := own_ne s_w13 o_h (Nat.le_refl _)
  have ne_d0_h := own_ne o_d0 o_h (Nat.le_refl _)
  have Bw14 : Below w.heap.size w w14 := Bw13.trans (Hw14.mono Zw13)
  have Zw14 := Bw14.size
  have s_w14 := own_keep s_w13 Hw14
  have d0_w14 := own_keep o_d0 Hw14
  have k_w14 := k_w13.below Hw14
  go_wp2_with fail
  refine (eqStepS_c ys ys h s _ (Rd.of_own o_h) (Rd.of_own s_w14)).mono ?_
  rintro e w15 ⟨he, Hw15⟩
  rw [show decide (ys = ys) = true by simp] at he
  subst he
  have Bw15 : Below w.heap.size w w15 := Bw14.trans (Hw15.mono Zw14)
  have Zw15 := Bw15.size
  have s_w15 := own_keep s_w14 Hw15
  have h_w15 := own_keep o_h Hw15
  have k_w15 := k_w14.below Hw15
  go_wp2_with fail
  refine (heldStepS_c ys.length g 1 _ k_w15 hly (by decide) (by decide)).mono ?_
  rintro e w16 ⟨rfl, Hw16⟩
  go_wp2
  go_ret
  exact ⟨rfl, Bw15.trans (Hw16.mono Zw15)⟩

namespace fnExactOrderWithSwaps
open Go.RowKit Go.PM Go.ChangeShapes Go.WideShapes Go.ChangeAt
open Go.ChangeMaps (open_string shut_string)
set_option maxRecDepth 100000 in
theorem lifted (os : Os) (started : os.Started) (H : Type) (enc : TypeId × Value → H) :
    ReturnsInHanded {} Try.checked os 6 .any (Rows.fnExactOrderWithSwapsSpec.pre6 enc Try.prog Try.f6 Rows.fnExactOrderWithSwapsRow.domain false) (Rows.fnExactOrderWithSwapsSpec.post enc Try.prog Try.f6 false true false false) := by
  refine returnsInHanded_of_change (C := Try.checked) own started (by kernel_rfl) Try.func6
    (ChangeSpec.witness6 (enc := enc) (C := Try.checked) false ⟨#[], #[.slice none 0 0], []⟩ 8 (by kernel_rfl) (by kernel_rfl) (by kernel_rfl) (by kernel_rfl)) ?_
  intro W base args ds gs before hval0 hW hcnd _
  have hval : ∀ (j : Nat) t v, Try.f6.params[j]? = some t → args[j]? = some v → Value.okWide Try.prog W .any base t v := hval0
  have hW' := hW
  obtain ⟨p, q, hA0, hV, rfl, hfz, hnd⟩ := hW
  have hA : DataW.TrodAll enc Try.prog W 0 (fun _ => true) true Try.f6.params.toList args.toList ds p := hA0
  rw [Try.params6] at hA hval
  obtain ⟨v0, vs0, d0, ds0, p0, q0, hargs, rfl, rfl, h0, r0⟩ := trodAll_cons hA
  obtain ⟨rfl, rfl, rfl⟩ := trodAll_nil r0
  obtain rfl : args = #[v0] := by cases args; simp_all
  obtain ⟨rfl, rfl⟩ := trodVars_none hV
  have k0 := h0
  have lt0 : ∀ x ∈ p0, x.block < W.heap.size := by obtain ⟨m, hm⟩ := k0; exact DataW.trod_lt m _ _ _ hm
  obtain ⟨a0, len0, cap0, rfl⟩ := okWide_slice Try.underlying40 (hval 0 40 v0 rfl rfl)
  obtain ⟨xs0, hx0, hz0⟩ : ∃ xs : List Mv, RdM W (.slice a0 len0 cap0) xs ∧ ∀ m ∈ xs, m.1.size ≤ 9223372036854775807 ∧ m.2.size ≤ 9223372036854775807 := by obtain ⟨fuel, hf⟩ := h0; exact open_moves hf
  clear hA0 hval0
  refine (exOrderWithSwaps W xs0 _ hx0 hz0).mono fun e W' ⟨he, bel⟩ => ?_
  subst he
  exact ⟨_, rfl, _, _, _, [], _, [], hW', trodAll_mk1 (shut_bool Try.underlying4 _), (trodAll_cons_mk (Below.trod laidOut (by kernel_rfl) (of_decide_eq_true (by kernel_rfl)) k0 bel lt0) trodAll_mk0), rfl, bel.frame _, fun h => by cases h⟩

theorem over : Rows.fnExactOrderWithSwapsRow.holds Try.pinned (OpenSpec.ofChange Rows.fnExactOrderWithSwapsSpec) :=
  OpenClaim.holds_of_wide 6 Try.f6 rfl rfl rfl rfl rfl rfl rfl ⟨rfl, rfl, rfl, rfl, rfl⟩ rfl rfl rfl rfl rfl (by kernel_rfl) Try.func6 (by kernel_rfl)
    (of_decide_eq_true (by kernel_rfl)) (by unfold Func.isWrapper; first | (rw [if_pos (by decide +kernel)]; kernel_rfl) | (rw [if_neg (by decide +kernel)]; exact ⟨rfl, rfl⟩))
    (fun os started H enc _ => lifted os started H enc)

/-- The statement. -/
theorem proved : Rows.FnExactOrderWithSwapsSaid := over
end fnExactOrderWithSwaps
end Go.Proofs.Yteadhnpmmpninaa
