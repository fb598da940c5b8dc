/- Proved: for every input of the form's own reach the law FnExactNeighbourSwaps answers true and its arguments read afterwards as before; no further condition. -/
import Derived.Test.YteadhnpmmpninaaLawNeighbourSwapsJA
import Derived.Test.YteadhnpmmpninaaBusy
import Derived.Test.YteadhnpmmpninaaHar
import Derived.Test.YteadhnpmmpninaaMark
import Derived.Test.YteadhnpmmpninaaRows
import Derived.Test.YteadhnpmmpninaaLib
import Derived.ProofKit
import Derived.OpenShut
import Derived.ShutString
import Derived.ChangeOld
import Derived.Deep.Slices
import Derived.ChangeSame
import Derived.Carry
import Derived.Test.YteadhnpmmpninaaApp
namespace Go.PS
open Go.PM Go.RowKit Go.PW
/-- how many steps moves take with swaps; how many swaps an exchange takes; its sign -/
def cwI (xs : List Mv) : Int := if mvalid xs then ((busyF xs 9).length : Int) - ((ringsB xs).length : Int) else -1
def csI (xs : List Mv) : Int := if exchB xs then cwI xs else -1
def sgI (xs : List Mv) : Int := if exchB xs then (if (swM xs).length % 2 = 0 then 1 else -1) else 0
theorem exch_mv {xs : List Mv} (h : exchB xs = true) : mvalid xs = true := by
  have := (exchB_iff.1 h).1
  simpa [mvalid] using this
theorem ringsB_len {xs : List Mv} (h : mvalid xs = true) : (ringsB xs).length = (ringsF (nxT (tabOf xs)) 9).length := by
  unfold ringsB ringsT; rw [if_pos h, List.length_map]
theorem ringsB_le (xs : List Mv) : (ringsB xs).length ≤ 9 := by
  rcases Bool.eq_false_or_eq_true (mvalid xs) with h | h
  · rw [ringsB_len h]
    exact (ringsF_lt (nice (SV_tab (by simpa [mvalid] using h))) 9 (Nat.le_refl _)).2.1
  · unfold ringsB; rw [if_neg (by rw [h]; decide)]; simp
theorem flat_low {f : Nat → ByteArray} (hf : SV f) : ∀ x ∈ (ringsF (nxT f) 9).flatten, x < 9 ∧ sx f x ≠ x := fun x hx => by
  obtain ⟨r, hr, hxr⟩ := List.mem_flatten.1 hx
  have hq := PO.ringQ f hf hr
  obtain ⟨i, hi⟩ := List.getElem?_of_mem hxr
  have hil := (List.getElem?_eq_some_iff.1 hi).1
  rw [List.getElem?_eq_getElem hil] at hi
  have e := Option.some.inj hi
  have h2 := hq.two
  refine ⟨by rw [← e]; exact hq.low i hil, fun es => ?_⟩
  have h3 := hq.next i hil
  rw [e, es, ← e] at h3
  have h4 := (List.getElem_inj hq.nodup).1 h3
  by_cases h5 : i + 1 < r.length
  · rw [Nat.mod_eq_of_lt h5] at h4; omega
  · rw [show i + 1 = r.length by omega, Nat.mod_self] at h4; omega
theorem busy_flat {xs : List Mv} (h : exchB xs = true) : (busyF xs 9).length = (ringsF (nxT (tabOf xs)) 9).flatten.length := by
  obtain ⟨h1, h2⟩ := exchB_iff.1 h
  have hf := SV_tab h1
  have hn := nice hf
  have hbf : (busyF xs 9).length = ((List.range 9).filter (busyH xs)).length := by unfold busyF; rw [List.length_map]
  have hbz : ∀ p, p < 9 → (busyH xs p = true ↔ sx (tabOf xs) p ≠ p) := fun p hp => by
    unfold busyH
    rw [decide_eq_true_eq, ← srcM_nm h1 hp, ne_eq, src_self hf hp]
  rw [hbf]
  refine Nat.le_antisymm ?_ ?_
  · refine PM.nodup_le _ _ (List.nodup_range.filter _) fun a ha => ?_
    obtain ⟨ha1, ha2⟩ := List.mem_filter.1 ha
    have ha9 : a < 9 := by simpa using ha1
    refine PO.ringsF_in hn ha9 (PO.exch_ring hf h2 ha9 fun e => ?_) 9 ha9
    exact (hbz a ha9).1 ha2 ((src_self hf ha9).1 e)
  · refine PM.nodup_le _ _ (PO.ringsF_nodup hn 9 (Nat.le_refl _)) fun a ha => ?_
    have := flat_low hf a ha
    exact List.mem_filter.2 ⟨by simpa using this.1, (hbz a this.1).2 this.2⟩
theorem cs_len {xs : List Mv} (h : exchB xs = true) : csI xs = ((swM xs).length : Int) := by
  obtain ⟨h1, h2⟩ := exchB_iff.1 h
  have hm := exch_mv h
  unfold csI cwI
  rw [if_pos h, if_pos hm, busy_flat h, ringsB_len hm, swM_rings h]
  have := prs_count _ (rings_pos (SV_tab h1))
  omega
theorem cs_no {xs : List Mv} (h : exchB xs = false) : csI xs = -1 := if_neg (by rw [h]; decide)
end Go.PS
namespace Go.Proofs.Yteadhnpmmpninaa
open Go.RowKit Go.PM Go.PS Go.PW Go.Lib

set_option maxRecDepth 100000 in
set_option maxHeartbeats 1000000 in
theorem imCountWithSwaps_c (xs : List Mv) (v : Value) (w : World) (hx : RdM w v xs) (hn' : xs.length ≤ 1048576) :
    Calls Try.prog 35 #[v] w fun e w' => e = .returned (.int .i64 (cwI xs)) ∧ Below w.heap.size w w' := by
  have HN : Hid (cwI xs = if mvalid xs then ((busyF xs 9).length : Int) - ((ringsB xs).length : Int) else -1) := rfl
  have HI : Hid (countI xs = if mvalid xs then ((busyF xs 9).length : Int) else -1) := rfl
  have hl1 := busyF_len xs 9
  have hl2 := ringsB_le xs
  have HC := Lib.hid (imRingsOf_c xs v w hx)
  have HB := Lib.hid (fun W (hW : Below w.heap.size w W) => imCountBusy_c xs v W (hx.below hW) hn')
  go_enter Try.func35, Try.ntmps35
  go_wp2_with fail
  refine HC.out.mono ?_
  rintro e w1 ⟨v', rfl, ho, hb⟩
  obtain ⟨A, cap, rfl, _⟩ := Rd.of_own ho
  clear ho HC hx
  have hs1 := hb.size
  rcases Bool.eq_false_or_eq_true (mvalid xs) with h1 | h1
  · have hci := HI.out
    rw [h1, if_pos rfl] at hci
    have hcb := HB.out _ hb
    rw [hci] at hcb
    generalize (ringsB xs).length = n at *
    generalize (busyF xs 9).length = m at *
    go_wp2_with (go_at_call 74; refine hcb.mono ?_; rintro e w2 ⟨rfl, hb2⟩; refine held ?_)
    unfold Held
    have hb3 := hb.trans (hb2.mono hs1)
    clear hb2 hcb hci
    go_wp2
    go_ret
    exact ⟨by rw [HN.out, h1, if_pos rfl]; rfl, hb3⟩
  · go_wp2
    go_ret
    exact ⟨by rw [HN.out, h1]; rfl, hb⟩
set_option maxRecDepth 100000 in
set_option maxHeartbeats 1000000 in
theorem spCountWithSwaps_c (xs : List Mv) (v : Value) (w : World) (hx : RdM w v xs) (hz : ∀ m ∈ xs, m.1.size ≤ 9223372036854775807 ∧ m.2.size ≤ 9223372036854775807) (hn' : xs.length ≤ 1048576) :
    Calls Try.prog 34 #[v] w fun e w' => e = .returned (.int .i64 (cwI xs)) ∧ Below w.heap.size w w' := by
  have HN : Hid (cwI xs = if mvalid xs then ((busyF xs 9).length : Int) - ((ringsB xs).length : Int) else -1) := rfl
  have hl1 := busyF_len xs 9
  have hl2 := ringsB_le xs
  have HX := Lib.hid (fun W (hW : Below w.heap.size w W) => hx.below hW)
  have HV := Lib.hid (spMovesValid_c xs v w hx hz hn')
  rcases Bool.eq_false_or_eq_true (mvalid xs) with h1 | h1
  · have HB := Lib.hid (fun W (hW : RdM W v xs) => l1Busy_c xs v W hW)
    have HL := Lib.hid (fun W (hW : RdM W v xs) => l3Rings_c xs (by simpa [mvalid] using h1) v W hW)
    have HRB : Hid (ringsT (nxT (tabOf xs)) 9 = ringsB xs) := by show _ = _; unfold ringsB; rw [if_pos h1]
    rw [HRB.out] at HL
    rw [h1] at HV HN
    clear hx hz h1 HRB
    generalize ringsB xs = rs at *
    generalize busyF xs 9 = bs at *
    go_enter Try.func34, Try.ntmps34
    go_wp2_with fail
    refine HV.out.mono ?_
    rintro e w1 ⟨rfl, hb1⟩
    have hs1 := hb1.size
    have hx1 := HX.out _ hb1
    go_wp2_with (go_at_call 53; refine (HB.out _ hx1).mono ?_; rintro e w2 ⟨v2, rfl, ho2, hb2⟩; refine held ?_)
    unfold Held
    have hB2 := hb1.trans (hb2.mono hs1)
    have hx2 := HX.out _ hB2
    have hs2 := hB2.size
    obtain ⟨A2, cap2, rfl, _⟩ := Rd.of_own ho2
    clear ho2 hx1 hb2
    go_wp2_with (go_at_call 54; refine (HL.out _ hx2).mono ?_; rintro e w3 ⟨v3, rfl, ho3, hb3⟩; refine held ?_)
    unfold Held
    have hB3 := hB2.trans (hb3.mono hs2)
    obtain ⟨A3, cap3, rfl, _⟩ := Rd.of_own ho3
    clear ho3 hx2 hb3
    generalize rs.length = n at *
    generalize bs.length = m at *
    go_wp2
    go_ret
    exact ⟨by rw [HN.out]; rfl, hB3⟩
  · rw [h1] at HV HN
    clear hx hz
    go_enter Try.func34, Try.ntmps34
    go_wp2_with fail
    refine HV.out.mono ?_
    rintro e w1 ⟨rfl, hb1⟩
    go_wp2
    go_ret
    exact ⟨by rw [HN.out]; rfl, hb1⟩
set_option maxRecDepth 100000 in
theorem imCountSwaps_c (xs : List Mv) (v : Value) (w : World) (hx : RdM w v xs) (hn' : xs.length ≤ 1048576) :
    Calls Try.prog 17 #[v] w fun e w' => e = .returned (.int .i64 (csI xs)) ∧ Below w.heap.size w w' := by
  have HN : Hid (csI xs = if exchB xs then cwI xs else -1) := rfl
  have HX := Lib.hid (fun W (hW : Below w.heap.size w W) => hx.below hW)
  have HV := Lib.hid (imIsExchange_c xs v w hx)
  rcases Bool.eq_false_or_eq_true (exchB xs) with h1 | h1
  · have HB := Lib.hid (fun W (hW : RdM W v xs) => imCountWithSwaps_c xs v W hW hn')
    rw [h1] at HV HN
    clear hx
    generalize cwI xs = n at *
    go_enter Try.func17, Try.ntmps17
    go_wp2_with fail
    refine HV.out.mono ?_
    rintro e w1 ⟨rfl, hb1⟩
    have hs1 := hb1.size
    have hx1 := HX.out _ hb1
    go_wp2_with (go_at_call 35; refine (HB.out _ hx1).mono ?_; rintro e w2 ⟨rfl, hb2⟩; refine held ?_)
    unfold Held
    have hB2 := hb1.trans (hb2.mono hs1)
    go_wp2
    go_ret
    exact ⟨by rw [HN.out]; rfl, hB2⟩
  · rw [h1] at HV HN
    clear hx
    go_enter Try.func17, Try.ntmps17
    go_wp2_with fail
    refine HV.out.mono ?_
    rintro e w1 ⟨rfl, hb1⟩
    go_wp2
    go_ret
    exact ⟨by rw [HN.out]; rfl, hb1⟩
set_option maxRecDepth 100000 in
set_option maxHeartbeats 1000000 in
theorem spCountSwaps_c (xs : List Mv) (v : Value) (w : World) (hx : RdM w v xs) (hz : ∀ m ∈ xs, m.1.size ≤ 9223372036854775807 ∧ m.2.size ≤ 9223372036854775807) (hn' : xs.length ≤ 1048576) :
    Calls Try.prog 20 #[v] w fun e w' => e = .returned (.int .i64 (csI xs)) ∧ Below w.heap.size w w' := by
  have HX := Lib.hid (fun W (hW : Below w.heap.size w W) => hx.below hW)
  have HV := Lib.hid (spIsExchange_c xs v w hx hz hn')
  have hl1 := busyF_len xs 9
  have hl2 := ringsB_le xs
  rcases Bool.eq_false_or_eq_true (exchB xs) with h0 | h0
  · have h1 := exch_mv h0
    have HN : Hid (csI xs = ((busyF xs 9).length : Int) - ((ringsB xs).length : Int)) := by show _ = _; unfold csI cwI; rw [if_pos h0, if_pos h1]
    have HB := Lib.hid (fun W (hW : RdM W v xs) => l1Busy_c xs v W hW)
    have HL := Lib.hid (fun W (hW : RdM W v xs) => l3Rings_c xs (by simpa [mvalid] using h1) v W hW)
    have HRB : Hid (ringsT (nxT (tabOf xs)) 9 = ringsB xs) := by show _ = _; unfold ringsB; rw [if_pos h1]
    rw [HRB.out] at HL
    rw [h0] at HV
    clear hx hz h1 h0 HRB
    generalize ringsB xs = rs at *
    generalize busyF xs 9 = bs at *
    go_enter Try.func20, Try.ntmps20
    go_wp2_with fail
    refine HV.out.mono ?_
    rintro e w1 ⟨rfl, hb1⟩
    have hs1 := hb1.size
    have hx1 := HX.out _ hb1
    go_wp2_with (go_at_call 53; refine (HB.out _ hx1).mono ?_; rintro e w2 ⟨v2, rfl, ho2, hb2⟩; refine held ?_)
    unfold Held
    have hB2 := hb1.trans (hb2.mono hs1)
    have hx2 := HX.out _ hB2
    have hs2 := hB2.size
    obtain ⟨A2, cap2, rfl, _⟩ := Rd.of_own ho2
    clear ho2 hx1 hb2
    go_wp2_with (go_at_call 54; refine (HL.out _ hx2).mono ?_; rintro e w3 ⟨v3, rfl, ho3, hb3⟩; refine held ?_)
    unfold Held
    have hB3 := hB2.trans (hb3.mono hs2)
    obtain ⟨A3, cap3, rfl, _⟩ := Rd.of_own ho3
    clear ho3 hx2 hb3
    generalize rs.length = n at *
    generalize bs.length = m at *
    go_wp2
    go_ret
    exact ⟨by rw [HN.out]; rfl, hB3⟩
  · have HN := Lib.hid (cs_no h0)
    rw [h0] at HV
    clear hx hz
    go_enter Try.func20, Try.ntmps20
    go_wp2_with fail
    refine HV.out.mono ?_
    rintro e w1 ⟨rfl, hb1⟩
    go_wp2
    go_ret
    exact ⟨by rw [HN.out]; rfl, hb1⟩
set_option maxRecDepth 100000 in
set_option maxHeartbeats 1000000 in
theorem imSignOf_c (xs : List Mv) (v : Value) (w : World) (hx : RdM w v xs) (hn' : xs.length ≤ 1048576) :
    Calls Try.prog 18 #[v] w fun e w' => e = .returned (.int .i64 (sgI xs)) ∧ Below w.heap.size w w' := by
  have HN : Hid (sgI xs = if exchB xs then (if (swM xs).length % 2 = 0 then 1 else -1) else 0) := rfl
  have HV := Lib.hid (imCountSwaps_c xs v w hx hn')
  rcases Bool.eq_false_or_eq_true (exchB xs) with h1 | h1
  · have hc := cs_len h1
    rw [hc] at HV
    rw [h1, if_pos rfl] at HN
    have hl := swM_le xs
    clear hc hx
    generalize (swM xs).length = n at *
    have n0 : (0 : Int) ≤ (n : Int) := by omega
    have n1 : ¬ (n : Int) < 0 := by omega
    rcases Nat.mod_two_eq_zero_or_one n with h2 | h2
    · have n2 : (n : Int).tmod 2 = 0 := by rw [Int.tmod_eq_emod_of_nonneg n0]; omega
      have n3 : (n : Int) % 2 = 0 := by omega
      have HH := Lib.hid h2
      clear h2
      go_enter Try.func18, Try.ntmps18
      go_wp2_with fail
      refine HV.out.mono ?_
      rintro e w1 ⟨rfl, hb1⟩
      go_wp2
      go_ret
      exact ⟨by rw [HN.out, if_pos HH.out]; rfl, hb1⟩
    · have n2 : (n : Int).tmod 2 = 1 := by rw [Int.tmod_eq_emod_of_nonneg n0]; omega
      have n3 : (n : Int) % 2 = 1 := by omega
      have HH : Hid (¬ n % 2 = 0) := by show ¬ _; omega
      clear h2
      go_enter Try.func18, Try.ntmps18
      go_wp2_with fail
      refine HV.out.mono ?_
      rintro e w1 ⟨rfl, hb1⟩
      go_wp2
      go_ret
      exact ⟨by rw [HN.out, if_neg HH.out]; rfl, hb1⟩
  · rw [cs_no h1] at HV
    rw [h1] at HN
    clear hx
    go_enter Try.func18, Try.ntmps18
    go_wp2_with fail
    refine HV.out.mono ?_
    rintro e w1 ⟨rfl, hb1⟩
    go_wp2
    go_ret
    exact ⟨by rw [HN.out]; rfl, hb1⟩
set_option maxRecDepth 100000 in
set_option maxHeartbeats 1000000 in
theorem spSignOf_c (xs : List Mv) (v : Value) (w : World) (hx : RdM w v xs) (hz : ∀ m ∈ xs, m.1.size ≤ 9223372036854775807 ∧ m.2.size ≤ 9223372036854775807) (hn' : xs.length ≤ 1048576) :
    Calls Try.prog 21 #[v] w fun e w' => e = .returned (.int .i64 (sgI xs)) ∧ Below w.heap.size w w' := by
  have HN : Hid (sgI xs = if exchB xs then (if (swM xs).length % 2 = 0 then 1 else -1) else 0) := rfl
  have HV := Lib.hid (spCountSwaps_c xs v w hx hz hn')
  rcases Bool.eq_false_or_eq_true (exchB xs) with h1 | h1
  · have hc := cs_len h1
    rw [hc] at HV
    rw [h1, if_pos rfl] at HN
    have hl := swM_le xs
    clear hc hx
    generalize (swM xs).length = n at *
    have n0 : (0 : Int) ≤ (n : Int) := by omega
    have n1 : ¬ (n : Int) < 0 := by omega
    rcases Nat.mod_two_eq_zero_or_one n with h2 | h2
    · have n2 : (n : Int).tmod 2 = 0 := by rw [Int.tmod_eq_emod_of_nonneg n0]; omega
      have n3 : (n : Int) % 2 = 0 := by omega
      have HH := Lib.hid h2
      clear h2
      go_enter Try.func21, Try.ntmps21
      go_wp2_with fail
      refine HV.out.mono ?_
      rintro e w1 ⟨rfl, hb1⟩
      go_wp2
      go_ret
      exact ⟨by rw [HN.out, if_pos HH.out]; rfl, hb1⟩
    · have n2 : (n : Int).tmod 2 = 1 := by rw [Int.tmod_eq_emod_of_nonneg n0]; omega
      have n3 : (n : Int) % 2 = 1 := by omega
      have HH : Hid (¬ n % 2 = 0) := by show ¬ _; omega
      clear h2
      go_enter Try.func21, Try.ntmps21
      go_wp2_with fail
      refine HV.out.mono ?_
      rintro e w1 ⟨rfl, hb1⟩
      go_wp2
      go_ret
      exact ⟨by rw [HN.out, if_neg HH.out]; rfl, hb1⟩
  · rw [cs_no h1] at HV
    rw [h1] at HN
    clear hx
    go_enter Try.func21, Try.ntmps21
    go_wp2_with fail
    refine HV.out.mono ?_
    rintro e w1 ⟨rfl, hb1⟩
    go_wp2
    go_ret
    exact ⟨by rw [HN.out]; rfl, hb1⟩
set_option maxRecDepth 100000 in
theorem spSwapsFor_c (xs : List Mv) (v : Value) (w : World) (hx : RdM w v xs) (hz : ∀ m ∈ xs, m.1.size ≤ 9223372036854775807 ∧ m.2.size ≤ 9223372036854775807) (hn' : xs.length ≤ 1048576) :
    Calls Try.prog 14 #[v] w fun e w' => ∃ v', e = .returned (.tuple #[v', .bool (exchB xs)]) ∧ w'.ownsRow w.heap.size 33 3 v' (swL (swM xs)).length (scells (swL (swM xs))) ∧ Below w.heap.size w w' := by
  have HX := Lib.hid (fun W (hW : Below w.heap.size w W) => hx.below hW)
  have HV := Lib.hid (spIsExchange_c xs v w hx hz hn')
  rcases Bool.eq_false_or_eq_true (exchB xs) with h0 | h0
  · have HL := Lib.hid (fun W (hW : RdM W v xs) => l7Rings_c xs (exchB_iff.1 h0).1 v W hW)
    rw [← swM_rings h0] at HL
    have H0 := Lib.hid h0
    rw [h0] at HV
    clear hx hz h0
    generalize swL (swM xs) = ys at *
    go_enter Try.func14, Try.ntmps14
    go_wp2_with fail
    refine HV.out.mono ?_
    rintro e w1 ⟨rfl, hb1⟩
    have hs1 := hb1.size
    have hx1 := HX.out _ hb1
    go_wp2_with (go_at_call 48; refine (HL.out _ hx1).mono ?_; rintro e w2 ⟨v2, rfl, ho2, hb2⟩; refine held ?_)
    unfold Held
    have hB2 := hb1.trans (hb2.mono hs1)
    have ho3 := own_more ho2 hs1
    clear ho2 hb2
    go_wp2
    go_ret2
    exact ⟨_, by rw [H0.out]; rfl, ho3, hB2⟩
  · have HNO : Hid (swL (swM xs) = []) := by show _ = _; rw [swM_no h0]; rfl
    have H0 := Lib.hid h0
    rw [h0] at HV
    clear hx hz h0
    go_enter Try.func14, Try.ntmps14
    go_wp2_with fail
    refine HV.out.mono ?_
    rintro e w1 ⟨rfl, hb1⟩
    have hs1 := hb1.size
    have hE := World.ownsRow_lit (e := 33) (base := w.heap.size) (size := 3) w1 #[] 0 hs1 (Nat.zero_le _) rfl
    go_wp2
    go_ret2
    exact ⟨_, by rw [H0.out]; rfl, by rw [HNO.out]; exact hE, by (repeat' (first | (with_reducible exact Below.refl _ _) | (with_reducible assumption) | (with_reducible refine Below.alloc ?_ ?_ _) | (with_reducible refine Below.drew ?_) | (with_reducible refine Below.setCell ?_ ?_ _) | (with_reducible exact Nat.le_refl _) | omega | ((repeat (first | rewrite [World.size_alloc] | rewrite [World.size_setCell] | rewrite [World.size_drew])); omega) | (simp; omega) | (simp; done)))⟩
end Go.Proofs.Yteadhnpmmpninaa
namespace Go.PS
open Go.PM Go.RowKit Go.PW
/-- the goals of the first i places, as cells -/
def rowL (g : Nat → Nat) (i : Nat) : List Value := (List.range i).map fun q => Value.int .i64 (g q : Nat)
theorem rowL_succ (g : Nat → Nat) (i : Nat) : rowL g (i + 1) = rowL g i ++ [Value.int .i64 (g i : Nat)] := by simp [rowL, List.range_succ]
theorem rowL_len (g : Nat → Nat) (i : Nat) : (rowL g i).length = i := by simp [rowL]
theorem rowL_at (g : Nat → Nat) (i q : Nat) (h : q < i) : (rowL g i)[q]? = some (.int .i64 (g q : Nat)) := by
  unfold rowL; rw [List.getElem?_map, List.getElem?_range h]; rfl
theorem rowL_set (g : Nat → Nat) (i p x : Nat) : (rowL g i).set p (.int .i64 (x : Nat)) = rowL (setN g p x) i := by
  apply List.ext_getElem?
  intro j
  rcases Nat.lt_or_ge j i with h | h
  · rw [rowL_at _ i j h, List.getElem?_set]
    by_cases hp : p = j
    · subst hp
      rw [if_pos rfl, if_pos (by rw [rowL_len]; exact h)]
      show _ = some (Value.int .i64 ((if p = p then x else g p : Nat) : Int))
      rw [if_pos rfl]
    · rw [if_neg hp, rowL_at g i j h]
      show _ = some (Value.int .i64 ((if j = p then x else g j : Nat) : Int))
      rw [if_neg (fun e => hp e.symm)]
  · rw [List.getElem?_eq_none (by rw [List.length_set, rowL_len]; exact h), List.getElem?_eq_none (by rw [rowL_len]; exact h)]
/-- the row while the readers of place i are looked for among the first k places -/
def rowK (g : Nat → Nat) (i k : Nat) : List Value := rowL g i ++ (if g i < k then [Value.int .i64 (g i : Nat)] else [])
theorem rowK_zero (g : Nat → Nat) (i : Nat) : rowK g i 0 = rowL g i := by simp [rowK]
theorem rowK_nine (g : Nat → Nat) (i : Nat) (h : g i < 9) : rowK g i 9 = rowL g (i + 1) := by rw [rowK, if_pos h, rowL_succ]
theorem rowK_hit (g : Nat → Nat) (i k : Nat) (h : g i = k) : rowK g i (k + 1) = rowK g i k ++ [Value.int .i64 (k : Nat)] := by
  unfold rowK; rw [if_pos (by omega), if_neg (by omega), h]; simp
theorem rowK_miss (g : Nat → Nat) (i k : Nat) (h : g i ≠ k) : rowK g i (k + 1) = rowK g i k := by
  unfold rowK
  by_cases h2 : g i < k
  · rw [if_pos (by omega), if_pos h2]
  · rw [if_neg (by omega), if_neg h2]
theorem rowK_len (g : Nat → Nat) (i k : Nat) : (rowK g i k).length ≤ i + 1 := by
  unfold rowK; rw [List.length_append, rowL_len]; split <;> simp
theorem goM_iff {xs : List Mv} (h : exchB xs = true) {i k : Nat} (hi : i < 9) (hk : k < 9) : srcM xs (nm k) = nm i ↔ goM xs i = k := by
  obtain ⟨h1, h2⟩ := exchB_iff.1 h
  rw [← srcM_nm h1 hk, h2.inv_iff hi hk]
  exact ⟨fun e => e.symm, fun e => e.symm⟩
theorem pas_desc {g : Nat → Nat} (h : (pas 8 g).1.isEmpty = false) : ∃ k, k < 8 ∧ g (k + 1) < g k := by
  rcases up_or g with hu | hd
  · rw [pas_up 8 hu] at h; cases h
  · exact hd
theorem pas_calm {g : Nat → Nat} (h : (pas 8 g).1.isEmpty = true) : upTo g 8 := by
  rcases up_or g with hu | ⟨k, hk, hd⟩
  · exact hu
  · have := pas_some hk hd
    rw [List.isEmpty_iff] at h
    rw [h] at this; simp at this
/-- what the specification's passes hold: k passes or fewer are left -/
def NbQ (t1 t2 : TypeId) (w : World) (tot : List (Nat × Nat)) (rb cap k : Nat) (o ag : Value) (A : World) : Prop :=
  ∃ (c : Bool) (ps : List (Nat × Nat)) (g : Nat → Nat), ag = .bool c ∧ Prm g ∧ (c = true → invG g + 1 ≤ k ∧ ps ++ nbF (k - 1) g = tot) ∧ (c = false → ps = tot) ∧
    A.ownsRow w.heap.size t1 3 o (swL ps).length (scells (swL ps)) ∧ A.ownsRow w.heap.size t2 1 (.slice (some ⟨rb, 0, none⟩) 9 cap) 9 (rowL g 9) ∧ Below w.heap.size w A
theorem nbq_next {t1 t2 : TypeId} {w : World} {tot ps : List (Nat × Nat)} {rb cap k : Nat} {o : Value} {A : World} {g : Nat → Nat} {c : Bool} (hP : Prm g) (h1 : invG g ≤ k) (h2 : ps ++ nbF k g = tot) (hc : c = !(pas 8 g).1.isEmpty)
    (ho : A.ownsRow w.heap.size t1 3 o (swL (ps ++ (pas 8 g).1)).length (scells (swL (ps ++ (pas 8 g).1)))) (hr : A.ownsRow w.heap.size t2 1 (.slice (some ⟨rb, 0, none⟩) 9 cap) 9 (rowL (pas 8 g).2 9)) (hb : Below w.heap.size w A) :
    NbQ t1 t2 w tot rb cap k o (.bool c) A := by
  obtain ⟨f1, f2, f3, f4, f5⟩ := pas_facts hP 8 (Nat.le_refl _)
  refine ⟨c, ps ++ (pas 8 g).1, (pas 8 g).2, rfl, f1, fun e => ?_, fun e => ?_, ho, hr, hb⟩
  · rw [hc] at e
    have he : (pas 8 g).1.isEmpty = false := by simpa using e
    obtain ⟨j, hj, hd⟩ := pas_desc he
    have h3 := pas_some hj hd
    obtain ⟨k, rfl⟩ : ∃ k', k = k' + 1 := ⟨k - 1, by omega⟩
    refine ⟨by omega, ?_⟩
    rw [← h2, nbF_go k hj hd]; simp
  · rw [hc] at e
    have he : (pas 8 g).1.isEmpty = true := by simpa using e
    rw [← h2, nbF_stop k (pas_calm he), List.isEmpty_iff.1 he]
end Go.PS
namespace Go.Proofs.Yteadhnpmmpninaa
open Go.RowKit Go.PM Go.PS Go.PW Go.Lib

theorem infoInt : (Try.prog.info? 3).map (fun i => (i.zero, i.size, i.bytes)) = some (some (.int .i64 0), 1, 8) := by kernel_rfl
theorem app_int {ops : Array Oper} {rest : List Oper} {o : Oper} {a : Act} {Q : Exit → Act → World → Prop} {w : World} (hgd : o.guard = none) (s x : Operand)
    (ho : o.op = .call { callee := .builtin .append, args := #[s, x], argTypes := #[64, 64] })
    (base : Nat) (v : Value) (cs : List Value) (m : Int) (ad : Addr) (c : Nat) (hs : a.eval s = v) (hx : a.eval x = .slice (some ad) 1 c)
    (hown : w.ownsRow base 3 1 v cs.length cs) (hnew : ∀ j u, [Value.int .i64 m][j]? = some u → w.cell? (ad.add j) = some u)
    (hlen : cs.length ≤ 1048576) (hbase : base ≤ w.heap.size)
    (h : ∀ v' w', w'.ownsRow base 3 1 v' (cs ++ [Value.int .i64 m]).length (cs ++ [Value.int .i64 m]) → w.grownBy w' v.ownBlock → wpList Try.prog ops Q rest (a.put o.dst v') w') : wpList Try.prog ops Q (o :: rest) a w := by
  obtain ⟨i0, hi0, hz0, hz1, hz2⟩ := info_parts infoInt
  refine wpList_append_own w hgd s x _ ho base 3 i0 _ 1 8 Try.underlying64 hi0 hz0 hz1 hz2 rfl (by omega) v cs.length cs hs hown ad 1 c [Value.int .i64 m] hx rfl hnew
    (by intro u hu; simp at hu; subst hu; rfl) (by simp only [maxLen]; omega) (by omega) hbase ?_
  intro v' w' h2 h3 _
  refine h v' w' ?_ h3
  rw [List.length_append]; exact h2

set_option maxRecDepth 100000 in
set_option maxHeartbeats 4000000 in
theorem spNeighbourSwaps_c (xs : List Mv) (v : Value) (w : World) (hx : RdM w v xs) (hz : ∀ m ∈ xs, m.1.size ≤ 9223372036854775807 ∧ m.2.size ≤ 9223372036854775807) (hn' : xs.length ≤ 1048576) :
    Calls Try.prog 16 #[v] w fun e w' => ∃ v', e = .returned (.tuple #[v', .bool (exchB xs)]) ∧ w'.ownsRow w.heap.size 33 3 v' (swL (nbM xs)).length (scells (swL (nbM xs))) ∧ Below w.heap.size w w' := by
  have hE := World.ownsRow_lit (e := 33) (base := w.heap.size) (size := 3) w #[] 0 (Nat.le_refl _) (Nat.zero_le _) rfl
  have hb0 : Below w.heap.size w (w.alloc (.cells #[] 33)) := (Below.refl _ _).alloc (Nat.le_refl _) _
  have HX := Lib.hid (fun W (hW : Below w.heap.size w W) => hx.below hW)
  have HV := Lib.hid (spIsExchange_c xs v _ (HX.out _ hb0) hz hn')
  rcases Bool.eq_false_or_eq_true (exchB xs) with h0 | h0
  · have HS := Lib.hid (fun W (hW : Below w.heap.size w W) a => l1Source_c xs v a W (HX.out W hW))
    have HG := Lib.hid (fun i k hi hk => goM_iff h0 (i := i) (k := k) hi hk)
    have HN : Hid (∀ q, q < 9 → (ByteArray.mk #[97, 98, 99, 100, 101, 102, 65, 66, 67]).extract q (q+1) = nm q) := by
      show ∀ q, _
      intro q hq
      match q, hq with
      | 0, _ | 1, _ | 2, _ | 3, _ | 4, _ | 5, _ | 6, _ | 7, _ | 8, _ => decide +kernel
    have hP := goM_prm h0
    have HP := Lib.hid hP
    have HT := Lib.hid (nbM_yes h0)
    have H0 := Lib.hid h0
    rw [h0] at HV
    have HLT := Lib.hid (nbM_le xs)
    clear hx hz h0
    generalize goM xs = g at *
    generalize htot : nbM xs = tot at *
    go_enter Try.func16, Try.ntmps16
    go_wp2_with fail
    refine HV.out.mono ?_
    rintro e w1 ⟨rfl, hb1⟩
    have hE1 := own_keep hE hb1
    have hB1 := hb0.trans (hb1.mono hb0.size)
    have hs1 := hB1.size
    have hR1 := World.ownsRow_lit (e := 3) (base := w.heap.size) (size := 1) w1 #[] 0 hs1 (Nat.zero_le _) rfl
    have hE2 := own_keep hE1 ((Below.refl w1.heap.size w1).alloc (Nat.le_refl _) (.cells #[] 3))
    have hB2 := hB1.alloc hs1 (.cells #[] 3)
    clear hE hb0 HV hb1 hE1
    go_wp2
    go_loopw [5, 6, 7, 17] (fun r _ _ i wr => ∃ (k : Nat), k ≤ 9 ∧ i = .int .i64 k ∧ wr.ownsRow w.heap.size 3 1 r (rowL g k).length (rowL g k) ∧ wr.ownsRow w.heap.size 33 3 (.slice (some ⟨w.heap.size, 0, none⟩) 0 0) 0 [] ∧ Below w.heap.size w wr) (fun _ _ _ i _ => 9 - (RowKit.intOf i).toNat)
    case atStart => exact ⟨0, by omega, rfl, hR1, hE2, hB2⟩
    case round =>
      obtain ⟨i, hi, rfl, hr, hE, hb⟩ := hrel
      have hbs := hb.size
      by_cases hlt : i < 9
      · have hgl := HP.out.lt i hlt
        have h9 := rowK_nine g i hgl
        have H9 := Lib.hid h9
        clear h9
        go_wp2
        rw [show decide ((i : Int) < 9) = true from decide_eq_true (by omega)]
        rename World => wo
        go_loopw [5, 7, 20] (fun r _ j wr => ∃ (k : Nat), k ≤ 9 ∧ j = .int .i64 k ∧ wr.ownsRow w.heap.size 3 1 r (rowK g i k).length (rowK g i k) ∧ wr.ownsRow w.heap.size 33 3 (.slice (some ⟨w.heap.size, 0, none⟩) 0 0) 0 [] ∧ Below w.heap.size w wr) (fun _ _ j _ => 9 - (RowKit.intOf j).toNat)
        case atStart => exact ⟨0, by omega, rfl, by rw [rowK_zero]; exact hr, hE, hb⟩
        case round =>
          obtain ⟨k, hk, rfl, hrk, hEk, hbk⟩ := hrel
          have hbks := hbk.size
          by_cases hkl : k < 9
          · have hexk := HN.out k hkl
            have hexi := HN.out i hlt
            have hsr : ∀ x : Ext wr.heap.size wr.drew, Calls Try.prog 50 #[v, .string (nm k)] x.val fun e w' => e = .returned (.string (srcM xs (nm k))) ∧ Below x.val.heap.size x.val w' := fun x => HS.out x.val (hbk.drew.trans (x.property.mono hbks)) (nm k)
            have HIF := Lib.hid (HG.out i k hlt hkl)
            have HY := Lib.hid (rowK_hit g i k)
            have HM := Lib.hid (rowK_miss g i k)
            have hlen := rowK_len g i k
            have n0 : (0 : Int) ≤ (k : Int) := by omega
            have n1 : (k : Int) < 9 := by omega
            have n2 : IntKind.i64.wrap ((k : Int) + 1) = (k : Int) + 1 := IntWalk.i64_in _ ⟨by omega, by omega⟩
            have n3 : ((k : Int) + 1).toNat = k + 1 := by omega
            have n4 : (0 : Int) ≤ (i : Int) := by omega
            have n5 : (i : Int) < 9 := by omega
            have n6 : IntKind.i64.wrap ((i : Int) + 1) = (i : Int) + 1 := IntWalk.i64_in _ ⟨by omega, by omega⟩
            have n7 : ((i : Int) + 1).toNat = i + 1 := by omega
            generalize srcM xs (nm k) = sk at *
            generalize nm k = qk at *
            generalize nm i = qi at *
            generalize rowK g i k = rk at *
            obtain ⟨rk1, hrk1⟩ : ∃ rk1, rk1 = rowK g i (k + 1) := ⟨_, rfl⟩
            have HRK : Hid (rowK g i (k + 1) = rk1) := hrk1.symm
            rw [← hrk1] at HY HM
            clear hrk1
            have hd0 := beq_str sk qi
            rcases Bool.eq_false_or_eq_true (sk.toList == qi.toList) with hd | hd
            · have HD : Hid (sk = qi) := by
                rw [hd] at hd0
                have := of_decide_eq_true hd0.symm
                exact this
              clear hd0
              go_wp2
              refine wp_region_quiet (C := fun w' => ∃ x : Ext wr.heap.size wr.drew, w' = x.val) (by kernel_rfl) (by kernel_rfl) ⟨⟨_, Below.refl _ _⟩, rfl⟩ ?_
              simp only
              repeat (first | go_big_quiet_step (fail) | go_big_quiet_step ((exact ext_call _ (Nat.le_refl _) (hsr _))))
              refine wpQuiet_nil ?_
              rintro w6 ⟨xw, rfl⟩
              have hB6 : Below w.heap.size w xw.val := hbk.drew.trans (xw.property.mono hbks)
              have hrk6 := own_keep (show wr.drew.ownsRow w.heap.size 3 1 u5 rk.length rk from hrk) xw.property
              have hE6 := own_keep (show wr.drew.ownsRow w.heap.size 33 3 (.slice (some ⟨w.heap.size, 0, none⟩) 0 0) 0 [] from hEk) xw.property
              generalize xw.val = w6 at *
              have hs6 := hB6.size
              have hnw := one_new w6 (.int .i64 k) 3
              clear hrk hEk hbk hsr xw
              go_wp2_with (at_builtin; refine held ?_)
              unfold Held
              refine app_int rfl (.tmp 34) (.tmp 36) rfl w.heap.size u5 rk k ⟨w6.heap.size, 0, none⟩ 1 (by rfl) (by rfl) (own_keep hrk6 ((Below.refl _ _).alloc (Nat.le_refl _) _)) hnw (by omega) (by simp; omega) ?_
              intro v' w7 hown7 hgrow7
              have hB7 := (hB6.alloc hs6 (.cells #[.int .i64 k] 3)).trans (below_grown hgrow7 (B := w.heap.size) (by simp; omega) (own_block_ge hrk6))
              have hE7 := own_grown (own_keep hE6 ((Below.refl w6.heap.size w6).alloc (Nat.le_refl _) (.cells #[.int .i64 k] 3))) hgrow7 (rows_neS hE6 hrk6 (by decide))
              rw [← HY.out (HIF.out.1 HD.out)] at hown7
              clear hgrow7 hnw hrk6 hE6 hB6
              go_wp2
              go_roundw
              case rel =>
                exact ⟨k + 1, by omega, by go_num, by rw [HRK.out]; exact hown7, hE7, hB7⟩
              case measure => simp [RowKit.intOf]; omega
            · have HD : Hid (sk ≠ qi) := by
                rw [hd] at hd0
                have := of_decide_eq_false hd0.symm
                exact this
              clear hd0
              go_wp2
              refine wp_region_quiet (C := fun w' => ∃ x : Ext wr.heap.size wr.drew, w' = x.val) (by kernel_rfl) (by kernel_rfl) ⟨⟨_, Below.refl _ _⟩, rfl⟩ ?_
              simp only
              repeat (first | go_big_quiet_step (fail) | go_big_quiet_step ((exact ext_call _ (Nat.le_refl _) (hsr _))))
              refine wpQuiet_nil ?_
              rintro w6 ⟨xw, rfl⟩
              have hB6 : Below w.heap.size w xw.val := hbk.drew.trans (xw.property.mono hbks)
              have hrk6 := own_keep (show wr.drew.ownsRow w.heap.size 3 1 u5 rk.length rk from hrk) xw.property
              have hE6 := own_keep (show wr.drew.ownsRow w.heap.size 33 3 (.slice (some ⟨w.heap.size, 0, none⟩) 0 0) 0 [] from hEk) xw.property
              generalize xw.val = w6 at *
              rw [← HM.out (fun e => HD.out (HIF.out.2 e))] at hrk6
              clear hrk hEk hbk hsr xw
              go_wp2
              go_roundw
              case rel => exact ⟨k + 1, by omega, by go_num, by rw [HRK.out]; exact hrk6, hE6, hB6⟩
              case measure => simp [RowKit.intOf]; omega
          · have hke : k = 9 := by omega
            subst hke
            rw [H9.out] at hrk
            go_wp2
            go_roundw
            case rel => exact ⟨i + 1, by omega, by go_num, hrk, hEk, hbk⟩
            case measure => simp [RowKit.intOf]; omega
      · have hke : i = 9 := by omega
        subst hke
        have hRW : Hid (wr.ownsRow w.heap.size 3 1 u5 9 (rowL g 9)) := by
          have := hr
          rw [rowL_len] at this
          exact this
        obtain ⟨rb, rcap, hu5, _, hrbl⟩ := hRW.out.form (by decide)
        have hrr := hRW.out
        subst hu5
        have hQ0 : NbQ 33 3 w tot rb rcap 37 (.slice (some ⟨w.heap.size, 0, none⟩) 0 0) (.bool true) wr :=
          ⟨true, [], g, rfl, HP.out, fun _ => ⟨by have := invG_le g; omega, HT.out.symm⟩, fun e => (by cases e), hE, hrr, hb⟩
        clear hr hE hRW hrr hb hbs HS HG HX hP hrbl
        go_wp2
        rw [show ((9 : Nat) : Int) = (9 : Int) from rfl]
        rename World => wo
        go_loopw [4, 8, 9, 10] (fun o ag _ _ wr => ∃ k, NbQ 33 3 w tot rb rcap k o ag wr) (fun o ag _ _ wr => PW.least (fun k => NbQ 33 3 w tot rb rcap k o ag wr))
        case atStart => exact ⟨37, hQ0⟩
        case round =>
          obtain ⟨hru, _⟩ := PW.least_spec hrel
          generalize hkk : PW.least (fun k => NbQ 33 3 w tot rb rcap k u4 u8 wr) = kk at *
          have HKK := Lib.hid hkk
          clear hrel hkk hQ0
          obtain ⟨c, ps, g1, rfl, hP1, hc1, hc2, ho, hr, hb⟩ := hru
          have hbs := hb.size
          cases c with
          | false =>
            have hpt := hc2 rfl
            rw [hpt] at ho
            have HO := Lib.hid ho
            clear hc1 hc2 ho hr
            go_wp2
            go_ret2
            exact ⟨_, by rw [H0.out]; rfl, HO.out, hb⟩
          | true =>
            obtain ⟨hk1, htt⟩ := hc1 rfl
            obtain ⟨k, rfl⟩ : ∃ k', kk = k' + 1 := ⟨kk - 1, by omega⟩
            have hinv : invG g1 ≤ k := by omega
            have htt' : ps ++ nbF k g1 = tot := htt
            have hpl : ps.length ≤ 36 := by
              have h1 := congrArg List.length htt'
              rw [List.length_append] at h1
              have := HLT.out; omega
            have HNQ := Lib.hid (fun (cc : Bool) (o : Value) (A : World) (h1 : cc = !(pas 8 g1).1.isEmpty) h2 h3 h4 => nbq_next (t1 := 33) (t2 := 3) (w := w) (tot := tot) (ps := ps) (rb := rb) (cap := rcap) (k := k) (o := o) (A := A) (g := g1) (c := cc) hP1 hinv htt' h1 h2 h3 h4)
            have HPF := Lib.hid (fun m hm => (pas_facts hP1 m hm))
            clear hc1 hc2 htt htt' hk1 hinv
            go_wp2
            rename World => wo2
            go_loopw [4, 8, 9, 10] (fun o ag i _ wr => ∃ (m : Nat) (cc : Bool), m ≤ 8 ∧ i = .int .i64 m ∧ ag = .bool cc ∧ Hid (cc = !(pas m g1).1.isEmpty) ∧ wr.ownsRow w.heap.size 33 3 o (swL (ps ++ (pas m g1).1)).length (scells (swL (ps ++ (pas m g1).1))) ∧ wr.ownsRow w.heap.size 3 1 (.slice (some ⟨rb, 0, none⟩) 9 rcap) 9 (rowL (pas m g1).2 9) ∧ Below w.heap.size w wr) (fun _ _ i _ _ => 8 - (RowKit.intOf i).toNat)
            case atStart => exact ⟨0, false, by omega, rfl, rfl, rfl, by simpa [pas] using ho, hr, hb⟩
            case round =>
              obtain ⟨m, cc, hm, rfl, rfl, HC, hom, hrm, hbm⟩ := hrel
              have hbms := hbm.size
              by_cases hml : m < 8
              · obtain ⟨f1, f2, f3, f4, f5⟩ := HPF.out m (by omega)
                have hPY := Lib.hid (pas_yes (k := m) (g := g1))
                have hPN := Lib.hid (pas_no (k := m) (g := g1))
                obtain ⟨nx, hnx⟩ : ∃ nx, nx = pas (m + 1) g1 := ⟨_, rfl⟩
                have HA1 : Hid (pas (m + 1) g1 = nx) := hnx.symm
                rw [← hnx] at hPY hPN
                clear hnx f2 f3 f4
                have hex1 := HN.out m (by omega)
                have hex2 := HN.out (m + 1) (by omega)
                generalize hpm : (pas m g1).1 = pm at *
                generalize hgm : (pas m g1).2 = gm at *
                have c1 : wr.cell? ⟨rb, m, none⟩ = some (.int .i64 (gm m : Nat)) := (hrm.cellAt m (by omega)).trans (rowL_at gm 9 m (by omega))
                have c2 : wr.cell? ⟨rb, m + 1, none⟩ = some (.int .i64 (gm (m + 1) : Nat)) := (hrm.cellAt (m + 1) (by omega)).trans (rowL_at gm 9 (m + 1) (by omega))
                have c1d : wr.drew.cell? ⟨rb, m, none⟩ = some (.int .i64 (gm m : Nat)) := c1
                have c2d : wr.drew.cell? ⟨rb, m + 1, none⟩ = some (.int .i64 (gm (m + 1) : Nat)) := c2
                have z1 : wr.drew.frozen? ⟨rb, m, none⟩ = false := hrm.frozenAt m
                have z2 : wr.drew.frozen? ⟨rb, m + 1, none⟩ = false := hrm.frozenAt (m + 1)
                have hrbl : rb < wr.heap.size := (own_lt hrm).1
                have n0 : (0 : Int) ≤ (m : Int) := by omega
                have n1 : (m : Int) + 1 < 9 := by omega
                have n2 : IntKind.i64.wrap ((m : Int) + 1) = (m : Int) + 1 := IntWalk.i64_in _ ⟨by omega, by omega⟩
                have n3 : ((m : Int) + 1).toNat = m + 1 := by omega
                have n4 : IntKind.i64.wrap ((m : Int) + 2) = (m : Int) + 2 := IntWalk.i64_in _ ⟨by omega, by omega⟩
                have n5 : ((m : Int) + 2).toNat = m + 1 + 1 := by omega
                have n6 : (0 : Int) ≤ (m : Int) + 1 := by omega
                have n7 : (m : Int) < 9 := by omega
                by_cases hd : gm (m + 1) < gm m
                · have hnxe := hPY.out hd
                  have HN1 : Hid (nx.1 = pm ++ [(m, m + 1)]) := by show _ = _; rw [hnxe]
                  have HN2 : Hid (nx.2 = swp gm m (m + 1)) := by show _ = _; rw [hnxe]
                  have HCC : Hid (true = !(pas (m + 1) g1).1.isEmpty) := by show _ = _; rw [HA1.out, hnxe]; simp
                  have le1 : ¬ (gm m : Int) ≤ (gm (m + 1) : Int) := by omega
                  obtain ⟨r1, q1⟩ := (show wr.drew.ownsRow w.heap.size 3 1 (.slice (some ⟨rb, 0, none⟩) 9 rcap) 9 (rowL gm 9) from hrm).stored (m + 1) (.int .i64 (gm m : Nat))
                  obtain ⟨r2, q2⟩ := r1.stored m (.int .i64 (gm (m + 1) : Nat))
                  rw [rowL_set, rowL_set, swp_set, swp_comm] at r2
                  have hneo := rows_neS hom hrm (by decide)
                  have hneo' : u4.ownBlock ≠ some rb := by
                    rcases hneo with h | h
                    · exact h
                    · cases h
                  have o2 := own_grown (own_grown (show wr.drew.ownsRow w.heap.size 33 3 u4 (swL (ps ++ pm)).length (scells (swL (ps ++ pm))) from hom) q1 (.inl hneo')) q2 (.inl hneo')
                  have hbrb : w.heap.size ≤ rb := (own_lt hrm).2
                  have hB2 : Below w.heap.size w ((wr.drew.setCell ⟨rb, m + 1, none⟩ (.int .i64 (gm m : Nat))).setCell ⟨rb, m, none⟩ (.int .i64 (gm (m + 1) : Nat))) := (hbm.drew.setCell hbrb _).setCell hbrb _
                  have HSW : Hid (swL (ps ++ (pas (m + 1) g1).1) = swL (ps ++ pm) ++ [((1, nm m, nm (m + 1)) : St)]) := by
                    show _ = _
                    rw [HA1.out, HN1.out, ← List.append_assoc, swL_app _ [_]]; rfl
                  have HRW : Hid (rowL (pas (m + 1) g1).2 9 = rowL (swp gm m (m + 1)) 9) := by show _ = _; rw [HA1.out, HN2.out]
                  have hsl : (swL (ps ++ pm)).length ≤ 100 := by rw [swL_len, List.length_append]; omega
                  have W2 : ∃ W2, W2 = ((wr.setCell ⟨rb, m + 1, none⟩ (.int .i64 (gm m : Nat))).setCell ⟨rb, m, none⟩ (.int .i64 (gm (m + 1) : Nat))).drew := ⟨_, rfl⟩
                  obtain ⟨W2, hW2⟩ := W2
                  have hWW : ((wr.drew.setCell ⟨rb, m + 1, none⟩ (.int .i64 (gm m : Nat))).setCell ⟨rb, m, none⟩ (.int .i64 (gm (m + 1) : Nat))) = W2 := by rw [hW2]; rfl
                  rw [hWW] at r2 o2 hB2
                  have z1' : wr.frozen? ⟨rb, m, none⟩ = false := z1
                  have z2' : wr.frozen? ⟨rb, m + 1, none⟩ = false := z2
                  have hs2 := hB2.size
                  clear hd hnxe hPY hPN r1 q1 q2 hWW hneo hneo' hom hrm hbm HN1 HN2 f1 hpm hgm HC
                  generalize swL (ps ++ pm) = ys at *
                  generalize nm m = a1 at *
                  generalize nm (m + 1) = a2 at *
                  generalize rowL (swp gm m (m + 1)) 9 = rw2 at *
                  generalize gm (m + 1) = y at *
                  generalize gm m = x at *
                  go_wp2
                  refine wp_region_quiet (C := fun w' => w' = wr.drew) (by kernel_rfl) (by kernel_rfl) rfl ?_
                  simp only
                  repeat (go_big_quiet_step (fail))
                  refine wpQuiet_nil ?_
                  intro w2' hw'
                  subst hw'
                  go_wp2
                  rw [← hW2]
                  clear hW2 z1 z2 z1' z2' c1 c2 c1d c2d
                  refine wpIn_wide.1 (region_late2 (m := 0) (F := Fence.wide) (C := fun w' => w' = W2.drew) (D := fun _ => True) 10 2 rfl (by kernel_rfl) (by kernel_rfl) _ (by rfl) (by simp) u4 (by intro _ _ _ h; exact h) (yieldsD_move (by rfl) _ (by rfl) u4 (by rfl)) (fun _ _ => trivial) rfl ?_)
                  simp only [List.take_succ_cons, List.take_zero, List.drop_succ_cons, List.drop_zero, Nat.reduceSub, Nat.reduceAdd]
                  simp only [Act.put, List.setIfInBounds_toArray, List.set_cons_succ, List.set_cons_zero]
                  repeat (gi_big_quiet_step (fail))
                  refine wpQuietIn_nil ?_
                  intro w' hw'
                  subst hw'
                  refine ⟨trivial, op_k (fun K hK => ?_)⟩
                  go_simp
                  refine ⟨trivial, rfl, callsIn_wide.2 ((l7Swap_c _ _ _).mono ?_)⟩
                  rintro e w3 ⟨rfl, hb3⟩
                  refine hK _ _ ?_
                  clear hK K
                  refine ⟨trivial, ?_⟩
                  refine sliceIn_st (.tmp 85) rfl 1 a1 a2 (by rfl) ?_
                  refine ⟨trivial, ?_⟩
                  have hB3 := hB2.drew.trans (hb3.mono hs2)
                  have hal : Below w3.heap.size w3 (w3.alloc (.cells #[.int .i64 1, .string a1, .string a2] 33)) := (Below.refl _ _).alloc (Nat.le_refl _) _
                  have o3 := own_keep (own_keep (show W2.drew.ownsRow w.heap.size 33 3 u4 ys.length (scells ys) from o2) hb3) hal
                  have r3 := own_keep (own_keep (show W2.drew.ownsRow w.heap.size 3 1 (.slice (some ⟨rb, 0, none⟩) 9 rcap) 9 rw2 from r2) hb3) hal
                  have hs3 := hB3.size
                  refine listIn_st rfl (.tmp 75) (.tmp 86) rfl w.heap.size u4 ys (1, a1, a2) ⟨w3.heap.size, 0, none⟩ 1 (by rfl) (by rfl) o3 (three_new w3 _ _ _ _) (by omega) (by simp; omega) ?_
                  intro v' w5 hown5 hgrow5
                  have hb5 := (hB3.alloc hs3 (.cells #[.int .i64 1, .string a1, .string a2] 33)).trans (below_grown hgrow5 (B := w.heap.size) (by simp; omega) (own_block_ge o2))
                  have r5 := own_grown r3 hgrow5 (rows_neS r3 o3 (by decide))
                  clear hgrow5 o3 r3 hal hB3 hb3 o2 r2 hB2
                  gi_wp2
                  go_wp2
                  go_roundw
                  case rel => exact ⟨m + 1, true, by omega, by go_num, rfl, HCC, by rw [HSW.out]; exact hown5, by rw [HRW.out]; exact r5, hb5⟩
                  case measure => simp [RowKit.intOf]; omega
                · have hnxe := hPN.out hd
                  have HCC : Hid (cc = !(pas (m + 1) g1).1.isEmpty) := by
                    show _ = _; rw [HA1.out, hnxe, hpm]; exact HC.out
                  have le1 : (gm m : Int) ≤ (gm (m + 1) : Int) := by omega
                  have H1 : Hid (wr.drew.ownsRow w.heap.size 33 3 u4 (swL (ps ++ (pas (m + 1) g1).1)).length (scells (swL (ps ++ (pas (m + 1) g1).1)))) := by
                    show World.ownsRow _ _ _ _ _ _ _
                    rw [HA1.out, hnxe, hpm]; exact hom
                  have H2 : Hid (wr.drew.ownsRow w.heap.size 3 1 (.slice (some ⟨rb, 0, none⟩) 9 rcap) 9 (rowL (pas (m + 1) g1).2 9)) := by
                    show World.ownsRow _ _ _ _ _ _ _
                    rw [HA1.out, hnxe, hgm]; exact hrm
                  have hbd : Below w.heap.size w wr.drew := hbm.drew
                  clear hd hnxe hPY hPN hom hrm f1 hpm hgm HC z1 z2
                  generalize gm (m + 1) = y at *
                  generalize gm m = x at *
                  go_wp2
                  refine wp_region_quiet (C := fun w' => w' = wr.drew) (by kernel_rfl) (by kernel_rfl) rfl ?_
                  simp only
                  repeat (go_big_quiet_step (fail))
                  refine wpQuiet_nil ?_
                  intro w2' hw'
                  subst hw'
                  go_wp2
                  go_roundw
                  case rel => exact ⟨m + 1, cc, by omega, by go_num, rfl, HCC, H1.out, H2.out, hbd⟩
                  case measure => simp [RowKit.intOf]; omega
              · have hme : m = 8 := by omega
                subst hme
                have hQ := HNQ.out _ _ _ HC.out hom hrm hbm
                clear hom hrm
                go_wp2
                go_roundw
                case rel => exact ⟨k, hQ⟩
                case measure =>
                  rw [HKK.out]
                  have := (PW.least_spec (P := fun k => NbQ 33 3 w tot rb rcap k _ _ wr) ⟨k, hQ⟩).2 _ hQ
                  omega
  · have HNO : Hid (swL (nbM xs) = []) := by show _ = _; rw [nbM_no h0]; rfl
    have H0 := Lib.hid h0
    rw [h0] at HV
    clear hx hz h0
    go_enter Try.func16, Try.ntmps16
    go_wp2_with fail
    refine HV.out.mono ?_
    rintro e w1 ⟨rfl, hb1⟩
    have hE1 := own_keep hE hb1
    have hB1 := hb0.trans (hb1.mono hb0.size)
    go_wp2
    go_ret2
    exact ⟨_, by rw [H0.out]; rfl, by rw [HNO.out]; exact hE1, hB1⟩
end Go.Proofs.Yteadhnpmmpninaa
namespace Go.PM
open Go.RowKit
def ssize : List St → Nat
  | [] => 0
  | x :: xs => x.2.1.size + x.2.2.size + 1 + ssize xs
theorem ssize_len (xs : List St) : xs.length ≤ ssize xs := by
  induction xs with
  | nil => simp [ssize]
  | cons x xs ih => simp only [ssize, List.length_cons]; omega
theorem ssize_append (xs ys : List St) : ssize (xs ++ ys) = ssize xs + ssize ys := by
  induction xs with
  | nil => simp [ssize]
  | cons x xs ih => simp only [List.cons_append, ssize, ih]; omega
theorem ssize_take_succ (xs : List St) (k : Nat) (hk : k < xs.length) : ssize (xs.take (k+1)) = ssize (xs.take k) + xs[k].2.1.size + xs[k].2.2.size + 1 := by
  rw [take_snoc xs k hk, ssize_append]; simp only [ssize]; omega
def zSt : List Value := [.int .i64 0, .string ⟨#[]⟩, .string ⟨#[]⟩]
def shalf (xs : List St) (k : Nat) : List Value := scells (xs.take k) ++ (List.replicate (xs.length - k) zSt).flatten
theorem shalf_at (xs : List St) (k : Nat) (hk : k < xs.length) : (shalf xs k)[k*3]? = some (Value.int .i64 0) ∧ (shalf xs k)[k*3+1]? = some (Value.string ⟨#[]⟩) ∧ (shalf xs k)[k*3+2]? = some (Value.string ⟨#[]⟩) := by
  have hl : (scells (xs.take k)).length = k * 3 := by rw [scells_length, List.length_take]; omega
  obtain ⟨d, hd⟩ : ∃ d, xs.length - k = d + 1 := ⟨xs.length - k - 1, by omega⟩
  unfold shalf
  rw [hd, List.replicate_succ, List.flatten_cons]
  refine ⟨?_, ?_, ?_⟩
  · rw [List.getElem?_append_right (by omega), hl]; simp [zSt]
  · rw [List.getElem?_append_right (by omega), hl, show k * 3 + 1 - k * 3 = 1 by omega]; simp [zSt]
  · rw [List.getElem?_append_right (by omega), hl, show k * 3 + 2 - k * 3 = 2 by omega]; simp [zSt]
theorem shalf_set (xs : List St) (k : Nat) (hk : k < xs.length) : (((shalf xs k).set (k*3) (.int .i64 xs[k].1)).set (k*3+1) (.string xs[k].2.1)).set (k*3+2) (.string xs[k].2.2) = shalf xs (k+1) := by
  have hl : (scells (xs.take k)).length = k * 3 := by rw [scells_length, List.length_take]; omega
  obtain ⟨d, hd⟩ : ∃ d, xs.length - k = d + 1 := ⟨xs.length - k - 1, by omega⟩
  unfold shalf
  rw [hd, List.replicate_succ, List.flatten_cons, show xs.length - (k+1) = d by omega, take_snoc xs k hk, scells_append]
  rw [List.set_append_right _ _ (by omega), List.set_append_right _ _ (by omega), List.set_append_right _ _ (by omega), hl]
  rw [show k * 3 - k * 3 = 0 by omega, show k * 3 + 1 - k * 3 = 1 by omega, show k * 3 + 2 - k * 3 = 2 by omega]
  simp [scells, zSt]
theorem shalf_zero (xs : List St) : shalf xs 0 = (List.replicate xs.length zSt).flatten := by simp [shalf, scells]
theorem shalf_full (xs : List St) : shalf xs xs.length = scells xs := by simp [shalf]
def stEq (k : Int) (a b : ByteArray) (k' : Int) (a' b' : ByteArray) : Bool := decide (k = k' ∧ a = a' ∧ b = b')
end Go.PM
namespace Go.Proofs.Yteadhnpmmpninaa
open Go.RowKit Go.PM

set_option maxHeartbeats 400000 in
theorem szStep_c (k : Int) (a b : ByteArray) (left : Int) (w : World) (h0 : 0 ≤ left) (h1 : left ≤ 1048576) (ha : a.size ≤ 9223372036854775807) (hb : b.size ≤ 9223372036854775807) :
    Calls Try.prog 75 #[.agg #[.int .i64 k, .string a, .string b], .int .i64 left] w fun e w' => (∃ r : Int, e = .returned (.int .i64 r) ∧ (0 ≤ r → r + a.size + b.size = left) ∧ r ≤ left) ∧ Below w.heap.size w w' := by
  go_enter Try.func75, Try.ntmps75
  go_wp2_with fail
  refine (szMove_c a b left _ h0 h1 ha hb).mono ?_
  rintro e w1 ⟨⟨r, rfl, hr, hq⟩, hb1⟩
  have HR := Lib.hid hr
  clear hr
  have hb2 : Below w.heap.size w w1 := ((Below.refl _ _).alloc (Nat.le_refl _) _).trans (hb1.mono (by simp))
  by_cases hn : r < 0
  · go_wp2
    go_ret
    exact ⟨⟨-1, rfl, by omega, by omega⟩, hb2⟩
  · go_wp2
    go_ret
    exact ⟨⟨r, rfl, HR.out, hq⟩, hb2⟩
set_option maxHeartbeats 400000 in
theorem szStepS_c (xs : List St) (v : Value) (left : Int) (w : World) (h0 : 0 ≤ left) (h1 : left ≤ 1048576) (hx : RdS w v xs) (hz : ∀ m ∈ xs, m.2.1.size ≤ 9223372036854775807 ∧ m.2.2.size ≤ 9223372036854775807) :
    Calls Try.prog 36 #[v, .int .i64 left] w fun e w' => (∃ r : Int, e = .returned (.int .i64 r) ∧ (0 ≤ r → r + ssize xs = left) ∧ r ≤ left) ∧ Below w.heap.size w w' := by
  obtain ⟨A, cap, rfl, hn, hc, hcell⟩ := hx.open
  by_cases c1 : left - (xs.length : Int) < 0
  · go_enter Try.func36, Try.ntmps36
    go_wp2
    go_ret
    exact ⟨⟨-1, rfl, by omega, by omega⟩, Below.refl _ _⟩
  go_enter Try.func36, Try.ntmps36
  go_wp2
  go_loopw [1, 5] (fun l i wr => ∃ (k : Nat) (r : Int), k ≤ xs.length ∧ i = .int .i64 k ∧ l = .int .i64 r ∧ 0 ≤ r ∧ r ≤ 1048576 ∧ r ≤ left ∧ Hid (r + ssize (xs.take k) + (xs.length - k) = left) ∧ Below w.heap.size w wr) (fun _ i _ => xs.length - (intOf i).toNat)
  case atStart => exact ⟨0, _, by omega, rfl, rfl, by omega, by omega, by omega, by show _ = _; simp [ssize], Below.refl _ _⟩
  case round =>
    obtain ⟨k, r, hk, rfl, rfl, hr0, hr1, hr2, hr3, hb⟩ := hrel
    by_cases hlt : k < xs.length
    · obtain ⟨b, off, rfl, hbl, hc1, hc2, hc3⟩ := hcell k hlt
      have hd1 := (hb.cell (p := ⟨b, off + k * 3, none⟩) hbl).trans hc1
      have hd2 := (hb.cell (p := ⟨b, off + k * 3 + 1, none⟩) hbl).trans hc2
      have hd3 := (hb.cell (p := ⟨b, off + k * 3 + 2, none⟩) hbl).trans hc3
      have hzz := hz xs[k] (List.getElem_mem hlt)
      clear hc1 hc2 hc3
      have hts := ssize_take_succ xs k hlt
      have HR : Hid (∀ r' : Int, r' + (xs[k].2.1.size : Int) + xs[k].2.2.size = r → r' + ssize (xs.take (k+1)) + (xs.length - ((k + 1 : Nat) : Int)) = left) := by
        intro r' h'; have := hr3; unfold Hid at this; rw [hts]; push_cast; omega
      clear hts hcell
      go_wp2_with fail
      refine (szStep_c _ _ _ r _ hr0 hr1 hzz.1 hzz.2).mono ?_
      rintro e w' ⟨⟨r', rfl, hr4, hr5⟩, hb'⟩
      have hr6 := Lib.hid hr4; clear hr4
      by_cases hneg : r' < 0
      · go_wp2
        go_ret
        exact ⟨⟨-1, rfl, by omega, by omega⟩, hb.trans (hb'.mono hb.size)⟩
      · go_wp2
        go_roundw
        case rel => exact ⟨k + 1, r', by omega, by go_num, rfl, by omega, by omega, by omega, HR.out _ (hr6.out (by omega)), hb.trans (hb'.mono hb.size)⟩
        case measure => simp [intOf]; omega
    · have hk' : k = xs.length := by omega
      have hr3' := hr3.out
      rw [hk', List.take_of_length_le (Nat.le_refl _)] at hr3'
      have HR : Hid (r + (ssize xs : Int) = left) := by show _ = _; omega
      clear hr3' hk'
      go_wp2
      go_ret
      exact ⟨⟨r, rfl, fun _ => HR.out, hr2⟩, hb⟩
theorem toStep_c (k : Int) (a b : ByteArray) (w : World) :
    Calls Try.prog 79 #[.agg #[.int .i64 k, .string a, .string b]] w fun e w' => e = .returned (.agg #[.int .i64 k, .string a, .string b]) ∧ Below w.heap.size w w' := by
  have hA1 : At (((w.alloc (.cells #[.int .i64 k, .string a, .string b] 95)).alloc (.cells #[.int .i64 0, .string ⟨#[]⟩, .string ⟨#[]⟩] 33)).alloc (.cells #[.int .i64 k, .string ⟨#[]⟩, .string ⟨#[]⟩] 33)) (w.heap.size + 1) 33 #[.int .i64 0, .string ⟨#[]⟩, .string ⟨#[]⟩] := by
    have := At.new (w.alloc (.cells #[.int .i64 k, .string a, .string b] 95)) 33 #[.int .i64 0, .string ⟨#[]⟩, .string ⟨#[]⟩]
    rw [World.size_alloc] at this; exact this.alloc _
  have hA2 : At (((w.alloc (.cells #[.int .i64 k, .string a, .string b] 95)).alloc (.cells #[.int .i64 0, .string ⟨#[]⟩, .string ⟨#[]⟩] 33)).alloc (.cells #[.int .i64 k, .string ⟨#[]⟩, .string ⟨#[]⟩] 33)) (w.heap.size + 1 + 1) 33 #[.int .i64 k, .string ⟨#[]⟩, .string ⟨#[]⟩] := by
    have := At.new ((w.alloc (.cells #[.int .i64 k, .string a, .string b] 95)).alloc (.cells #[.int .i64 0, .string ⟨#[]⟩, .string ⟨#[]⟩] 33)) 33 #[.int .i64 k, .string ⟨#[]⟩, .string ⟨#[]⟩]
    rwa [World.size_alloc, World.size_alloc] at this
  go_enter Try.func79, Try.ntmps79
  go_wp2_with fail
  refine (toMove_c a b _).mono ?_
  rintro e w1 ⟨rfl, hb1⟩
  have k1 := hA1.keep hb1
  have k2 := hA2.keep hb1
  have hB : Below w.heap.size w w1 := Below.trans (by (repeat' (first | (with_reducible exact Below.refl _ _) | (with_reducible assumption) | (with_reducible refine Below.alloc ?_ ?_ _) | (with_reducible refine Below.drew ?_) | (with_reducible refine Below.setCell ?_ ?_ _) | (with_reducible exact Nat.le_refl _) | omega | ((repeat (first | rewrite [World.size_alloc] | rewrite [World.size_setCell] | rewrite [World.size_drew])); omega) | (simp; omega) | (simp; done)))) (hb1.mono (by simp; omega))
  have hl1 := k1.lt
  have hl2 := k2.lt
  clear hA1 hA2
  have q1 : w1.cell? ⟨w.heap.size + 1, 0, none⟩ = some (.int .i64 0) := k1.cell 0
  have q2 : w1.cell? ⟨w.heap.size + 1, 1, none⟩ = some (.string ⟨#[]⟩) := k1.cell 1
  have q3 : w1.cell? ⟨w.heap.size + 1, 2, none⟩ = some (.string ⟨#[]⟩) := k1.cell 2
  have q4 : w1.cell? ⟨w.heap.size + 1 + 1, 0, none⟩ = some (.int .i64 k) := k2.cell 0
  have q5 : w1.cell? ⟨w.heap.size + 1 + 1, 1, none⟩ = some (.string ⟨#[]⟩) := k2.cell 1
  have q6 : w1.cell? ⟨w.heap.size + 1 + 1, 2, none⟩ = some (.string ⟨#[]⟩) := k2.cell 2
  have z1 := k1.frozen 0
  have z2 := k1.frozen 1
  have z3 := k1.frozen 2
  have z4 := k2.frozen 0
  have z5 := k2.frozen 1
  have z6 := k2.frozen 2
  clear k1 k2
  go_wp2
  refine bodyPost_ret (v := .agg #[.int .i64 k, .string a, .string b]) (by simp [results, Try.results79, go_sem, q1, q2, q3]) rfl ⟨rfl, ?_⟩
  (repeat' (first | (with_reducible exact Below.refl _ _) | (with_reducible assumption) | (with_reducible refine Below.alloc ?_ ?_ _) | (with_reducible refine Below.drew ?_) | (with_reducible refine Below.setCell ?_ ?_ _) | (with_reducible exact Nat.le_refl _) | omega | ((repeat (first | rewrite [World.size_alloc] | rewrite [World.size_setCell] | rewrite [World.size_drew])); omega) | (simp; omega) | (simp; done)))
theorem infoSt : (Try.prog.info? 33).map (fun i => (i.zero, i.size, i.bytes)) = some (some (.agg #[.int .i64 0, .string ⟨#[]⟩, .string ⟨#[]⟩]), 3, 40) := by kernel_rfl

set_option maxHeartbeats 400000 in
theorem toStepS_c (xs : List St) (v : Value) (w : World) (hx : RdS w v xs) (hn' : xs.length ≤ 1048576) :
    Calls Try.prog 38 #[v] w fun e w' => ∃ v', e = .returned v' ∧ w'.ownsRow w.heap.size 33 3 v' xs.length (scells xs) ∧ Below w.heap.size w w' := by
  obtain ⟨A, cap, rfl, hn, hc, hcell⟩ := hx.open
  obtain ⟨i0, hi0, hz0, hz1, hz2⟩ := info_parts infoSt
  have hmk := fun W : World => run_make (P := Try.prog) W 25 33 i0 _ Try.underlying25 hi0 hz0 .i64 .i64 xs.length xs.length (by omega) (Int.le_refl _) (by rw [hz2]; omega) (by omega)
  simp only [Int.toNat_natCast, hz1] at hmk
  have hO := own_made w w.heap.size 33 #[Value.int .i64 0, Value.string ⟨#[]⟩, Value.string ⟨#[]⟩] 3 xs.length rfl (by omega) (by omega) (Nat.le_refl _)
  have hB : Below w.heap.size w (w.alloc (Obj.cells (madeCells #[Value.int .i64 0, Value.string ⟨#[]⟩, Value.string ⟨#[]⟩] (xs.length * 3)) 33)) := (Below.refl _ _).alloc (Nat.le_refl _) _
  go_enter Try.func38, Try.ntmps38
  go_wp2
  generalize (w.alloc (Obj.cells (madeCells #[Value.int .i64 0, Value.string ⟨#[]⟩, Value.string ⟨#[]⟩] (xs.length * 3)) 33)) = W1 at *
  go_loopw [4] (fun i wr => ∃ (k : Nat), k ≤ xs.length ∧ i = .int .i64 k ∧ wr.ownsRow w.heap.size 33 3 (.slice (some ⟨w.heap.size, 0, none⟩) xs.length xs.length) xs.length (shalf xs k) ∧ Below w.heap.size w wr) (fun i _ => xs.length - (intOf i).toNat)
  case atStart => exact ⟨0, by omega, rfl, by rw [shalf_zero]; exact hO, hB⟩
  case round =>
    obtain ⟨k, hk, rfl, ho, hb⟩ := hrel
    by_cases hlt : k < xs.length
    · obtain ⟨b, off, rfl, hbl, hc1, hc2, hc3⟩ := hcell k hlt
      have hd1 := (hb.cell (p := ⟨b, off + k * 3, none⟩) hbl).trans hc1
      have hd2 := (hb.cell (p := ⟨b, off + k * 3 + 1, none⟩) hbl).trans hc2
      have hd3 := (hb.cell (p := ⟨b, off + k * 3 + 2, none⟩) hbl).trans hc3
      clear hc1 hc2 hc3 hcell
      go_wp2_with fail
      refine (toStep_c _ _ _ _).mono ?_
      rintro e w' ⟨rfl, hb'⟩
      have ho' := own_keep ho hb'
      have hf1 := ho'.frozenAt (k * 3)
      have hf2 := ho'.frozenAt (k * 3 + 1)
      have hf3 := ho'.frozenAt (k * 3 + 2)
      have hg1 := (ho'.cellAt (k * 3) (by omega)).trans (shalf_at xs k hlt).1
      have hg2 := (ho'.cellAt (k * 3 + 1) (by omega)).trans (shalf_at xs k hlt).2.1
      have hg3 := (ho'.cellAt (k * 3 + 2) (by omega)).trans (shalf_at xs k hlt).2.2
      go_wp2
      go_roundw
      case rel =>
        refine ⟨k + 1, by omega, by go_num, ?_, ?_⟩
        · rw [← shalf_set xs k hlt]
          exact (((ho'.stored (k * 3) _).1.stored (k * 3 + 1) _).1.stored (k * 3 + 2) _).1
        · exact ((((hb.trans (hb'.mono hb.size)).setCell (Nat.le_refl _) _).setCell (Nat.le_refl _) _).setCell (Nat.le_refl _) _)
      case measure => simp [intOf]; omega
    · have hk' : k = xs.length := by omega
      have ho2 := ho
      rw [hk', shalf_full] at ho2
      go_wp2
      go_ret
      exact ⟨_, rfl, ho2, hb⟩
set_option maxHeartbeats 400000 in
theorem eqStep_c (k : Int) (a b : ByteArray) (k' : Int) (c d : ByteArray) (w : World) :
    Calls Try.prog 65 #[.agg #[.int .i64 k, .string a, .string b], .agg #[.int .i64 k', .string c, .string d]] w fun e w' => e = .returned (.bool (stEq k a b k' c d)) ∧ Below w.heap.size w w' := by
  have HS : Hid (stEq k a b k' c d = (decide (k = k') && mvEq a b c d)) := by show _ = _; simp [stEq, mvEq]
  by_cases hk : k = k'
  · have e1 : (k != k') = false := by simp [hk]
    have HK := Lib.hid hk
    clear hk
    rcases Bool.eq_false_or_eq_true (mvEq a b c d) with hm | hm
    all_goals
      go_enter Try.func65, Try.ntmps65
      go_wp2_with fail
      refine (eqMove_c a b c d _).mono ?_
      rintro e w1 ⟨rfl, hb1⟩
      rw [hm]
      have hB : Below w.heap.size w w1 := Below.trans (by (repeat' (first | (with_reducible exact Below.refl _ _) | (with_reducible assumption) | (with_reducible refine Below.alloc ?_ ?_ _) | (with_reducible refine Below.drew ?_) | (with_reducible refine Below.setCell ?_ ?_ _) | (with_reducible exact Nat.le_refl _) | omega | ((repeat (first | rewrite [World.size_alloc] | rewrite [World.size_setCell] | rewrite [World.size_drew])); omega) | (simp; omega) | (simp; done)))) (hb1.mono (by simp; omega))
      go_wp2
      go_ret
      exact ⟨by rw [HS.out, hm, decide_eq_true HK.out]; rfl, hB⟩
  · have e1 : (k != k') = true := by simp [hk]
    have HK := Lib.hid hk
    clear hk
    go_enter Try.func65, Try.ntmps65
    go_wp2
    go_ret
    exact ⟨by rw [HS.out, decide_eq_false HK.out]; rfl, by (repeat' (first | (with_reducible exact Below.refl _ _) | (with_reducible assumption) | (with_reducible refine Below.alloc ?_ ?_ _) | (with_reducible refine Below.drew ?_) | (with_reducible refine Below.setCell ?_ ?_ _) | (with_reducible exact Nat.le_refl _) | omega | ((repeat (first | rewrite [World.size_alloc] | rewrite [World.size_setCell] | rewrite [World.size_drew])); omega) | (simp; omega) | (simp; done)))⟩
end Go.Proofs.Yteadhnpmmpninaa
namespace Go.Proofs.Yteadhnpmmpninaa
open Go.RowKit Go.PM Go.ChangeShapes Go.WideShapes Go.Deep

theorem own : ownKnob Try.prog.godebug = none := by kernel_rfl
theorem laidOut : laidOutB Try.prog = true := by kernel_rfl

theorem exists_list {α : Type} (Q : Nat → α → Prop) : ∀ n, (∀ i, i < n → ∃ m, Q i m) → ∃ xs : List α, xs.length = n ∧ ∀ i (h : i < xs.length), Q i xs[i]
  | 0, _ => ⟨[], rfl, fun i h => absurd h (Nat.not_lt_zero _)⟩
  | n + 1, h => by
    obtain ⟨xs, hl, hx⟩ := exists_list Q n fun i hi => h i (by omega)
    obtain ⟨m, hm⟩ := h n (by omega)
    refine ⟨xs ++ [m], by simp [hl], fun i hi => ?_⟩
    by_cases h1 : i < xs.length
    · rw [List.getElem_append_left h1]; exact hx i h1
    · have h2 : i = xs.length := by simp at hi; omega
      subst h2
      rw [List.getElem_append_right (Nat.le_refl _)]
      simpa [hl] using hm

theorem rdM_mk {w : World} {ad : Addr} {cap : Nat} (xs : List Mv) (hc : xs.length ≤ cap) (hn : xs.length ≤ 9223372036854775807)
    (h : ∀ i (hi : i < xs.length), w.cell? (ad.add (i * 2)) = some (.string xs[i].1) ∧ w.cell? ((ad.add (i * 2)).add 1) = some (.string xs[i].2)) : RdM w (.slice (some ad) xs.length cap) xs := by
  refine ⟨some ad, cap, rfl, hc, hn, mcells_length xs, fun h0 => ?_⟩
  have h1 := (h 0 h0).1
  obtain ⟨b, off, spot⟩ := ad
  have hs : spot = none := by
    have := World.cell?_spot h1
    simpa [Addr.add] using this
  subst hs
  have hadd : ∀ o i, (Addr.mk b o none).add i = ⟨b, o + i, none⟩ := fun o i => by
    unfold Addr.add; split
    · next h => subst h; rfl
    · rfl
  refine ⟨b, off, rfl, ?_, fun j u hu => ?_⟩
  · rcases Nat.lt_or_ge b w.heap.size with hlt | hge
    · exact hlt
    · rw [hadd] at h1
      simp [World.cell?, Array.getElem?_eq_none hge] at h1
  · have hj : j < xs.length * 2 := by rw [← mcells_length]; exact (List.getElem?_eq_some_iff.1 hu).1
    have hk : j / 2 < xs.length := by omega
    have hm := mcells_at xs (j / 2) _ (List.getElem?_eq_getElem hk)
    have hh := h (j / 2) hk
    rw [hadd, hadd] at hh
    rcases Nat.mod_two_eq_zero_or_one j with h0 | h0
    · have e : j / 2 * 2 = j := by omega
      rw [e] at hm hh
      rw [hm.1] at hu
      rw [hh.1, hu]
    · have e : j / 2 * 2 + 1 = j := by omega
      rw [e] at hm
      rw [Nat.add_assoc, e] at hh
      rw [hm.2] at hu
      rw [hh.2, hu]

set_option maxRecDepth 100000 in
theorem open_moves {H : Type} {enc : TypeId × Value → H} {W : World} {base fuel : Nat} {spare : Nat → Bool} {held : Bool} {a : Option Addr} {n c : Nat} {x : DataW H × List MemPlace}
    (h : DataW.trod enc Try.prog W base spare held fuel 40 [.slice a n c] = some x) :
    ∃ xs : List Mv, RdM W (.slice a n c) xs ∧ ∀ m ∈ xs, m.1.size ≤ 9223372036854775807 ∧ m.2.size ≤ 9223372036854775807 := by
  rcases open_slice Try.underlying40 h with ⟨hcs, _⟩ | ⟨ad, len, cap, m, k, D, Pl, hcs, hb, hl, hm, hmm, hx, hi⟩
  · simp at hcs
    obtain ⟨rfl, rfl, rfl⟩ := hcs
    exact ⟨[], ⟨none, 0, rfl, by simp, by simp, rfl, by simp⟩, by simp⟩
  · simp at hcs
    obtain ⟨rfl, rfl, rfl⟩ := hcs
    have hC : Try.prog.cellsOf 80 = 2 := by kernel_rfl
    have hml : n ≤ m := by rw [hmm]; split <;> omega
    have hM : maxLen = 9223372036854775807 := rfl
    obtain ⟨xs, hxl, hxs⟩ := exists_list (fun i (m : Mv) => W.cell? (ad.add (i * 2)) = some (.string m.1) ∧ W.cell? ((ad.add (i * 2)).add 1) = some (.string m.2) ∧ m.1.size ≤ 9223372036854775807 ∧ m.2.size ≤ 9223372036854775807) n (fun i hin => by
      obtain ⟨cs', hc', ht⟩ := hi i (by omega)
      rw [hC] at hc'
      obtain ⟨y0, y1, k', _, hlen, h0, h1⟩ := trod_struct2 Try.underlying80 ht
      obtain ⟨_, hcl, hat⟩ := World.cells?_some hc'
      rw [hC] at hlen
      match cs', hlen with
      | [c0, c1], _ =>
        have e0 : Try.prog.cellsOf 9 = 1 := by kernel_rfl
        simp only [e0] at h0 h1
        simp at h0 h1
        obtain ⟨s, hs, _, hs1⟩ := DataW.trod_string Try.underlying9 h0
        obtain ⟨t, hta, _, ht1⟩ := DataW.trod_string Try.underlying9 h1
        simp at hs hta
        subst hs hta
        refine ⟨(s, t), ?_, ?_, hM ▸ hs1, hM ▸ ht1⟩
        · have := hat 0 (by omega)
          simpa [Addr.add] using this
        · have := hat 1 (by omega)
          simpa using this)
    subst hxl
    refine ⟨xs, rdM_mk xs hl (by omega) fun i hi => ⟨(hxs i hi).1, (hxs i hi).2.1⟩, fun m hm => ?_⟩
    obtain ⟨i, hi, rfl⟩ := List.getElem_of_mem hm
    exact (hxs i hi).2.2
end Go.Proofs.Yteadhnpmmpninaa
namespace Go.PM
open Go.RowKit
/-- the cells behind n marked steps, the first mark being number k -/
def smarks : Nat → Nat → List St
  | 0, _ => []
  | n + 1, k => ((k : Int), mT (k + 1), mT (k + 2)) :: smarks n (k + 3)
theorem smarks_length (n k : Nat) : (smarks n k).length = n := by
  induction n generalizing k with
  | zero => rfl
  | succ n ih => simp [smarks, ih]
theorem smarks_at (n k i : Nat) (h : i < (smarks n k).length) : (smarks n k)[i] = (((k + 3 * i : Nat) : Int), mT (k + 3 * i + 1), mT (k + 3 * i + 2)) := by
  induction n generalizing k i with
  | zero => simp [smarks] at h
  | succ n ih =>
    cases i with
    | zero => rfl
    | succ i =>
      simp only [smarks, List.getElem_cons_succ]
      rw [ih, show k + 3 + 3 * i = k + 3 * (i + 1) by omega]
def smix (xs : List St) (i k : Nat) : List St := smarks i k ++ xs.drop i
theorem smarks_snoc (i k : Nat) : smarks (i + 1) k = smarks i k ++ [(((k + 3 * i : Nat) : Int), mT (k + 3 * i + 1), mT (k + 3 * i + 2))] := by
  induction i generalizing k with
  | zero => rfl
  | succ i ih =>
    rw [smarks, ih (k + 3)]
    simp only [smarks, List.cons_append]
    rw [show k + 3 + 3 * i = k + 3 * (i + 1) by omega]
theorem smix_length (xs : List St) (i k : Nat) (h : i ≤ xs.length) : (smix xs i k).length = xs.length := by
  simp [smix, smarks_length]; omega
theorem smix_set (xs : List St) (i k : Nat) (h : i < xs.length) : (((scells (smix xs i k)).set (i * 3) (.int .i64 ((k + 3 * i : Nat) : Int))).set (i * 3 + 1) (.string (mT (k + 3 * i + 1)))).set (i * 3 + 2) (.string (mT (k + 3 * i + 2))) = scells (smix xs (i + 1) k) := by
  have hl : (scells (smarks i k)).length = i * 3 := by rw [scells_length, smarks_length]
  unfold smix
  rw [smarks_snoc, List.drop_eq_getElem_cons h, scells_append, scells_append, scells_append, scells_cons]
  rw [List.set_append_right _ _ (by omega), List.set_append_right _ _ (by omega), List.set_append_right _ _ (by omega), hl, Nat.sub_self, show i * 3 + 1 - i * 3 = 1 by omega, show i * 3 + 2 - i * 3 = 2 by omega]
  simp [scells]
end Go.PM
namespace Go.Proofs.Yteadhnpmmpninaa
open Go.RowKit Go.PM

set_option maxRecDepth 100000 in
set_option maxHeartbeats 400000 in
theorem eqStepS_c (xs ys : List St) (v u : Value) (w : World) (hx : RdS w v xs) (hy : RdS w u ys) :
    Calls Try.prog 27 #[v, u] w fun e w' => e = .returned (.bool (decide (xs = ys))) ∧ Below w.heap.size w w' := by
  obtain ⟨A, cap, rfl, hn, hc, hcell⟩ := hx.open
  obtain ⟨A', cap', rfl, hn', hc', hcell'⟩ := hy.open
  by_cases hl : xs.length = ys.length
  · have hl1 : ((xs.length : Int) == ys.length) = true := by simp [hl]
    have hl2 := Lib.hid hl
    clear hl
    go_enter Try.func27, Try.ntmps27
    go_wp2
    go_loopw [5] (fun i wr => ∃ (k : Nat), k ≤ xs.length ∧ i = .int .i64 k ∧ Hid (xs.take k = ys.take k) ∧ Below w.heap.size w wr) (fun i _ => xs.length - (intOf i).toNat)
    case atStart => exact ⟨0, by omega, rfl, by show _ = _; simp, Below.refl _ _⟩
    case round =>
      obtain ⟨k, hk, rfl, ht, hb⟩ := hrel
      by_cases hlt : k < xs.length
      · obtain ⟨b, off, rfl, hbl, hc1, hc2, hc3⟩ := hcell k hlt
        obtain ⟨b', off', rfl, hbl', hc1', hc2', hc3'⟩ := hcell' k (by have := hl2.out; omega)
        have hlt2 : k < ys.length := by have := hl2.out; omega
        have HE : Hid (∀ h : stEq xs[k].1 xs[k].2.1 xs[k].2.2 ys[k].1 ys[k].2.1 ys[k].2.2 = true, xs[k] = ys[k]) := fun h => by
          simp [stEq] at h
          exact Prod.ext h.1 (Prod.ext h.2.1 h.2.2)
        have HN : Hid (stEq xs[k].1 xs[k].2.1 xs[k].2.2 ys[k].1 ys[k].2.1 ys[k].2.2 = false → ¬ xs = ys) := fun h e => by
          subst e; simp [stEq] at h
        have HT : Hid (xs[k] = ys[k] → xs.take (k + 1) = ys.take (k + 1)) := fun h => by rw [take_snoc xs k hlt, take_snoc ys k hlt2, ht.out, h]
        have hx1 : ∀ x : Ext w.heap.size wr, x.val.cell? ⟨b, off + k * 3, none⟩ = some (.int .i64 xs[k].1) := fun x => ((x.property.cell (p := ⟨b, _, none⟩) hbl).trans (hb.cell (p := ⟨b, _, none⟩) hbl)).trans hc1
        have hx2 : ∀ x : Ext w.heap.size wr, x.val.cell? ⟨b, off + k * 3 + 1, none⟩ = some (.string xs[k].2.1) := fun x => ((x.property.cell (p := ⟨b, _, none⟩) hbl).trans (hb.cell (p := ⟨b, _, none⟩) hbl)).trans hc2
        have hx3 : ∀ x : Ext w.heap.size wr, x.val.cell? ⟨b, off + k * 3 + 2, none⟩ = some (.string xs[k].2.2) := fun x => ((x.property.cell (p := ⟨b, _, none⟩) hbl).trans (hb.cell (p := ⟨b, _, none⟩) hbl)).trans hc3
        have hx4 : ∀ x : Ext w.heap.size wr, x.val.cell? ⟨b', off' + k * 3, none⟩ = some (.int .i64 ys[k].1) := fun x => ((x.property.cell (p := ⟨b', _, none⟩) hbl').trans (hb.cell (p := ⟨b', _, none⟩) hbl')).trans hc1'
        have hx5 : ∀ x : Ext w.heap.size wr, x.val.cell? ⟨b', off' + k * 3 + 1, none⟩ = some (.string ys[k].2.1) := fun x => ((x.property.cell (p := ⟨b', _, none⟩) hbl').trans (hb.cell (p := ⟨b', _, none⟩) hbl')).trans hc2'
        have hx6 : ∀ x : Ext w.heap.size wr, x.val.cell? ⟨b', off' + k * 3 + 2, none⟩ = some (.string ys[k].2.2) := fun x => ((x.property.cell (p := ⟨b', _, none⟩) hbl').trans (hb.cell (p := ⟨b', _, none⟩) hbl')).trans hc3'
        clear hc1 hc2 hc3 hcell hc1' hc2' hc3' hcell'
        have i0 : (0 : Int) ≤ (k : Int) := by omega
        have i1 : (k : Int) < xs.length := by omega
        have i2 : (k : Int) < ys.length := by omega
        generalize xs[k].1 = x1 at *
        generalize xs[k].2.1 = x2 at *
        generalize xs[k].2.2 = x3 at *
        generalize ys[k].1 = y1 at *
        generalize ys[k].2.1 = y2 at *
        generalize ys[k].2.2 = y3 at *
        have hE := fun W => eqStep_c x1 x2 x3 y1 y2 y3 W
        generalize stEq x1 x2 x3 y1 y2 y3 = q at *
        go_wp2
        refine wp_region_ext w.heap.size (by kernel_rfl) (by kernel_rfl) ?_
        repeat (go_big_quiet_step ((go_at_call 65; exact ext_call _ hb.size (hE _))))
        refine wpQuiet_nil ?_
        intro w2 hw'
        obtain ⟨xw, hxw⟩ := hw'
        have hb2 := xw.property
        rw [← hxw] at hb2
        clear hxw xw
        clear hx1 hx2 hx3 hx4 hx5 hx6 hE
        rcases q with _ | _
        · have HD : Hid (decide (xs = ys) = false) := decide_eq_false (HN.out rfl)
          go_wp2
          go_ret
          exact ⟨by rw [HD.out]; rfl, hb.trans hb2⟩
        · have HD : Hid (xs.take (k + 1) = ys.take (k + 1)) := HT.out (HE.out rfl)
          go_wp2
          go_roundw
          case rel => exact ⟨k + 1, by omega, by go_num, HD, hb.trans hb2⟩
          case measure => simp [intOf]; omega
      · have hk' : k = xs.length := by omega
        have h2 := ht.out
        have h3 := hl2.out
        rw [hk', List.take_of_length_le (Nat.le_refl _), List.take_of_length_le (by omega)] at h2
        have H2 := Lib.hid h2
        clear h2 h3 hk'
        go_wp2
        go_ret
        exact ⟨by simp [H2.out], hb⟩
  · go_enter Try.func27, Try.ntmps27
    go_wp2
    · go_ret
      exact ⟨by simp; intro h; subst h; simp at hl, Below.refl _ _⟩
theorem rdS_mk {w : World} {ad : Addr} {cap : Nat} (xs : List St) (hc : xs.length ≤ cap) (hn : xs.length ≤ 9223372036854775807)
    (h : ∀ i (hi : i < xs.length), w.cell? (ad.add (i * 3)) = some (.int .i64 xs[i].1) ∧ w.cell? ((ad.add (i * 3)).add 1) = some (.string xs[i].2.1) ∧ w.cell? ((ad.add (i * 3)).add 2) = some (.string xs[i].2.2)) : RdS w (.slice (some ad) xs.length cap) xs := by
  refine ⟨some ad, cap, rfl, hc, hn, scells_length xs, fun h0 => ?_⟩
  have h1 := (h 0 h0).1
  obtain ⟨b, off, spot⟩ := ad
  have hs : spot = none := by
    have := World.cell?_spot h1
    simpa [Addr.add] using this
  subst hs
  have hadd : ∀ o i, (Addr.mk b o none).add i = ⟨b, o + i, none⟩ := fun o i => by
    unfold Addr.add; split
    · next h => subst h; rfl
    · rfl
  refine ⟨b, off, rfl, ?_, fun j u hu => ?_⟩
  · rcases Nat.lt_or_ge b w.heap.size with hlt | hge
    · exact hlt
    · rw [hadd] at h1
      simp [World.cell?, Array.getElem?_eq_none hge] at h1
  · have hj : j < xs.length * 3 := by rw [← scells_length]; exact (List.getElem?_eq_some_iff.1 hu).1
    have hk : j / 3 < xs.length := by omega
    have hm := scells_at xs (j / 3) _ (List.getElem?_eq_getElem hk)
    have hh := h (j / 3) hk
    rw [hadd, hadd, hadd] at hh
    have h3 : j % 3 = 0 ∨ j % 3 = 1 ∨ j % 3 = 2 := by omega
    rcases h3 with h0 | h0 | h0
    · have e : j / 3 * 3 = j := by omega
      rw [e] at hm hh
      rw [hm.1] at hu
      rw [hh.1, hu]
    · have e : j / 3 * 3 + 1 = j := by omega
      rw [e] at hm
      rw [Nat.add_assoc, e] at hh
      rw [hm.2.1] at hu
      rw [hh.2.1, hu]
    · have e : j / 3 * 3 + 2 = j := by omega
      rw [e] at hm
      have h4 := hh.2.2
      rw [Nat.add_assoc, e] at h4
      rw [hm.2.2] at hu
      rw [h4, hu]
open Go.ChangeShapes Go.WideShapes Go.Deep in
set_option maxRecDepth 100000 in
theorem open_steps {H : Type} {enc : TypeId × Value → H} {W : World} {base fuel : Nat} {spare : Nat → Bool} {held : Bool} {a : Option Addr} {n c : Nat} {x : DataW H × List MemPlace}
    (h : DataW.trod enc Try.prog W base spare held fuel 47 [.slice a n c] = some x) :
    ∃ xs : List St, RdS W (.slice a n c) xs ∧ ∀ m ∈ xs, m.2.1.size ≤ 9223372036854775807 ∧ m.2.2.size ≤ 9223372036854775807 := by
  rcases open_slice Try.underlying47 h with ⟨hcs, _⟩ | ⟨ad, len, cap, m, k, D, Pl, hcs, hb, hl, hm, hmm, hx, hi⟩
  · simp at hcs
    obtain ⟨rfl, rfl, rfl⟩ := hcs
    exact ⟨[], ⟨none, 0, rfl, by simp, by simp, rfl, by simp⟩, by simp⟩
  · simp at hcs
    obtain ⟨rfl, rfl, rfl⟩ := hcs
    have hC : Try.prog.cellsOf 95 = 3 := by kernel_rfl
    have hC2 : Try.prog.cellsOf 80 = 2 := by kernel_rfl
    have hml : n ≤ m := by rw [hmm]; split <;> omega
    have hM : maxLen = 9223372036854775807 := rfl
    obtain ⟨xs, hxl, hxs⟩ := exists_list (fun i (m : St) => W.cell? (ad.add (i * 3)) = some (.int .i64 m.1) ∧ W.cell? ((ad.add (i * 3)).add 1) = some (.string m.2.1) ∧ W.cell? ((ad.add (i * 3)).add 2) = some (.string m.2.2) ∧ m.2.1.size ≤ 9223372036854775807 ∧ m.2.2.size ≤ 9223372036854775807) n (fun i hin => by
      obtain ⟨cs', hc', ht⟩ := hi i (by omega)
      rw [hC] at hc'
      obtain ⟨y0, y1, k', _, hlen, h0, h1⟩ := trod_struct2 Try.underlying95 ht
      obtain ⟨_, hcl, hat⟩ := World.cells?_some hc'
      rw [hC] at hlen
      match cs', hlen with
      | [c0, c1, c2], _ =>
        have e0 : Try.prog.cellsOf 9 = 1 := by kernel_rfl
        have e1 : Try.prog.cellsOf 3 = 1 := by kernel_rfl
        simp only [e1, hC2] at h0 h1
        simp at h0 h1
        obtain ⟨z0, z1, k2, _, hlen2, g0, g1⟩ := trod_struct2 Try.underlying80 h1
        simp only [e0] at g0 g1
        simp at g0 g1
        obtain ⟨kk, hk, _, _⟩ := DataW.trod_int Try.underlying3 h0
        obtain ⟨s, hs, _, hs1⟩ := DataW.trod_string Try.underlying9 g0
        obtain ⟨t, hta, _, ht1⟩ := DataW.trod_string Try.underlying9 g1
        simp at hk hs hta
        subst hk hs hta
        refine ⟨(kk, s, t), ?_, ?_, ?_, hM ▸ hs1, hM ▸ ht1⟩
        · have := hat 0 (by omega)
          simpa [Addr.add] using this
        · have := hat 1 (by omega)
          simpa using this
        · have := hat 2 (by omega)
          simpa using this)
    subst hxl
    refine ⟨xs, rdS_mk xs hl (by omega) fun i hi => ⟨(hxs i hi).1, (hxs i hi).2.1, (hxs i hi).2.2.1⟩, fun m hm => ?_⟩
    obtain ⟨i, hi, rfl⟩ := List.getElem_of_mem hm
    exact (hxs i hi).2.2.2
end Go.Proofs.Yteadhnpmmpninaa
namespace Go.Proofs.Yteadhnpmmpninaa
open Go.RowKit Go.PM

set_option maxRecDepth 100000 in
set_option maxHeartbeats 1600000 in
theorem markStepS_c (xs : List St) (v : Value) (base : Nat) (k : Int) (w : World) (ho : w.ownsRow base 33 3 v xs.length (scells xs)) (hn : xs.length ≤ 1048576) (h1 : 1 ≤ k) (hk : k ≤ 2097152) :
    Calls Try.prog 30 #[v, .int .i64 k] w fun e w' => e = .returned (.int .i64 (k + 3 * (xs.length : Int))) ∧ w'.ownsRow base 33 3 v xs.length (scells (smarks xs.length k.toNat)) ∧ w.grownBy w' v.ownBlock := by
  by_cases h0 : xs.length = 0
  · have hx : xs = [] := List.length_eq_zero_iff.1 h0
    subst hx
    have ho2 := ho
    obtain ⟨A, cap, rfl, _⟩ := Rd.of_own ho
    have ho3 := Lib.hid ho2
    clear ho ho2
    simp only [List.length_nil]
    go_enter Try.func30, Try.ntmps30
    go_wp2
    refine wp_loop_rounds 1 ?_
    rw [rounds_succ]
    go_wp2
    go_ret
    exact ⟨by simp, by simpa [smarks] using ho3.out, grown_refl _ _⟩
  · obtain ⟨g, cap, rfl, _⟩ := ho.form (by omega)
    have hA0 : (0 : Int) < xs.length := by omega
    clear h0
    go_enter Try.func30, Try.ntmps30
    go_wp2
    go_loopw [1, 5] (fun m i wr => ∃ (j : Nat), j ≤ xs.length ∧ i = .int .i64 j ∧ m = .int .i64 (k + 3 * (j : Int)) ∧ wr.ownsRow base 33 3 (.slice (some ⟨g, 0, none⟩) xs.length cap) xs.length (scells (smix xs j k.toNat)) ∧ w.grownBy wr (some g)) (fun _ i _ => xs.length - (intOf i).toNat)
    case atStart => exact ⟨0, by omega, rfl, by simp, by simpa [smix, smarks] using ho, grown_refl _ _⟩
    case round =>
      obtain ⟨j, hj, rfl, rfl, hr, hg⟩ := hrel
      by_cases hlt : j < xs.length
      · have hms := smix_set xs j k.toNat hlt
        have hml := smix_length xs j k.toNat hj
        have HMS := Lib.hid hms
        have hcl : ∀ i, i < xs.length * 3 → ∃ u, (scells (smix xs j k.toNat))[i]? = some u := fun i hi => by
          have : i < (scells (smix xs j k.toNat)).length := by rw [scells_length, hml]; exact hi
          exact ⟨_, List.getElem?_eq_getElem this⟩
        obtain ⟨c0, hc0⟩ := hcl (j * 3) (by omega)
        obtain ⟨c1, hc1⟩ := hcl (j * 3 + 1) (by omega)
        obtain ⟨c2, hc2⟩ := hcl (j * 3 + 2) (by omega)
        have HC := Lib.hid (And.intro hc0 (And.intro hc1 hc2))
        have hlg := (own_lt hr).1
        have hf0 := hr.frozenAt (j * 3)
        have hq0 := (hr.cellAt (j * 3) (by omega)).trans HC.out.1
        clear hms hml hcl hc0 hc1 hc2
        go_wp2_with fail
        have hr0 := (hr.stored (j * 3) (.int .i64 (k + 3 * (j : Int)))).1
        have hg0 := grown_trans hg (hr.stored (j * 3) (.int .i64 (k + 3 * (j : Int)))).2
        clear hr hf0 hq0 hg
        generalize wr.setCell ⟨g, j * 3, none⟩ (.int .i64 (k + 3 * (j : Int))) = w0 at *
        refine (markText_i _ _ (by omega) (by omega)).mono ?_
        rintro e w1 ⟨rfl, hb1⟩
        have hr1 := own_keep hr0 hb1
        have hf1 := hr1.frozenAt (j * 3 + 1)
        have hq1 : w1.cell? ⟨g, j * 3 + 1, none⟩ = some c1 := (hr1.cellAt (j * 3 + 1) (by omega)).trans (by rw [List.getElem?_set_ne (by omega)]; exact HC.out.2.1)
        have hg1 := grown_trans hg0 (grown_below hb1 (some g))
        clear hr0 hg0
        go_wp2_with fail
        have hr2 := (hr1.stored (j * 3 + 1) (.string (mT (k + 3 * (j : Int) + 1).toNat))).1
        have hg2 := grown_trans hg1 (hr1.stored (j * 3 + 1) (.string (mT (k + 3 * (j : Int) + 1).toNat))).2
        clear hr1 hf1 hq1 hg1
        generalize w1.setCell ⟨g, j * 3 + 1, none⟩ (.string (mT (k + 3 * (j : Int) + 1).toNat)) = w2 at *
        refine (markText_i _ _ (by omega) (by omega)).mono ?_
        rintro e w3 ⟨rfl, hb3⟩
        have hr3 := own_keep hr2 hb3
        have hf3 := hr3.frozenAt (j * 3 + 1 + 1)
        have hq3 : w3.cell? ⟨g, j * 3 + 1 + 1, none⟩ = some c2 := (hr3.cellAt (j * 3 + 1 + 1) (by omega)).trans (by rw [List.getElem?_set_ne (by omega), List.getElem?_set_ne (by omega)]; exact HC.out.2.2)
        have hg3 := grown_trans hg2 (grown_below hb3 (some g))
        clear hr2 hg2
        go_wp2
        go_roundw
        case rel =>
          refine ⟨j + 1, by omega, by go_num, by go_num, ?_, ?_⟩
          · rw [← HMS.out]
            have e0 : ((k.toNat + 3 * j : Nat) : Int) = k + 3 * (j : Int) := by omega
            have e1 : (k + 3 * (j : Int) + 1).toNat = k.toNat + 3 * j + 1 := by omega
            have e2 : (k + 3 * (j : Int) + 1 + 1).toNat = k.toNat + 3 * j + 2 := by omega
            have h := (hr3.stored (j * 3 + 1 + 1) (.string (mT (k + 3 * (j : Int) + 1 + 1).toNat))).1
            rw [e1, e2] at h
            rw [e0, e2]
            exact h
          · exact grown_trans hg3 (hr3.stored (j * 3 + 1 + 1) _).2
        case measure => simp [intOf]; omega
      · have hj' : j = xs.length := by omega
        have h3 := hr
        rw [hj'] at h3
        have e3 : smix xs xs.length k.toNat = smarks xs.length k.toNat := by simp [smix]
        rw [e3] at h3
        have HJ : Hid ((j : Int) = xs.length) := by show _ = _; rw [hj']
        clear hj' e3
        go_wp2
        go_ret
        exact ⟨by rw [← HJ.out]; rfl, h3, hg⟩
end Go.Proofs.Yteadhnpmmpninaa
namespace Go.Proofs.Yteadhnpmmpninaa
open Go.RowKit Go.PM
set_option maxRecDepth 100000 in
set_option maxHeartbeats 1600000 in
theorem heldStepS_c (n : Nat) (v : Value) (k : Int) (w : World) (hx : RdS w v (smarks n k.toNat)) (hn : n ≤ 1048576) (h1 : 1 ≤ k) (hk : k ≤ 4194304) :
    Calls Try.prog 31 #[v, .int .i64 k] w fun e w' => e = .returned (.int .i64 (k + 3 * (n : Int))) ∧ Below w.heap.size w w' := by
  obtain ⟨A, cap, hv, hnn, hc, hcell⟩ := hx.open
  rw [smarks_length] at hv hnn hc
  subst hv
  go_enter Try.func31, Try.ntmps31
  go_wp2
  go_loopw [1, 5] (fun m i wr => ∃ (j : Nat), j ≤ n ∧ i = .int .i64 j ∧ m = .int .i64 (k + 3 * (j : Int)) ∧ Below w.heap.size w wr) (fun _ i _ => n - (intOf i).toNat)
  case atStart => exact ⟨0, by omega, rfl, by simp, Below.refl _ _⟩
  case round =>
    obtain ⟨j, hj, rfl, rfl, hb⟩ := hrel
    have hbs := hb.size
    by_cases hlt : j < n
    · obtain ⟨b, off, rfl, hbl, hc0, hc1, hc2⟩ := hcell j (by rw [smarks_length]; exact hlt)
      rw [smarks_at] at hc0 hc1 hc2
      have e0 : ((k.toNat + 3 * j : Nat) : Int) = k + 3 * (j : Int) := by omega
      have e1 : (k + 3 * (j : Int) + 1).toNat = k.toNat + 3 * j + 1 := by omega
      have e2 : (k + 3 * (j : Int) + 1 + 1).toNat = k.toNat + 3 * j + 2 := by omega
      simp only at hc0 hc1 hc2
      rw [e0] at hc0
      rw [← e1] at hc1
      rw [← e2] at hc2
      have hd0 : wr.cell? ⟨b, off + j * 3, none⟩ = some (.int .i64 (k + 3 * (j : Int))) := (hb.cell (p := ⟨b, _, none⟩) hbl).trans hc0
      have hx1 : ∀ x : Ext w.heap.size wr, x.val.cell? ⟨b, off + j * 3 + 1, none⟩ = some (.string (mT (k + 3 * (j : Int) + 1).toNat)) := fun x => ((x.property.cell (p := ⟨b, _, none⟩) hbl).trans (hb.cell (p := ⟨b, _, none⟩) hbl)).trans hc1
      clear e0 e1 e2 hcell
      have i0 : (0 : Int) ≤ (j : Int) := by omega
      have i1 : (j : Int) < n := by omega
      go_wp2
      refine wp_region_ext w.heap.size (by kernel_rfl) (by kernel_rfl) ?_
      repeat (go_big_quiet_step ((go_at_call 67; exact ext_call _ hb.size (markText_i _ _ (by omega) (by omega)))))
      refine wpQuiet_nil ?_
      intro w2 hw'
      obtain ⟨xw, hxw⟩ := hw'
      have hb2 := xw.property
      rw [← hxw] at hb2
      clear hxw xw
      have hbw2 := hb.trans hb2
      have hd2 : w2.cell? ⟨b, off + j * 3 + 2, none⟩ = some (.string (mT (k + 3 * (j : Int) + 1 + 1).toNat)) := (hbw2.cell (p := ⟨b, _, none⟩) hbl).trans hc2
      have hx2 : ∀ x : Ext w.heap.size w2, x.val.cell? ⟨b, off + j * 3 + 2, none⟩ = some (.string (mT (k + 3 * (j : Int) + 1 + 1).toNat)) := fun x => (x.property.cell (p := ⟨b, _, none⟩) hbl).trans hd2
      clear hx1 hd2 hb2 hc0 hc1 hc2 hd0
      have hbs2 := hbw2.size
      go_wp2
      refine wp_region_ext w.heap.size (by kernel_rfl) (by kernel_rfl) ?_
      repeat (go_big_quiet_step ((go_at_call 67; exact ext_call _ hbw2.size (markText_i _ _ (by omega) (by omega)))))
      refine wpQuiet_nil ?_
      intro w3 hw'
      obtain ⟨xw, hxw⟩ := hw'
      have hb3 := xw.property
      rw [← hxw] at hb3
      clear hxw xw
      clear hx2
      go_wp2
      go_roundw
      case rel => exact ⟨j + 1, by omega, by go_num, by go_num, hbw2.trans hb3⟩
      case measure => simp [intOf]; omega
    · have HJ : Hid ((j : Int) = n) := by show _ = _; omega
      go_wp2
      go_ret
      exact ⟨by rw [← HJ.out]; rfl, hb⟩
end Go.Proofs.Yteadhnpmmpninaa
namespace Go.Proofs.Yteadhnpmmpninaa
open Go.RowKit Go.PM Go.PS
set_option maxRecDepth 100000 in
set_option maxHeartbeats 6400000 in
theorem exNeighbourSwaps (w : World) (xs0 : List Mv) (v0 : Value) (hx0 : RdM w v0 xs0) (hz0 : ∀ m ∈ xs0, m.1.size ≤ 9223372036854775807 ∧ m.2.size ≤ 9223372036854775807) :
    Calls Try.prog 11 #[v0] w fun e w' => e = .returned (.bool true) ∧ Below w.heap.size w w' := by
  obtain ⟨ys, hys⟩ : ∃ ys, ys = swL (nbM xs0) := ⟨_, rfl⟩
  have hly : ys.length ≤ 1048576 := by rw [hys]; exact (by rw [swL_len]; have := nbM_le xs0; omega)
  have HYS := Lib.hid hys
  clear hys
  go_enter Try.func11, Try.ntmps11
  go_wp2_with fail
  refine (szMoveS_c xs0 v0 1048576 _ (by decide) (by decide) hx0 hz0).mono ?_
  rintro e w1 ⟨⟨r0, rfl, hr0, hq0⟩, Hw1⟩
  have HR0 := Lib.hid hr0
  clear hr0
  have Bw1 := Hw1
  have Zw1 := Bw1.size
  by_cases hneg0 : r0 < 0
  · go_wp2
    go_ret
    exact ⟨rfl, Bw1⟩
  have hl0 : xs0.length ≤ 1048576 := by have := HR0.out (by omega); have := msize_len xs0; omega
  go_wp2_with fail
  refine (toMoveS_c xs0 v0 _ (hx0.below Bw1) hl0).mono ?_
  rintro e w2 ⟨c0, rfl, o_c0, Hw2⟩
  have Bw2 : Below w.heap.size w w2 := Bw1.trans (Hw2.mono Zw1)
  have Zw2 := Bw2.size
  go_wp2_with fail
  refine (spNeighbourSwaps_c xs0 c0 _ (Rd.of_own o_c0) hz0 hl0).mono ?_
  rw [show swL (nbM xs0) = ys from HYS.out.symm]
  rintro e w3 ⟨s, rfl, o_s, Hw3⟩
  have ne_c0_s := own_ne o_c0 o_s (Nat.le_refl _)
  have Bw3 : Below w.heap.size w w3 := Bw2.trans (Hw3.mono Zw2)
  have Zw3 := Bw3.size
  have c0_w3 := own_keep o_c0 Hw3
  go_wp2_with fail
  refine (toMoveS_c xs0 v0 _ (hx0.below Bw3) hl0).mono ?_
  rintro e w4 ⟨x0, rfl, o_x0, Hw4⟩
  have ne_s_x0 := own_ne o_s o_x0 (Nat.le_refl _)
  have Bw4 : Below w.heap.size w w4 := Bw3.trans (Hw4.mono Zw3)
  have Zw4 := Bw4.size
  have s_w4 := own_keep o_s Hw4
  go_wp2_with fail
  refine (imNeighbourSwaps_c xs0 x0 _ (Rd.of_own o_x0)).mono ?_
  rw [show swL (nbM xs0) = ys from HYS.out.symm]
  rintro e w5 ⟨g, rfl, o_g, Hw5⟩
  have ne_s_g := own_ne s_w4 o_g (Nat.le_refl _)
  have ne_x0_g := own_ne o_x0 o_g (Nat.le_refl _)
  have Bw5 : Below w.heap.size w w5 := Bw4.trans (Hw5.mono Zw4)
  have Zw5 := Bw5.size
  have s_w5 := own_keep s_w4 Hw5
  have x0_w5 := own_keep o_x0 Hw5
  go_wp2_with fail
  refine (eqStepS_c ys ys g s _ (Rd.of_own o_g) (Rd.of_own s_w5)).mono ?_
  rintro e w6 ⟨he, Hw6⟩
  rw [show decide (ys = ys) = true by simp] at he
  subst he
  have Bw6 : Below w.heap.size w w6 := Bw5.trans (Hw6.mono Zw5)
  have Zw6 := Bw6.size
  have s_w6 := own_keep s_w5 Hw6
  have x0_w6 := own_keep x0_w5 Hw6
  have g_w6 := own_keep o_g Hw6
  go_wp2_with fail
  refine (toMoveS_c xs0 v0 _ (hx0.below Bw6) hl0).mono ?_
  rintro e w7 ⟨t0, rfl, o_t0, Hw7⟩
  have ne_s_t0 := own_ne s_w6 o_t0 (Nat.le_refl _)
  have ne_x0_t0 := own_ne x0_w6 o_t0 (Nat.le_refl _)
  have ne_g_t0 := own_ne g_w6 o_t0 (Nat.le_refl _)
  have Bw7 : Below w.heap.size w w7 := Bw6.trans (Hw7.mono Zw6)
  have Zw7 := Bw7.size
  have s_w7 := own_keep s_w6 Hw7
  have x0_w7 := own_keep x0_w6 Hw7
  have g_w7 := own_keep g_w6 Hw7
  go_wp2_with fail
  refine (eqMoveS_c xs0 xs0 x0 t0 _ (Rd.of_own x0_w7) (Rd.of_own o_t0)).mono ?_
  rintro e w8 ⟨he, Hw8⟩
  rw [show decide (xs0 = xs0) = true by simp] at he
  subst he
  have Bw8 : Below w.heap.size w w8 := Bw7.trans (Hw8.mono Zw7)
  have Zw8 := Bw8.size
  have s_w8 := own_keep s_w7 Hw8
  have x0_w8 := own_keep x0_w7 Hw8
  have g_w8 := own_keep g_w7 Hw8
  have t0_w8 := own_keep o_t0 Hw8
  go_wp2_with fail
  refine (markMoveS_c xs0 x0 _ 1 _ x0_w8 hl0 (by omega) (by omega)).mono ?_
  rintro e w9 ⟨rfl, _, Hw9⟩
  have Bw9 := Bw8.trans (below_grown Hw9 (B := w.heap.size) Zw8 (fun g hg => by have := own_block_ge o_x0 g hg; omega))
  have Zw9 := Bw9.size
  have Yw9 := Hw9.size
  have s_w9 := own_grown s_w8 Hw9 ne_s_x0
  have g_w9 := own_grown g_w8 Hw9 (ne_turn ne_x0_g)
  go_wp2_with fail
  refine (eqStepS_c ys ys g s _ (Rd.of_own g_w9) (Rd.of_own s_w9)).mono ?_
  rintro e w10 ⟨he, Hw10⟩
  rw [show decide (ys = ys) = true by simp] at he
  subst he
  have Bw10 : Below w.heap.size w w10 := Bw9.trans (Hw10.mono Zw9)
  have Zw10 := Bw10.size
  have s_w10 := own_keep s_w9 Hw10
  have g_w10 := own_keep g_w9 Hw10
  go_wp2_with fail
  refine (markStepS_c ys g _ 1 _ g_w10 hly (by omega) (by omega)).mono ?_
  rintro e w11 ⟨rfl, om_g, Hw11⟩
  have Bw11 := Bw10.trans (below_grown Hw11 (B := w.heap.size) Zw10 (fun g hg => by have := own_block_ge o_g g hg; omega))
  have Zw11 := Bw11.size
  have Yw11 := Hw11.size
  have s_w11 := own_grown s_w10 Hw11 ne_s_g
  have k_w11 : RdS w11 g (smarks ys.length 1) := by
    have := Rd.of_own om_g
    unfold RdS; rw [smarks_length]; exact this
  go_wp2_with fail
  refine (heldStepS_c ys.length g 1 _ k_w11 hly (by decide) (by decide)).mono ?_
  rintro e w12 ⟨rfl, Hw12⟩
  have Bw12 : Below w.heap.size w w12 := Bw11.trans (Hw12.mono Zw11)
  have Zw12 := Bw12.size
  have s_w12 := own_keep s_w11 Hw12
  have k_w12 := k_w11.below Hw12
  go_wp2_with fail
  refine (toMoveS_c xs0 v0 _ (hx0.below Bw12) hl0).mono ?_
  rintro e w13 ⟨d0, rfl, o_d0, Hw13⟩
  have ne_s_d0 := own_ne s_w12 o_d0 (Nat.le_refl _)
  have Bw13 : Below w.heap.size w w13 := Bw12.trans (Hw13.mono Zw12)
  have Zw13 := Bw13.size
  have s_w13 := own_keep s_w12 Hw13
  have k_w13 := k_w12.below Hw13
  go_wp2_with fail
  refine (imNeighbourSwaps_c xs0 d0 _ (Rd.of_own o_d0)).mono ?_
  rw [show swL (nbM xs0) = ys from HYS.out.symm]
  rintro e w14 ⟨h, rfl, o_h, Hw14⟩
  have ne_s_h := own_ne s_w13 o_h (Nat.le_refl _)
  have ne_d0_h := own_ne o_d0 o_h (Nat.le_refl _)
  have Bw14 : Below w.heap.size w w14 := Bw13.trans (Hw14.mono Zw13)
  have Zw14 := Bw14.size
  have s_w14 := own_keep s_w13 Hw14
  have d0_w14 := own_keep o_d0 Hw14
  have k_w14 := k_w13.below Hw14
  go_wp2_with fail
  refine (eqStepS_c ys ys h s _ (Rd.of_own o_h) (Rd.of_own s_w14)).mono ?_
  rintro e w15 ⟨he, Hw15⟩
  rw [show decide (ys = ys) = true by simp] at he
  subst he
  have Bw15 : Below w.heap.size w w15 := Bw14.trans (Hw15.mono Zw14)
  have Zw15 := Bw15.size
  have s_w15 := own_keep s_w14 Hw15
  have h_w15 := own_keep o_h Hw15
  have k_w15 := k_w14.below Hw15
  go_wp2_with fail
  refine (heldStepS_c ys.length g 1 _ k_w15 hly (by decide) (by decide)).mono ?_
  rintro e w16 ⟨rfl, Hw16⟩
  go_wp2
  go_ret
  exact ⟨rfl, Bw15.trans (Hw16.mono Zw15)⟩

namespace fnExactNeighbourSwaps
open Go.RowKit Go.PM Go.ChangeShapes Go.WideShapes Go.ChangeAt
open Go.ChangeMaps (open_string shut_string)
set_option maxRecDepth 100000 in
theorem lifted (os : Os) (started : os.Started) (H : Type) (enc : TypeId × Value → H) :
    ReturnsInHanded {} Try.checked os 11 .any (Rows.fnExactNeighbourSwapsSpec.pre6 enc Try.prog Try.f11 Rows.fnExactNeighbourSwapsRow.domain false) (Rows.fnExactNeighbourSwapsSpec.post enc Try.prog Try.f11 false true false false) := by
  refine returnsInHanded_of_change (C := Try.checked) own started (by kernel_rfl) Try.func11
    (ChangeSpec.witness6 (enc := enc) (C := Try.checked) false ⟨#[], #[.slice none 0 0], []⟩ 8 (by kernel_rfl) (by kernel_rfl) (by kernel_rfl) (by kernel_rfl)) ?_
  intro W base args ds gs before hval0 hW hcnd _
  have hval : ∀ (j : Nat) t v, Try.f11.params[j]? = some t → args[j]? = some v → Value.okWide Try.prog W .any base t v := hval0
  have hW' := hW
  obtain ⟨p, q, hA0, hV, rfl, hfz, hnd⟩ := hW
  have hA : DataW.TrodAll enc Try.prog W 0 (fun _ => true) true Try.f11.params.toList args.toList ds p := hA0
  rw [Try.params11] at hA hval
  obtain ⟨v0, vs0, d0, ds0, p0, q0, hargs, rfl, rfl, h0, r0⟩ := trodAll_cons hA
  obtain ⟨rfl, rfl, rfl⟩ := trodAll_nil r0
  obtain rfl : args = #[v0] := by cases args; simp_all
  obtain ⟨rfl, rfl⟩ := trodVars_none hV
  have k0 := h0
  have lt0 : ∀ x ∈ p0, x.block < W.heap.size := by obtain ⟨m, hm⟩ := k0; exact DataW.trod_lt m _ _ _ hm
  obtain ⟨a0, len0, cap0, rfl⟩ := okWide_slice Try.underlying40 (hval 0 40 v0 rfl rfl)
  obtain ⟨xs0, hx0, hz0⟩ : ∃ xs : List Mv, RdM W (.slice a0 len0 cap0) xs ∧ ∀ m ∈ xs, m.1.size ≤ 9223372036854775807 ∧ m.2.size ≤ 9223372036854775807 := by obtain ⟨fuel, hf⟩ := h0; exact open_moves hf
  clear hA0 hval0
  refine (exNeighbourSwaps W xs0 _ hx0 hz0).mono fun e W' ⟨he, bel⟩ => ?_
  subst he
  exact ⟨_, rfl, _, _, _, [], _, [], hW', trodAll_mk1 (shut_bool Try.underlying4 _), (trodAll_cons_mk (Below.trod laidOut (by kernel_rfl) (of_decide_eq_true (by kernel_rfl)) k0 bel lt0) trodAll_mk0), rfl, bel.frame _, fun h => by cases h⟩

theorem over : Rows.fnExactNeighbourSwapsRow.holds Try.pinned (OpenSpec.ofChange Rows.fnExactNeighbourSwapsSpec) :=
  OpenClaim.holds_of_wide 11 Try.f11 rfl rfl rfl rfl rfl rfl rfl ⟨rfl, rfl, rfl, rfl, rfl⟩ rfl rfl rfl rfl rfl (by kernel_rfl) Try.func11 (by kernel_rfl)
    (of_decide_eq_true (by kernel_rfl)) (by unfold Func.isWrapper; first | (rw [if_pos (by decide +kernel)]; kernel_rfl) | (rw [if_neg (by decide +kernel)]; exact ⟨rfl, rfl⟩))
    (fun os started H enc _ => lifted os started H enc)

/-- The statement. -/
theorem proved : Rows.FnExactNeighbourSwapsSaid := over
end fnExactNeighbourSwaps
end Go.Proofs.Yteadhnpmmpninaa
