/- Proved: for every input of the form's own reach the law FnCost answers true and its arguments read afterwards as before; no further condition. -/
import Derived.Test.YteadhnpmmpninaaGreatLawFCostJC
import Derived.Test.YteadhnpmmpninaaGreatDrawE
import Derived.Test.YteadhnpmmpninaaGreatDrawL3
import Derived.Test.YteadhnpmmpninaaGreatLawFCostJB
import Derived.Test.YteadhnpmmpninaaGreatHold
import Derived.Test.YteadhnpmmpninaaGreatSp1
import Derived.Test.YteadhnpmmpninaaGreatLawFCostJA
import Derived.Test.YteadhnpmmpninaaGreatRing
import Derived.Test.YteadhnpmmpninaaGreatTail
import Derived.Test.YteadhnpmmpninaaGreatNames
import Derived.Test.YteadhnpmmpninaaGreatSource
import Derived.Test.YteadhnpmmpninaaGreatWay
import Derived.Test.YteadhnpmmpninaaGreatNamesIn
import Derived.Test.YteadhnpmmpninaaGreatRow
import Derived.Test.YteadhnpmmpninaaGreatRows
import Derived.Test.YteadhnpmmpninaaGreatLib
import Derived.ProofKit
import Derived.OpenShut
import Derived.ShutString
import Derived.ChangeOld
import Derived.Deep.Slices
import Derived.ChangeSame
import Derived.Carry
import Derived.Test.YteadhnpmmpninaaGreatDraw
import Derived.Test.YteadhnpmmpninaaGreatReaders
import Derived.Test.YteadhnpmmpninaaGreatDraw3
import Derived.Test.YteadhnpmmpninaaGreatHar
namespace Go.PS
open Go.PM Go.RowKit
theorem rsW_lt : ∀ (n : Nat) (g : Nat → Nat) (p : Nat), Prm g → p < 9 → ∀ x ∈ (rsW n g p).1, x.1 < 9 ∧ x.2 < 9
  | 0, g, p, _, _ => by simp [rsW]
  | n + 1, g, p, h, hp => by
    by_cases e : hold g p = p
    · rw [rsW_stop _ e]; simp
    · rw [rsW_go _ e]
      have h1 := h.hold hp
      have h2 := rsW_lt n _ _ (h.swp hp h1.1) h1.1
      intro x hx
      rw [List.mem_cons] at hx
      rcases hx with rfl | hx
      · exact ⟨hp, h1.1⟩
      · exact h2 x hx
theorem rsA_lt {g : Nat → Nat} (h : Prm g) : ∀ k, k ≤ 9 → ∀ x ∈ (rsA k g).1, x.1 < 9 ∧ x.2 < 9
  | 0, _ => by simp [rsA]
  | k + 1, hk => by
    intro x hx
    simp only [rsA, List.mem_append] at hx
    rcases hx with hx | hx
    · exact rsA_lt h k (by omega) x hx
    · exact rsW_lt 9 _ k (rsA_prm h k (by omega)) (by omega) x hx
theorem rwM_lt {xs : List Mv} (h : MV xs) : ∀ x ∈ rwM xs, x.1 < 9 ∧ x.2 < 9 := by
  rw [← rw_del h]; exact rsA_lt (inv_prm (del_exch h)) 9 (Nat.le_refl _)
theorem takM_ok {xs : List Mv} (h : MV xs) : ∀ m ∈ takM xs, (isP m.1 = true ∨ m.1 = spT) ∧ okR m.2 := fun m hm =>
  have hw := busyF_Wt h
  have hb := tak_sub 9 _ m hm
  ⟨.inl (hw.to_ _ hb), hw.from_ _ hb⟩
theorem owS_ok {xs : List Mv} (h : MV xs) : ∀ x ∈ owS xs, stOk x = true := by
  rw [owS_yes (by simpa [mvalid] using h)]
  intro x hx
  rw [List.mem_append] at hx
  rcases hx with hx | hx
  · obtain ⟨m, hm, rfl⟩ := List.mem_map.1 hx
    exact stOk_M (takM_ok h m hm).1 (takM_ok h m hm).2
  · obtain ⟨p, hp, rfl⟩ := List.mem_map.1 hx
    obtain ⟨h1, h2⟩ := rwM_lt h p hp
    have a1 := (cidx_P (isP_nm h1)).1
    have a2 := (cidx_P (isP_nm h2)).1
    unfold stOk swS
    simp only [a1, a2]
    rfl
theorem owS_valid {xs : List Mv} (h : MV xs) : svalid (owS xs) = true := by
  unfold svalid
  rw [Bool.and_eq_true, decide_eq_true_eq, List.all_eq_true]
  exact ⟨by have := owS_le xs; omega, owS_ok h⟩
end Go.PS
namespace Go.Proofs.YteadhnpmmpninaaGreat
open Go.RowKit Go.PM Go.PS
attribute [local go_sem] Oper.semAt_some

set_option maxRecDepth 100000 in
set_option maxHeartbeats 1600000 in
theorem spBestCost_c (xs : List Mv) (s : Int) (v : Value) (w : World) (hx : RdM w v xs) (hz : ∀ m ∈ xs, m.1.size ≤ 9223372036854775807 ∧ m.2.size ≤ 9223372036854775807) (hn' : xs.length ≤ 1048576) :
    Calls Tryz.prog 21 #[v, .int .i64 s] w fun e w' => e = .returned (.int .i64 (bestI xs s)) ∧ Below w.heap.size w w' := by
  have HC : Hid (bestI xs s = if mvalid xs = true ∧ 0 ≤ s ∧ s ≤ 100 then min (costN s (owS xs)) (cioI xs) else -1) := rfl
  have HO := Lib.hid (spOrderWithSwaps_c xs v w hx hz hn')
  have HI := Lib.hid (fun W => l1In_c s 0 100 W)
  rcases Bool.eq_false_or_eq_true (mvalid xs) with hv | hv
  · by_cases hs : 0 ≤ s ∧ s ≤ 100
    · have hI : inB s 0 100 = true := by rw [inB_cost]; simpa using hs
      have HC' : Hid (bestI xs s = min (costN s (owS xs)) (cioI xs)) := by have := HC.out; rwa [if_pos ⟨hv, hs.1, hs.2⟩] at this
      have HL := Lib.hid (fun v W (h : RdS W v (owS xs)) => l7Cost_c s hs.1 hs.2 (owS xs) (by have := owS_le xs; omega) v W h)
      have HN := Lib.hid (fun W (h : RdM W v xs) => spCountInOrder_c xs v W h hz hn')
      have HX := Lib.hid hx
      rw [hI] at HI
      rw [hv] at HO
      clear HC hs hI hv hx hz hn'
      generalize bestI xs s = bi at *
      have hmn : ∀ (w : World) (ts : Array TypeId) (t : TypeId), (Builtin.min_ ts t #[.int .i64 (costN s (owS xs)), .int .i64 (cioI xs)]).run Tryz.prog w = .ok (.int .i64 bi) w := fun w ts t => by
        rw [run_min_int2, HC'.out]; congr 2; rw [Int.min_def]; split <;> split <;> omega
      clear HC'
      generalize costN s (owS xs) = c1 at *
      generalize cioI xs = c2 at *
      go_enter Tryz.func21, Tryz.ntmps21
      go_wp2_with fail
      refine HO.out.mono ?_
      rintro e w1 ⟨v1, rfl, ho1, hb1⟩
      have hr1 := Rd.of_own ho1
      have hx1 := HX.out.below hb1
      clear HO ho1
      go_wp2_with (first | (go_at_call 54; refine (HI.out _).mono ?_; rintro e w' ⟨rfl, rfl⟩) | (go_at_call 55; refine (HL.out _ _ hr1).mono ?_; rintro e w2 ⟨rfl, hb2⟩) | (go_at_call 56; refine (HN.out _ (hx1.below hb2)).mono ?_; rintro e w3 ⟨rfl, hb3⟩))
      go_ret
      exact ⟨rfl, (hb1.trans (hb2.mono hb1.size)).trans (hb3.mono (Nat.le_trans hb1.size hb2.size))⟩
    · have hI : inB s 0 100 = false := by rw [inB_cost]; simpa using hs
      have HC' : Hid (bestI xs s = -1) := by have := HC.out; rwa [if_neg (fun h => hs ⟨h.2.1, h.2.2⟩)] at this
      rw [hI] at HI
      rw [hv] at HO
      clear HC hs hI hv hx hz
      go_enter Tryz.func21, Tryz.ntmps21
      go_wp2_with fail
      refine HO.out.mono ?_
      rintro e w1 ⟨v1, rfl, ho1, hb1⟩
      clear HO ho1
      go_wp2_with (first | (go_at_call 54; refine (HI.out _).mono ?_; rintro e w' ⟨rfl, rfl⟩))
      go_ret
      exact ⟨by rw [HC'.out]; rfl, hb1⟩
  · have HC' : Hid (bestI xs s = -1) := by have := HC.out; rwa [if_neg (fun h => by rw [hv] at h; cases h.1)] at this
    rw [hv] at HO
    clear HC hv hx hz
    go_enter Tryz.func21, Tryz.ntmps21
    go_wp2_with fail
    refine HO.out.mono ?_
    rintro e w1 ⟨v1, rfl, ho1, hb1⟩
    clear HO ho1
    go_wp2
    go_ret
    exact ⟨by rw [HC'.out]; rfl, hb1⟩
theorem costI_neg {xs : List St} {s : Int} (h : svalid xs = true) : costI xs s = if 0 ≤ s ∧ s ≤ 100 then costN s xs else -1 := by
  unfold costI
  by_cases hs : 0 ≤ s ∧ s ≤ 100
  · rw [if_pos ⟨h, hs⟩, if_pos hs]
  · rw [if_neg (fun e => hs e.2), if_neg hs]
set_option maxRecDepth 100000 in
set_option maxHeartbeats 1600000 in
theorem imBestCost_c (xs : List Mv) (s : Int) (v : Value) (w : World) (hx : RdM w v xs) (hn' : xs.length ≤ 1048576) :
    Calls Tryz.prog 18 #[v, .int .i64 s] w fun e w' => e = .returned (.int .i64 (bestI xs s)) ∧ Below w.heap.size w w' := by
  have HC : Hid (bestI xs s = if mvalid xs = true ∧ 0 ≤ s ∧ s ≤ 100 then min (costN s (owS xs)) (cioI xs) else -1) := rfl
  have HO := Lib.hid (imOrderWithSwaps_c xs v w hx)
  have HS := Lib.hid (fun v W (h : RdS W v (owS xs)) => imSwapCost_c (owS xs) s v W h)
  rcases Bool.eq_false_or_eq_true (mvalid xs) with hv | hv
  · have hc := costI_neg (s := s) (owS_valid (by simpa [mvalid] using hv))
    by_cases hs : 0 ≤ s ∧ s ≤ 100
    · have HC' : Hid (bestI xs s = min (costN s (owS xs)) (cioI xs)) := by have := HC.out; rwa [if_pos ⟨hv, hs.1, hs.2⟩] at this
      rw [if_pos hs] at hc
      rw [hc] at HS
      have hge := (costN_le hs.1 hs.2 (owS xs)).1
      have HN := Lib.hid (fun W (h : RdM W v xs) => imCountInOrder_c xs v W h hn')
      have HX := Lib.hid hx
      rw [hv] at HO
      clear HC hs hv hx hn' hc
      generalize bestI xs s = bi at *
      have hmn : ∀ (w : World) (ts : Array TypeId) (t : TypeId), (Builtin.min_ ts t #[.int .i64 (costN s (owS xs)), .int .i64 (cioI xs)]).run Tryz.prog w = .ok (.int .i64 bi) w := fun w ts t => by
        rw [run_min_int2, HC'.out]; congr 2; rw [Int.min_def]; split <;> split <;> omega
      clear HC'
      generalize costN s (owS xs) = c1 at *
      generalize cioI xs = c2 at *
      go_enter Tryz.func18, Tryz.ntmps18
      go_wp2_with fail
      refine HO.out.mono ?_
      rintro e w1 ⟨v1, rfl, ho1, hb1⟩
      have hr1 := Rd.of_own ho1
      have hx1 := HX.out.below hb1
      clear HO ho1
      go_wp2_with (first | (go_at_call 20; refine (HS.out _ _ hr1).mono ?_; rintro e w2 ⟨rfl, hb2⟩) | (go_at_call 15; refine (HN.out _ (hx1.below hb2)).mono ?_; rintro e w3 ⟨rfl, hb3⟩))
      go_ret
      exact ⟨rfl, (hb1.trans (hb2.mono hb1.size)).trans (hb3.mono (Nat.le_trans hb1.size hb2.size))⟩
    · have HC' : Hid (bestI xs s = -1) := by have := HC.out; rwa [if_neg (fun h => hs ⟨h.2.1, h.2.2⟩)] at this
      rw [if_neg hs] at hc
      rw [hc] at HS
      rw [hv] at HO
      clear HC hs hv hx hc
      go_enter Tryz.func18, Tryz.ntmps18
      go_wp2_with fail
      refine HO.out.mono ?_
      rintro e w1 ⟨v1, rfl, ho1, hb1⟩
      have hr1 := Rd.of_own ho1
      clear HO ho1
      go_wp2_with (first | (go_at_call 20; refine (HS.out _ _ hr1).mono ?_; rintro e w2 ⟨rfl, hb2⟩))
      go_ret
      exact ⟨by rw [HC'.out]; rfl, hb1.trans (hb2.mono hb1.size)⟩
  · have HC' : Hid (bestI xs s = -1) := by have := HC.out; rwa [if_neg (fun h => by rw [hv] at h; cases h.1)] at this
    rw [hv] at HO
    clear HC hv hx
    generalize costI (owS xs) s = ci at *
    go_enter Tryz.func18, Tryz.ntmps18
    go_wp2_with fail
    refine HO.out.mono ?_
    rintro e w1 ⟨v1, rfl, ho1, hb1⟩
    have hr1 := Rd.of_own ho1
    clear HO ho1
    go_wp2_with (first | (go_at_call 20; refine (HS.out _ _ hr1).mono ?_; rintro e w2 ⟨rfl, hb2⟩))
    go_ret
    exact ⟨by rw [HC'.out]; rfl, hb1.trans (hb2.mono hb1.size)⟩
end Go.Proofs.YteadhnpmmpninaaGreat
namespace Go.PS
open Go.PM Go.RowKit
theorem rdB_now {w w' : World} {n : Nat} {v : Value} (h : RdB w w.heap.size v n) (hb : Below w.heap.size w w') : RdB w' w'.heap.size v n := by
  obtain ⟨A, cap, e, h1, h2, h3⟩ := h.keep (grown_below hb none) (fun r e => by cases e)
  refine ⟨A, cap, e, h1, h2, fun k hk => ?_⟩
  obtain ⟨b, off, c, e1, _, hl, hc⟩ := h3 k hk
  exact ⟨b, off, c, e1, hl, hl, hc⟩
end Go.PS
namespace Go.Proofs.YteadhnpmmpninaaGreat
open Go.RowKit Go.PM Go.PS
attribute [local go_sem] Oper.semAt_some

set_option maxRecDepth 100000 in
set_option maxHeartbeats 800000 in
theorem l7Swaps_c (w : World) (B r : Nat) (p : Int) (hr : Rdr w 120 B r p) (p1 : p ≤ 900000) :
    Calls Tryz.prog 50 #[.pointer (some ⟨r, 0, none⟩)] w fun e w' => ∃ x, e = .returned (.int .i64 x) ∧ Rdr w' 120 B r (p + 1) ∧ w.grownBy w' (some r) := by
  have hlt : r < w.heap.size := by obtain ⟨_, _, v, n, _, _, h⟩ := hr; exact h.lt
  have LN : Lits (w.alloc (.cells #[.int .i64 1, .int .i64 2, .int .i64 3, .int .i64 0, .int .i64 100, .int .i64 101, .int .i64 (-1), .int .i64 9223372036854775807] 3)) w.heap.size 8 (fun u => ∃ x, u = .int .i64 x ∧ True) := Lits.new w 3 #[.int .i64 1, .int .i64 2, .int .i64 3, .int .i64 0, .int .i64 100, .int .i64 101, .int .i64 (-1), .int .i64 9223372036854775807] _ (fun u hu => by simp at hu; rcases hu with rfl | rfl | rfl | rfl | rfl | rfl | rfl | rfl <;> exact ⟨_, rfl, trivial⟩)
  have HN := Lib.hid (num_c _ B r w.heap.size 8 p (fun x => True) (hr.keep ((Below.refl _ _).alloc (Nat.le_refl _) _)) (by decide) (by decide) (by omega) LN (by omega))
  clear LN
  go_enter Tryz.func50, Tryz.ntmps50
  go_wp2_with fail
  refine HN.out.mono ?_
  rintro e wn ⟨y, rfl, _, Rn, gn⟩
  have G := grown_trans (grown_below ((Below.refl _ _).alloc (Nat.le_refl _) _) (some r)) gn
  go_wp2
  go_ret
  exact ⟨y, rfl, Rn, G⟩
set_option maxRecDepth 100000 in
set_option maxHeartbeats 800000 in
theorem drawBestCost_c (w : World) (v : Value) (n : Nat) (hv : RdB w w.heap.size v n) :
    Calls Tryz.prog 17 #[v] w fun e w' => ∃ u xs x, e = .returned (.tuple #[u, .int .i64 x]) ∧ w'.ownsRow w.heap.size 45 2 u xs.length (mcells xs) ∧ (xs.length ≤ 65 ∧ ∀ m ∈ xs, m.1.size ≤ 64 ∧ m.2.size ≤ 64) ∧ Below w.heap.size w w' := by
  have HO := Lib.hid (l13Open_c w v n hv)
  go_enter Tryz.func17, Tryz.ntmps17
  go_wp2_with fail
  refine HO.out.mono ?_
  rintro e w1 ⟨r, rfl, R1, b1⟩
  have hs1 := b1.size
  have hB := R1.1
  have HS := Lib.hid (l4Exchange_c w1 _ r 0 R1 (by omega))
  go_wp2_with fail
  refine HS.out.mono ?_
  rintro e w2 ⟨u, xs, p', rfl, ho, hsh, R2, hp, g2⟩
  have HSH := Lib.hid hsh
  have hlt : r < w1.heap.size := by obtain ⟨_, _, v, n, _, _, h⟩ := R1; exact h.lt
  have hs2 := g2.size
  clear HO HS hsh
  have HA := Lib.hid (l7Swaps_c w2 _ r p' R2 (by omega))
  go_wp2_with fail
  refine HA.out.mono ?_
  rintro e w3 ⟨x, rfl, R3, g3⟩
  have ho3 := own_more (own_grown ho g3 (.inl (fun e => by have := own_block_ge ho r e; omega))) hs1
  have b3 : Below w.heap.size w w3 := (b1.trans (below_grown g2 hs1 (fun g e => by cases e; exact hB))).trans (below_grown g3 (by omega) (fun g e => by cases e; exact hB))
  go_wp2
  go_ret2
  exact ⟨_, xs, x, rfl, ho3, HSH.out, b3⟩
set_option maxRecDepth 100000 in
set_option maxHeartbeats 800000 in
theorem drawSwapCost_c (w : World) (v : Value) (n : Nat) (hv : RdB w w.heap.size v n) :
    Calls Tryz.prog 19 #[v] w fun e w' => ∃ u xs x, e = .returned (.tuple #[u, .int .i64 x]) ∧ w'.ownsRow w.heap.size 47 3 u xs.length (scells xs) ∧ shS 70 xs ∧ Below w.heap.size w w' := by
  have HO := Lib.hid (l13Open_c w v n hv)
  go_enter Tryz.func19, Tryz.ntmps19
  go_wp2_with fail
  refine HO.out.mono ?_
  rintro e w1 ⟨r, rfl, R1, b1⟩
  have hs1 := b1.size
  have hB := R1.1
  have HS := Lib.hid (l2Some_c w1 _ r 0 R1 (by omega))
  go_wp2_with fail
  refine HS.out.mono ?_
  rintro e w2 ⟨u, xs, p', rfl, ho, hsh, R2, hp, g2⟩
  have HSH := Lib.hid hsh
  have hlt : r < w1.heap.size := by obtain ⟨_, _, v, n, _, _, h⟩ := R1; exact h.lt
  have hs2 := g2.size
  clear HO HS hsh
  have HA := Lib.hid (l7Swaps_c w2 _ r p' R2 (by omega))
  go_wp2_with fail
  refine HA.out.mono ?_
  rintro e w3 ⟨x, rfl, R3, g3⟩
  have ho3 := own_more (own_grown ho g3 (.inl (fun e => by have := own_block_ge ho r e; omega))) hs1
  have b3 : Below w.heap.size w w3 := (b1.trans (below_grown g2 hs1 (fun g e => by cases e; exact hB))).trans (below_grown g3 (by omega) (fun g e => by cases e; exact hB))
  go_wp2
  go_ret2
  exact ⟨_, xs, x, rfl, ho3, HSH.out, b3⟩
end Go.Proofs.YteadhnpmmpninaaGreat
namespace Go.PM
open Go.RowKit
/-- place p is the first one of a ring of moves that are read once each -/
def Clo (ws : List Mv) (p : Nat) : Prop := ∃ (n : Nat) (o : Nat → ByteArray), 0 < n ∧ o 0 = nm p ∧ o n = nm p ∧ ∀ k, k < n → (o k, o (k + 1)) ∈ ws ∧ rdN ws (o k) = 1 ∧ p ≤ pidx (o k)
theorem ring_wrap {o : Nat → ByteArray} {n k : Nat} (_h0 : 0 < n) (e : o n = o 0) (hk : k < n) : ∃ j, j < n ∧ o (k + 1) = o j := by
  by_cases h : k + 1 < n
  · exact ⟨k + 1, h, rfl⟩
  · exact ⟨0, by omega, by rw [show k + 1 = n by omega, e]⟩
theorem ring_prev {o : Nat → ByteArray} {n k : Nat} (h0 : 0 < n) (e : o n = o 0) (hk : k < n) : ∃ j, j < n ∧ o (j + 1) = o k := by
  by_cases h : k = 0
  · exact ⟨n - 1, by omega, by rw [show n - 1 + 1 = n by omega, e, h]⟩
  · exact ⟨k - 1, by omega, by rw [show k - 1 + 1 = k by omega]⟩
theorem one_reader {ws : List Mv} {a : ByteArray} (h : rdN ws a = 1) {x y : Mv} (hx : x ∈ ws) (hy : y ∈ ws) (ex : x.2 = a) (ey : y.2 = a) : x = y := by
  obtain ⟨i, hi, rfl⟩ := List.getElem_of_mem hx
  have h1 := rdN_erase ws i hi a
  rw [if_pos ex, h] at h1
  have h2 := rdN_zero.1 (show rdN (ws.eraseIdx i) a = 0 by omega)
  rcases erase_or hi hy with e | e
  · exact e.symm
  · exact absurd ey (h2 y e)
theorem redM_rdN {ws : List Mv} {m : Mv} (hne : m.1 ≠ m.2) {a : ByteArray} (h1 : a ≠ m.1) (h2 : a ≠ m.2) : rdN (redM m ws) a = rdN ws a := by
  unfold redM; split
  · rfl
  · exact (instM_rdN m.2 m.1 hne ws).2.2 a h2 h1
/-- a ring of moves that are read once each is what it was when one is done that can be done ahead of all others -/
theorem Clo.some_ {ws : List Mv} (hw : Wt ws) {i : Nat} (hi : i < ws.length) (hf : rdN ws ws[i].1 = 0) (p : Nat) : Clo (redM ws[i] (ws.eraseIdx i)) p ↔ Clo ws p := by
  have hm := List.getElem_mem hi
  have hne := hw.ne _ hm
  have hk1 := erase_key hw.keys hi
  constructor
  · rintro ⟨n, o, hn, e0, en, h⟩
    have een : o n = o 0 := en.trans e0.symm
    have hkey : ∀ k, k < n → (∃ x ∈ ws.eraseIdx i, x.1 = o k) := fun k hk => by
      have h1 := List.mem_map_of_mem (f := (·.1)) (h k hk).1
      rw [redM_keys] at h1
      obtain ⟨x, hx, e⟩ := List.mem_map.1 h1
      exact ⟨x, hx, e⟩
    have hnk : ∀ k, k < n → o k ≠ ws[i].1 := fun k hk e => by
      obtain ⟨x, hx, ex⟩ := hkey k hk
      exact hk1 x hx (ex.trans e)
    have hnm : ∀ k, k < n → o k ≠ ws[i].2 := fun k hk e => by
      obtain ⟨x, hx, ex⟩ := hkey k hk
      have hp := hw.to_ x (erase_mem hx)
      rw [ex, e] at hp
      have hr := (h k hk).2.1
      unfold redM at hr
      rw [if_neg (by rw [(isP_cases hp).1]; decide), e, (instM_rdN ws[i].2 ws[i].1 hne _).1] at hr
      cases hr
    refine ⟨n, o, hn, e0, en, fun k hk => ⟨?_, ?_, (h k hk).2.2⟩⟩
    · have hmem := (h k hk).1
      obtain ⟨j, hj, ej⟩ := ring_wrap hn een hk
      unfold redM at hmem
      split at hmem
      · exact erase_mem hmem
      · obtain ⟨x, hx, e1, (⟨e2, e3⟩ | ⟨e2, e3⟩)⟩ := instM_mem hmem
        · exact absurd (ej ▸ e3) (hnk j hj)
        · rw [e3]; exact erase_mem hx
    · have hr := (h k hk).2.1
      rw [redM_rdN hne (hnk k hk) (hnm k hk)] at hr
      rw [rdN_erase ws i hi, hr, if_neg (fun e => hnm k hk e.symm)]
  · rintro ⟨n, o, hn, e0, en, h⟩
    have een : o n = o 0 := en.trans e0.symm
    have hnk : ∀ k, k < n → o k ≠ ws[i].1 := fun k hk e => by
      have := (h k hk).2.1
      rw [e, hf] at this; cases this
    have hnm : ∀ k, k < n → o k ≠ ws[i].2 := fun k hk e => by
      obtain ⟨j, hj, ej⟩ := ring_prev hn een hk
      have := one_reader (h k hk).2.1 (h j hj).1 hm ej e.symm
      exact hnk j hj (by rw [← this])
    refine ⟨n, o, hn, e0, en, fun k hk => ⟨?_, ?_, (h k hk).2.2⟩⟩
    · have hmem : (o k, o (k + 1)) ∈ ws.eraseIdx i := by
        rcases erase_or hi (h k hk).1 with e | e
        · exact absurd (by rw [← e]) (hnk k hk)
        · exact e
      obtain ⟨j, hj, ej⟩ := ring_wrap hn een hk
      unfold redM
      split
      · exact hmem
      · unfold instM
        refine List.mem_map.2 ⟨_, hmem, ?_⟩
        rw [if_neg]
        show ¬ o (k + 1) = _
        rw [ej]; exact hnm j hj
    · rw [redM_rdN hne (hnk k hk) (hnm k hk)]
      have := rdN_erase ws i hi (o k)
      rw [if_neg (fun e => hnm k hk e.symm), (h k hk).2.1] at this
      omega
/-- the moves stand in the order of their places -/
def Srt (ws : List Mv) : Prop := ws.Pairwise fun a b => pidx a.1 < pidx b.1
theorem Srt.of_keys {ws vs : List Mv} (h : Srt ws) (e : vs.map (·.1) = ws.map (·.1)) : Srt vs := by
  have h1 : (ws.map (·.1)).Pairwise fun a b => pidx a < pidx b := List.pairwise_map.2 h
  rw [← e] at h1
  exact (List.pairwise_map (f := fun m : Mv => m.1) (R := fun a b => pidx a < pidx b)).1 h1
theorem Srt.erase {ws : List Mv} (h : Srt ws) (i : Nat) : Srt (ws.eraseIdx i) := List.Pairwise.sublist (List.eraseIdx_sublist ws i) h
theorem Srt.first {ws : List Mv} (h : Srt ws) (h0 : 0 < ws.length) : ∀ m ∈ ws, pidx ws[0].1 ≤ pidx m.1 := by
  cases ws with
  | nil => simp at h0
  | cons x xs =>
    intro m hm
    rw [List.mem_cons] at hm
    rcases hm with rfl | hm
    · exact Nat.le_refl _
    · exact Nat.le_of_lt ((List.pairwise_cons.1 h).1 m hm)
theorem pidx_inj {a b : ByteArray} (ha : isP a = true) (hb : isP b = true) (e : pidx a = pidx b) : a = b := by
  rw [← (pidx_spec ha).2, e, (pidx_spec hb).2]
theorem Clo.none_other {ws : List Mv} (hw : Wt ws) (hs : Srt ws) (h0 : 0 < ws.length) (hn : aheadI ws = none) {p : Nat} (hp : nm p ≠ ws[0].1) (hp9 : p < 9) : Clo (redM (spT, ws[0].1) ws) p ↔ Clo ws p := by
  obtain ⟨f1, f2, f3⟩ := hw.full hn
  have hm := List.getElem_mem h0
  have hc := isP_cases (hw.to_ _ hm)
  have hne : (spT : ByteArray) ≠ ws[0].1 := fun e => hc.2 e.symm
  have hr : redM (spT, ws[0].1) ws = instM ws[0].1 spT ws := by
    unfold redM; rw [if_neg (by show ¬ isD ws[0].1 = true; rw [hc.1]; decide)]
  rw [hr]
  obtain ⟨r1, _, r3⟩ := instM_rdN ws[0].1 spT hne ws
  constructor
  · rintro ⟨n, o, hn', e0, en, h⟩
    have een : o n = o 0 := en.trans e0.symm
    have hkey : ∀ k, k < n → (∃ x ∈ ws, x.1 = o k) := fun k hk => by
      have h1 := List.mem_map_of_mem (f := (·.1)) (h k hk).1
      rw [instM_keys] at h1
      obtain ⟨x, hx, e⟩ := List.mem_map.1 h1
      exact ⟨x, hx, e⟩
    have hnt : ∀ k, k < n → o k ≠ spT := fun k hk e => by
      obtain ⟨x, hx, ex⟩ := hkey k hk
      exact (isP_cases (hw.to_ x hx)).2 (ex.trans e)
    have hnm : ∀ k, k < n → o k ≠ ws[0].1 := fun k hk e => by
      have := (h k hk).2.1
      rw [e, r1] at this; cases this
    refine ⟨n, o, hn', e0, en, fun k hk => ⟨?_, ?_, (h k hk).2.2⟩⟩
    · obtain ⟨j, hj, ej⟩ := ring_wrap hn' een hk
      obtain ⟨x, hx, e1, (⟨e2, e3⟩ | ⟨e2, e3⟩)⟩ := instM_mem (h k hk).1
      · exact absurd (ej ▸ e3) (hnt j hj)
      · rw [e3]; exact hx
    · have := (h k hk).2.1
      rwa [r3 _ (hnm k hk) (hnt k hk)] at this
  · rintro ⟨n, o, hn', e0, en, h⟩
    have een : o n = o 0 := en.trans e0.symm
    have hnm : ∀ k, k < n → o k ≠ ws[0].1 := fun k hk e => by
      have h1 := (h k hk).2.2
      have h2 := hs.first h0 _ (h 0 hn').1
      simp only [e0, pidx_nm hp9] at h2
      rw [e] at h1
      exact hp (pidx_inj (isP_nm hp9) (hw.to_ _ hm) (by rw [pidx_nm hp9]; omega))
    have hnt : ∀ k, k < n → o k ≠ spT := fun k hk e => by
      exact (isP_cases (hw.to_ _ (h k hk).1)).2 e
    refine ⟨n, o, hn', e0, en, fun k hk => ⟨?_, ?_, (h k hk).2.2⟩⟩
    · obtain ⟨j, hj, ej⟩ := ring_wrap hn' een hk
      unfold instM
      refine List.mem_map.2 ⟨_, (h k hk).1, ?_⟩
      rw [if_neg]
      show ¬ o (k + 1) = _
      rw [ej]; exact hnm j hj
    · rw [r3 _ (hnm k hk) (hnt k hk)]; exact (h k hk).2.1
theorem pigeon : ∀ (n : Nat) (f : Nat → Nat), (∀ k, k ≤ n → f k < n) → ∃ i j, i < j ∧ j ≤ n ∧ f i = f j := by
  intro n f h
  refine Classical.byContradiction fun hno => ?_
  have hnd : ((List.range (n + 1)).map f).Nodup := by
    rw [List.nodup_iff_pairwise_ne, List.pairwise_map]
    refine List.Pairwise.imp_of_mem ?_ (List.pairwise_lt_range (n := n + 1))
    intro a b _ hb hab e
    exact hno ⟨a, b, hab, by have := List.mem_range.1 hb; omega, e⟩
  have := nodup_le ((List.range (n + 1)).map f) (List.range n) hnd (fun a ha => by
    obtain ⟨k, hk, rfl⟩ := List.mem_map.1 ha
    exact List.mem_range.2 (h k (by have := List.mem_range.1 hk; omega)))
  simp at this
  omega
theorem Clo.none_self {ws : List Mv} (hw : Wt ws) (hs : Srt ws) (h0 : 0 < ws.length) (hn : aheadI ws = none) : Clo ws (pidx ws[0].1) ∧ ¬ Clo (redM (spT, ws[0].1) ws) (pidx ws[0].1) := by
  obtain ⟨f1, f2, f3⟩ := hw.full hn
  have hm := List.getElem_mem h0
  have hP := hw.to_ _ hm
  have hc := isP_cases hP
  have hne : (spT : ByteArray) ≠ ws[0].1 := fun e => hc.2 e.symm
  have hnm := (pidx_spec hP).2
  constructor
  · -- go round
    let nx : ByteArray → ByteArray := fun a => srcM ws a
    have hMV : MV ws := ⟨fun m hm => by
      unfold mok isS
      rw [hw.to_ m hm, Bool.true_and, Bool.or_eq_true]
      rcases hw.from_ m hm with h | h | h
      · exact .inl h
      · exact .inr h
      · exact absurd h (rdN_zero.1 f3 m hm), hw.keys⟩
    have hnx : ∀ m ∈ ws, nx m.1 = m.2 := fun m hm => srcM_of_mem hMV hm
    obtain ⟨o, ho0, hos⟩ : ∃ o : Nat → ByteArray, o 0 = ws[0].1 ∧ ∀ k, o (k + 1) = nx (o k) := ⟨fun k => Nat.rec ws[0].1 (fun _ a => nx a) k, rfl, fun _ => rfl⟩
    have hin : ∀ k, (o k, o (k + 1)) ∈ ws := by
      intro k
      induction k with
      | zero =>
        rw [hos, ho0, hnx _ hm]; exact hm
      | succ k ih =>
        obtain ⟨x, hx, ex⟩ := f2 _ ih
        have e1 : x.1 = o (k + 1) := ex
        rw [hos (k + 1), ← e1, hnx x hx]; exact hx
    have hisP : ∀ k, isP (o k) = true := fun k => hw.to_ _ (hin k)
    obtain ⟨i, j, hij, hj, e⟩ := pigeon 9 (fun k => pidx (o k)) (fun k _ => (pidx_spec (hisP k)).1)
    have e' : o i = o j := pidx_inj (hisP i) (hisP j) e
    have back : ∀ d, d ≤ i → o (i - d) = o (j - d) := by
      intro d
      induction d with
      | zero => intro _; exact e'
      | succ d ih =>
        intro hd
        have h1 := ih (by omega)
        have a1 := hin (i - (d + 1))
        have a2 := hin (j - (d + 1))
        have a3 := hin (i - d)
        rw [show i - (d + 1) + 1 = i - d by omega] at a1
        rw [show j - (d + 1) + 1 = j - d by omega, ← h1] at a2
        have := one_reader (f1 _ a3) a1 a2 rfl rfl
        exact congrArg (·.1) this
    have e0 := back i (Nat.le_refl _)
    rw [Nat.sub_self] at e0
    refine ⟨j - i, o, by omega, ho0.trans hnm.symm, by rw [← e0, ho0, hnm], fun k hk => ⟨hin k, f1 _ (hin k), hs.first h0 _ (hin k)⟩⟩
  · rintro ⟨n, o, hn', e0, en, h⟩
    have hr : redM (spT, ws[0].1) ws = instM ws[0].1 spT ws := by
      unfold redM; rw [if_neg (by show ¬ isD ws[0].1 = true; rw [hc.1]; decide)]
    have := (h 0 hn').2.1
    rw [e0, hnm, hr, (instM_rdN ws[0].1 spT hne ws).1] at this
    cases this
noncomputable def cloB (ws : List Mv) (p : Nat) : Bool := @decide (Clo ws p) (Classical.propDecidable _)
theorem cloB_iff {ws : List Mv} {p : Nat} : cloB ws p = true ↔ Clo ws p := @decide_eq_true_iff _ (Classical.propDecidable _)
theorem cloB_no {ws : List Mv} {p : Nat} : cloB ws p = false ↔ ¬ Clo ws p := @decide_eq_false_iff_not _ (Classical.propDecidable _)
theorem cloB_eq {ws vs : List Mv} {p : Nat} (h : Clo ws p ↔ Clo vs p) : cloB ws p = cloB vs p := by
  rw [Bool.eq_iff_iff, cloB_iff, cloB_iff]; exact h
noncomputable def cloN (ws : List Mv) : Nat := ((List.range 9).filter (cloB ws)).length
theorem cloN_congr {ws vs : List Mv} (h : ∀ p, p < 9 → (Clo ws p ↔ Clo vs p)) : cloN ws = cloN vs := by
  unfold cloN
  congr 1
  exact List.filter_congr fun p hp => cloB_eq (h p (List.mem_range.1 hp))
theorem filter_less {α : Type _} [DecidableEq α] (P Q : α → Bool) (a : α) : ∀ l : List α, l.Nodup → a ∈ l → P a = true → Q a = false → (∀ b ∈ l, b ≠ a → Q b = P b) → (l.filter P).length = (l.filter Q).length + 1
  | [], _, h, _, _, _ => by cases h
  | x :: l, hn, ha, hP, hQ, hb => by
    rw [List.nodup_cons] at hn
    by_cases e : x = a
    · subst e
      have e2 : l.filter P = l.filter Q := List.filter_congr fun b hbm => ((hb b (by simp [hbm])) fun e => hn.1 (e ▸ hbm)).symm
      simp [hP, hQ, e2]
    · have ha' : a ∈ l := by
        rw [List.mem_cons] at ha
        exact ha.resolve_left fun e' => e e'.symm
      have ih := filter_less P Q a l hn.2 ha' hP hQ fun b hbm => hb b (by simp [hbm])
      have hx := hb x (by simp) e
      rw [List.filter_cons, List.filter_cons, hx]
      split
      · simp only [List.length_cons]; omega
      · exact ih
/-- an order takes a step for each move and one for each closed ring -/
theorem ordF_count : ∀ (n : Nat) (ws : List Mv), Wt ws → Srt ws → muW ws ≤ n → (ordF n ws).length = ws.length + cloN ws ∧ ((ordF n ws).any (fun m => decide (m.1 = spT)) = decide (0 < cloN ws)) := by
  have hz : cloN [] = 0 := by
    unfold cloN
    rw [List.length_eq_zero_iff, List.filter_eq_nil_iff]
    intro p _ h
    obtain ⟨n, o, hn, _, _, h⟩ := cloB_iff.1 h
    cases (h 0 hn).1
  intro n
  induction n with
  | zero =>
    intro ws _ _ hmu
    have : ws = [] := List.length_eq_zero_iff.1 (by unfold muW at hmu; omega)
    subst this
    rw [hz]; exact ⟨rfl, rfl⟩
  | succ n ih =>
    intro ws hw hs hmu
    by_cases h0 : 0 < ws.length
    · cases ha : aheadI ws with
      | some i =>
        obtain ⟨hi, hf⟩ := aheadI_some ha
        have e := cloN_congr fun p _ => Clo.some_ hw hi hf p
        obtain ⟨i1, i2⟩ := ih _ (hw.some_ hi hf) ((hs.erase i).of_keys (redM_keys _ _)) (by have := muW_some hi ws[i]; omega)
        rw [e, redM_len, List.length_eraseIdx_of_lt hi] at i1
        rw [e] at i2
        rw [ordF_some hi ha, List.length_cons, List.any_cons, i2, i1]
        refine ⟨by omega, ?_⟩
        have : ¬ ws[i].1 = spT := (isP_cases (hw.to_ _ (List.getElem_mem hi))).2
        simp [this]
      | none =>
        have hself := Clo.none_self hw hs h0 ha
        have hP := hw.to_ _ (List.getElem_mem h0)
        have hp := pidx_spec hP
        have e : cloN ws = cloN (redM (spT, ws[0].1) ws) + 1 := by
          unfold cloN
          refine filter_less _ _ (pidx ws[0].1) _ List.nodup_range (List.mem_range.2 hp.1) (cloB_iff.2 hself.1) (cloB_no.2 hself.2) fun b hb hne => ?_
          have hb9 := List.mem_range.1 hb
          refine cloB_eq (Clo.none_other hw hs h0 ha (fun e => hne ?_) hb9)
          rw [← e, pidx_nm hb9]
        obtain ⟨i1, _⟩ := ih _ (hw.none_ h0 ha).1 (hs.of_keys (redM_keys _ _)) (by have := muW_none hw h0 ha; omega)
        rw [redM_len] at i1
        rw [ordF_none h0 ha, List.length_cons, List.any_cons, i1]
        refine ⟨by omega, ?_⟩
        have : 0 < cloN ws := by omega
        simp [this]
    · have : ws = [] := List.length_eq_zero_iff.1 (by omega)
      subst this
      rw [ordF_nil, hz]; exact ⟨rfl, rfl⟩
theorem busyF_Srt (xs : List Mv) : Srt (busyF xs 9) := by
  unfold Srt busyF
  rw [List.pairwise_map]
  refine List.Pairwise.imp_of_mem ?_ ((List.pairwise_lt_range (n := 9)).filter (busyH xs))
  intro a b ha hb hab
  have h1 := List.mem_range.1 (List.mem_filter.1 ha).1
  have h2 := List.mem_range.1 (List.mem_filter.1 hb).1
  show pidx (nm a) < pidx (nm b)
  rw [pidx_nm h1, pidx_nm h2]; exact hab
end Go.PM
namespace Go.PM
open Go.RowKit
/-- a move that changes what a later one reads -/
def BadO (x m : Mv) : Prop := x.1 = m.2 ∧ x.2 ≠ m.2 ∧ isD m.2 = false
instance (x m : Mv) : Decidable (BadO x m) := inferInstanceAs (Decidable (_ ∧ _))
def GoodO (xs : List Mv) : Prop := xs.Pairwise fun x m => ¬ BadO x m
instance (xs : List Mv) : Decidable (GoodO xs) := inferInstanceAs (Decidable (List.Pairwise _ _))
def ordB (xs : List Mv) : Bool := mvalid xs && decide (GoodO xs)
theorem GoodO_step (xs : List Mv) (k : Nat) (hk : k < xs.length) : GoodO (xs.take (k + 1)) ↔ GoodO (xs.take k) ∧ ∀ x ∈ xs.take k, ¬ BadO x xs[k] := by
  unfold GoodO
  rw [take_snoc xs k hk, List.pairwise_append]
  simp
theorem GoodO_take {xs : List Mv} (h : GoodO xs) (k : Nat) : GoodO (xs.take k) := List.Pairwise.sublist (List.take_sublist _ _) h
theorem ordB_no {xs : List Mv} {k : Nat} (h : ¬ GoodO (xs.take k)) : ordB xs = false := by
  unfold ordB
  rw [decide_eq_false (fun hg => h (GoodO_take hg k)), Bool.and_false]
/-- which places the moves change -/
def chgF (xs : List Mv) (q : Nat) : Bool := xs.any fun x => decide (x.1 = nm q ∧ x.1 ≠ x.2)
def boolC (f : Nat → Bool) : Array Value := #[.bool (f 0), .bool (f 1), .bool (f 2), .bool (f 3), .bool (f 4), .bool (f 5), .bool (f 6), .bool (f 7), .bool (f 8)]
theorem boolC_at (f : Nat → Bool) (p : Nat) (hp : p < 9) : (boolC f)[p]? = some (.bool (f p)) := by
  match p, hp with
  | 0, _ | 1, _ | 2, _ | 3, _ | 4, _ | 5, _ | 6, _ | 7, _ | 8, _ => rfl
theorem boolC_set (f : Nat → Bool) (p : Nat) (hp : p < 9) (b : Bool) : (boolC f).setIfInBounds p (.bool b) = boolC (fun q => if q = p then b else f q) := by
  match p, hp with
  | 0, _ | 1, _ | 2, _ | 3, _ | 4, _ | 5, _ | 6, _ | 7, _ | 8, _ => simp [boolC]
theorem boolC_congr {f g : Nat → Bool} (h : ∀ p, p < 9 → f p = g p) : boolC f = boolC g := by
  unfold boolC
  rw [h 0 (by omega), h 1 (by omega), h 2 (by omega), h 3 (by omega), h 4 (by omega), h 5 (by omega), h 6 (by omega), h 7 (by omega), h 8 (by omega)]
theorem chgF_step {xs : List Mv} (h : MV xs) (k : Nat) (hk : k < xs.length) : boolC (fun q => if q = pidx xs[k].1 then decide (xs[k].1 ≠ xs[k].2) else chgF (xs.take k) q) = boolC (chgF (xs.take (k + 1))) := by
  have hm := h.1 _ (List.getElem_mem hk)
  unfold mok at hm; rw [Bool.and_eq_true] at hm
  have hp := pidx_spec hm.1
  have hkey := ((MV_step k hk).1 (MV_take h (k + 1))).2.2
  refine boolC_congr fun q hq => ?_
  unfold chgF
  rw [take_snoc xs k hk, List.any_append, List.any_cons, List.any_nil, Bool.or_false]
  by_cases e : q = pidx xs[k].1
  · subst e
    rw [if_pos rfl, hp.2]
    have h0 : (xs.take k).any (fun x => decide (x.1 = xs[k].1 ∧ x.1 ≠ x.2)) = false := by
      rw [List.any_eq_false]
      intro x hx e2
      rw [decide_eq_true_eq] at e2
      exact hkey (List.mem_map.2 ⟨x, hx, e2.1⟩)
    rw [h0, Bool.false_or, decide_eq_decide]
    exact ⟨fun h => ⟨rfl, h⟩, fun h => h.2⟩
  · rw [if_neg e]
    have : decide (xs[k].1 = nm q ∧ xs[k].1 ≠ xs[k].2) = false := by
      rw [decide_eq_false_iff_not]
      intro h2
      exact e (by rw [h2.1, pidx_nm hq])
    rw [this, Bool.or_false]
theorem chg_bad {xs : List Mv} (k : Nat) (hk : k < xs.length) (hp : isP xs[k].2 = true) (hc : chgF (xs.take k) (pidx xs[k].2) = true) : ¬ GoodO (xs.take (k + 1)) := by
  rw [GoodO_step xs k hk]
  rintro ⟨_, h⟩
  unfold chgF at hc
  rw [(pidx_spec hp).2, List.any_eq_true] at hc
  obtain ⟨x, hx, e⟩ := hc
  rw [decide_eq_true_eq] at e
  exact h x hx ⟨e.1, fun e2 => e.2 (e.1.trans e2.symm), (isP_cases hp).1⟩
theorem chg_good {xs : List Mv} (k : Nat) (hk : k < xs.length) (hg : GoodO (xs.take k)) (hc : isP xs[k].2 = true → chgF (xs.take k) (pidx xs[k].2) = false) (hs : isS xs[k].2 = true) : GoodO (xs.take (k + 1)) := by
  rw [GoodO_step xs k hk]
  refine ⟨hg, fun x hx hb => ?_⟩
  unfold isS at hs
  rw [Bool.or_eq_true] at hs
  rcases hs with hp | hd
  · have := hc hp
    unfold chgF at this
    rw [(pidx_spec hp).2, List.any_eq_false] at this
    exact this x hx (by rw [decide_eq_true_eq]; exact ⟨hb.1, fun e => hb.2.1 (e.symm.trans hb.1)⟩)
  · rw [hb.2.2] at hd; cases hd
end Go.PM
namespace Go.Proofs.YteadhnpmmpninaaGreat
open Go.RowKit Go.PM

end Go.Proofs.YteadhnpmmpninaaGreat
namespace Go.PW
open Go.PM
def wayB (xs : List Mv) (a : ByteArray) : ByteArray := txt (way (nxT (tabOf xs)) (pidx a))
noncomputable def depN (nx : Nat → Option Nat) (s : Nat) : Nat := least (Stops nx s)
theorem depN_stops {nx : Nat → Option Nat} (hn : Nice nx) {s : Nat} (hs : s < 19) : Stops nx s (depN nx s) := by
  obtain ⟨D, hD, _⟩ := (way_rho hn hs).stops
  exact (least_spec ⟨D, hD⟩).1
noncomputable def depthI (xs : List Mv) (a : ByteArray) : Int := if mvalid xs && isP a then (depN (nxT (tabOf xs)) (pidx a) : Int) else -1
theorem isP_sn {a : ByteArray} (h : isP a = true) : a = sn (pidx a) := by
  have := pidx_spec h
  rw [sn_nm _ this.1, this.2]
end Go.PW
namespace Go.Proofs.YteadhnpmmpninaaGreat
open Go.RowKit Go.PM Go.PW Go.Lib

end Go.Proofs.YteadhnpmmpninaaGreat
namespace Go.Proofs.YteadhnpmmpninaaGreat
open Go.RowKit Go.PM Go.PW Go.Lib

end Go.Proofs.YteadhnpmmpninaaGreat
namespace Go.PW
open Go.RowKit Go.PM
/-- the cells of the wheels -/
abbrev whA (g : Nat → Nat) : Array Value := #[.int .i64 (g 0 : Nat), .int .i64 (g 1 : Nat), .int .i64 (g 2 : Nat), .int .i64 (g 3 : Nat), .int .i64 (g 4 : Nat), .int .i64 (g 5 : Nat), .int .i64 (g 6 : Nat), .int .i64 (g 7 : Nat), .int .i64 (g 8 : Nat)]
theorem whA_at (g : Nat → Nat) (q : Nat) (hq : q < 9) : (whA g)[q]? = some (.int .i64 (g q : Nat)) := by
  match q, hq with
  | 0, _ | 1, _ | 2, _ | 3, _ | 4, _ | 5, _ | 6, _ | 7, _ | 8, _ => rfl
theorem whA_set (g : Nat → Nat) (q : Nat) (hq : q < 9) (x : Nat) : (whA g).setIfInBounds q (.int .i64 (x : Nat)) = whA (fun r => if r = q then x else g r) := by
  match q, hq with
  | 0, _ | 1, _ | 2, _ | 3, _ | 4, _ | 5, _ | 6, _ | 7, _ | 8, _ => simp [whA]
theorem grown_set (w : World) (p : Addr) (v : Value) : w.grownBy (w.setCell p v) (some p.block) :=
  ⟨rfl, rfl, rfl, by simp [World.size_setCell], fun i _ hne => heap_setCell_other w p i v (fun e => hne (by rw [e]))⟩
end Go.PW
namespace Go.Proofs.YteadhnpmmpninaaGreat
open Go.RowKit Go.PM Go.PW

end Go.Proofs.YteadhnpmmpninaaGreat
namespace Go.PW
open Go.PM
variable {f : Nat → ByteArray}
theorem namesW_txt (h : Nat → Bool) : namesW h = txt ((List.range 9).filter h) := by
  unfold namesW namesL txt
  congr 2
  refine List.map_congr_left fun p hp => ?_
  have hp9 : p < 9 := by simpa using (List.mem_filter.1 hp).1
  match p, hp9 with
  | 0, _ | 1, _ | 2, _ | 3, _ | 4, _ | 5, _ | 6, _ | 7, _ | 8, _ => rfl
/-- the places next to a place -/
def nbL (f : Nat → ByteArray) (q : Nat) : List Nat := (List.range 9).filter (rdH f (sn q)) ++ (if sx f q < 9 then [sx f q] else [])
theorem nbL_lt (q : Nat) : ∀ e ∈ nbL f q, e < 9 := by
  intro e he
  unfold nbL at he
  rw [List.mem_append] at he
  rcases he with he | he
  · simpa using (List.mem_filter.1 he).1
  · by_cases h : sx f q < 9
    · rw [if_pos h] at he; simp at he; omega
    · rw [if_neg h] at he; cases he
theorem nbL_len (q : Nat) : (nbL f q).length ≤ 10 := by
  unfold nbL
  rw [List.length_append]
  have h1 := List.length_filter_le (rdH f (sn q)) (List.range 9)
  by_cases h : sx f q < 9
  · rw [if_pos h]; simp at h1 ⊢; omega
  · rw [if_neg h]; simp at h1 ⊢; omega
theorem rdH_sx (hf : SV f) {q r : Nat} (hq : q < 19) (hr : r < 9) : rdH f (sn q) r = true ↔ r ≠ q ∧ sx f r = q := by
  unfold rdH
  rw [← (sx_lt hf hr).2, ← sn_nm r hr, Bool.and_eq_true, decide_eq_true_eq, decide_eq_true_eq]
  constructor
  · rintro ⟨h1, h2⟩
    exact ⟨fun e => h1 (by rw [e]), sn_inj (sx_lt hf hr).1 hq h2⟩
  · rintro ⟨h1, h2⟩
    exact ⟨fun e => h1 (sn_inj (by omega) hq e), by rw [h2]⟩
theorem nbL_hd (hf : SV f) {q : Nat} (hq : q < 9) : ∀ e ∈ nbL f q, hdF f 9 e = hdF f 9 q := by
  intro e he
  have he9 := nbL_lt q e he
  unfold nbL at he
  rw [List.mem_append] at he
  rcases he with he | he
  · have h := (rdH_sx hf (show q < 19 by omega) he9).1 (List.mem_filter.1 he).2
    have := hd_edge (f := f) 9 e he9 (by rw [h.2]; exact hq)
    rw [this, h.2]
  · by_cases h : sx f q < 9
    · rw [if_pos h] at he
      simp at he
      subst he
      exact (hd_edge (f := f) 9 q hq h).symm
    · rw [if_neg h] at he; cases he
/-- what the inner walk has made of l -/
structure Part (f : Nat → ByteArray) (p : Nat) (l m : List Nat) : Prop where
  pre : l <+: m
  nodup : m.Nodup
  lt : ∀ q ∈ m, q < 9
  in_ : ∀ q ∈ m, hdF f 9 q = hdF f 9 p
theorem Comp.part {p : Nat} {l : List Nat} {i : Nat} (h : Comp f p l i) : Part f p l l := ⟨List.prefix_refl _, h.nodup, h.lt, h.in_⟩
theorem Part.add {p : Nat} {l m : List Nat} {e : Nat} (h : Part f p l m) (he : e < 9) (hh : hdF f 9 e = hdF f 9 p) (hm : e ∉ m) : Part f p l (m ++ [e]) := by
  refine ⟨h.pre.trans (List.prefix_append _ _), ?_, fun q hq => ?_, fun q hq => ?_⟩
  · rw [List.nodup_append]
    exact ⟨h.nodup, by simp, fun a ha b hb e2 => by simp at hb; subst hb; subst e2; exact hm ha⟩
  · rw [List.mem_append] at hq
    rcases hq with hq | hq
    · exact h.lt q hq
    · simp at hq; omega
  · rw [List.mem_append] at hq
    rcases hq with hq | hq
    · exact h.in_ q hq
    · simp at hq; rw [hq]; exact hh
theorem Part.len {p : Nat} {l m : List Nat} (h : Part f p l m) : m.length ≤ 9 := nodup_le m 9 h.nodup h.lt
theorem Comp.start (f : Nat → ByteArray) {p : Nat} (hp : p < 9) : Comp f p [p] 0 :=
  ⟨by simp, fun q hq => by simp at hq; omega, by simp, fun q hq => by simp at hq; rw [hq], fun k q hk _ => by omega⟩
theorem Comp.next (hf : SV f) {p : Nat} {l m : List Nat} {i q : Nat} (h : Comp f p l i) (hq : l[i]? = some q) (hm : Part f p l m) (hn : ∀ e ∈ nbL f q, e ∈ m) : Comp f p m (i + 1) := by
  have hsub : ∀ x ∈ l, x ∈ m := fun x hx => hm.pre.subset hx
  refine ⟨hm.nodup, hm.lt, hsub p h.has, hm.in_, fun k x hk hx => ?_⟩
  obtain ⟨t, ht⟩ := hm.pre
  have hil := (List.getElem?_eq_some_iff.1 hq).1
  have hx2 : l[k]? = some x := by
    rw [← ht, List.getElem?_append_left (by omega)] at hx; exact hx
  by_cases hki : k = i
  · subst hki
    rw [hq] at hx2
    obtain rfl : q = x := Option.some.inj hx2
    have hqm : q ∈ m := hsub q (List.mem_of_getElem? hq)
    refine ⟨fun h9 => hn _ ?_, fun r hr he => ?_⟩
    · unfold nbL; rw [if_pos h9]; simp
    · by_cases e : r = q
      · rw [e]; exact hqm
      · refine hn r ?_
        unfold nbL
        rw [List.mem_append]
        left
        have hx9 := hm.lt q hqm
        exact List.mem_filter.2 ⟨by simpa using hr, (rdH_sx hf (by omega) hr).2 ⟨e, he⟩⟩
  · have := h.out k x (by omega) hx2
    exact ⟨fun h9 => hsub _ (this.1 h9), fun r hr he => hsub _ (this.2 r hr he)⟩
theorem wheel_all {p : Nat} {l : List Nat} (h : Comp f p l l.length) : (List.range 9).filter (fun q => decide (q ∈ l)) = wheelL f p := by
  unfold wheelL
  refine List.filter_congr fun q hq => ?_
  have hq9 : q < 9 := by simpa using hq
  unfold wheelH
  rw [decide_eq_decide]
  exact h.all q hq9
end Go.PW
namespace Go.Proofs.YteadhnpmmpninaaGreat
open Go.RowKit Go.PM Go.PW Go.Lib

end Go.Proofs.YteadhnpmmpninaaGreat
namespace Go.Proofs.YteadhnpmmpninaaGreat
open Go.RowKit Go.PM Go.PW Go.Lib

end Go.Proofs.YteadhnpmmpninaaGreat
namespace Go.PW
open Go.RowKit Go.PM
abbrev zW : Array Value := #[.int .i64 0, .int .i64 0, .int .i64 0, .int .i64 0, .int .i64 0, .int .i64 0, .int .i64 0, .int .i64 0, .int .i64 0]
theorem zW_eq : zW = whA (fun _ => 0) := rfl
/-- the first k places lead to themselves -/
def idK (k : Nat) : Nat → Nat := fun q => if q < k then q else 0
theorem idK_zero : whA (idK 0) = zW := by simp [idK, whA, zW]
theorem idK_succ (k : Nat) : (fun r => if r = k then k else idK k r) = idK (k + 1) := by
  funext q
  unfold idK
  by_cases h : q = k
  · subst h; simp
  · by_cases h2 : q < k
    · simp [h, h2, Nat.lt_succ_of_lt h2]
    · have : ¬ q < k + 1 := by omega
      simp [h, h2, this]
theorem idK_nine : whA (idK 9) = whA (fun q => q) := by simp [idK, whA]
theorem isP_sn' {a : ByteArray} (h : isP a = true) : a = sn (pidx a) := by
  have := pidx_spec h
  rw [sn_nm _ this.1, this.2]
end Go.PW
namespace Go.Proofs.YteadhnpmmpninaaGreat
open Go.RowKit Go.PM Go.PW
attribute [local go_sem] Oper.semAt_some

def whB (xs : List Mv) (a : ByteArray) : ByteArray := txt (wheelL (tabOf xs) (pidx a))
end Go.Proofs.YteadhnpmmpninaaGreat
namespace Go.Proofs.YteadhnpmmpninaaGreat
open Go.RowKit Go.PM Go.ChangeShapes Go.WideShapes Go.Deep

theorem own : ownKnob Tryz.prog.godebug = none := by kernel_rfl
theorem laidOut : laidOutB Tryz.prog = true := by kernel_rfl

theorem exists_list {α : Type} (Q : Nat → α → Prop) : ∀ n, (∀ i, i < n → ∃ m, Q i m) → ∃ xs : List α, xs.length = n ∧ ∀ i (h : i < xs.length), Q i xs[i]
  | 0, _ => ⟨[], rfl, fun i h => absurd h (Nat.not_lt_zero _)⟩
  | n + 1, h => by
    obtain ⟨xs, hl, hx⟩ := exists_list Q n fun i hi => h i (by omega)
    obtain ⟨m, hm⟩ := h n (by omega)
    refine ⟨xs ++ [m], by simp [hl], fun i hi => ?_⟩
    by_cases h1 : i < xs.length
    · rw [List.getElem_append_left h1]; exact hx i h1
    · have h2 : i = xs.length := by simp at hi; omega
      subst h2
      rw [List.getElem_append_right (Nat.le_refl _)]
      simpa [hl] using hm

theorem rdM_mk {w : World} {ad : Addr} {cap : Nat} (xs : List Mv) (hc : xs.length ≤ cap) (hn : xs.length ≤ 9223372036854775807)
    (h : ∀ i (hi : i < xs.length), w.cell? (ad.add (i * 2)) = some (.string xs[i].1) ∧ w.cell? ((ad.add (i * 2)).add 1) = some (.string xs[i].2)) : RdM w (.slice (some ad) xs.length cap) xs := by
  refine ⟨some ad, cap, rfl, hc, hn, mcells_length xs, fun h0 => ?_⟩
  have h1 := (h 0 h0).1
  obtain ⟨b, off, spot⟩ := ad
  have hs : spot = none := by
    have := World.cell?_spot h1
    simpa [Addr.add] using this
  subst hs
  have hadd : ∀ o i, (Addr.mk b o none).add i = ⟨b, o + i, none⟩ := fun o i => by
    unfold Addr.add; split
    · next h => subst h; rfl
    · rfl
  refine ⟨b, off, rfl, ?_, fun j u hu => ?_⟩
  · rcases Nat.lt_or_ge b w.heap.size with hlt | hge
    · exact hlt
    · rw [hadd] at h1
      simp [World.cell?, Array.getElem?_eq_none hge] at h1
  · have hj : j < xs.length * 2 := by rw [← mcells_length]; exact (List.getElem?_eq_some_iff.1 hu).1
    have hk : j / 2 < xs.length := by omega
    have hm := mcells_at xs (j / 2) _ (List.getElem?_eq_getElem hk)
    have hh := h (j / 2) hk
    rw [hadd, hadd] at hh
    rcases Nat.mod_two_eq_zero_or_one j with h0 | h0
    · have e : j / 2 * 2 = j := by omega
      rw [e] at hm hh
      rw [hm.1] at hu
      rw [hh.1, hu]
    · have e : j / 2 * 2 + 1 = j := by omega
      rw [e] at hm
      rw [Nat.add_assoc, e] at hh
      rw [hm.2] at hu
      rw [hh.2, hu]

end Go.Proofs.YteadhnpmmpninaaGreat
namespace Go.Proofs.YteadhnpmmpninaaGreat
open Go.RowKit Go.PM
open Go.ChangeShapes Go.WideShapes Go.Deep in
set_option maxRecDepth 100000 in
theorem open_bytes {H : Type} {enc : TypeId × Value → H} {W : World} {base fuel : Nat} {spare : Nat → Bool} {held : Bool} {a : Option Addr} {n c : Nat} {x : DataW H × List MemPlace}
    (h : DataW.trod enc Tryz.prog W base spare held fuel 22 [.slice a n c] = some x) : RdB W W.heap.size (.slice a n c) n := by
  rcases open_slice Tryz.underlying22 h with ⟨hcs, _⟩ | ⟨ad, len, cap, m, k, D, Pl, hcs, hb, hl, hm, hmm, hx, hi⟩
  · simp at hcs
    obtain ⟨rfl, rfl, rfl⟩ := hcs
    exact ⟨none, 0, rfl, by omega, by omega, fun k hk => absurd hk (Nat.not_lt_zero k)⟩
  · simp at hcs
    obtain ⟨rfl, rfl, rfl⟩ := hcs
    have hC : Tryz.prog.cellsOf 5 = 1 := by kernel_rfl
    have hml : n ≤ m := by rw [hmm]; split <;> omega
    have hM : maxLen = 9223372036854775807 := rfl
    have hcell : ∀ i, i < n → ∃ kk, W.cell? (ad.add i) = some (.int .u8 kk) ∧ 0 ≤ kk ∧ kk ≤ 255 := fun i hin => by
      obtain ⟨cs', hc', ht⟩ := hi i (by omega)
      rw [hC] at hc'
      obtain ⟨kk, hk, _, hwf⟩ := DataW.trod_int Tryz.underlying5 ht
      subst hk
      obtain ⟨_, hcl, hat⟩ := World.cells?_some hc'
      have h1 := hat 0 (by omega)
      refine ⟨kk, by simpa [Addr.add] using h1, ?_⟩
      simpa [Lit.wf, IntKind.min, IntKind.max, IntKind.signed, IntKind.bits] using hwf
    clear hi hx h
    refine ⟨some ad, c, rfl, by omega, by omega, fun i hin => ?_⟩
    obtain ⟨b, off, spot⟩ := ad
    have hs : spot = none := by
      obtain ⟨_, h0, _⟩ := hcell 0 (by omega)
      have := World.cell?_spot h0
      simpa [Addr.add] using this
    subst hs
    obtain ⟨kk, h1, hw1, hw2⟩ := hcell i hin
    have hadd : (Addr.mk b off none).add i = ⟨b, off + i, none⟩ := by
      unfold Addr.add; split
      · next h => subst h; rfl
      · rfl
    rw [hadd] at h1
    have hb : b < W.heap.size := by
      rcases Nat.lt_or_ge b W.heap.size with hlt | hge
      · exact hlt
      · simp [World.cell?, Array.getElem?_eq_none hge] at h1
    exact ⟨b, off, kk, rfl, hb, hb, h1, hw1, by omega⟩
end Go.Proofs.YteadhnpmmpninaaGreat
namespace Go.PM
open Go.RowKit
/-- one of a text's letters is the given text -/
def pmH (s c : ByteArray) : Bool := (List.range s.size).any fun i => decide (s.extract i (i + 1) = c)
def pmK (s c : ByteArray) (k : Nat) : Bool := (List.range k).any fun i => decide (s.extract i (i + 1) = c)
theorem pmK_succ (s c : ByteArray) (k : Nat) : pmK s c (k + 1) = (pmK s c k || decide (s.extract k (k + 1) = c)) := by
  simp [pmK, List.range_succ]
theorem pmK_yes {s c : ByteArray} (k : Nat) (hk : k < s.size) (h : s.extract k (k + 1) = c) : pmH s c = true := by
  rw [pmH, List.any_eq_true]
  exact ⟨k, by simpa using hk, decide_eq_true h⟩
theorem extract_at (s : ByteArray) (i : Nat) (h : i < s.size) : s.extract i (i + 1) = ⟨#[s[i]]⟩ := by
  apply ByteArray.ext
  apply Array.ext
  · simp only [ByteArray.data_extract, Array.size_extract]
    have : s.data.size = s.size := rfl
    simp; omega
  · intro j h1 h2
    have hj : j = 0 := by simpa using h2
    subst hj
    simp
    rfl
theorem pmH_one (s : ByteArray) (c : UInt8) : pmH s ⟨#[c]⟩ = decide (c ∈ s.data.toList) := by
  rw [pmH, Bool.eq_iff_iff, List.any_eq_true, decide_eq_true_eq]
  constructor
  · rintro ⟨i, hi, h⟩
    have hi' : i < s.size := by simpa using hi
    have h' := of_decide_eq_true h
    rw [extract_at s i hi'] at h'
    have : s[i] = c := by simpa using h'
    rw [← this]
    exact List.getElem_mem (l := s.data.toList) (n := i) (by simpa using hi')
  · intro h
    obtain ⟨i, hi, e⟩ := List.getElem_of_mem h
    have hi' : i < s.size := by simpa using hi
    refine ⟨i, by simpa using hi', decide_eq_true ?_⟩
    rw [extract_at s i hi', ← e]
    rfl
theorem place_inj : ∀ p < 9, ∀ q < 9, placesL.getD q 0 = placesL.getD p 0 → q = p := by decide +kernel
theorem nm_byte (p : Nat) (hp : p < 9) : nm p = ⟨#[placesL.getD p 0]⟩ := by
  match p, hp with
  | 0, _ | 1, _ | 2, _ | 3, _ | 4, _ | 5, _ | 6, _ | 7, _ | 8, _ => decide +kernel
theorem pmH_names (h : Nat → Bool) (p : Nat) (hp : p < 9) : pmH (namesW h) (nm p) = h p := by
  rw [nm_byte p hp, pmH_one, Bool.eq_iff_iff, decide_eq_true_eq]
  unfold namesW namesL
  simp only [List.mem_map, List.mem_filter, List.mem_range]
  constructor
  · rintro ⟨q, ⟨hq, hh⟩, e⟩
    rw [place_inj p hp q hq e] at hh; exact hh
  · intro hh; exact ⟨p, ⟨hp, hh⟩, rfl⟩
theorem srcM_isS {xs : List Mv} (h : MV xs) {a : ByteArray} (ha : isP a = true) : isS (srcM xs a) = true := by
  unfold srcM
  cases hf : xs.find? (fun m => decide (m.1 = a)) with
  | none => show isS a = true; unfold isS; rw [ha]; rfl
  | some m =>
    have hm := h.1 m (List.mem_of_find?_eq_some hf)
    unfold mok at hm; rw [Bool.and_eq_true] at hm
    exact hm.2
theorem nm_of_isP {a : ByteArray} (h : isP a = true) : ∃ p, p < 9 ∧ a = nm p := by
  obtain ⟨c, rfl⟩ := one_of_size (isP_size h)
  have h2 : c ∈ placesL := by simpa [isP] using h
  simp only [placesL, List.mem_cons, List.not_mem_nil, or_false] at h2
  rcases h2 with rfl | rfl | rfl | rfl | rfl | rfl | rfl | rfl | rfl
  · exact ⟨0, by decide, by decide +kernel⟩
  · exact ⟨1, by decide, by decide +kernel⟩
  · exact ⟨2, by decide, by decide +kernel⟩
  · exact ⟨3, by decide, by decide +kernel⟩
  · exact ⟨4, by decide, by decide +kernel⟩
  · exact ⟨5, by decide, by decide +kernel⟩
  · exact ⟨6, by decide, by decide +kernel⟩
  · exact ⟨7, by decide, by decide +kernel⟩
  · exact ⟨8, by decide, by decide +kernel⟩
end Go.PM
namespace Go.Proofs.YteadhnpmmpninaaGreat
open Go.RowKit Go.PM
theorem pmH_rdrs {xs : List Mv} (h : MV xs) (a : ByteArray) (p : Nat) (hp : p < 9) : pmH (rdrs xs a) (nm p) = (decide (nm p ≠ a) && decide (srcM xs (nm p) = a)) := by
  rw [rdrs, ← rsH_rdH h, pmH_names _ p hp]; rfl
theorem pmH_source {xs : List Mv} (h : MV xs) {a : ByteArray} (ha : isP a = true) (hne : ¬ srcM xs a = a) : pmH (rdrs xs (srcM xs a)) a = true := by
  obtain ⟨p, hp, rfl⟩ := nm_of_isP ha
  rw [pmH_rdrs h _ p hp]
  have h1 : nm p ≠ srcM xs (nm p) := fun e => hne e.symm
  simp [h1]
theorem rdrs_size (xs : List Mv) (a : ByteArray) : (rdrs xs a).size ≤ 9 := namesL_size _ 9

set_option maxHeartbeats 800000 in
theorem pmHas_c (s c : ByteArray) (w : World) (hs : s.size ≤ 1000) :
    Calls Tryz.prog 16 #[.string s, .string c] w fun e w' => e = .returned (.bool (pmH s c)) ∧ Below w.heap.size w w' := by
  have HF : Hid (pmK s c s.size = pmH s c) := rfl
  go_enter Tryz.func16, Tryz.ntmps16
  go_wp2
  go_loopw [5, 8] (fun _ i wr => ∃ (k : Nat), k ≤ s.size ∧ i = .int .i64 k ∧ Hid (pmK s c k = false) ∧ Below w.heap.size w wr) (fun _ i _ => s.size - (intOf i).toNat)
  case atStart => exact ⟨0, by omega, rfl, rfl, Below.refl _ _⟩
  case round =>
    obtain ⟨k, hk, rfl, hp, hb⟩ := hrel
    have hbs := hb.size
    by_cases hlt : k < s.size
    · have i1 : (k : Int) < (s.size : Int) := by omega
      have HS := Lib.hid (pmK_succ s c k)
      have HY := Lib.hid (fun h => pmK_yes (s := s) (c := c) k hlt h)
      have hb2 := beq_str (s.extract k (k + 1)) c
      by_cases he : s.extract k (k + 1) = c
      · have H1 := Lib.hid (HY.out he)
        have q : ((s.extract k (k + 1)).toList == c.toList) = true := by rw [hb2, decide_eq_true he]
        clear hb2 he
        go_wp2
        go_ret
        exact ⟨by rw [H1.out]; rfl, hb⟩
      · have H1 : Hid (pmK s c (k + 1) = false) := by show _ = _; rw [HS.out, hp.out, decide_eq_false he]; rfl
        have q : ((s.extract k (k + 1)).toList == c.toList) = false := by rw [hb2, decide_eq_false he]
        clear hb2 he
        go_wp2
        go_roundw
        case rel => exact ⟨k + 1, by omega, by go_num, H1, hb⟩
        case measure => simp [intOf] <;> omega
    · have hk' : k = s.size := by omega
      have H1 : Hid (pmH s c = false) := by show _ = _; rw [← HF.out, ← hk']; exact hp.out
      clear hk'
      go_wp2
      go_ret
      exact ⟨by rw [H1.out]; rfl, hb⟩
end Go.Proofs.YteadhnpmmpninaaGreat
namespace Go.PM
open Go.RowKit
theorem place_of {a : ByteArray} (h : isP a = true) : ∃ p, p < 9 ∧ a = nm p := ⟨pidx a, (pidx_spec h).1, (pidx_spec h).2.symm⟩
def pmI (s : ByteArray) : Int := if isP s then (pidx s : Int) else -1
theorem pmI_yes {p : Nat} (hp : p < 9) {s : ByteArray} (h : nm p = s) : pmI s = p := by
  subst h
  rw [pmI, if_pos (isP_nm hp), pidx_nm hp]
theorem pmI_no {s : ByteArray} (h : ∀ p, p < 9 → ¬ nm p = s) : pmI s = -1 := by
  refine if_neg fun hp => ?_
  obtain ⟨p, hp9, e⟩ := place_of hp
  exact h p hp9 e.symm
end Go.PM
namespace Go.Proofs.YteadhnpmmpninaaGreat
open Go.RowKit Go.PM
end Go.Proofs.YteadhnpmmpninaaGreat
namespace Go.PW
open Go.PM Go.RowKit Go.Lib
variable {f : Nat → ByteArray} {s : Nat}
theorem wb_some (hf : SV f) (hs : s < 19) {i : Nat} (hi : i + 1 < (way (nxT f) s).length) : (way (nxT f) s)[i] < 9 ∧ sx f (way (nxT f) s)[i] = (way (nxT f) s)[i + 1] := by
  have hr := way_rho (nice hf) hs
  obtain ⟨a, t, e1, e2, e3⟩ := hr.step (j := i) hi
  rw [hr.some_ (j := i) (by omega)] at e1
  rw [hr.some_ (j := i + 1) hi] at e3
  obtain rfl := Option.some.inj e1
  obtain rfl := Option.some.inj e3
  have h9 := (nice hf).low _ _ e2
  refine ⟨h9, ?_⟩
  by_cases e : sx f (way (nxT f) s)[i] = (way (nxT f) s)[i]
  · rw [nxT_stay h9 e] at e2; cases e2
  · rw [nxT_some h9 e] at e2; exact Option.some.inj e2
theorem wb_zero (hf : SV f) (hs : s < 19) (h0 : 0 < (way (nxT f) s).length) : (way (nxT f) s)[0] = s := by
  have hr := way_rho (nice hf) hs
  have := hr.some_ h0
  exact (Option.some.inj this).symm
theorem wb_wheel (hf : SV f) (hs : s < 9) : ∀ i (hi : i < (way (nxT f) s).length), (way (nxT f) s)[i] < 9 → (way (nxT f) s)[i] ∈ wheelL f s := by
  intro i
  induction i with
  | zero => intro hi h9; rw [wb_zero hf (by omega) hi]; exact wheelL_self hs
  | succ i ih =>
    intro hi h9
    have h1 := wb_some hf (show s < 19 by omega) hi
    have h2 := ih (by omega) h1.1
    refine wheelL_mem.2 ⟨h9, ?_⟩
    rw [← (wheelL_mem.1 h2).2, ← h1.2]
    exact (hd_edge (f := f) 9 _ h1.1 (by rw [h1.2]; exact h9)).symm
theorem wb_fresh (hf : SV f) (hs : s < 19) {i : Nat} (hi : i < (way (nxT f) s).length) : (way (nxT f) s)[i] ∉ (way (nxT f) s).take i := by
  intro hm
  have hr := way_rho (nice hf) hs
  obtain ⟨j, hj⟩ := List.getElem?_of_mem hm
  have hjl := (List.getElem?_eq_some_iff.1 hj).1
  rw [List.length_take] at hjl
  have h2 : (way (nxT f) s)[j]? = some (way (nxT f) s)[i] := by
    rw [List.getElem?_take] at hj
    rw [if_pos (by omega)] at hj
    exact hj
  obtain ⟨h3, h4⟩ := List.getElem?_eq_some_iff.1 h2
  have := (List.getElem_inj hr.nodup).1 h4
  omega
theorem wb_last (hf : SV f) (hs : s < 19) {i : Nat} (hl : (way (nxT f) s)[(way (nxT f) s).length - 1]? = some i) (hi : i < 9) : sx f i ∈ way (nxT f) s := by
  have hr := way_rho (nice hf) hs
  have hp := hr.pos
  have h1 : orb (nxT f) s ((way (nxT f) s).length - 1) = some i := by rw [← hr.at_ _ (by omega)]; exact hl
  have h2 : orb (nxT f) s (way (nxT f) s).length = nxT f i := by
    have : orb (nxT f) s ((way (nxT f) s).length - 1 + 1) = (orb (nxT f) s ((way (nxT f) s).length - 1)).bind (nxT f) := rfl
    rw [show (way (nxT f) s).length - 1 + 1 = (way (nxT f) s).length by omega, h1] at this
    exact this
  by_cases e : sx f i = i
  · rw [e]; exact List.mem_of_getElem? hl
  · rw [nxT_some hi e] at h2
    rcases hr.last with h3 | ⟨mu, hmu, h3⟩
    · rw [h2] at h3; cases h3
    · rw [h2, hr.some_ hmu] at h3
      rw [Option.some.inj h3]
      exact List.getElem_mem hmu
theorem wb_depth (hf : SV f) (hs : s < 19) : depN (nxT f) s < (way (nxT f) s).length := by
  have hr := way_rho (nice hf) hs
  obtain ⟨D, hD, hc⟩ := hr.stops
  have := (depN_stops (nice hf) hs).unique hD
  rcases hc with ⟨_, h⟩ | ⟨h, _⟩ <;> omega
theorem pmH_txt {l : List Nat} (hl : ∀ a ∈ l, a < 19) {i : Nat} (hi : i < 19) : pmH (txt l) (sn i) = decide (i ∈ l) := by
  show pmH (txt l) ⟨#[ch i]⟩ = _
  rw [pmH_one, decide_eq_decide]
  exact txt_mem hl hi
theorem pmI_sn {i : Nat} (hi : i < 19) : pmI (sn i) = if i < 9 then (i : Int) else -1 := by
  unfold pmI
  rw [(ch_all i hi).2.2.1]
  by_cases h : i < 9
  · rw [if_pos (by simpa using h), if_pos h, sn_nm i h, pidx_nm h]
  · rw [if_neg (by simpa using h), if_neg h]
theorem txt_extract (l : List Nat) (j : Nat) (hj : j < l.length) : (txt l).extract j (j + 1) = sn l[j] := by
  have hz := txt_size l
  rw [extract_one _ _ (by omega), txt_list, List.getD_eq_getElem?_getD, List.getElem?_map, List.getElem?_eq_getElem hj]; rfl
theorem txt_take (l : List Nat) (j : Nat) : (txt l).extract 0 j = txt (l.take j) := by
  apply ByteArray.ext
  rw [ByteArray.data_extract]
  apply Array.ext'
  simp [txt, List.extract_eq_take_drop, List.map_take]
end Go.PW
namespace Go.Proofs.YteadhnpmmpninaaGreat
open Go.RowKit Go.PM Go.PW
theorem wb_all {xs : List Mv} (h : MV xs) {a : ByteArray} (ha : isP a = true) : ∃ (wy wh : List Nat) (s0 D : Nat), s0 < 9 ∧ a = sn s0 ∧ wayB xs a = txt wy ∧ whB xs a = txt wh ∧ depthI xs a = (D : Int) ∧ wy.length ≤ 19 ∧ 0 < wy.length ∧ (∀ x ∈ wy, x < 19) ∧
    (∀ i (hi : i + 1 < wy.length), wy[i] < 9 ∧ sx (tabOf xs) wy[i] = wy[i + 1]) ∧ (∀ i (hi : i < wy.length), wy[i] < 9 → wy[i] ∈ wh) ∧ (∀ i (hi : i < wy.length), wy[i] ∉ wy.take i) ∧
    (∀ i, wy[wy.length - 1]? = some i → i < 9 → sx (tabOf xs) i ∈ wy) ∧ (∀ hi : 0 < wy.length, wy[0] = s0) ∧ D < wy.length ∧ (∀ x ∈ wh, x < 19) ∧ wh.length ≤ 9 := by
  have hf := SV_tab h
  have hs9 := (pidx_spec ha).1
  have hs : pidx a < 19 := by omega
  have hm : mvalid xs = true := by simpa [mvalid] using h
  have hr := way_rho (nice hf) hs
  refine ⟨way (nxT (tabOf xs)) (pidx a), wheelL (tabOf xs) (pidx a), pidx a, depN (nxT (tabOf xs)) (pidx a), hs9, isP_sn ha, rfl, rfl, ?_, hr.len, hr.pos, hr.lt, fun i hi => wb_some hf hs hi, wb_wheel hf hs9, fun i hi => wb_fresh hf hs hi, fun i hl hi => wb_last hf hs hl hi, fun hi => wb_zero hf hs hi, wb_depth hf hs, fun x hx => by have := wheelL_lt x hx; omega, wheelL_len _⟩
  unfold depthI
  rw [hm, ha]; rfl
end Go.Proofs.YteadhnpmmpninaaGreat
namespace Go.PW
open Go.PM Go.RowKit
variable {nx : Nat → Option Nat}
theorem ringsF_in (hn : Nice nx) {q : Nat} (hq : q < 9) (hr : onRb nx q = true) : ∀ k, q < k → q ∈ (ringsF nx k).flatten := by
  intro k
  induction k with
  | zero => intro h; omega
  | succ k ih =>
    intro h
    by_cases hc : onRb nx k = true ∧ k ∉ (ringsF nx k).flatten
    · rw [ringsF_yes hc.1 hc.2, List.flatten_append, List.mem_append]
      rcases Nat.lt_or_ge q k with h1 | h1
      · exact .inl (ih h1)
      · right
        have : q = k := by omega
        subst this
        obtain ⟨l, hl⟩ := way_first nx q hn (by omega)
        simp [hl]
    · rw [ringsF_no hc]
      rcases Nat.lt_or_ge q k with h1 | h1
      · exact ih h1
      · have : q = k := by omega
        subst this
        exact Classical.not_not.1 fun hm => hc ⟨hr, hm⟩
theorem ringsF_mem2 : ∀ k, ∀ l ∈ ringsF nx k, ∃ s, s < k ∧ l = way nx s ∧ onRb nx s = true ∧ s ∉ (ringsF nx s).flatten := by
  intro k
  induction k with
  | zero => intro l h; simp [ringsF] at h
  | succ k ih =>
    intro l h
    by_cases hc : onRb nx k = true ∧ k ∉ (ringsF nx k).flatten
    · rw [ringsF_yes hc.1 hc.2, List.mem_append] at h
      rcases h with h | h
      · obtain ⟨s, h1, h2⟩ := ih l h; exact ⟨s, by omega, h2⟩
      · simp at h; exact ⟨k, by omega, h, hc⟩
    · rw [ringsF_no hc] at h
      obtain ⟨s, h1, h2⟩ := ih l h; exact ⟨s, by omega, h2⟩
theorem ring_next (hn : Nice nx) {s : Nat} (hs : s < 19) (hr : onRb nx s = true) {x y : Nat} (hx : x ∈ way nx s) (h : nx x = some y) : y ∈ way nx s := by
  have ho := way_rho hn hs
  have e := ho.onR.1 ((onRb_iff hn hs).1 hr)
  obtain ⟨j, hj⟩ := List.getElem?_of_mem hx
  have hjl := (List.getElem?_eq_some_iff.1 hj).1
  rw [ho.at_ j hjl] at hj
  have h2 : orb nx s (j + 1) = some y := by simp only [orb, hj, Option.bind_some]; exact h
  by_cases hl : j + 1 < (way nx s).length
  · rw [ho.some_ hl] at h2
    rw [← Option.some.inj h2]; exact List.getElem_mem hl
  · rw [show j + 1 = (way nx s).length by omega, e] at h2
    obtain rfl := Option.some.inj h2
    exact List.mem_of_getElem? (ho.at_ 0 ho.pos)
theorem ring_orb (hn : Nice nx) {s : Nat} (hs : s < 19) (hr : onRb nx s = true) {x : Nat} (hx : x ∈ way nx s) : ∀ k y, orb nx x k = some y → y ∈ way nx s := by
  intro k
  induction k with
  | zero => intro y h; simp only [orb, Option.some.injEq] at h; rw [← h]; exact hx
  | succ k ih =>
    intro y h
    simp only [orb, Option.bind_eq_some_iff] at h
    obtain ⟨z, h1, h2⟩ := h
    exact ring_next hn hs hr (ih z h1) h2
theorem ring_back (hn : Nice nx) {s : Nat} (hs : s < 19) (hr : onRb nx s = true) {x : Nat} (hx : x ∈ way nx s) : ∃ k, orb nx x k = some s := by
  have ho := way_rho hn hs
  have e := ho.onR.1 ((onRb_iff hn hs).1 hr)
  obtain ⟨j, hj⟩ := List.getElem?_of_mem hx
  have hjl := (List.getElem?_eq_some_iff.1 hj).1
  rw [ho.at_ j hjl] at hj
  refine ⟨(way nx s).length - j, ?_⟩
  have := orb_add (nx := nx) s j ((way nx s).length - j)
  rw [show j + ((way nx s).length - j) = (way nx s).length by omega, e, hj] at this
  exact this.symm
/-- the first place of a ring is its least -/
theorem ring_min (hn : Nice nx) {s : Nat} (hs : s < 9) (hr : onRb nx s = true) (hf : s ∉ (ringsF nx s).flatten) : ∀ q ∈ way nx s, s ≤ q := by
  intro q hq
  rcases Nat.lt_or_ge q s with hlt | hge
  · exfalso
    have hoq := ring_all hn (by omega) ((onRb_iff hn (by omega)).1 hr) q hq
    have hrq := (onRb_iff hn (show q < 19 by omega)).2 hoq
    have h1 := ringsF_in hn (by omega) hrq s hlt
    obtain ⟨l, hl, hql⟩ := List.mem_flatten.1 h1
    obtain ⟨s', hs', rfl, hr', _⟩ := ringsF_mem2 s l hl
    obtain ⟨k, hk⟩ := ring_back hn (show s < 19 by omega) hr hq
    have := ring_orb hn (show s' < 19 by omega) hr' hql k s hk
    exact hf (List.mem_flatten.2 ⟨_, hl, this⟩)
  · exact hge
theorem ringsF_sorted (hn : Nice nx) : ∀ k, k ≤ 9 → (ringsF nx k).Pairwise (fun a b => ∀ x y, a.head? = some x → b.head? = some y → x < y) := by
  intro k
  induction k with
  | zero => intro _; simp [ringsF]
  | succ k ih =>
    intro hk
    by_cases hc : onRb nx k = true ∧ k ∉ (ringsF nx k).flatten
    · rw [ringsF_yes hc.1 hc.2, List.pairwise_append]
      refine ⟨ih (by omega), by simp, fun a ha b hb x y hx hy => ?_⟩
      simp at hb
      subst hb
      obtain ⟨l, hl⟩ := way_first nx k hn (by omega)
      rw [hl] at hy
      simp at hy
      obtain ⟨s, hs, rfl, _⟩ := ringsF_mem2 k a ha
      obtain ⟨l2, hl2⟩ := way_first nx s hn (by omega)
      rw [hl2] at hx
      simp at hx
      omega
    · rw [ringsF_no hc]; exact ih (by omega)
theorem filter_at {α : Type _} (p : α → Bool) : ∀ (l : List α) (n : Nat) (h : n < l.length), p l[n] = true → (l.filter p)[((l.take n).filter p).length]? = some l[n]
  | [], n, h, _ => by simp at h
  | a :: l, 0, _, hp => by
    have hp : p a = true := hp
    simp [hp]
  | a :: l, n + 1, h, hp => by
    have h' : n < l.length := by simpa using h
    have hp : p l[n] = true := hp
    have ih := filter_at p l n h' hp
    by_cases ha : p a = true
    · simp [ha]; exact ih
    · simp [ha]; exact ih
/-- what there is to say of a ring -/
structure RingR (f : Nat → ByteArray) (r : List Nat) : Prop where
  two : 2 ≤ r.length
  le : r.length ≤ 19
  low : ∀ i (h : i < r.length), r[i] < 9
  next : ∀ i (h : i < r.length), sx f r[i] = r[(i + 1) % r.length]'(Nat.mod_lt _ (by omega))
  dep : ∀ i (h : i < r.length), depN (nxT f) r[i] = 0
  min : ∀ i (h : i < r.length), r[0]'(by omega) ≤ r[i]
theorem ringR (f : Nat → ByteArray) (hf : SV f) {r : List Nat} (h : r ∈ ringsF (nxT f) 9) : RingR f r := by
  obtain ⟨s, hs, rfl, hr, hfr⟩ := ringsF_mem2 9 r h
  have hn := nice hf
  have hs19 : s < 19 := by omega
  have ho := way_rho hn hs19
  obtain ⟨i0, h1, h2, h3⟩ := ring_last hf hs19
  obtain ⟨h4, h5, h6⟩ := h3.1 hr
  have hall := ring_all hn hs19 ((onRb_iff hn hs19).1 hr)
  have h0 := wb_zero hf hs19 ho.pos
  refine ⟨h4, ho.len, fun i hi => ring_low hn (hall _ (List.getElem_mem hi)), fun i hi => ?_, fun i hi => ?_, fun i hi => ?_⟩
  · by_cases hl : i + 1 < (way (nxT f) s).length
    · rw [(wb_some hf hs19 hl).2]
      congr 1
      exact (Nat.mod_eq_of_lt hl).symm
    · have he : i + 1 = (way (nxT f) s).length := by omega
      have h7 : (way (nxT f) s)[i] = i0 := by
        rw [show (way (nxT f) s).length - 1 = i by omega, List.getElem?_eq_getElem hi] at h1
        exact Option.some.inj h1
      rw [h7, h6]
      have h8 : (i + 1) % (way (nxT f) s).length = 0 := by rw [he, Nat.mod_self]
      simp only [h8]
      exact h0.symm
  · have h7 := hall _ (List.getElem_mem hi)
    have hx := ho.lt _ (List.getElem_mem hi)
    refine (depN_stops hn hx).unique ⟨by omega, fun j hj => by omega, _, rfl, .inr h7⟩
  · rw [h0]; exact ring_min hn hs hr hfr _ (List.getElem_mem hi)
end Go.PW
namespace Go.PM
open Go.RowKit Go.PW
/-- moves that can be done as they stand do themselves -/
theorem ord_run {xs : List Mv} (h : MV xs) (hg : GoodO xs) : ∀ k, k ≤ xs.length → ∀ p, p < 9 → runM (xs.take k) nmT p = if nm p ∈ (xs.take k).map (·.1) then rdS nmT (srcM xs (nm p)) else nmT p := by
  intro k
  induction k with
  | zero => intro _ p _; simp [runM]
  | succ k ih =>
    intro hk p hp
    have hlt : k < xs.length := by omega
    have ih := ih (by omega)
    have hm := h.1 _ (List.getElem_mem hlt)
    unfold mok at hm; rw [Bool.and_eq_true] at hm
    have hP := pidx_spec hm.1
    have hC := cidx_P hm.1
    have hsrc : srcM xs xs[k].1 = xs[k].2 := srcM_of_mem h (List.getElem_mem hlt)
    have hgk := (GoodO_step xs k hlt).1 (GoodO_take hg (k + 1))
    -- what the move reads is as at the start
    have hrd : rdS (runM (xs.take k) nmT) xs[k].2 = rdS nmT xs[k].2 := by
      rcases Bool.eq_false_or_eq_true (isC xs[k].2) with hc | hc
      · rw [rdS_cell hc, rdS_cell hc]
        have hp2 : isP xs[k].2 = true := by
          have hs := hm.2
          unfold isS at hs
          rw [Bool.or_eq_true] at hs
          rcases hs with hs | hs
          · exact hs
          · rw [isD_notC hs] at hc; cases hc
        have hq := cidx_P hp2
        rw [ih _ hq.2.1, hq.2.2]
        split
        · next hin =>
          obtain ⟨x, hx, ex⟩ := List.mem_map.1 hin
          have hnb := hgk.2 x hx
          have hx2 : x.2 = xs[k].2 := Classical.not_not.1 fun hne => hnb ⟨ex, hne, (isP_cases hp2).1⟩
          have hxs : srcM xs x.1 = x.2 := srcM_of_mem h (List.mem_of_mem_take hx)
          have ex' : x.1 = xs[k].2 := ex
          rw [ex'] at hxs
          rw [hxs, hx2, rdS_cell hc]
        · rfl
      · rw [rdS_digit hc, rdS_digit hc]
    have hrun : runM (xs.take (k + 1)) nmT = updS (runM (xs.take k) nmT) (cidx xs[k].1) (rdS (runM (xs.take k) nmT) xs[k].2) := by
      unfold runM
      rw [take_snoc xs k hlt, List.foldl_append]; rfl
    rw [hrun, hrd]
    have hkeys : nm p ∈ (xs.take (k + 1)).map (·.1) ↔ nm p ∈ (xs.take k).map (·.1) ∨ nm p = xs[k].1 := by
      rw [take_snoc xs k hlt, List.map_append, List.mem_append]; simp
    by_cases e : nm p = xs[k].1
    · have hpc : cidx xs[k].1 = p := by rw [← e, (cidx_nm hp).2]
      rw [updS, if_pos hpc.symm, if_pos (hkeys.2 (.inr e)), e, hsrc]
    · have hpc : p ≠ cidx xs[k].1 := fun e2 => e (by rw [e2]; exact hC.2.2)
      rw [updS, if_neg hpc, ih p hp]
      by_cases hin : nm p ∈ (xs.take k).map (·.1)
      · rw [if_pos hin, if_pos (hkeys.2 (.inl hin))]
      · rw [if_neg hin, if_neg (fun h2 => (hkeys.1 h2).elim hin e)]
theorem ord_right {xs : List Mv} (h : ordB xs = true) : irB (stL xs) xs = true := by
  unfold ordB at h
  rw [Bool.and_eq_true, decide_eq_true_eq] at h
  have hMV : MV xs := by simpa [mvalid] using h.1
  have hl := MV_len hMV
  refine right_of_run (svalid_stL (by omega) fun m hm => ?_) hMV fun p hp => ?_
  · have := hMV.1 m hm
    unfold mok isS at this
    rw [Bool.and_eq_true, Bool.or_eq_true] at this
    refine ⟨.inl this.1, ?_⟩
    rcases this.2 with h2 | h2
    · exact .inl h2
    · exact .inr (.inl h2)
  · have := ord_run hMV h.2 xs.length (Nat.le_refl _) p hp
    rw [List.take_length] at this
    rw [this]
    split
    · rfl
    · next hn =>
      have : srcM xs (nm p) = nm p := srcM_none hn
      rw [this, rdS_nm nmT hp]
/-- what is taken ahead: no taken move's place is read by a later one -/
theorem takF_facts : ∀ (n : Nat) (ws : List Mv), (ws.map (·.1)).Nodup → (takF n ws).Pairwise (fun x m => x.1 ≠ m.2) ∧ ((takF n ws).map (·.1)).Nodup ∧ (∀ m ∈ takF n ws, m ∈ ws) ∧ (ws.length ≤ n → (takF n ws).length = ws.length → ∀ m ∈ ws, m ∈ takF n ws)
  | 0, ws, _ => by
    refine ⟨List.Pairwise.nil, List.nodup_nil, fun m h => (by cases h), fun h _ m hm => ?_⟩
    have : ws = [] := List.length_eq_zero_iff.1 (by omega)
    rw [this] at hm; cases hm
  | n + 1, ws, hk => by
    cases ha : aheadI ws with
    | none =>
      rw [takF_none ha]
      refine ⟨List.Pairwise.nil, List.nodup_nil, fun m h => (by cases h), fun _ h m hm => ?_⟩
      have : ws = [] := List.length_eq_zero_iff.1 h.symm
      rw [this] at hm; cases hm
    | some i =>
      obtain ⟨hi, hf⟩ := aheadI_some ha
      rw [takF_some hi ha]
      have hk2 : ((ws.eraseIdx i).map (·.1)).Nodup := hk.sublist ((List.eraseIdx_sublist ws i).map _)
      obtain ⟨f1, f2, f3, f4⟩ := takF_facts n (ws.eraseIdx i) hk2
      refine ⟨List.Pairwise.cons (fun m hm e => rdN_zero.1 hf m (erase_mem (f3 m hm)) e.symm) f1, ?_, fun m hm => ?_, fun hl he m hm => ?_⟩
      · rw [List.map_cons, List.nodup_cons]
        refine ⟨fun hmem => ?_, f2⟩
        obtain ⟨x, hx, e⟩ := List.mem_map.1 hmem
        exact erase_key hk hi x (f3 x hx) e
      · rw [List.mem_cons] at hm
        rcases hm with rfl | hm
        · exact List.getElem_mem hi
        · exact erase_mem (f3 m hm)
      · rw [List.length_cons] at he
        have hle : (ws.eraseIdx i).length = ws.length - 1 := List.length_eraseIdx_of_lt hi
        rw [List.mem_cons]
        rcases erase_or hi hm with h2 | h2
        · exact .inl h2
        · exact .inr (f4 (by omega) (by omega) m h2)
theorem busyF_MV {xs : List Mv} (h : MV xs) : MV (busyF xs 9) := by
  have hl : busyF xs 9 = lsF (fun p => srcM xs (nm p)) 9 := rfl
  rw [hl]; exact lsF_MV (SVal_M h)
theorem busyF_mem {xs : List Mv} (h : MV xs) (m : Mv) : m ∈ busyF xs 9 ↔ m ∈ xs ∧ m.1 ≠ m.2 := by
  have hl : busyF xs 9 = lsF (fun p => srcM xs (nm p)) 9 := rfl
  rw [hl]
  constructor
  · intro hm
    obtain ⟨p, _, hne, e⟩ := lsF_mem hm
    rw [e]
    exact ⟨mem_of_srcM hne, fun e => hne e.symm⟩
  · rintro ⟨hm, hne⟩
    have hok := h.1 m hm
    unfold mok at hok; rw [Bool.and_eq_true] at hok
    have hp := pidx_spec hok.1
    have hs := srcM_of_mem h hm
    refine List.mem_map.2 ⟨pidx m.1, List.mem_filter.2 ⟨List.mem_range.2 hp.1, ?_⟩, ?_⟩
    · unfold lsH
      simp only [hp.2, hs, decide_eq_true_eq]
      exact fun e => hne e.symm
    · simp only [hp.2, hs]
theorem wsp_good {xs : List Mv} (h : wspB xs = true) : ordB (wspM xs) = true ∧ sameM (wspM xs) xs = true := by
  have hw : wspM xs = takM xs := by unfold wspM; rw [if_pos h]
  unfold wspB at h
  rw [Bool.and_eq_true, decide_eq_true_eq] at h
  have hMV : MV xs := by simpa [mvalid] using h.1
  have hB := busyF_MV hMV
  obtain ⟨f1, f2, f3, f4⟩ := takF_facts 9 (busyF xs 9) hB.2
  have hT : MV (takM xs) := ⟨fun m hm => hB.1 m (f3 m hm), f2⟩
  rw [hw]
  constructor
  · unfold ordB
    rw [Bool.and_eq_true, decide_eq_true_eq]
    refine ⟨by simpa [mvalid] using hT, List.Pairwise.imp ?_ f1⟩
    intro x m hne hb
    exact hne hb.1
  · have h4 := f4 (busyF_len xs 9) h.2
    have key : ∀ a, srcM (takM xs) a = srcM xs a := fun a => by
      by_cases h0 : srcM (takM xs) a = a
      · by_cases h1 : srcM xs a = a
        · rw [h0, h1]
        · have h3 := mem_of_srcM h1
          exact srcM_of_mem hT (h4 _ ((busyF_mem hMV (a, srcM xs a)).2 ⟨h3, fun e => h1 e.symm⟩))
      · have h3 := f3 _ (mem_of_srcM h0)
        exact (srcM_of_mem hMV ((busyF_mem hMV _).1 h3).1).symm
    unfold sameM
    rw [show mvalid (takM xs) = true by simpa [mvalid] using hT, h.1, Bool.true_and, Bool.true_and, List.all_eq_true]
    intro p _
    unfold sameAt
    rw [key, decide_eq_true rfl]
/-- moves that wait for one another are never taken -/
theorem takF_ring (R : Mv → Prop) : ∀ (n : Nat) (ws : List Mv), (∃ m, R m) → (∀ m, R m → m ∈ ws ∧ ∃ x, R x ∧ x.2 = m.1) → (takF n ws).length < ws.length
  | 0, ws, ⟨m, hm⟩, hR => by
    have := List.length_pos_of_mem (hR m hm).1
    exact this
  | n + 1, ws, hne, hR => by
    cases ha : aheadI ws with
    | none =>
      rw [takF_none ha]
      obtain ⟨m, hm⟩ := hne
      exact List.length_pos_of_mem (hR m hm).1
    | some i =>
      obtain ⟨hi, hf⟩ := aheadI_some ha
      rw [takF_some hi ha, List.length_cons]
      have hz := rdN_zero.1 hf
      have := takF_ring R n (ws.eraseIdx i) hne (fun m hm => by
        obtain ⟨h1, x, hx, ex⟩ := hR m hm
        refine ⟨?_, x, hx, ex⟩
        rcases erase_or hi h1 with e | e
        · exact absurd (by rw [ex, e]) (hz x (hR x hx).1)
        · exact e)
      rw [List.length_eraseIdx_of_lt hi] at this
      omega
/-- where not all are taken, some wait for one another -/
theorem takF_left : ∀ (n : Nat) (ws : List Mv), Wt ws → ws.length ≤ n → (takF n ws).length < ws.length → ∃ vs : List Mv, vs ≠ [] ∧ (∀ m ∈ vs, m ∈ ws) ∧ ∀ m ∈ vs, ∃ x ∈ vs, x.1 = m.2
  | 0, ws, _, hl, h => by omega
  | n + 1, ws, hw, hl, h => by
    cases ha : aheadI ws with
    | none =>
      rw [takF_none ha] at h
      refine ⟨ws, fun e => by rw [e] at h; simp at h, fun m hm => hm, (hw.full ha).2.1⟩
    | some i =>
      obtain ⟨hi, hf⟩ := aheadI_some ha
      rw [takF_some hi ha, List.length_cons] at h
      have hle : (ws.eraseIdx i).length = ws.length - 1 := List.length_eraseIdx_of_lt hi
      obtain ⟨vs, h1, h2, h3⟩ := takF_left n (ws.eraseIdx i) (hw.erase i) (by omega) (by omega)
      exact ⟨vs, h1, fun m hm => erase_mem (h2 m hm), h3⟩
theorem busy_nx {xs : List Mv} (h : MV xs) {m : Mv} (hm : m ∈ busyF xs 9) : nxT (tabOf xs) (pidx m.1) = some (sidx m.2) ∧ isP m.1 = true ∧ m.2 = sn (sidx m.2) ∧ sidx m.2 < 19 := by
  have hB := (busyF_MV h).1 m hm
  unfold mok at hB; rw [Bool.and_eq_true] at hB
  have hp := pidx_spec hB.1
  have hs := sidx_spec hB.2
  have hx := (busyF_mem h m).1 hm
  have hsrc : srcT (tabOf xs) (pidx m.1) = m.2 := by rw [srcM_place h hB.1, srcM_of_mem h hx.1]
  have hsx : sx (tabOf xs) (pidx m.1) = sidx m.2 := by unfold sx; rw [hsrc]
  refine ⟨?_, hB.1, hs.2.symm, hs.1⟩
  rw [nxT_some hp.1 (by rw [hsx]; intro e; apply hx.2; rw [← hp.2, ← hs.2, e, sn_nm _ hp.1]), hsx]
theorem wsp_rings {xs : List Mv} (h : MV xs) : wspB xs = decide (ringsF (nxT (tabOf xs)) 9 = []) := by
  have hf := SV_tab h
  have hn := nice hf
  have hw : wspB xs = decide ((takM xs).length = (busyF xs 9).length) := by
    unfold wspB; rw [show mvalid xs = true by simpa [mvalid] using h]; rfl
  rw [hw, decide_eq_decide]
  constructor
  · intro heq
    refine Classical.byContradiction fun hne => ?_
    obtain ⟨l, hl⟩ := List.exists_mem_of_ne_nil _ hne
    obtain ⟨s, hs9, rfl, hon, _⟩ := ringsF_mem2 9 l hl
    have hs19 : s < 19 := by omega
    have hO := (onRb_iff hn hs19).1 hon
    have hall := ring_all hn hs19 hO
    -- the moves of the ring
    have hmv : ∀ p, p ∈ way (nxT (tabOf xs)) s → p < 9 ∧ (nm p, srcM xs (nm p)) ∈ busyF xs 9 ∧ nxT (tabOf xs) p = some (sx (tabOf xs) p) := fun p hp => by
      have hp9 := ring_low hn (hall p hp)
      have hne2 : sx (tabOf xs) p ≠ p := fun e => by
        obtain ⟨k, hk, ek⟩ := hall p hp
        obtain ⟨k, rfl⟩ : ∃ m, k = m + 1 := ⟨k - 1, by omega⟩
        rw [show k + 1 = 1 + k by omega, orb_add] at ek
        simp only [orb, Option.bind_some, nxT_stay hp9 e] at ek
        cases ek
      refine ⟨hp9, ?_, nxT_some hp9 hne2⟩
      have hsrc : srcM xs (nm p) ≠ nm p := fun e => by
        rw [← srcM_nm h hp9] at e
        exact hne2 ((src_self hf hp9).1 e)
      exact (busyF_mem h _).2 ⟨mem_of_srcM hsrc, fun e => hsrc e.symm⟩
    have := takF_ring (fun m => ∃ p, p ∈ way (nxT (tabOf xs)) s ∧ m = (nm p, srcM xs (nm p))) 9 (busyF xs 9)
      ⟨_, s, List.mem_of_getElem? ((way_rho hn hs19).at_ 0 (way_rho hn hs19).pos), rfl⟩ (by
        rintro m ⟨p, hp, rfl⟩
        refine ⟨(hmv p hp).2.1, ?_⟩
        -- its reader on the ring
        obtain ⟨k, hk, ek⟩ := hall p hp
        obtain ⟨k, rfl⟩ : ∃ m, k = m + 1 := ⟨k - 1, by omega⟩
        have ek' := ek
        simp only [orb, Option.bind_eq_some_iff] at ek'
        obtain ⟨q, hq1, hq2⟩ := ek'
        have hqw := ring_orb hn hs19 hon hp k q hq1
        obtain ⟨hq9, _, hqn⟩ := hmv q hqw
        rw [hqn] at hq2
        have hsxq : sx (tabOf xs) q = p := Option.some.inj hq2
        refine ⟨(nm q, srcM xs (nm q)), ⟨q, hqw, rfl⟩, ?_⟩
        show srcM xs (nm q) = nm p
        rw [← srcM_nm h hq9, ← (sx_lt hf hq9).2, hsxq, sn_nm p (hmv p hp).1])
    unfold takM at heq
    omega
  · intro hr
    refine Classical.byContradiction fun hne => ?_
    have hlt : (takF 9 (busyF xs 9)).length < (busyF xs 9).length := by
      have := takF_len 9 (busyF xs 9)
      unfold takM at hne
      omega
    obtain ⟨vs, hv0, hv1, hv2⟩ := takF_left 9 (busyF xs 9) (busyF_Wt h) (busyF_len xs 9) hlt
    obtain ⟨m0, hm0⟩ := List.exists_mem_of_ne_nil _ hv0
    -- the way from there never ends
    have hway : ∀ k, ∃ m ∈ vs, orb (nxT (tabOf xs)) (pidx m0.1) k = some (pidx m.1) := by
      intro k
      induction k with
      | zero => exact ⟨m0, hm0, rfl⟩
      | succ k ih =>
        obtain ⟨m, hm, e⟩ := ih
        obtain ⟨x, hx, ex⟩ := hv2 m hm
        have hb := busy_nx h (hv1 m hm)
        have hxP := (busy_nx h (hv1 x hx)).2.1
        refine ⟨x, hx, ?_⟩
        simp only [orb, e, Option.bind_some, hb.1]
        rw [ex, Option.some.injEq]
        exact sidx_pidx (by rw [← ex]; exact hxP)
    have hlt9 : ∀ k, k ≤ 9 → ((orb (nxT (tabOf xs)) (pidx m0.1) k).getD 0) < 9 := fun k _ => by
      obtain ⟨m, hm, e⟩ := hway k
      rw [e]
      exact (pidx_spec (busy_nx h (hv1 m hm)).2.1).1
    obtain ⟨i, j, hij, _, e⟩ := pigeon 9 (fun k => (orb (nxT (tabOf xs)) (pidx m0.1) k).getD 0) hlt9
    obtain ⟨mi, hmi, ei⟩ := hway i
    obtain ⟨mj, hmj, ej⟩ := hway j
    simp only [ei, ej, Option.getD_some] at e
    have hq9 := (pidx_spec (busy_nx h (hv1 mi hmi)).2.1).1
    have hon : OnR (nxT (tabOf xs)) (pidx mi.1) := by
      refine ⟨j - i, by omega, ?_⟩
      have := orb_add (nx := nxT (tabOf xs)) (pidx m0.1) i (j - i)
      rw [show i + (j - i) = j by omega, ej, ei] at this
      rw [e]
      simpa [e] using this.symm
    have := ringsF_in hn hq9 ((onRb_iff hn (by omega)).2 hon) 9 hq9
    rw [hr] at this
    cases this
end Go.PM
namespace Go.PS
open Go.PM Go.RowKit Go.PW
/-- where the value comes from that swaps bring to a place -/
def piS (ps : List (Nat × Nat)) : Nat → Nat := appS ps (fun y => y)
theorem appS_pi : ∀ (ps : List (Nat × Nat)) (g : Nat → Nat) (x : Nat), appS ps g x = g (piS ps x)
  | [], g, x => rfl
  | p :: ps, g, x => by
    show appS ps (swp g p.1 p.2) x = g (appS ps (swp (fun y => y) p.1 p.2) x)
    rw [appS_pi ps (swp g p.1 p.2) x, appS_pi ps (swp (fun y => y) p.1 p.2) x]
    rfl
theorem piS_cons (p : Nat × Nat) (ps : List (Nat × Nat)) (x : Nat) : piS (p :: ps) x = tr p.1 p.2 (piS ps x) := by
  show appS ps (swp (fun y => y) p.1 p.2) x = _
  rw [appS_pi]; rfl
theorem piS_lt : ∀ {ps : List (Nat × Nat)}, okP ps → ∀ {x : Nat}, x < 9 → piS ps x < 9
  | [], _, x, h => h
  | p :: ps, ho, x, h => by
    rw [piS_cons]
    have hp := ho p (by simp)
    exact tr_lt hp.1 hp.2.1 (piS_lt (fun q hq => ho q (by simp [hq])) h)
theorem doS_sw (f : Nat → UInt8) {p q : Nat} (hp : p < 9) (hq : q < 9) : doS (PS.swS (p, q)) f = fun x => f (tr p q x) := by
  have : doS (PS.swS (p, q)) f = PM.swS f (cidx (nm p)) (cidx (nm q)) := if_pos rfl
  rw [this, (cidx_nm hp).2, (cidx_nm hq).2]
  funext x
  unfold PM.swS tr
  by_cases h1 : x = p
  · rw [if_pos h1, if_pos h1]
  · rw [if_neg h1, if_neg h1]
    by_cases h2 : x = q
    · rw [if_pos h2, if_pos h2]
    · rw [if_neg h2, if_neg h2]
theorem runS_app (xs ys : List St) (f : Nat → UInt8) : runS (xs ++ ys) (xs ++ ys).length f = runS ys ys.length (runS xs xs.length f) := by
  unfold runS; rw [List.take_length, List.take_length, List.take_length, List.foldl_append]
theorem runS_swL : ∀ (ps : List (Nat × Nat)) (f : Nat → UInt8), okP ps → ∀ x, runS (swL ps) (swL ps).length f x = f (piS ps x)
  | [], f, _, x => by simp [swL, runS, piS, appS]
  | p :: ps, f, ho, x => by
    have hp := ho p (by simp)
    have : runS (swL (p :: ps)) (swL (p :: ps)).length f = runS (swL ps) (swL ps).length (doS (PS.swS p) f) := by
      unfold runS; rw [List.take_length, List.take_length]; rfl
    rw [this, runS_swL ps _ (fun q hq => ho q (by simp [hq])), piS_cons]
    have := doS_sw f hp.1 hp.2.1
    rw [show doS (PS.swS p) f = fun x => f (tr p.1 p.2 x) from this]
/-- steps that give each place its value are right -/
theorem right_run {ss : List St} {xs : List Mv} (hv : svalid ss = true) (hx : MV xs) (h : ∀ p, p < 9 → runS ss ss.length nmT p = rdS nmT (srcM xs (nm p))) : irB ss xs = true := by
  rw [← irB_eq ss xs hv hx, List.all_eq_true]
  intro p hp
  rw [decide_eq_true_eq]
  by_cases h9 : p < 9
  · rw [if_pos h9, aoS, if_pos h9, srcM_nm hx h9]
    exact h p h9
  · rw [if_neg h9, aoS, if_neg h9]
theorem swS_ok {p : Nat × Nat} (h1 : p.1 < 9) (h2 : p.2 < 9) : stOk (PS.swS p) = true := by
  have a1 := (cidx_P (isP_nm h1)).1
  have a2 := (cidx_P (isP_nm h2)).1
  unfold stOk PS.swS
  simp only [a1, a2]
  rfl
theorem swL_ok {ps : List (Nat × Nat)} (ho : okP ps) : ∀ x ∈ swL ps, stOk x = true := fun x hx => by
  obtain ⟨p, hp, rfl⟩ := List.mem_map.1 hx
  exact swS_ok (ho p hp).1 (ho p hp).2.1
/-- the place that has what a place is to get -/
theorem pi_src {f : Nat → ByteArray} (he : Exch (srcT f)) {ps : List (Nat × Nat)} (ho : okP ps) (h : ∀ x, x < 9 → appS ps (invI (srcT f)) x = x) {x : Nat} (hx : x < 9) : srcT f x = nm (piS ps x) := by
  have h1 := h x hx
  rw [appS_pi] at h1
  exact (he.inv_iff (piS_lt ho hx) hx).2 h1.symm
/-- swaps that bring each value home are right -/
theorem swL_right {xs : List Mv} (hx : MV xs) (he : Exch (srcT (tabOf xs))) {ps : List (Nat × Nat)} (ho : okP ps) (hl : ps.length ≤ 60) (h : ∀ x, x < 9 → appS ps (invI (srcT (tabOf xs))) x = x) : irB (swL ps) xs = true := by
  refine right_run ?_ hx fun p hp => ?_
  · unfold svalid
    rw [Bool.and_eq_true, decide_eq_true_eq, List.all_eq_true]
    exact ⟨by rw [swL_len]; exact hl, swL_ok ho⟩
  · rw [runS_swL ps _ ho, ← srcM_nm hx hp, pi_src he ho h hp, rdS_nm _ (piS_lt ho hp)]
/-- what is taken ahead does what is due -/
theorem due_take {T : Nat → UInt8} {ws : List Mv} {f : Nat → UInt8} (h : Due T ws f) (hw : Wt ws) {i : Nat} (hi : i < ws.length) (hf : rdN ws ws[i].1 = 0) :
    Due T (ws.eraseIdx i) (updS f (cidx ws[i].1) (rdS f ws[i].2)) := by
  have hm := List.getElem_mem hi
  have hp := hw.to_ _ hm
  have hz := rdN_zero.1 hf
  refine ⟨fun x hx => ?_, fun p hp9 hn => ?_⟩
  · have hx1 := erase_mem hx
    rw [rdS_ne (hw.from_ x hx1) (.inl hp) (hz x hx1)]
    exact h.rd x hx1
  · by_cases e : nm p = ws[i].1
    · have : cidx ws[i].1 = p := by rw [← e, (cidx_nm hp9).2]
      rw [this, updS, if_pos rfl, h.rd _ hm, this]
    · rw [updS, if_neg]
      · refine h.has p hp9 fun hk => ?_
        obtain ⟨x, hx, ex⟩ := List.mem_map.1 hk
        rcases erase_or hi hx with h1 | h1
        · exact e (by rw [← ex, h1])
        · exact hn (List.mem_map.2 ⟨x, h1, ex⟩)
      · intro e2
        exact e (by rw [e2]; exact (cidx_P hp).2.2)
theorem take_due {T : Nat → UInt8} : ∀ (n : Nat) (ws : List Mv) (f : Nat → UInt8), Wt ws → Due T ws f → Due T (remF n ws) (runM (takF n ws) f)
  | 0, ws, f, _, h => h
  | n + 1, ws, f, hw, h => by
    cases ha : aheadI ws with
    | none => rw [takF_none ha, remF_none ha]; exact h
    | some i =>
      obtain ⟨hi, hf⟩ := aheadI_some ha
      rw [takF_some hi ha, remF_some ha, runM_cons]
      exact take_due n _ _ (hw.erase i) (due_take h hw hi hf)
theorem okP_rw {xs : List Mv} (h : MV xs) : okP (rwM xs) ∧ ∀ x, x < 9 → appS (rwM xs) (invI (srcT (delF (tabOf xs) (takM xs)))) x = x := by
  have h1 := rsA_app (inv_prm (del_exch h)) 9 (Nat.le_refl _)
  have h2 := rsA_id (del_SV h) (del_exch h)
  rw [rw_del h] at h1
  exact ⟨h1.2, fun x hx => by rw [h1.1]; exact h2 x hx⟩
theorem owS_okS {xs : List Mv} (h : MV xs) : ∀ x ∈ owS xs, stOk x = true := by
  rw [owS_yes (by simpa [mvalid] using h)]
  intro x hx
  rw [List.mem_append] at hx
  rcases hx with hx | hx
  · obtain ⟨m, hm, rfl⟩ := List.mem_map.1 hx
    have hw := busyF_Wt h
    have hb := tak_sub 9 _ m hm
    exact stOk_M (.inl (hw.to_ _ hb)) (hw.from_ _ hb)
  · exact swL_ok (okP_rw h).1 x hx
theorem owS_sv {xs : List Mv} (h : MV xs) : svalid (owS xs) = true := by
  unfold svalid
  rw [Bool.and_eq_true, decide_eq_true_eq, List.all_eq_true]
  exact ⟨by have := owS_le xs; omega, owS_okS h⟩
/-- moves and swaps do the moves -/
theorem owS_right {xs : List Mv} (h : MV xs) : irB (owS xs) xs = true := by
  refine right_run (owS_sv h) h fun p hp => ?_
  rw [owS_yes (by simpa [mvalid] using h), runS_app, runS_stL]
  obtain ⟨ho, hid⟩ := okP_rw h
  rw [runS_swL _ _ ho]
  have hD : Due (fun p => rdS nmT (srcM xs (nm p))) (remM xs) (runM (takM xs) nmT) := take_due 9 (busyF xs 9) nmT (busyF_Wt h) (busy_due h)
  have hs := pi_src (del_exch h) ho hid hp
  have hpl := piS_lt ho hp
  rw [rem_src h hp, srcM_nm (remM_MV h) hp] at hs
  by_cases hr : nm p ∈ (remM xs).map (·.1)
  · obtain ⟨m, hm, e⟩ := List.mem_map.1 hr
    have h1 := hD.rd m hm
    have h2 := srcM_of_mem (remM_MV h) hm
    rw [e, hs] at h2
    rw [← h2, rdS_nm _ hpl, e, (cidx_nm hp).2] at h1
    exact h1
  · have h1 : srcM (remM xs) (nm p) = nm p := by
      refine Classical.not_not.1 fun hne => hr ?_
      exact List.mem_map.2 ⟨_, mem_of_srcM hne, rfl⟩
    rw [h1] at hs
    have : p = piS (rwM xs) p := nm_inj hp hpl hs
    rw [← this]
    exact hD.has p hp hr
/-- a place on a ring waits till the end -/
theorem ring_prev {nx : Nat → Option Nat} {s : Nat} (h : OnR nx s) : ∃ j, OnR nx j ∧ nx j = some s := by
  obtain ⟨k, hk, e⟩ := h
  obtain ⟨k, rfl⟩ : ∃ m, k = m + 1 := ⟨k - 1, by omega⟩
  have e2 : (orb nx s k).bind nx = some s := e
  cases hj : orb nx s k with
  | none => rw [hj] at e2; cases e2
  | some j =>
    rw [hj] at e2
    refine ⟨j, ⟨k + 1, by omega, ?_⟩, e2⟩
    have h1 : orb nx j 1 = some s := e2
    rw [show k + 1 = 1 + k by omega, orb_add, h1]
    exact hj
theorem ring_next {nx : Nat → Option Nat} {s : Nat} (h : OnR nx s) : ∃ j, OnR nx j ∧ nx s = some j := by
  obtain ⟨k, hk, e⟩ := h
  obtain ⟨k, rfl⟩ : ∃ m, k = m + 1 := ⟨k - 1, by omega⟩
  rw [show k + 1 = 1 + k by omega, orb_add] at e
  cases hj : orb nx s 1 with
  | none => rw [hj] at e; cases e
  | some j =>
    rw [hj] at e
    have e3 : orb nx j k = some s := e
    have h1 : nx s = some j := hj
    refine ⟨j, ⟨k + 1, by omega, ?_⟩, h1⟩
    show (orb nx j k).bind nx = some j
    rw [e3]; exact h1
theorem wayF_same {nx nx' : Nat → Option Nat} (h : ∀ i, OnR nx i → nx' i = nx i) : ∀ (n : Nat) (acc : List Nat) (i : Nat), OnR nx i → wayF nx' n acc (some i) = wayF nx n acc (some i)
  | 0, acc, i, _ => rfl
  | n + 1, acc, i, hi => by
    unfold wayF
    split
    · rfl
    · obtain ⟨j, hj, e⟩ := ring_next hi
      rw [h i hi, e]
      exact wayF_same h n _ j hj
theorem orb_same {nx nx' : Nat → Option Nat} (h : ∀ i, OnR nx i → nx' i = nx i) {s : Nat} (hs : OnR nx s) : ∀ k, orb nx' s k = orb nx s k ∧ ∃ j, orb nx s k = some j ∧ OnR nx j
  | 0 => ⟨rfl, s, rfl, hs⟩
  | k + 1 => by
    obtain ⟨h1, j, h2, h3⟩ := orb_same h hs k
    obtain ⟨i, h4, h5⟩ := ring_next h3
    have e : orb nx s (k + 1) = some i := by show (orb nx s k).bind nx = _; rw [h2]; exact h5
    refine ⟨?_, i, e, h4⟩
    rw [e]
    show (orb nx' s k).bind nx' = _
    rw [h1, h2]
    show nx' j = _
    rw [h j h3]; exact h5
theorem orb_sub {nx nx' : Nat → Option Nat} (h : ∀ i j, nx' i = some j → nx i = some j) {s : Nat} : ∀ k j, orb nx' s k = some j → orb nx s k = some j
  | 0, j, e => e
  | k + 1, j, e => by
    have e2 : (orb nx' s k).bind nx' = some j := e
    cases hi : orb nx' s k with
    | none => rw [hi] at e2; cases e2
    | some i =>
      rw [hi] at e2
      show (orb nx s k).bind nx = _
      rw [orb_sub h k i hi]
      exact h i j e2
theorem rings_same {nx nx' : Nat → Option Nat} (hn : Nice nx) (hn' : Nice nx') (h1 : ∀ i, OnR nx i → nx' i = nx i) (h2 : ∀ i j, nx' i = some j → nx i = some j) : ∀ k, k ≤ 9 → ringsF nx' k = ringsF nx k
  | 0, _ => rfl
  | k + 1, hk => by
    have ih := rings_same hn hn' h1 h2 k (by omega)
    have hon : onRb nx' k = onRb nx k := by
      rw [Bool.eq_iff_iff, onRb_iff hn (by omega), onRb_iff hn' (by omega)]
      constructor
      · rintro ⟨m, hm, e⟩; exact ⟨m, hm, orb_sub h2 m k e⟩
      · intro hr
        obtain ⟨m, hm, e⟩ := hr
        exact ⟨m, hm, ((orb_same h1 ⟨m, hm, e⟩ m).1).trans e⟩
    by_cases hr : onRb nx k = true
    · have hw : way nx' k = way nx k := wayF_same h1 20 [] k ((onRb_iff hn (by omega)).1 hr)
      unfold ringsF
      rw [ih, hon, hw]
    · unfold ringsF
      rw [ih, hon, if_neg (fun e => hr e.1), if_neg (fun e => hr e.1)]
theorem ring_waits {xs : List Mv} (h : MV xs) : ∀ (n : Nat) (ws : List Mv), Wt ws → (∀ i, OnR (nxT (tabOf xs)) i → (nm i, srcM xs (nm i)) ∈ ws) → ∀ i, OnR (nxT (tabOf xs)) i → (nm i, srcM xs (nm i)) ∈ remF n ws
  | 0, ws, _, hI => hI
  | n + 1, ws, hw, hI => by
    cases ha : aheadI ws with
    | none => rw [remF_none ha]; exact hI
    | some i =>
      obtain ⟨hi, hf⟩ := aheadI_some ha
      rw [remF_some ha]
      refine ring_waits h n _ (hw.erase i) fun p hp => ?_
      rcases erase_or hi (hI p hp) with e | e
      · exfalso
        obtain ⟨j, hj, ej⟩ := ring_prev hp
        have hn := nice (SV_tab h)
        have hj9 := hn.low j p ej
        have hsx : sx (tabOf xs) j = p := by
          unfold nxT at ej
          rw [if_pos hj9] at ej
          split at ej
          · cases ej
          · exact Option.some.inj ej
        have hp9 : p < 9 := by obtain ⟨q, hq⟩ := ring_next hp; exact hn.low p q hq.2
        have hsrc : srcM xs (nm j) = nm p := by
          have := (sx_lt (SV_tab h) hj9).2
          rw [hsx, sn_nm _ hp9, srcM_nm h hj9] at this
          exact this.symm
        have := rdN_zero.1 hf _ (hI j hj)
        rw [← e] at this
        exact this hsrc
      · exact e
theorem rem_rings {xs : List Mv} (h : MV xs) : ringsF (nxT (tabOf (remM xs))) 9 = ringsF (nxT (tabOf xs)) 9 := by
  have hM := remM_MV h
  have hw := ring_waits h 9 (busyF xs 9) (busyF_Wt h) fun i hi => by
    obtain ⟨j, _, e⟩ := ring_next hi
    have hn := nice (SV_tab h)
    have hi9 := hn.low i j e
    have hne : srcM xs (nm i) ≠ nm i := fun e2 => by
      have h1 : sx (tabOf xs) i = i := (src_self (SV_tab h) hi9).1 (by rw [srcM_nm h hi9]; exact e2)
      unfold nxT at e
      rw [if_pos hi9, if_pos h1] at e
      cases e
    exact (busyF_mem h _).2 ⟨mem_of_srcM hne, fun e => hne e.symm⟩
  have key : ∀ i, i < 9 → nm i ∈ (remM xs).map (·.1) → nxT (tabOf (remM xs)) i = nxT (tabOf xs) i := fun i hi hr => by
    obtain ⟨m, hm, e⟩ := List.mem_map.1 hr
    have h1 := srcM_of_mem hM hm
    obtain ⟨q, hq, rfl, _⟩ := busy_is ((remF_sub 9 (busyF xs 9)).subset hm)
    have : q = i := nm_inj hq hi e
    subst this
    unfold nxT
    have : sx (tabOf (remM xs)) q = sx (tabOf xs) q := by unfold sx; rw [srcM_nm hM hq, srcM_nm h hq]; exact congrArg _ h1
    rw [this]
  refine rings_same (nice (SV_tab h)) (nice (SV_tab hM)) (fun i hi => ?_) (fun i j e => ?_) 9 (Nat.le_refl _)
  · obtain ⟨j, _, e⟩ := ring_next hi
    exact key i ((nice (SV_tab h)).low i j e) (List.mem_map.2 ⟨_, hw i hi, rfl⟩)
  · have hi9 := (nice (SV_tab hM)).low i j e
    by_cases hr : nm i ∈ (remM xs).map (·.1)
    · rw [← key i hi9 hr]; exact e
    · have h1 : srcM (remM xs) (nm i) = nm i := by
        refine Classical.not_not.1 fun hne => hr ?_
        exact List.mem_map.2 ⟨_, mem_of_srcM hne, rfl⟩
      have h2 : sx (tabOf (remM xs)) i = i := (src_self (SV_tab hM) hi9).1 (by rw [srcM_nm hM hi9]; exact h1)
      unfold nxT at e
      rw [if_pos hi9, if_pos h2] at e
      cases e
theorem nodup_of_map {α β : Type _} {f : α → β} {l : List α} (h : (l.map f).Nodup) : l.Nodup := List.Pairwise.of_map f (fun _ _ hne e => hne (congrArg f e)) h
theorem rem_busy {xs : List Mv} (h : MV xs) : (busyF (remM xs) 9).length = (remM xs).length := by
  have hM := remM_MV h
  have hW := remM_Wt h
  have n1 : (busyF (remM xs) 9).Nodup := nodup_of_map (busyF_Wt hM).keys
  have n2 : (remM xs).Nodup := nodup_of_map hW.keys
  refine List.Perm.length_eq ((List.perm_ext_iff_of_nodup n1 n2).2 fun m => ?_)
  rw [busyF_mem hM]
  exact ⟨fun e => e.1, fun e => ⟨e, hW.ne m e⟩⟩
/-- one step less for each ring than there are moves -/
theorem owS_len {xs : List Mv} (h : MV xs) : (owS xs).length + (ringsF (nxT (tabOf xs)) 9).length = (busyF xs 9).length := by
  rw [owS_yes (by simpa [mvalid] using h), List.length_append, swL_len]
  have h1 := (tak_rem 9 (busyF xs 9) (busyF_Wt h).keys).2.2
  have h2 := busy_flat (exchB_iff.2 ⟨remM_MV h, remM_exch h⟩)
  rw [rem_busy h] at h2
  have h3 := prs_count _ (rings_pos (SV_tab (remM_MV h)))
  rw [← h2, rem_rings h] at h3
  have h4 : (rwM xs).length = ((ringsF (nxT (tabOf xs)) 9).flatMap prs).length := by unfold rwM; rw [rem_rings h]
  have h5 : (stL (takM xs)).length = (takF 9 (busyF xs 9)).length := by unfold stL takM; rw [List.length_map]
  have h6 : (remM xs).length = (remF 9 (busyF xs 9)).length := rfl
  omega
end Go.PS
namespace Go.PS
open Go.PM Go.RowKit
/-- how many swaps there are -/
def swN : List St → Nat
  | [] => 0
  | x :: xs => (if x.1 = 1 then 1 else 0) + swN xs
theorem swN_app : ∀ (xs ys : List St), swN (xs ++ ys) = swN xs + swN ys
  | [], ys => by simp [swN]
  | x :: xs, ys => by simp only [List.cons_append, swN, swN_app xs ys]; omega
theorem swN_take (xs : List St) (k : Nat) (h : k < xs.length) : swN (xs.take (k + 1)) = swN (xs.take k) + (if xs[k].1 = 1 then 1 else 0) := by
  rw [show xs.take (k + 1) = xs.take k ++ [xs[k]] by simp, swN_app]; simp [swN]
theorem swN_le : ∀ xs : List St, swN xs ≤ xs.length
  | [] => by simp [swN]
  | x :: xs => by have := swN_le xs; simp only [swN, List.length_cons]; split <;> omega
theorem costN_sw (s : Int) : ∀ xs : List St, costN s xs = (xs.length : Int) + (swN xs : Int) * (s - 1)
  | [] => by simp [costN, swN]
  | x :: xs => by
    have ih := costN_sw s xs
    simp only [costN, swN, List.length_cons, ih, cst]
    by_cases h : x.1 = 1
    · rw [if_pos h, if_pos h]
      rw [show ((1 + swN xs : Nat) : Int) = 1 + (swN xs : Int) by omega, Int.add_mul]
      omega
    · rw [if_neg h, if_neg h]
      rw [show ((0 + swN xs : Nat) : Int) = (swN xs : Int) by omega]
      omega
theorem costN_small {s : Int} (h0 : 0 ≤ s) (h1 : s ≤ 1) : ∀ xs : List St, costN s xs ≤ xs.length
  | [] => by simp [costN]
  | x :: xs => by
    have ih := costN_small h0 h1 xs
    simp only [costN, cst, List.length_cons]
    split <;> omega
theorem mul_bound {S y : Int} (h0 : 0 ≤ S) (h1 : S ≤ 60) (y0 : 0 ≤ y) (y1 : y ≤ 100) : -60 ≤ S * (y - 1) ∧ S * (y - 1) ≤ 6000 := by
  have h3 : 0 ≤ S * y := Int.mul_nonneg h0 y0
  have h4 : S * y ≤ 60 * 100 := Int.mul_le_mul h1 y1 y0 (by omega)
  rw [Int.mul_sub, Int.mul_one]
  omega
theorem cost_facts (ys : List St) (y : Int) : costI ys y = -1 ∨ ∃ S : Nat, swN ys = S ∧ S ≤ 60 ∧ ys.length ≤ 60 ∧ 0 ≤ y ∧ y ≤ 100 ∧ costI ys y = (ys.length : Int) + (S : Int) * (y - 1) ∧ 0 ≤ costI ys y := by
  unfold costI
  by_cases h : svalid ys = true ∧ 0 ≤ y ∧ y ≤ 100
  · rw [if_pos h]
    have hl := svalid_len h.1
    have := swN_le ys
    exact .inr ⟨swN ys, rfl, by omega, hl, h.2.1, h.2.2, costN_sw y ys, (costN_le h.2.1 h.2.2 ys).1⟩
  · rw [if_neg h]; exact .inl rfl
theorem best_facts (xs : List Mv) (x : Int) : (bestI xs x = -1 ∧ (mvalid xs = false ∨ (mvalid xs = true ∧ x < 0) ∨ (mvalid xs = true ∧ 0 ≤ x ∧ 100 < x))) ∨
    (mvalid xs = true ∧ 0 ≤ x ∧ x ≤ 100 ∧ 0 ≤ bestI xs x ∧ bestI xs x ≤ cioI xs ∧ bestI xs x ≤ costI (owS xs) x ∧ (bestI xs x = cioI xs ∨ bestI xs x = costI (owS xs) x) ∧ (1 < x ∨ bestI xs x = costI (owS xs) x)) := by
  rcases Bool.eq_false_or_eq_true (mvalid xs) with hm | hm
  · have hMV : MV xs := by simpa [mvalid] using hm
    by_cases hx : 0 ≤ x ∧ x ≤ 100
    · right
      have hb : bestI xs x = min (costN x (owS xs)) (cioI xs) := if_pos ⟨hm, hx⟩
      have hc : costI (owS xs) x = costN x (owS xs) := if_pos ⟨owS_sv hMV, hx⟩
      have h1 := (costN_le hx.1 hx.2 (owS xs)).1
      have h2 : cioI xs = ((busyF xs 9).length : Int) + ((Go.PW.closedB xs).length : Int) := if_pos hm
      have h3 := owS_len hMV
      rw [hb, hc]
      refine ⟨hm, hx.1, hx.2, by omega, by omega, by omega, by omega, ?_⟩
      by_cases h4 : 1 < x
      · exact .inl h4
      · right
        have := costN_small hx.1 (by omega) (owS xs)
        omega
    · left
      refine ⟨if_neg fun h => hx h.2, ?_⟩
      by_cases h0 : x < 0
      · exact .inr (.inl ⟨hm, h0⟩)
      · exact .inr (.inr ⟨hm, by omega, by omega⟩)
  · exact .inl ⟨if_neg (fun h => by rw [hm] at h; cases h.1), .inl hm⟩
end Go.PS
namespace Go.Proofs.YteadhnpmmpninaaGreat
open Go.RowKit Go.PM Go.PS
attribute [local go_sem] Oper.semAt_some
set_option maxRecDepth 100000 in
set_option maxHeartbeats 12800000 in
theorem exFCost (w : World) (v0 : Value) (n0 : Nat) (hv : RdB w w.heap.size v0 n0) (v1 : Value) (n1 : Nat) (hv1 : RdB w w.heap.size v1 n1) :
    Calls Tryz.prog 4 #[v0, v1] w fun e w' => e = .returned (.bool true) ∧ Below w.heap.size w w' := by
  have hv0 := hv
  have hv10 := hv1
  obtain ⟨A, cap, rfl, hc, hn, _⟩ := hv
  obtain ⟨A1, cap1, rfl, hc1, hn1, _⟩ := hv1
  by_cases hbig : 1048576 < n0
  · have t : decide ((n0 : Int) > 1048576) = true := by simp; omega
    go_enter Tryz.func4, Tryz.ntmps4
    go_wp2
    go_ret
    exact ⟨rfl, Below.refl _ _⟩
  have t : decide ((n0 : Int) > 1048576) = false := by simp; omega
  by_cases hbig1 : 1048576 < n1
  · have t1 : decide ((n1 : Int) > 1048576) = true := by simp; omega
    go_enter Tryz.func4, Tryz.ntmps4
    go_wp2
    go_ret
    exact ⟨rfl, Below.refl _ _⟩
  have t1 : decide ((n1 : Int) > 1048576) = false := by simp; omega
  have HD := Lib.hid (drawBestCost_c w _ n0 hv0)
  have HV1 := Lib.hid hv10
  clear hv0 hv10
  go_enter Tryz.func4, Tryz.ntmps4
  go_wp2_with fail
  refine HD.out.mono ?_
  rintro e w1 ⟨u, xs, x, rfl, ho, ⟨hl, hz⟩, b1⟩
  have R1 : RdM w1 u xs := Rd.of_own ho
  have hz1 : ∀ m ∈ xs, m.1.size ≤ 9223372036854775807 ∧ m.2.size ≤ 9223372036854775807 := fun m hm => by have := hz m hm; omega
  have HIB := Lib.hid (fun W (R : RdM W u xs) => imBestCost_c xs x u W R (by omega))
  have HSB := Lib.hid (fun W (R : RdM W u xs) => spBestCost_c xs x u W R hz1 (by omega))
  have HMV0 := Lib.hid (fun W (R : RdM W u xs) => imMovesValid_c xs u W R)
  have HOO0 := Lib.hid (fun W (R : RdM W u xs) => imOrderWithSwaps_c xs u W R)
  have HCI0 := Lib.hid (fun W (R : RdM W u xs) => imCountInOrder_c xs u W R (by omega))
  have HSC0 := Lib.hid (fun v W (R : RdS W v (owS xs)) => imSwapCost_c (owS xs) x v W R)
  have HBF := Lib.hid (best_facts xs x)
  clear HD ho hz hz1 hl
  go_wp2_with fail
  refine (HIB.out _ R1).mono ?_
  rintro e w2 ⟨rfl, h2⟩
  have b2 := b1.trans (h2.mono b1.size)
  have R2 := R1.below h2
  clear h2 b1 R1 HIB
  have HD2 := Lib.hid (drawSwapCost_c w2 _ n1 (rdB_now HV1.out b2))
  go_wp2_with fail
  refine HD2.out.mono ?_
  rintro e w3 ⟨vy, ys, y, rfl, hoy, hsh, h3⟩
  have b3 := b2.trans (h3.mono b2.size)
  have R3 := R2.below h3
  have S3 : RdS w3 vy ys := Rd.of_own hoy
  have HIC := Lib.hid (fun W (R : RdS W vy ys) => imSwapCost_c ys y vy W R)
  have HSS := Lib.hid (fun W (R : RdS W vy ys) => spSwapCost_c ys y vy W R)
  have HCF := Lib.hid (cost_facts ys y)
  have HYL := Lib.hid hsh.1
  clear HD2 HV1 hoy hsh h3 R2 b2
  go_wp2_with fail
  refine (HIC.out _ S3).mono ?_
  rintro e w4 ⟨rfl, h4⟩
  have b4 := b3.trans (h4.mono b3.size)
  have R4 := R3.below h4
  have S4 := S3.below h4
  clear h4 b3 R3 S3 HIC
  go_wp2_with fail
  refine (HSB.out _ R4).mono ?_
  rintro e w5 ⟨rfl, h5⟩
  have b5 := b4.trans (h5.mono b4.size)
  have R5 := R4.below h5
  have S5 := S4.below h5
  clear h5 b4 R4 S4 HSB
  have hq1 : (bestI xs x != bestI xs x) = false := by simp
  have hq2 : (costI ys y != costI ys y) = false := by simp
  go_wp2_with fail
  refine (HSS.out _ S5).mono ?_
  rintro e wr6 ⟨rfl, h6⟩
  have b6 := b5.trans (h6.mono b5.size)
  have R6 := R5.below h6
  have S6 := S5.below h6
  clear h6 b5 R5 S5 HSS
  clear hq1 hq2
  rcases HCF.out with c1 | ⟨S, s1, s2, s3, s4, s5, s6, s7⟩
  · rw [c1]
    have hbL : Below wr6.heap.size wr6 wr6 := Below.refl _ _
    clear c1 HCF HYL S6
    have bL := b6.trans (hbL.mono b6.size)
    generalize bestI xs x = bst at *
    generalize cioI xs = cio at *
    generalize costI (owS xs) x = cow at *
    rcases HBF.out with ⟨a1, (a2 | ⟨a2, a3⟩ | ⟨a2, a3, a4⟩)⟩ | ⟨a2, a3, a4, a5, a6, a7, a8, a9⟩
    · rw [a2] at HMV0
      clear HOO0 HCI0 HSC0 HBF a2
      subst a1
      go_wp2_with (go_at_call 23; refine (HMV0.out _ (R6.below hbL)).mono ?_; rintro e wz ⟨rfl, hbz⟩)
      go_ret
      exact ⟨rfl, bL.trans (hbz.mono bL.size)⟩
    · rw [a2] at HMV0
      clear HOO0 HCI0 HSC0 HBF a2
      subst a1
      go_wp2_with (go_at_call 23; refine (HMV0.out _ (R6.below hbL)).mono ?_; rintro e wz ⟨rfl, hbz⟩)
      go_ret
      exact ⟨rfl, bL.trans (hbz.mono bL.size)⟩
    · rw [a2] at HMV0
      clear HOO0 HCI0 HSC0 HBF a2
      subst a1
      go_wp2_with (go_at_call 23; refine (HMV0.out _ (R6.below hbL)).mono ?_; rintro e wz ⟨rfl, hbz⟩)
      go_ret
      exact ⟨rfl, bL.trans (hbz.mono bL.size)⟩
    · rw [a2] at HOO0
      clear HMV0 HBF a2
      have q1 : decide (bst ≤ cio) = true := by rw [decide_eq_true_eq]; exact a6
      have q2 : decide (bst ≤ cow) = true := by rw [decide_eq_true_eq]; exact a7
      have q0 : decide (bst < 0) = false := by rw [decide_eq_false_iff_not]; omega
      go_wp2_with fail
      refine (HOO0.out _ (R6.below hbL)).mono ?_
      rintro e wo ⟨vo, rfl, hoo, hbo⟩
      have hRo : RdS wo vo (owS xs) := Rd.of_own hoo
      have RW := (R6.below hbL).below hbo
      have bo := bL.trans (hbo.mono bL.size)
      have HCI := Lib.hid (fun W (hW : Below wo.heap.size wo W) => (HCI0.out W (RW.below hW)).mono (fun e w' h => (⟨h.1, hW.trans (h.2.mono hW.size)⟩ : e = .returned (.int .i64 cio) ∧ Below wo.heap.size wo w')))
      have HSC := Lib.hid (fun W (hW : Below wo.heap.size wo W) => (HSC0.out vo W (hRo.below hW)).mono (fun e w' h => (⟨h.1, hW.trans (h.2.mono hW.size)⟩ : e = .returned (.int .i64 cow) ∧ Below wo.heap.size wo w')))
      have hb0 : Below wo.heap.size wo wo := Below.refl _ _
      clear hoo hRo RW HCI0 HSC0 HOO0 hbo bL hbL b6
      by_cases hx1 : 1 < x
      · have q3 : decide (x > 1) = true := by rw [decide_eq_true_eq]; exact hx1
        by_cases hbk : bst = cio
        · have q4 : (bst == cio) = true := by rw [beq_iff_eq]; exact hbk
          clear a3 a4 a5 a6 a7 a8 a9 hx1 hbk
          go_wp2_with (first | (go_at_call 15; refine (HCI.out _ (by assumption)).mono ?_; rintro e wz ⟨rfl, hbz⟩) | (go_at_call 20; refine (HSC.out _ (by assumption)).mono ?_; rintro e wz ⟨rfl, hbz⟩))
          go_ret
          exact ⟨rfl, bo.trans ((by assumption : Below wo.heap.size wo _).mono bo.size)⟩
        · have q4 : (bst == cio) = false := by simpa using hbk
          have q5 : (bst == cow) = true := by rw [beq_iff_eq]; omega
          clear a3 a4 a5 a6 a7 a8 a9 hx1 hbk
          go_wp2_with (first | (go_at_call 15; refine (HCI.out _ (by assumption)).mono ?_; rintro e wz ⟨rfl, hbz⟩) | (go_at_call 20; refine (HSC.out _ (by assumption)).mono ?_; rintro e wz ⟨rfl, hbz⟩))
          go_ret
          exact ⟨rfl, bo.trans ((by assumption : Below wo.heap.size wo _).mono bo.size)⟩
      · have q3 : decide (x > 1) = false := by rw [decide_eq_false_iff_not]; omega
        have q5 : (bst == cow) = true := by rw [beq_iff_eq]; omega
        by_cases hbk : bst = cio
        · have q4 : (bst == cio) = true := by rw [beq_iff_eq]; exact hbk
          clear a3 a4 a5 a6 a7 a8 a9 hx1 hbk
          go_wp2_with (first | (go_at_call 15; refine (HCI.out _ (by assumption)).mono ?_; rintro e wz ⟨rfl, hbz⟩) | (go_at_call 20; refine (HSC.out _ (by assumption)).mono ?_; rintro e wz ⟨rfl, hbz⟩))
          go_ret
          exact ⟨rfl, bo.trans ((by assumption : Below wo.heap.size wo _).mono bo.size)⟩
        · have q4 : (bst == cio) = false := by simpa using hbk
          clear a3 a4 a5 a6 a7 a8 a9 hx1 hbk
          go_wp2_with (first | (go_at_call 15; refine (HCI.out _ (by assumption)).mono ?_; rintro e wz ⟨rfl, hbz⟩) | (go_at_call 20; refine (HSC.out _ (by assumption)).mono ?_; rintro e wz ⟨rfl, hbz⟩))
          go_ret
          exact ⟨rfl, bo.trans ((by assumption : Below wo.heap.size wo _).mono bo.size)⟩
  · obtain ⟨A3, cap3, rfl, hn3, hc3, hcell⟩ := S6.open
    have hbd := mul_bound (S := (S : Int)) (by omega) (by omega) s4 s5
    obtain ⟨P, hP⟩ : ∃ P : Int, P = (S : Int) * (y - 1) := ⟨_, rfl⟩
    rw [← hP] at s6 hbd
    have hw : IntKind.i64.wrap ((S : Int) * (y - 1)) = P := by rw [← hP]; exact IntWalk.i64_in _ ⟨by omega, by omega⟩
    have q7 : decide (costI ys y ≥ 0) = true := by rw [decide_eq_true_eq]; exact s7
    have q8 : (costI ys y != (ys.length : Int) + P) = false := by rw [s6]; simp
    have HT := Lib.hid (fun k hk => swN_take ys k hk)
    have HW := Lib.hid s1
    have HLE := Lib.hid (fun k => swN_le (ys.take k))
    have HBL := Lib.hid hbd
    clear HCF s1 s6 s7
    generalize costI ys y = n at *
    go_wp2
    go_loopw [11, 13, 56] (fun o _ i wr => ∃ (k : Nat), k ≤ ys.length ∧ i = .int .i64 k ∧ o = .int .i64 (swN (ys.take k) : Nat) ∧ Below wr6.heap.size wr6 wr) (fun _ _ i _ => ys.length - (intOf i).toNat)
    case atStart => exact ⟨0, by omega, rfl, by simp [swN], Below.refl _ _⟩
    case round =>
      obtain ⟨k, hk, rfl, rfl, hb⟩ := hrel
      have hbs := hb.size
      have hlk := HLE.out k
      have hlt' : (ys.take k).length ≤ 60 := by rw [List.length_take]; omega
      by_cases hlt : k < ys.length
      · obtain ⟨b, off, rfl, hbl, hc1, hc2, hc3⟩ := hcell k hlt
        have hd1 := (hb.cell (p := ⟨b, off + k * 3, none⟩) hbl).trans hc1
        have hd2 := (hb.cell (p := ⟨b, off + k * 3 + 1, none⟩) hbl).trans hc2
        have hd3 := (hb.cell (p := ⟨b, off + k * 3 + 2, none⟩) hbl).trans hc3
        have hnx := HT.out k hlt
        have HNX : Hid ((xk : Int) → xk = ys[k].1 → Value.int .i64 ((swN (ys.take (k + 1)) : Nat) : Int) = .int .i64 ((swN (ys.take k) : Int) + (if xk = 1 then 1 else 0))) := by
          show ∀ xk : Int, _
          intro xk hxk
          rw [hnx, hxk]
          split <;> simp
        clear hc1 hc2 hc3 hcell HT hnx
        have HNY := HNX.out _ rfl
        clear HNX
        generalize ys[k].1 = x1 at *
        generalize ys[k].2.1 = x2 at *
        generalize ys[k].2.2 = x3 at *
        by_cases hx1 : x1 = 1
        · subst hx1
          have HNZ : Hid (Value.int .i64 ((swN (ys.take k) : Int) + 1) = Value.int .i64 ((swN (ys.take (k + 1)) : Nat) : Int)) := by show _ = _; rw [HNY, if_pos rfl]
          clear HNY
          generalize swN (ys.take k) = acc at *
          go_wp2
          go_roundw
          case rel => exact ⟨k + 1, by omega, by go_num, HNZ.out, by (repeat' (first | (with_reducible exact Below.refl _ _) | (with_reducible assumption) | (with_reducible refine Below.alloc ?_ ?_ _) | (with_reducible refine Below.drew ?_) | (with_reducible refine Below.setCell ?_ ?_ _) | (with_reducible exact Nat.le_refl _) | omega | ((repeat (first | rewrite [World.size_alloc] | rewrite [World.size_setCell] | rewrite [World.size_drew])); omega) | (simp; omega) | (simp; done)))⟩
          case measure => simp [intOf]; omega
        · have tt : (x1 == 1) = false := by simpa using hx1
          have HNZ : Hid (Value.int .i64 (swN (ys.take k) : Int) = Value.int .i64 ((swN (ys.take (k + 1)) : Nat) : Int)) := by show _ = _; rw [HNY, if_neg hx1]; simp
          clear HNY hx1
          generalize swN (ys.take k) = acc at *
          go_wp2
          go_roundw
          case rel => exact ⟨k + 1, by omega, by go_num, HNZ.out, by (repeat' (first | (with_reducible exact Below.refl _ _) | (with_reducible assumption) | (with_reducible refine Below.alloc ?_ ?_ _) | (with_reducible refine Below.drew ?_) | (with_reducible refine Below.setCell ?_ ?_ _) | (with_reducible exact Nat.le_refl _) | omega | ((repeat (first | rewrite [World.size_alloc] | rewrite [World.size_setCell] | rewrite [World.size_drew])); omega) | (simp; omega) | (simp; done)))⟩
          case measure => simp [intOf]; omega
      · have HX : ys.take k = ys := List.take_of_length_le (by omega)
        rw [HX, HW.out]
        have hbL := hb
        have hB1 := HBL.out.1
        have hB2 := HBL.out.2
        clear hcell HT HW HLE HBL HX hb hlk hlt'
        have bL := b6.trans (hbL.mono b6.size)
        generalize bestI xs x = bst at *
        generalize cioI xs = cio at *
        generalize costI (owS xs) x = cow at *
        rcases HBF.out with ⟨a1, (a2 | ⟨a2, a3⟩ | ⟨a2, a3, a4⟩)⟩ | ⟨a2, a3, a4, a5, a6, a7, a8, a9⟩
        · rw [a2] at HMV0
          clear HOO0 HCI0 HSC0 HBF a2
          subst a1
          go_wp2_with (go_at_call 23; refine (HMV0.out _ (R6.below hbL)).mono ?_; rintro e wz ⟨rfl, hbz⟩)
          go_ret
          exact ⟨rfl, bL.trans (hbz.mono bL.size)⟩
        · rw [a2] at HMV0
          clear HOO0 HCI0 HSC0 HBF a2
          subst a1
          go_wp2_with (go_at_call 23; refine (HMV0.out _ (R6.below hbL)).mono ?_; rintro e wz ⟨rfl, hbz⟩)
          go_ret
          exact ⟨rfl, bL.trans (hbz.mono bL.size)⟩
        · rw [a2] at HMV0
          clear HOO0 HCI0 HSC0 HBF a2
          subst a1
          go_wp2_with (go_at_call 23; refine (HMV0.out _ (R6.below hbL)).mono ?_; rintro e wz ⟨rfl, hbz⟩)
          go_ret
          exact ⟨rfl, bL.trans (hbz.mono bL.size)⟩
        · rw [a2] at HOO0
          clear HMV0 HBF a2
          have q1 : decide (bst ≤ cio) = true := by rw [decide_eq_true_eq]; exact a6
          have q2 : decide (bst ≤ cow) = true := by rw [decide_eq_true_eq]; exact a7
          have q0 : decide (bst < 0) = false := by rw [decide_eq_false_iff_not]; omega
          go_wp2_with fail
          refine (HOO0.out _ (R6.below hbL)).mono ?_
          rintro e wo ⟨vo, rfl, hoo, hbo⟩
          have hRo : RdS wo vo (owS xs) := Rd.of_own hoo
          have RW := (R6.below hbL).below hbo
          have bo := bL.trans (hbo.mono bL.size)
          have HCI := Lib.hid (fun W (hW : Below wo.heap.size wo W) => (HCI0.out W (RW.below hW)).mono (fun e w' h => (⟨h.1, hW.trans (h.2.mono hW.size)⟩ : e = .returned (.int .i64 cio) ∧ Below wo.heap.size wo w')))
          have HSC := Lib.hid (fun W (hW : Below wo.heap.size wo W) => (HSC0.out vo W (hRo.below hW)).mono (fun e w' h => (⟨h.1, hW.trans (h.2.mono hW.size)⟩ : e = .returned (.int .i64 cow) ∧ Below wo.heap.size wo w')))
          have hb0 : Below wo.heap.size wo wo := Below.refl _ _
          clear hoo hRo RW HCI0 HSC0 HOO0 hbo bL hbL b6
          by_cases hx1 : 1 < x
          · have q3 : decide (x > 1) = true := by rw [decide_eq_true_eq]; exact hx1
            by_cases hbk : bst = cio
            · have q4 : (bst == cio) = true := by rw [beq_iff_eq]; exact hbk
              clear a3 a4 a5 a6 a7 a8 a9 hx1 hbk
              go_wp2_with (first | (go_at_call 15; refine (HCI.out _ (by assumption)).mono ?_; rintro e wz ⟨rfl, hbz⟩) | (go_at_call 20; refine (HSC.out _ (by assumption)).mono ?_; rintro e wz ⟨rfl, hbz⟩))
              go_ret
              exact ⟨rfl, bo.trans ((by assumption : Below wo.heap.size wo _).mono bo.size)⟩
            · have q4 : (bst == cio) = false := by simpa using hbk
              have q5 : (bst == cow) = true := by rw [beq_iff_eq]; omega
              clear a3 a4 a5 a6 a7 a8 a9 hx1 hbk
              go_wp2_with (first | (go_at_call 15; refine (HCI.out _ (by assumption)).mono ?_; rintro e wz ⟨rfl, hbz⟩) | (go_at_call 20; refine (HSC.out _ (by assumption)).mono ?_; rintro e wz ⟨rfl, hbz⟩))
              go_ret
              exact ⟨rfl, bo.trans ((by assumption : Below wo.heap.size wo _).mono bo.size)⟩
          · have q3 : decide (x > 1) = false := by rw [decide_eq_false_iff_not]; omega
            have q5 : (bst == cow) = true := by rw [beq_iff_eq]; omega
            by_cases hbk : bst = cio
            · have q4 : (bst == cio) = true := by rw [beq_iff_eq]; exact hbk
              clear a3 a4 a5 a6 a7 a8 a9 hx1 hbk
              go_wp2_with (first | (go_at_call 15; refine (HCI.out _ (by assumption)).mono ?_; rintro e wz ⟨rfl, hbz⟩) | (go_at_call 20; refine (HSC.out _ (by assumption)).mono ?_; rintro e wz ⟨rfl, hbz⟩))
              go_ret
              exact ⟨rfl, bo.trans ((by assumption : Below wo.heap.size wo _).mono bo.size)⟩
            · have q4 : (bst == cio) = false := by simpa using hbk
              clear a3 a4 a5 a6 a7 a8 a9 hx1 hbk
              go_wp2_with (first | (go_at_call 15; refine (HCI.out _ (by assumption)).mono ?_; rintro e wz ⟨rfl, hbz⟩) | (go_at_call 20; refine (HSC.out _ (by assumption)).mono ?_; rintro e wz ⟨rfl, hbz⟩))
              go_ret
              exact ⟨rfl, bo.trans ((by assumption : Below wo.heap.size wo _).mono bo.size)⟩

namespace fnCost
open Go.RowKit Go.PM Go.ChangeShapes Go.WideShapes Go.ChangeAt
open Go.ChangeMaps (open_string shut_string)
set_option maxRecDepth 100000 in
theorem lifted (os : Os) (started : os.Started) (H : Type) (enc : TypeId × Value → H) :
    ReturnsInHanded {} Tryz.checked os 4 .any (Rows.fnCostSpec.pre6 enc Tryz.prog Tryz.f4 Rows.fnCostRow.domain false) (Rows.fnCostSpec.post enc Tryz.prog Tryz.f4 false true false false) := by
  refine returnsInHanded_of_change (C := Tryz.checked) own started (by kernel_rfl) Tryz.func4
    (ChangeSpec.witness6 (enc := enc) (C := Tryz.checked) false ⟨#[], #[.slice none 0 0, .slice none 0 0], []⟩ 8 (by kernel_rfl) (by kernel_rfl) (by kernel_rfl) (by kernel_rfl)) ?_
  intro W base args ds gs before hval0 hW hcnd _
  have hval : ∀ (j : Nat) t v, Tryz.f4.params[j]? = some t → args[j]? = some v → Value.okWide Tryz.prog W .any base t v := hval0
  have hW' := hW
  obtain ⟨p, q, hA0, hV, rfl, hfz, hnd⟩ := hW
  have hA : DataW.TrodAll enc Tryz.prog W 0 (fun _ => true) true Tryz.f4.params.toList args.toList ds p := hA0
  rw [Tryz.params4] at hA hval
  obtain ⟨v0, vs0, d0, ds0, p0, q0, hargs, rfl, rfl, h0, r0⟩ := trodAll_cons hA
  obtain ⟨v1, vs1, d1, ds1, p1, q1, rfl, rfl, rfl, h1, r1⟩ := trodAll_cons r0
  obtain ⟨rfl, rfl, rfl⟩ := trodAll_nil r1
  obtain rfl : args = #[v0, v1] := by cases args; simp_all
  obtain ⟨rfl, rfl⟩ := trodVars_none hV
  have k0 := h0
  have lt0 : ∀ x ∈ p0, x.block < W.heap.size := by obtain ⟨m, hm⟩ := k0; exact DataW.trod_lt m _ _ _ hm
  have k1 := h1
  have lt1 : ∀ x ∈ p1, x.block < W.heap.size := by obtain ⟨m, hm⟩ := k1; exact DataW.trod_lt m _ _ _ hm
  obtain ⟨a0, len0, cap0, rfl⟩ := okWide_slice Tryz.underlying22 (hval 0 22 v0 rfl rfl)
  have hx0 : RdB W W.heap.size (.slice a0 len0 cap0) len0 := by obtain ⟨fuel, hf⟩ := h0; exact open_bytes hf
  obtain ⟨a1, len1, cap1, rfl⟩ := okWide_slice Tryz.underlying22 (hval 1 22 v1 rfl rfl)
  have hx1 : RdB W W.heap.size (.slice a1 len1 cap1) len1 := by obtain ⟨fuel, hf⟩ := h1; exact open_bytes hf
  clear hA0 hval0
  refine (exFCost W _ len0 hx0 _ len1 hx1).mono fun e W' ⟨he, bel⟩ => ?_
  subst he
  exact ⟨_, rfl, _, _, _, [], _, [], hW', trodAll_mk1 (shut_bool Tryz.underlying4 _), (trodAll_cons_mk (Below.trod laidOut (by kernel_rfl) (of_decide_eq_true (by kernel_rfl)) k0 bel lt0) (trodAll_cons_mk (Below.trod laidOut (by kernel_rfl) (of_decide_eq_true (by kernel_rfl)) k1 bel lt1) trodAll_mk0)), rfl, bel.frame _, fun h => by cases h⟩

theorem over : Rows.fnCostRow.holds Tryz.pinned (OpenSpec.ofChange Rows.fnCostSpec) :=
  OpenClaim.holds_of_wide 4 Tryz.f4 rfl rfl rfl rfl rfl rfl rfl ⟨rfl, rfl, rfl, rfl, rfl⟩ rfl rfl rfl rfl rfl (by kernel_rfl) Tryz.func4 (by kernel_rfl)
    (of_decide_eq_true (by kernel_rfl)) (by unfold Func.isWrapper; first | (rw [if_pos (by decide +kernel)]; kernel_rfl) | (rw [if_neg (by decide +kernel)]; exact ⟨rfl, rfl⟩))
    (fun os started H enc _ => lifted os started H enc)

/-- The statement. -/
theorem proved : Rows.FnCostSaid := over
end fnCost
end Go.Proofs.YteadhnpmmpninaaGreat
