import Derived.Test.YtdhhmphnmllbhaaSource
import Derived.BigQuiet
namespace Go.PM
def sameAt (xs ys : List Mv) (p : Nat) : Bool := decide (srcM xs (nm p) = srcM ys (nm p))
def sameM (xs ys : List Mv) : Bool := mvalid xs && mvalid ys && (List.range 9).all (sameAt xs ys)
theorem sameM_no {xs ys : List Mv} (k : Nat) (hk : k < 9) (h : sameAt xs ys k = false) : sameM xs ys = false := by
  have : (List.range 9).all (sameAt xs ys) = false := by
    rw [List.all_eq_false]
    exact ⟨k, by simpa using hk, by rw [h]; decide⟩
  rw [sameM, this, Bool.and_false]
theorem sameM_all {xs ys : List Mv} (h : ∀ p, p < 9 → sameAt xs ys p = true) : sameM xs ys = (mvalid xs && mvalid ys) := by
  have : (List.range 9).all (sameAt xs ys) = true := by
    rw [List.all_eq_true]
    intro p hp
    exact h p (by simpa using hp)
  rw [sameM, this, Bool.and_true]
end Go.PM
namespace Go.Proofs.Ytdhhmphnmllbhaa
open Go.RowKit Go.PM

set_option maxRecDepth 100000 in
set_option maxHeartbeats 2000000 in
theorem spSameMoves_c (xs ys : List Mv) (v u : Value) (w : World) (hx : RdM w v xs) (hy : RdM w u ys) (hz : ∀ m ∈ xs, m.1.size ≤ 9223372036854775807 ∧ m.2.size ≤ 9223372036854775807) (hn' : xs.length ≤ 1048576)
    (hzy : ∀ m ∈ ys, m.1.size ≤ 9223372036854775807 ∧ m.2.size ≤ 9223372036854775807) (hny : ys.length ≤ 1048576) :
    Calls Try.prog 20 #[v, u] w fun e w' => e = .returned (.bool (sameM xs ys)) ∧ Below w.heap.size w w' := by
  have HN : Hid (∀ q, q < 9 → (ByteArray.mk #[97, 98, 99, 100, 101, 102, 65, 66, 67]).extract q (q+1) = nm q) := by
    show ∀ q, _
    intro q hq
    match q, hq with
    | 0, _ | 1, _ | 2, _ | 3, _ | 4, _ | 5, _ | 6, _ | 7, _ | 8, _ => decide +kernel
  have HX := Lib.hid (fun W (hW : Below w.heap.size w W) => hx.below hW)
  have HY := Lib.hid (fun W (hW : Below w.heap.size w W) => hy.below hW)
  have HC := Lib.hid (fun W (hW : Below w.heap.size w W) q => l1Source_c xs v q W (hx.below hW))
  have HD := Lib.hid (fun W (hW : Below w.heap.size w W) q => l1Source_c ys u q W (hy.below hW))
  have HNO := Lib.hid (fun k hk => sameM_no (xs := xs) (ys := ys) k hk)
  have HALL := Lib.hid (fun h => sameM_all (xs := xs) (ys := ys) h)
  have HV := Lib.hid (fun W (hW : Below w.heap.size w W) => spMovesValid_c xs v W (hx.below hW) hz hn')
  have HU := Lib.hid (fun W (hW : Below w.heap.size w W) => spMovesValid_c ys u W (hy.below hW) hzy hny)
  go_enter Try.func20, Try.ntmps20
  go_wp2
  go_loopw [6] (fun i wr => ∃ (k : Nat), k ≤ 9 ∧ i = .int .i64 k ∧ Hid (∀ p, p < k → sameAt xs ys p = true) ∧ Below w.heap.size w wr) (fun i _ => 9 - (intOf i).toNat)
  case atStart => exact ⟨0, by omega, rfl, fun p hp => absurd hp (Nat.not_lt_zero p), Below.refl _ _⟩
  case round =>
    obtain ⟨k, hk, rfl, hm, hb⟩ := hrel
    have hbs := hb.size
    by_cases hlt : k < 9
    · have hex := HN.out k hlt
      have hC : ∀ x : Ext w.heap.size wr, Calls Try.prog 54 #[v, .string (nm k)] x.val fun e w' => e = .returned (.string (srcM xs (nm k))) ∧ Below x.val.heap.size x.val w' := fun x => HC.out x.val (hb.trans x.property) (nm k)
      have hD : ∀ x : Ext w.heap.size wr, Calls Try.prog 54 #[u, .string (nm k)] x.val fun e w' => e = .returned (.string (srcM ys (nm k))) ∧ Below x.val.heap.size x.val w' := fun x => HD.out x.val (hb.trans x.property) (nm k)
      have HS := Lib.hid (show sameAt xs ys k = decide (srcM xs (nm k) = srcM ys (nm k)) from rfl)
      have HNOk := Lib.hid (HNO.out k hlt)
      generalize srcM xs (nm k) = s1 at *
      generalize srcM ys (nm k) = s2 at *
      generalize nm k = q at *
      rcases Bool.eq_false_or_eq_true (s1.toList == s2.toList) with hd | hd
      · go_wp2
        refine wp_region_ext w.heap.size (by kernel_rfl) (by kernel_rfl) ?_
        repeat (go_big_quiet_step ((go_at_call 54; first | (with_reducible exact ext_call _ hbs (hC _)) | (with_reducible exact ext_call _ hbs (hD _)))))
        refine wpQuiet_nil ?_
        intro w2 hw'
        obtain ⟨xw, hxw⟩ := hw'
        have hb2 := xw.property
        rw [← hxw] at hb2
        clear hxw xw hC hD
        have hb3 : Below w.heap.size w w2 := hb.trans hb2
        go_wp2
        go_roundw
        case rel =>
          refine ⟨k + 1, by omega, by go_num, ?_, hb3⟩
          intro p hp
          by_cases hpk : p < k
          · exact hm.out p hpk
          · have : p = k := by omega
            subst this
            rw [HS.out, ← beq_str, hd]
        case measure => simp [intOf]; omega
      · go_wp2
        refine wp_region_ext w.heap.size (by kernel_rfl) (by kernel_rfl) ?_
        repeat (go_big_quiet_step ((go_at_call 54; first | (with_reducible exact ext_call _ hbs (hC _)) | (with_reducible exact ext_call _ hbs (hD _)))))
        refine wpQuiet_nil ?_
        intro w2 hw'
        obtain ⟨xw, hxw⟩ := hw'
        have hb2 := xw.property
        rw [← hxw] at hb2
        clear hxw xw hC hD
        have hb3 : Below w.heap.size w w2 := hb.trans hb2
        go_wp2
        go_ret
        exact ⟨by rw [HNOk.out (by rw [HS.out, ← beq_str, hd])]; rfl, hb3⟩
    · have hk9 : k = 9 := by omega
      subst hk9
      have HA := Lib.hid (HALL.out hm.out)
      have hcx := HV.out wr hb
      generalize mvalid xs = bx at *
      rcases bx with _ | _
      · go_wp2_with fail
        refine hcx.mono ?_
        rintro e w2 ⟨rfl, hb2⟩
        go_wp2
        go_ret
        exact ⟨by rw [HA.out]; rfl, hb.trans (hb2.mono hbs)⟩
      · go_wp2_with fail
        refine hcx.mono ?_
        rintro e w2 ⟨rfl, hb2⟩
        have hb3 := hb.trans (hb2.mono hbs)
        have hs3 := hb3.size
        go_wp2_with fail
        refine (HU.out w2 hb3).mono ?_
        rintro e w3 ⟨rfl, hb4⟩
        go_wp2
        go_ret
        exact ⟨by rw [HA.out]; rfl, hb3.trans (hb4.mono hs3)⟩
end Go.Proofs.Ytdhhmphnmllbhaa
