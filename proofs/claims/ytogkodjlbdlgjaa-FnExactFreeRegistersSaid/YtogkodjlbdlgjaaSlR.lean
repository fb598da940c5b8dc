import Derived.Test.YtogkodjlbdlgjaaSlI
import Derived.Test.YtogkodjlbdlgjaaPlaces
import Derived.Test.YtogkodjlbdlgjaaPlacesS
import Derived.Test.YtogkodjlbdlgjaaReaders
namespace Go.PD
open Go.PM Go.RowKit Go.Lib
/-- registers that moves neither read nor write -/
def frP (xs : List Mv) (p : Nat) : Bool := decide (p < 6) && !piH xs p
def frR (xs : List Mv) : ByteArray := namesW (frP xs)
theorem slB_nm (p : Nat) (hp : p < 9) : slB (nm p) = decide (6 ≤ p) := by
  match p, hp with
  | 0, _ | 1, _ | 2, _ | 3, _ | 4, _ | 5, _ | 6, _ | 7, _ | 8, _ => decide +kernel
/-- the registers that do not stand in a text -/
def rfH (t : List UInt8) (p : Nat) : Bool := decide (p < 6) && !decide (placesL.getD p 0 ∈ t)
def rfB (t : List UInt8) (k : Nat) : ByteArray := ⟨(namesL (rfH t) (List.range k)).toArray⟩
theorem rfB_succ (t : List UInt8) (k : Nat) : rfB t (k + 1) = if rfH t k then rfB t k ++ nm k else rfB t k := by
  unfold rfB
  rw [List.range_succ]
  cases h : rfH t k with
  | false => simp [namesL, h]
  | true =>
    apply ByteArray.ext
    rw [if_pos rfl, ByteArray.data_append]
    simp [namesL, h, nm]
theorem rfB_zero (t : List UInt8) : rfB t 0 = ⟨#[]⟩ := rfl
theorem rfB_size (t : List UInt8) (k : Nat) : (rfB t k).size ≤ k := by
  have h1 : (namesL (rfH t) (List.range k)).length ≤ k := by
    simp only [namesL, List.length_map]
    have := List.length_filter_le (rfH t) (List.range k)
    simpa using this
  have e : (rfB t k).size = (namesL (rfH t) (List.range k)).length := by simp [rfB, ByteArray.size]
  omega
theorem rfB_full (t : List UInt8) : rfB t 6 = namesW (rfH t) := by
  unfold rfB namesW namesL
  congr 2
theorem rfH_eq (t : List UInt8) (p : Nat) (hp : p < 6) : rfH t p = decide (indexByte t (placesL.getD p 0) < 0) := by
  unfold rfH
  rw [decide_eq_true hp, Bool.true_and]
  have := indexByte_mem t (placesL.getD p 0)
  by_cases h : placesL.getD p 0 ∈ t
  · rw [decide_eq_true h, decide_eq_false (by have := this.2 h; omega)]; rfl
  · rw [decide_eq_false h, decide_eq_true (by have : ¬ 0 ≤ indexByte t (placesL.getD p 0) := fun e => h (this.1 e); omega)]; rfl
end Go.PD
namespace Go.Proofs.Ytogkodjlbdlgjaa
open Go.RowKit Go.PM Go.PD Go.Lib

theorem plcs_mem (xs : List Mv) (p : Nat) (hp : p < 9) : placesL.getD p 0 ∈ (plcs xs).data.toList ↔ piH xs p = true := by
  have hinj : ∀ q, q < 9 → placesL.getD q 0 = placesL.getD p 0 → q = p := by
    intro q hq e
    have : nm q = nm p := by unfold nm; rw [e]
    exact nm_inj hq hp this
  unfold plcs namesW namesL
  rw [List.toList_toArray, List.mem_map]
  constructor
  · rintro ⟨q, hq, e⟩
    rw [List.mem_filter, List.mem_range] at hq
    rw [← hinj q hq.1 e]; exact hq.2
  · intro h
    exact ⟨p, by rw [List.mem_filter, List.mem_range]; exact ⟨hp, h⟩, rfl⟩
theorem frP_eq (xs : List Mv) (p : Nat) (hp : p < 9) : frP xs p = (!slB (nm p) && !decide (placesL.getD p 0 ∈ (plcs xs).data.toList)) := by
  have h1 := slB_nm p hp
  have h2 : decide (placesL.getD p 0 ∈ (plcs xs).data.toList) = piH xs p := by
    rw [Bool.eq_iff_iff, decide_eq_true_eq]; exact plcs_mem xs p hp
  rw [h1, h2, frP]
  congr 1
  by_cases h : p < 6
  · rw [decide_eq_true h, decide_eq_false (by omega)]; rfl
  · rw [decide_eq_false h, decide_eq_true (by omega)]; rfl
theorem rfB_frR (xs : List Mv) : rfB (plcs xs).data.toList 6 = frR xs := by
  rw [rfB_full, frR]
  refine namesW_congr fun p hp => ?_
  unfold rfH frP
  have h2 : decide (placesL.getD p 0 ∈ (plcs xs).data.toList) = piH xs p := by
    rw [Bool.eq_iff_iff, decide_eq_true_eq]; exact plcs_mem xs p hp
  rw [h2]
set_option maxRecDepth 100000 in
set_option maxHeartbeats 1600000 in
theorem freeReg1_c (xs : List Mv) (b : Nat) (p : Nat) (hp : p < 9) (w : World) (hA : At w b 9 #[.string (plcs xs)]) :
    Calls Try.prog 85 #[.int .i64 p, .pointer (some ⟨b, 0, none⟩)] w fun e w' => e = .returned (.bool (frP xs p)) ∧ Below w.heap.size w w' := by
  have HF := Lib.hid (frP_eq xs p hp)
  have HN := Lib.hid (fun W => name_c p hp W)
  have HS := Lib.hid (fun W => isSlot_c (nm p) W)
  have HC := Lib.hid (fun W => (Try.strings_Contains_one (plcs xs) (placesL.getD p 0) W).mono (R' := fun e w' => e = .returned (.bool (decide (placesL.getD p 0 ∈ (plcs xs).data.toList))) ∧ W = w') fun _ _ ⟨e1, e2⟩ => ⟨by
        rw [e1]; congr 2; simp only [indexByte_mem], e2.symm⟩)
  have HNM : Hid ((⟨#[placesL.getD p 0]⟩ : ByteArray) = nm p) := rfl
  rw [HNM.out] at HC
  have hlt := hA.lt
  have hCx : ∀ x : Ext w.heap.size w, x.val.cell? ⟨b, 0, none⟩ = some (.string (plcs xs)) := fun x => (x.property.cell (p := ⟨b, 0, none⟩) hlt).trans (hA.cell 0)
  generalize decide (placesL.getD p 0 ∈ (plcs xs).data.toList) = dd at *
  generalize nm p = q at *
  generalize plcs xs = t at *
  cases hs : slB q with
  | true =>
    rw [hs] at HS
    go_enter Try.func85, Try.ntmps85
    go_wp2
    refine wp_region_ext w.heap.size (by kernel_rfl) (by kernel_rfl) ?_
    repeat (go_big_quiet_step (first | (go_at_call 70; exact ext_same _ (HN.out _)) | (go_at_call 23; exact ext_same _ (HS.out _))))
    refine wpQuiet_nil ?_
    intro w2 hw'
    obtain ⟨xw, hxw⟩ := hw'
    have hb2 := xw.property
    rw [← hxw] at hb2
    clear hxw xw
    go_wp2
    go_ret
    exact ⟨by rw [HF.out, hs]; rfl, hb2⟩
  | false =>
    rw [hs] at HS
    go_enter Try.func85, Try.ntmps85
    go_wp2
    refine wp_region_ext w.heap.size (by kernel_rfl) (by kernel_rfl) ?_
    repeat (go_big_quiet_step (first | (go_at_call 70; exact ext_same _ (HN.out _)) | (go_at_call 23; exact ext_same _ (HS.out _)) | (go_at_call 56; exact ext_same _ (HC.out _))))
    refine wpQuiet_nil ?_
    intro w2 hw'
    obtain ⟨xw, hxw⟩ := hw'
    have hb2 := xw.property
    rw [← hxw] at hb2
    clear hxw xw
    go_wp2
    go_ret
    exact ⟨by rw [HF.out, hs]; rfl, hb2⟩
set_option maxRecDepth 100000 in
set_option maxHeartbeats 1600000 in
theorem imFreeRegisters_c (xs : List Mv) (v : Value) (w : World) (hx : RdM w v xs) :
    Calls Try.prog 32 #[v] w fun e w' => e = .returned (.tuple #[.string (okS (mvalid xs) (frR xs)), .bool (mvalid xs)]) ∧ Below w.heap.size w w' := by
  have HPL := Lib.hid (imPlacesIn_c xs v w hx)
  have HO : Hid (∀ b s, okS b s = if b then s else ⟨#[]⟩) := fun _ _ => rfl
  rcases Bool.eq_false_or_eq_true (mvalid xs) with h1 | h1
  · rw [h1, HO.out] at HPL
    have H1 := Lib.hid h1
    clear h1
    go_enter Try.func32, Try.ntmps32
    go_wp2_with fail
    refine HPL.out.mono ?_
    rintro e w1 ⟨rfl, hb1⟩
    simp only [if_true]
    have hA1 := At.new w1 9 #[.string (plcs xs)]
    have hBA : Below w1.heap.size w1 (w1.alloc (.cells #[.string (plcs xs)] 9)) := (Below.refl _ _).alloc (Nat.le_refl _) _
    have HNW := Lib.hid (names_c 85 #[.pointer (some ⟨w1.heap.size, 0, none⟩)] (frP xs) (w1.alloc (.cells #[.string (plcs xs)] 9)) (fun _ _ => rfl) (fun p hp W hW => freeReg1_c xs w1.heap.size p hp W (hA1.keep hW)))
    go_wp2_with fail
    refine HNW.out.mono ?_
    rintro e w2 ⟨rfl, hb2⟩
    have hB := hb1.trans ((hBA.trans (hb2.mono hBA.size)).mono hb1.size)
    clear hb2 hBA HNW hA1
    go_wp2
    go_ret2
    exact ⟨by rw [H1.out]; rfl, hB⟩
  · rw [h1, HO.out] at HPL
    have H1 := Lib.hid h1
    clear h1
    go_enter Try.func32, Try.ntmps32
    go_wp2_with fail
    refine HPL.out.mono ?_
    rintro e w1 ⟨rfl, hb1⟩
    go_wp2
    go_ret2
    exact ⟨by rw [H1.out]; rfl, hb1.alloc hb1.size _⟩
set_option maxRecDepth 100000 in
set_option maxHeartbeats 2000000 in
theorem l8Free_c (xs : List Mv) (v : Value) (w : World) (hx : RdM w v xs) (hz : ∀ m ∈ xs, m.1.size ≤ 9223372036854775807 ∧ m.2.size ≤ 9223372036854775807) (hn' : xs.length ≤ 1048576) :
    Calls Try.prog 76 #[v] w fun e w' => e = .returned (.string (rfB (okS (mvalid xs) (plcs xs)).data.toList 6)) ∧ Below w.heap.size w w' := by
  have HP := Lib.hid (spPlacesIn_c xs v w hx hz hn')
  have HTZ : (okS (mvalid xs) (plcs xs)).size ≤ 9223372036854775807 := by
    unfold okS
    split
    · have : (plcs xs).size ≤ 9 := by
        unfold plcs namesW
        have h1 : (namesL (piH xs) (List.range 9)).length ≤ 9 := by
          simp only [namesL, List.length_map]
          have := List.length_filter_le (piH xs) (List.range 9)
          simpa using this
        simpa [ByteArray.size] using h1
      omega
    · decide
  generalize okS (mvalid xs) (plcs xs) = t at *
  have HF := Lib.hid (fun c W => l13Find_c t c W HTZ)
  have HS := Lib.hid (fun k => rfB_succ t.data.toList k)
  have HZ := Lib.hid (fun k => rfB_size t.data.toList k)
  have HE := Lib.hid (fun k hk => rfH_eq t.data.toList k hk)
  have H0 := Lib.hid (rfB_zero t.data.toList)
  generalize t.data.toList = tl at *
  go_enter Try.func76, Try.ntmps76
  go_wp2_with fail
  refine HP.out.mono ?_
  rintro e w1 ⟨rfl, hb1⟩
  go_wp2
  go_loopw [3, 12] (fun o i wr => ∃ (k : Nat), k ≤ 6 ∧ i = .int .i64 k ∧ o = .string (rfB tl k) ∧ Below w1.heap.size w1 wr) (fun _ i _ => 6 - (RowKit.intOf i).toNat)
  case atStart => exact ⟨0, by omega, rfl, by rw [H0.out], Below.refl _ _⟩
  case round =>
    obtain ⟨k, hk, rfl, rfl, hb⟩ := hrel
    by_cases hlt : k < 6
    · have hs := HS.out k
      have hz := HZ.out k
      have he := HE.out k hlt
      have hFk := Lib.hid (fun W => HF.out (placesL.getD k 0) W)
      have hnz : (nm k).size = 1 := rfl
      generalize indexByte tl (placesL.getD k 0) = zz at *
      generalize hn1 : rfB tl (k + 1) = nx at *
      generalize rfB tl k = cur at *
      by_cases hneg : zz < 0
      · rw [decide_eq_true hneg] at he
        rw [he, if_pos rfl] at hs
        have hs2 := Lib.hid (hn1.trans hs)
        have hsz : cur.size + (nm k).size ≤ 10 := by omega
        have hcs : k = 0 ∨ k = 1 ∨ k = 2 ∨ k = 3 ∨ k = 4 ∨ k = 5 := by omega
        clear hs hn1 he
        rcases hcs with rfl | rfl | rfl | rfl | rfl | rfl
        all_goals
          go_wp2_with (go_at_call 112; refine (hFk.out _).mono ?_; rintro e w' ⟨rfl, rfl⟩)
          go_roundw
          case rel => first | exact ⟨1, by decide, rfl, by rw [hs2.out]; rfl, hb⟩ | exact ⟨2, by decide, rfl, by rw [hs2.out]; rfl, hb⟩ | exact ⟨3, by decide, rfl, by rw [hs2.out]; rfl, hb⟩ | exact ⟨4, by decide, rfl, by rw [hs2.out]; rfl, hb⟩ | exact ⟨5, by decide, rfl, by rw [hs2.out]; rfl, hb⟩ | exact ⟨6, by decide, rfl, by rw [hs2.out]; rfl, hb⟩
          case measure => simp [RowKit.intOf]
      · rw [decide_eq_false hneg] at he
        rw [he] at hs
        have hs2 := Lib.hid (hn1.trans hs)
        have hcs : k = 0 ∨ k = 1 ∨ k = 2 ∨ k = 3 ∨ k = 4 ∨ k = 5 := by omega
        clear hs hn1 he
        rcases hcs with rfl | rfl | rfl | rfl | rfl | rfl
        all_goals
          go_wp2_with (go_at_call 112; refine (hFk.out _).mono ?_; rintro e w' ⟨rfl, rfl⟩)
          go_roundw
          case rel => first | exact ⟨1, by decide, rfl, by rw [hs2.out]; rfl, hb⟩ | exact ⟨2, by decide, rfl, by rw [hs2.out]; rfl, hb⟩ | exact ⟨3, by decide, rfl, by rw [hs2.out]; rfl, hb⟩ | exact ⟨4, by decide, rfl, by rw [hs2.out]; rfl, hb⟩ | exact ⟨5, by decide, rfl, by rw [hs2.out]; rfl, hb⟩ | exact ⟨6, by decide, rfl, by rw [hs2.out]; rfl, hb⟩
          case measure => simp [RowKit.intOf]
    · have hk' : k = 6 := by omega
      subst hk'
      go_wp2
      go_ret
      exact ⟨rfl, hb1.trans (hb.mono hb1.size)⟩
set_option maxHeartbeats 800000 in
theorem spFreeRegisters_c (xs : List Mv) (v : Value) (w : World) (hx : RdM w v xs) (hz : ∀ m ∈ xs, m.1.size ≤ 9223372036854775807 ∧ m.2.size ≤ 9223372036854775807) (hn' : xs.length ≤ 1048576) :
    Calls Try.prog 33 #[v] w fun e w' => e = .returned (.tuple #[.string (okS (mvalid xs) (frR xs)), .bool (mvalid xs)]) ∧ Below w.heap.size w w' := by
  have HV := Lib.hid (spMovesValid_c xs v w hx hz hn')
  have HFR := Lib.hid (fun W (hW : Below w.heap.size w W) => l8Free_c xs v W (hx.below hW) hz hn')
  have HO : Hid (∀ b s, okS b s = if b then s else ⟨#[]⟩) := fun _ _ => rfl
  have HE := Lib.hid (rfB_frR xs)
  rcases Bool.eq_false_or_eq_true (mvalid xs) with h1 | h1
  · rw [h1, HO.out] at HFR
    have H1 := Lib.hid h1
    clear h1
    go_enter Try.func33, Try.ntmps33
    go_wp2_with fail
    refine HV.out.mono ?_
    rintro e w1 ⟨rfl, hb1⟩
    rw [H1.out]
    have hs1 := hb1.size
    have hfr := HFR.out _ hb1
    simp only [if_true] at hfr
    rw [HE.out] at hfr
    have HFF := Lib.hid hfr
    clear hfr
    go_wp2_with fail
    refine HFF.out.mono ?_
    rintro e w2 ⟨rfl, hb2⟩
    go_wp2
    go_ret2
    exact ⟨by rw [H1.out]; rfl, hb1.trans (hb2.mono hs1)⟩
  · have H1 := Lib.hid h1
    clear h1
    go_enter Try.func33, Try.ntmps33
    go_wp2_with fail
    refine HV.out.mono ?_
    rintro e w1 ⟨rfl, hb1⟩
    rw [H1.out]
    go_wp2
    go_ret2
    exact ⟨by rw [H1.out]; rfl, hb1⟩
end Go.Proofs.Ytogkodjlbdlgjaa
