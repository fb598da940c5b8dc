import Derived.Test.YtdhhmphnmllbhaaTop3
import Derived.Test.YtdhhmphnmllbhaaApp
import Derived.Test.YtdhhmphnmllbhaaSameS
import Derived.Test.YtdhhmphnmllbhaaHold
namespace Go.PM
open Go.RowKit
/-- the moves that give each place its value in a state -/
def effA (g : Nat → UInt8) (p : Nat) : Mv := (nm p, ⟨#[g p]⟩)
def effL (g : Nat → UInt8) (k : Nat) : List Mv := (List.range k).map (effA g)
theorem effL_succ (g : Nat → UInt8) (k : Nat) : effL g (k + 1) = effL g k ++ [effA g k] := by simp [effL, List.range_succ]
theorem effL_len (g : Nat → UInt8) (k : Nat) : (effL g k).length = k := by simp [effL]
theorem effL_at (g : Nat → UInt8) (n k : Nat) (h : k < (effL g n).length) : (effL g n)[k] = effA g k := by simp [effL]
theorem effL_take (g : Nat → UInt8) (n k : Nat) (h : k ≤ n) : (effL g n).take k = effL g k := by
  simp only [effL, ← List.map_take, List.take_range]
  rw [Nat.min_eq_left h]
theorem nms_nodup : ((List.range 9).map nm).Nodup := by decide +kernel
theorem effL_MV (g : Nat → UInt8) : MV (effL g 9) ↔ ∀ p, p < 9 → isS ⟨#[g p]⟩ = true := by
  constructor
  · intro h p hp
    have := h.1 (effA g p) (List.mem_map.2 ⟨p, by simpa using hp, rfl⟩)
    unfold mok at this; rw [Bool.and_eq_true] at this
    exact this.2
  · intro h
    refine ⟨fun m hm => ?_, ?_⟩
    · obtain ⟨p, hp, rfl⟩ := List.mem_map.1 hm
      have hp9 : p < 9 := by simpa using hp
      unfold mok effA
      rw [isP_nm hp9, h p hp9]; rfl
    · have : (effL g 9).map (·.1) = (List.range 9).map nm := by simp [effL, effA]
      rw [this]; exact nms_nodup
def effG (xs : List St) : Nat → UInt8 := runS xs xs.length nmS'
where nmS' : Nat → UInt8 := fun q => cellsL.getD q 0
def effOk (xs : List St) : Bool := svalid xs && mvalid (effL (effG xs) 9)
def effM (xs : List St) : List Mv := if effOk xs then busyM (effL (effG xs) 9) else []
theorem effM_yes {xs : List St} (h : effOk xs = true) : effM xs = busyM (effL (effG xs) 9) := if_pos h
theorem effM_no {xs : List St} (h : effOk xs = false) : effM xs = [] := if_neg (by rw [h]; decide)
theorem effOk_no {xs : List St} (p : Nat) (hp : p < 9) (h : isS ⟨#[effG xs p]⟩ = false) : effOk xs = false := by
  have : mvalid (effL (effG xs) 9) = false := by
    simp only [mvalid, decide_eq_false_iff_not, effL_MV]
    intro h2
    rw [h2 p hp] at h; cases h
  rw [effOk, this, Bool.and_false]
theorem effOk_yes {xs : List St} (hv : svalid xs = true) (h : ∀ p, p < 9 → isS ⟨#[effG xs p]⟩ = true) : effOk xs = true := by
  have : mvalid (effL (effG xs) 9) = true := by
    simp only [mvalid, decide_eq_true_eq, effL_MV]; exact h
  rw [effOk, this, hv]; rfl
theorem busyE_zero (g : Nat → UInt8) : busyM (effL g 0) = [] := rfl
theorem busyE_succ (g : Nat → UInt8) (k : Nat) : busyM (effL g (k + 1)) = if (⟨#[g k]⟩ : ByteArray) = nm k then busyM (effL g k) else busyM (effL g k) ++ [effA g k] := by
  unfold busyM
  rw [effL_succ, List.filter_append]
  by_cases h : (⟨#[g k]⟩ : ByteArray) = nm k
  · simp [effA, h]
  · have : ¬ nm k = (⟨#[g k]⟩ : ByteArray) := fun e => h e.symm
    simp [effA, h, this]
theorem busyE_le (g : Nat → UInt8) (k : Nat) : (busyM (effL g k)).length ≤ k := by
  have := busyM_le (effL g k)
  rw [effL_len] at this; exact this
theorem stB_names : stB (fun q => cellsL.getD q 0) = cellsB := rfl
end Go.PM
namespace Go.Proofs.Ytdhhmphnmllbhaa
open Go.RowKit Go.PM

theorem l2Fresh_c (w : World) : Calls Try.prog 78 #[] w fun e w' => e = .returned (.string cellsB) ∧ w = w' := by
  go_enter Try.func78, Try.ntmps78
  go_wp2
  go_ret
  exact ⟨rfl, rfl⟩
set_option maxRecDepth 100000 in
set_option maxHeartbeats 2000000 in
theorem spEffectOf_c (xs : List St) (v : Value) (w : World) (hx : RdS w v xs) :
    Calls Try.prog 33 #[v] w fun e w' => ∃ v', e = .returned (.tuple #[v', .bool (effOk xs)]) ∧ w'.ownsRow w.heap.size 37 2 v' (effM xs).length (mcells (effM xs)) ∧ Below w.heap.size w w' := by
  have hE := World.ownsRow_lit (e := 37) (base := w.heap.size) (size := 2) w #[] 0 (Nat.le_refl _) (Nat.zero_le _) rfl
  have hx0 : RdS (w.alloc (.cells #[] 37)) v xs := hx.below ((Below.refl _ _).alloc (Nat.le_refl _) _)
  have hsv := Lib.hid (spSequenceValid_c xs v _ hx0)
  have HIO := Lib.hid (fun W (hW : Below (w.alloc (.cells #[] 37)).heap.size (w.alloc (.cells #[] 37)) W) hv => l2Run_c xs hv v (fun q => cellsL.getD q 0) W (hx0.below hW))
  clear hx hx0
  rcases Bool.eq_false_or_eq_true (svalid xs) with h1 | h1
  · have HOK := Lib.hid (fun p hp h => effOk_no (xs := xs) p hp h)
    have HYS := Lib.hid (fun h => effOk_yes (xs := xs) h1 h)
    have HY := Lib.hid (fun h => effM_yes (xs := xs) h)
    have HN := Lib.hid (fun h => effM_no (xs := xs) h)
    have HV := Lib.hid (fun k hk => svalid_at h1 k hk)
    have HBS := Lib.hid (fun k => busyE_succ (effG xs) k)
    have HBL := Lib.hid (fun k => busyE_le (effG xs) k)
    have HG : Hid (stB (runS xs xs.length (fun q => cellsL.getD q 0)) = stB (effG xs)) := rfl
    have HX := Lib.hid (fun k hk => stB_cell (effG xs) k hk)
    have HNM : Hid (∀ q, q < 9 → (ByteArray.mk #[97, 98, 99, 100, 101, 102, 65, 66, 67]).extract q (q+1) = nm q) := by
      show ∀ q, _
      intro q hq
      match q, hq with
      | 0, _ | 1, _ | 2, _ | 3, _ | 4, _ | 5, _ | 6, _ | 7, _ | 8, _ => decide +kernel
    have H1 := Lib.hid h1
    clear h1
    go_enter Try.func33, Try.ntmps33
    go_wp2_with fail
    refine hsv.out.mono ?_
    rintro e w1 ⟨rfl, hb1⟩
    rw [H1.out]
    have hE1 := own_keep hE hb1
    have hio := HIO.out w1 hb1 HV.out
    rw [HG.out, show stB (fun q => cellsL.getD q 0) = cellsB from rfl] at hio
    have HIO2 := Lib.hid hio
    clear hio HIO HV HG hE
    have bel1 : Below w.heap.size w w1 := ((Below.refl _ _).alloc (Nat.le_refl _) _).trans (hb1.mono (by simp))
    have hs1 := bel1.size
    generalize hgg : effG xs = g at *
    have HGG := Lib.hid hgg
    clear hgg
    have hsz : (stB g).size = 11 := rfl
    generalize stB g = t at *
    go_wp2_with (first | (go_at_call 78; refine (l2Fresh_c _).mono ?_; rintro e w' ⟨rfl, rfl⟩) | (go_at_call 74; refine HIO2.out.mono ?_; rintro e w2 ⟨rfl, hb2⟩))
    have hE2 := own_keep hE1 hb2
    have bel2 := bel1.trans (hb2.mono hs1)
    have hs2 := bel2.size
    clear hE1
    go_loopw [4, 6, 7, 16] (fun o _ _ i wr => ∃ (k : Nat), k ≤ 9 ∧ i = .int .i64 k ∧ wr.ownsRow w.heap.size 37 2 o (busyM (effL g k)).length (mcells (busyM (effL g k))) ∧ Below w.heap.size w wr ∧ Hid (∀ p, p < k → isS ⟨#[g p]⟩ = true)) (fun _ _ _ i _ => 9 - (intOf i).toNat)
    case atStart => exact ⟨0, by omega, rfl, hE2, bel2, fun p hp => absurd hp (Nat.not_lt_zero p)⟩
    case round =>
      obtain ⟨k, hk, rfl, ho, hb, hm⟩ := hrel
      have hbs := hb.size
      by_cases hlt : k < 9
      · have hex := HX.out k (by omega)
        have hnm := HNM.out k hlt
        have hst := HBS.out k
        have hle := HBL.out k
        have HOKk := Lib.hid (HOK.out k hlt)
        have HM : Hid (isS ⟨#[g k]⟩ = true → ∀ p, p < k + 1 → isS ⟨#[g p]⟩ = true) := by
          intro h p hp
          rcases Nat.lt_succ_iff_lt_or_eq.1 hp with h2 | h2
          · exact hm.out p h2
          · subst h2; exact h
        have HEA : Hid (effA g k = (nm k, ⟨#[g k]⟩)) := rfl
        rw [HEA.out] at hst
        generalize (⟨#[g k]⟩ : ByteArray) = a at *
        generalize nm k = q at *
        have HST := Lib.hid hst
        clear hst
        have HIS : Hid (∀ x y : Bool, isP a = x → isD a = y → isS a = (x || y)) := by rintro x y rfl rfl; rfl
        have hnw := two_new wr (.string q) (.string a) 37
        by_cases hs : isS a = true
        · have HMN := Lib.hid (HM.out hs)
          have hpd : isP a = true ∨ (isP a = false ∧ isD a = true) := by
            rcases Bool.eq_false_or_eq_true (isP a) with h | h
            · exact .inl h
            · rcases Bool.eq_false_or_eq_true (isD a) with h2 | h2
              · exact .inr ⟨h, h2⟩
              · rw [HIS.out false false h h2] at hs; cases hs
          clear hs
          rcases Bool.eq_false_or_eq_true (a.toList == q.toList) with hd | hd
          · have HD : Hid (a = q) := by rw [beq_str, decide_eq_true_eq] at hd; exact hd
            rcases hpd with hp | ⟨hp, hp2⟩
            · go_wp2_with (go_at_call 52; refine (l1Place_c _ _).mono ?_; rintro e w' ⟨rfl, rfl⟩; rw [hp])
              go_roundw
              case rel => exact ⟨k + 1, by omega, by go_num, by rw [HST.out, if_pos HD.out]; exact ho, hb, HMN.out⟩
              case measure => simp [intOf]; omega
            · go_wp2_with (first | (go_at_call 52; refine (l1Place_c _ _).mono ?_; rintro e w' ⟨rfl, rfl⟩; rw [hp]) | (go_at_call 79; refine (l1Digit_c _ _).mono ?_; rintro e w' ⟨rfl, rfl⟩; rw [hp2]))
              go_roundw
              case rel => exact ⟨k + 1, by omega, by go_num, by rw [HST.out, if_pos HD.out]; exact ho, hb, HMN.out⟩
              case measure => simp [intOf]; omega
          · have HD : Hid (a ≠ q) := by rw [beq_str, decide_eq_false_iff_not] at hd; exact hd
            rcases hpd with hp | ⟨hp, hp2⟩
            · go_wp2_with (first | (go_at_call 52; refine (l1Place_c _ _).mono ?_; rintro e w' ⟨rfl, rfl⟩; rw [hp]) | (at_builtin; refine held ?_))
              unfold Held
              refine app_mv rfl (.tmp 39) (.tmp 46) rfl w.heap.size u4 (busyM (effL g k)) (q, a) ⟨wr.heap.size, 0, none⟩ 1 (by rfl) (by rfl) (own_keep ho ((Below.refl _ _).alloc (Nat.le_refl _) _)) hnw (by omega) (by simp; omega) ?_
              intro v' w3 hown3 hgrow3
              go_wp2
              have hb4 := below_grown hgrow3 (B := w.heap.size) (by simp; omega) (own_block_ge ho)
              go_roundw
              case rel => exact ⟨k + 1, by omega, by go_num, by rw [HST.out, if_neg HD.out]; exact hown3, (hb.alloc hbs _).trans hb4, HMN.out⟩
              case measure => simp [intOf]; omega
            · go_wp2_with (first | (go_at_call 52; refine (l1Place_c _ _).mono ?_; rintro e w' ⟨rfl, rfl⟩; rw [hp]) | (go_at_call 79; refine (l1Digit_c _ _).mono ?_; rintro e w' ⟨rfl, rfl⟩; rw [hp2]) | (at_builtin; refine held ?_))
              unfold Held
              refine app_mv rfl (.tmp 39) (.tmp 46) rfl w.heap.size u4 (busyM (effL g k)) (q, a) ⟨wr.heap.size, 0, none⟩ 1 (by rfl) (by rfl) (own_keep ho ((Below.refl _ _).alloc (Nat.le_refl _) _)) hnw (by omega) (by simp; omega) ?_
              intro v' w3 hown3 hgrow3
              go_wp2
              have hb4 := below_grown hgrow3 (B := w.heap.size) (by simp; omega) (own_block_ge ho)
              go_roundw
              case rel => exact ⟨k + 1, by omega, by go_num, by rw [HST.out, if_neg HD.out]; exact hown3, (hb.alloc hbs _).trans hb4, HMN.out⟩
              case measure => simp [intOf]; omega
        · have hs2 : isS a = false := by simpa using hs
          have hp : isP a = false := by
            rcases Bool.eq_false_or_eq_true (isP a) with h | h
            · rw [isS, h] at hs2; cases hs2
            · exact h
          have hp2 : isD a = false := by
            rcases Bool.eq_false_or_eq_true (isD a) with h | h
            · rw [isS, h, Bool.or_true] at hs2; cases hs2
            · exact h
          have hno : effOk xs = false := HOKk.out hs2
          have HNO := Lib.hid hno
          have HME := Lib.hid (HN.out hno)
          clear hs hs2 hno
          have hE3 := World.ownsRow_lit (e := 37) (base := w.heap.size) (size := 2) wr #[] 0 (by omega) (Nat.zero_le _) rfl
          go_wp2_with (first | (go_at_call 52; refine (l1Place_c _ _).mono ?_; rintro e w' ⟨rfl, rfl⟩; rw [hp]) | (go_at_call 79; refine (l1Digit_c _ _).mono ?_; rintro e w' ⟨rfl, rfl⟩; rw [hp2]))
          go_ret2
          exact ⟨_, by rw [HNO.out]; rfl, by rw [HME.out]; exact hE3, by (repeat' (first | (with_reducible exact Below.refl _ _) | (with_reducible assumption) | (with_reducible refine Below.alloc ?_ ?_ _) | (with_reducible refine Below.drew ?_) | (with_reducible refine Below.setCell ?_ ?_ _) | (with_reducible exact Nat.le_refl _) | omega | ((repeat (first | rewrite [World.size_alloc] | rewrite [World.size_setCell] | rewrite [World.size_drew])); omega) | (simp; omega) | (simp; done)))⟩
      · have hk9 : k = 9 := by omega
        subst hk9
        have hok : effOk xs = true := HYS.out hm.out
        have HOK2 := Lib.hid hok
        have HMM := Lib.hid (HY.out hok)
        clear hok
        go_wp2
        go_ret2
        refine ⟨_, by rw [HOK2.out]; rfl, by rw [HMM.out]; exact ho, hb⟩
  · have hno : effOk xs = false := by rw [effOk, h1]; rfl
    have HNO := Lib.hid hno
    have HME := Lib.hid (effM_no hno)
    have H1 := Lib.hid h1
    clear h1 hno HIO
    go_enter Try.func33, Try.ntmps33
    go_wp2_with fail
    refine hsv.out.mono ?_
    rintro e w1 ⟨rfl, hb1⟩
    rw [H1.out]
    have bel1 : Below w.heap.size w w1 := ((Below.refl _ _).alloc (Nat.le_refl _) _).trans (hb1.mono (by simp))
    go_wp2
    go_ret2
    exact ⟨_, by rw [HNO.out]; rfl, by rw [HME.out]; exact own_keep hE hb1, bel1⟩
end Go.Proofs.Ytdhhmphnmllbhaa
