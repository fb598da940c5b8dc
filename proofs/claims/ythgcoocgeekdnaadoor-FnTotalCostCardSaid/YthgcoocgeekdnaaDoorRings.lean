import Derived.Test.YthgcoocgeekdnaaDoorRing
import Derived.Test.YthgcoocgeekdnaaDoorCut
import Derived.Test.YthgcoocgeekdnaaDoorMarkT
namespace Go.PW
open Go.PM
def ringsT (nx : Nat → Option Nat) (k : Nat) : List ByteArray := (ringsF nx k).map txt
def ringsB (xs : List Mv) : List ByteArray := if mvalid xs then ringsT (nxT (tabOf xs)) 9 else []
theorem ringsB_len (xs : List Mv) : (ringsB xs).length ≤ 1000 := by
  unfold ringsB
  by_cases h : mvalid xs = true
  · rw [if_pos h]
    have := (ringsF_lt (nice (SV_tab (by simpa [mvalid] using h))) 9 (by omega)).2.1
    unfold ringsT; rw [List.length_map]; omega
  · rw [if_neg h]; simp
theorem way_first (nx : Nat → Option Nat) (s : Nat) (hn : Nice nx) (hs : s < 19) : ∃ l, way nx s = s :: l := by
  have hr := way_rho hn hs
  have h1 := hr.at_ 0 hr.pos
  cases hw : way nx s with
  | nil => have := hr.pos; rw [hw] at this; simp at this
  | cons a l =>
    rw [hw] at h1
    simp only [List.getElem?_cons_zero, orb, Option.some.injEq] at h1
    subst h1; exact ⟨l, rfl⟩
end Go.PW
namespace Go.Proofs.YthgcoocgeekdnaaDoor
open Go.RowKit Go.PM Go.PW Go.Lib

set_option maxRecDepth 100000 in
set_option maxHeartbeats 1000000 in
theorem l3Rings_c (xs : List Mv) (h1 : MV xs) (v : Value) (w : World) (hx : RdM w v xs) :
    Calls Tryd.prog 109 #[v] w fun e w' => ∃ v', e = .returned v' ∧ w'.ownsRow w.heap.size 9 1 v' (ringsT (nxT (tabOf xs)) 9).length (tcells (ringsT (nxT (tabOf xs)) 9)) ∧ Below w.heap.size w w' := by
  have hf := SV_tab h1
  have hn := nice hf
  have HN : Hid (∀ q, q < 9 → (ByteArray.mk #[97, 98, 99, 100, 101, 102, 65, 66, 67]).extract q (q+1) = sn q) := by
    show ∀ q, _
    intro q hq
    match q, hq with
    | 0, _ | 1, _ | 2, _ | 3, _ | 4, _ | 5, _ | 6, _ | 7, _ | 8, _ => decide +kernel
  have HRG := Lib.hid (fun i (hi : i < 19) W (hW : RdM W v xs) => l3Ring_c xs h1 v i hi W hW)
  have HX := Lib.hid (fun W (hW : Below w.heap.size w W) => hx.below hW)
  have hE := World.ownsRow_lit (e := 9) (base := w.heap.size) (size := 1) w #[] 0 (Nat.le_refl _) (Nat.zero_le _) rfl
  have HLT := Lib.hid (fun k (hk : k ≤ 9) => ringsF_lt hn k hk)
  have HYES := Lib.hid (fun k => ringsF_yes (nx := nxT (tabOf xs)) (k := k))
  have HNO := Lib.hid (fun k => ringsF_no (nx := nxT (tabOf xs)) (k := k))
  have HON := Lib.hid (fun s (h : onRb (nxT (tabOf xs)) s = true) => show ringL (nxT (tabOf xs)) s = way (nxT (tabOf xs)) s by rw [ringL, if_pos h])
  have HOFF := Lib.hid (fun s (h : ¬ onRb (nxT (tabOf xs)) s = true) => show ringL (nxT (tabOf xs)) s = [] by rw [ringL, if_neg h])
  have HFI := Lib.hid (fun s hs => way_first (nxT (tabOf xs)) s hn hs)
  have HWL := Lib.hid (fun s (hs : s < 19) => (way_rho hn hs).len)
  have HT : Hid (∀ k, ringsT (nxT (tabOf xs)) k = (ringsF (nxT (tabOf xs)) k).map txt) := fun _ => rfl
  have H0 : Hid (ringsF (nxT (tabOf xs)) 0 = []) := rfl
  clear hf hn
  generalize nxT (tabOf xs) = nx at *
  go_enter Tryd.func109, Tryd.ntmps109
  go_wp2
  go_loopw [3, 4, 5, 6, 8] (fun o sn _ _ i wr => ∃ (k : Nat), k ≤ 9 ∧ i = .int .i64 k ∧ wr.ownsRow w.heap.size 9 1 o (ringsT nx k).length (tcells (ringsT nx k)) ∧ sn = .string (txt (ringsF nx k).flatten) ∧ Below w.heap.size w wr) (fun _ _ _ _ i _ => 9 - (RowKit.intOf i).toNat)
  case atStart => exact ⟨0, by omega, rfl, by rw [HT.out, H0.out]; exact hE, by rw [H0.out]; rfl, by (repeat' (first | (with_reducible exact Below.refl _ _) | (with_reducible assumption) | (with_reducible refine Below.alloc ?_ ?_ _) | (with_reducible refine Below.drew ?_) | (with_reducible refine Below.setCell ?_ ?_ _) | (with_reducible exact Nat.le_refl _) | omega | ((repeat (first | rewrite [World.size_alloc] | rewrite [World.size_setCell] | rewrite [World.size_drew])); omega) | (simp; omega) | (simp; done)))⟩
  case round =>
    obtain ⟨k, hk, rfl, ho, rfl, hb⟩ := hrel
    have hbs := hb.size
    by_cases hlt : k < 9
    · have hex := HN.out k hlt
      have hxr := HX.out wr hb
      have hrg := HRG.out k (by omega) wr hxr
      by_cases hon : onRb nx k = true
      · rw [HON.out k hon] at hrg
        obtain ⟨l, hl⟩ := HFI.out k (by omega)
        have hwl := HWL.out k (by omega)
        have hsz := txt_size (way nx k)
        have hfl := HLT.out k hk
        have hfz := txt_size (ringsF nx k).flatten
        have hmem := txt_mem hfl.1 (show k < 19 by omega)
        have ht0 : ∀ h : 0 < (txt (way nx k)).size, (txt (way nx k))[0] = ch k := by
          rw [hl]; intro h; rfl
        have hpos : 0 < (way nx k).length := by rw [hl]; simp
        have HRX := Lib.hid hrg
        have HME := Lib.hid hmem
        clear hrg hmem hl
        by_cases hin : k ∈ (ringsF nx k).flatten
        · have hno := HNO.out k (fun h => h.2 hin)
          have HNX := Lib.hid hno
          have HIX : Hid ((0 : Int) ≤ indexByte (txt (ringsF nx k).flatten).data.toList (ch k)) := (indexByte_mem _ _).2 (HME.out.2 hin)
          clear hno hin
          generalize txt (way nx k) = t at *
          generalize ch k = c at *
          generalize hsfe : txt (ringsF nx k).flatten = sf at *
          have HSF := Lib.hid hsfe
          clear hsfe
          have hne : t.toList.isEmpty = false := by
            rw [ByteArray.toList_eq]
            cases hl : t.data.toList with
            | nil => have := size_data t; rw [hl] at this; simp at this; omega
            | cons a l => rfl
          have htp : 0 < t.size := by omega
          have ht1 := ht0 htp
          clear ht0
          have hsf : sf.size ≤ 9223372036854775807 := by have := hfl.2.2; omega
          go_wp2_with fail
          refine HRX.out.mono ?_
          rintro e w2 ⟨rfl, hb2⟩
          have ho2 := own_keep ho hb2
          have hbw := hb.trans (hb2.mono hbs)
          have hbws := hbw.size
          clear hb2 ho
          have hix := HIX.out
          go_wp2_with (go_at_call 43; refine (l13Find_c sf c _ hsf).mono ?_; rintro e w' ⟨rfl, rfl⟩)
          go_roundw
          case rel => exact ⟨k + 1, by omega, by go_num, by rw [HT.out, HNX.out, ← HT.out]; exact ho2, by rw [HNX.out, HSF.out], hbw⟩
          case measure => simp [RowKit.intOf]; omega
        · have hyes := HYES.out k hon hin
          have HNX := Lib.hid hyes
          have HIX : Hid (¬ (0 : Int) ≤ indexByte (txt (ringsF nx k).flatten).data.toList (ch k)) := fun h => hin (HME.out.1 ((indexByte_mem _ _).1 h))
          have HTX : Hid (ringsT nx (k + 1) = ringsT nx k ++ [txt (way nx k)]) := by show _ = _; rw [HT.out, HT.out, hyes]; simp
          have HSX : Hid (txt (ringsF nx (k + 1)).flatten = txt (ringsF nx k).flatten ++ txt (way nx k)) := by
            show _ = _
            rw [hyes, List.flatten_append, txt_append]; simp
          have hrl : (ringsT nx k).length ≤ 9 := by rw [HT.out, List.length_map]; have := hfl.2.1; omega
          clear hyes hin
          generalize txt (way nx k) = t at *
          generalize ch k = c at *
          generalize hsfe : txt (ringsF nx k).flatten = sf at *
          have HSF := Lib.hid hsfe
          clear hsfe
          have hne : t.toList.isEmpty = false := by
            rw [ByteArray.toList_eq]
            cases hl : t.data.toList with
            | nil => have := size_data t; rw [hl] at this; simp at this; omega
            | cons a l => rfl
          have htp : 0 < t.size := by omega
          have ht1 := ht0 htp
          clear ht0
          have hsf : sf.size ≤ 9223372036854775807 := by have := hfl.2.2; omega
          go_wp2_with fail
          refine HRX.out.mono ?_
          rintro e w2 ⟨rfl, hb2⟩
          have ho2 := own_keep ho hb2
          have hbw := hb.trans (hb2.mono hbs)
          have hbws := hbw.size
          have hix := HIX.out
          have hlt0 : indexByte sf.data.toList c < 0 := by omega
          have hnw := one_new w2 (.string t) 9
          have hown0 := own_keep ho2 ((Below.refl _ _).alloc (Nat.le_refl _) (.cells #[.string t] 9))
          go_wp2_with (first | (go_at_call 43; refine (l13Find_c sf c _ hsf).mono ?_; rintro e w' ⟨rfl, rfl⟩) | (at_builtin; refine app_str rfl (.tmp 26) (.tmp 28) rfl w.heap.size u3 (ringsT nx k) t ⟨w2.heap.size, 0, none⟩ 1 (by rfl) (by rfl) hown0 hnw (by omega) (by simp; omega) ?_; intro v' w3 hown3 hgrow3))
          have hb3 := below_grown hgrow3 (B := w.heap.size) (by simp; omega) (own_block_ge ho)
          have hbw3 := (hbw.alloc hbws (.cells #[.string t] 9)).trans hb3
          go_roundw
          case rel =>
            refine ⟨k + 1, by omega, by go_num, ?_, by rw [HSX.out], hbw3⟩
            rw [HTX.out]; exact hown3
          case measure => simp [RowKit.intOf]; omega
      · rw [HOFF.out k hon] at hrg
        have HRX := Lib.hid hrg
        have HNX := Lib.hid (HNO.out k (fun h => hon h.1))
        clear hrg
        go_wp2_with fail
        refine HRX.out.mono ?_
        rintro e w2 ⟨rfl, hb2⟩
        rw [show txt [] = ⟨#[]⟩ from rfl]
        have ho2 := own_keep ho hb2
        have hbw := hb.trans (hb2.mono hbs)
        clear hb2 ho
        go_wp2
        go_roundw
        case rel => exact ⟨k + 1, by omega, by go_num, by rw [HT.out, HNX.out, ← HT.out]; exact ho2, by rw [HNX.out], hbw⟩
        case measure => simp [RowKit.intOf]; omega
    · have hk9 : k = 9 := by omega
      subst hk9
      go_wp2
      go_ret
      exact ⟨_, rfl, ho, hb⟩

end Go.Proofs.YthgcoocgeekdnaaDoor
