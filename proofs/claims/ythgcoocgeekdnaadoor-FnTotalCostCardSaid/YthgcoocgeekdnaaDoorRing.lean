import Derived.Test.YthgcoocgeekdnaaDoorWay
import Derived.Test.YthgcoocgeekdnaaDoorNamesIn
namespace Go.PW
open Go.PM
/-- where the way ends, and whether a ring goes round there -/
theorem ring_last {f : Nat → ByteArray} (hf : SV f) {s : Nat} (hs : s < 19) : ∃ i, (way (nxT f) s)[(way (nxT f) s).length - 1]? = some i ∧ i < 19 ∧ (onRb (nxT f) s = true ↔ 2 ≤ (way (nxT f) s).length ∧ i < 9 ∧ sx f i = s) := by
  have hn := nice hf
  have hr := way_rho hn hs
  have hp := hr.pos
  have h1 := hr.some_ (j := (way (nxT f) s).length - 1) (by omega)
  have h0 := hr.some_ hp
  refine ⟨_, List.getElem?_eq_getElem (by omega), hr.lt _ (List.getElem_mem _), ?_⟩
  generalize (way (nxT f) s)[(way (nxT f) s).length - 1]'(by omega) = i at *
  have h2 : orb (nxT f) s (way (nxT f) s).length = nxT f i := by
    have : orb (nxT f) s ((way (nxT f) s).length - 1 + 1) = (orb (nxT f) s ((way (nxT f) s).length - 1)).bind (nxT f) := rfl
    rw [show (way (nxT f) s).length - 1 + 1 = (way (nxT f) s).length by omega, h1] at this
    exact this
  unfold onRb
  rw [h2, decide_eq_true_eq]
  constructor
  · intro e
    have h9 := hn.low i s e
    have hi : i ≠ s := fun e2 => hn.irr i (by rw [e, e2])
    have hsx : sx f i = s := by
      by_cases e2 : sx f i = i
      · rw [nxT_stay h9 e2] at e; cases e
      · rw [nxT_some h9 e2] at e; exact Option.some.inj e
    refine ⟨?_, h9, hsx⟩
    rcases Nat.lt_or_ge 1 (way (nxT f) s).length with h | h
    · exact h
    · exfalso
      have h3 : (way (nxT f) s).length - 1 = 0 := by omega
      rw [h3] at h1
      have : orb (nxT f) s 0 = some s := rfl
      rw [this] at h1
      exact hi (Option.some.inj h1).symm
  · rintro ⟨hl, h9, hsx⟩
    have hi : sx f i ≠ i := by
      intro e
      have e2 : s = i := by rw [← hsx, e]
      have h3 : orb (nxT f) s 0 = orb (nxT f) s ((way (nxT f) s).length - 1) := by rw [h1, ← e2]; rfl
      have := hr.inj hp (by omega) h3
      omega
    rw [nxT_some h9 hi, hsx]
end Go.PW
namespace Go.Proofs.YthgcoocgeekdnaaDoor
open Go.RowKit Go.PM Go.PW Go.Lib

set_option maxRecDepth 100000 in
set_option maxHeartbeats 1000000 in
theorem l3Ring_c (xs : List Mv) (h1 : MV xs) (v : Value) (s : Nat) (hs : s < 19) (w : World) (hx : RdM w v xs) :
    Calls Tryd.prog 121 #[v, .string (sn s)] w fun e w' => e = .returned (.string (txt (ringL (nxT (tabOf xs)) s))) ∧ Below w.heap.size w w' := by
  have hf := SV_tab h1
  obtain ⟨i, hi, hi19, hon⟩ := ring_last hf hs
  have hwl := (way_rho (nice hf) hs).len
  have hwp := (way_rho (nice hf) hs).pos
  have HR : Hid (ringL (nxT (tabOf xs)) s = if onRb (nxT (tabOf xs)) s then way (nxT (tabOf xs)) s else []) := rfl
  have HON := Lib.hid hon
  have HW := Lib.hid (l3Way_c xs h1 v s hs w hx)
  have hts := txt_size (way (nxT (tabOf xs)) s)
  have hext : (txt (way (nxT (tabOf xs)) s)).extract ((way (nxT (tabOf xs)) s).length - 1) (way (nxT (tabOf xs)) s).length = sn i := by
    have := extract_one (txt (way (nxT (tabOf xs)) s)) ((way (nxT (tabOf xs)) s).length - 1) (by omega)
    rw [show (way (nxT (tabOf xs)) s).length - 1 + 1 = (way (nxT (tabOf xs)) s).length by omega] at this
    rw [this, txt_list, List.getD_eq_getElem?_getD, List.getElem?_map, hi]
    rfl
  have hsrc : i < 9 → srcM xs (sn i) = sn (sx (tabOf xs) i) := fun h => by rw [sn_nm i h, ← srcM_nm h1 h, (sx_lt hf h).2]
  have hsx := fun h => (sx_lt hf (p := i) h).1
  have HS := Lib.hid (fun W (hW : RdM W v xs) => l1Source_c xs v (sn i) W hW)
  have hpl := fun W => l1Place_c (sn i) W
  rw [(ch_all i hi19).2.2.1] at hpl
  clear hi hon
  have hring : onRb (nxT (tabOf xs)) s = true → ringL (nxT (tabOf xs)) s = way (nxT (tabOf xs)) s := fun h => by rw [ringL, if_pos h]
  have hnone : ¬ onRb (nxT (tabOf xs)) s = true → ringL (nxT (tabOf xs)) s = [] := fun h => by rw [ringL, if_neg h]
  generalize way (nxT (tabOf xs)) s = wy at *
  have hsz : (txt wy).size = wy.length := hts
  by_cases hL : 2 ≤ wy.length
  · by_cases h9 : i < 9
    · rw [show decide (i < 9) = true by simpa using h9] at hpl
      have HPL := Lib.hid hpl
      have hsj := hsx h9
      have HS2 : Hid (∀ W, RdM W v xs → Calls Tryd.prog 90 #[v, .string (sn i)] W fun e w' => e = .returned (.string (sn (sx (tabOf xs) i))) ∧ Below W.heap.size W w') := by
        rw [← hsrc h9]; exact HS.out
      clear hpl hsrc HS
      by_cases hj : sx (tabOf xs) i = s
      · have HF : Hid (ringL (nxT (tabOf xs)) s = wy) := hring (HON.out.2 ⟨hL, h9, hj⟩)
        clear hring hnone HON HR
        generalize sx (tabOf xs) i = j at *
        subst hj
        have hb0 : ((sn j).toList == (sn j).toList) = true := by simp
        go_enter Tryd.func121, Tryd.ntmps121
        go_wp2_with fail
        refine HW.out.mono ?_
        rintro e w1 ⟨rfl, hb1⟩
        have hs1 := hb1.size
        have hx1 := hx.below hb1
        have HT : Hid (txt (ringL (nxT (tabOf xs)) j) = txt wy) := by show _ = _; rw [HF.out]
        generalize txt wy = t at *
        go_wp2_with (first | (go_at_call 58; refine (HPL.out _).mono ?_; rintro e w' ⟨rfl, rfl⟩) | (go_at_call 90; refine (HS2.out _ hx1).mono ?_; rintro e w2 ⟨rfl, hb2⟩))
        go_ret
        exact ⟨by rw [HT.out]; rfl, hb1.trans (hb2.mono hs1)⟩
      · have HF : Hid (ringL (nxT (tabOf xs)) s = []) := hnone (fun h => hj (HON.out.1 h).2.2)
        clear hring hnone HON HR
        generalize sx (tabOf xs) i = j at *
        have hb0 : ((sn j).toList == (sn s).toList) = false := by
          rw [beq_str, decide_eq_false_iff_not]; exact fun e => hj (sn_inj hsj hs e)
        go_enter Tryd.func121, Tryd.ntmps121
        go_wp2_with fail
        refine HW.out.mono ?_
        rintro e w1 ⟨rfl, hb1⟩
        have hs1 := hb1.size
        have hx1 := hx.below hb1
        generalize txt wy = t at *
        go_wp2_with (first | (go_at_call 58; refine (HPL.out _).mono ?_; rintro e w' ⟨rfl, rfl⟩) | (go_at_call 90; refine (HS2.out _ hx1).mono ?_; rintro e w2 ⟨rfl, hb2⟩))
        go_ret
        exact ⟨by rw [HF.out]; rfl, hb1.trans (hb2.mono hs1)⟩
    · rw [show decide (i < 9) = false by simpa using h9] at hpl
      have HPL := Lib.hid hpl
      have HF : Hid (ringL (nxT (tabOf xs)) s = []) := hnone (fun h => h9 (HON.out.1 h).2.1)
      clear hring hnone HON HR hpl hsrc HS
      go_enter Tryd.func121, Tryd.ntmps121
      go_wp2_with fail
      refine HW.out.mono ?_
      rintro e w1 ⟨rfl, hb1⟩
      generalize txt wy = t at *
      go_wp2_with (go_at_call 58; refine (HPL.out _).mono ?_; rintro e w' ⟨rfl, rfl⟩)
      go_ret
      exact ⟨by rw [HF.out]; rfl, hb1⟩
  · have HF : Hid (ringL (nxT (tabOf xs)) s = []) := hnone (fun h => hL (HON.out.1 h).1)
    clear hring hnone HON HR hpl hsrc HS
    go_enter Tryd.func121, Tryd.ntmps121
    go_wp2_with fail
    refine HW.out.mono ?_
    rintro e w1 ⟨rfl, hb1⟩
    generalize txt wy = t at *
    go_wp2
    go_ret
    exact ⟨by rw [HF.out]; rfl, hb1⟩
end Go.Proofs.YthgcoocgeekdnaaDoor
