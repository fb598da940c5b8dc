/- Proved: for every input of the form's own reach the law FnWithoutSpare answers true and its arguments read afterwards as before; no further condition. -/
import Derived.Test.YtbgchjjaaelkbaaLawFWithoutSpareJA
import Derived.Test.YtbgchjjaaelkbaaSource
import Derived.Test.YtbgchjjaaelkbaaNamesIn
import Derived.Test.YtbgchjjaaelkbaaTail
import Derived.Test.YtbgchjjaaelkbaaNames
import Derived.Test.YtbgchjjaaelkbaaApp
import Derived.Test.YtbgchjjaaelkbaaRange
import Derived.Test.YtbgchjjaaelkbaaRow
import Derived.Test.YtbgchjjaaelkbaaReaders
import Derived.Test.YtbgchjjaaelkbaaDraw3
import Derived.Test.YtbgchjjaaelkbaaHar
import Derived.Test.YtbgchjjaaelkbaaCut
import Derived.Test.YtbgchjjaaelkbaaHold
import Derived.Deep.AppendLies
import Derived.Scope
import Derived.WalkMore
import Derived.Test.YtbgchjjaaelkbaaTab
import Derived.ChangeKeysEq
import Derived.Test.YtbgchjjaaelkbaaDraw2
import Derived.Test.YtbgchjjaaelkbaaIm2
import Derived.Test.YtbgchjjaaelkbaaSp1
import Derived.Lib.Join
import Derived.Test.YtbgchjjaaelkbaaParse
import Derived.Test.YtbgchjjaaelkbaaBio
namespace Go.Proofs.Ytbgchjjaaelkbaa
open Go.RowKit Go.PM Go.PW Go.Lib

set_option maxRecDepth 100000 in
set_option maxHeartbeats 1000000 in
theorem l3Way_c (xs : List Mv) (h1 : MV xs) (v : Value) (s : Nat) (hs : s < 19) (w : World) (hx : RdM w v xs) :
    Calls Try.prog 147 #[v, .string (sn s)] w fun e w' => e = .returned (.string (txt (way (nxT (tabOf xs)) s))) ∧ Below w.heap.size w w' := by
  have hf := SV_tab h1
  have HSrc := Lib.hid (fun i (hi : i < 9) => show srcM xs (sn i) = sn (sx (tabOf xs) i) by rw [sn_nm i hi, ← srcM_nm h1 hi, (sx_lt hf hi).2])
  have HLT := Lib.hid (fun i (hi : i < 9) => (sx_lt hf hi).1)
  have HST := Lib.hid (fun acc i n (h : WayI (nxT (tabOf xs)) s acc i n) (hi : ¬ i < 9) => h.stop (nxT_digit hi))
  have HHI := Lib.hid (fun acc i n (h : WayI (nxT (tabOf xs)) s acc i n) hi hm => way_src hf h hi hm)
  have HGO := Lib.hid (fun acc i n (h : WayI (nxT (tabOf xs)) s acc i n) hi hm => way_go hf hs h hi hm)
  have HS := Lib.hid (fun W (hW : RdM W v xs) (a : ByteArray) => l1Source_c xs v a W hW)
  have HX := Lib.hid (fun W (hW : Below w.heap.size w W) => hx.below hW)
  have hst := Lib.hid (WayI.start (nxT (tabOf xs)) hs)
  clear hf
  go_enter Try.func147, Try.ntmps147
  go_wp2
  go_loopw [1, 5] (fun p o wr => ∃ (acc : List Nat) (i n : Nat), p = .string (sn i) ∧ o = .string (txt acc) ∧ Hid (WayI (nxT (tabOf xs)) s acc i n) ∧ Below w.heap.size w wr) (fun _ o _ => 20 - strLen o)
  case atStart => exact ⟨[s], s, 19, rfl, rfl, hst, Below.refl _ _⟩
  case round =>
    obtain ⟨acc, i, n, rfl, rfl, hw, hb⟩ := hrel
    have hbs := hb.size
    have hil := hw.out.ilt
    have hal := hw.out.toAcc.len
    have hlt := hw.out.lt
    have hz := txt_size acc
    have hp := (ch_all i hil).2.2.1
    by_cases h9 : i < 9
    · have hp1 : isP (sn i) = true := by rw [hp]; simpa using h9
      have hsl := HLT.out i h9
      have hsr := HSrc.out i h9
      have hcall := HS.out wr (HX.out wr hb) (sn i)
      rw [hsr] at hcall
      have HC := Lib.hid hcall
      have HM := Lib.hid (txt_mem hlt hsl)
      have HIt := HHI.out acc i n hw.out h9
      have HGt := HGO.out acc i n hw.out h9
      have HI2 := Lib.hid HIt
      have HG2 := Lib.hid HGt
      have hts := txt_snoc acc (sx (tabOf xs) i)
      have HTS := Lib.hid hts
      clear hcall HIt HGt hts hsr
      generalize sx (tabOf xs) i = j at *
      have hszt : (txt acc).size ≤ 9223372036854775807 := by omega
      have hone : Hid (sn j = ⟨#[ch j]⟩) := rfl
      have HC2 : Hid (Calls Try.prog 78 #[v, .string (sn i)] wr fun e w' => e = .returned (.string ⟨#[ch j]⟩) ∧ Below wr.heap.size wr w') := HC.out
      clear HC
      have hpc := fun W => l1Place_c (sn i) W
      rw [hp1] at hpc
      have HP := Lib.hid hpc
      clear hpc hp hp1
      have hc1 : (⟨#[ch j]⟩ : ByteArray).size = 1 := rfl
      generalize ch j = c at *
      have HW := Lib.hid hw
      clear hw
      by_cases hin : (0 : Int) ≤ indexByte (txt acc).data.toList c
      · have HF : Hid (way (nxT (tabOf xs)) s = acc) := HI2.out (HM.out.1 ((indexByte_mem _ _).1 hin))
        go_wp2_with (first | (go_at_call 76; refine (HP.out _).mono ?_; rintro e w' ⟨rfl, rfl⟩) | (go_at_call 78; refine HC2.out.mono ?_; rintro e w2 ⟨rfl, hb2⟩) | (go_at_call 119; refine (l13Find_c (txt acc) c _ hszt).mono ?_; rintro e w' ⟨rfl, rfl⟩))
        go_ret
        exact ⟨by rw [HF.out]; rfl, hb.trans (hb2.mono hbs)⟩
      · obtain ⟨n', hn', hw'⟩ := HG2.out (fun hm => hin ((indexByte_mem _ _).2 (HM.out.2 hm)))
        have HN := Lib.hid hw'
        clear hw' hn'
        go_wp2_with (first | (go_at_call 76; refine (HP.out _).mono ?_; rintro e w' ⟨rfl, rfl⟩) | (go_at_call 78; refine HC2.out.mono ?_; rintro e w2 ⟨rfl, hb2⟩) | (go_at_call 119; refine (l13Find_c (txt acc) c _ hszt).mono ?_; rintro e w' ⟨rfl, rfl⟩))
        go_roundw
        case rel => exact ⟨acc ++ [j], j, n', by rw [hone.out], by rw [HTS.out, hone.out], HN, hb.trans (hb2.mono hbs)⟩
        case measure => simp [strLen, ByteArray.size_append, hc1, hz]; omega
    · have hp1 : isP (sn i) = false := by rw [hp]; simpa using h9
      have hpc := fun W => l1Place_c (sn i) W
      rw [hp1] at hpc
      have HP := Lib.hid hpc
      have HF := Lib.hid (HST.out acc i n hw.out h9)
      clear hpc hp hp1 hw
      go_wp2_with (go_at_call 76; refine (HP.out _).mono ?_; rintro e w' ⟨rfl, rfl⟩)
      go_ret
      exact ⟨by rw [HF.out]; rfl, hb⟩
end Go.Proofs.Ytbgchjjaaelkbaa
namespace Go.PW
open Go.PM
/-- where the way ends, and whether a ring goes round there -/
theorem ring_last {f : Nat → ByteArray} (hf : SV f) {s : Nat} (hs : s < 19) : ∃ i, (way (nxT f) s)[(way (nxT f) s).length - 1]? = some i ∧ i < 19 ∧ (onRb (nxT f) s = true ↔ 2 ≤ (way (nxT f) s).length ∧ i < 9 ∧ sx f i = s) := by
  have hn := nice hf
  have hr := way_rho hn hs
  have hp := hr.pos
  have h1 := hr.some_ (j := (way (nxT f) s).length - 1) (by omega)
  have h0 := hr.some_ hp
  refine ⟨_, List.getElem?_eq_getElem (by omega), hr.lt _ (List.getElem_mem _), ?_⟩
  generalize (way (nxT f) s)[(way (nxT f) s).length - 1]'(by omega) = i at *
  have h2 : orb (nxT f) s (way (nxT f) s).length = nxT f i := by
    have : orb (nxT f) s ((way (nxT f) s).length - 1 + 1) = (orb (nxT f) s ((way (nxT f) s).length - 1)).bind (nxT f) := rfl
    rw [show (way (nxT f) s).length - 1 + 1 = (way (nxT f) s).length by omega, h1] at this
    exact this
  unfold onRb
  rw [h2, decide_eq_true_eq]
  constructor
  · intro e
    have h9 := hn.low i s e
    have hi : i ≠ s := fun e2 => hn.irr i (by rw [e, e2])
    have hsx : sx f i = s := by
      by_cases e2 : sx f i = i
      · rw [nxT_stay h9 e2] at e; cases e
      · rw [nxT_some h9 e2] at e; exact Option.some.inj e
    refine ⟨?_, h9, hsx⟩
    rcases Nat.lt_or_ge 1 (way (nxT f) s).length with h | h
    · exact h
    · exfalso
      have h3 : (way (nxT f) s).length - 1 = 0 := by omega
      rw [h3] at h1
      have : orb (nxT f) s 0 = some s := rfl
      rw [this] at h1
      exact hi (Option.some.inj h1).symm
  · rintro ⟨hl, h9, hsx⟩
    have hi : sx f i ≠ i := by
      intro e
      have e2 : s = i := by rw [← hsx, e]
      have h3 : orb (nxT f) s 0 = orb (nxT f) s ((way (nxT f) s).length - 1) := by rw [h1, ← e2]; rfl
      have := hr.inj hp (by omega) h3
      omega
    rw [nxT_some h9 hi, hsx]
end Go.PW
namespace Go.Proofs.Ytbgchjjaaelkbaa
open Go.RowKit Go.PM Go.PW Go.Lib

set_option maxRecDepth 100000 in
set_option maxHeartbeats 1000000 in
theorem l3Ring_c (xs : List Mv) (h1 : MV xs) (v : Value) (s : Nat) (hs : s < 19) (w : World) (hx : RdM w v xs) :
    Calls Try.prog 128 #[v, .string (sn s)] w fun e w' => e = .returned (.string (txt (ringL (nxT (tabOf xs)) s))) ∧ Below w.heap.size w w' := by
  have hf := SV_tab h1
  obtain ⟨i, hi, hi19, hon⟩ := ring_last hf hs
  have hwl := (way_rho (nice hf) hs).len
  have hwp := (way_rho (nice hf) hs).pos
  have HR : Hid (ringL (nxT (tabOf xs)) s = if onRb (nxT (tabOf xs)) s then way (nxT (tabOf xs)) s else []) := rfl
  have HON := Lib.hid hon
  have HW := Lib.hid (l3Way_c xs h1 v s hs w hx)
  have hts := txt_size (way (nxT (tabOf xs)) s)
  have hext : (txt (way (nxT (tabOf xs)) s)).extract ((way (nxT (tabOf xs)) s).length - 1) (way (nxT (tabOf xs)) s).length = sn i := by
    have := extract_one (txt (way (nxT (tabOf xs)) s)) ((way (nxT (tabOf xs)) s).length - 1) (by omega)
    rw [show (way (nxT (tabOf xs)) s).length - 1 + 1 = (way (nxT (tabOf xs)) s).length by omega] at this
    rw [this, txt_list, List.getD_eq_getElem?_getD, List.getElem?_map, hi]
    rfl
  have hsrc : i < 9 → srcM xs (sn i) = sn (sx (tabOf xs) i) := fun h => by rw [sn_nm i h, ← srcM_nm h1 h, (sx_lt hf h).2]
  have hsx := fun h => (sx_lt hf (p := i) h).1
  have HS := Lib.hid (fun W (hW : RdM W v xs) => l1Source_c xs v (sn i) W hW)
  have hpl := fun W => l1Place_c (sn i) W
  rw [(ch_all i hi19).2.2.1] at hpl
  clear hi hon
  have hring : onRb (nxT (tabOf xs)) s = true → ringL (nxT (tabOf xs)) s = way (nxT (tabOf xs)) s := fun h => by rw [ringL, if_pos h]
  have hnone : ¬ onRb (nxT (tabOf xs)) s = true → ringL (nxT (tabOf xs)) s = [] := fun h => by rw [ringL, if_neg h]
  generalize way (nxT (tabOf xs)) s = wy at *
  have hsz : (txt wy).size = wy.length := hts
  by_cases hL : 2 ≤ wy.length
  · by_cases h9 : i < 9
    · rw [show decide (i < 9) = true by simpa using h9] at hpl
      have HPL := Lib.hid hpl
      have hsj := hsx h9
      have HS2 : Hid (∀ W, RdM W v xs → Calls Try.prog 78 #[v, .string (sn i)] W fun e w' => e = .returned (.string (sn (sx (tabOf xs) i))) ∧ Below W.heap.size W w') := by
        rw [← hsrc h9]; exact HS.out
      clear hpl hsrc HS
      by_cases hj : sx (tabOf xs) i = s
      · have HF : Hid (ringL (nxT (tabOf xs)) s = wy) := hring (HON.out.2 ⟨hL, h9, hj⟩)
        clear hring hnone HON HR
        generalize sx (tabOf xs) i = j at *
        subst hj
        have hb0 : ((sn j).toList == (sn j).toList) = true := by simp
        go_enter Try.func128, Try.ntmps128
        go_wp2_with fail
        refine HW.out.mono ?_
        rintro e w1 ⟨rfl, hb1⟩
        have hs1 := hb1.size
        have hx1 := hx.below hb1
        have HT : Hid (txt (ringL (nxT (tabOf xs)) j) = txt wy) := by show _ = _; rw [HF.out]
        generalize txt wy = t at *
        go_wp2_with (first | (go_at_call 76; refine (HPL.out _).mono ?_; rintro e w' ⟨rfl, rfl⟩) | (go_at_call 78; refine (HS2.out _ hx1).mono ?_; rintro e w2 ⟨rfl, hb2⟩))
        go_ret
        exact ⟨by rw [HT.out]; rfl, hb1.trans (hb2.mono hs1)⟩
      · have HF : Hid (ringL (nxT (tabOf xs)) s = []) := hnone (fun h => hj (HON.out.1 h).2.2)
        clear hring hnone HON HR
        generalize sx (tabOf xs) i = j at *
        have hb0 : ((sn j).toList == (sn s).toList) = false := by
          rw [beq_str, decide_eq_false_iff_not]; exact fun e => hj (sn_inj hsj hs e)
        go_enter Try.func128, Try.ntmps128
        go_wp2_with fail
        refine HW.out.mono ?_
        rintro e w1 ⟨rfl, hb1⟩
        have hs1 := hb1.size
        have hx1 := hx.below hb1
        generalize txt wy = t at *
        go_wp2_with (first | (go_at_call 76; refine (HPL.out _).mono ?_; rintro e w' ⟨rfl, rfl⟩) | (go_at_call 78; refine (HS2.out _ hx1).mono ?_; rintro e w2 ⟨rfl, hb2⟩))
        go_ret
        exact ⟨by rw [HF.out]; rfl, hb1.trans (hb2.mono hs1)⟩
    · rw [show decide (i < 9) = false by simpa using h9] at hpl
      have HPL := Lib.hid hpl
      have HF : Hid (ringL (nxT (tabOf xs)) s = []) := hnone (fun h => h9 (HON.out.1 h).2.1)
      clear hring hnone HON HR hpl hsrc HS
      go_enter Try.func128, Try.ntmps128
      go_wp2_with fail
      refine HW.out.mono ?_
      rintro e w1 ⟨rfl, hb1⟩
      generalize txt wy = t at *
      go_wp2_with (go_at_call 76; refine (HPL.out _).mono ?_; rintro e w' ⟨rfl, rfl⟩)
      go_ret
      exact ⟨by rw [HF.out]; rfl, hb1⟩
  · have HF : Hid (ringL (nxT (tabOf xs)) s = []) := hnone (fun h => hL (HON.out.1 h).1)
    clear hring hnone HON HR hpl hsrc HS
    go_enter Try.func128, Try.ntmps128
    go_wp2_with fail
    refine HW.out.mono ?_
    rintro e w1 ⟨rfl, hb1⟩
    generalize txt wy = t at *
    go_wp2
    go_ret
    exact ⟨by rw [HF.out]; rfl, hb1⟩
end Go.Proofs.Ytbgchjjaaelkbaa
namespace Go.PW
open Go.PM
def wayB (xs : List Mv) (a : ByteArray) : ByteArray := txt (way (nxT (tabOf xs)) (pidx a))
noncomputable def depN (nx : Nat → Option Nat) (s : Nat) : Nat := least (Stops nx s)
theorem depN_stops {nx : Nat → Option Nat} (hn : Nice nx) {s : Nat} (hs : s < 19) : Stops nx s (depN nx s) := by
  obtain ⟨D, hD, _⟩ := (way_rho hn hs).stops
  exact (least_spec ⟨D, hD⟩).1
noncomputable def depthI (xs : List Mv) (a : ByteArray) : Int := if mvalid xs && isP a then (depN (nxT (tabOf xs)) (pidx a) : Int) else -1
theorem isP_sn {a : ByteArray} (h : isP a = true) : a = sn (pidx a) := by
  have := pidx_spec h
  rw [sn_nm _ this.1, this.2]
end Go.PW
namespace Go.Proofs.Ytbgchjjaaelkbaa
open Go.RowKit Go.PM Go.PW Go.Lib

set_option maxRecDepth 100000 in
set_option maxHeartbeats 800000 in
theorem imDepthOf_c (xs : List Mv) (v : Value) (a : ByteArray) (w : World) (hx : RdM w v xs) :
    Calls Try.prog 36 #[v, .string a] w fun e w' => e = .returned (.int .i64 (depthI xs a)) ∧ Below w.heap.size w w' := by
  have HO : Hid (depthI xs a = if mvalid xs && isP a then (depN (nxT (tabOf xs)) (pidx a) : Int) else -1) := rfl
  rcases Bool.eq_false_or_eq_true (mvalid xs && isP a) with h | h
  · have h1 : MV xs := by have := (Bool.and_eq_true _ _ ▸ h).1; simpa [mvalid] using this
    have h2 : isP a = true := (Bool.and_eq_true _ _ ▸ h).2
    have hp := (pidx_spec h2).1
    have HT := Lib.hid (tableAndPlace_yes xs v a w hx h1 h2)
    have HSP := Lib.hid (fun W => spotsOf_c (tabOf xs) (SV_tab h1) W)
    have hst := depN_stops (nice (SV_tab h1)) (show pidx a < 19 by omega)
    have HWB := Lib.hid (fun b W (hS : Spots W b (nxT (tabOf xs))) => depth_c b (nxT (tabOf xs)) (nice (SV_tab h1)) (pidx a) (by omega) _ hst W hS)
    rw [h] at HO
    have i0 : (0 : Int) ≤ (pidx a : Int) := by omega
    have i1 : (pidx a : Int) < 19 := by omega
    clear h h1 hst
    go_enter Try.func36, Try.ntmps36
    go_wp2_with fail
    refine HT.out.mono ?_
    rintro e w1 ⟨rfl, hb1⟩
    have hs1 := hb1.size
    go_wp2_with fail
    refine (HSP.out _).mono ?_
    rintro e w2 ⟨⟨b, rfl, hbge, hS⟩, hb2⟩
    have hb12 := (hb1.alloc hs1 (.cells (tabA (tabOf xs)) 73)).trans (hb2.mono (by simp; omega))
    have hs2 := hb12.size
    clear hb2
    go_wp2_with fail
    refine (HWB.out b _ hS).mono ?_
    rintro e w3 ⟨rfl, hb3⟩
    go_wp2
    go_ret
    exact ⟨by rw [HO.out]; rfl, hb12.trans (hb3.mono hs2)⟩
  · have HT := Lib.hid (tableAndPlace_no xs v a w hx h)
    rw [h] at HO
    clear h
    go_enter Try.func36, Try.ntmps36
    go_wp2_with fail
    refine HT.out.mono ?_
    rintro e w1 ⟨⟨g, n, rfl⟩, hb1⟩
    have hs1 := hb1.size
    go_wp2
    go_ret
    exact ⟨by rw [HO.out]; rfl, by (repeat' (first | (with_reducible exact Below.refl _ _) | (with_reducible assumption) | (with_reducible refine Below.alloc ?_ ?_ _) | (with_reducible refine Below.drew ?_) | (with_reducible refine Below.setCell ?_ ?_ _) | (with_reducible exact Nat.le_refl _) | omega | ((repeat (first | rewrite [World.size_alloc] | rewrite [World.size_setCell] | rewrite [World.size_drew])); omega) | (simp; omega) | (simp; done)))⟩
end Go.Proofs.Ytbgchjjaaelkbaa
namespace Go.Proofs.Ytbgchjjaaelkbaa
open Go.RowKit Go.PM Go.PW Go.Lib

end Go.Proofs.Ytbgchjjaaelkbaa
namespace Go.PW
open Go.PM

/-- two sets become one -/
def joinH (h : Nat → Nat) (a b : Nat) : Nat → Nat := fun q => if h q = h a then h b else h q
/-- which place stands for a place's wheel, when the first k places are joined with their sources -/
def hdF (f : Nat → ByteArray) : Nat → Nat → Nat
  | 0 => id
  | k + 1 => if sx f k < 9 then joinH (hdF f k) k (sx f k) else hdF f k
variable {f : Nat → ByteArray}
theorem hdF_yes {k : Nat} (h : sx f k < 9) : hdF f (k + 1) = joinH (hdF f k) k (sx f k) := by rw [hdF, if_pos h]
theorem hdF_no {k : Nat} (h : ¬ sx f k < 9) : hdF f (k + 1) = hdF f k := by rw [hdF, if_neg h]
theorem hd_sound (S : Nat → Prop) : ∀ k, (∀ p, p < k → sx f p < 9 → (S p ↔ S (sx f p))) → ∀ q r, hdF f k q = hdF f k r → (S q ↔ S r) := by
  intro k
  induction k with
  | zero => intro _ q r e; have : q = r := e; rw [this]
  | succ k ih =>
    intro hS q r e
    have ih := ih (fun p hp => hS p (by omega))
    by_cases h9 : sx f k < 9
    · rw [hdF_yes h9] at e
      have hk := hS k (by omega) h9
      unfold joinH at e
      by_cases h1 : hdF f k q = hdF f k k
      · by_cases h2 : hdF f k r = hdF f k k
        · rw [ih q k h1, ih r k h2]
        · rw [if_pos h1, if_neg h2] at e
          rw [ih q k h1, hk, ih _ r e]
      · by_cases h2 : hdF f k r = hdF f k k
        · rw [if_neg h1, if_pos h2] at e
          rw [ih q _ e, ← hk, ih r k h2]
        · rw [if_neg h1, if_neg h2] at e
          exact ih q r e
    · rw [hdF_no h9] at e
      exact ih q r e
theorem hd_keep {k q r : Nat} (e : hdF f k q = hdF f k r) : hdF f (k + 1) q = hdF f (k + 1) r := by
  by_cases h9 : sx f k < 9
  · rw [hdF_yes h9]; unfold joinH; rw [e]
  · rw [hdF_no h9]; exact e
theorem hd_edge : ∀ k p, p < k → sx f p < 9 → hdF f k p = hdF f k (sx f p) := by
  intro k
  induction k with
  | zero => intro p h; omega
  | succ k ih =>
    intro p hp h9
    rcases Nat.lt_or_ge p k with h1 | h1
    · exact hd_keep (ih p h1 h9)
    · have : p = k := by omega
      subst this
      rw [hdF_yes h9]
      unfold joinH
      rw [if_pos rfl]
      by_cases h2 : hdF f p (sx f p) = hdF f p p
      · rw [if_pos h2]
      · rw [if_neg h2]
theorem hd_lt (k : Nat) (hk : k ≤ 9) : ∀ q, q < 9 → hdF f k q < 9 := by
  induction k with
  | zero => intro q h; exact h
  | succ k ih =>
    intro q hq
    by_cases h9 : sx f k < 9
    · rw [hdF_yes h9]; unfold joinH
      by_cases h1 : hdF f k q = hdF f k k
      · rw [if_pos h1]; exact ih (by omega) _ h9
      · rw [if_neg h1]; exact ih (by omega) _ hq
    · rw [hdF_no h9]; exact ih (by omega) q hq

/-- an array that leads each place to the one that stands for its set -/
structure Forest (w h dp : Nat → Nat) : Prop where
  lt : ∀ q, q < 9 → w q < 9
  hlt : ∀ q, q < 9 → h q < 9
  root : ∀ q, q < 9 → w q = q → h q = q
  up : ∀ q, q < 9 → w q ≠ q → dp (w q) < dp q ∧ h (w q) = h q
  top : ∀ q, q < 9 → w (h q) = h q
theorem Forest.id : Forest (fun q => q) (fun q => q) (fun _ => 0) := ⟨fun _ h => h, fun _ h => h, fun _ _ _ => rfl, fun _ _ h => absurd rfl h, fun _ _ => rfl⟩
theorem Forest.join {w h dp : Nat → Nat} (F : Forest w h dp) {a b : Nat} (ha : a < 9) (hb : b < 9) :
    ∃ dp', Forest (fun q => if q = h a then h b else w q) (joinH h a b) dp' := by
  have hab := F.hlt a ha
  have hbb := F.hlt b hb
  have ta := F.root _ hab (F.top a ha)
  have tb := F.root _ hbb (F.top b hb)
  by_cases he : h a = h b
  · refine ⟨dp, ⟨fun q hq => ?_, fun q hq => ?_, fun q hq e => ?_, fun q hq e => ?_, fun q hq => ?_⟩⟩
    all_goals
      have e1 : ∀ q, (if q = h a then h b else w q) = w q := by
        intro q
        by_cases h1 : q = h a
        · rw [if_pos h1, h1, ← he, F.top a ha]
        · rw [if_neg h1]
      have e2 : ∀ q, joinH h a b q = h q := by
        intro q; unfold joinH
        by_cases h1 : h q = h a
        · rw [if_pos h1, h1, he]
        · rw [if_neg h1]
      simp only [e1, e2] at *
    · exact F.lt q hq
    · exact F.hlt q hq
    · exact F.root q hq e
    · exact F.up q hq e
    · exact F.top q hq
  · refine ⟨fun q => if h q = h a then dp q + dp (h b) + 1 else dp q, ⟨fun q hq => ?_, fun q hq => ?_, fun q hq e => ?_, fun q hq e => ?_, fun q hq => ?_⟩⟩
    · show (if q = h a then h b else w q) < 9
      by_cases h1 : q = h a
      · rw [if_pos h1]; exact hbb
      · rw [if_neg h1]; exact F.lt q hq
    · unfold joinH
      by_cases h1 : h q = h a
      · rw [if_pos h1]; exact hbb
      · rw [if_neg h1]; exact F.hlt q hq
    · have e : (if q = h a then h b else w q) = q := e
      by_cases h1 : q = h a
      · rw [if_pos h1, h1] at e; exact absurd e.symm he
      · rw [if_neg h1] at e
        have := F.root q hq e
        unfold joinH
        rw [if_neg (by rw [this]; exact h1)]; exact this
    · have e : (if q = h a then h b else w q) ≠ q := e
      show (if h (if q = h a then h b else w q) = h a then dp (if q = h a then h b else w q) + dp (h b) + 1 else dp (if q = h a then h b else w q)) < (if h q = h a then dp q + dp (h b) + 1 else dp q) ∧ joinH h a b (if q = h a then h b else w q) = joinH h a b q
      by_cases h1 : q = h a
      · subst h1
        rw [if_pos rfl, if_neg (by rw [tb]; exact fun h => he h.symm), if_pos ta]
        refine ⟨by omega, ?_⟩
        unfold joinH
        rw [if_neg (by rw [tb]; exact fun h => he h.symm), if_pos ta, tb]
      · rw [if_neg h1] at e ⊢
        have u := F.up q hq e
        rw [u.2]
        refine ⟨?_, by unfold joinH; rw [u.2]⟩
        by_cases h2 : h q = h a
        · rw [if_pos h2, if_pos h2]; omega
        · rw [if_neg h2, if_neg h2]; exact u.1
    · show (if joinH h a b q = h a then h b else w (joinH h a b q)) = joinH h a b q
      unfold joinH
      by_cases h1 : h q = h a
      · rw [if_pos h1, if_neg (fun h => he h.symm)]; exact F.top b hb
      · rw [if_neg h1, if_neg h1]; exact F.top q hq

/-- a list of places that hang together with one and from which nothing leads out -/
structure Comp (f : Nat → ByteArray) (p : Nat) (l : List Nat) (done : Nat) : Prop where
  nodup : l.Nodup
  lt : ∀ q ∈ l, q < 9
  has : p ∈ l
  in_ : ∀ q ∈ l, hdF f 9 q = hdF f 9 p
  out : ∀ k q, k < done → l[k]? = some q → (sx f q < 9 → sx f q ∈ l) ∧ ∀ r, r < 9 → sx f r = q → r ∈ l
theorem Comp.all {p : Nat} {l : List Nat} (h : Comp f p l l.length) : ∀ q, q < 9 → (q ∈ l ↔ hdF f 9 q = hdF f 9 p) := by
  intro q hq
  refine ⟨h.in_ q, fun e => ?_⟩
  refine (hd_sound (f := f) (fun x => x ∈ l) 9 (fun r hr h9 => ?_) q p e).2 h.has
  have hin : ∀ x, x ∈ l → (sx f x < 9 → sx f x ∈ l) ∧ ∀ r, r < 9 → sx f r = x → r ∈ l := by
    intro x hx
    obtain ⟨k, hk⟩ := List.getElem?_of_mem hx
    exact h.out k x (List.getElem?_eq_some_iff.1 hk).1 hk
  exact ⟨fun hm => (hin r hm).1 h9, fun hm => (hin _ hm).2 r hr rfl⟩
end Go.PW
namespace Go.PW
open Go.RowKit Go.PM
/-- the cells of the wheels -/
abbrev whA (g : Nat → Nat) : Array Value := #[.int .i64 (g 0 : Nat), .int .i64 (g 1 : Nat), .int .i64 (g 2 : Nat), .int .i64 (g 3 : Nat), .int .i64 (g 4 : Nat), .int .i64 (g 5 : Nat), .int .i64 (g 6 : Nat), .int .i64 (g 7 : Nat), .int .i64 (g 8 : Nat)]
theorem whA_at (g : Nat → Nat) (q : Nat) (hq : q < 9) : (whA g)[q]? = some (.int .i64 (g q : Nat)) := by
  match q, hq with
  | 0, _ | 1, _ | 2, _ | 3, _ | 4, _ | 5, _ | 6, _ | 7, _ | 8, _ => rfl
theorem whA_set (g : Nat → Nat) (q : Nat) (hq : q < 9) (x : Nat) : (whA g).setIfInBounds q (.int .i64 (x : Nat)) = whA (fun r => if r = q then x else g r) := by
  match q, hq with
  | 0, _ | 1, _ | 2, _ | 3, _ | 4, _ | 5, _ | 6, _ | 7, _ | 8, _ => simp [whA]
theorem grown_set (w : World) (p : Addr) (v : Value) : w.grownBy (w.setCell p v) (some p.block) :=
  ⟨rfl, rfl, rfl, by simp [World.size_setCell], fun i _ hne => heap_setCell_other w p i v (fun e => hne (by rw [e]))⟩
end Go.PW
namespace Go.Proofs.Ytbgchjjaaelkbaa
open Go.RowKit Go.PM Go.PW

end Go.Proofs.Ytbgchjjaaelkbaa
namespace Go.PM
open Go.RowKit
theorem own_box_ne' {w : World} {base : Nat} {e t : TypeId} {size n b : Nat} {v : Value} {cs : List Value} {c : Array Value} (h : w.ownsRow base e size v n cs) (hA : At w b t c) (hne : e ≠ t) : some b ≠ v.ownBlock := by
  rcases h.2 with ⟨rfl, _⟩ | ⟨g, cap, cur, rfl, _, hg, _⟩
  · simp [Value.ownBlock]
  · intro e'
    simp only [Value.ownBlock, Option.some.injEq] at e'
    subst e'
    unfold At at hA
    rw [hA] at hg
    cases hg
    exact hne rfl
theorem own_turn' {w w' : World} {base : Nat} {e : TypeId} {size n : Nat} {v : Value} {cs : List Value} {row : Option Nat} (h : w.ownsRow base e size v n cs) (hg : w.grownBy w' row) (hr : ∀ r, row = some r → ∃ o : Obj, w.heap[r]? = some o ∧ o.isCells = false) : w'.ownsRow base e size v n cs := by
  refine h.kept hg ?_
  rcases h.2 with ⟨rfl, _⟩ | ⟨g, cap, cur, rfl, _, hh, _⟩
  · exact .inl rfl
  · refine .inr fun e' => ?_
    obtain ⟨o, ho, hc⟩ := hr g e'.symm
    rw [hh] at ho
    cases ho
    cases hc
theorem at_turn' {w w' : World} {b : Nat} {t : TypeId} {c : Array Value} {row : Option Nat} (h : At w b t c) (hg : w.grownBy w' row) (hr : ∀ r, row = some r → ∃ o : Obj, w.heap[r]? = some o ∧ o.isCells = false) : At w' b t c := by
  refine (hg.block b h.lt fun e' => ?_).trans h
  obtain ⟨o, ho, hc⟩ := hr b e'.symm
  unfold At at h
  rw [h] at ho
  cases ho
  cases hc
theorem at_grown' {w w' : World} {b : Nat} {t : TypeId} {cs : Array Value} {row : Option Nat} (h : At w b t cs) (hg : w.grownBy w' row) (hne : some b ≠ row) : At w' b t cs := (hg.block b h.lt hne).trans h
end Go.PM
namespace Go.PW
open Go.PM
variable {f : Nat → ByteArray}
def wheelH (f : Nat → ByteArray) (p q : Nat) : Bool := decide (hdF f 9 q = hdF f 9 p)
/-- the wheel of a place, in order -/
def wheelL (f : Nat → ByteArray) (p : Nat) : List Nat := (List.range 9).filter (wheelH f p)
theorem wheelL_mem {p q : Nat} : q ∈ wheelL f p ↔ q < 9 ∧ hdF f 9 q = hdF f 9 p := by
  simp [wheelL, wheelH]
theorem wheelL_congr {p q : Nat} (e : hdF f 9 q = hdF f 9 p) : wheelL f q = wheelL f p := by
  unfold wheelL wheelH; rw [e]
theorem wheelL_lt {p : Nat} : ∀ a ∈ wheelL f p, a < 9 := fun _a ha => (wheelL_mem.1 ha).1
theorem wheelL_self {p : Nat} (hp : p < 9) : p ∈ wheelL f p := wheelL_mem.2 ⟨hp, rfl⟩
theorem wheelL_len (p : Nat) : (wheelL f p).length ≤ 9 := by
  have := List.length_filter_le (wheelH f p) (List.range 9)
  simpa [wheelL] using this
theorem head_le : ∀ (l : List Nat), l.Pairwise (· < ·) → ∀ a ∈ l, ∃ h, l.head? = some h ∧ h ≤ a ∧ h ∈ l
  | [], _, a, ha => by cases ha
  | x :: l, hp, a, ha => by
    refine ⟨x, rfl, ?_, by simp⟩
    rw [List.mem_cons] at ha
    rcases ha with rfl | ha
    · exact Nat.le_refl _
    · exact Nat.le_of_lt ((List.pairwise_cons.1 hp).1 a ha)
theorem wheelL_sorted (p : Nat) : (wheelL f p).Pairwise (· < ·) := by
  unfold wheelL
  exact (List.pairwise_lt_range (n := 9)).filter _
theorem wheelL_head {p : Nat} (hp : p < 9) : ∃ h, (wheelL f p).head? = some h ∧ h ≤ p ∧ h ∈ wheelL f p := head_le _ (wheelL_sorted p) p (wheelL_self hp)
/-- whether a place is the first one of a wheel of two places or more -/
def firstW (f : Nat → ByteArray) (p : Nat) : Bool := decide (1 < (wheelL f p).length ∧ (wheelL f p).head? = some p)
/-- the wheels of the first k places -/
def wheelsF (f : Nat → ByteArray) (k : Nat) : List (List Nat) := ((List.range k).filter (firstW f)).map (wheelL f)
theorem wheelsF_yes {k : Nat} (h : firstW f k = true) : wheelsF f (k + 1) = wheelsF f k ++ [wheelL f k] := by simp [wheelsF, List.range_succ, h]
theorem wheelsF_no {k : Nat} (h : firstW f k = false) : wheelsF f (k + 1) = wheelsF f k := by simp [wheelsF, List.range_succ, h]
theorem wheelsF_len (k : Nat) : (wheelsF f k).length ≤ k := by
  unfold wheelsF; rw [List.length_map]
  have := List.length_filter_le (firstW f) (List.range k)
  simpa using this
theorem flat_len : ∀ (l : List (List Nat)), (∀ x ∈ l, x.length ≤ 9) → l.flatten.length ≤ 9 * l.length
  | [], _ => by simp
  | x :: l, h => by
    have := flat_len l fun y hy => h y (by simp [hy])
    have := h x (by simp)
    simp only [List.flatten_cons, List.length_append, List.length_cons]; omega
theorem wheelsF_flat (k : Nat) : (∀ a ∈ (wheelsF f k).flatten, a < 9) ∧ (wheelsF f k).flatten.length ≤ 9 * k := by
  have hm : ∀ x ∈ wheelsF f k, ∃ p, x = wheelL f p := fun x hx => by
    obtain ⟨p, _, e⟩ := List.mem_map.1 hx; exact ⟨p, e.symm⟩
  refine ⟨fun a ha => ?_, ?_⟩
  · obtain ⟨x, hx, ha⟩ := List.mem_flatten.1 ha
    obtain ⟨p, rfl⟩ := hm x hx
    exact wheelL_lt a ha
  · have h1 := flat_len (wheelsF f k) fun x hx => by obtain ⟨p, rfl⟩ := hm x hx; exact wheelL_len p
    have h2 := wheelsF_len (f := f) k
    omega
/-- the first place of a wheel is not in an earlier one exactly if it is the place itself -/
theorem seen_iff {p : Nat} (hp : p < 9) (hl : 1 < (wheelL f p).length) {h : Nat} (hh : (wheelL f p).head? = some h) : h ∉ (wheelsF f p).flatten ↔ h = p := by
  obtain ⟨h', e, hle, hm⟩ := wheelL_head (f := f) hp
  rw [hh] at e; cases e
  have hc := (wheelL_mem.1 hm).2
  constructor
  · intro hn
    rcases Nat.lt_or_ge h p with h1 | h1
    · exfalso
      apply hn
      refine List.mem_flatten.2 ⟨wheelL f h, List.mem_map.2 ⟨h, List.mem_filter.2 ⟨by simpa using h1, ?_⟩, rfl⟩, wheelL_self (by omega)⟩
      unfold firstW
      rw [wheelL_congr hc, decide_eq_true_eq]
      exact ⟨hl, hh⟩
    · omega
  · rintro rfl hin
    obtain ⟨x, hx, ha⟩ := List.mem_flatten.1 hin
    obtain ⟨r, hr, rfl⟩ := List.mem_map.1 hx
    obtain ⟨hr1, hr2⟩ := List.mem_filter.1 hr
    unfold firstW at hr2
    rw [decide_eq_true_eq] at hr2
    have e1 := wheelL_congr (wheelL_mem.1 ha).2
    rw [← e1, hh] at hr2
    have := Option.some.inj hr2.2
    have : r < h := by simpa using hr1
    omega

/-- a ring's places have readers -/
theorem ring_pred {nx : Nat → Option Nat} {i : Nat} (h : OnR nx i) : ∃ j, nx j = some i := by
  obtain ⟨k, hk, e⟩ := h
  obtain ⟨k, rfl⟩ : ∃ m, k = m + 1 := ⟨k - 1, by omega⟩
  simp only [orb, Option.bind_eq_some_iff] at e
  obtain ⟨j, _, e⟩ := e
  exact ⟨j, e⟩
theorem ring_all {nx : Nat → Option Nat} (hn : Nice nx) {s : Nat} (hs : s < 19) (h : OnR nx s) : ∀ i ∈ way nx s, OnR nx i := by
  intro i hi
  have hr := way_rho hn hs
  have e := hr.onR.1 h
  obtain ⟨j, hj⟩ := List.getElem?_of_mem hi
  have hlt := (List.getElem?_eq_some_iff.1 hj).1
  rw [hr.at_ j hlt] at hj
  exact (hr.ring_at hr.pos (by rw [e]; rfl) hj).2 (Nat.zero_le _)
theorem ring_low {nx : Nat → Option Nat} (hn : Nice nx) {i : Nat} (h : OnR nx i) : i < 9 := by
  obtain ⟨k, hk, e⟩ := h
  obtain ⟨k, rfl⟩ : ∃ m, k = m + 1 := ⟨k - 1, by omega⟩
  rw [show k + 1 = 1 + k by omega, orb_add] at e
  cases h1 : orb nx i 1 with
  | none => rw [h1] at e; cases e
  | some j => exact hn.low i j (by simpa [orb] using h1)
/-- how many places read a spot -/
def rcount (f : Nat → ByteArray) (i : Nat) : Nat := (namesW (rdH f (sn i))).size
theorem rcount_pos {f : Nat → ByteArray} (hf : SV f) {i j : Nat} (hi : i < 19) (h : nxT f j = some i) : 1 ≤ rcount f i := by
  have hj := (nice hf).low _ _ h
  have hs : sx f j = i ∧ j ≠ i := by
    unfold nxT at h
    rw [if_pos hj] at h
    by_cases e : sx f j = j
    · rw [if_pos e] at h; cases h
    · rw [if_neg e, Option.some.injEq] at h; exact ⟨h, fun e2 => e (by rw [h, e2])⟩
  have hr : rdH f (sn i) j = true := by
    unfold rdH
    rw [← (sx_lt hf hj).2, hs.1, ← sn_nm j hj]
    simp only [decide_true, Bool.and_true, decide_eq_true_eq]
    exact fun e => hs.2 (sn_inj (by omega) hi e)
  unfold rcount namesW
  have : j ∈ (List.range 9).filter (rdH f (sn i)) := List.mem_filter.2 ⟨by simpa using hj, hr⟩
  have h0 := List.length_pos_of_mem this
  have e : (ByteArray.mk (namesL (rdH f (sn i)) (List.range 9)).toArray).size = ((List.range 9).filter (rdH f (sn i))).length := by simp [ByteArray.size, namesL]
  rw [e]; exact h0
/-- a ring that nobody reads from outside -/
def shut (f : Nat → ByteArray) (l : List Nat) : Bool := l.all fun i => decide (rcount f i ≤ 1)
theorem ring_one {f : Nat → ByteArray} (hf : SV f) {s : Nat} (hs : s < 19) (h : onRb (nxT f) s = true) {i : Nat} (hi : i ∈ way (nxT f) s) : (rcount f i ≤ 1 ↔ rcount f i = 1) := by
  have hn := nice hf
  have h1 := ring_all hn hs ((onRb_iff hn hs).1 h) i hi
  obtain ⟨j, hj⟩ := ring_pred h1
  have := rcount_pos hf ((way_rho hn hs).lt i hi) hj
  omega
end Go.PW
namespace Go.PW
open Go.PM
variable {f : Nat → ByteArray}
theorem namesW_txt (h : Nat → Bool) : namesW h = txt ((List.range 9).filter h) := by
  unfold namesW namesL txt
  congr 2
  refine List.map_congr_left fun p hp => ?_
  have hp9 : p < 9 := by simpa using (List.mem_filter.1 hp).1
  match p, hp9 with
  | 0, _ | 1, _ | 2, _ | 3, _ | 4, _ | 5, _ | 6, _ | 7, _ | 8, _ => rfl
/-- the places next to a place -/
def nbL (f : Nat → ByteArray) (q : Nat) : List Nat := (List.range 9).filter (rdH f (sn q)) ++ (if sx f q < 9 then [sx f q] else [])
theorem nbL_lt (q : Nat) : ∀ e ∈ nbL f q, e < 9 := by
  intro e he
  unfold nbL at he
  rw [List.mem_append] at he
  rcases he with he | he
  · simpa using (List.mem_filter.1 he).1
  · by_cases h : sx f q < 9
    · rw [if_pos h] at he; simp at he; omega
    · rw [if_neg h] at he; cases he
theorem nbL_len (q : Nat) : (nbL f q).length ≤ 10 := by
  unfold nbL
  rw [List.length_append]
  have h1 := List.length_filter_le (rdH f (sn q)) (List.range 9)
  by_cases h : sx f q < 9
  · rw [if_pos h]; simp at h1 ⊢; omega
  · rw [if_neg h]; simp at h1 ⊢; omega
theorem rdH_sx (hf : SV f) {q r : Nat} (hq : q < 19) (hr : r < 9) : rdH f (sn q) r = true ↔ r ≠ q ∧ sx f r = q := by
  unfold rdH
  rw [← (sx_lt hf hr).2, ← sn_nm r hr, Bool.and_eq_true, decide_eq_true_eq, decide_eq_true_eq]
  constructor
  · rintro ⟨h1, h2⟩
    exact ⟨fun e => h1 (by rw [e]), sn_inj (sx_lt hf hr).1 hq h2⟩
  · rintro ⟨h1, h2⟩
    exact ⟨fun e => h1 (sn_inj (by omega) hq e), by rw [h2]⟩
theorem nbL_hd (hf : SV f) {q : Nat} (hq : q < 9) : ∀ e ∈ nbL f q, hdF f 9 e = hdF f 9 q := by
  intro e he
  have he9 := nbL_lt q e he
  unfold nbL at he
  rw [List.mem_append] at he
  rcases he with he | he
  · have h := (rdH_sx hf (show q < 19 by omega) he9).1 (List.mem_filter.1 he).2
    have := hd_edge (f := f) 9 e he9 (by rw [h.2]; exact hq)
    rw [this, h.2]
  · by_cases h : sx f q < 9
    · rw [if_pos h] at he
      simp at he
      subst he
      exact (hd_edge (f := f) 9 q hq h).symm
    · rw [if_neg h] at he; cases he
/-- what the inner walk has made of l -/
structure Part (f : Nat → ByteArray) (p : Nat) (l m : List Nat) : Prop where
  pre : l <+: m
  nodup : m.Nodup
  lt : ∀ q ∈ m, q < 9
  in_ : ∀ q ∈ m, hdF f 9 q = hdF f 9 p
theorem Comp.part {p : Nat} {l : List Nat} {i : Nat} (h : Comp f p l i) : Part f p l l := ⟨List.prefix_refl _, h.nodup, h.lt, h.in_⟩
theorem Part.add {p : Nat} {l m : List Nat} {e : Nat} (h : Part f p l m) (he : e < 9) (hh : hdF f 9 e = hdF f 9 p) (hm : e ∉ m) : Part f p l (m ++ [e]) := by
  refine ⟨h.pre.trans (List.prefix_append _ _), ?_, fun q hq => ?_, fun q hq => ?_⟩
  · rw [List.nodup_append]
    exact ⟨h.nodup, by simp, fun a ha b hb e2 => by simp at hb; subst hb; subst e2; exact hm ha⟩
  · rw [List.mem_append] at hq
    rcases hq with hq | hq
    · exact h.lt q hq
    · simp at hq; omega
  · rw [List.mem_append] at hq
    rcases hq with hq | hq
    · exact h.in_ q hq
    · simp at hq; rw [hq]; exact hh
theorem Part.len {p : Nat} {l m : List Nat} (h : Part f p l m) : m.length ≤ 9 := nodup_le m 9 h.nodup h.lt
theorem Comp.start (f : Nat → ByteArray) {p : Nat} (hp : p < 9) : Comp f p [p] 0 :=
  ⟨by simp, fun q hq => by simp at hq; omega, by simp, fun q hq => by simp at hq; rw [hq], fun k q hk _ => by omega⟩
theorem Comp.next (hf : SV f) {p : Nat} {l m : List Nat} {i q : Nat} (h : Comp f p l i) (hq : l[i]? = some q) (hm : Part f p l m) (hn : ∀ e ∈ nbL f q, e ∈ m) : Comp f p m (i + 1) := by
  have hsub : ∀ x ∈ l, x ∈ m := fun x hx => hm.pre.subset hx
  refine ⟨hm.nodup, hm.lt, hsub p h.has, hm.in_, fun k x hk hx => ?_⟩
  obtain ⟨t, ht⟩ := hm.pre
  have hil := (List.getElem?_eq_some_iff.1 hq).1
  have hx2 : l[k]? = some x := by
    rw [← ht, List.getElem?_append_left (by omega)] at hx; exact hx
  by_cases hki : k = i
  · subst hki
    rw [hq] at hx2
    obtain rfl : q = x := Option.some.inj hx2
    have hqm : q ∈ m := hsub q (List.mem_of_getElem? hq)
    refine ⟨fun h9 => hn _ ?_, fun r hr he => ?_⟩
    · unfold nbL; rw [if_pos h9]; simp
    · by_cases e : r = q
      · rw [e]; exact hqm
      · refine hn r ?_
        unfold nbL
        rw [List.mem_append]
        left
        have hx9 := hm.lt q hqm
        exact List.mem_filter.2 ⟨by simpa using hr, (rdH_sx hf (by omega) hr).2 ⟨e, he⟩⟩
  · have := h.out k x (by omega) hx2
    exact ⟨fun h9 => hsub _ (this.1 h9), fun r hr he => hsub _ (this.2 r hr he)⟩
theorem wheel_all {p : Nat} {l : List Nat} (h : Comp f p l l.length) : (List.range 9).filter (fun q => decide (q ∈ l)) = wheelL f p := by
  unfold wheelL
  refine List.filter_congr fun q hq => ?_
  have hq9 : q < 9 := by simpa using hq
  unfold wheelH
  rw [decide_eq_decide]
  exact h.all q hq9
end Go.PW
namespace Go.Proofs.Ytbgchjjaaelkbaa
open Go.RowKit Go.PM Go.PW Go.Lib

end Go.Proofs.Ytbgchjjaaelkbaa
namespace Go.Proofs.Ytbgchjjaaelkbaa
open Go.RowKit Go.PM Go.PW Go.Lib

end Go.Proofs.Ytbgchjjaaelkbaa
namespace Go.PW
open Go.RowKit Go.PM
abbrev zW : Array Value := #[.int .i64 0, .int .i64 0, .int .i64 0, .int .i64 0, .int .i64 0, .int .i64 0, .int .i64 0, .int .i64 0, .int .i64 0]
theorem zW_eq : zW = whA (fun _ => 0) := rfl
/-- the first k places lead to themselves -/
def idK (k : Nat) : Nat → Nat := fun q => if q < k then q else 0
theorem idK_zero : whA (idK 0) = zW := by simp [idK, whA, zW]
theorem idK_succ (k : Nat) : (fun r => if r = k then k else idK k r) = idK (k + 1) := by
  funext q
  unfold idK
  by_cases h : q = k
  · subst h; simp
  · by_cases h2 : q < k
    · simp [h, h2, Nat.lt_succ_of_lt h2]
    · have : ¬ q < k + 1 := by omega
      simp [h, h2, this]
theorem idK_nine : whA (idK 9) = whA (fun q => q) := by simp [idK, whA]
theorem isP_sn' {a : ByteArray} (h : isP a = true) : a = sn (pidx a) := by
  have := pidx_spec h
  rw [sn_nm _ this.1, this.2]
end Go.PW
namespace Go.Proofs.Ytbgchjjaaelkbaa
open Go.RowKit Go.PM Go.PW
attribute [local go_sem] Oper.semAt_some

def whB (xs : List Mv) (a : ByteArray) : ByteArray := txt (wheelL (tabOf xs) (pidx a))
end Go.Proofs.Ytbgchjjaaelkbaa
namespace Go.PM
open Go.RowKit
/-- one of a text's letters is the given text -/
def pmH (s c : ByteArray) : Bool := (List.range s.size).any fun i => decide (s.extract i (i + 1) = c)
def pmK (s c : ByteArray) (k : Nat) : Bool := (List.range k).any fun i => decide (s.extract i (i + 1) = c)
theorem pmK_succ (s c : ByteArray) (k : Nat) : pmK s c (k + 1) = (pmK s c k || decide (s.extract k (k + 1) = c)) := by
  simp [pmK, List.range_succ]
theorem pmK_yes {s c : ByteArray} (k : Nat) (hk : k < s.size) (h : s.extract k (k + 1) = c) : pmH s c = true := by
  rw [pmH, List.any_eq_true]
  exact ⟨k, by simpa using hk, decide_eq_true h⟩
theorem extract_at (s : ByteArray) (i : Nat) (h : i < s.size) : s.extract i (i + 1) = ⟨#[s[i]]⟩ := by
  apply ByteArray.ext
  apply Array.ext
  · simp only [ByteArray.data_extract, Array.size_extract]
    have : s.data.size = s.size := rfl
    simp; omega
  · intro j h1 h2
    have hj : j = 0 := by simpa using h2
    subst hj
    simp
    rfl
theorem pmH_one (s : ByteArray) (c : UInt8) : pmH s ⟨#[c]⟩ = decide (c ∈ s.data.toList) := by
  rw [pmH, Bool.eq_iff_iff, List.any_eq_true, decide_eq_true_eq]
  constructor
  · rintro ⟨i, hi, h⟩
    have hi' : i < s.size := by simpa using hi
    have h' := of_decide_eq_true h
    rw [extract_at s i hi'] at h'
    have : s[i] = c := by simpa using h'
    rw [← this]
    exact List.getElem_mem (l := s.data.toList) (n := i) (by simpa using hi')
  · intro h
    obtain ⟨i, hi, e⟩ := List.getElem_of_mem h
    have hi' : i < s.size := by simpa using hi
    refine ⟨i, by simpa using hi', decide_eq_true ?_⟩
    rw [extract_at s i hi', ← e]
    rfl
theorem place_inj : ∀ p < 9, ∀ q < 9, placesL.getD q 0 = placesL.getD p 0 → q = p := by decide +kernel
theorem nm_byte (p : Nat) (hp : p < 9) : nm p = ⟨#[placesL.getD p 0]⟩ := by
  match p, hp with
  | 0, _ | 1, _ | 2, _ | 3, _ | 4, _ | 5, _ | 6, _ | 7, _ | 8, _ => decide +kernel
theorem pmH_names (h : Nat → Bool) (p : Nat) (hp : p < 9) : pmH (namesW h) (nm p) = h p := by
  rw [nm_byte p hp, pmH_one, Bool.eq_iff_iff, decide_eq_true_eq]
  unfold namesW namesL
  simp only [List.mem_map, List.mem_filter, List.mem_range]
  constructor
  · rintro ⟨q, ⟨hq, hh⟩, e⟩
    rw [place_inj p hp q hq e] at hh; exact hh
  · intro hh; exact ⟨p, ⟨hp, hh⟩, rfl⟩
theorem srcM_isS {xs : List Mv} (h : MV xs) {a : ByteArray} (ha : isP a = true) : isS (srcM xs a) = true := by
  unfold srcM
  cases hf : xs.find? (fun m => decide (m.1 = a)) with
  | none => show isS a = true; unfold isS; rw [ha]; rfl
  | some m =>
    have hm := h.1 m (List.mem_of_find?_eq_some hf)
    unfold mok at hm; rw [Bool.and_eq_true] at hm
    exact hm.2
theorem nm_of_isP {a : ByteArray} (h : isP a = true) : ∃ p, p < 9 ∧ a = nm p := by
  obtain ⟨c, rfl⟩ := one_of_size (isP_size h)
  have h2 : c ∈ placesL := by simpa [isP] using h
  simp only [placesL, List.mem_cons, List.not_mem_nil, or_false] at h2
  rcases h2 with rfl | rfl | rfl | rfl | rfl | rfl | rfl | rfl | rfl
  · exact ⟨0, by decide, by decide +kernel⟩
  · exact ⟨1, by decide, by decide +kernel⟩
  · exact ⟨2, by decide, by decide +kernel⟩
  · exact ⟨3, by decide, by decide +kernel⟩
  · exact ⟨4, by decide, by decide +kernel⟩
  · exact ⟨5, by decide, by decide +kernel⟩
  · exact ⟨6, by decide, by decide +kernel⟩
  · exact ⟨7, by decide, by decide +kernel⟩
  · exact ⟨8, by decide, by decide +kernel⟩
end Go.PM
namespace Go.Proofs.Ytbgchjjaaelkbaa
open Go.RowKit Go.PM
theorem pmH_rdrs {xs : List Mv} (h : MV xs) (a : ByteArray) (p : Nat) (hp : p < 9) : pmH (rdrs xs a) (nm p) = (decide (nm p ≠ a) && decide (srcM xs (nm p) = a)) := by
  rw [rdrs, ← rsH_rdH h, pmH_names _ p hp]; rfl
theorem pmH_source {xs : List Mv} (h : MV xs) {a : ByteArray} (ha : isP a = true) (hne : ¬ srcM xs a = a) : pmH (rdrs xs (srcM xs a)) a = true := by
  obtain ⟨p, hp, rfl⟩ := nm_of_isP ha
  rw [pmH_rdrs h _ p hp]
  have h1 : nm p ≠ srcM xs (nm p) := fun e => hne e.symm
  simp [h1]
theorem rdrs_size (xs : List Mv) (a : ByteArray) : (rdrs xs a).size ≤ 9 := namesL_size _ 9

end Go.Proofs.Ytbgchjjaaelkbaa
namespace Go.PM
open Go.RowKit
theorem place_of {a : ByteArray} (h : isP a = true) : ∃ p, p < 9 ∧ a = nm p := ⟨pidx a, (pidx_spec h).1, (pidx_spec h).2.symm⟩
def pmI (s : ByteArray) : Int := if isP s then (pidx s : Int) else -1
theorem pmI_yes {p : Nat} (hp : p < 9) {s : ByteArray} (h : nm p = s) : pmI s = p := by
  subst h
  rw [pmI, if_pos (isP_nm hp), pidx_nm hp]
theorem pmI_no {s : ByteArray} (h : ∀ p, p < 9 → ¬ nm p = s) : pmI s = -1 := by
  refine if_neg fun hp => ?_
  obtain ⟨p, hp9, e⟩ := place_of hp
  exact h p hp9 e.symm
end Go.PM
namespace Go.Proofs.Ytbgchjjaaelkbaa
open Go.RowKit Go.PM
set_option maxHeartbeats 800000 in
theorem pmIndex_c (s : ByteArray) (w : World) :
    Calls Try.prog 25 #[.string s] w fun e w' => e = .returned (.int .i64 (pmI s)) ∧ Below w.heap.size w w' := by
  have HNM : Hid (∀ q, q < 9 → (ByteArray.mk #[97, 98, 99, 100, 101, 102, 65, 66, 67]).extract q (q+1) = nm q) := by
    show ∀ q, _
    intro q hq
    match q, hq with
    | 0, _ | 1, _ | 2, _ | 3, _ | 4, _ | 5, _ | 6, _ | 7, _ | 8, _ => decide +kernel
  have HY := Lib.hid (fun p hp h => pmI_yes (s := s) (p := p) hp h)
  have HN := Lib.hid (pmI_no (s := s))
  go_enter Try.func25, Try.ntmps25
  go_wp2
  go_loopw [4, 7] (fun _ i wr => ∃ (k : Nat), k ≤ 9 ∧ i = .int .i64 k ∧ Hid (∀ p, p < k → ¬ nm p = s) ∧ Below w.heap.size w wr) (fun _ i _ => 9 - (intOf i).toNat)
  case atStart => exact ⟨0, by omega, rfl, fun p hp => absurd hp (Nat.not_lt_zero p), Below.refl _ _⟩
  case round =>
    obtain ⟨k, hk, rfl, hp, hb⟩ := hrel
    have hbs := hb.size
    by_cases hlt : k < 9
    · have i1 : (k : Int) < 9 := by omega
      have hex := HNM.out k hlt
      have H1 := Lib.hid (HY.out k hlt)
      have H2 : Hid (¬ nm k = s → ∀ p, p < k + 1 → ¬ nm p = s) := fun h p hpk => by
        rcases Nat.lt_succ_iff_lt_or_eq.1 hpk with h2 | h2
        · exact hp.out p h2
        · subst h2; exact h
      generalize nm k = q at *
      have tq := beq_str q s
      by_cases he : q = s
      · rw [decide_eq_true he] at tq
        have H3 := Lib.hid (H1.out he)
        clear he
        go_wp2
        go_ret
        exact ⟨by rw [H3.out]; rfl, hb⟩
      · rw [decide_eq_false he] at tq
        have H3 := Lib.hid (H2.out he)
        clear he
        go_wp2
        go_roundw
        case rel => exact ⟨k + 1, by omega, by go_num, H3.out, hb⟩
        case measure => simp [intOf] <;> omega
    · have H1 := Lib.hid (HN.out (fun p hp9 => hp.out p (by omega)))
      go_wp2
      go_ret
      exact ⟨by rw [H1.out]; rfl, hb⟩
end Go.Proofs.Ytbgchjjaaelkbaa
namespace Go.PW
open Go.PM Go.RowKit Go.Lib
variable {f : Nat → ByteArray} {s : Nat}
theorem wb_some (hf : SV f) (hs : s < 19) {i : Nat} (hi : i + 1 < (way (nxT f) s).length) : (way (nxT f) s)[i] < 9 ∧ sx f (way (nxT f) s)[i] = (way (nxT f) s)[i + 1] := by
  have hr := way_rho (nice hf) hs
  obtain ⟨a, t, e1, e2, e3⟩ := hr.step (j := i) hi
  rw [hr.some_ (j := i) (by omega)] at e1
  rw [hr.some_ (j := i + 1) hi] at e3
  obtain rfl := Option.some.inj e1
  obtain rfl := Option.some.inj e3
  have h9 := (nice hf).low _ _ e2
  refine ⟨h9, ?_⟩
  by_cases e : sx f (way (nxT f) s)[i] = (way (nxT f) s)[i]
  · rw [nxT_stay h9 e] at e2; cases e2
  · rw [nxT_some h9 e] at e2; exact Option.some.inj e2
theorem wb_zero (hf : SV f) (hs : s < 19) (h0 : 0 < (way (nxT f) s).length) : (way (nxT f) s)[0] = s := by
  have hr := way_rho (nice hf) hs
  have := hr.some_ h0
  exact (Option.some.inj this).symm
theorem wb_wheel (hf : SV f) (hs : s < 9) : ∀ i (hi : i < (way (nxT f) s).length), (way (nxT f) s)[i] < 9 → (way (nxT f) s)[i] ∈ wheelL f s := by
  intro i
  induction i with
  | zero => intro hi h9; rw [wb_zero hf (by omega) hi]; exact wheelL_self hs
  | succ i ih =>
    intro hi h9
    have h1 := wb_some hf (show s < 19 by omega) hi
    have h2 := ih (by omega) h1.1
    refine wheelL_mem.2 ⟨h9, ?_⟩
    rw [← (wheelL_mem.1 h2).2, ← h1.2]
    exact (hd_edge (f := f) 9 _ h1.1 (by rw [h1.2]; exact h9)).symm
theorem wb_fresh (hf : SV f) (hs : s < 19) {i : Nat} (hi : i < (way (nxT f) s).length) : (way (nxT f) s)[i] ∉ (way (nxT f) s).take i := by
  intro hm
  have hr := way_rho (nice hf) hs
  obtain ⟨j, hj⟩ := List.getElem?_of_mem hm
  have hjl := (List.getElem?_eq_some_iff.1 hj).1
  rw [List.length_take] at hjl
  have h2 : (way (nxT f) s)[j]? = some (way (nxT f) s)[i] := by
    rw [List.getElem?_take] at hj
    rw [if_pos (by omega)] at hj
    exact hj
  obtain ⟨h3, h4⟩ := List.getElem?_eq_some_iff.1 h2
  have := (List.getElem_inj hr.nodup).1 h4
  omega
theorem wb_last (hf : SV f) (hs : s < 19) {i : Nat} (hl : (way (nxT f) s)[(way (nxT f) s).length - 1]? = some i) (hi : i < 9) : sx f i ∈ way (nxT f) s := by
  have hr := way_rho (nice hf) hs
  have hp := hr.pos
  have h1 : orb (nxT f) s ((way (nxT f) s).length - 1) = some i := by rw [← hr.at_ _ (by omega)]; exact hl
  have h2 : orb (nxT f) s (way (nxT f) s).length = nxT f i := by
    have : orb (nxT f) s ((way (nxT f) s).length - 1 + 1) = (orb (nxT f) s ((way (nxT f) s).length - 1)).bind (nxT f) := rfl
    rw [show (way (nxT f) s).length - 1 + 1 = (way (nxT f) s).length by omega, h1] at this
    exact this
  by_cases e : sx f i = i
  · rw [e]; exact List.mem_of_getElem? hl
  · rw [nxT_some hi e] at h2
    rcases hr.last with h3 | ⟨mu, hmu, h3⟩
    · rw [h2] at h3; cases h3
    · rw [h2, hr.some_ hmu] at h3
      rw [Option.some.inj h3]
      exact List.getElem_mem hmu
theorem wb_depth (hf : SV f) (hs : s < 19) : depN (nxT f) s < (way (nxT f) s).length := by
  have hr := way_rho (nice hf) hs
  obtain ⟨D, hD, hc⟩ := hr.stops
  have := (depN_stops (nice hf) hs).unique hD
  rcases hc with ⟨_, h⟩ | ⟨h, _⟩ <;> omega
theorem pmH_txt {l : List Nat} (hl : ∀ a ∈ l, a < 19) {i : Nat} (hi : i < 19) : pmH (txt l) (sn i) = decide (i ∈ l) := by
  show pmH (txt l) ⟨#[ch i]⟩ = _
  rw [pmH_one, decide_eq_decide]
  exact txt_mem hl hi
theorem pmI_sn {i : Nat} (hi : i < 19) : pmI (sn i) = if i < 9 then (i : Int) else -1 := by
  unfold pmI
  rw [(ch_all i hi).2.2.1]
  by_cases h : i < 9
  · rw [if_pos (by simpa using h), if_pos h, sn_nm i h, pidx_nm h]
  · rw [if_neg (by simpa using h), if_neg h]
theorem txt_extract (l : List Nat) (j : Nat) (hj : j < l.length) : (txt l).extract j (j + 1) = sn l[j] := by
  have hz := txt_size l
  rw [extract_one _ _ (by omega), txt_list, List.getD_eq_getElem?_getD, List.getElem?_map, List.getElem?_eq_getElem hj]; rfl
theorem txt_take (l : List Nat) (j : Nat) : (txt l).extract 0 j = txt (l.take j) := by
  apply ByteArray.ext
  rw [ByteArray.data_extract]
  apply Array.ext'
  simp [txt, List.extract_eq_take_drop, List.map_take]
end Go.PW
namespace Go.Proofs.Ytbgchjjaaelkbaa
open Go.RowKit Go.PM Go.PW
theorem wb_all {xs : List Mv} (h : MV xs) {a : ByteArray} (ha : isP a = true) : ∃ (wy wh : List Nat) (s0 D : Nat), s0 < 9 ∧ a = sn s0 ∧ wayB xs a = txt wy ∧ whB xs a = txt wh ∧ depthI xs a = (D : Int) ∧ wy.length ≤ 19 ∧ 0 < wy.length ∧ (∀ x ∈ wy, x < 19) ∧
    (∀ i (hi : i + 1 < wy.length), wy[i] < 9 ∧ sx (tabOf xs) wy[i] = wy[i + 1]) ∧ (∀ i (hi : i < wy.length), wy[i] < 9 → wy[i] ∈ wh) ∧ (∀ i (hi : i < wy.length), wy[i] ∉ wy.take i) ∧
    (∀ i, wy[wy.length - 1]? = some i → i < 9 → sx (tabOf xs) i ∈ wy) ∧ (∀ hi : 0 < wy.length, wy[0] = s0) ∧ D < wy.length ∧ (∀ x ∈ wh, x < 19) ∧ wh.length ≤ 9 := by
  have hf := SV_tab h
  have hs9 := (pidx_spec ha).1
  have hs : pidx a < 19 := by omega
  have hm : mvalid xs = true := by simpa [mvalid] using h
  have hr := way_rho (nice hf) hs
  refine ⟨way (nxT (tabOf xs)) (pidx a), wheelL (tabOf xs) (pidx a), pidx a, depN (nxT (tabOf xs)) (pidx a), hs9, isP_sn ha, rfl, rfl, ?_, hr.len, hr.pos, hr.lt, fun i hi => wb_some hf hs hi, wb_wheel hf hs9, fun i hi => wb_fresh hf hs hi, fun i hl hi => wb_last hf hs hl hi, fun hi => wb_zero hf hs hi, wb_depth hf hs, fun x hx => by have := wheelL_lt x hx; omega, wheelL_len _⟩
  unfold depthI
  rw [hm, ha]; rfl
end Go.Proofs.Ytbgchjjaaelkbaa
namespace Go.PM
open Go.RowKit
def mdig : Nat → Nat → List UInt8
  | 0, _ => []
  | f + 1, n => if n = 0 then [] else mdig f (n / 10) ++ [UInt8.ofNat (48 + n % 10)]
def mT (k : Nat) : ByteArray := if k = 0 then ⟨#[109, 48]⟩ else ⟨(109 :: mdig k k).toArray⟩
theorem mdig_zero (f : Nat) : mdig f 0 = [] := by cases f <;> simp [mdig]
theorem mdig_step (f n : Nat) (h : n ≤ f) (h0 : 0 < n) : ∃ f', f = f' + 1 ∧ n / 10 ≤ f' ∧ mdig f n = mdig f' (n / 10) ++ [UInt8.ofNat (48 + n % 10)] := by
  cases f with
  | zero => omega
  | succ f => exact ⟨f, rfl, by omega, by simp [mdig]; omega⟩
end Go.PM
namespace Go.Proofs.Ytbgchjjaaelkbaa
open Go.RowKit Go.PM

theorem conv_one (W : World) (c : Int) : (convert 22 9 (.slice (some ⟨W.heap.size, 0, none⟩) 1 1)).run Try.prog (W.alloc (.cells #[.int .u8 c] 5)) =
    .ok (.string ⟨#[UInt8.ofNat c.toNat]⟩) (W.alloc (.cells #[.int .u8 c] 5)) := by
  rw [run_convert_bytes_string _ _ _ _ _ _ _ Try.underlying22 Try.underlying5 Try.underlying9]
  have hl : (loadCells ⟨W.heap.size, 0, none⟩ 1).run Try.prog (W.alloc (.cells #[.int .u8 c] 5)) = .ok ([c].map (Value.int .u8)).toArray (W.alloc (.cells #[.int .u8 c] 5)) :=
    run_loadCells_list (P := Try.prog) (W.alloc (.cells #[.int .u8 c] 5)) ⟨W.heap.size, 0, none⟩ [Value.int .u8 c] (fun j v hj => by
      cases j with
      | zero =>
        simp [Addr.add] at hj ⊢
        exact hj
      | succ j => simp at hj)
  rw [run_bytesToString (ns := [c]) _ _ _ _ hl]
  rfl

set_option maxRecDepth 100000 in
set_option maxHeartbeats 800000 in
theorem markText_c (k : Nat) (w : World) (h1 : 1 ≤ k) (h2 : k ≤ 8388608) :
    Calls Try.prog 114 #[.int .i64 k] w fun e w' => e = .returned (.string (mT k)) ∧ Below w.heap.size w w' := by
  have hp : ¬ (k : Int) ≤ 0 := by omega
  go_enter Try.func114, Try.ntmps114
  go_wp2
  go_loopw [0, 3] (fun i o wr => ∃ (n f : Nat) (t : ByteArray), i = .int .i64 n ∧ o = .string t ∧ t.size + n ≤ k ∧ n ≤ f ∧ Hid (mdig k k = mdig f n ++ t.data.toList) ∧ Below w.heap.size w wr) (fun i _ _ => (intOf i).toNat)
  case atStart => exact ⟨k, k, ⟨#[]⟩, rfl, rfl, Nat.le_of_eq (Nat.zero_add _), by omega, (List.append_nil _).symm, Below.refl _ _⟩
  case round =>
    obtain ⟨n, f, t, rfl, rfl, hs, hf, hd, hb⟩ := hrel
    have hbs := hb.size
    by_cases h0 : 0 < n
    · obtain ⟨f', hff, hf', hstep⟩ := mdig_step f n hf h0
      have hcv := conv_one wr (48 + (n : Int) % 10)
      have hcn : UInt8.ofNat (48 + (n : Int) % 10).toNat = UInt8.ofNat (48 + n % 10) := by
        rw [show (48 + (n : Int) % 10).toNat = 48 + n % 10 by omega]
      rw [hcn] at hcv
      have HST := Lib.hid hstep
      have HFF := Lib.hid hff
      generalize UInt8.ofNat (48 + n % 10) = c at *
      have hc1 : (⟨#[c]⟩ : ByteArray).size ≤ 1 := Nat.le_refl _
      clear hstep hff hcn
      go_wp2
      go_roundw
      case rel =>
        refine ⟨n / 10, f', _, by go_num, rfl, ?_, hf', ?_, by (repeat' (first | (with_reducible exact Below.refl _ _) | (with_reducible assumption) | (with_reducible refine Below.alloc ?_ ?_ _) | (with_reducible refine Below.drew ?_) | (with_reducible refine Below.setCell ?_ ?_ _) | (with_reducible exact Nat.le_refl _) | omega | ((repeat (first | rewrite [World.size_alloc] | rewrite [World.size_setCell] | rewrite [World.size_drew])); omega) | (simp; omega) | (simp; done)))⟩
        · simp only [ByteArray.size_append]; omega
        · show _ = _
          rw [hd.out, HST.out]; simp
      case measure => simp [intOf]; omega
    · have hn0 : n = 0 := by omega
      have h3 := hd.out
      rw [hn0, mdig_zero, List.nil_append] at h3
      have HT : Hid ((⟨#[109]⟩ : ByteArray) ++ t = mT k) := by
        show _ = _
        unfold mT
        rw [if_neg (by omega), h3]
        exact Go.WideShapes.bytes_inj (by simp)
      clear h3 hn0
      go_wp2
      go_ret
      exact ⟨by rw [← HT.out]; rfl, hb⟩

theorem markText_i (k : Int) (w : World) (h1 : 1 ≤ k) (h2 : k ≤ 8388608) :
    Calls Try.prog 114 #[.int .i64 k] w fun e w' => e = .returned (.string (mT k.toNat)) ∧ Below w.heap.size w w' := by
  obtain ⟨n, rfl⟩ := Int.eq_ofNat_of_zero_le (show 0 ≤ k by omega)
  exact markText_c n w (by omega) (by omega)

/-- the cells behind n marked moves, the first mark being number k -/
def marks : Nat → Nat → List Mv
  | 0, _ => []
  | n + 1, k => (mT k, mT (k + 1)) :: marks n (k + 2)
theorem marks_length (n k : Nat) : (marks n k).length = n := by
  induction n generalizing k with
  | zero => rfl
  | succ n ih => simp [marks, ih]
theorem marks_at (n k i : Nat) (h : i < (marks n k).length) : (marks n k)[i] = (mT (k + 2 * i), mT (k + 2 * i + 1)) := by
  induction n generalizing k i with
  | zero => simp [marks] at h
  | succ n ih =>
    cases i with
    | zero => rfl
    | succ i =>
      simp only [marks, List.getElem_cons_succ]
      rw [ih]
      congr 2 <;> omega
/-- the first i of the moves are marked -/
def mmix (xs : List Mv) (i k : Nat) : List Mv := marks i k ++ xs.drop i
theorem marks_snoc (i k : Nat) : marks (i + 1) k = marks i k ++ [(mT (k + 2 * i), mT (k + 2 * i + 1))] := by
  induction i generalizing k with
  | zero => rfl
  | succ i ih =>
    rw [marks, ih (k + 2)]
    simp only [marks, List.cons_append]
    rw [show k + 2 + 2 * i = k + 2 * (i + 1) by omega]
theorem mmix_length (xs : List Mv) (i k : Nat) (h : i ≤ xs.length) : (mmix xs i k).length = xs.length := by
  simp [mmix, marks_length]; omega
theorem mmix_set (xs : List Mv) (i k : Nat) (h : i < xs.length) : ((mcells (mmix xs i k)).set (i * 2) (.string (mT (k + 2 * i)))).set (i * 2 + 1) (.string (mT (k + 2 * i + 1))) = mcells (mmix xs (i + 1) k) := by
  have hl : (mcells (marks i k)).length = i * 2 := by rw [mcells_length, marks_length]
  unfold mmix
  rw [marks_snoc, List.drop_eq_getElem_cons h, mcells_append, mcells_append, mcells_append, mcells_cons]
  rw [List.set_append_right _ _ (by omega), List.set_append_right _ _ (by omega), hl, Nat.sub_self, show i * 2 + 1 - i * 2 = 1 by omega]
  simp [mcells]

set_option maxRecDepth 100000 in
set_option maxHeartbeats 800000 in
theorem markMoveS_c (xs : List Mv) (v : Value) (base : Nat) (k : Int) (w : World) (ho : w.ownsRow base 33 2 v xs.length (mcells xs)) (hn : xs.length ≤ 1048576) (h1 : 1 ≤ k) (hk : k ≤ 4194304) :
    Calls Try.prog 57 #[v, .int .i64 k] w fun e w' => e = .returned (.int .i64 (k + 2 * (xs.length : Int))) ∧ w'.ownsRow base 33 2 v xs.length (mcells (marks xs.length k.toNat)) ∧ w.grownBy w' v.ownBlock := by
  by_cases h0 : xs.length = 0
  · have hx : xs = [] := List.length_eq_zero_iff.1 h0
    subst hx
    have ho2 := ho
    obtain ⟨A, cap, rfl, _⟩ := Rd.of_own ho
    have ho3 := Lib.hid ho2
    clear ho ho2
    simp only [List.length_nil]
    go_enter Try.func57, Try.ntmps57
    go_wp2
    refine wp_loop_rounds 1 ?_
    rw [rounds_succ]
    go_wp2
    go_ret
    exact ⟨by simp, by simpa [marks] using ho3.out, grown_refl _ _⟩
  · obtain ⟨g, cap, rfl, _⟩ := ho.form (by omega)
    have hA0 : (0 : Int) < xs.length := by omega
    clear h0
    go_enter Try.func57, Try.ntmps57
    go_wp2
    go_loopw [1, 5] (fun m i wr => ∃ (j : Nat), j ≤ xs.length ∧ i = .int .i64 j ∧ m = .int .i64 (k + 2 * (j : Int)) ∧ wr.ownsRow base 33 2 (.slice (some ⟨g, 0, none⟩) xs.length cap) xs.length (mcells (mmix xs j k.toNat)) ∧ w.grownBy wr (some g)) (fun _ i _ => xs.length - (intOf i).toNat)
    case atStart => exact ⟨0, by omega, rfl, by simp, by simpa [mmix, marks] using ho, grown_refl _ _⟩
    case round =>
      obtain ⟨j, hj, rfl, rfl, hr, hg⟩ := hrel
      by_cases hlt : j < xs.length
      · have hms := mmix_set xs j k.toNat hlt
        have hml := mmix_length xs j k.toNat hj
        have HMS := Lib.hid hms
        have hcl : ∀ i, i < xs.length * 2 → ∃ u, (mcells (mmix xs j k.toNat))[i]? = some u := fun i hi => by
          have : i < (mcells (mmix xs j k.toNat)).length := by rw [mcells_length, hml]; exact hi
          exact ⟨_, List.getElem?_eq_getElem this⟩
        obtain ⟨c1, hc1⟩ := hcl (j * 2) (by omega)
        obtain ⟨c2, hc2⟩ := hcl (j * 2 + 1) (by omega)
        have HC := Lib.hid (And.intro hc1 hc2)
        have hlg := (own_lt hr).1
        clear hms hml hcl hc1 hc2
        go_wp2_with fail
        refine (markText_i _ _ (by omega) (by omega)).mono ?_
        rintro e w1 ⟨rfl, hb1⟩
        have hr1 := own_keep hr hb1
        have hf1 := hr1.frozenAt (j * 2)
        have hq1 := (hr1.cellAt (j * 2) (by omega)).trans HC.out.1
        have hg1 := grown_trans hg (grown_below hb1 (some g))
        clear hr hg
        go_wp2_with fail
        have hr2 := (hr1.stored (j * 2) (.string (mT (k + 2 * (j : Int)).toNat))).1
        have hg2 := grown_trans hg1 (hr1.stored (j * 2) (.string (mT (k + 2 * (j : Int)).toNat))).2
        clear hr1 hf1 hq1 hg1
        generalize w1.setCell ⟨g, j * 2, none⟩ (.string (mT (k + 2 * (j : Int)).toNat)) = w2 at *
        refine (markText_i _ _ (by omega) (by omega)).mono ?_
        rintro e w3 ⟨rfl, hb3⟩
        have hr3 := own_keep hr2 hb3
        have hf3 := hr3.frozenAt (j * 2 + 1)
        have hq3 : w3.cell? ⟨g, j * 2 + 1, none⟩ = some c2 := (hr3.cellAt (j * 2 + 1) (by omega)).trans (by rw [List.getElem?_set_ne (by omega)]; exact HC.out.2)
        have hg3 := grown_trans hg2 (grown_below hb3 (some g))
        clear hr2 hg2
        go_wp2
        go_roundw
        case rel =>
          refine ⟨j + 1, by omega, by go_num, by go_num, ?_, ?_⟩
          · rw [← HMS.out]
            have e1 : (k + 2 * (j : Int)).toNat = k.toNat + 2 * j := by omega
            have e2 : (k + 2 * (j : Int) + 1).toNat = k.toNat + 2 * j + 1 := by omega
            have h := (hr3.stored (j * 2 + 1) (.string (mT (k + 2 * (j : Int) + 1).toNat))).1
            rw [e1, e2] at h
            rw [e2]
            exact h
          · exact grown_trans hg3 (hr3.stored (j * 2 + 1) _).2
        case measure => simp [intOf]; omega
      · have hj' : j = xs.length := by omega
        have h3 := hr
        rw [hj'] at h3
        have e3 : mmix xs xs.length k.toNat = marks xs.length k.toNat := by simp [mmix]
        rw [e3] at h3
        have HJ : Hid ((j : Int) = xs.length) := by show _ = _; rw [hj']
        clear hj' e3
        go_wp2
        go_ret
        exact ⟨by rw [← HJ.out]; rfl, h3, hg⟩

set_option maxRecDepth 100000 in
set_option maxHeartbeats 800000 in
theorem heldMoveS_c (n : Nat) (v : Value) (k : Int) (w : World) (hx : RdM w v (marks n k.toNat)) (hn : n ≤ 1048576) (h1 : 1 ≤ k) (hk : k ≤ 4194304) :
    Calls Try.prog 67 #[v, .int .i64 k] w fun e w' => e = .returned (.int .i64 (k + 2 * (n : Int))) ∧ Below w.heap.size w w' := by
  obtain ⟨A, cap, hv, hnn, hc, hcell⟩ := hx.open
  rw [marks_length] at hv hnn hc
  subst hv
  go_enter Try.func67, Try.ntmps67
  go_wp2
  go_loopw [1, 5] (fun m i wr => ∃ (j : Nat), j ≤ n ∧ i = .int .i64 j ∧ m = .int .i64 (k + 2 * (j : Int)) ∧ Below w.heap.size w wr) (fun _ i _ => n - (intOf i).toNat)
  case atStart => exact ⟨0, by omega, rfl, by simp, Below.refl _ _⟩
  case round =>
    obtain ⟨j, hj, rfl, rfl, hb⟩ := hrel
    have hbs := hb.size
    by_cases hlt : j < n
    · obtain ⟨b, off, rfl, hbl, hc1, hc2⟩ := hcell j (by rw [marks_length]; exact hlt)
      rw [marks_at] at hc1 hc2
      have e1 : (k + 2 * (j : Int)).toNat = k.toNat + 2 * j := by omega
      have e2 : (k + 2 * (j : Int) + 1).toNat = k.toNat + 2 * j + 1 := by omega
      rw [← e1] at hc1
      rw [← e2] at hc2
      have hx1 : ∀ x : Ext w.heap.size wr, x.val.cell? ⟨b, off + j * 2, none⟩ = some (.string (mT (k + 2 * (j : Int)).toNat)) := fun x => ((x.property.cell (p := ⟨b, _, none⟩) hbl).trans (hb.cell (p := ⟨b, _, none⟩) hbl)).trans hc1
      clear e1 e2 hcell
      have i0 : (0 : Int) ≤ (j : Int) := by omega
      have i1 : (j : Int) < n := by omega
      go_wp2
      refine wp_region_ext w.heap.size (by kernel_rfl) (by kernel_rfl) ?_
      repeat (go_big_quiet_step ((go_at_call 114; exact ext_call _ hb.size (markText_i _ _ (by omega) (by omega)))))
      refine wpQuiet_nil ?_
      intro w2 hw'
      obtain ⟨xw, hxw⟩ := hw'
      have hb2 := xw.property
      rw [← hxw] at hb2
      clear hxw xw
      have e1 : (k + 2 * (j : Int)).toNat = k.toNat + 2 * j := by omega
      have hbw2 := hb.trans hb2
      have hd2 : w2.cell? ⟨b, off + j * 2 + 1, none⟩ = some (.string (mT (k + 2 * (j : Int) + 1).toNat)) := (hbw2.cell (p := ⟨b, _, none⟩) hbl).trans hc2
      have hx2 : ∀ x : Ext w.heap.size w2, x.val.cell? ⟨b, off + j * 2 + 1, none⟩ = some (.string (mT (k + 2 * (j : Int) + 1).toNat)) := fun x => (x.property.cell (p := ⟨b, _, none⟩) hbl).trans hd2
      clear hx1 hd2 e1 hb2 hc1 hc2
      have hbs2 := hbw2.size
      go_wp2
      refine wp_region_ext w.heap.size (by kernel_rfl) (by kernel_rfl) ?_
      repeat (go_big_quiet_step ((go_at_call 114; exact ext_call _ hbw2.size (markText_i _ _ (by omega) (by omega)))))
      refine wpQuiet_nil ?_
      intro w3 hw'
      obtain ⟨xw, hxw⟩ := hw'
      have hb3 := xw.property
      rw [← hxw] at hb3
      clear hxw xw
      clear hx2
      go_wp2
      go_roundw
      case rel => exact ⟨j + 1, by omega, by go_num, by go_num, hbw2.trans hb3⟩
      case measure => simp [intOf]; omega
    · have HJ : Hid ((j : Int) = n) := by show _ = _; omega
      go_wp2
      go_ret
      exact ⟨by rw [← HJ.out]; rfl, hb⟩
end Go.Proofs.Ytbgchjjaaelkbaa
namespace Go.PM
open Go.RowKit
def tcells (ts : List ByteArray) : List Value := ts.map Value.string
theorem tcells_length (ts : List ByteArray) : (tcells ts).length = ts.length := by simp [tcells]
theorem tcells_append (a b : List ByteArray) : tcells (a ++ b) = tcells a ++ tcells b := by simp [tcells]
def RdT (w : World) (v : Value) (ts : List ByteArray) : Prop := Rd w 1 v ts.length (tcells ts)
theorem RdT.below {w w' : World} {v : Value} {ts : List ByteArray} (h : RdT w v ts) (hb : Below w.heap.size w w') : RdT w' v ts := Rd.below h hb
theorem RdT.open {w : World} {v : Value} {ts : List ByteArray} (h : RdT w v ts) : ∃ A cap, v = .slice A ts.length cap ∧ ts.length ≤ 9223372036854775807 ∧ ts.length ≤ cap ∧
    ∀ k (hk : k < ts.length), ∃ b off, A = some ⟨b, off, none⟩ ∧ b < w.heap.size ∧ w.cell? ⟨b, off + k, none⟩ = some (.string ts[k]) := by
  obtain ⟨A, cap, e, hc, hn, hl, hr⟩ := h
  refine ⟨A, cap, e, hn, hc, fun k hk => ?_⟩
  obtain ⟨b, off, eA, hb, hcell⟩ := hr (by omega)
  exact ⟨b, off, eA, hb, hcell _ _ (by unfold tcells; rw [List.getElem?_map, List.getElem?_eq_getElem hk]; rfl)⟩
/-- n marked texts, the first mark being number k -/
def tmarks : Nat → Nat → List ByteArray
  | 0, _ => []
  | n + 1, k => mT k :: tmarks n (k + 1)
theorem tmarks_length (n k : Nat) : (tmarks n k).length = n := by
  induction n generalizing k with
  | zero => rfl
  | succ n ih => simp [tmarks, ih]
theorem tmarks_at (n k i : Nat) (h : i < (tmarks n k).length) : (tmarks n k)[i] = mT (k + i) := by
  induction n generalizing k i with
  | zero => simp [tmarks] at h
  | succ n ih =>
    cases i with
    | zero => rfl
    | succ i =>
      simp only [tmarks, List.getElem_cons_succ]
      rw [ih]
      congr 1; omega
def tmix (ts : List ByteArray) (i k : Nat) : List ByteArray := tmarks i k ++ ts.drop i
theorem tmarks_snoc (i k : Nat) : tmarks (i + 1) k = tmarks i k ++ [mT (k + i)] := by
  induction i generalizing k with
  | zero => rfl
  | succ i ih =>
    rw [tmarks, ih (k + 1)]
    simp only [tmarks, List.cons_append]
    rw [show k + 1 + i = k + (i + 1) by omega]
theorem tmix_length (ts : List ByteArray) (i k : Nat) (h : i ≤ ts.length) : (tmix ts i k).length = ts.length := by
  simp [tmix, tmarks_length]; omega
theorem tmix_set (ts : List ByteArray) (i k : Nat) (h : i < ts.length) : (tcells (tmix ts i k)).set i (.string (mT (k + i))) = tcells (tmix ts (i + 1) k) := by
  have hl : (tcells (tmarks i k)).length = i := by rw [tcells_length, tmarks_length]
  unfold tmix
  rw [tmarks_snoc, List.drop_eq_getElem_cons h, tcells_append, tcells_append, tcells_append]
  rw [List.set_append_right _ _ (by omega), hl, Nat.sub_self]
  simp only [tcells, List.map_cons, List.map_nil, List.set_cons_zero, List.append_assoc, List.cons_append, List.nil_append]
end Go.PM
namespace Go.Proofs.Ytbgchjjaaelkbaa
open Go.RowKit Go.PM

end Go.Proofs.Ytbgchjjaaelkbaa
namespace Go.PW
open Go.PM
def ringsT (nx : Nat → Option Nat) (k : Nat) : List ByteArray := (ringsF nx k).map txt
def ringsB (xs : List Mv) : List ByteArray := if mvalid xs then ringsT (nxT (tabOf xs)) 9 else []
theorem ringsB_len (xs : List Mv) : (ringsB xs).length ≤ 1000 := by
  unfold ringsB
  by_cases h : mvalid xs = true
  · rw [if_pos h]
    have := (ringsF_lt (nice (SV_tab (by simpa [mvalid] using h))) 9 (by omega)).2.1
    unfold ringsT; rw [List.length_map]; omega
  · rw [if_neg h]; simp
theorem way_first (nx : Nat → Option Nat) (s : Nat) (hn : Nice nx) (hs : s < 19) : ∃ l, way nx s = s :: l := by
  have hr := way_rho hn hs
  have h1 := hr.at_ 0 hr.pos
  cases hw : way nx s with
  | nil => have := hr.pos; rw [hw] at this; simp at this
  | cons a l =>
    rw [hw] at h1
    simp only [List.getElem?_cons_zero, orb, Option.some.injEq] at h1
    subst h1; exact ⟨l, rfl⟩
end Go.PW
namespace Go.Proofs.Ytbgchjjaaelkbaa
open Go.RowKit Go.PM Go.PW Go.Lib

set_option maxRecDepth 100000 in
set_option maxHeartbeats 1000000 in
theorem l3Rings_c (xs : List Mv) (h1 : MV xs) (v : Value) (w : World) (hx : RdM w v xs) :
    Calls Try.prog 82 #[v] w fun e w' => ∃ v', e = .returned v' ∧ w'.ownsRow w.heap.size 9 1 v' (ringsT (nxT (tabOf xs)) 9).length (tcells (ringsT (nxT (tabOf xs)) 9)) ∧ Below w.heap.size w w' := by
  have hf := SV_tab h1
  have hn := nice hf
  have HN : Hid (∀ q, q < 9 → (ByteArray.mk #[97, 98, 99, 100, 101, 102, 65, 66, 67]).extract q (q+1) = sn q) := by
    show ∀ q, _
    intro q hq
    match q, hq with
    | 0, _ | 1, _ | 2, _ | 3, _ | 4, _ | 5, _ | 6, _ | 7, _ | 8, _ => decide +kernel
  have HRG := Lib.hid (fun i (hi : i < 19) W (hW : RdM W v xs) => l3Ring_c xs h1 v i hi W hW)
  have HX := Lib.hid (fun W (hW : Below w.heap.size w W) => hx.below hW)
  have hE := World.ownsRow_lit (e := 9) (base := w.heap.size) (size := 1) w #[] 0 (Nat.le_refl _) (Nat.zero_le _) rfl
  have HLT := Lib.hid (fun k (hk : k ≤ 9) => ringsF_lt hn k hk)
  have HYES := Lib.hid (fun k => ringsF_yes (nx := nxT (tabOf xs)) (k := k))
  have HNO := Lib.hid (fun k => ringsF_no (nx := nxT (tabOf xs)) (k := k))
  have HON := Lib.hid (fun s (h : onRb (nxT (tabOf xs)) s = true) => show ringL (nxT (tabOf xs)) s = way (nxT (tabOf xs)) s by rw [ringL, if_pos h])
  have HOFF := Lib.hid (fun s (h : ¬ onRb (nxT (tabOf xs)) s = true) => show ringL (nxT (tabOf xs)) s = [] by rw [ringL, if_neg h])
  have HFI := Lib.hid (fun s hs => way_first (nxT (tabOf xs)) s hn hs)
  have HWL := Lib.hid (fun s (hs : s < 19) => (way_rho hn hs).len)
  have HT : Hid (∀ k, ringsT (nxT (tabOf xs)) k = (ringsF (nxT (tabOf xs)) k).map txt) := fun _ => rfl
  have H0 : Hid (ringsF (nxT (tabOf xs)) 0 = []) := rfl
  clear hf hn
  generalize nxT (tabOf xs) = nx at *
  go_enter Try.func82, Try.ntmps82
  go_wp2
  go_loopw [3, 4, 5, 6, 8] (fun o sn _ _ i wr => ∃ (k : Nat), k ≤ 9 ∧ i = .int .i64 k ∧ wr.ownsRow w.heap.size 9 1 o (ringsT nx k).length (tcells (ringsT nx k)) ∧ sn = .string (txt (ringsF nx k).flatten) ∧ Below w.heap.size w wr) (fun _ _ _ _ i _ => 9 - (RowKit.intOf i).toNat)
  case atStart => exact ⟨0, by omega, rfl, by rw [HT.out, H0.out]; exact hE, by rw [H0.out]; rfl, by (repeat' (first | (with_reducible exact Below.refl _ _) | (with_reducible assumption) | (with_reducible refine Below.alloc ?_ ?_ _) | (with_reducible refine Below.drew ?_) | (with_reducible refine Below.setCell ?_ ?_ _) | (with_reducible exact Nat.le_refl _) | omega | ((repeat (first | rewrite [World.size_alloc] | rewrite [World.size_setCell] | rewrite [World.size_drew])); omega) | (simp; omega) | (simp; done)))⟩
  case round =>
    obtain ⟨k, hk, rfl, ho, rfl, hb⟩ := hrel
    have hbs := hb.size
    by_cases hlt : k < 9
    · have hex := HN.out k hlt
      have hxr := HX.out wr hb
      have hrg := HRG.out k (by omega) wr hxr
      by_cases hon : onRb nx k = true
      · rw [HON.out k hon] at hrg
        obtain ⟨l, hl⟩ := HFI.out k (by omega)
        have hwl := HWL.out k (by omega)
        have hsz := txt_size (way nx k)
        have hfl := HLT.out k hk
        have hfz := txt_size (ringsF nx k).flatten
        have hmem := txt_mem hfl.1 (show k < 19 by omega)
        have ht0 : ∀ h : 0 < (txt (way nx k)).size, (txt (way nx k))[0] = ch k := by
          rw [hl]; intro h; rfl
        have hpos : 0 < (way nx k).length := by rw [hl]; simp
        have HRX := Lib.hid hrg
        have HME := Lib.hid hmem
        clear hrg hmem hl
        by_cases hin : k ∈ (ringsF nx k).flatten
        · have hno := HNO.out k (fun h => h.2 hin)
          have HNX := Lib.hid hno
          have HIX : Hid ((0 : Int) ≤ indexByte (txt (ringsF nx k).flatten).data.toList (ch k)) := (indexByte_mem _ _).2 (HME.out.2 hin)
          clear hno hin
          generalize txt (way nx k) = t at *
          generalize ch k = c at *
          generalize hsfe : txt (ringsF nx k).flatten = sf at *
          have HSF := Lib.hid hsfe
          clear hsfe
          have hne : t.toList.isEmpty = false := by
            rw [ByteArray.toList_eq]
            cases hl : t.data.toList with
            | nil => have := size_data t; rw [hl] at this; simp at this; omega
            | cons a l => rfl
          have htp : 0 < t.size := by omega
          have ht1 := ht0 htp
          clear ht0
          have hsf : sf.size ≤ 9223372036854775807 := by have := hfl.2.2; omega
          go_wp2_with fail
          refine HRX.out.mono ?_
          rintro e w2 ⟨rfl, hb2⟩
          have ho2 := own_keep ho hb2
          have hbw := hb.trans (hb2.mono hbs)
          have hbws := hbw.size
          clear hb2 ho
          have hix := HIX.out
          go_wp2_with (go_at_call 119; refine (l13Find_c sf c _ hsf).mono ?_; rintro e w' ⟨rfl, rfl⟩)
          go_roundw
          case rel => exact ⟨k + 1, by omega, by go_num, by rw [HT.out, HNX.out, ← HT.out]; exact ho2, by rw [HNX.out, HSF.out], hbw⟩
          case measure => simp [RowKit.intOf]; omega
        · have hyes := HYES.out k hon hin
          have HNX := Lib.hid hyes
          have HIX : Hid (¬ (0 : Int) ≤ indexByte (txt (ringsF nx k).flatten).data.toList (ch k)) := fun h => hin (HME.out.1 ((indexByte_mem _ _).1 h))
          have HTX : Hid (ringsT nx (k + 1) = ringsT nx k ++ [txt (way nx k)]) := by show _ = _; rw [HT.out, HT.out, hyes]; simp
          have HSX : Hid (txt (ringsF nx (k + 1)).flatten = txt (ringsF nx k).flatten ++ txt (way nx k)) := by
            show _ = _
            rw [hyes, List.flatten_append, txt_append]; simp
          have hrl : (ringsT nx k).length ≤ 9 := by rw [HT.out, List.length_map]; have := hfl.2.1; omega
          clear hyes hin
          generalize txt (way nx k) = t at *
          generalize ch k = c at *
          generalize hsfe : txt (ringsF nx k).flatten = sf at *
          have HSF := Lib.hid hsfe
          clear hsfe
          have hne : t.toList.isEmpty = false := by
            rw [ByteArray.toList_eq]
            cases hl : t.data.toList with
            | nil => have := size_data t; rw [hl] at this; simp at this; omega
            | cons a l => rfl
          have htp : 0 < t.size := by omega
          have ht1 := ht0 htp
          clear ht0
          have hsf : sf.size ≤ 9223372036854775807 := by have := hfl.2.2; omega
          go_wp2_with fail
          refine HRX.out.mono ?_
          rintro e w2 ⟨rfl, hb2⟩
          have ho2 := own_keep ho hb2
          have hbw := hb.trans (hb2.mono hbs)
          have hbws := hbw.size
          have hix := HIX.out
          have hlt0 : indexByte sf.data.toList c < 0 := by omega
          have hnw := one_new w2 (.string t) 9
          have hown0 := own_keep ho2 ((Below.refl _ _).alloc (Nat.le_refl _) (.cells #[.string t] 9))
          go_wp2_with (first | (go_at_call 119; refine (l13Find_c sf c _ hsf).mono ?_; rintro e w' ⟨rfl, rfl⟩) | (at_builtin; refine app_str rfl (.tmp 26) (.tmp 28) rfl w.heap.size u3 (ringsT nx k) t ⟨w2.heap.size, 0, none⟩ 1 (by rfl) (by rfl) hown0 hnw (by omega) (by simp; omega) ?_; intro v' w3 hown3 hgrow3))
          have hb3 := below_grown hgrow3 (B := w.heap.size) (by simp; omega) (own_block_ge ho)
          have hbw3 := (hbw.alloc hbws (.cells #[.string t] 9)).trans hb3
          go_roundw
          case rel =>
            refine ⟨k + 1, by omega, by go_num, ?_, by rw [HSX.out], hbw3⟩
            rw [HTX.out]; exact hown3
          case measure => simp [RowKit.intOf]; omega
      · rw [HOFF.out k hon] at hrg
        have HRX := Lib.hid hrg
        have HNX := Lib.hid (HNO.out k (fun h => hon h.1))
        clear hrg
        go_wp2_with fail
        refine HRX.out.mono ?_
        rintro e w2 ⟨rfl, hb2⟩
        rw [show txt [] = ⟨#[]⟩ from rfl]
        have ho2 := own_keep ho hb2
        have hbw := hb.trans (hb2.mono hbs)
        clear hb2 ho
        go_wp2
        go_roundw
        case rel => exact ⟨k + 1, by omega, by go_num, by rw [HT.out, HNX.out, ← HT.out]; exact ho2, by rw [HNX.out], hbw⟩
        case measure => simp [RowKit.intOf]; omega
    · have hk9 : k = 9 := by omega
      subst hk9
      go_wp2
      go_ret
      exact ⟨_, rfl, ho, hb⟩

theorem spRingsOf_c (xs : List Mv) (v : Value) (w : World) (hx : RdM w v xs) (hz : ∀ m ∈ xs, m.1.size ≤ 9223372036854775807 ∧ m.2.size ≤ 9223372036854775807) (hn' : xs.length ≤ 1048576) :
    Calls Try.prog 29 #[v] w fun e w' => ∃ v', e = .returned (.tuple #[v', .bool (mvalid xs)]) ∧ w'.ownsRow w.heap.size 9 1 v' (ringsB xs).length (tcells (ringsB xs)) ∧ Below w.heap.size w w' := by
  rcases Bool.eq_false_or_eq_true (mvalid xs) with h1 | h1
  · rw [h1, show ringsB xs = ringsT (nxT (tabOf xs)) 9 from if_pos h1]
    have HL := Lib.hid (fun W (hW : RdM W v xs) => l3Rings_c xs (by simpa [mvalid] using h1) v W hW)
    go_enter Try.func29, Try.ntmps29
    go_wp2_with fail
    refine (spMovesValid_c xs v _ hx hz hn').mono ?_
    rintro e w1 ⟨he, hb1⟩
    rw [h1] at he
    subst he
    have hs1 := hb1.size
    go_wp2_with fail
    refine (HL.out _ (hx.below hb1)).mono ?_
    rintro e w2 ⟨v', rfl, ho, hb2⟩
    have ho2 := own_more ho hs1
    go_wp2
    go_ret2
    exact ⟨_, rfl, ho2, hb1.trans (hb2.mono hs1)⟩
  · rw [h1, show ringsB xs = [] from if_neg (by rw [h1]; decide)]
    go_enter Try.func29, Try.ntmps29
    go_wp2_with fail
    refine (spMovesValid_c xs v _ hx hz hn').mono ?_
    rintro e w1 ⟨he, hb1⟩
    rw [h1] at he
    subst he
    have hs1 := hb1.size
    have hE := World.ownsRow_lit (e := 9) (base := w.heap.size) (size := 1) w1 #[] 0 hs1 (Nat.zero_le _) rfl
    go_wp2
    go_ret2
    exact ⟨_, rfl, hE, by (repeat' (first | (with_reducible exact Below.refl _ _) | (with_reducible assumption) | (with_reducible refine Below.alloc ?_ ?_ _) | (with_reducible refine Below.drew ?_) | (with_reducible refine Below.setCell ?_ ?_ _) | (with_reducible exact Nat.le_refl _) | omega | ((repeat (first | rewrite [World.size_alloc] | rewrite [World.size_setCell] | rewrite [World.size_drew])); omega) | (simp; omega) | (simp; done)))⟩
end Go.Proofs.Ytbgchjjaaelkbaa
namespace Go.PM
open Go.RowKit
variable {F : Fence} {n : Nat} {P : Program}
/-- the same contract, of a function that reads what the caller keeps and writes to blocks of its own -/
def IterW {α : Type} (Pr : World → Prop) (κ : Nat) (F : Fence) (n : Nat) (P : Program) (gf : Nat) (mk : Value → Array Value) (encs : α → Array Value) (xs : List α) : Prop :=
  ∀ (l : Nat) (J Jx : List α → World → Prop) (W : World),
    OwnFrom W.heap.size J → OwnFrom W.heap.size Jx → (∀ pre A, J pre A → Pr A) → (∀ pre A A' r, J pre A → W.heap.size ≤ r → r < W.heap.size + κ → A.grownBy A' (some r) → J pre A') →
    (∀ pre x A, J pre A → W.heap.size + κ ≤ A.heap.size → pre ++ [x] <+: xs → YieldAt F (n - 1) P l (encs x) A fun e A' =>
      (e = .returned (.bool true) ∧ J (pre ++ [x]) A' ∧ KeepsIn W.heap.size κ A A' ∧ KeepsFrom W.heap.size A A') ∨ (e = .returned (.bool false) ∧ Jx (pre ++ [x]) A' ∧ A.heap.size ≤ A'.heap.size ∧ KeepsFrom W.heap.size A A')) →
    J [] W →
    CallsIn F n P gf (mk (.func (.yield l) #[] #[])) W fun e W' => (∃ v, e = .returned v) ∧ (J xs W' ∨ ∃ pre, pre <+: xs ∧ Jx pre W')
theorem range_law4 {α : Type} {Pr : World → Prop} {g : Operand} {ps : Array Tmp} {assign body : Code} {Q : Exit → Act → World → Prop} {a : Act} {w : World} (hro : F.round = none) (h1 : 1 ≤ n)
    {gf : Nat} {lf lb : Array Value} (hg : a.eval g = .func (.func gf) lf lb) (hFg : F.fn gf) (eg : ∀ args w, (callFunc gf args).run P w = .ok (.enter gf args) w)
    {encs : α → Array Value} {xs : List α} {κ : Nat} (hit : IterW Pr κ F (n - 1) P gf (fun y => lf ++ #[y] ++ lb) encs xs) (hps : ∀ x, (encs x).size = ps.size)
    (I : List α → World → Prop) (Ix : Code → List α → World → Prop) (hPr : ∀ pre A, I pre A → Pr A) (hIW : ∀ pre A A' r, I pre A → w.heap.size + 2 ≤ r → r < w.heap.size + 2 + κ → A.grownBy A' (some r) → I pre A') (hI : OwnFrom w.heap.size I) (hIx : ∀ c, OwnFrom w.heap.size (Ix c)) (h0 : I [] w) (Ax : α → Act → World → Prop) (hAx : ∀ x a', OwnFrom w.heap.size (fun (_ : Unit) W => Ax x a' W))
    (hassign : ∀ (l : Nat) (pre : List α) (x : α) (W : World) (K : Act → World → Prop), I pre W → pre ++ [x] <+: xs → w.heap.size + 2 + κ ≤ W.heap.size → (∀ a' W', KeepsNew w.heap.size W W' → I pre W' → Ax x a' W' → K a' W') →
      assign.wpIn (F.inRound l) (n - 1 - 1) P (Exit.then K (fun _ _ _ => False)) { tmps := (ps.zip (encs x)).foldl (fun t (p, v) => t.setIfInBounds p v) a.tmps, defers := [] } W)
    (hbody : ∀ (l : Nat) (pre : List α) (x : α) (a' : Act) (W : World), I pre W → Ax x a' W → pre ++ [x] <+: xs → w.heap.size + 2 + κ ≤ W.heap.size → body.wpIn (F.inRound l) (n - 1 - 1) P (ownPostG w.heap.size (KeepsIn (w.heap.size + 2) κ) I Ix (pre ++ [x]) W) a' W)
    (hdone : ∀ (D : Nat) (W : World), w.heap.size ≤ D → I xs W → W.heap[D]? = some (.deferred (some [])) → Q .normal { a with defers := { target := .collected D, args := #[] } :: a.defers } W)
    (hstop : ∀ (D : Nat) (c : Code) (pre : List α) (W : World), w.heap.size ≤ D → pre <+: xs → Ix c pre W → W.heap[D]? = some (.deferred (some [])) → c.wpIn F n P Q { a with defers := { target := .collected D, args := #[] } :: a.defers } W) :
    (Code.rangeFunc g ps assign body).wpIn F n P Q a w := by
  refine wpIn_rangeFunc fun fn hfn => ?_
  rw [hro]
  have key : ∃ rc : LoopState → Option Code → Loop, rc = fun s j => { state := s, pending := j, fn, tmps := a.tmps, params := ps, assign, body, defers := w.heap.size } := ⟨_, rfl⟩
  obtain ⟨rc, hrc⟩ := key
  let V := (w.alloc (.deferred (some []))).alloc (.loop (rc .ready none))
  -- the two blocks of book-keeping, and that the caller's own facts outlast what is done to them
  let Bk : LoopState → Option Code → World → Prop := fun s j A => A.heap[w.heap.size + 1]? = some (.loop (rc s j)) ∧ A.heap[w.heap.size]? = some (.deferred (some []))
  have bkput : ∀ {s j s' j' A}, Bk s j A → Bk s' j' (A.putObj (w.heap.size + 1) (.loop (rc s' j'))) := fun h =>
    ⟨World.putObj_heap_same (Array.getElem?_eq_some_iff.1 h.1).1, (World.putObj_heap_other (by omega)).trans h.2⟩
  have hVs : V.heap.size = w.heap.size + 2 := by simp [V, World.size_alloc]
  have bknew : ∀ {s j A A' row}, Bk s j A → A.grownBy A' row → (∀ r, row = some r → V.heap.size ≤ r ∧ ∃ o : Obj, A.heap[r]? = some o ∧ o.isCells = false) → Bk s j A' := fun h hg' hr =>
    ⟨(hg'.block _ (Array.getElem?_eq_some_iff.1 h.1).1 (fun e => by have := (hr _ e.symm).1; omega)).trans h.1, (hg'.block _ (Array.getElem?_eq_some_iff.1 h.2).1 (fun e => by have := (hr _ e.symm).1; omega)).trans h.2⟩
  have hV : Bk .ready none V := by
    refine ⟨?_, ?_⟩
    · have := World.alloc_heap_new (w.alloc (.deferred (some []))) (.loop (rc .ready none)); rwa [World.size_alloc] at this
    · exact (Below.heap_alloc _ _ _ (by simp)).trans (World.alloc_heap_new w _)
  have hIV : I [] V := hI.alloc _ (hI.alloc _ h0)
  refine ⟨w.heap.size + 1, [{ target := .collected w.heap.size, args := #[] }], V, { target := .fn (.func gf) lb, args := lf ++ #[.func (.yield (w.heap.size + 1)) #[] #[]] }, V, gf,
    lf ++ #[.func (.yield (w.heap.size + 1)) #[] #[]] ++ lb, V, ?_, ?_, ?_, ?_, fun _ => h1, ?_⟩
  · have := run_enterLoop_outer (P := P) (w := w) fn a.tmps ps assign body
    rw [this]; simp only [V, hrc]
  · simp only [resolve, hg]
    simp [go_sem]
  · intro f' hf'
    simp [Target.leads] at hf'
    subst hf'; exact hFg
  · simp [invoke, go_sem, eg]
  refine (hit (w.heap.size + 1) (fun pre A => I pre A ∧ Bk .ready none A) (fun pre A => ∃ c, Ix c pre A ∧ Bk .done (some c) A) V
    (fun pre A A' row h hg' hr => ⟨hI pre A A' row h.1 hg' (fun r e => ⟨by have := (hr r e).1; omega, (hr r e).2⟩), bknew h.2 hg' hr⟩)
    (fun pre A A' row ⟨c, h, hb⟩ hg' hr => ⟨c, hIx c pre A A' row h hg' (fun r e => ⟨by have := (hr r e).1; omega, (hr r e).2⟩), bknew hb hg' hr⟩) (fun pre A h => hPr pre A h.1) (fun pre A A' r h h1 h2 hg' => ⟨hIW pre A A' r h.1 (by omega) (by omega) hg', (hg'.block _ (Array.getElem?_eq_some_iff.1 h.2.1).1 (fun e => by cases e; omega)).trans h.2.1, (hg'.block _ (Array.getElem?_eq_some_iff.1 h.2.2).1 (fun e => by cases e; omega)).trans h.2.2⟩) ?_ ⟨hIV, hV⟩).mono ?_
  · rintro pre x A ⟨hi, hb⟩ hsz hpx
    have hy := run_yield (P := P) (args := encs x) hb.1 (by rw [hrc]; exact hps x)
    rw [hrc] at hy
    refine ⟨fn, _, assign, body, hy, roundIn_of_wpIn hfn (hassign _ pre x A _ hi hpx (by omega) ?_)⟩
    intro a' Wa hkn hia hax
    have hlt := (Array.getElem?_eq_some_iff.1 hb.1).1
    replace hb : Bk .ready none Wa := ⟨(hkn.same _ (by omega) hlt).trans hb.1, (hkn.same _ (Nat.le_refl _) (by omega)).trans hb.2⟩
    clear hy hi
    refine ⟨_, run_beginRound hb.1 (by rw [hrc]), ?_⟩
    have hknV : KeepsIn V.heap.size κ A Wa := hkn.toIn (by omega) hsz
    have hkfV : KeepsFrom V.heap.size A Wa := (hkn.mono (by omega)).from
    have hszA : A.heap.size ≤ Wa.heap.size := hkn.size
    replace hsz := Nat.le_trans hsz hszA
    clear hkn
    revert hknV hkfV hszA
    generalize A = A0
    intro hknV hkfV hszA
    obtain ⟨A, rfl⟩ : ∃ A, A = Wa := ⟨_, rfl⟩
    have hb2 : Bk .busy none (A.putObj (w.heap.size + 1) (.loop (rc .busy none))) := bkput hb
    have e2 : ({ rc .ready none with state := .busy } : Loop) = rc .busy none := by rw [hrc]
    rw [e2]
    refine wpIn_mono (hbody _ pre x a' _ (hI.putObj _ hia (by omega) hb.1 rfl) ((hAx x a').putObj (s := ()) _ hax (by omega) hb.1 rfl) hpx (by simp [World.putObj]; omega)) ?_
    have fin : ∀ (j : Option Code) (C : World), KeepsFrom w.heap.size (A.putObj (w.heap.size + 1) (.loop (rc .busy none))) C →
        (Instr.endRound (w.heap.size + 1) j).run P C = .ok (.bool j.isNone) (C.putObj (w.heap.size + 1) (.loop (rc (if j.isNone then .ready else .done) j))) ∧ Bk .busy none C := fun j C hk => by
      have h1 := hk.same _ _ (by omega) hb2.1 rfl
      have h2 := hk.same _ _ (Nat.le_refl _) hb2.2 rfl
      have h3 := run_endRound (P := P) j h1
      refine ⟨?_, h1, h2⟩
      rw [h3]; rw [hrc]
    have kfin : ∀ (o : Obj) (C : World), KeepsFrom w.heap.size (A.putObj (w.heap.size + 1) (.loop (rc .busy none))) C → KeepsFrom V.heap.size A0 (C.putObj (w.heap.size + 1) o) := fun o C hk => by
      refine hkfV.trans ?_
      refine ⟨by have := hk.size; simp [World.putObj] at this ⊢; omega, fun k x hk1 hk2 hk3 => ?_⟩
      rw [World.putObj_heap_other (by omega)]
      exact hk.same k x (by omega) (by rw [World.putObj_heap_other (by omega)]; exact hk2) hk3
    rintro e a3 C hp
    cases e with
    | normal =>
      obtain ⟨hk, hkn, hi3⟩ := hp
      obtain ⟨hr, hb3⟩ := fin none C hk
      refine ⟨_, _, hr, .inl ⟨rfl, ⟨hI.putObj _ hi3 (by omega) hb3.1 rfl, bkput hb3⟩, ?_, kfin _ C hk⟩⟩
      refine ⟨by have := hkn.size; simp [World.putObj] at this ⊢; omega, fun k hk1 hk2 => ?_⟩
      rw [World.putObj_heap_other (by omega), hkn.same k (by omega) (by omega), World.putObj_heap_other (by omega)]
      exact hknV.same k hk1 hk2
    | ret =>
      obtain ⟨hk, hi3⟩ := hp
      obtain ⟨hr, hb3⟩ := fin (some .ret) C hk
      exact ⟨_, _, hr, .inr ⟨rfl, ⟨.ret, (hIx _).putObj _ hi3 (by omega) hb3.1 rfl, bkput hb3⟩, by have := hk.size; simp [World.putObj] at this ⊢; omega, kfin _ C hk⟩⟩
    | exit id =>
      obtain ⟨hk, hi3⟩ := hp
      obtain ⟨hr, hb3⟩ := fin (some (.exit id)) C hk
      exact ⟨_, _, hr, .inr ⟨rfl, ⟨.exit id, (hIx _).putObj _ hi3 (by omega) hb3.1 rfl, bkput hb3⟩, by have := hk.size; simp [World.putObj] at this ⊢; omega, kfin _ C hk⟩⟩
    | goto t =>
      obtain ⟨hk, hi3⟩ := hp
      obtain ⟨hr, hb3⟩ := fin (some (.goto t)) C hk
      exact ⟨_, _, hr, .inr ⟨rfl, ⟨.goto t, (hIx _).putObj _ hi3 (by omega) hb3.1 rfl, bkput hb3⟩, by have := hk.size; simp [World.putObj] at this ⊢; omega, kfin _ C hk⟩⟩
    | panic ch => exact hp.elim
    | outgrown => exact hp.elim
  · rintro e C ⟨⟨v, rfl⟩, (⟨hi, hb⟩ | ⟨pre, hp, c, hi, hb⟩)⟩
    · have h3 := run_endLoop (P := P) hb.1 (by rw [hrc]; simp)
      refine ⟨none, _, by rw [h3, hrc], hdone _ _ (Nat.le_refl _) (hI.putObj _ hi (by omega) hb.1 rfl) ((World.putObj_heap_other (by omega)).trans hb.2)⟩
    · have h3 := run_endLoop (P := P) hb.1 (by rw [hrc]; simp)
      refine ⟨some c, _, by rw [h3, hrc], hstop _ c pre _ (Nat.le_refl _) hp ((hIx c).putObj _ hi (by omega) hb.1 rfl) ((World.putObj_heap_other (by omega)).trans hb.2)⟩
/-- The same where the assignment lays nothing. -/
theorem range_law5 {α : Type} {Pr : World → Prop} {g : Operand} {ps : Array Tmp} {assign body : Code} {Q : Exit → Act → World → Prop} {a : Act} {w : World} (hro : F.round = none) (h1 : 1 ≤ n)
    {gf : Nat} {lf lb : Array Value} (hg : a.eval g = .func (.func gf) lf lb) (hFg : F.fn gf) (eg : ∀ args w, (callFunc gf args).run P w = .ok (.enter gf args) w)
    {encs : α → Array Value} {xs : List α} {κ : Nat} (hit : IterW Pr κ F (n - 1) P gf (fun y => lf ++ #[y] ++ lb) encs xs) (hps : ∀ x, (encs x).size = ps.size)
    (I : List α → World → Prop) (Ix : Code → List α → World → Prop) (hPr : ∀ pre A, I pre A → Pr A) (hIW : ∀ pre A A' r, I pre A → w.heap.size + 2 ≤ r → r < w.heap.size + 2 + κ → A.grownBy A' (some r) → I pre A') (hI : OwnFrom w.heap.size I) (hIx : ∀ c, OwnFrom w.heap.size (Ix c)) (h0 : I [] w) (a₁ : α → Act)
    (hassign : ∀ (l : Nat) (x : α) (W : World) (K : Act → World → Prop), K (a₁ x) W →
      assign.wpIn (F.inRound l) (n - 1 - 1) P (Exit.then K (fun _ _ _ => False)) { tmps := (ps.zip (encs x)).foldl (fun t (p, v) => t.setIfInBounds p v) a.tmps, defers := [] } W)
    (hbody : ∀ (l : Nat) (pre : List α) (x : α) (W : World), I pre W → pre ++ [x] <+: xs → w.heap.size + 2 + κ ≤ W.heap.size → body.wpIn (F.inRound l) (n - 1 - 1) P (ownPostG w.heap.size (KeepsIn (w.heap.size + 2) κ) I Ix (pre ++ [x]) W) (a₁ x) W)
    (hdone : ∀ (D : Nat) (W : World), w.heap.size ≤ D → I xs W → W.heap[D]? = some (.deferred (some [])) → Q .normal { a with defers := { target := .collected D, args := #[] } :: a.defers } W)
    (hstop : ∀ (D : Nat) (c : Code) (pre : List α) (W : World), w.heap.size ≤ D → pre <+: xs → Ix c pre W → W.heap[D]? = some (.deferred (some [])) → c.wpIn F n P Q { a with defers := { target := .collected D, args := #[] } :: a.defers } W) :
    (Code.rangeFunc g ps assign body).wpIn F n P Q a w :=
  range_law4 hro h1 hg hFg eg hit hps I Ix hPr hIW hI hIx h0 (fun x a' _ => a' = a₁ x) (fun _ _ _ _ _ _ h _ _ => h)
    (fun l _ x W K hi _ _ hK => hassign l x W K (hK _ _ (KeepsNew.refl _ _) hi rfl)) (fun l pre x a' W hi ha hp hs => by subst ha; exact hbody l pre x W hi hp hs) hdone hstop
end Go.PM
namespace Go.PW
open Go.PM Go.RowKit
theorem Ent.unique {nx : Nat → Option Nat} {s : Nat} {a b : Option Nat} (h : Ent nx s a) (k : Ent nx s b) : a = b := by
  obtain ⟨D, hD, h⟩ := h
  obtain ⟨E, hE, k⟩ := k
  have := hD.unique hE
  subst this
  rcases h with ⟨rfl, j, hj⟩ | ⟨rfl, h⟩
  · rcases k with ⟨rfl, _⟩ | ⟨rfl, k⟩
    · rfl
    · exact absurd hj (k j)
  · rcases k with ⟨rfl, j, hj⟩ | ⟨rfl, k⟩
    · exact absurd hj (h j)
    · rfl
theorem ent_ex {nx : Nat → Option Nat} (hn : Nice nx) {s : Nat} (hs : s < 19) : ∃ m, Ent nx s m := by
  obtain ⟨D, hD, _⟩ := (way_rho hn hs).stops
  by_cases h : ∃ k, orb nx s k = none
  · exact ⟨none, D, hD, .inl ⟨rfl, h⟩⟩
  · exact ⟨orb nx s D, D, hD, .inr ⟨rfl, fun k hk => h ⟨k, hk⟩⟩⟩
theorem ringsF_pre {nx : Nat → Option Nat} {a b : Nat} (h : a ≤ b) : ringsF nx a <+: ringsF nx b := by
  induction b with
  | zero => have : a = 0 := by omega
            subst this; exact List.prefix_refl _
  | succ b ih =>
    by_cases e : a = b + 1
    · subst e; exact List.prefix_refl _
    · have h1 := ih (by omega)
      by_cases hc : onRb nx b = true ∧ b ∉ (ringsF nx b).flatten
      · rw [ringsF_yes hc.1 hc.2]; exact h1.trans (List.prefix_append _ _)
      · rw [ringsF_no hc]; exact h1
section
variable {P : Program} {C : World → Prop}
/-- two pointers held against each other in a quiet region -/
theorem ptr_step {F : Fence} {n : Nat} {ops : Array Oper} {Q : Act → Prop} {a : Act} {o : Oper} {rest : List Oper} (hgd : Region.wanted o (yielded ops a.tmps) = true) (ty ty2 : TypeId) (x y : Operand) (ho : o.op = .binOp .neq ty x y ty2) (p q : Option Addr) (hx : a.eval x = .pointer p) (hy : a.eval y = .pointer q) (v : Value)
    (hC : ∀ W, C W → (binOp .neq ty (.pointer p) (.pointer q)).run P W = .ok v W) (h : wpQuietIn F n P ops C Q rest (a.put o.dst v)) : wpQuietIn F n P ops C Q (o :: rest) a := by
  refine wpQuietIn_step (fun w _ f hf => by simp [Oper.about, ho] at hf) (fun K hK => ?_)
  rw [if_pos hgd]
  refine ⟨v, fun W hW => ?_, hK _ h⟩
  unfold Oper.quietAtIn
  have hg : (eqGuard .neq ty x y (.pointer p) (.pointer q)).run P W = .ok () W := by
    simp [eqGuard]
  simp only [execOp, ho, hx, hy, hg, Sem.run_bind, hC W hW, Result.andThen_ok, Sem.run_pure]
  exact ⟨rfl, rfl⟩
end
end Go.PW
namespace Go.Proofs.Ytbgchjjaaelkbaa
open Go.RowKit Go.PM Go.PW Go.Lib
attribute [local go_sem] Oper.semAt_some

theorem neqp_nil (w : World) (a : Addr) : (binOp .neq 92 (.pointer none) (.pointer (some a))).run Try.prog w = .ok (.bool true) w := by
  have h : ∀ d : Nat, (Op.equalIn (d + 1) 92 (.pointer none) (.pointer (some a))).run Try.prog w = .ok false w := fun d => by
    simp [Op.equalIn, run_underlying Try.underlying92]
  simp only [binOp]
  simp [Op.equal, Op.maxDepth, h 9999]
theorem entrance_v (b : Nat) (nx : Nat → Option Nat) (hn : Nice nx) (s : Nat) (hs : s < 19) (m : Option Nat) (hm : Ent nx s m) (w : World) (hS : Spots w b nx) :
    Calls Try.prog 124 #[spotV b (some s)] w fun e w' => e = .returned (spotV b m) ∧ Below w.heap.size w w' :=
  (entrance_c b nx hn s hs w hS).mono fun e w' ⟨⟨m', e1, e2⟩, e3⟩ => ⟨by rw [e1, hm.unique e2], e3⟩

set_option maxRecDepth 100000 in
set_option maxHeartbeats 1000000 in
theorem rings_iter (b : Nat) (nx : Nat → Option Nat) (hn : Nice nx) :
    IterW (fun W => Spots W b nx) 3 Fence.wide 4 Try.prog 80 (fun y => #[.pointer (some ⟨b, 0, none⟩)] ++ #[y] ++ #[]) (fun r : List Nat => #[.string (txt r)]) (ringsF nx 9) := by
  intro l J Jx W hJ hJx hPr hJW hY h0
  change CallsIn _ _ _ _ #[.pointer (some ⟨b, 0, none⟩), .func (.yield l) #[] #[]] W _
  refine callsIn_of_wp_marks Try.func80 rfl trivial ?_ rfl
  simp only [Try.ntmps80, List.size_toArray, List.length_cons, List.length_nil, Nat.reduceAdd, Nat.reduceSub, Array.replicate_succ, Array.replicate_zero, List.push_toArray, List.append_toArray, List.nil_append, List.cons_append]
  obtain ⟨W0, hW0⟩ : ∃ W0 : World, W0 = ((W.alloc (.cells #[.pointer (some ⟨b, 0, none⟩)] 84)).alloc (.cells #[.func (.yield l) #[] #[]] 80)).alloc (.cells #[.string ⟨#[]⟩] 9) := ⟨_, rfl⟩
  have hS0 : W0.heap.size = W.heap.size + 3 := by rw [hW0]; simp only [World.size_alloc]
  have hA0 : At W0 W.heap.size 84 #[.pointer (some ⟨b, 0, none⟩)] := by rw [hW0]; exact ((At.new _ _ _).alloc _).alloc _
  have hA1 : At W0 (W.heap.size + 1) 80 #[.func (.yield l) #[] #[]] := by
    rw [hW0]; have := At.new (W.alloc (.cells #[.pointer (some ⟨b, 0, none⟩)] 84)) 80 #[.func (.yield l) #[] #[]]
    rw [World.size_alloc] at this
    exact this.alloc _
  have hA2 : At W0 (W.heap.size + 2) 9 #[.string ⟨#[]⟩] := by
    rw [hW0]; have := At.new ((W.alloc (.cells #[.pointer (some ⟨b, 0, none⟩)] 84)).alloc (.cells #[.func (.yield l) #[] #[]] 80)) 9 #[.string ⟨#[]⟩]
    rw [World.size_alloc, World.size_alloc] at this
    exact this
  have hJ0 : J [] W0 := by rw [hW0]; exact hJ.alloc _ (hJ.alloc _ (hJ.alloc _ h0))
  gi_wp2
  rw [← hW0]
  clear hW0
  refine range_law (F := Fence.wide) (gf := 121) (lf := #[.int .i64 9]) (lb := #[]) rfl (by decide) rfl trivial (fun args w => rfl) (encs := fun p : Nat => #[.int .i64 p]) (xs := List.range 9)
    (below_iter _ _ trivial rfl (by decide)) (fun _ => rfl)
    (fun pre A => J (ringsF nx pre.length) A ∧ At A W.heap.size 84 #[.pointer (some ⟨b, 0, none⟩)] ∧ At A (W.heap.size + 1) 80 #[.func (.yield l) #[] #[]] ∧ At A (W.heap.size + 2) 9 #[.string (txt (ringsF nx pre.length).flatten)])
    (fun c pre A => c = .ret ∧ ∃ pre2, pre2 <+: ringsF nx 9 ∧ Jx pre2 A) ?own ?ownx ?start ?a1 ?assign ?body ?done ?stop
  case own =>
    rintro s A A' row ⟨h1, h2, h3, h4⟩ hg hr
    have hr' : ∀ r, row = some r → W.heap.size + 3 ≤ r := fun r e => by have := (hr r e).1; omega
    have hne : ∀ b, b < W.heap.size + 3 → some b ≠ row := fun b hb e => by have := hr' _ e.symm; omega
    exact ⟨hJ _ A A' row h1 hg (fun r e => ⟨by have := hr' r e; omega, (hr r e).2⟩), h2.grown hg (hne _ (by omega)), h3.grown hg (hne _ (by omega)), h4.grown hg (hne _ (by omega))⟩
  case ownx =>
    rintro c s A A' row ⟨h1, pre2, h2, h3⟩ hg hr
    have hr' : ∀ r, row = some r → W.heap.size + 3 ≤ r := fun r e => by have := (hr r e).1; omega
    exact ⟨h1, pre2, h2, hJx _ A A' row h3 hg (fun r e => ⟨by have := hr' r e; omega, (hr r e).2⟩)⟩
  case start => exact ⟨hJ0, hA0, hA1, hA2⟩
  case assign =>
    intro l p W Kc hK
    gi_wp2
    exact hK
  case body =>
    clear hJ0 hA0 hA1 hA2
    rintro l2 pre p A ⟨h1, h2, h3, h4⟩ hp hsz
    obtain ⟨hpl, hp9⟩ := pre_len pre p hp
    rw [hpl] at h1 h4
    have HPL : Hid ((pre ++ [p]).length = p + 1) := by show _ = _; simp [hpl]
    have hSA := hPr _ A h1
    have i0 : (0 : Int) ≤ (p : Int) := by omega
    have i1 : (p : Int) < 19 := by omega
    obtain ⟨m, hm⟩ := ent_ex hn (show p < 19 by omega)
    have HENT := Lib.hid (fun W' hS => entrance_v b nx hn p (by omega) m hm W' hS)
    have hc2 : A.cell? ⟨W.heap.size, 0, none⟩ = some (.pointer (some ⟨b, 0, none⟩)) := h2.cell 0
    have hbA := hSA.lt
    have hENT : ∀ x : Ext A.heap.size A.drew, Calls Try.prog 124 #[.pointer (some ⟨b, p * 2, none⟩)] x.val fun e w' => e = .returned (spotV b m) ∧ Below x.val.heap.size x.val w' := fun x => HENT.out x.val (hSA.below ((Below.refl _ _).drew.trans x.property))
    have hSX : ∀ x : Ext A.heap.size A.drew, Spots x.val b nx := fun x => hSA.below ((Below.refl _ _).drew.trans x.property)
    by_cases hon : m = some p
    · subst hon
      have honR : onRb nx p = true := (onRb_iff hn (by omega)).2 ((hm.onR (way_rho hn (by omega))).1 rfl)
      have hlt9 := ringsF_lt hn p (by omega)
      have hmem := txt_mem hlt9.1 (show p < 19 by omega)
      have hszf := txt_size (ringsF nx p).flatten
      have hneq : ∀ W, (∃ x : Ext A.heap.size A.drew, W = x.val) → (binOp .neq 92 (.pointer (some ⟨b, p * 2, none⟩)) (.pointer (some ⟨b, p * 2, none⟩))).run Try.prog W = .ok (.bool false) W := by
        rintro W ⟨x, rfl⟩; exact neqp_yes x.val _
      have hx4 : ∀ x : Ext A.heap.size A.drew, x.val.cell? ⟨W.heap.size + 2, 0, none⟩ = some (.string (txt (ringsF nx p).flatten)) := fun x => (x.property.cell (p := ⟨W.heap.size + 2, 0, none⟩) h4.lt).trans (h4.cell 0)
      have hxn : ∀ x : Ext A.heap.size A.drew, x.val.cell? ⟨b, p * 2, none⟩ = some (.string ⟨#[ch p]⟩) := fun x => (hSX x).name p (by omega)
      have hcon : ∀ x : Ext A.heap.size A.drew, Calls Try.prog 118 #[.string (txt (ringsF nx p).flatten), .string ⟨#[ch p]⟩] x.val fun e w' => e = .returned (.bool (decide (ch p ∈ (txt (ringsF nx p).flatten).data.toList))) ∧ x.val = w' := fun x =>
        (Try.strings_Contains_one _ _ x.val).mono fun _ _ ⟨e1, e2⟩ => ⟨by
          rw [e1]; congr 2; simp only [indexByte_mem], e2.symm⟩
      have hent : ∀ x : Ext A.heap.size A.drew, Calls Try.prog 124 #[.pointer (some ⟨b, p * 2, none⟩)] x.val fun e w' => e = .returned (.pointer (some ⟨b, p * 2, none⟩)) ∧ Below x.val.heap.size x.val w' := hENT
      have HWB := Lib.hid (fun W' (hS : Spots W' b nx) => wayBack_c b nx hn p (by omega) W' hS)
      have hwl := (way_rho hn (show p < 19 by omega)).len
      have hwz := txt_size (way nx p)
      clear hENT
      by_cases hin : p ∈ (ringsF nx p).flatten
      · have hd : decide (ch p ∈ (txt (ringsF nx p).flatten).data.toList) = true := by simpa using hmem.2 hin
        have HNO := Lib.hid (ringsF_no (nx := nx) (k := p) (fun h => h.2 hin))
        rw [hd] at hcon
        clear hd hmem hin
        generalize ch p = c at *
        gi_wp2
        refine region_quiet_inRound (F := Fence.wide) (C := fun w' => ∃ x : Ext A.heap.size A.drew, w' = x.val) rfl (by kernel_rfl) (by kernel_rfl) (by kernel_rfl) ⟨⟨_, Below.refl _ _⟩, rfl⟩ ?_
        simp only
        gi_big_quiet_step (fail)
        (refine BigFrame.wpQuietIn_want (fun _ _ _ _ => trivial) rfl (fun K hK => ?_); gi_big_quiet_op; refine ⟨_, fun _ => callsIn_wide.2 (ext_call _ (Nat.le_refl _) (hent _)), hK _ ?_⟩; clear hK K)
        gi_big_quiet_step (fail)
        refine ptr_step rfl 92 _ (.tmp 15) (.tmp 16) rfl (some ⟨b, p * 2, none⟩) (some ⟨b, p * 2, none⟩) (by rfl) (by rfl) (.bool false) hneq ?_
        simp only [Act.put, List.setIfInBounds_toArray, List.set_cons_succ, List.set_cons_zero]
        gi_big_quiet_step (fail)
        gi_big_quiet_step (fail)
        gi_big_quiet_step (fail)
        gi_big_quiet_step (fail)
        gi_big_quiet_step (fail)
        gi_big_quiet_step (fail)
        (refine BigFrame.wpQuietIn_want (fun _ _ _ _ => trivial) rfl (fun K hK => ?_); gi_big_quiet_op; refine ⟨_, fun _ => callsIn_wide.2 (ext_same _ (hcon _)), hK _ ?_⟩; clear hK K)
        gi_big_quiet_step (fail)
        refine wpQuietIn_nil ?_
        rintro W2 ⟨xw, rfl⟩
        have hb2 : Below A.heap.size A xw.val := ((Below.refl _ _).drew).trans xw.property
        clear hx4 hxn hcon hent hSX hneq
        generalize xw.val = W2 at *
        have j1 := hJ _ A W2 none h1 (grown_below hb2 none) (fun r e => by cases e)
        have k2 := h2.keep hb2
        have k3 := h3.keep hb2
        have k4 := h4.keep hb2
        gi_wp2
        exact ⟨keepsFrom_below hb2, KeepsIn.zero hb2.size, by rw [HPL.out, HNO.out]; exact j1, k2, k3, by rw [HPL.out, HNO.out]; exact k4⟩
      · have hd : decide (ch p ∈ (txt (ringsF nx p).flatten).data.toList) = false := by simpa using fun h => hin (hmem.1 h)
        have hyes := ringsF_yes honR hin
        have HYES := Lib.hid hyes
        have HSX2 : Hid (txt (ringsF nx (p + 1)).flatten = txt (ringsF nx p).flatten ++ txt (way nx p)) := by
          show _ = _
          rw [hyes, List.flatten_append, txt_append]; simp
        have hpre : ringsF nx p ++ [way nx p] <+: ringsF nx 9 := by rw [← hyes]; exact ringsF_pre (by omega)
        rw [hd] at hcon
        clear hd hmem hin hyes
        generalize ch p = c at *
        gi_wp2
        refine region_quiet_inRound (F := Fence.wide) (C := fun w' => ∃ x : Ext A.heap.size A.drew, w' = x.val) rfl (by kernel_rfl) (by kernel_rfl) (by kernel_rfl) ⟨⟨_, Below.refl _ _⟩, rfl⟩ ?_
        simp only
        gi_big_quiet_step (fail)
        (refine BigFrame.wpQuietIn_want (fun _ _ _ _ => trivial) rfl (fun K hK => ?_); gi_big_quiet_op; refine ⟨_, fun _ => callsIn_wide.2 (ext_call _ (Nat.le_refl _) (hent _)), hK _ ?_⟩; clear hK K)
        gi_big_quiet_step (fail)
        refine ptr_step rfl 92 _ (.tmp 15) (.tmp 16) rfl (some ⟨b, p * 2, none⟩) (some ⟨b, p * 2, none⟩) (by rfl) (by rfl) (.bool false) hneq ?_
        simp only [Act.put, List.setIfInBounds_toArray, List.set_cons_succ, List.set_cons_zero]
        gi_big_quiet_step (fail)
        gi_big_quiet_step (fail)
        gi_big_quiet_step (fail)
        gi_big_quiet_step (fail)
        gi_big_quiet_step (fail)
        gi_big_quiet_step (fail)
        (refine BigFrame.wpQuietIn_want (fun _ _ _ _ => trivial) rfl (fun K hK => ?_); gi_big_quiet_op; refine ⟨_, fun _ => callsIn_wide.2 (ext_same _ (hcon _)), hK _ ?_⟩; clear hK K)
        gi_big_quiet_step (fail)
        refine wpQuietIn_nil ?_
        rintro W2 ⟨xw, rfl⟩
        have hb2 : Below A.heap.size A xw.val := ((Below.refl _ _).drew).trans xw.property
        have hSW := hSX xw
        clear hx4 hxn hcon hent hSX hneq
        generalize xw.val = W2 at *
        have j1 := hJ _ A W2 none h1 (grown_below hb2 none) (fun r e => by cases e)
        have k2 := h2.keep hb2
        have k3 := h3.keep hb2
        have k4 := h4.keep hb2
        have hz2 := hb2.size
        gi_wp2
        refine ⟨trivial, CallsIn.inRound l2 (callsIn_wide.2 ((HWB.out W2 hSW).mono ?_))⟩
        rintro e W3 ⟨rfl, hb3⟩
        have j3 := hJ _ W2 W3 none j1 (grown_below hb3 none) (fun r e => by cases e)
        have m2 := k2.keep hb3
        have m3 := k3.keep hb3
        have m4 := k4.keep hb3
        have hz3 := hb3.size
        have kf3 : KeepsFrom W0.heap.size A W3 := (keepsFrom_below hb2).trans (keepsFrom_below hb3)
        obtain ⟨fn, tmps, assign, body, hy, hR⟩ := yieldAt_wide (m := 1) (hY (ringsF nx p) (way nx p) W3 j3 (by omega) hpre)
        have hyc : W3.cell? ⟨W.heap.size + 1, 0, none⟩ = some (.func (.yield l) #[] #[]) := m3.cell 0
        clear h1 h2 h3 h4 k2 k3 k4 j1
        gi_wp2
        refine hR.mono ?_
        rintro e A2 (⟨rfl, hJ3, hKN, hKF⟩ | ⟨rfl, hJ3, _, hKF⟩)
        · have q2 : At A2 W.heap.size 84 #[.pointer (some ⟨b, 0, none⟩)] := (hKN.same _ (Nat.le_refl _) (by omega)).trans m2
          have q3 : At A2 (W.heap.size + 1) 80 #[.func (.yield l) #[] #[]] := (hKN.same _ (by omega) (by omega)).trans m3
          have q4 : At A2 (W.heap.size + 2) 9 #[.string (txt (ringsF nx p).flatten)] := (hKN.same _ (by omega) (by omega)).trans m4
          have kN : W3.heap.size ≤ A2.heap.size := hKN.size
          have kF : KeepsFrom W0.heap.size A A2 := kf3.trans ⟨hKF.size, fun k o hk h4 h5 => hKF.same k o (by omega) h4 h5⟩
          have c4 : A2.cell? ⟨W.heap.size + 2, 0, none⟩ = some (.string (txt (ringsF nx p).flatten)) := q4.cell 0
          have f4 : A2.frozen? ⟨W.heap.size + 2, 0, none⟩ = false := q4.frozen 0
          have l4 := q4.lt
          have hgs : A2.grownBy (A2.setCell ⟨W.heap.size + 2, 0, none⟩ (.string (txt (ringsF nx p).flatten ++ txt (way nx p)))) (some (W.heap.size + 2)) := grownBy_setCell' A2 (W.heap.size + 2) _
          have j5 := hJW _ A2 _ (W.heap.size + 2) hJ3 (by omega) (by omega) hgs
          have s2 := q2.far (p := ⟨W.heap.size + 2, 0, none⟩) (by simp) (.string (txt (ringsF nx p).flatten ++ txt (way nx p)))
          have s3 := q3.far (p := ⟨W.heap.size + 2, 0, none⟩) (by simp) (.string (txt (ringsF nx p).flatten ++ txt (way nx p)))
          have s4 := q4.set 0 (.string (txt (ringsF nx p).flatten ++ txt (way nx p)))
          clear hR hY m2 m3 m4 q2 q3 q4 hgs
          gi_wp2
          refine ⟨kF.trans ((KeepsOthers.setCell _ _ _).from _), KeepsIn.zero (by simp [World.size_setCell]; omega), ?_, s2, s3, ?_⟩
          · rw [HPL.out, HYES.out]; exact j5
          · rw [HPL.out, HSX2.out]; exact s4
        · have kF : KeepsFrom W0.heap.size A A2 := kf3.trans ⟨hKF.size, fun k o hk h4 h5 => hKF.same k o (by omega) h4 h5⟩
          clear hR hY m2 m3 m4
          gi_wp2
          exact ⟨kF, rfl, _, hpre, hJ3⟩
    · have hno := ringsF_no (nx := nx) (k := p) (fun h => hon ((hm.onR (way_rho hn (by omega))).2 ((onRb_iff hn (by omega)).1 h.1)))
      have HNO := Lib.hid hno
      have hneq : ∀ x : Ext A.heap.size A.drew, ∃ q, spotV b m = .pointer q ∧ (binOp .neq 92 (.pointer q) (.pointer (some ⟨b, p * 2, none⟩))).run Try.prog x.val = .ok (.bool true) x.val := fun x => by
        cases m with
        | none => exact ⟨none, rfl, neqp_nil _ _⟩
        | some y => exact ⟨_, rfl, neqp_no x.val b nx (hSX x) y p (fun e => hon (by rw [e]))⟩
      clear hno hon hm
      gi_wp2
      refine region_quiet_inRound (F := Fence.wide) (C := fun w' => ∃ x : Ext A.heap.size A.drew, w' = x.val) rfl (by kernel_rfl) (by kernel_rfl) (by kernel_rfl) ⟨⟨_, Below.refl _ _⟩, rfl⟩ ?_
      simp only
      gi_big_quiet_step (fail)
      (refine BigFrame.wpQuietIn_want (fun _ _ _ _ => trivial) rfl (fun K hK => ?_); gi_big_quiet_op; refine ⟨_, fun _ => callsIn_wide.2 (ext_call _ (Nat.le_refl _) (hENT _)), hK _ ?_⟩; clear hK K)
      gi_big_quiet_step (fail)
      obtain ⟨q, hq1, hq2⟩ : ∃ q, spotV b m = .pointer q ∧ ∀ W, (∃ x : Ext A.heap.size A.drew, W = x.val) → (binOp .neq 92 (.pointer q) (.pointer (some ⟨b, p * 2, none⟩))).run Try.prog W = .ok (.bool true) W := by
        obtain ⟨q, e1, _⟩ := hneq ⟨_, Below.refl _ _⟩
        refine ⟨q, e1, ?_⟩
        rintro W ⟨x, rfl⟩
        obtain ⟨q', e2, e3⟩ := hneq x
        rw [e1] at e2
        cases e2
        exact e3
      clear hneq
      rw [hq1]
      refine ptr_step rfl 92 _ (.tmp 15) (.tmp 16) rfl q (some ⟨b, p * 2, none⟩) (by rfl) (by rfl) (.bool true) hq2 ?_
      simp only [Act.put, List.setIfInBounds_toArray, List.set_cons_succ, List.set_cons_zero]
      repeat (first | gi_big_quiet_step (fail) | (refine BigFrame.wpQuietIn_skip (fun _ _ _ _ => trivial) rfl ?_; simp only [Act.put, List.setIfInBounds_toArray, List.set_cons_succ, List.set_cons_zero]))
      refine wpQuietIn_nil ?_
      rintro W2 ⟨xw, rfl⟩
      have hb2 : Below A.heap.size A xw.val := ((Below.refl _ _).drew).trans xw.property
      clear hENT hSX hq2
      generalize xw.val = W2 at *
      have j1 := hJ _ A W2 none h1 (grown_below hb2 none) (fun r e => by cases e)
      have k2 := h2.keep hb2
      have k3 := h3.keep hb2
      have k4 := h4.keep hb2
      gi_wp2
      exact ⟨keepsFrom_below hb2, KeepsIn.zero hb2.size, by rw [HPL.out, HNO.out]; exact j1, k2, k3, by rw [HPL.out, HNO.out]; exact k4⟩
  case done =>
    clear hJ0 hA0 hA1 hA2 hY
    intro D A hD hI hd
    obtain ⟨h1, h2, h3, h4⟩ := hI
    gi_wp2
    refine ⟨by simp, .inl ⟨D, _, rfl, run_takeDeferred hd, ?_⟩⟩
    refine ⟨_, results_none rfl _ _ _, ⟨_, rfl⟩, .inl ?_⟩
    exact hJ.putObj _ h1 (by omega) hd rfl
  case stop =>
    clear hJ0 hA0 hA1 hA2 hY
    rintro D c pre A hD hp ⟨rfl, pre2, hp2, h1⟩ hd
    gi_wp2
    refine ⟨by simp, .inl ⟨D, _, rfl, run_takeDeferred hd, ?_⟩⟩
    refine ⟨_, results_none rfl _ _ _, ⟨_, rfl⟩, .inr ⟨pre2, hp2, ?_⟩⟩
    exact hJx.putObj _ h1 (by omega) hd rfl
end Go.Proofs.Ytbgchjjaaelkbaa
namespace Go.PW
open Go.RowKit Go.PM
theorem Spots.of_at {w w' : World} {b : Nat} {nx : Nat → Option Nat} (h : Spots w b nx) (hk : ∀ t cs, At w b t cs → At w' b t cs) : Spots w' b nx := by
  obtain ⟨t, cs, hA⟩ := h.row
  have hB := hk t cs hA
  exact ⟨⟨t, cs, hB⟩, fun i hi => by rw [hB.cell, ← hA.cell]; exact h.name i hi, fun i hi => by rw [hB.cell, ← hA.cell]; exact h.src i hi⟩
end Go.PW
namespace Go.Proofs.Ytbgchjjaaelkbaa
open Go.RowKit Go.PM Go.PW Go.Lib
attribute [local go_sem] Oper.semAt_some

theorem appIn_str {F : Fence} {k : Nat} {ops : Array Oper} {rest : List Oper} {o : Oper} {a : Act} {Q : Exit → Act → World → Prop} {w : World} (hgd : o.guard = none) (s x : Operand)
    (ho : o.op = .call { callee := .builtin .append, args := #[s, x], argTypes := #[36, 36] })
    (base : Nat) (v : Value) (ys : List ByteArray) (m : ByteArray) (ad : Addr) (c : Nat) (hs : a.eval s = v) (hx : a.eval x = .slice (some ad) 1 c)
    (hown : w.ownsRow base 9 1 v ys.length (tcells ys)) (hnew : ∀ j u, [Value.string m][j]? = some u → w.cell? (ad.add j) = some u)
    (hlen : ys.length ≤ 1048576) (hbase : base ≤ w.heap.size)
    (h : ∀ v' w', w'.ownsRow base 9 1 v' (ys ++ [m]).length (tcells (ys ++ [m])) → w.grownBy w' v.ownBlock → wpListIn F k Try.prog ops Q rest (a.put o.dst v') w') : wpListIn F k Try.prog ops Q (o :: rest) a w := by
  obtain ⟨i0, hi0, hz0, hz1, hz2⟩ := info_parts infoStr
  refine wpListIn_append_own w hgd s x _ ho base 9 i0 _ 1 16 Try.underlying36 hi0 hz0 hz1 hz2 rfl (by omega) v ys.length (tcells ys) hs hown ad 1 c [Value.string m] hx rfl hnew
    (by intro u hu; simp at hu; subst hu; rfl) (by simp only [maxLen]; omega) (by omega) hbase ?_
  intro v' w' h2 h3 _
  refine h v' w' ?_ h3
  rw [tcells_append, List.length_append]
  simpa [tcells] using h2

set_option maxRecDepth 100000 in
set_option maxHeartbeats 2000000 in
theorem imRingsOf_c (xs : List Mv) (v : Value) (w : World) (hx : RdM w v xs) :
    Calls Try.prog 27 #[v] w fun e w' => ∃ v', e = .returned (.tuple #[v', .bool (mvalid xs)]) ∧ w'.ownsRow w.heap.size 9 1 v' (ringsB xs).length (tcells (ringsB xs)) ∧ Below w.heap.size w w' := by
  by_cases h1 : MV xs
  · have HT := Lib.hid (tableOf_yes xs h1 v w hx)
    have hm1 : mvalid xs = true := by simpa [mvalid] using h1
    have HM := Lib.hid hm1
    have HS := Lib.hid (show ringsB xs = ringsT (nxT (tabOf xs)) 9 from if_pos hm1)
    have hn := nice (SV_tab h1)
    have HSP := Lib.hid (fun W => spotsOf_c (tabOf xs) (SV_tab h1) W)
    have HLE := Lib.hid (fun k (hk : k ≤ 9) => (ringsF_lt hn k hk).2.1)
    have HRT : Hid (∀ k, ringsT (nxT (tabOf xs)) k = (ringsF (nxT (tabOf xs)) k).map txt) := fun _ => rfl
    clear h1 hx hm1
    generalize nxT (tabOf xs) = nx at *
    generalize tabOf xs = t at *
    refine (callsIn_wide (n := 5)).1 ?_
    refine callsIn_of_wp_marks Try.func27 rfl trivial ?_ rfl
    simp only [Try.ntmps27, List.size_toArray, List.length_cons, List.length_nil, Nat.reduceAdd, Nat.reduceSub, Array.replicate_succ, Array.replicate_zero, List.push_toArray, List.append_toArray, List.nil_append, List.cons_append]
    gi_wp2_with fail
    refine ⟨trivial, callsIn_wide.2 (HT.out.mono ?_)⟩
    rintro e w1 ⟨rfl, hb1⟩
    have hs1 := hb1.size
    gi_wp2
    obtain ⟨W0, hW0⟩ : ∃ W0 : World, W0 = (w1.alloc (.cells (tabA t) 73)).alloc (.cells #[.slice none 0 0] 36) := ⟨_, rfl⟩
    have hS0 : W0.heap.size = w1.heap.size + 2 := by rw [hW0]; simp only [World.size_alloc]
    have hB0 : Below w.heap.size w W0 := by rw [hW0]; (repeat' (first | (with_reducible exact Below.refl _ _) | (with_reducible assumption) | (with_reducible refine Below.alloc ?_ ?_ _) | (with_reducible refine Below.drew ?_) | (with_reducible refine Below.setCell ?_ ?_ _) | (with_reducible exact Nat.le_refl _) | omega | ((repeat (first | rewrite [World.size_alloc] | rewrite [World.size_setCell] | rewrite [World.size_drew])); omega) | (simp; omega) | (simp; done)))
    have hA0 : At W0 (w1.heap.size + 1) 36 #[.slice none 0 0] := by
      rw [hW0]; have := At.new (w1.alloc (.cells (tabA t) 73)) 36 #[.slice none 0 0]
      rwa [World.size_alloc] at this
    refine ⟨trivial, callsIn_wide.2 ?_⟩
    rw [← hW0]
    clear hW0
    refine (HSP.out W0).mono ?_
    rintro e W1 ⟨⟨bs, rfl, hbs, hSW⟩, hb2⟩
    have hA1 := hA0.keep hb2
    have hB1 : Below w.heap.size w W1 := hB0.trans (hb2.mono hB0.size)
    have hS1 := hb2.size
    have hbl := hSW.lt
    clear hA0 hb2 hB0
    gi_wp2
    refine range_law5 (F := Fence.wide) (gf := 80) (lf := #[.pointer (some ⟨bs, 0, none⟩)]) (lb := #[]) rfl (by decide) rfl trivial (fun args w => rfl) (encs := fun r : List Nat => #[.string (txt r)]) (xs := ringsF nx 9) (κ := 3)
      (rings_iter bs nx hn) (fun _ => rfl)
      (fun pre W => ∃ o, At W (w1.heap.size + 1) 36 #[o] ∧ W.ownsRow (W1.heap.size + 5) 9 1 o (pre.map txt).length (tcells (pre.map txt)) ∧ Spots W bs nx ∧ Below w.heap.size w W)
      (fun _ _ _ => False) ?pr ?iw ?own (fun _ => ownFrom_pure _ _) ?start ?a1 ?assign ?body ?done ?stop
    case pr => rintro pre A ⟨o, _, _, h, _⟩; exact h
    case iw =>
      rintro pre A A' r ⟨o, k1, k2, k3, k4⟩ hr1 hr2 hg
      have hge := own_block_ge k2
      refine ⟨o, at_grown' k1 hg (fun e => by cases e; omega), own_grown k2 hg (.inl fun e => ?_), k3.of_at fun t' cs h => at_grown' h hg (fun e => by cases e; omega), k4.trans (below_grown hg k4.size (fun g e => by cases e; have := hB1.size; omega))⟩
      have := hge r e; omega
    case own =>
      rintro s A A' row ⟨o, k1, k2, k3, k4⟩ hg hr
      exact ⟨o, at_turn' k1 hg (fun r e => (hr r e).2), own_turn' k2 hg (fun r e => (hr r e).2), k3.of_at fun t' cs h => at_turn' h hg (fun r e => (hr r e).2), k4.trans (below_grown hg k4.size (fun g e => by have := (hr g e).1; have := hB1.size; omega))⟩
    case start => exact ⟨_, hA1, ⟨rfl, .inl ⟨rfl, rfl⟩⟩, hSW, hB1⟩
    case assign =>
      intro l p W Kc hK
      gi_wp2
      exact hK
    case body =>
      rintro l pre r W ⟨o, k1, k2, k3, k4⟩ hp hsz
      have hlen : (pre.map txt).length ≤ 9 := by
        have h1 := hp.length_le
        have h2 := HLE.out 9 (by omega)
        simp at h1 ⊢; omega
      have hmap : (pre ++ [r]).map txt = pre.map txt ++ [txt r] := by simp
      have HMAP := Lib.hid hmap
      clear hmap hp
      generalize pre.map txt = ys at *
      generalize txt r = s at *
      have c3 : W.cell? ⟨w1.heap.size + 1, 0, none⟩ = some o := k1.cell 0
      have hl1 := k1.lt
      have hnw := one_new W (.string s) 9
      have hzw := hB1.size
      gi_wp2_with (gi_at_builtin; refine held ?_)
      unfold Held
      refine appIn_str rfl (.tmp 19) (.tmp 21) rfl (W1.heap.size + 5) o ys s ⟨W.heap.size, 0, none⟩ 1 (by rfl) (by rfl) (own_keep k2 ((Below.refl _ _).alloc (Nat.le_refl _) _)) hnw (by omega) (by simp; omega) ?_
      intro o' W3 hown3 hgrow3
      have j1 : At W3 (w1.heap.size + 1) 36 #[o] := at_grown' (k1.alloc (.cells #[.string s] 9)) hgrow3 (own_box_ne' k2 k1 (by decide))
      have d1 := j1.cell 0
      have d2 := j1.frozen 0
      have hge := own_block_ge k2
      have hK3 : KeepsFrom W1.heap.size W W3 := by
        refine ⟨Nat.le_trans (by simp) hgrow3.size, fun x ob hx1 hx2 hx3 => ?_⟩
        have hx4 := (Array.getElem?_eq_some_iff.1 hx2).1
        refine (hgrow3.block x (by simp; omega) (fun e => ?_)).trans ((Below.heap_alloc _ _ _ hx4).trans hx2)
        rcases k2.2 with ⟨rfl, _⟩ | ⟨g, cap, cur, rfl, _, hh, _⟩
        · cases e
        · cases e
          rw [hh] at hx2
          cases hx2
          cases hx3
      have hI3 : KeepsIn (W1.heap.size + 2) 3 W W3 := by
        refine ⟨Nat.le_trans (by simp) hgrow3.size, fun x hx1 hx2 => ?_⟩
        refine (hgrow3.block x (by simp; omega) (fun e => ?_)).trans (Below.heap_alloc _ _ _ (by omega))
        have := hge x e.symm
        omega
      have hSP3 : Spots W3 bs nx := k3.of_at fun t' cs h => at_grown' (h.alloc (.cells #[.string s] 9)) hgrow3 (fun e => by have := hge bs e.symm; omega)
      have hB3 : Below w.heap.size w W3 := (k4.alloc k4.size _).trans (below_grown hgrow3 (by have := k4.size; simp; omega) (fun g e => by have := hge g e; omega))
      have hne3 := own_box_ne' hown3 j1 (by decide)
      have hpn : (ys ++ [s]).length = ys.length + 1 := by simp
      rw [hpn] at hown3
      obtain ⟨A3, cap3, rfl, _⟩ := Rd.of_own hown3
      have m1 : At (W3.setCell ⟨w1.heap.size + 1, 0, none⟩ (.slice A3 (ys.length + 1) cap3)) (w1.heap.size + 1) 36 #[.slice A3 (ys.length + 1) cap3] := j1.set 0 _
      have mS : Spots (W3.setCell ⟨w1.heap.size + 1, 0, none⟩ (.slice A3 (ys.length + 1) cap3)) bs nx := hSP3.of_at fun t' cs h => h.far (by show bs ≠ w1.heap.size + 1; omega) _
      clear hnw c3 k1 k2 k3 k4 hgrow3 hge hSP3
      gi_wp2
      refine ⟨hK3.trans ((KeepsOthers.setCell _ _ _).from _), ⟨by simp [World.size_setCell]; exact hI3.size, fun x hx1 hx2 => (heap_setCell_other _ _ _ _ (by simp; omega)).trans (hI3.same x hx1 hx2)⟩, _, m1, ?_, mS, hB3.setCell (by simp; omega) _⟩
      rw [HMAP.out, hpn]
      exact hown3.kept (grownBy_setCell' W3 (w1.heap.size + 1) _) (.inr hne3.symm)
    case done =>
      intro D W hD hI hd
      obtain ⟨o, k1, k2, k3, k4⟩ := hI
      have c3 : W.cell? ⟨w1.heap.size + 1, 0, none⟩ = some o := k1.cell 0
      have hown := own_more k2 (show w.heap.size ≤ W1.heap.size + 5 by have := hB1.size; omega)
      have hzw := hB1.size
      clear k1 k2 k3
      gi_wp2
      refine ⟨by simp, .inl ⟨D, _, rfl, run_takeDeferred hd, ?_⟩⟩
      have hW2 : (W.putObj D (.deferred none)).ownsRow w.heap.size 9 1 o (ringsB xs).length (tcells (ringsB xs)) := by
        rw [HS.out, HRT.out]
        exact own_turn' hown (grownBy_putObj' W D _) (fun r e => by cases e; exact ⟨_, hd, rfl⟩)
      have hR : ∀ tmps : Array Value, tmps.getD 2 undef = o → tmps.getD 3 undef = .bool true → (results Try.f27 tmps).run Try.prog (W.putObj D (.deferred none)) = .ok (.tuple #[o, .bool true]) (W.putObj D (.deferred none)) := fun tmps h2 h3 => by
        have h2' : tmps[2]?.getD undef = o := by simpa using h2
        have h3' : tmps[3]?.getD undef = .bool true := by simpa using h3
        simp [results, Try.results27, h2', h3']
      exact ⟨_, hR _ rfl rfl, _, by rw [HM.out], hW2, k4.trans ⟨rfl, rfl, rfl, by simp [World.putObj], fun k hk => World.putObj_heap_other (by have := k4.size; omega)⟩⟩
    case stop =>
      intro _ _ _ _ _ _ hf
      exact hf.elim
  · have hm0 : mvalid xs = false := by simpa [mvalid] using h1
    have HM := Lib.hid hm0
    have HS := Lib.hid (show ringsB xs = [] from if_neg (by rw [hm0]; decide))
    have HT := Lib.hid (tableOf_no xs h1 v w hx)
    clear h1 hx hm0
    go_enter Try.func27, Try.ntmps27
    go_wp2_with fail
    refine HT.out.mono ?_
    rintro e w1 ⟨rfl, hb1⟩
    have hs1 := hb1.size
    go_wp2
    go_ret2
    exact ⟨_, by rw [HM.out]; rfl, by rw [HS.out]; exact ⟨rfl, .inl ⟨rfl, rfl⟩⟩, by (repeat' (first | (with_reducible exact Below.refl _ _) | (with_reducible assumption) | (with_reducible refine Below.alloc ?_ ?_ _) | (with_reducible refine Below.drew ?_) | (with_reducible refine Below.setCell ?_ ?_ _) | (with_reducible exact Nat.le_refl _) | omega | ((repeat (first | rewrite [World.size_alloc] | rewrite [World.size_setCell] | rewrite [World.size_drew])); omega) | (simp; omega) | (simp; done)))⟩
end Go.Proofs.Ytbgchjjaaelkbaa
namespace Go.PW
open Go.PM
def shut1 (f : Nat → ByteArray) (l : List Nat) : Bool := l.all fun i => decide (rcount f i = 1)
theorem ringsF_mem {nx : Nat → Option Nat} : ∀ k, ∀ l ∈ ringsF nx k, ∃ s, s < k ∧ l = way nx s ∧ onRb nx s = true := by
  intro k
  induction k with
  | zero => intro l h; simp [ringsF] at h
  | succ k ih =>
    intro l h
    by_cases hc : onRb nx k = true ∧ k ∉ (ringsF nx k).flatten
    · rw [ringsF_yes hc.1 hc.2, List.mem_append] at h
      rcases h with h | h
      · obtain ⟨s, h1, h2⟩ := ih l h; exact ⟨s, by omega, h2⟩
      · simp at h; exact ⟨k, by omega, h, hc.1⟩
    · rw [ringsF_no hc] at h
      obtain ⟨s, h1, h2⟩ := ih l h; exact ⟨s, by omega, h2⟩
theorem all_eq {α : Type _} {p q : α → Bool} : ∀ (l : List α), (∀ i ∈ l, p i = q i) → l.all p = l.all q
  | [], _ => rfl
  | a :: l, h => by rw [List.all_cons, List.all_cons, h a (by simp), all_eq l fun i hi => h i (by simp [hi])]
theorem shut_iff {f : Nat → ByteArray} (hf : SV f) {l : List Nat} (hl : l ∈ ringsF (nxT f) 9) : shut f l = shut1 f l := by
  obtain ⟨s, hs, rfl, hon⟩ := ringsF_mem 9 l hl
  unfold shut shut1
  have h : ∀ i ∈ way (nxT f) s, decide (rcount f i ≤ 1) = decide (rcount f i = 1) := fun i hi => by
    rw [decide_eq_decide]; exact ring_one hf (by omega) hon hi
  exact all_eq _ h
theorem closed_take {f : Nat → ByteArray} {l : List Nat} {j : Nat} (hj : j < l.length) : shut1 f (l.take (j + 1)) = (shut1 f (l.take j) && decide (rcount f l[j] = 1)) := by
  unfold shut1
  rw [take_snoc l j hj, List.all_append]; simp
def closedT (f : Nat → ByteArray) (rs : List (List Nat)) : List ByteArray := (rs.filter (shut1 f)).map txt
theorem closedT_yes {f : Nat → ByteArray} {rs : List (List Nat)} {l : List Nat} (h : shut1 f l = true) : closedT f (rs ++ [l]) = closedT f rs ++ [txt l] := by simp [closedT, h]
theorem closedT_no {f : Nat → ByteArray} {rs : List (List Nat)} {l : List Nat} (h : shut1 f l = false) : closedT f (rs ++ [l]) = closedT f rs := by simp [closedT, h]
theorem closedT_len {f : Nat → ByteArray} (rs : List (List Nat)) : (closedT f rs).length ≤ rs.length := by
  unfold closedT; rw [List.length_map]; exact List.length_filter_le _ _
def closedB (xs : List Mv) : List ByteArray := if mvalid xs then closedT (tabOf xs) (ringsF (nxT (tabOf xs)) 9) else []
theorem closedB_len (xs : List Mv) : (closedB xs).length ≤ 1000 := by
  unfold closedB
  by_cases h : mvalid xs = true
  · rw [if_pos h]
    have h1 := (ringsF_lt (nice (SV_tab (by simpa [mvalid] using h))) 9 (by omega)).2.1
    have h2 := closedT_len (f := tabOf xs) (ringsF (nxT (tabOf xs)) 9)
    omega
  · rw [if_neg h]; simp
end Go.PW
namespace Go.Proofs.Ytbgchjjaaelkbaa
open Go.RowKit Go.PM Go.PW Go.Lib

theorem app_strL {ops : Array Oper} {rest : List Oper} {o : Oper} {a : Act} {Q : Exit → Act → World → Prop} {w : World} (hgd : o.guard = none) (s x : Operand)
    (ho : o.op = .call { callee := .builtin .append, args := #[s, x], argTypes := #[36, 36] })
    (base : Nat) (v : Value) (ys : List ByteArray) (m : ByteArray) (ad : Addr) (c : Nat) (hs : a.eval s = v) (hx : a.eval x = .slice (some ad) 1 c)
    (hown : w.ownsRow base 9 1 v ys.length (tcells ys)) (hnew : ∀ j u, [Value.string m][j]? = some u → w.cell? (ad.add j) = some u)
    (hlen : ys.length ≤ 1048576) (hbase : base ≤ w.heap.size)
    (h : ∀ v' w', w'.ownsRow base 9 1 v' (ys ++ [m]).length (tcells (ys ++ [m])) → w.grownBy w' v.ownBlock → (∀ g, v'.ownBlock = some g → v.ownBlock = some g ∨ g = w.heap.size) → wpList Try.prog ops Q rest (a.put o.dst v') w') : wpList Try.prog ops Q (o :: rest) a w := by
  obtain ⟨i0, hi0, hz0, hz1, hz2⟩ := info_parts infoStr
  refine wpList_append_lies w hgd s x _ ho base 9 i0 _ 1 16 Try.underlying36 hi0 hz0 hz1 hz2 rfl (by omega) v ys.length (tcells ys) hs hown ad 1 c [Value.string m] hx rfl hnew
    (by intro u hu; simp at hu; subst hu; rfl) (by omega) (by simp only [maxLen]; omega) (by omega) hbase _ rfl ?_
  intro g cap w' h2 h3 h4 _
  refine h _ w' ?_ h3 (fun g' e => by cases e; exact h4)
  rw [tcells_append, List.length_append]
  simpa [tcells] using h2
set_option maxRecDepth 100000 in
set_option maxHeartbeats 1600000 in
theorem l3Closed_c (xs : List Mv) (h1 : MV xs) (v : Value) (w : World) (hx : RdM w v xs) :
    Calls Try.prog 83 #[v] w fun e w' => ∃ v', e = .returned v' ∧ w'.ownsRow w.heap.size 9 1 v' (closedT (tabOf xs) (ringsF (nxT (tabOf xs)) 9)).length (tcells (closedT (tabOf xs) (ringsF (nxT (tabOf xs)) 9))) ∧ Below w.heap.size w w' := by
  have hf := SV_tab h1
  have hn := nice hf
  have HL := Lib.hid (fun W (hW : RdM W v xs) => l3Rings_c xs h1 v W hW)
  have HX := Lib.hid (fun W (hW : Below w.heap.size w W) => hx.below hW)
  have HRD := Lib.hid (fun W (hW : RdM W v xs) (i : Nat) => show Calls Try.prog 129 #[v, .string (sn i)] W fun e w' => e = .returned (.string (namesW (rdH (tabOf xs) (sn i)))) ∧ Below W.heap.size W w' from by
    have := l1Readers_c xs v (sn i) W hW
    rwa [rsH_rdH h1] at this)
  have HRC : Hid (∀ i, rcount (tabOf xs) i = (namesW (rdH (tabOf xs) (sn i))).size) := fun _ => rfl
  have hE := World.ownsRow_lit (e := 9) (base := w.heap.size) (size := 1) w #[] 0 (Nat.le_refl _) (Nat.zero_le _) rfl
  have hlt9 := ringsF_lt hn 9 (by omega)
  have HWL : Hid (∀ l ∈ ringsF (nxT (tabOf xs)) 9, l.length ≤ 19) := fun l hl => by
    obtain ⟨s, hs, rfl, _⟩ := ringsF_mem 9 l hl
    exact (way_rho hn (by omega)).len
  have HRT : Hid (ringsT (nxT (tabOf xs)) 9 = (ringsF (nxT (tabOf xs)) 9).map txt) := rfl
  clear hf hn
  generalize tabOf xs = f at *
  generalize hrs : ringsF (nxT f) 9 = rs at *
  generalize ringsT (nxT f) 9 = rt at *
  go_enter Try.func83, Try.ntmps83
  go_wp2_with fail
  refine (HL.out _ (HX.out _ ((Below.refl _ _).alloc (Nat.le_refl _) _))).mono ?_
  rintro e w1 ⟨v', rfl, ho, hb1⟩
  have hb1w : Below w.heap.size w w1 := ((Below.refl _ _).alloc (Nat.le_refl _) _).trans (hb1.mono (by simp))
  have hE1 := own_keep hE hb1
  have hge : ∀ g, v'.ownBlock = some g → w.heap.size + 1 ≤ g := fun g e => by have := own_block_ge ho g e; simpa using this
  have hs1 := hb1w.size
  have hr1 : RdT w1 v' rt := Rd.of_own ho
  rw [HRT.out] at hr1
  obtain ⟨A, cap, rfl, hn1, hc1, hcell⟩ := hr1.open
  have hcel : ∀ k (hk : k < rs.length), ∃ b off, A = some ⟨b, off, none⟩ ∧ b < w1.heap.size ∧ w1.cell? ⟨b, off + k, none⟩ = some (.string (txt rs[k])) := fun k hk => by
    have := hcell k (by simpa using hk)
    simpa using this
  rw [List.length_map] at hn1 hc1
  have HBG : Hid (∀ b off, A = some ⟨b, off, none⟩ → rs.length ≠ 0 → w.heap.size + 1 ≤ b) := fun b off e hne => by
    rcases ho.2 with ⟨h0, _⟩ | ⟨g, cap', cur, h0, _⟩
    · injection h0 with e1 _ _
      rw [e1] at e; cases e
    · injection h0 with e1 _ _
      rw [e1] at e
      cases e
      exact hge _ (by rw [e1]; rfl)
  clear hr1 ho hb1 hcell hge
  have hlen : (rs.map txt).length = rs.length := List.length_map ..
  rw [hlen]
  go_wp2
  go_loopw [3, 5, 6, 7, 12] (fun o _ _ _ i wr => ∃ (k : Nat), k ≤ rs.length ∧ i = .int .i64 k ∧ wr.ownsRow w.heap.size 9 1 o (closedT f (rs.take k)).length (tcells (closedT f (rs.take k))) ∧ Hid (∀ g, o.ownBlock = some g → g < w.heap.size + 1 ∨ w1.heap.size ≤ g) ∧ Below w.heap.size w wr ∧ KeepsNew (w.heap.size + 1) w1 wr) (fun _ _ _ _ i _ => rs.length - (RowKit.intOf i).toNat)
  case atStart => exact ⟨0, by omega, rfl, hE1, (fun g e => by cases e; exact .inl (Nat.lt_succ_self _)), hb1w, KeepsNew.refl _ _⟩
  case round =>
    obtain ⟨k, hk, rfl, ho, HOB, hbw, hkn⟩ := hrel
    have hbs := hkn.size
    have hbws := hbw.size
    by_cases hlt : k < rs.length
    · obtain ⟨b, off, rfl, hbl, hc⟩ := hcel k hlt
      have hbge := HBG.out b off rfl (by omega)
      have hbl2 : b < wr.heap.size := by omega
      have hd : wr.cell? ⟨b, off + k, none⟩ = some (.string (txt rs[k])) := by
        rw [← hc]; unfold World.cell?; rw [hkn.same b hbge hbl]
      have hl19 := HWL.out rs[k] (List.getElem_mem hlt)
      have hlt19 : ∀ i ∈ rs[k], i < 19 := fun i hi => hlt9.1 i (List.mem_flatten.2 ⟨rs[k], List.getElem_mem hlt, hi⟩)
      have hle := closedT_len (f := f) (rs.take k)
      rw [List.length_take] at hle
      have hrl : rs.length ≤ 9 := hlt9.2.1
      have HY := Lib.hid (fun (h : shut1 f rs[k] = true) => closedT_yes (f := f) (rs := rs.take k) (l := rs[k]) h)
      have HN := Lib.hid (fun (h : shut1 f rs[k] = false) => closedT_no (f := f) (rs := rs.take k) (l := rs[k]) h)
      have HTK := Lib.hid (take_snoc rs k hlt)
      clear hc hcel
      generalize rs[k] = r at *
      have htz := txt_size r
      have hcz : (txt r).size = r.length := htz
      have HEX : Hid (∀ j (hj : j < r.length), (txt r).extract j (j + 1) = sn r[j]) := fun j hj => by
        rw [extract_one _ _ (by rw [hcz]; exact hj), txt_list, List.getD_eq_getElem?_getD, List.getElem?_map, List.getElem?_eq_getElem hj]; rfl
      have HCT := Lib.hid (fun j (hj : j < r.length) => closed_take (f := f) (l := r) (j := j) hj)
      have HALL : Hid (r.take r.length = r) := List.take_length
      generalize htr : txt r = t at *
      have HTR := Lib.hid htr
      clear htr
      go_wp2
      rename World => wo
      go_loopw [6, 7, 18] (fun cl _ i W => ∃ (j : Nat), j ≤ r.length ∧ i = .int .i64 j ∧ cl = .bool (shut1 f (r.take j)) ∧ Below wo.heap.size wo W) (fun _ _ i _ => r.length - (RowKit.intOf i).toNat)
      case atStart => exact ⟨0, by omega, rfl, rfl, Below.refl _ _⟩
      case round =>
        obtain ⟨j, hj, rfl, rfl, hbi⟩ := hrel
        have hbis := hbi.size
        have hbiw := hbw.trans (hbi.mono hbws)
        have hbiws := hbiw.size
        by_cases hjl : j < r.length
        · have hex := HEX.out j hjl
          have hct := HCT.out j hjl
          rcases Bool.eq_false_or_eq_true (shut1 f (r.take j)) with hsh | hsh
          · have hxr := HX.out _ hbiw
            have hrd := HRD.out _ hxr r[j]
            have hrc := HRC.out r[j]
            rw [hsh, Bool.true_and] at hct
            generalize namesW (rdH f (sn r[j])) = q at *
            have HRX := Lib.hid hrd
            have HC2 := Lib.hid hct
            have HR2 := Lib.hid hrc
            clear hrd hct hrc hxr
            rw [hsh]
            generalize sn r[j] = sr at *
            by_cases hq : q.size = 1
            · have hqq : ((q.size : Int) == 1) = true := by rw [hq]; rfl
              have HF : Hid (shut1 f (r.take (j + 1)) = true) := by show _ = _; rw [HC2.out, HR2.out]; simpa using hq
              clear hq hsh
              go_wp2_with fail
              refine HRX.out.mono ?_
              rintro e w4 ⟨rfl, hb4⟩
              have hbi4 := hbi.trans (hb4.mono hbis)
              clear hb4
              go_wp2
              go_roundw
              case rel => exact ⟨j + 1, by omega, by go_num, by rw [HF.out], hbi4⟩
              case measure => simp [RowKit.intOf]; omega
            · have hqq : ((q.size : Int) == 1) = false := by simp; omega
              have HF : Hid (shut1 f (r.take (j + 1)) = false) := by show _ = _; rw [HC2.out, HR2.out]; simpa using hq
              clear hq hsh
              go_wp2_with fail
              refine HRX.out.mono ?_
              rintro e w4 ⟨rfl, hb4⟩
              have hbi4 := hbi.trans (hb4.mono hbis)
              clear hb4
              go_wp2
              go_roundw
              case rel => exact ⟨j + 1, by omega, by go_num, by rw [HF.out], hbi4⟩
              case measure => simp [RowKit.intOf]; omega
          · rw [hsh, Bool.false_and] at hct
            have HF := Lib.hid hct
            clear hct
            rw [hsh]
            clear hsh
            go_wp2
            go_roundw
            case rel => exact ⟨j + 1, by omega, by go_num, by rw [HF.out], hbi⟩
            case measure => simp [RowKit.intOf]; omega
        · have hj' : j = r.length := by omega
          subst hj'
          rw [HALL.out]
          have hb5 := hbw.trans (hbi.mono hbws)
          have hk5 : KeepsNew (w.heap.size + 1) w1 wr := hkn.trans (KeepsNew.below hbi)
          have hk5s := hk5.size
          have ho5 := own_keep ho hbi
          rcases Bool.eq_false_or_eq_true (shut1 f r) with hsh | hsh
          · have hyy := HY.out hsh
            rw [← HTK.out] at hyy
            have HF := Lib.hid hyy
            rw [hsh]
            have hnw := one_new wr (.string t) 9
            have hown0 := own_keep ho5 ((Below.refl _ _).alloc (Nat.le_refl _) (.cells #[.string t] 9))
            clear hyy hsh
            go_wp2_with (at_builtin; refine app_strL rfl (.tmp 35) (.tmp 37) rfl w.heap.size u3 (closedT f (rs.take k)) t ⟨wr.heap.size, 0, none⟩ 1 (by rfl) (by rfl) hown0 hnw (by omega) (by simp; omega) ?_; intro v' w3 hown3 hgrow3 hlies3)
            have hb3 := below_grown hgrow3 (B := w.heap.size) (by have := hb5.size; simp; omega) (own_block_ge ho5)
            have hk6 : KeepsNew (w.heap.size + 1) w1 w3 := ⟨by have := hgrow3.size; simp at this; omega, fun x hx1 hx2 => by
              rw [hgrow3.block x (by simp; omega) (fun e => by have := HOB.out x e.symm; omega), Below.heap_alloc _ _ _ (by omega)]
              exact hk5.same x hx1 hx2⟩
            have HOB3 : Hid (∀ g, Value.ownBlock v' = some g → g < w.heap.size + 1 ∨ w1.heap.size ≤ g) := fun g e => by
              rcases hlies3 g e with h | h
              · exact HOB.out g h
              · right; simp at h; omega
            clear hlies3
            go_roundw
            case rel =>
              refine ⟨k + 1, by omega, by go_num, ?_, HOB3, (hb5.alloc hb5.size _).trans hb3, hk6⟩
              rw [HF.out]; exact hown3
            case measure => simp [RowKit.intOf]; omega
          · have hnn := HN.out hsh
            rw [← HTK.out] at hnn
            have HF := Lib.hid hnn
            rw [hsh]
            clear hnn hsh
            go_wp2
            go_roundw
            case rel => exact ⟨k + 1, by omega, by go_num, by rw [HF.out]; exact ho5, HOB, hb5, hk5⟩
            case measure => simp [RowKit.intOf]; omega
    · have hk' : k = rs.length := by omega
      have ho2 := ho
      rw [hk', List.take_of_length_le (Nat.le_refl _)] at ho2
      clear hk' ho
      go_wp2
      go_ret
      exact ⟨_, rfl, ho2, hbw⟩

theorem spClosedRings_c (xs : List Mv) (v : Value) (w : World) (hx : RdM w v xs) (hz : ∀ m ∈ xs, m.1.size ≤ 9223372036854775807 ∧ m.2.size ≤ 9223372036854775807) (hn' : xs.length ≤ 1048576) :
    Calls Try.prog 30 #[v] w fun e w' => ∃ v', e = .returned (.tuple #[v', .bool (mvalid xs)]) ∧ w'.ownsRow w.heap.size 9 1 v' (closedB xs).length (tcells (closedB xs)) ∧ Below w.heap.size w w' := by
  rcases Bool.eq_false_or_eq_true (mvalid xs) with h1 | h1
  · rw [h1, show closedB xs = closedT (tabOf xs) (ringsF (nxT (tabOf xs)) 9) from if_pos h1]
    have HL := Lib.hid (fun W (hW : RdM W v xs) => l3Closed_c xs (by simpa [mvalid] using h1) v W hW)
    go_enter Try.func30, Try.ntmps30
    go_wp2_with fail
    refine (spMovesValid_c xs v _ hx hz hn').mono ?_
    rintro e w1 ⟨he, hb1⟩
    rw [h1] at he
    subst he
    have hs1 := hb1.size
    go_wp2_with fail
    refine (HL.out _ (hx.below hb1)).mono ?_
    rintro e w2 ⟨v', rfl, ho, hb2⟩
    have ho2 := own_more ho hs1
    go_wp2
    go_ret2
    exact ⟨_, rfl, ho2, hb1.trans (hb2.mono hs1)⟩
  · rw [h1, show closedB xs = [] from if_neg (by rw [h1]; decide)]
    go_enter Try.func30, Try.ntmps30
    go_wp2_with fail
    refine (spMovesValid_c xs v _ hx hz hn').mono ?_
    rintro e w1 ⟨he, hb1⟩
    rw [h1] at he
    subst he
    have hs1 := hb1.size
    have hE := World.ownsRow_lit (e := 9) (base := w.heap.size) (size := 1) w1 #[] 0 hs1 (Nat.zero_le _) rfl
    go_wp2
    go_ret2
    exact ⟨_, rfl, hE, by (repeat' (first | (with_reducible exact Below.refl _ _) | (with_reducible assumption) | (with_reducible refine Below.alloc ?_ ?_ _) | (with_reducible refine Below.drew ?_) | (with_reducible refine Below.setCell ?_ ?_ _) | (with_reducible exact Nat.le_refl _) | omega | ((repeat (first | rewrite [World.size_alloc] | rewrite [World.size_setCell] | rewrite [World.size_drew])); omega) | (simp; omega) | (simp; done)))⟩
end Go.Proofs.Ytbgchjjaaelkbaa
namespace Go.PM
section
variable {F : Fence} {n : Nat} {P : Program} {b : Frame} {a : Act} {k : List Item} {cs : List Frame} {w : World} {Q : Exit → Act → World → Prop}
theorem stepR_scope {c : Code} : step P (lone (b.atR a (.code (.scope c) :: k)) cs w) = .next (lone (b.atR a (.code c :: .inScope c :: k)) cs w) :=
  step_lone_go (by simp [stepG, stepG.exec, Frame.atR])
theorem stepR_inScope {c : Code} : step P (lone (b.atR a (.inScope c :: k)) cs w) = .next (lone (b.atR a k) cs w) :=
  step_lone_go (by simp [stepG, stepG.exec, Frame.atR])
/-- a scope through which the run goes without a goto, inside a fence -/
theorem wpIn_scope {c : Code} (h : c.wpIn F n P (Exit.noGoto Q) a w) : (Code.scope c).wpIn F n P Q a w := by
  intro b k cs hro hb hr
  have h0 : (lone (b.atR a (.code (.scope c) :: k)) cs w).fenced P F := fenced_calm hb hr rfl
  obtain ⟨e, a₁, w₁, hq, harr⟩ := h b (.inScope c :: k) cs hro hb hr
  cases e with
  | normal => exact ⟨.normal, a₁, w₁, hq, .head h0 stepR_scope (StepsIn.trans harr (.one (fenced_calm hb hr rfl) stepR_inScope))⟩
  | exit id' =>
    have hx : exitTo id' (.inScope c :: k) = exitTo id' k := by simp [exitTo]
    exact ⟨.exit id', a₁, w₁, hq, fun k' hk => .head h0 stepR_scope (harr.1 k' (by rw [hx]; exact hk)),
      fun hr' hk => let ⟨k₁, h1, h2⟩ := harr.2 hr' (by rw [hx]; exact hk); ⟨k₁, h1, .head h0 stepR_scope h2⟩⟩
  | goto l => exact hq.elim
  | ret => exact ⟨_, a₁, w₁, hq, .of_steps (.one h0 stepR_scope) harr⟩
  | panic ch => exact ⟨_, a₁, w₁, hq, .of_steps (.one h0 stepR_scope) harr⟩
  | outgrown => exact ⟨_, a₁, w₁, hq, .of_steps (.one h0 stepR_scope) harr⟩
end
end Go.PM
namespace Go.PW
open Go.RowKit Go.PM
def closedS (f : Nat → ByteArray) (rs : List (List Nat)) : List ByteArray := (rs.filter (shut f)).map txt
theorem closedS_yes {f : Nat → ByteArray} {rs : List (List Nat)} {l : List Nat} (h : shut f l = true) : closedS f (rs ++ [l]) = closedS f rs ++ [txt l] := by simp [closedS, h]
theorem closedS_no {f : Nat → ByteArray} {rs : List (List Nat)} {l : List Nat} (h : shut f l = false) : closedS f (rs ++ [l]) = closedS f rs := by simp [closedS, h]
theorem closedS_len {f : Nat → ByteArray} (rs : List (List Nat)) : (closedS f rs).length ≤ rs.length := by
  unfold closedS; rw [List.length_map]; exact List.length_filter_le _ _
theorem closedS_T {f : Nat → ByteArray} (hf : SV f) : closedS f (ringsF (nxT f) 9) = closedT f (ringsF (nxT f) 9) := by
  unfold closedS closedT
  congr 1
  exact List.filter_congr fun l hl => shut_iff hf hl
theorem shut_take {f : Nat → ByteArray} {l : List Nat} {j : Nat} (hj : j < l.length) : shut f (l.take (j + 1)) = (shut f (l.take j) && decide (rcount f l[j] ≤ 1)) := by
  unfold shut
  rw [take_snoc l j hj, List.all_append]; simp
theorem shut_bad {f : Nat → ByteArray} {l : List Nat} {j : Nat} (hj : j < l.length) (h : ¬ rcount f l[j] ≤ 1) : shut f l = false := by
  unfold shut
  rw [List.all_eq_false]
  exact ⟨l[j], List.getElem_mem hj, by simpa using h⟩
end Go.PW
namespace Go.Proofs.Ytbgchjjaaelkbaa
open Go.RowKit Go.PM Go.PW Go.Lib
attribute [local go_sem] Oper.semAt_some

set_option maxRecDepth 100000 in
set_option maxHeartbeats 2000000 in
theorem imClosedRings_c (xs : List Mv) (v : Value) (w : World) (hx : RdM w v xs) :
    Calls Try.prog 28 #[v] w fun e w' => ∃ v', e = .returned (.tuple #[v', .bool (mvalid xs)]) ∧ w'.ownsRow w.heap.size 9 1 v' (closedB xs).length (tcells (closedB xs)) ∧ Below w.heap.size w w' := by
  by_cases h1 : MV xs
  · have HT := Lib.hid (tableOf_yes xs h1 v w hx)
    have hm1 : mvalid xs = true := by simpa [mvalid] using h1
    have HM := Lib.hid hm1
    have HS := Lib.hid (show closedB xs = closedS (tabOf xs) (ringsF (nxT (tabOf xs)) 9) by rw [closedB, if_pos hm1, closedS_T (SV_tab h1)])
    have hlt9 := ringsF_lt (nice (SV_tab h1)) 9 (by omega)
    have HRC : Hid (∀ i, rcount (tabOf xs) i = (namesW (rdH (tabOf xs) (sn i))).size) := fun _ => rfl
    have hn := nice (SV_tab h1)
    have HSP := Lib.hid (fun W => spotsOf_c (tabOf xs) (SV_tab h1) W)
    have HLE := Lib.hid (fun k (hk : k ≤ 9) => (ringsF_lt hn k hk).2.1)
    clear h1 hx hm1
    generalize nxT (tabOf xs) = nx at *
    generalize tabOf xs = t at *
    refine (callsIn_wide (n := 5)).1 ?_
    refine callsIn_of_wp_marks Try.func28 rfl trivial ?_ rfl
    simp only [Try.ntmps28, List.size_toArray, List.length_cons, List.length_nil, Nat.reduceAdd, Nat.reduceSub, Array.replicate_succ, Array.replicate_zero, List.push_toArray, List.append_toArray, List.nil_append, List.cons_append]
    gi_wp2_with fail
    refine wpIn_scope ?_
    gi_wp2_with fail
    refine ⟨trivial, callsIn_wide.2 (HT.out.mono ?_)⟩
    rintro e w1 ⟨rfl, hb1⟩
    have hs1 := hb1.size
    gi_wp2
    obtain ⟨W0, hW0⟩ : ∃ W0 : World, W0 = (w1.alloc (.cells (tabA t) 73)).alloc (.cells #[.slice none 0 0] 36) := ⟨_, rfl⟩
    have hS0 : W0.heap.size = w1.heap.size + 2 := by rw [hW0]; simp only [World.size_alloc]
    have hB0 : Below w.heap.size w W0 := by rw [hW0]; (repeat' (first | (with_reducible exact Below.refl _ _) | (with_reducible assumption) | (with_reducible refine Below.alloc ?_ ?_ _) | (with_reducible refine Below.drew ?_) | (with_reducible refine Below.setCell ?_ ?_ _) | (with_reducible exact Nat.le_refl _) | omega | ((repeat (first | rewrite [World.size_alloc] | rewrite [World.size_setCell] | rewrite [World.size_drew])); omega) | (simp; omega) | (simp; done)))
    have hA0 : At W0 (w1.heap.size + 1) 36 #[.slice none 0 0] := by
      rw [hW0]; have := At.new (w1.alloc (.cells (tabA t) 73)) 36 #[.slice none 0 0]
      rwa [World.size_alloc] at this
    have hT0 : At W0 w1.heap.size 73 (tabA t) := by rw [hW0]; exact (At.new _ _ _).alloc _
    refine wpIn_label ?_
    gi_wp2_with fail
    refine ⟨trivial, callsIn_wide.2 ?_⟩
    rw [← hW0]
    clear hW0
    refine (HSP.out W0).mono ?_
    rintro e W1 ⟨⟨bs, rfl, hbs, hSW⟩, hb2⟩
    have hA1 := hA0.keep hb2
    have hT1 := hT0.keep hb2
    have hB1 : Below w.heap.size w W1 := hB0.trans (hb2.mono hB0.size)
    have hS1 := hb2.size
    have hbl := hSW.lt
    clear hA0 hb2 hB0
    gi_wp2
    refine range_law5 (F := Fence.wide) (gf := 80) (lf := #[.pointer (some ⟨bs, 0, none⟩)]) (lb := #[]) rfl (by decide) rfl trivial (fun args w => rfl) (encs := fun r : List Nat => #[.string (txt r)]) (xs := ringsF nx 9) (κ := 3)
      (rings_iter bs nx hn) (fun _ => rfl)
      (fun pre W => ∃ o, At W (w1.heap.size + 1) 36 #[o] ∧ W.ownsRow (W1.heap.size + 5) 9 1 o (closedS t pre).length (tcells (closedS t pre)) ∧ Spots W bs nx ∧ Below w.heap.size w W ∧ At W w1.heap.size 73 (tabA t))
      (fun _ _ _ => False) ?pr ?iw ?own (fun _ => ownFrom_pure _ _) ?start ?a1 ?assign ?body ?done ?stop
    case pr => rintro pre A ⟨o, _, _, h, _, _⟩; exact h
    case iw =>
      rintro pre A A' r ⟨o, k1, k2, k3, k4, k5⟩ hr1 hr2 hg
      have hge := own_block_ge k2
      refine ⟨o, at_grown' k1 hg (fun e => by cases e; omega), own_grown k2 hg (.inl fun e => ?_), k3.of_at fun t' cs h => at_grown' h hg (fun e => by cases e; omega), k4.trans (below_grown hg k4.size (fun g e => by cases e; have := hB1.size; omega)), at_grown' k5 hg (fun e => by cases e; omega)⟩
      have := hge r e; omega
    case own =>
      rintro s A A' row ⟨o, k1, k2, k3, k4, k5⟩ hg hr
      exact ⟨o, at_turn' k1 hg (fun r e => (hr r e).2), own_turn' k2 hg (fun r e => (hr r e).2), k3.of_at fun t' cs h => at_turn' h hg (fun r e => (hr r e).2), k4.trans (below_grown hg k4.size (fun g e => by have := (hr g e).1; have := hB1.size; omega)), at_turn' k5 hg (fun r e => (hr r e).2)⟩
    case start => exact ⟨_, hA1, ⟨rfl, .inl ⟨rfl, rfl⟩⟩, hSW, hB1, hT1⟩
    case assign =>
      intro l p W Kc hK
      gi_wp2
      exact hK
    case body =>
      rintro l pre r W ⟨o, k1, k2, k3, k4, k5⟩ hp hsz
      have hrmem : r ∈ ringsF nx 9 := hp.mem (by simp)
      have hlt19 : ∀ i ∈ r, i < 19 := fun i hi => hlt9.1 i (List.mem_flatten.2 ⟨r, hrmem, hi⟩)
      have hlen : (closedS t pre).length ≤ 9 := by
        have h1 := hp.length_le
        have h2 := hlt9.2.1
        have h3 := closedS_len (f := t) pre
        simp at h1; omega
      have hrl : r.length ≤ 171 := by
        have h2 := hlt9.2.2
        obtain ⟨a, b, hab⟩ := List.append_of_mem hrmem
        rw [hab] at h2
        simp only [List.flatten_append, List.flatten_cons, List.length_append] at h2
        omega
      have HYES := Lib.hid (fun (h : shut t r = true) => closedS_yes (rs := pre) h)
      have HNO := Lib.hid (fun (h : shut t r = false) => closedS_no (rs := pre) h)
      have HST := Lib.hid (fun j (hj : j < r.length) => shut_take (f := t) hj)
      have HBAD := Lib.hid (fun j (hj : j < r.length) => shut_bad (f := t) hj)
      have HALL : Hid (r.take r.length = r) := List.take_length
      have htz := txt_size r
      have HEX : Hid (∀ j (hj : j < r.length), (txt r).extract j (j + 1) = sn r[j]) := fun j hj => by
        rw [extract_one _ _ (by rw [htz]; exact hj), txt_list, List.getD_eq_getElem?_getD, List.getElem?_map, List.getElem?_eq_getElem hj]; rfl
      clear hp hrmem
      generalize txt r = s at *
      gi_wp2
      gi_loopw [8, 22] (fun _ i A => ∃ (j : Nat), j ≤ r.length ∧ i = .int .i64 j ∧ Hid (shut t (r.take j) = true) ∧ Below W.heap.size W A) (fun _ i _ => r.length - (RowKit.intOf i).toNat)
      case atStart => exact ⟨0, by omega, rfl, rfl, Below.refl _ _⟩
      case round =>
        obtain ⟨j, hj, rfl, hsh, hbA⟩ := hrel
        have hbAs := hbA.size
        rename World => A
        have m1 := k1.keep hbA
        have m2 := own_keep k2 hbA
        have m3 := k3.below hbA
        have m4 := k4.trans (hbA.mono k4.size)
        have m5 := k5.keep hbA
        by_cases hjl : j < r.length
        · have hex := HEX.out j hjl
          have hrd := fun W' => readers_c t (sn r[j]) W'
          have hrc := HRC.out r[j]
          have hst := HST.out j hjl
          have hbad := HBAD.out j hjl
          rw [hsh.out, Bool.true_and] at hst
          generalize namesW (rdH t (sn r[j])) = q at *
          generalize sn r[j] = sr at *
          generalize rcount t r[j] = rc at *
          have HRX := Lib.hid hrd
          have hC := At.ext (W := A.drew) (B := A.heap.size) m5 m5.lt
          have hR : ∀ x : Ext A.heap.size A.drew, Calls Try.prog 81 #[tabX t, .string sr] x.val fun e w' => e = .returned (.string q) ∧ Below x.val.heap.size x.val w' := fun x => hrd x.val
          have i0 : (0 : Int) ≤ (j : Int) := by omega
          have i1 : (j : Int) < r.length := by omega
          have HST2 := Lib.hid hst
          have HBAD2 := Lib.hid hbad
          have HRC2 := Lib.hid hrc
          clear hst hbad hrc hrd
          gi_wp2
          refine region_quiet_inRound (F := Fence.wide) (C := fun w' => ∃ x : Ext A.heap.size A.drew, w' = x.val) rfl (by kernel_rfl) (by kernel_rfl) (by kernel_rfl) ⟨⟨_, Below.refl _ _⟩, rfl⟩ ?_
          simp only
          refine rowIn_step rfl 73 (.tmp 4) rfl w1.heap.size 73 (tabA t) (by rfl) hC 9 9 Try.underlying73 (by kernel_rfl) ?_
          simp only [Act.put, List.setIfInBounds_toArray, List.set_cons_succ, List.set_cons_zero]
          gi_big_quiet_step (fail)
          gi_big_quiet_step (fail)
          gi_big_quiet_step (fail)
          gi_big_quiet_step (fail)
          gi_big_quiet_step (fail)
          (refine BigFrame.wpQuietIn_want (fun _ _ _ _ => trivial) rfl (fun K hK => ?_); gi_big_quiet_op; refine ⟨_, fun _ => callsIn_wide.2 (ext_call _ (Nat.le_refl _) (hR _)), hK _ ?_⟩; clear hK K)
          gi_big_quiet_step (fail)
          gi_big_quiet_step (fail)
          refine wpQuietIn_nil ?_
          rintro A2 ⟨xw, rfl⟩
          have hb2 : Below A.heap.size A xw.val := ((Below.refl _ _).drew).trans xw.property
          clear hC hR
          generalize xw.val = A2 at *
          by_cases hq : q.size ≤ 1
          · have hq2 : ¬ (1 : Int) < (q.size : Int) := by omega
            have hsh2 : Hid (shut t (r.take (j + 1)) = true) := by show _ = _; rw [HST2.out, HRC2.out]; simpa using hq
            have hbA2 := hbA.trans (hb2.mono hbAs)
            clear m1 m2 m3 m4 m5 hq
            gi_wp2
            go_roundw
            case rel => exact ⟨j + 1, by omega, by go_num, hsh2, hbA2⟩
            case measure => simp [RowKit.intOf]; omega
          · have hq2 : (1 : Int) < (q.size : Int) := by omega
            have hbd := HBAD2.out (by rw [HRC2.out]; exact hq)
            have hno := HNO.out hbd
            have HF := Lib.hid hno
            have hbA2 := hbA.trans (hb2.mono hbAs)
            have n1 := m1.keep hb2
            have n2 := own_keep m2 hb2
            have n3 := m3.below hb2
            have n4 := m4.trans (hb2.mono m4.size)
            have n5 := m5.keep hb2
            clear m1 m2 m3 m4 m5 hq hbd hno k1 k2 k3 k4 k5
            gi_wp2
            exact ⟨keepsFrom_below hbA2, (KeepsNew.below (B := W1.heap.size + 2) hbA2).toIn (Nat.le_refl _) (by omega), _, n1, by rw [HF.out]; exact n2, n3, n4, n5⟩
        · have hjr : j = r.length := by omega
          subst hjr
          have hall := hsh.out
          rw [HALL.out] at hall
          have HY := Lib.hid (HYES.out hall)
          clear hall hsh
          have hsA : W1.heap.size + 5 ≤ A.heap.size := by omega
          have c3 : A.cell? ⟨w1.heap.size + 1, 0, none⟩ = some o := m1.cell 0
          have hl1 := m1.lt
          have hnw := one_new A (.string s) 9
          have hzw := hB1.size
          generalize closedS t pre = ys at *
          gi_wp2_with (gi_at_builtin; refine held ?_)
          unfold Held
          refine appIn_str rfl (.tmp 35) (.tmp 37) rfl (W1.heap.size + 5) o ys s ⟨A.heap.size, 0, none⟩ 1 (by rfl) (by rfl) (own_keep m2 ((Below.refl _ _).alloc (Nat.le_refl _) _)) hnw (by omega) (by simp; omega) ?_
          intro o' W3 hown3 hgrow3
          have j1 : At W3 (w1.heap.size + 1) 36 #[o] := at_grown' (m1.alloc (.cells #[.string s] 9)) hgrow3 (own_box_ne' m2 m1 (by decide))
          have d1 := j1.cell 0
          have d2 := j1.frozen 0
          have hge := own_block_ge m2
          have hK3 : KeepsFrom W1.heap.size A W3 := by
            refine ⟨Nat.le_trans (by simp) hgrow3.size, fun x ob hx1 hx2 hx3 => ?_⟩
            have hx4 := (Array.getElem?_eq_some_iff.1 hx2).1
            refine (hgrow3.block x (by simp; omega) (fun e => ?_)).trans ((Below.heap_alloc _ _ _ hx4).trans hx2)
            rcases m2.2 with ⟨rfl, _⟩ | ⟨g, cap, cur, rfl, _, hh, _⟩
            · cases e
            · cases e
              rw [hh] at hx2
              cases hx2
              cases hx3
          have hI3 : KeepsIn (W1.heap.size + 2) 3 A W3 := by
            refine ⟨Nat.le_trans (by simp) hgrow3.size, fun x hx1 hx2 => ?_⟩
            refine (hgrow3.block x (by simp; omega) (fun e => ?_)).trans (Below.heap_alloc _ _ _ (by omega))
            have := hge x e.symm
            omega
          have hKA : KeepsFrom W1.heap.size W W3 := (keepsFrom_below hbA).trans hK3
          have hIA : KeepsIn (W1.heap.size + 2) 3 W W3 := ⟨Nat.le_trans hbAs hI3.size, fun x hx1 hx2 => (hI3.same x hx1 hx2).trans (hbA.block x (by omega))⟩
          have hSP3 : Spots W3 bs nx := m3.of_at fun t' cs h => at_grown' (h.alloc (.cells #[.string s] 9)) hgrow3 (fun e => by have := hge bs e.symm; omega)
          have hT3 : At W3 w1.heap.size 73 (tabA t) := at_grown' (m5.alloc (.cells #[.string s] 9)) hgrow3 (fun e => by have := hge _ e.symm; omega)
          have hB3 : Below w.heap.size w W3 := (m4.alloc m4.size _).trans (below_grown hgrow3 (by have := m4.size; simp; omega) (fun g e => by have := hge g e; omega))
          have hne3 := own_box_ne' hown3 j1 (by decide)
          have hpn : (ys ++ [s]).length = ys.length + 1 := by simp
          rw [hpn] at hown3
          obtain ⟨A3, cap3, rfl, _⟩ := Rd.of_own hown3
          have q1 : At (W3.setCell ⟨w1.heap.size + 1, 0, none⟩ (.slice A3 (ys.length + 1) cap3)) (w1.heap.size + 1) 36 #[.slice A3 (ys.length + 1) cap3] := j1.set 0 _
          have qS : Spots (W3.setCell ⟨w1.heap.size + 1, 0, none⟩ (.slice A3 (ys.length + 1) cap3)) bs nx := hSP3.of_at fun t' cs h => h.far (by show bs ≠ w1.heap.size + 1; omega) _
          have qT := hT3.far (p := ⟨w1.heap.size + 1, 0, none⟩) (by show w1.heap.size ≠ w1.heap.size + 1; omega) (.slice A3 (ys.length + 1) cap3)
          clear hnw c3 k1 k2 k3 k4 k5 m1 m2 m3 m4 m5 hgrow3 hge hSP3 hK3 hI3
          gi_wp2
          refine ⟨hKA.trans ((KeepsOthers.setCell _ _ _).from _), ⟨by simp [World.size_setCell]; exact hIA.size, fun x hx1 hx2 => (heap_setCell_other _ _ _ _ (by simp; omega)).trans (hIA.same x hx1 hx2)⟩, _, q1, ?_, qS, hB3.setCell (by simp; omega) _, qT⟩
          rw [HY.out, hpn]
          exact hown3.kept (grownBy_setCell' W3 (w1.heap.size + 1) _) (.inr hne3.symm)
    case done =>
      intro D W hD hI hd
      obtain ⟨o, k1, k2, k3, k4, k5⟩ := hI
      have c3 : W.cell? ⟨w1.heap.size + 1, 0, none⟩ = some o := k1.cell 0
      have hown := own_more k2 (show w.heap.size ≤ W1.heap.size + 5 by have := hB1.size; omega)
      have hzw := hB1.size
      clear k1 k2 k3 k5
      gi_wp2
      refine ⟨by simp, .inl ⟨D, _, rfl, run_takeDeferred hd, ?_⟩⟩
      have hW2 : (W.putObj D (.deferred none)).ownsRow w.heap.size 9 1 o (closedB xs).length (tcells (closedB xs)) := by
        rw [HS.out]
        exact own_turn' hown (grownBy_putObj' W D _) (fun r e => by cases e; exact ⟨_, hd, rfl⟩)
      have hR : ∀ tmps : Array Value, tmps.getD 2 undef = o → tmps.getD 3 undef = .bool true → (results Try.f28 tmps).run Try.prog (W.putObj D (.deferred none)) = .ok (.tuple #[o, .bool true]) (W.putObj D (.deferred none)) := fun tmps h2 h3 => by
        have h2' : tmps[2]?.getD undef = o := by simpa using h2
        have h3' : tmps[3]?.getD undef = .bool true := by simpa using h3
        simp [results, Try.results28, h2', h3']
      exact ⟨_, hR _ rfl rfl, _, by rw [HM.out], hW2, k4.trans ⟨rfl, rfl, rfl, by simp [World.putObj], fun k hk => World.putObj_heap_other (by have := k4.size; omega)⟩⟩
    case stop =>
      intro _ _ _ _ _ _ hf
      exact hf.elim
  · have hm0 : mvalid xs = false := by simpa [mvalid] using h1
    have HM := Lib.hid hm0
    have HS := Lib.hid (show closedB xs = [] from if_neg (by rw [hm0]; decide))
    have HT := Lib.hid (tableOf_no xs h1 v w hx)
    clear h1 hx hm0
    go_enter Try.func28, Try.ntmps28
    go_wp2_with fail
    go_step3
    go_wp2_with fail
    refine HT.out.mono ?_
    rintro e w1 ⟨rfl, hb1⟩
    have hs1 := hb1.size
    go_wp2
    rw [Exit.noGoto_ret]
    go_ret2
    exact ⟨_, by rw [HM.out]; rfl, by rw [HS.out]; exact ⟨rfl, .inl ⟨rfl, rfl⟩⟩, by (repeat' (first | (with_reducible exact Below.refl _ _) | (with_reducible assumption) | (with_reducible refine Below.alloc ?_ ?_ _) | (with_reducible refine Below.drew ?_) | (with_reducible refine Below.setCell ?_ ?_ _) | (with_reducible exact Nat.le_refl _) | omega | ((repeat (first | rewrite [World.size_alloc] | rewrite [World.size_setCell] | rewrite [World.size_drew])); omega) | (simp; omega) | (simp; done)))⟩
end Go.Proofs.Ytbgchjjaaelkbaa
namespace Go.PW
open Go.PM Go.RowKit
variable {nx : Nat → Option Nat}
theorem ringsF_in (hn : Nice nx) {q : Nat} (hq : q < 9) (hr : onRb nx q = true) : ∀ k, q < k → q ∈ (ringsF nx k).flatten := by
  intro k
  induction k with
  | zero => intro h; omega
  | succ k ih =>
    intro h
    by_cases hc : onRb nx k = true ∧ k ∉ (ringsF nx k).flatten
    · rw [ringsF_yes hc.1 hc.2, List.flatten_append, List.mem_append]
      rcases Nat.lt_or_ge q k with h1 | h1
      · exact .inl (ih h1)
      · right
        have : q = k := by omega
        subst this
        obtain ⟨l, hl⟩ := way_first nx q hn (by omega)
        simp [hl]
    · rw [ringsF_no hc]
      rcases Nat.lt_or_ge q k with h1 | h1
      · exact ih h1
      · have : q = k := by omega
        subst this
        exact Classical.not_not.1 fun hm => hc ⟨hr, hm⟩
theorem ringsF_mem2 : ∀ k, ∀ l ∈ ringsF nx k, ∃ s, s < k ∧ l = way nx s ∧ onRb nx s = true ∧ s ∉ (ringsF nx s).flatten := by
  intro k
  induction k with
  | zero => intro l h; simp [ringsF] at h
  | succ k ih =>
    intro l h
    by_cases hc : onRb nx k = true ∧ k ∉ (ringsF nx k).flatten
    · rw [ringsF_yes hc.1 hc.2, List.mem_append] at h
      rcases h with h | h
      · obtain ⟨s, h1, h2⟩ := ih l h; exact ⟨s, by omega, h2⟩
      · simp at h; exact ⟨k, by omega, h, hc⟩
    · rw [ringsF_no hc] at h
      obtain ⟨s, h1, h2⟩ := ih l h; exact ⟨s, by omega, h2⟩
theorem ring_next (hn : Nice nx) {s : Nat} (hs : s < 19) (hr : onRb nx s = true) {x y : Nat} (hx : x ∈ way nx s) (h : nx x = some y) : y ∈ way nx s := by
  have ho := way_rho hn hs
  have e := ho.onR.1 ((onRb_iff hn hs).1 hr)
  obtain ⟨j, hj⟩ := List.getElem?_of_mem hx
  have hjl := (List.getElem?_eq_some_iff.1 hj).1
  rw [ho.at_ j hjl] at hj
  have h2 : orb nx s (j + 1) = some y := by simp only [orb, hj, Option.bind_some]; exact h
  by_cases hl : j + 1 < (way nx s).length
  · rw [ho.some_ hl] at h2
    rw [← Option.some.inj h2]; exact List.getElem_mem hl
  · rw [show j + 1 = (way nx s).length by omega, e] at h2
    obtain rfl := Option.some.inj h2
    exact List.mem_of_getElem? (ho.at_ 0 ho.pos)
theorem ring_orb (hn : Nice nx) {s : Nat} (hs : s < 19) (hr : onRb nx s = true) {x : Nat} (hx : x ∈ way nx s) : ∀ k y, orb nx x k = some y → y ∈ way nx s := by
  intro k
  induction k with
  | zero => intro y h; simp only [orb, Option.some.injEq] at h; rw [← h]; exact hx
  | succ k ih =>
    intro y h
    simp only [orb, Option.bind_eq_some_iff] at h
    obtain ⟨z, h1, h2⟩ := h
    exact ring_next hn hs hr (ih z h1) h2
theorem ring_back (hn : Nice nx) {s : Nat} (hs : s < 19) (hr : onRb nx s = true) {x : Nat} (hx : x ∈ way nx s) : ∃ k, orb nx x k = some s := by
  have ho := way_rho hn hs
  have e := ho.onR.1 ((onRb_iff hn hs).1 hr)
  obtain ⟨j, hj⟩ := List.getElem?_of_mem hx
  have hjl := (List.getElem?_eq_some_iff.1 hj).1
  rw [ho.at_ j hjl] at hj
  refine ⟨(way nx s).length - j, ?_⟩
  have := orb_add (nx := nx) s j ((way nx s).length - j)
  rw [show j + ((way nx s).length - j) = (way nx s).length by omega, e, hj] at this
  exact this.symm
/-- the first place of a ring is its least -/
theorem ring_min (hn : Nice nx) {s : Nat} (hs : s < 9) (hr : onRb nx s = true) (hf : s ∉ (ringsF nx s).flatten) : ∀ q ∈ way nx s, s ≤ q := by
  intro q hq
  rcases Nat.lt_or_ge q s with hlt | hge
  · exfalso
    have hoq := ring_all hn (by omega) ((onRb_iff hn (by omega)).1 hr) q hq
    have hrq := (onRb_iff hn (show q < 19 by omega)).2 hoq
    have h1 := ringsF_in hn (by omega) hrq s hlt
    obtain ⟨l, hl, hql⟩ := List.mem_flatten.1 h1
    obtain ⟨s', hs', rfl, hr', _⟩ := ringsF_mem2 s l hl
    obtain ⟨k, hk⟩ := ring_back hn (show s < 19 by omega) hr hq
    have := ring_orb hn (show s' < 19 by omega) hr' hql k s hk
    exact hf (List.mem_flatten.2 ⟨_, hl, this⟩)
  · exact hge
theorem ringsF_sorted (hn : Nice nx) : ∀ k, k ≤ 9 → (ringsF nx k).Pairwise (fun a b => ∀ x y, a.head? = some x → b.head? = some y → x < y) := by
  intro k
  induction k with
  | zero => intro _; simp [ringsF]
  | succ k ih =>
    intro hk
    by_cases hc : onRb nx k = true ∧ k ∉ (ringsF nx k).flatten
    · rw [ringsF_yes hc.1 hc.2, List.pairwise_append]
      refine ⟨ih (by omega), by simp, fun a ha b hb x y hx hy => ?_⟩
      simp at hb
      subst hb
      obtain ⟨l, hl⟩ := way_first nx k hn (by omega)
      rw [hl] at hy
      simp at hy
      obtain ⟨s, hs, rfl, _⟩ := ringsF_mem2 k a ha
      obtain ⟨l2, hl2⟩ := way_first nx s hn (by omega)
      rw [hl2] at hx
      simp at hx
      omega
    · rw [ringsF_no hc]; exact ih (by omega)
theorem filter_at {α : Type _} (p : α → Bool) : ∀ (l : List α) (n : Nat) (h : n < l.length), p l[n] = true → (l.filter p)[((l.take n).filter p).length]? = some l[n]
  | [], n, h, _ => by simp at h
  | a :: l, 0, _, hp => by
    have hp : p a = true := hp
    simp [hp]
  | a :: l, n + 1, h, hp => by
    have h' : n < l.length := by simpa using h
    have hp : p l[n] = true := hp
    have ih := filter_at p l n h' hp
    by_cases ha : p a = true
    · simp [ha]; exact ih
    · simp [ha]; exact ih
/-- what there is to say of a ring -/
structure RingR (f : Nat → ByteArray) (r : List Nat) : Prop where
  two : 2 ≤ r.length
  le : r.length ≤ 19
  low : ∀ i (h : i < r.length), r[i] < 9
  next : ∀ i (h : i < r.length), sx f r[i] = r[(i + 1) % r.length]'(Nat.mod_lt _ (by omega))
  dep : ∀ i (h : i < r.length), depN (nxT f) r[i] = 0
  min : ∀ i (h : i < r.length), r[0]'(by omega) ≤ r[i]
theorem ringR (f : Nat → ByteArray) (hf : SV f) {r : List Nat} (h : r ∈ ringsF (nxT f) 9) : RingR f r := by
  obtain ⟨s, hs, rfl, hr, hfr⟩ := ringsF_mem2 9 r h
  have hn := nice hf
  have hs19 : s < 19 := by omega
  have ho := way_rho hn hs19
  obtain ⟨i0, h1, h2, h3⟩ := ring_last hf hs19
  obtain ⟨h4, h5, h6⟩ := h3.1 hr
  have hall := ring_all hn hs19 ((onRb_iff hn hs19).1 hr)
  have h0 := wb_zero hf hs19 ho.pos
  refine ⟨h4, ho.len, fun i hi => ring_low hn (hall _ (List.getElem_mem hi)), fun i hi => ?_, fun i hi => ?_, fun i hi => ?_⟩
  · by_cases hl : i + 1 < (way (nxT f) s).length
    · rw [(wb_some hf hs19 hl).2]
      congr 1
      exact (Nat.mod_eq_of_lt hl).symm
    · have he : i + 1 = (way (nxT f) s).length := by omega
      have h7 : (way (nxT f) s)[i] = i0 := by
        rw [show (way (nxT f) s).length - 1 = i by omega, List.getElem?_eq_getElem hi] at h1
        exact Option.some.inj h1
      rw [h7, h6]
      have h8 : (i + 1) % (way (nxT f) s).length = 0 := by rw [he, Nat.mod_self]
      simp only [h8]
      exact h0.symm
  · have h7 := hall _ (List.getElem_mem hi)
    have hx := ho.lt _ (List.getElem_mem hi)
    refine (depN_stops hn hx).unique ⟨by omega, fun j hj => by omega, _, rfl, .inr h7⟩
  · rw [h0]; exact ring_min hn hs hr hfr _ (List.getElem_mem hi)
end Go.PW
namespace Go.PM
open Go.RowKit Go.PW
/-- moves that can be done as they stand do themselves -/
theorem ord_run {xs : List Mv} (h : MV xs) (hg : GoodO xs) : ∀ k, k ≤ xs.length → ∀ p, p < 9 → runM (xs.take k) nmT p = if nm p ∈ (xs.take k).map (·.1) then rdS nmT (srcM xs (nm p)) else nmT p := by
  intro k
  induction k with
  | zero => intro _ p _; simp [runM]
  | succ k ih =>
    intro hk p hp
    have hlt : k < xs.length := by omega
    have ih := ih (by omega)
    have hm := h.1 _ (List.getElem_mem hlt)
    unfold mok at hm; rw [Bool.and_eq_true] at hm
    have hP := pidx_spec hm.1
    have hC := cidx_P hm.1
    have hsrc : srcM xs xs[k].1 = xs[k].2 := srcM_of_mem h (List.getElem_mem hlt)
    have hgk := (GoodO_step xs k hlt).1 (GoodO_take hg (k + 1))
    -- what the move reads is as at the start
    have hrd : rdS (runM (xs.take k) nmT) xs[k].2 = rdS nmT xs[k].2 := by
      rcases Bool.eq_false_or_eq_true (isC xs[k].2) with hc | hc
      · rw [rdS_cell hc, rdS_cell hc]
        have hp2 : isP xs[k].2 = true := by
          have hs := hm.2
          unfold isS at hs
          rw [Bool.or_eq_true] at hs
          rcases hs with hs | hs
          · exact hs
          · rw [isD_notC hs] at hc; cases hc
        have hq := cidx_P hp2
        rw [ih _ hq.2.1, hq.2.2]
        split
        · next hin =>
          obtain ⟨x, hx, ex⟩ := List.mem_map.1 hin
          have hnb := hgk.2 x hx
          have hx2 : x.2 = xs[k].2 := Classical.not_not.1 fun hne => hnb ⟨ex, hne, (isP_cases hp2).1⟩
          have hxs : srcM xs x.1 = x.2 := srcM_of_mem h (List.mem_of_mem_take hx)
          have ex' : x.1 = xs[k].2 := ex
          rw [ex'] at hxs
          rw [hxs, hx2, rdS_cell hc]
        · rfl
      · rw [rdS_digit hc, rdS_digit hc]
    have hrun : runM (xs.take (k + 1)) nmT = updS (runM (xs.take k) nmT) (cidx xs[k].1) (rdS (runM (xs.take k) nmT) xs[k].2) := by
      unfold runM
      rw [take_snoc xs k hlt, List.foldl_append]; rfl
    rw [hrun, hrd]
    have hkeys : nm p ∈ (xs.take (k + 1)).map (·.1) ↔ nm p ∈ (xs.take k).map (·.1) ∨ nm p = xs[k].1 := by
      rw [take_snoc xs k hlt, List.map_append, List.mem_append]; simp
    by_cases e : nm p = xs[k].1
    · have hpc : cidx xs[k].1 = p := by rw [← e, (cidx_nm hp).2]
      rw [updS, if_pos hpc.symm, if_pos (hkeys.2 (.inr e)), e, hsrc]
    · have hpc : p ≠ cidx xs[k].1 := fun e2 => e (by rw [e2]; exact hC.2.2)
      rw [updS, if_neg hpc, ih p hp]
      by_cases hin : nm p ∈ (xs.take k).map (·.1)
      · rw [if_pos hin, if_pos (hkeys.2 (.inl hin))]
      · rw [if_neg hin, if_neg (fun h2 => (hkeys.1 h2).elim hin e)]
theorem ord_right {xs : List Mv} (h : ordB xs = true) : irB (stL xs) xs = true := by
  unfold ordB at h
  rw [Bool.and_eq_true, decide_eq_true_eq] at h
  have hMV : MV xs := by simpa [mvalid] using h.1
  have hl := MV_len hMV
  refine right_of_run (svalid_stL (by omega) fun m hm => ?_) hMV fun p hp => ?_
  · have := hMV.1 m hm
    unfold mok isS at this
    rw [Bool.and_eq_true, Bool.or_eq_true] at this
    refine ⟨.inl this.1, ?_⟩
    rcases this.2 with h2 | h2
    · exact .inl h2
    · exact .inr (.inl h2)
  · have := ord_run hMV h.2 xs.length (Nat.le_refl _) p hp
    rw [List.take_length] at this
    rw [this]
    split
    · rfl
    · next hn =>
      have : srcM xs (nm p) = nm p := srcM_none hn
      rw [this, rdS_nm nmT hp]
/-- what is taken ahead: no taken move's place is read by a later one -/
theorem takF_facts : ∀ (n : Nat) (ws : List Mv), (ws.map (·.1)).Nodup → (takF n ws).Pairwise (fun x m => x.1 ≠ m.2) ∧ ((takF n ws).map (·.1)).Nodup ∧ (∀ m ∈ takF n ws, m ∈ ws) ∧ (ws.length ≤ n → (takF n ws).length = ws.length → ∀ m ∈ ws, m ∈ takF n ws)
  | 0, ws, _ => by
    refine ⟨List.Pairwise.nil, List.nodup_nil, fun m h => (by cases h), fun h _ m hm => ?_⟩
    have : ws = [] := List.length_eq_zero_iff.1 (by omega)
    rw [this] at hm; cases hm
  | n + 1, ws, hk => by
    cases ha : aheadI ws with
    | none =>
      rw [takF_none ha]
      refine ⟨List.Pairwise.nil, List.nodup_nil, fun m h => (by cases h), fun _ h m hm => ?_⟩
      have : ws = [] := List.length_eq_zero_iff.1 h.symm
      rw [this] at hm; cases hm
    | some i =>
      obtain ⟨hi, hf⟩ := aheadI_some ha
      rw [takF_some hi ha]
      have hk2 : ((ws.eraseIdx i).map (·.1)).Nodup := hk.sublist ((List.eraseIdx_sublist ws i).map _)
      obtain ⟨f1, f2, f3, f4⟩ := takF_facts n (ws.eraseIdx i) hk2
      refine ⟨List.Pairwise.cons (fun m hm e => rdN_zero.1 hf m (erase_mem (f3 m hm)) e.symm) f1, ?_, fun m hm => ?_, fun hl he m hm => ?_⟩
      · rw [List.map_cons, List.nodup_cons]
        refine ⟨fun hmem => ?_, f2⟩
        obtain ⟨x, hx, e⟩ := List.mem_map.1 hmem
        exact erase_key hk hi x (f3 x hx) e
      · rw [List.mem_cons] at hm
        rcases hm with rfl | hm
        · exact List.getElem_mem hi
        · exact erase_mem (f3 m hm)
      · rw [List.length_cons] at he
        have hle : (ws.eraseIdx i).length = ws.length - 1 := List.length_eraseIdx_of_lt hi
        rw [List.mem_cons]
        rcases erase_or hi hm with h2 | h2
        · exact .inl h2
        · exact .inr (f4 (by omega) (by omega) m h2)
theorem busyF_MV {xs : List Mv} (h : MV xs) : MV (busyF xs 9) := by
  have hl : busyF xs 9 = lsF (fun p => srcM xs (nm p)) 9 := rfl
  rw [hl]; exact lsF_MV (SVal_M h)
theorem busyF_mem {xs : List Mv} (h : MV xs) (m : Mv) : m ∈ busyF xs 9 ↔ m ∈ xs ∧ m.1 ≠ m.2 := by
  have hl : busyF xs 9 = lsF (fun p => srcM xs (nm p)) 9 := rfl
  rw [hl]
  constructor
  · intro hm
    obtain ⟨p, _, hne, e⟩ := lsF_mem hm
    rw [e]
    exact ⟨mem_of_srcM hne, fun e => hne e.symm⟩
  · rintro ⟨hm, hne⟩
    have hok := h.1 m hm
    unfold mok at hok; rw [Bool.and_eq_true] at hok
    have hp := pidx_spec hok.1
    have hs := srcM_of_mem h hm
    refine List.mem_map.2 ⟨pidx m.1, List.mem_filter.2 ⟨List.mem_range.2 hp.1, ?_⟩, ?_⟩
    · unfold lsH
      simp only [hp.2, hs, decide_eq_true_eq]
      exact fun e => hne e.symm
    · simp only [hp.2, hs]
theorem wsp_good {xs : List Mv} (h : wspB xs = true) : ordB (wspM xs) = true ∧ sameM (wspM xs) xs = true := by
  have hw : wspM xs = takM xs := by unfold wspM; rw [if_pos h]
  unfold wspB at h
  rw [Bool.and_eq_true, decide_eq_true_eq] at h
  have hMV : MV xs := by simpa [mvalid] using h.1
  have hB := busyF_MV hMV
  obtain ⟨f1, f2, f3, f4⟩ := takF_facts 9 (busyF xs 9) hB.2
  have hT : MV (takM xs) := ⟨fun m hm => hB.1 m (f3 m hm), f2⟩
  rw [hw]
  constructor
  · unfold ordB
    rw [Bool.and_eq_true, decide_eq_true_eq]
    refine ⟨by simpa [mvalid] using hT, List.Pairwise.imp ?_ f1⟩
    intro x m hne hb
    exact hne hb.1
  · have h4 := f4 (busyF_len xs 9) h.2
    have key : ∀ a, srcM (takM xs) a = srcM xs a := fun a => by
      by_cases h0 : srcM (takM xs) a = a
      · by_cases h1 : srcM xs a = a
        · rw [h0, h1]
        · have h3 := mem_of_srcM h1
          exact srcM_of_mem hT (h4 _ ((busyF_mem hMV (a, srcM xs a)).2 ⟨h3, fun e => h1 e.symm⟩))
      · have h3 := f3 _ (mem_of_srcM h0)
        exact (srcM_of_mem hMV ((busyF_mem hMV _).1 h3).1).symm
    unfold sameM
    rw [show mvalid (takM xs) = true by simpa [mvalid] using hT, h.1, Bool.true_and, Bool.true_and, List.all_eq_true]
    intro p _
    unfold sameAt
    rw [key, decide_eq_true rfl]
/-- moves that wait for one another are never taken -/
theorem takF_ring (R : Mv → Prop) : ∀ (n : Nat) (ws : List Mv), (∃ m, R m) → (∀ m, R m → m ∈ ws ∧ ∃ x, R x ∧ x.2 = m.1) → (takF n ws).length < ws.length
  | 0, ws, ⟨m, hm⟩, hR => by
    have := List.length_pos_of_mem (hR m hm).1
    exact this
  | n + 1, ws, hne, hR => by
    cases ha : aheadI ws with
    | none =>
      rw [takF_none ha]
      obtain ⟨m, hm⟩ := hne
      exact List.length_pos_of_mem (hR m hm).1
    | some i =>
      obtain ⟨hi, hf⟩ := aheadI_some ha
      rw [takF_some hi ha, List.length_cons]
      have hz := rdN_zero.1 hf
      have := takF_ring R n (ws.eraseIdx i) hne (fun m hm => by
        obtain ⟨h1, x, hx, ex⟩ := hR m hm
        refine ⟨?_, x, hx, ex⟩
        rcases erase_or hi h1 with e | e
        · exact absurd (by rw [ex, e]) (hz x (hR x hx).1)
        · exact e)
      rw [List.length_eraseIdx_of_lt hi] at this
      omega
/-- where not all are taken, some wait for one another -/
theorem takF_left : ∀ (n : Nat) (ws : List Mv), Wt ws → ws.length ≤ n → (takF n ws).length < ws.length → ∃ vs : List Mv, vs ≠ [] ∧ (∀ m ∈ vs, m ∈ ws) ∧ ∀ m ∈ vs, ∃ x ∈ vs, x.1 = m.2
  | 0, ws, _, hl, h => by omega
  | n + 1, ws, hw, hl, h => by
    cases ha : aheadI ws with
    | none =>
      rw [takF_none ha] at h
      refine ⟨ws, fun e => by rw [e] at h; simp at h, fun m hm => hm, (hw.full ha).2.1⟩
    | some i =>
      obtain ⟨hi, hf⟩ := aheadI_some ha
      rw [takF_some hi ha, List.length_cons] at h
      have hle : (ws.eraseIdx i).length = ws.length - 1 := List.length_eraseIdx_of_lt hi
      obtain ⟨vs, h1, h2, h3⟩ := takF_left n (ws.eraseIdx i) (hw.erase i) (by omega) (by omega)
      exact ⟨vs, h1, fun m hm => erase_mem (h2 m hm), h3⟩
theorem busy_nx {xs : List Mv} (h : MV xs) {m : Mv} (hm : m ∈ busyF xs 9) : nxT (tabOf xs) (pidx m.1) = some (sidx m.2) ∧ isP m.1 = true ∧ m.2 = sn (sidx m.2) ∧ sidx m.2 < 19 := by
  have hB := (busyF_MV h).1 m hm
  unfold mok at hB; rw [Bool.and_eq_true] at hB
  have hp := pidx_spec hB.1
  have hs := sidx_spec hB.2
  have hx := (busyF_mem h m).1 hm
  have hsrc : srcT (tabOf xs) (pidx m.1) = m.2 := by rw [srcM_place h hB.1, srcM_of_mem h hx.1]
  have hsx : sx (tabOf xs) (pidx m.1) = sidx m.2 := by unfold sx; rw [hsrc]
  refine ⟨?_, hB.1, hs.2.symm, hs.1⟩
  rw [nxT_some hp.1 (by rw [hsx]; intro e; apply hx.2; rw [← hp.2, ← hs.2, e, sn_nm _ hp.1]), hsx]
theorem wsp_rings {xs : List Mv} (h : MV xs) : wspB xs = decide (ringsF (nxT (tabOf xs)) 9 = []) := by
  have hf := SV_tab h
  have hn := nice hf
  have hw : wspB xs = decide ((takM xs).length = (busyF xs 9).length) := by
    unfold wspB; rw [show mvalid xs = true by simpa [mvalid] using h]; rfl
  rw [hw, decide_eq_decide]
  constructor
  · intro heq
    refine Classical.byContradiction fun hne => ?_
    obtain ⟨l, hl⟩ := List.exists_mem_of_ne_nil _ hne
    obtain ⟨s, hs9, rfl, hon, _⟩ := ringsF_mem2 9 l hl
    have hs19 : s < 19 := by omega
    have hO := (onRb_iff hn hs19).1 hon
    have hall := ring_all hn hs19 hO
    -- the moves of the ring
    have hmv : ∀ p, p ∈ way (nxT (tabOf xs)) s → p < 9 ∧ (nm p, srcM xs (nm p)) ∈ busyF xs 9 ∧ nxT (tabOf xs) p = some (sx (tabOf xs) p) := fun p hp => by
      have hp9 := ring_low hn (hall p hp)
      have hne2 : sx (tabOf xs) p ≠ p := fun e => by
        obtain ⟨k, hk, ek⟩ := hall p hp
        obtain ⟨k, rfl⟩ : ∃ m, k = m + 1 := ⟨k - 1, by omega⟩
        rw [show k + 1 = 1 + k by omega, orb_add] at ek
        simp only [orb, Option.bind_some, nxT_stay hp9 e] at ek
        cases ek
      refine ⟨hp9, ?_, nxT_some hp9 hne2⟩
      have hsrc : srcM xs (nm p) ≠ nm p := fun e => by
        rw [← srcM_nm h hp9] at e
        exact hne2 ((src_self hf hp9).1 e)
      exact (busyF_mem h _).2 ⟨mem_of_srcM hsrc, fun e => hsrc e.symm⟩
    have := takF_ring (fun m => ∃ p, p ∈ way (nxT (tabOf xs)) s ∧ m = (nm p, srcM xs (nm p))) 9 (busyF xs 9)
      ⟨_, s, List.mem_of_getElem? ((way_rho hn hs19).at_ 0 (way_rho hn hs19).pos), rfl⟩ (by
        rintro m ⟨p, hp, rfl⟩
        refine ⟨(hmv p hp).2.1, ?_⟩
        -- its reader on the ring
        obtain ⟨k, hk, ek⟩ := hall p hp
        obtain ⟨k, rfl⟩ : ∃ m, k = m + 1 := ⟨k - 1, by omega⟩
        have ek' := ek
        simp only [orb, Option.bind_eq_some_iff] at ek'
        obtain ⟨q, hq1, hq2⟩ := ek'
        have hqw := ring_orb hn hs19 hon hp k q hq1
        obtain ⟨hq9, _, hqn⟩ := hmv q hqw
        rw [hqn] at hq2
        have hsxq : sx (tabOf xs) q = p := Option.some.inj hq2
        refine ⟨(nm q, srcM xs (nm q)), ⟨q, hqw, rfl⟩, ?_⟩
        show srcM xs (nm q) = nm p
        rw [← srcM_nm h hq9, ← (sx_lt hf hq9).2, hsxq, sn_nm p (hmv p hp).1])
    unfold takM at heq
    omega
  · intro hr
    refine Classical.byContradiction fun hne => ?_
    have hlt : (takF 9 (busyF xs 9)).length < (busyF xs 9).length := by
      have := takF_len 9 (busyF xs 9)
      unfold takM at hne
      omega
    obtain ⟨vs, hv0, hv1, hv2⟩ := takF_left 9 (busyF xs 9) (busyF_Wt h) (busyF_len xs 9) hlt
    obtain ⟨m0, hm0⟩ := List.exists_mem_of_ne_nil _ hv0
    -- the way from there never ends
    have hway : ∀ k, ∃ m ∈ vs, orb (nxT (tabOf xs)) (pidx m0.1) k = some (pidx m.1) := by
      intro k
      induction k with
      | zero => exact ⟨m0, hm0, rfl⟩
      | succ k ih =>
        obtain ⟨m, hm, e⟩ := ih
        obtain ⟨x, hx, ex⟩ := hv2 m hm
        have hb := busy_nx h (hv1 m hm)
        have hxP := (busy_nx h (hv1 x hx)).2.1
        refine ⟨x, hx, ?_⟩
        simp only [orb, e, Option.bind_some, hb.1]
        rw [ex, Option.some.injEq]
        exact sidx_pidx (by rw [← ex]; exact hxP)
    have hlt9 : ∀ k, k ≤ 9 → ((orb (nxT (tabOf xs)) (pidx m0.1) k).getD 0) < 9 := fun k _ => by
      obtain ⟨m, hm, e⟩ := hway k
      rw [e]
      exact (pidx_spec (busy_nx h (hv1 m hm)).2.1).1
    obtain ⟨i, j, hij, _, e⟩ := pigeon 9 (fun k => (orb (nxT (tabOf xs)) (pidx m0.1) k).getD 0) hlt9
    obtain ⟨mi, hmi, ei⟩ := hway i
    obtain ⟨mj, hmj, ej⟩ := hway j
    simp only [ei, ej, Option.getD_some] at e
    have hq9 := (pidx_spec (busy_nx h (hv1 mi hmi)).2.1).1
    have hon : OnR (nxT (tabOf xs)) (pidx mi.1) := by
      refine ⟨j - i, by omega, ?_⟩
      have := orb_add (nx := nxT (tabOf xs)) (pidx m0.1) i (j - i)
      rw [show i + (j - i) = j by omega, ej, ei] at this
      rw [e]
      simpa [e] using this.symm
    have := ringsF_in hn hq9 ((onRb_iff hn (by omega)).2 hon) 9 hq9
    rw [hr] at this
    cases this
end Go.PM
namespace Go.Proofs.Ytbgchjjaaelkbaa
open Go.RowKit Go.PM
set_option maxRecDepth 100000 in
set_option maxHeartbeats 2000000 in
theorem eq_str (d : Nat) (a b : ByteArray) (W : World) : (Op.equalIn (d + 1) 9 (.string a) (.string b)).run Try.prog W = .ok (a == b) W := by
  simp [Op.equalIn, go_sem]
theorem eq_items (f g : Nat → ByteArray) (W : World) : ∀ is : List Nat, (∀ i ∈ is, i < 9) → (Op.eqItems 9999 9 1 (tabA f) (tabA g) is).run Try.prog W = .ok (is.all fun p => f p == g p) W := by
  intro is
  induction is with
  | nil => intro _; rfl
  | cons i is ih =>
    intro h
    have hi := h i (List.mem_cons_self ..)
    have h1 : (part 9 (tabA f) (i * 1)).run Try.prog W = .ok (.string (f i)) W := run_part_plain (P := Try.prog) W (by kernel_rfl) (by rw [Nat.mul_one]; exact tabC_at f i hi)
    have h2 : (part 9 (tabA g) (i * 1)).run Try.prog W = .ok (.string (g i)) W := run_part_plain (P := Try.prog) W (by kernel_rfl) (by rw [Nat.mul_one]; exact tabC_at g i hi)
    have h3 := eq_str 9998 (f i) (g i) W
    rw [Op.eqItems, Sem.run_bind, h1, Result.andThen_ok, Sem.run_bind, h2, Result.andThen_ok, Sem.run_bind, h3, Result.andThen_ok, List.all_cons]
    cases hb : (f i == g i)
    · rfl
    · rw [if_neg (by decide), ih (fun j hj => h j (List.mem_cons_of_mem _ hj)), Bool.true_and]
theorem eq_tab (f g : Nat → ByteArray) (W : World) : (Op.equal 73 (tabX f) (tabX g)).run Try.prog W = .ok ((List.range 9).all fun p => f p == g p) W := by
  have his : (Try.prog.info? 9).isSome = true := by kernel_rfl
  obtain ⟨i, hi⟩ := Option.isSome_iff_exists.1 his
  have hc : Try.prog.cellsOf 9 = 1 := by kernel_rfl
  have h := run_equalIn_array (P := Try.prog) (w := W) 9999 (t := 73) (e := 9) (n := 9) (tabA f) (tabA g) Try.underlying73 hi
  rw [hc] at h
  exact h.trans (eq_items f g W _ (fun i hi => by simpa using hi))
theorem beq_ba (a b : ByteArray) : (a == b) = decide (a = b) := by
  cases a with | mk a =>
  cases b with | mk b =>
  have h : ((ByteArray.mk a) == (ByteArray.mk b)) = (a == b) := rfl
  rw [h]
  by_cases e : a = b
  · subst e; simp
  · have : ¬ (ByteArray.mk a) = (ByteArray.mk b) := fun x => e (congrArg ByteArray.data x)
    simp [e]
theorem all_beq (f g : Nat → ByteArray) (l : List Nat) : (l.all fun p => f p == g p) = l.all fun p => decide (f p = g p) := by
  have : (fun p => f p == g p) = fun p => decide (f p = g p) := by funext p; exact beq_ba _ _
  rw [this]
end Go.Proofs.Ytbgchjjaaelkbaa
namespace Go.PM
open Go.RowKit
theorem sameM_tab {xs ys : List Mv} (h1 : MV xs) (h2 : MV ys) : sameM xs ys = (List.range 9).all (fun p => decide (mix (tabOf xs) 9 p = mix (tabOf ys) 9 p)) := by
  have m1 : mvalid xs = true := by simpa [mvalid] using h1
  have m2 : mvalid ys = true := by simpa [mvalid] using h2
  rw [sameM, m1, m2, Bool.true_and, Bool.true_and]
  apply Bool.eq_iff_iff.2
  rw [List.all_eq_true, List.all_eq_true]
  have key : ∀ p, p ∈ List.range 9 → sameAt xs ys p = decide (mix (tabOf xs) 9 p = mix (tabOf ys) 9 p) := fun p hp => by
    have hp9 : p < 9 := by simpa using hp
    simp only [sameAt, mix, if_pos hp9]
    rw [srcM_nm h1 hp9, srcM_nm h2 hp9]
  constructor
  · intro h p hp; rw [← key p hp]; exact h p hp
  · intro h p hp; rw [key p hp]; exact h p hp
end Go.PM
namespace Go.Proofs.Ytbgchjjaaelkbaa
open Go.RowKit Go.PM

set_option maxRecDepth 100000 in
set_option maxHeartbeats 2000000 in
theorem same_c (f g : Nat → ByteArray) (w : World) :
    Calls Try.prog 77 #[tabX f, tabX g] w fun e w' => e = .returned (.bool ((List.range 9).all fun p => decide (mix f 9 p = mix g 9 p))) ∧ Below w.heap.size w w' := by
  have hW : ∃ W3 : World, W3 = (w.alloc (.cells (tabA f) 73)).alloc (.cells (tabA g) 73) := ⟨_, rfl⟩
  obtain ⟨W3, hW3⟩ := hW
  have K1 : At W3 w.heap.size 73 (tabA f) := by rw [hW3]; exact (At.new w _ _).alloc _
  have K2 : At W3 (w.heap.size + 1) 73 (tabA g) := by
    rw [hW3]; have := At.new (w.alloc (.cells (tabA f) 73)) 73 (tabA g)
    rwa [World.size_alloc] at this
  have hB3 : Below w.heap.size w W3 := by rw [hW3]; (repeat' (first | (with_reducible exact Below.refl _ _) | (with_reducible assumption) | (with_reducible refine Below.alloc ?_ ?_ _) | (with_reducible refine Below.drew ?_) | (with_reducible refine Below.setCell ?_ ?_ _) | (with_reducible exact Nat.le_refl _) | omega | ((repeat (first | rewrite [World.size_alloc] | rewrite [World.size_setCell] | rewrite [World.size_drew])); omega) | (simp; omega) | (simp; done)))
  have B1 := K1.lt
  have B2 := K2.lt
  have hs3 := hB3.size
  have hc0 : ∀ x : Ext W3.heap.size W3, x.val.cell? ⟨w.heap.size, 0, none⟩ = some (.string (f 0)) := fun x => (x.property.cell (p := ⟨w.heap.size, 0, none⟩) B1).trans (K1.cell 0)
  have hc1 : ∀ x : Ext W3.heap.size W3, x.val.cell? ⟨w.heap.size, 1, none⟩ = some (.string (f 1)) := fun x => (x.property.cell (p := ⟨w.heap.size, 1, none⟩) B1).trans (K1.cell 1)
  have hc2 : ∀ x : Ext W3.heap.size W3, x.val.cell? ⟨w.heap.size, 2, none⟩ = some (.string (f 2)) := fun x => (x.property.cell (p := ⟨w.heap.size, 2, none⟩) B1).trans (K1.cell 2)
  have hc3 : ∀ x : Ext W3.heap.size W3, x.val.cell? ⟨w.heap.size, 3, none⟩ = some (.string (f 3)) := fun x => (x.property.cell (p := ⟨w.heap.size, 3, none⟩) B1).trans (K1.cell 3)
  have hc4 : ∀ x : Ext W3.heap.size W3, x.val.cell? ⟨w.heap.size, 4, none⟩ = some (.string (f 4)) := fun x => (x.property.cell (p := ⟨w.heap.size, 4, none⟩) B1).trans (K1.cell 4)
  have hc5 : ∀ x : Ext W3.heap.size W3, x.val.cell? ⟨w.heap.size, 5, none⟩ = some (.string (f 5)) := fun x => (x.property.cell (p := ⟨w.heap.size, 5, none⟩) B1).trans (K1.cell 5)
  have hc6 : ∀ x : Ext W3.heap.size W3, x.val.cell? ⟨w.heap.size, 6, none⟩ = some (.string (f 6)) := fun x => (x.property.cell (p := ⟨w.heap.size, 6, none⟩) B1).trans (K1.cell 6)
  have hc7 : ∀ x : Ext W3.heap.size W3, x.val.cell? ⟨w.heap.size, 7, none⟩ = some (.string (f 7)) := fun x => (x.property.cell (p := ⟨w.heap.size, 7, none⟩) B1).trans (K1.cell 7)
  have hc8 : ∀ x : Ext W3.heap.size W3, x.val.cell? ⟨w.heap.size, 8, none⟩ = some (.string (f 8)) := fun x => (x.property.cell (p := ⟨w.heap.size, 8, none⟩) B1).trans (K1.cell 8)
  have hd0 : ∀ x : Ext W3.heap.size W3, x.val.cell? ⟨w.heap.size + 1, 0, none⟩ = some (.string (g 0)) := fun x => (x.property.cell (p := ⟨w.heap.size + 1, 0, none⟩) B2).trans (K2.cell 0)
  have hd1 : ∀ x : Ext W3.heap.size W3, x.val.cell? ⟨w.heap.size + 1, 1, none⟩ = some (.string (g 1)) := fun x => (x.property.cell (p := ⟨w.heap.size + 1, 1, none⟩) B2).trans (K2.cell 1)
  have hd2 : ∀ x : Ext W3.heap.size W3, x.val.cell? ⟨w.heap.size + 1, 2, none⟩ = some (.string (g 2)) := fun x => (x.property.cell (p := ⟨w.heap.size + 1, 2, none⟩) B2).trans (K2.cell 2)
  have hd3 : ∀ x : Ext W3.heap.size W3, x.val.cell? ⟨w.heap.size + 1, 3, none⟩ = some (.string (g 3)) := fun x => (x.property.cell (p := ⟨w.heap.size + 1, 3, none⟩) B2).trans (K2.cell 3)
  have hd4 : ∀ x : Ext W3.heap.size W3, x.val.cell? ⟨w.heap.size + 1, 4, none⟩ = some (.string (g 4)) := fun x => (x.property.cell (p := ⟨w.heap.size + 1, 4, none⟩) B2).trans (K2.cell 4)
  have hd5 : ∀ x : Ext W3.heap.size W3, x.val.cell? ⟨w.heap.size + 1, 5, none⟩ = some (.string (g 5)) := fun x => (x.property.cell (p := ⟨w.heap.size + 1, 5, none⟩) B2).trans (K2.cell 5)
  have hd6 : ∀ x : Ext W3.heap.size W3, x.val.cell? ⟨w.heap.size + 1, 6, none⟩ = some (.string (g 6)) := fun x => (x.property.cell (p := ⟨w.heap.size + 1, 6, none⟩) B2).trans (K2.cell 6)
  have hd7 : ∀ x : Ext W3.heap.size W3, x.val.cell? ⟨w.heap.size + 1, 7, none⟩ = some (.string (g 7)) := fun x => (x.property.cell (p := ⟨w.heap.size + 1, 7, none⟩) B2).trans (K2.cell 7)
  have hd8 : ∀ x : Ext W3.heap.size W3, x.val.cell? ⟨w.heap.size + 1, 8, none⟩ = some (.string (g 8)) := fun x => (x.property.cell (p := ⟨w.heap.size + 1, 8, none⟩) B2).trans (K2.cell 8)
  have HSf : ∀ x : Ext W3.heap.size W3, Calls Try.prog 120 #[tabX f] x.val fun e w' => e = .returned (tabX (mix f 9)) ∧ Below x.val.heap.size x.val w' := fun x => sources_c f x.val
  have HSg : ∀ x : Ext W3.heap.size W3, Calls Try.prog 120 #[tabX g] x.val fun e w' => e = .returned (tabX (mix g 9)) ∧ Below x.val.heap.size x.val w' := fun x => sources_c g x.val
  generalize mix f 9 = f9 at *
  generalize mix g 9 = g9 at *
  have hEq : ∀ W, (Op.equalIn 10000 73 (tabX f9) (tabX g9)).run Try.prog W = .ok ((List.range 9).all fun p => decide (f9 p = g9 p)) W := fun W => by rw [← all_beq]; exact eq_tab f9 g9 W
  generalize ((List.range 9).all fun p => decide (f9 p = g9 p)) = r at *
  go_enter Try.func77, Try.ntmps77
  go_wp2
  rw [← hW3]
  refine wp_region_ext W3.heap.size (by kernel_rfl) (by kernel_rfl) ?_
  repeat (go_big_quiet_step ((go_at_call 120; first | (with_reducible exact ext_call _ (Nat.le_refl _) (HSf _)) | (with_reducible exact ext_call _ (Nat.le_refl _) (HSg _)))))
  refine wpQuiet_nil ?_
  intro w4 hw'
  obtain ⟨xw, hxw⟩ := hw'
  have hb4 := xw.property
  rw [← hxw] at hb4
  clear hxw xw
  clear hEq HSf HSg hc0 hd0 hc1 hd1 hc2 hd2 hc3 hd3 hc4 hd4 hc5 hd5 hc6 hd6 hc7 hd7 hc8 hd8
  go_wp2
  go_ret
  exact ⟨rfl, hB3.trans (hb4.mono hs3)⟩

set_option maxRecDepth 100000 in
set_option maxHeartbeats 2000000 in
theorem imSameMoves_c (xs ys : List Mv) (v u : Value) (w : World) (hx : RdM w v xs) (hy : RdM w u ys) :
    Calls Try.prog 23 #[v, u] w fun e w' => e = .returned (.bool (sameM xs ys)) ∧ Below w.heap.size w w' := by
  have HY := Lib.hid (fun W (hW : Below w.heap.size w W) => hy.below hW)
  by_cases h1 : MV xs
  · have HX := Lib.hid (tableOf_yes xs h1 v w hx)
    by_cases h2 : MV ys
    · have HT := Lib.hid (fun W hW => tableOf_yes ys h2 u W hW)
      have HE := Lib.hid (sameM_tab h1 h2)
      clear h1 h2 hx hy
      go_enter Try.func23, Try.ntmps23
      go_wp2_with fail
      refine HX.out.mono ?_
      rintro e w1 ⟨rfl, hb1⟩
      have hs1 := hb1.size
      have hy1 := HY.out _ (hb1.alloc hs1 (.cells (tabA (tabOf xs)) 73))
      go_wp2_with fail
      refine (HT.out _ hy1).mono ?_
      rintro e w2 ⟨rfl, hb2⟩
      have k1 : At (w1.alloc (.cells (tabA (tabOf xs)) 73)) w1.heap.size 73 (tabA (tabOf xs)) := At.new w1 _ _
      have k2 := k1.keep hb2
      have hB2 := (hb1.alloc hs1 (.cells (tabA (tabOf xs)) 73)).trans (hb2.mono (by simp [World.size_alloc]; omega))
      have hs2 := hB2.size
      have hB3 := hB2.alloc hs2 (.cells (tabA (tabOf ys)) 73)
      have hs3 := hB3.size
      clear hb2 k1 hy1
      generalize tabOf xs = f at *
      generalize tabOf ys = g at *
      obtain ⟨r, hr⟩ : ∃ r, r = ((List.range 9).all fun p => decide (mix f 9 p = mix g 9 p)) := ⟨_, rfl⟩
      have HS := Lib.hid (fun W => same_c f g W)
      rw [← hr] at HS HE
      clear hr
      have q0 : w2.cell? ⟨w1.heap.size, 0, none⟩ = some (.string (f 0)) := k2.cell 0
      have q1 : w2.cell? ⟨w1.heap.size, 1, none⟩ = some (.string (f 1)) := k2.cell 1
      have q2 : w2.cell? ⟨w1.heap.size, 2, none⟩ = some (.string (f 2)) := k2.cell 2
      have q3 : w2.cell? ⟨w1.heap.size, 3, none⟩ = some (.string (f 3)) := k2.cell 3
      have q4 : w2.cell? ⟨w1.heap.size, 4, none⟩ = some (.string (f 4)) := k2.cell 4
      have q5 : w2.cell? ⟨w1.heap.size, 5, none⟩ = some (.string (f 5)) := k2.cell 5
      have q6 : w2.cell? ⟨w1.heap.size, 6, none⟩ = some (.string (f 6)) := k2.cell 6
      have q7 : w2.cell? ⟨w1.heap.size, 7, none⟩ = some (.string (f 7)) := k2.cell 7
      have q8 : w2.cell? ⟨w1.heap.size, 8, none⟩ = some (.string (f 8)) := k2.cell 8
      have hl := k2.lt
      go_wp2_with fail
      refine (HS.out _).mono ?_
      rintro e w4 ⟨rfl, hb4⟩
      clear q0 q1 q2 q3 q4 q5 q6 q7 q8
      have HB := Lib.hid (hB3.trans (hb4.mono hs3))
      clear hb4 hB3 hB2
      go_wp2
      go_ret
      exact ⟨by rw [HE.out]; rfl, HB.out⟩
    · have HT := Lib.hid (fun W hW => tableOf_no ys h2 u W hW)
      have HNO : Hid (sameM xs ys = false) := by
        have : mvalid ys = false := by simpa [mvalid] using h2
        show _ = _
        rw [sameM, this, Bool.and_false, Bool.false_and]
      clear h1 h2 hx hy
      go_enter Try.func23, Try.ntmps23
      go_wp2_with fail
      refine HX.out.mono ?_
      rintro e w1 ⟨rfl, hb1⟩
      have hs1 := hb1.size
      have hy1 := HY.out _ (hb1.alloc hs1 (.cells (tabA (tabOf xs)) 73))
      go_wp2_with fail
      refine (HT.out _ hy1).mono ?_
      rintro e w2 ⟨rfl, hb2⟩
      have hB2 := (hb1.alloc hs1 (.cells (tabA (tabOf xs)) 73)).trans (hb2.mono (by simp [World.size_alloc]; omega))
      have hs2 := hB2.size
      clear hb2 hy1
      go_wp2
      go_ret
      exact ⟨by rw [HNO.out]; rfl, by (repeat' (first | (with_reducible exact Below.refl _ _) | (with_reducible assumption) | (with_reducible refine Below.alloc ?_ ?_ _) | (with_reducible refine Below.drew ?_) | (with_reducible refine Below.setCell ?_ ?_ _) | (with_reducible exact Nat.le_refl _) | omega | ((repeat (first | rewrite [World.size_alloc] | rewrite [World.size_setCell] | rewrite [World.size_drew])); omega) | (simp; omega) | (simp; done)))⟩
  · have HNO : Hid (sameM xs ys = false) := by
      have : mvalid xs = false := by simpa [mvalid] using h1
      show _ = _
      rw [sameM, this, Bool.false_and, Bool.false_and]
    have HX := Lib.hid (tableOf_no xs h1 v w hx)
    by_cases h2 : MV ys
    all_goals
      first | (have HT := Lib.hid (fun W hW => tableOf_yes ys h2 u W hW)) | (have HT := Lib.hid (fun W hW => tableOf_no ys h2 u W hW))
      clear h1 h2 hx hy
      go_enter Try.func23, Try.ntmps23
      go_wp2_with fail
      refine HX.out.mono ?_
      rintro e w1 ⟨rfl, hb1⟩
      have hs1 := hb1.size
      have hy1 := HY.out _ (hb1.alloc hs1 (.cells (tabA (fun _ => emp)) 73))
      go_wp2_with fail
      refine (HT.out _ hy1).mono ?_
      rintro e w2 ⟨rfl, hb2⟩
      have hB2 := (hb1.alloc hs1 (.cells (tabA (fun _ => emp)) 73)).trans (hb2.mono (by simp [World.size_alloc]; omega))
      have hs2 := hB2.size
      clear hb2 hy1
      go_wp2
      go_ret
      exact ⟨by rw [HNO.out]; rfl, by (repeat' (first | (with_reducible exact Below.refl _ _) | (with_reducible assumption) | (with_reducible refine Below.alloc ?_ ?_ _) | (with_reducible refine Below.drew ?_) | (with_reducible refine Below.setCell ?_ ?_ _) | (with_reducible exact Nat.le_refl _) | omega | ((repeat (first | rewrite [World.size_alloc] | rewrite [World.size_setCell] | rewrite [World.size_drew])); omega) | (simp; omega) | (simp; done)))⟩
end Go.Proofs.Ytbgchjjaaelkbaa
namespace Go.Proofs.Ytbgchjjaaelkbaa
open Go.RowKit Go.PM

set_option maxRecDepth 100000 in
set_option maxHeartbeats 1000000 in
/-- two moves as values are compared text by text -/
theorem eq_mv (a b c d : ByteArray) (W : World) : (Op.equalIn 10000 33 (.agg #[.string a, .string b]) (.agg #[.string c, .string d])).run Try.prog W = .ok (mvEq a b c d) W := by
  have hs : Try.prog.stoodInHeld 33 = false := by kernel_rfl
  have e1 : (a == c) = decide (a = c) := beq_ba _ _
  have e2 : (b == d) = decide (b = d) := beq_ba _ _
  have q1 := eq_str 9998 a c
  have q2 := eq_str 9998 b d
  rw [Op.equalIn]
  generalize hE : Op.equalIn 9999 = E at *
  simp only [mvEq]
  rw [e1] at q1
  rw [e2] at q2
  clear e1 e2 hE
  by_cases h1 : a = c
  · by_cases h2 : b = d
    · subst h1; subst h2
      simp at q1 q2
      simp [go_sem, hs, q1, q2]
    · subst h1
      simp [h2] at q1 q2
      simp [go_sem, hs, q1, q2, h2]
  · simp [h1] at q1
    simp [go_sem, hs, q1, h1]

set_option maxRecDepth 100000 in
set_option maxHeartbeats 1600000 in
theorem pmSame_c (xs ys : List Mv) (v u : Value) (w : World) (hx : RdM w v xs) (hy : RdM w u ys) :
    Calls Try.prog 22 #[v, u] w fun e w' => e = .returned (.bool (decide (xs = ys))) ∧ Below w.heap.size w w' := by
  obtain ⟨A, cap, rfl, hn, hc, hcell⟩ := hx.open
  obtain ⟨A', cap', rfl, hn', hc', hcell'⟩ := hy.open
  clear hx hy
  rcases Nat.lt_or_ge ys.length xs.length with hle | hle
  · have hm : min (xs.length : Int) (ys.length : Int) = ys.length := by omega
    have HLE := Lib.hid hle
    clear hle
    go_enter Try.func22, Try.ntmps22
    go_wp2
    go_loopw [11] (fun i wr => ∃ (k : Nat), k ≤ ys.length ∧ i = .int .i64 k ∧ Hid (xs.take k = ys.take k) ∧ Below w.heap.size w wr) (fun i _ => ys.length - (intOf i).toNat)
    case atStart => exact ⟨0, by omega, rfl, by show _ = _; simp, Below.refl _ _⟩
    case round =>
      obtain ⟨k, hk, rfl, ht, hb⟩ := hrel
      by_cases hlt : k < ys.length
      · have hlt1 : k < xs.length := by have := HLE.out; omega
        have hlt2 : k < ys.length := by have := HLE.out; omega
        obtain ⟨b, off, rfl, hbl, hc1, hc2⟩ := hcell k hlt1
        obtain ⟨b', off', rfl, hbl', hc1', hc2'⟩ := hcell' k hlt2
        have hd1 := (hb.cell (p := ⟨b, off + k * 2, none⟩) hbl).trans hc1
        have hd2 := (hb.cell (p := ⟨b, off + k * 2 + 1, none⟩) hbl).trans hc2
        have hd3 := (hb.cell (p := ⟨b', off' + k * 2, none⟩) hbl').trans hc1'
        have hd4 := (hb.cell (p := ⟨b', off' + k * 2 + 1, none⟩) hbl').trans hc2'
        clear hc1 hc2 hcell hc1' hc2' hcell'
        have i1 : (k : Int) < (ys.length : Int) := by omega
        go_wp2
        have hx1 : ∀ x : Ext w.heap.size wr, x.val.cell? ⟨b, off + k * 2, none⟩ = some (.string xs[k].1) := fun x => (x.property.cell (p := ⟨b, _, none⟩) hbl).trans hd1
        have hx2 : ∀ x : Ext w.heap.size wr, x.val.cell? ⟨b, off + k * 2 + 1, none⟩ = some (.string xs[k].2) := fun x => (x.property.cell (p := ⟨b, _, none⟩) hbl).trans hd2
        have hx3 : ∀ x : Ext w.heap.size wr, x.val.cell? ⟨b', off' + k * 2, none⟩ = some (.string ys[k].1) := fun x => (x.property.cell (p := ⟨b', _, none⟩) hbl').trans hd3
        have hx4 : ∀ x : Ext w.heap.size wr, x.val.cell? ⟨b', off' + k * 2 + 1, none⟩ = some (.string ys[k].2) := fun x => (x.property.cell (p := ⟨b', _, none⟩) hbl').trans hd4
        clear hd1 hd2 hd3 hd4
        have i0 : (0 : Int) ≤ (k : Int) := by omega
        have i2 : (k : Int) < xs.length := by omega
        have i3 : (k : Int) < ys.length := by omega
        have hE := fun W => eq_mv xs[k].1 xs[k].2 ys[k].1 ys[k].2 W
        refine wp_region_ext w.heap.size (by kernel_rfl) (by kernel_rfl) ?_
        repeat (go_big_quiet_step (fail))
        refine wpQuiet_nil ?_
        intro w2 hw'
        obtain ⟨xw, hxw⟩ := hw'
        have hb2 := xw.property
        rw [← hxw] at hb2
        clear hxw xw
        clear hx1 hx2 hx3 hx4 hE
        go_wp2
        · have h : (!mvEq xs[k].1 xs[k].2 ys[k].1 ys[k].2) = true := by assumption
          go_ret
          refine ⟨?_, hb.trans hb2⟩
          have : ¬ xs = ys := by
            intro e; subst e; simp [mvEq] at h
          simp [this]
        · have h : (!mvEq xs[k].1 xs[k].2 ys[k].1 ys[k].2) = false := by assumption
          go_roundw
          case rel =>
            refine ⟨k + 1, by omega, by go_num, ?_, hb.trans hb2⟩
            show _ = _
            simp [mvEq] at h
            rw [take_snoc xs k hlt1, take_snoc ys k hlt2, ht.out, Prod.ext h.1 h.2]
          case measure => simp [intOf]; omega
      · have hk' : k = ys.length := by omega
        have h2 := ht.out
        have h3 := HLE.out
        rw [hk'] at h2
        have HD : Hid (((xs.length : Int) == (ys.length : Int)) = decide (xs = ys)) := by
          show _ = _
          by_cases he : xs.length = ys.length
          · rw [List.take_of_length_le (by omega), List.take_of_length_le (by omega)] at h2
            rw [h2]; simp
          · have h4 : ¬ xs = ys := fun e => he (by rw [e])
            have h5 : ¬ ((xs.length : Int) = (ys.length : Int)) := by omega
            rw [decide_eq_false h4]
            simpa using h5
        clear h2 h3 ht
        go_wp2
        go_ret
        exact ⟨by rw [← HD.out]; rfl, hb⟩
  · have hm : min (xs.length : Int) (ys.length : Int) = xs.length := by omega
    have HLE := Lib.hid hle
    clear hle
    go_enter Try.func22, Try.ntmps22
    go_wp2
    go_loopw [11] (fun i wr => ∃ (k : Nat), k ≤ xs.length ∧ i = .int .i64 k ∧ Hid (xs.take k = ys.take k) ∧ Below w.heap.size w wr) (fun i _ => xs.length - (intOf i).toNat)
    case atStart => exact ⟨0, by omega, rfl, by show _ = _; simp, Below.refl _ _⟩
    case round =>
      obtain ⟨k, hk, rfl, ht, hb⟩ := hrel
      by_cases hlt : k < xs.length
      · have hlt1 : k < xs.length := by have := HLE.out; omega
        have hlt2 : k < ys.length := by have := HLE.out; omega
        obtain ⟨b, off, rfl, hbl, hc1, hc2⟩ := hcell k hlt1
        obtain ⟨b', off', rfl, hbl', hc1', hc2'⟩ := hcell' k hlt2
        have hd1 := (hb.cell (p := ⟨b, off + k * 2, none⟩) hbl).trans hc1
        have hd2 := (hb.cell (p := ⟨b, off + k * 2 + 1, none⟩) hbl).trans hc2
        have hd3 := (hb.cell (p := ⟨b', off' + k * 2, none⟩) hbl').trans hc1'
        have hd4 := (hb.cell (p := ⟨b', off' + k * 2 + 1, none⟩) hbl').trans hc2'
        clear hc1 hc2 hcell hc1' hc2' hcell'
        have i1 : (k : Int) < (xs.length : Int) := by omega
        go_wp2
        have hx1 : ∀ x : Ext w.heap.size wr, x.val.cell? ⟨b, off + k * 2, none⟩ = some (.string xs[k].1) := fun x => (x.property.cell (p := ⟨b, _, none⟩) hbl).trans hd1
        have hx2 : ∀ x : Ext w.heap.size wr, x.val.cell? ⟨b, off + k * 2 + 1, none⟩ = some (.string xs[k].2) := fun x => (x.property.cell (p := ⟨b, _, none⟩) hbl).trans hd2
        have hx3 : ∀ x : Ext w.heap.size wr, x.val.cell? ⟨b', off' + k * 2, none⟩ = some (.string ys[k].1) := fun x => (x.property.cell (p := ⟨b', _, none⟩) hbl').trans hd3
        have hx4 : ∀ x : Ext w.heap.size wr, x.val.cell? ⟨b', off' + k * 2 + 1, none⟩ = some (.string ys[k].2) := fun x => (x.property.cell (p := ⟨b', _, none⟩) hbl').trans hd4
        clear hd1 hd2 hd3 hd4
        have i0 : (0 : Int) ≤ (k : Int) := by omega
        have i2 : (k : Int) < xs.length := by omega
        have i3 : (k : Int) < ys.length := by omega
        have hE := fun W => eq_mv xs[k].1 xs[k].2 ys[k].1 ys[k].2 W
        refine wp_region_ext w.heap.size (by kernel_rfl) (by kernel_rfl) ?_
        repeat (go_big_quiet_step (fail))
        refine wpQuiet_nil ?_
        intro w2 hw'
        obtain ⟨xw, hxw⟩ := hw'
        have hb2 := xw.property
        rw [← hxw] at hb2
        clear hxw xw
        clear hx1 hx2 hx3 hx4 hE
        go_wp2
        · have h : (!mvEq xs[k].1 xs[k].2 ys[k].1 ys[k].2) = true := by assumption
          go_ret
          refine ⟨?_, hb.trans hb2⟩
          have : ¬ xs = ys := by
            intro e; subst e; simp [mvEq] at h
          simp [this]
        · have h : (!mvEq xs[k].1 xs[k].2 ys[k].1 ys[k].2) = false := by assumption
          go_roundw
          case rel =>
            refine ⟨k + 1, by omega, by go_num, ?_, hb.trans hb2⟩
            show _ = _
            simp [mvEq] at h
            rw [take_snoc xs k hlt1, take_snoc ys k hlt2, ht.out, Prod.ext h.1 h.2]
          case measure => simp [intOf]; omega
      · have hk' : k = xs.length := by omega
        have h2 := ht.out
        have h3 := HLE.out
        rw [hk'] at h2
        have HD : Hid (((xs.length : Int) == (ys.length : Int)) = decide (xs = ys)) := by
          show _ = _
          by_cases he : xs.length = ys.length
          · rw [List.take_of_length_le (by omega), List.take_of_length_le (by omega)] at h2
            rw [h2]; simp
          · have h4 : ¬ xs = ys := fun e => he (by rw [e])
            have h5 : ¬ ((xs.length : Int) = (ys.length : Int)) := by omega
            rw [decide_eq_false h4]
            simpa using h5
        clear h2 h3 ht
        go_wp2
        go_ret
        exact ⟨by rw [← HD.out]; rfl, hb⟩
end Go.Proofs.Ytbgchjjaaelkbaa
namespace Go.PM
open Go.RowKit
open Go.Lib (indexByte)
theorem prsM_MV (t : ByteArray) : MV (prsM t) := by
  unfold prsM
  split
  · exact MV_nil
  · split
    · next h =>
      rw [Bool.and_eq_true] at h
      simpa [mvalid] using h.2
    · exact MV_nil
theorem MV_more {xs : List Mv} {t x2 : ByteArray} {c : UInt8} (h : MV xs) (ht : t.data.toList = tos xs) (hp : isP ⟨#[c]⟩ = true) (hs : isS x2 = true) (hi : indexByte t.data.toList c < 0) :
    MV (xs ++ [(⟨#[c]⟩, x2)]) ∧ (t ++ ⟨#[c]⟩).data.toList = tos (xs ++ [(⟨#[c]⟩, x2)]) := by
  refine ⟨(MV_snoc _ _).2 ⟨h, by unfold mok; rw [hp, hs]; rfl, fun hm => ?_⟩, ?_⟩
  · rw [← tos_mem h, ← ht, ← indexByte_mem] at hm
    omega
  · unfold tos at ht ⊢
    rw [List.flatMap_append, ← ht]
    simp
def strOkV (n : Nat) : Value → Bool
  | .string s => decide (1 ≤ s.size) && decide (s.size ≤ n) && (List.range s.size).all fun J => isS (s.extract J (J + 1))
  | _ => false
theorem Lits.strsV (w : World) (t : TypeId) (cs : Array Value) (n : Nat) (h : cs.toList.all (strOkV n) = true) : Lits (w.alloc (.cells cs t)) w.heap.size cs.size (fun u => ∃ s, u = .string s ∧ 1 ≤ s.size ∧ s.size ≤ n ∧ ∀ J, J < s.size → isS (s.extract J (J + 1)) = true) :=
  Lits.new w t cs _ fun u hu => by
    have h2 := List.all_eq_true.1 h u hu
    unfold strOkV at h2
    split at h2
    · rw [Bool.and_eq_true, Bool.and_eq_true, decide_eq_true_eq, decide_eq_true_eq, List.all_eq_true] at h2
      exact ⟨_, rfl, h2.1.1, h2.1.2, fun J hJ => h2.2 J (List.mem_range.2 hJ)⟩
    · cases h2
end Go.PM
namespace Go.Proofs.Ytbgchjjaaelkbaa
open Go.RowKit Go.PM
open Go.Lib (indexByte)

set_option maxRecDepth 100000 in
set_option maxHeartbeats 1600000 in
theorem l1Known_v (w : World) (k : Nat) (hk : k < 13) :
    Calls Try.prog 143 #[.int .i64 k] w fun e w' => ∃ v xs, e = .returned v ∧ w'.ownsRow w.heap.size 33 2 v xs.length (mcells xs) ∧ MV xs ∧ Below w.heap.size w w' := by
  have H : ∀ (t : ByteArray) (W : World), t.size ≤ 40 → Below w.heap.size w W → Calls Try.prog 150 #[.string t] W fun e w' => ∃ v' b, e = .returned (.tuple #[v', .bool b]) ∧ ∃ xs, w'.ownsRow w.heap.size 33 2 v' xs.length (mcells xs) ∧ MV xs ∧ Below w.heap.size w w' := fun t W ht hb =>
    (spParseMoves_c t W (by omega)).mono fun e w' ⟨v', h1, h2, h3⟩ => ⟨v', _, h1, _, own_more h2 hb.size, prsM_MV _, hb.trans (h3.mono hb.size)⟩
  have HH := Lib.hid H
  clear H
  rcases (show k = 0 ∨ k = 1 ∨ k = 2 ∨ k = 3 ∨ k = 4 ∨ k = 5 ∨ k = 6 ∨ k = 7 ∨ k = 8 ∨ k = 9 ∨ k = 10 ∨ k = 11 ∨ k = 12 by omega) with rfl | rfl | rfl | rfl | rfl | rfl | rfl | rfl | rfl | rfl | rfl | rfl | rfl
  all_goals
    clear hk
    go_enter Try.func143, Try.ntmps143
    go_wp2_with fail
    refine (HH.out _ _ (by decide) ((Below.refl _ _).alloc (Nat.le_refl _) _)).mono ?_
    rintro e w1 ⟨v', b, rfl, xs, h1, h2, h3⟩
    go_wp2
    go_ret
    exact ⟨_, xs, rfl, h1, h2, h3⟩
set_option maxRecDepth 100000 in
set_option maxHeartbeats 1600000 in
theorem l1Draw_v (w : World) (B r : Nat) (p : Int) (hr : Rdr w 130 B r p) (p1 : p ≤ 1000000000) :
    Calls Try.prog 115 #[.pointer (some ⟨r, 0, none⟩)] w fun e w' => ∃ v xs p', e = .returned v ∧ w'.ownsRow w.heap.size 33 2 v xs.length (mcells xs) ∧ MV xs ∧ Rdr w' 130 B r p' ∧ p' ≤ p + 64 ∧ w.grownBy w' (some r) := by
  have hlt : r < w.heap.size := by obtain ⟨_, _, v, n, _, _, h⟩ := hr; exact h.lt
  have HP := Lib.hid (pick_c w B r 3 p hr (by omega) (by omega) (by omega))
  go_enter Try.func115, Try.ntmps115
  go_wp2_with fail
  refine HP.out.mono ?_
  rintro e w1 ⟨k, rfl, k0, k1, R1, g1⟩
  have hs1 := g1.size
  by_cases h0 : k = 0
  · subst h0
    have HP2 := Lib.hid (pick_c w1 B r 13 (p + 1) R1 (by omega) (by omega) (by omega))
    go_wp2_with fail
    refine HP2.out.mono ?_
    rintro e w2 ⟨k2, rfl, k20, k21, R2, g2⟩
    obtain ⟨K, rfl⟩ := Int.eq_ofNat_of_zero_le k20
    have hs2 := g2.size
    go_wp2_with fail
    refine (l1Known_v w2 K (by omega)).mono ?_
    rintro e w3 ⟨v, xs, rfl, ho, hsh, hb⟩
    go_wp2
    go_ret
    exact ⟨_, xs, _, rfl, own_more ho (by omega), hsh, R2.keep hb, by omega, grown_trans (grown_trans g1 g2) (grown_below hb _)⟩
  · have t0 : (k == 0) = false := by simpa using h0
    go_wp2_with fail
    have E0 := World.ownsRow_lit (e := 33) (base := w.heap.size) (size := 2) w1 #[] 0 hs1 (Nat.zero_le _) rfl
    have L5 := Lits.strsV (w1.alloc (.cells #[] 33)) 9 #[.string ⟨#[97, 98, 99, 100]⟩, .string ⟨#[97, 98, 99]⟩, .string ⟨#[97, 98, 65, 66]⟩, .string ⟨#[97, 98, 99, 100, 101, 102, 65, 66, 67]⟩, .string ⟨#[97, 98, 99, 100, 49]⟩] 40 (by decide +kernel)
    rw [World.size_alloc] at L5
    refine (of_c _ B r (w1.heap.size + 1) 5 (p + 1) (fun s => 1 ≤ s.size ∧ s.size ≤ 40 ∧ ∀ J, J < s.size → isS (s.extract J (J + 1)) = true) ((R1.keep ((Below.refl _ _).alloc (Nat.le_refl _) _)).keep ((Below.refl _ _).alloc (Nat.le_refl _) _)) (by decide) (by decide) (by omega) L5 (by omega)).mono ?_
    clear L5
    rintro e w2 ⟨from_, rfl, ⟨hf1, hf2, hf3⟩, R2, g2⟩
    have HF3 := Lib.hid hf3
    clear hf3
    have E1 := own_grown (own_keep E0 ((Below.refl _ _).alloc (Nat.le_refl _) (.cells #[.string ⟨#[97, 98, 99, 100]⟩, .string ⟨#[97, 98, 99]⟩, .string ⟨#[97, 98, 65, 66]⟩, .string ⟨#[97, 98, 99, 100, 101, 102, 65, 66, 67]⟩, .string ⟨#[97, 98, 99, 100, 49]⟩] 9))) g2 (.inl (fun e => by have := own_block_ge E0 r e; omega))
    have G2 := grown_trans g1 (grown_trans (grown_below (((Below.refl _ _).alloc (Nat.le_refl _) (.cells #[] 33)).alloc (by simp) (.cells #[.string ⟨#[97, 98, 99, 100]⟩, .string ⟨#[97, 98, 99]⟩, .string ⟨#[97, 98, 65, 66]⟩, .string ⟨#[97, 98, 99, 100, 101, 102, 65, 66, 67]⟩, .string ⟨#[97, 98, 99, 100, 49]⟩] 9)) (some r)) g2)
    have hs2 := G2.size
    clear E0 g1 g2 R1 HP
    go_wp2_with fail
    refine (num_c _ B r w2.heap.size 6 (p + 1 + 1) (fun x => 0 ≤ x ∧ x ≤ 5) (R2.keep ((Below.refl _ _).alloc (Nat.le_refl _) _)) (by decide) (by decide) (by omega) (Lits.ints w2 3 #[.int .i64 3, .int .i64 4, .int .i64 2, .int .i64 5, .int .i64 1, .int .i64 0] 5 (by rfl)) (by omega)).mono ?_
    rintro e w3 ⟨x, rfl, ⟨hx1, hx2⟩, R3, g3⟩
    obtain ⟨X, rfl⟩ := Int.eq_ofNat_of_zero_le hx1
    have E3 := own_grown (own_keep E1 ((Below.refl _ _).alloc (Nat.le_refl _) _)) g3 (.inl (fun e => by have := own_block_ge E1 r e; omega))
    have G3 := grown_trans G2 (grown_trans (grown_below ((Below.refl _ _).alloc (Nat.le_refl _) _) (some r)) g3)
    have hs3 := G3.size
    clear E1 G2 R2 g3
    go_wp2
    go_loopw [3, 4, 6, 7, 8, 22] (fun o s _ _ _ i wr => ∃ (j : Nat) (xs : List Mv) (t : ByteArray) (q : Int), j ≤ X ∧ i = .int .i64 j ∧ s = .string t ∧ t.size ≤ 64 * j ∧ xs.length ≤ j ∧ Hid (MV xs ∧ t.data.toList = tos xs) ∧ wr.ownsRow w.heap.size 33 2 o xs.length (mcells xs) ∧ Rdr wr 130 B r q ∧ q ≤ p + 3 + 2 * (j : Int) ∧ w.grownBy wr (some r)) (fun _ _ _ _ _ i _ => X - (intOf i).toNat)
    case atStart => exact ⟨0, [], ⟨#[]⟩, _, by omega, rfl, rfl, Nat.zero_le _, Nat.zero_le _, ⟨MV_nil, rfl⟩, E3, R3, by omega, G3⟩
    case round =>
      obtain ⟨j, xs, t, q, hj, rfl, rfl, ht, hxl, hxs, ho, R, hq, G⟩ := hrel
      have hsr := G.size
      by_cases hlt2 : j < X
      · have i1 : (j : Int) < (X : Int) := by omega
        have HP4 := Lib.hid (pick_c wr B r from_.size q R (by omega) (by omega) (by omega))
        go_wp2_with fail
        refine HP4.out.mono ?_
        rintro e w4 ⟨k4, rfl, k40, k41, R4, g4⟩
        obtain ⟨K, rfl⟩ := Int.eq_ofNat_of_zero_le k40
        have ho4 := own_grown ho g4 (.inl (fun e => by have := own_block_ge ho r e; omega))
        have G4 := grown_trans G g4
        have hs4 := G4.size
        clear ho g4 G R HP4
        obtain ⟨c, hcc⟩ := one_of_size (s := from_.extract K (K + 1)) (by rw [ByteArray.size_extract]; omega)
        have HP5 := Lib.hid (pick_c w4 B r from_.size (q + 1) R4 (by omega) (by omega) (by omega))
        go_wp2_with fail
        refine HP5.out.mono ?_
        rintro e w5 ⟨k5, rfl, k50, k51, R5, g5⟩
        obtain ⟨J, rfl⟩ := Int.eq_ofNat_of_zero_le k50
        have ho5 := own_grown ho4 g5 (.inl (fun e => by have := own_block_ge ho4 r e; omega))
        have G5 := grown_trans G4 g5
        have hs5 := G5.size
        clear ho4 g5 G4 R4 HP5
        have HSX : Hid (isS (from_.extract J (J + 1)) = true) := HF3.out J (by omega)
        generalize hx2 : from_.extract J (J + 1) = x2 at *
        have hc1 : (ByteArray.mk #[c]).size = 1 := rfl
        rcases Bool.eq_false_or_eq_true (isP ⟨#[c]⟩) with hp | hp
        · by_cases hfi : indexByte t.data.toList c < 0
          · have t1 : decide (indexByte t.data.toList c < 0) = true := decide_eq_true hfi
            have HXA : Hid (MV (xs ++ [(⟨#[c]⟩, x2)]) ∧ (t ++ ⟨#[c]⟩).data.toList = tos (xs ++ [(⟨#[c]⟩, x2)])) := MV_more hxs.out.1 hxs.out.2 hp HSX.out hfi
            have hnw := two_new w5 (.string ⟨#[c]⟩) (.string x2) 33
            go_wp2_with (first | (go_at_call 76; refine (l1Place_c _ _).mono ?_; rintro e w' ⟨rfl, rfl⟩; rw [hp]) | (go_at_call 119; refine (l13Find_c t c _ (by omega)).mono ?_; rintro e w' ⟨rfl, rfl⟩) | (at_builtin; refine held ?_))
            unfold Held
            refine app_mv rfl (.tmp 46) (.tmp 54) rfl w.heap.size u3 xs (⟨#[c]⟩, x2) ⟨w5.heap.size, 0, none⟩ 1 (by rfl) (by rfl) (own_keep ho5 ((Below.refl _ _).alloc (Nat.le_refl _) _)) hnw (by omega) (by simp; omega) ?_
            intro v' w6 hown6 hgrow6
            have R6 := (R5.keep ((Below.refl _ _).alloc (Nat.le_refl _) (.cells #[.string ⟨#[c]⟩, .string x2] 33))).grow hgrow6 (fun g e => by have := own_block_ge ho5 g e; omega)
            have G6 := grown_over (grown_trans G5 (grown_below ((Below.refl _ _).alloc (Nat.le_refl _) (.cells #[.string ⟨#[c]⟩, .string x2] 33)) (some r))) hgrow6 (fun g e => own_block_ge ho5 g e)
            go_wp2
            go_roundw
            case rel => exact ⟨j + 1, xs ++ [(⟨#[c]⟩, x2)], t ++ ⟨#[c]⟩, _, by omega, by go_num, rfl, by rw [ByteArray.size_append]; omega, by simp; omega, HXA, hown6, R6, by omega, G6⟩
            case measure => simp [intOf] <;> omega
          · have t1 : decide (indexByte t.data.toList c < 0) = false := decide_eq_false hfi
            go_wp2_with (first | (go_at_call 76; refine (l1Place_c _ _).mono ?_; rintro e w' ⟨rfl, rfl⟩; rw [hp]) | (go_at_call 119; refine (l13Find_c t c _ (by omega)).mono ?_; rintro e w' ⟨rfl, rfl⟩))
            go_roundw
            case rel => exact ⟨j + 1, xs, t, _, by omega, by go_num, rfl, by omega, by omega, hxs, ho5, R5, by omega, G5⟩
            case measure => simp [intOf] <;> omega
        · have t1 : True := trivial
          go_wp2_with (first | (go_at_call 76; refine (l1Place_c _ _).mono ?_; rintro e w' ⟨rfl, rfl⟩; rw [hp]) | (go_at_call 119; refine (l13Find_c t c _ (by omega)).mono ?_; rintro e w' ⟨rfl, rfl⟩))
          go_roundw
          case rel => exact ⟨j + 1, xs, t, _, by omega, by go_num, rfl, by omega, by omega, hxs, ho5, R5, by omega, G5⟩
          case measure => simp [intOf] <;> omega
      · go_wp2
        go_ret
        exact ⟨_, xs, q, rfl, ho, hxs.out.1, R, by omega, G⟩
end Go.Proofs.Ytbgchjjaaelkbaa
namespace Go.PM
open Go.RowKit
def part (m : Mv) : List UInt8 := m.1.data.toList ++ [61] ++ m.2.data.toList
def fmtL (xs : List Mv) : List UInt8 := Lib.join (xs.map part) [44]
theorem join_snoc (xs : List (List UInt8)) (x sep : List UInt8) : Lib.join (xs ++ [x]) sep = if xs = [] then x else Lib.join xs sep ++ sep ++ x := by
  cases xs with
  | nil => simp [Lib.join_one]
  | cons y r => simp [Lib.join_cons, Lib.joinTail]
theorem fmtL_step (xs : List Mv) (k : Nat) (hk : k < xs.length) : fmtL (xs.take (k+1)) = if k = 0 then part xs[k] else fmtL (xs.take k) ++ [44] ++ part xs[k] := by
  unfold fmtL
  rw [take_snoc xs k hk, List.map_append, List.map_cons, List.map_nil, join_snoc]
  by_cases h : k = 0
  · subst h; simp
  · have : ¬ (xs.take k).map part = [] := by
      intro e
      have := congrArg List.length e
      rw [List.length_map, List.length_take, List.length_nil] at this; omega
    simp only [h, this, if_false]
theorem fmtL_pos (xs : List Mv) (h : xs ≠ []) : fmtL xs ≠ [] := by
  cases xs with
  | nil => exact absurd rfl h
  | cons x r =>
    unfold fmtL
    rw [List.map_cons, Lib.join_cons]
    simp [part]
def fmtB (xs : List Mv) : ByteArray := if mvalid xs then (if xs = [] then ⟨#[45]⟩ else ⟨(fmtL xs).toArray⟩) else ⟨#[]⟩
theorem fmtB_no {xs : List Mv} (h : mvalid xs = false) : fmtB xs = ⟨#[]⟩ := by simp [fmtB, h]
theorem fmtB_none {xs : List Mv} (h : mvalid xs = true) (h2 : xs = []) : fmtB xs = ⟨#[45]⟩ := by subst h2; simp [fmtB, h]
theorem fmtB_some {xs : List Mv} (h : mvalid xs = true) (h2 : xs ≠ []) : fmtB xs = ⟨(fmtL xs).toArray⟩ := by simp [fmtB, h, h2]
theorem ba_mk {t : ByteArray} {l : List UInt8} (h : t.data.toList = l) : t = ⟨l.toArray⟩ := by
  subst h; simp
def partB (m : Mv) : ByteArray := m.1 ++ ⟨#[61]⟩ ++ m.2
theorem partB_data (m : Mv) : (partB m).data.toList = part m := by simp [partB, part]
def phalf (xs : List Mv) (k : Nat) : List Value := (xs.take k).map (fun m => Value.string (partB m)) ++ List.replicate (xs.length - k) (Value.string ⟨#[]⟩)
theorem phalf_at (xs : List Mv) (k : Nat) (hk : k < xs.length) : (phalf xs k)[k]? = some (Value.string ⟨#[]⟩) := by
  have hl : ((xs.take k).map (fun m => Value.string (partB m))).length = k := by simp; omega
  obtain ⟨d, hd⟩ : ∃ d, xs.length - k = d + 1 := ⟨xs.length - k - 1, by omega⟩
  unfold phalf
  rw [List.getElem?_append_right (by omega), hl, Nat.sub_self, hd, List.replicate_succ]; rfl
theorem phalf_set (xs : List Mv) (k : Nat) (hk : k < xs.length) : (phalf xs k).set k (.string (partB xs[k])) = phalf xs (k+1) := by
  have hl : ((xs.take k).map (fun m => Value.string (partB m))).length = k := by simp; omega
  obtain ⟨d, hd⟩ : ∃ d, xs.length - k = d + 1 := ⟨xs.length - k - 1, by omega⟩
  unfold phalf
  rw [List.set_append_right _ _ (by omega), hl, hd, List.replicate_succ, show xs.length - (k+1) = d by omega, take_snoc xs k hk, Nat.sub_self, List.map_append]
  simp only [List.set_cons_zero, List.map_cons, List.map_nil, List.append_assoc, List.cons_append, List.nil_append]
theorem phalf_zero (xs : List Mv) : phalf xs 0 = List.replicate xs.length (Value.string ⟨#[]⟩) := by simp [phalf]
theorem phalf_full (xs : List Mv) : phalf xs xs.length = xs.map (fun m => Value.string (partB m)) := by simp [phalf]
theorem fmtL_len (xs : List Mv) : (fmtL xs).length ≤ 2 * msize xs := by
  induction xs with
  | nil => simp [fmtL, Lib.join_nil]
  | cons x r ih =>
    unfold fmtL at ih ⊢
    rw [List.map_cons, Lib.join_cons, msize]
    have h1 : (part x).length = x.1.size + 1 + x.2.size := by simp [part]; omega
    rw [List.length_append, h1]
    cases r with
    | nil => simp [Lib.joinTail, msize]; omega
    | cons y r =>
      have h2 : (Lib.joinTail [44] (List.map part (y :: r))).length = 1 + (Lib.join (List.map part (y :: r)) [44]).length := by
        rw [List.map_cons, Lib.join_cons]; simp [Lib.joinTail]; omega
      rw [h2]; omega
end Go.PM
namespace Go.Proofs.Ytbgchjjaaelkbaa
open Go.RowKit Go.PM


end Go.Proofs.Ytbgchjjaaelkbaa
namespace Go.PM
open Go.RowKit
/- a text is its pieces with the separator between them, and the pieces of such a text are these -/
theorem pcsL_join (c : UInt8) (l : List UInt8) : Lib.join (pcsL c l) [c] = l ∧ pcsL c l ≠ [] := by
  induction l with
  | nil => exact ⟨rfl, by simp [pcsL]⟩
  | cons b l ih =>
    obtain ⟨h1, h2⟩ := ih
    rw [pcsL]
    by_cases e : b = c
    · rw [if_pos e]
      refine ⟨?_, by simp⟩
      subst e
      cases hp : pcsL b l with
      | nil => exact absurd hp h2
      | cons p ps =>
        rw [hp] at h1
        have e2 : Lib.join ([] :: p :: ps) [b] = b :: Lib.join (p :: ps) [b] := by
          rw [Lib.join_cons, Lib.join_cons]; simp [Lib.joinTail]
        rw [e2, h1]
    · rw [if_neg e]
      cases hp : pcsL c l with
      | nil => exact absurd hp h2
      | cons p ps =>
        rw [hp] at h1
        refine ⟨?_, by simp⟩
        show Lib.join ((b :: p) :: ps) [c] = b :: l
        rw [Lib.join_cons] at h1 ⊢
        rw [List.cons_append, h1]
theorem pcsL_of_join (c : UInt8) : ∀ ps : List (List UInt8), ps ≠ [] → (∀ p ∈ ps, c ∉ p) → pcsL c (Lib.join ps [c]) = ps
  | [], h, _ => absurd rfl h
  | [p], _, h => by
    rw [Lib.join_one]
    exact pcsL_none c p (h p (by simp))
  | p :: q :: r, _, h => by
    have ih := pcsL_of_join c (q :: r) (by simp) (fun x hx => h x (List.mem_cons_of_mem _ hx))
    have e : Lib.join (p :: q :: r) [c] = p ++ c :: Lib.join (q :: r) [c] := by
      rw [Lib.join_cons, Lib.join_cons]; simp [Lib.joinTail]
    rw [e, pcsL_some c _ _ (h p (by simp)), ih]
theorem isS_byte {s : ByteArray} (h : isS s = true) : ∃ c, s = ⟨#[c]⟩ ∧ c ≠ 44 ∧ c ≠ 61 ∧ c ≠ 45 := by
  obtain ⟨c, rfl⟩ := one_of_size (isS_size h)
  refine ⟨c, rfl, ?_, ?_, ?_⟩ <;>
  · rintro rfl
    revert h
    decide +kernel
theorem mok_size {m : Mv} (h : mok m = true) : m.1.size = 1 ∧ m.2.size = 1 := by
  unfold mok at h; rw [Bool.and_eq_true] at h
  exact ⟨isP_size h.1, isS_size h.2⟩
theorem mok_part {m : Mv} (h : mok m = true) : ∃ a c, m = (⟨#[a]⟩, ⟨#[c]⟩) ∧ part m = [a, 61, c] ∧ a ≠ 44 ∧ c ≠ 44 := by
  unfold mok at h; rw [Bool.and_eq_true] at h
  obtain ⟨a, ha, a1, a2, a3⟩ := isS_byte (s := m.1) (by unfold isS; rw [h.1]; rfl)
  obtain ⟨c, hc, c1, c2, c3⟩ := isS_byte h.2
  exact ⟨a, c, Prod.ext ha hc, by unfold part; rw [ha, hc]; rfl, a1, c1⟩
theorem fmtL_pcs {xs : List Mv} (h : MV xs) (hne : xs ≠ []) : pcsL 44 (fmtL xs) = xs.map part := by
  unfold fmtL
  refine pcsL_of_join 44 _ (by simpa using hne) ?_
  intro p hp
  obtain ⟨m, hm, rfl⟩ := List.mem_map.1 hp
  obtain ⟨a, c, _, e, a1, c1⟩ := mok_part (h.1 m hm)
  rw [e]
  simp [Ne.symm a1, Ne.symm c1]
theorem fmt_cut {xs : List Mv} (h : MV xs) (hne : xs ≠ []) : cutP (fmtB xs) 44 = xs.map fun m => mkB (part m) := by
  rw [cutP_pcs, fmtB_some (by simpa [mvalid] using h) hne]
  unfold pcsB
  show (pcsL 44 (fmtL xs)).map mkB = _
  rw [fmtL_pcs h hne, List.map_map]
  rfl
theorem pM_part {m : Mv} (h : mok m = true) : pOk (mkB (part m)) = true ∧ pM (mkB (part m)) = m := by
  obtain ⟨a, c, rfl, e, _, _⟩ := mok_part h
  rw [e]
  exact ⟨rfl, rfl⟩
theorem fmt_prsL {xs : List Mv} (h : MV xs) (hne : xs ≠ []) : prsL (fmtB xs) = xs ∧ (cutP (fmtB xs) 44).all pOk = true := by
  unfold prsL
  rw [fmt_cut h hne]
  constructor
  · rw [List.map_map]
    conv => rhs; rw [← List.map_id xs]
    exact List.map_congr_left fun m hm => (pM_part (h.1 m hm)).2
  · rw [List.all_eq_true]
    intro x hx
    obtain ⟨m, hm, rfl⟩ := List.mem_map.1 hx
    exact (pM_part (h.1 m hm)).1
theorem fmt_dash {xs : List Mv} (h : MV xs) (hne : xs ≠ []) : ¬ fmtB xs = ⟨#[45]⟩ := by
  intro e
  have h2 := (fmt_prsL h hne).2
  rw [e] at h2
  revert h2
  decide +kernel
/-- a list of moves comes back from its text -/
theorem prs_fmt (xs : List Mv) : prsOk (fmtB xs) = mvalid xs ∧ (mvalid xs = true → prsM (fmtB xs) = xs) := by
  cases hm : mvalid xs with
  | false =>
    rw [fmtB_no hm]
    exact ⟨by decide +kernel, fun h => by cases h⟩
  | true =>
    have h : MV xs := by simpa [mvalid] using hm
    by_cases hne : xs = []
    · subst hne
      exact ⟨by decide +kernel, fun _ => by decide +kernel⟩
    · obtain ⟨h1, h2⟩ := fmt_prsL h hne
      have h3 := fmt_dash h hne
      unfold prsOk prsM
      rw [h1, h2, hm, if_neg h3]
      simp
theorem pOk_part {x : ByteArray} (h : pOk x = true) : part (pM x) = x.data.toList := by
  by_cases h3 : x.size = 3
  · obtain ⟨a, b, c, rfl⟩ := three_of_size h3
    have : b = 61 := by simpa [pOk] using h
    subst this
    rfl
  · rw [pOk_size h3] at h; cases h
/-- a text that parses is the text of what it gives -/
theorem fmt_prs {t : ByteArray} (h : prsOk t = true) : fmtB (prsM t) = t := by
  by_cases h0 : t = ⟨#[45]⟩
  · subst h0
    decide +kernel
  · unfold prsOk at h
    rw [decide_eq_false h0, Bool.false_or] at h
    have hM : prsM t = prsL t := by unfold prsM; rw [if_neg h0, if_pos h]
    rw [Bool.and_eq_true] at h
    rw [hM]
    have hL : prsL t ≠ [] := by
      unfold prsL
      rw [cutP_pcs]
      unfold pcsB
      have := (pcsL_join 44 t.data.toList).2
      simpa using this
    rw [fmtB_some h.2 hL]
    have e : fmtL (prsL t) = t.data.toList := by
      have hj := (pcsL_join 44 t.data.toList).1
      unfold fmtL prsL
      have : ((cutP t 44).map pM).map part = pcsL 44 t.data.toList := by
        have h1 := h.1
        rw [cutP_pcs] at h1 ⊢
        unfold pcsB at h1 ⊢
        rw [List.map_map, List.map_map]
        conv => rhs; rw [← List.map_id (pcsL 44 t.data.toList)]
        refine List.map_congr_left fun p hp => ?_
        have h2 := List.all_eq_true.1 h1 (mkB p) (List.mem_map.2 ⟨p, hp, rfl⟩)
        exact pOk_part h2
      rw [this]; exact hj
    rw [e]
theorem fmtB_size {xs : List Mv} (hl : xs.length ≤ 65) (hz : ∀ m ∈ xs, m.1.size ≤ 64 ∧ m.2.size ≤ 64) : (fmtB xs).size ≤ 20000 := by
  have h2 : ∀ ys : List Mv, (∀ m ∈ ys, m.1.size ≤ 64 ∧ m.2.size ≤ 64) → msize ys ≤ 140 * ys.length := by
    intro ys hy
    induction ys with
    | nil => exact Nat.le_refl 0
    | cons y r ih =>
      have h1 := hy y (by simp)
      have h2 := ih (fun m hm => hy m (by simp [hm]))
      simp only [msize, List.length_cons]
      omega
  have h3 := h2 xs hz
  have h4 := fmtL_len xs
  unfold fmtB
  split
  · split
    · first | done | decide
    · show (fmtL xs).toArray.size ≤ _
      simp only [List.size_toArray]
      omega
  · decide
theorem msize_short {xs : List Mv} (hl : xs.length ≤ 65) (hz : ∀ m ∈ xs, m.1.size ≤ 64 ∧ m.2.size ≤ 64) : msize xs ≤ 10000 := by
  have h2 : ∀ ys : List Mv, (∀ m ∈ ys, m.1.size ≤ 64 ∧ m.2.size ≤ 64) → msize ys ≤ 140 * ys.length := by
    intro ys hy
    induction ys with
    | nil => exact Nat.le_refl 0
    | cons y r ih =>
      have h1 := hy y (by simp)
      have h2 := ih (fun m hm => hy m (by simp [hm]))
      simp only [msize, List.length_cons]
      omega
  have h3 := h2 xs hz
  omega
theorem fmtB_pos {xs : List Mv} (h : MV xs) : 1 ≤ (fmtB xs).size := by
  by_cases hne : xs = []
  · rw [fmtB_none (by simpa [mvalid] using h) hne]; exact Nat.le_refl 1
  · rw [fmtB_some (by simpa [mvalid] using h) hne]
    have := fmtL_pos xs hne
    show 1 ≤ (fmtL xs).toArray.size
    simp only [List.size_toArray]
    exact List.length_pos_iff.2 this
end Go.PM
namespace Go.PM
open Go.RowKit
theorem RdB.now {w w' : World} {n : Nat} {v : Value} (h : RdB w w.heap.size v n) (hb : Below w.heap.size w w') : RdB w' w'.heap.size v n := by
  obtain ⟨A, cap, e, h1, h2, h3⟩ := h.keep (grown_below hb none) (fun r e => by cases e)
  refine ⟨A, cap, e, h1, h2, fun k hk => ?_⟩
  obtain ⟨b, off, c, e1, _, hl, hc⟩ := h3 k hk
  exact ⟨b, off, c, e1, hl, hl, hc⟩
end Go.PM
namespace Go.Proofs.Ytbgchjjaaelkbaa
open Go.RowKit Go.PM

end Go.Proofs.Ytbgchjjaaelkbaa
namespace Go.PM
open Go.PW
theorem wsp_cases (xs : List Mv) : (mvalid xs = false ∧ wspB xs = false) ∨ (mvalid xs = true ∧ wspB xs = true ∧ (ringsB xs).length = 0) ∨ (mvalid xs = true ∧ wspB xs = false ∧ (ringsB xs).length ≠ 0) := by
  rcases Bool.eq_false_or_eq_true (mvalid xs) with hm | hm
  · have hMV : MV xs := by simpa [mvalid] using hm
    have h := wsp_rings hMV
    have hr : (ringsB xs).length = (ringsF (nxT (tabOf xs)) 9).length := by unfold ringsB; rw [if_pos hm]; unfold ringsT; rw [List.length_map]
    by_cases he : ringsF (nxT (tabOf xs)) 9 = []
    · exact .inr (.inl ⟨hm, by rw [h]; simp [he], by rw [hr, he]; rfl⟩)
    · exact .inr (.inr ⟨hm, by rw [h]; simp [he], by rw [hr]; simpa using he⟩)
  · exact .inl ⟨hm, by unfold wspB; rw [hm]; rfl⟩
end Go.PM
namespace Go.Proofs.Ytbgchjjaaelkbaa
open Go.RowKit Go.PM Go.PW
attribute [local go_sem] Oper.semAt_some
set_option maxRecDepth 100000 in
set_option maxHeartbeats 6400000 in
theorem exWithoutSpare (w : World) (v0 : Value) (n0 : Nat) (hv : RdB w w.heap.size v0 n0) (v1 : Value) (n1 : Nat) (hv1 : RdB w w.heap.size v1 n1) :
    Calls Try.prog 6 #[v0, v1] w fun e w' => e = .returned (.bool true) ∧ Below w.heap.size w w' := by
  have hv0 := hv
  have hv10 := hv1
  obtain ⟨A, cap, rfl, hc, hn, _⟩ := hv
  obtain ⟨A1, cap1, rfl, hc1, hn1, _⟩ := hv1
  by_cases hbig : 1048576 < n0
  · have t : decide ((n0 : Int) > 1048576) = true := by simp; omega
    go_enter Try.func6, Try.ntmps6
    go_wp2
    go_ret
    exact ⟨rfl, Below.refl _ _⟩
  have t : decide ((n0 : Int) > 1048576) = false := by simp; omega
  by_cases hbig1 : 1048576 < n1
  · have t1 : decide ((n1 : Int) > 1048576) = true := by simp; omega
    go_enter Try.func6, Try.ntmps6
    go_wp2
    go_ret
    exact ⟨rfl, Below.refl _ _⟩
  have t1 : decide ((n1 : Int) > 1048576) = false := by simp; omega
  have HD := Lib.hid (drawWithoutSpare_c w _ n0 hv0)
  have HV0 := Lib.hid hv10
  clear hv0 hv10
  go_enter Try.func6, Try.ntmps6
  go_wp2_with fail
  refine HD.out.mono ?_
  rintro e w1 ⟨u, xs, rfl, ho, ⟨hl, hz⟩, b1⟩
  have R1 : RdM w1 u xs := Rd.of_own ho
  have hz1 : ∀ m ∈ xs, m.1.size ≤ 9223372036854775807 ∧ m.2.size ≤ 9223372036854775807 := fun m hm => by have := hz m hm; omega
  have HIW := Lib.hid (fun W (R : RdM W u xs) => imWithoutSpare_c xs u W R)
  have HSW := Lib.hid (fun W (R : RdM W u xs) => spWithoutSpare_c xs u W R hz1 (by omega))
  have HRO := Lib.hid (fun W (R : RdM W u xs) => imRingsOf_c xs u W R)
  have HIS := Lib.hid (fun v W (P : RdM W v (wspM xs)) (R : RdM W u xs) => imSameMoves_c (wspM xs) xs v u W P R)
  have HIO := Lib.hid (fun ys v W (R : RdM W v ys) => imIsOrdered_c ys v W R)
  have HQ : Hid (∀ zs v u W, RdM W v zs → RdM W u zs → Calls Try.prog 22 #[v, u] W fun e w' => e = .returned (.bool true) ∧ Below W.heap.size W w') := fun zs v u W P Q => by
    have := pmSame_c zs zs v u W P Q
    rwa [show decide (zs = zs) = true by simp] at this
  have HC := Lib.hid (wsp_cases xs)
  have HG := Lib.hid (fun h => @wsp_good xs h)
  have e1 : (wspB xs != wspB xs) = false := by simp
  clear HD ho hz hz1 hl
  go_wp2_with fail
  refine (HIW.out _ R1).mono ?_
  rintro e w2 ⟨vd, rfl, od, h2⟩
  have b2 := b1.trans (h2.mono b1.size)
  have R2 := R1.below h2
  have D2 : RdM w2 vd (wspM xs) := Rd.of_own od
  clear od h2 b1 R1
  go_wp2_with fail
  refine (HSW.out _ R2).mono ?_
  rintro e w3 ⟨ve, rfl, oe, h3⟩
  have b3 := b2.trans (h3.mono b2.size)
  have R3 := R2.below h3
  have D3 := D2.below h3
  have E3 : RdM w3 ve (wspM xs) := Rd.of_own oe
  clear oe h3 b2 R2 D2
  have HDI := Lib.hid (drawIsOrdered_c w3 _ n1 (HV0.out.now b3))
  go_wp2_with fail
  refine HDI.out.mono ?_
  rintro e w4 ⟨vx, ys, rfl, oy, ⟨hly, hzy⟩, h4⟩
  have b4 := b3.trans (h4.mono b3.size)
  have R4 := R3.below h4
  have D4 := D3.below h4
  have E4 := E3.below h4
  have Y4 : RdM w4 vx ys := Rd.of_own oy
  have HSO := Lib.hid (fun W (R : RdM W vx ys) => spIsOrdered_c ys vx W R (fun m hm => by have := hzy m hm; omega) (by omega))
  have HRT := Lib.hid (fun h => @ord_right ys h)
  have HIR := Lib.hid (fun v W (P : RdS W v (stL ys)) (R : RdM W vx ys) => imIsRight_c (stL ys) ys v vx W P R)
  have e2 : (ordB ys != ordB ys) = false := by simp
  clear oy h4 b3 R3 D3 E3 HDI hzy
  go_wp2_with fail
  refine (HIO.out ys _ _ Y4).mono ?_
  rintro e w5 ⟨rfl, h5⟩
  have b5 := b4.trans (h5.mono b4.size)
  have R5 := R4.below h5
  have D5 := D4.below h5
  have E5 := E4.below h5
  have Y5 := Y4.below h5
  clear h5 b4 R4 D4 E4 Y4
  go_wp2_with fail
  refine (HQ.out _ _ _ _ D5 E5).mono ?_
  rintro e w6 ⟨rfl, h6⟩
  have b6 := b5.trans (h6.mono b5.size)
  have R6 := R5.below h6
  have D6 := D5.below h6
  have Y6 := Y5.below h6
  clear h6 b5 R5 D5 E5 Y5
  go_wp2_with fail
  refine (HSO.out _ Y6).mono ?_
  rintro e w7 ⟨rfl, h7⟩
  have b7 := b6.trans (h7.mono b6.size)
  have R7 := R6.below h7
  have D7 := D6.below h7
  have Y7 := Y6.below h7
  clear h7 b6 R6 D6 Y6 HSO HQ HSW HIW HV0
  obtain ⟨Ay, cy, ey, hny, hcy, hcelly⟩ := Y7.open
  subst ey
  have hbs7 := b7.size
  rcases Bool.eq_false_or_eq_true (ordB ys) with ho | ho
  · have hrt := HRT.out ho
    rw [ho] at e2 ⊢
    rw [hrt] at HIR
    clear hrt HRT
    have hE0 := World.ownsRow_lit (e := 53) (base := w7.heap.size) (size := 3) w7 #[] 0 (Nat.le_refl _) (Nat.zero_le _) rfl
    have hb0 : Below w7.heap.size w7 (w7.alloc (.cells #[] 53)) := (Below.refl _ _).alloc (Nat.le_refl _) _
    go_wp2
    go_loopw [12, 14, 60] (fun s _ i wr => ∃ (k : Nat), k ≤ ys.length ∧ i = .int .i64 k ∧ wr.ownsRow w7.heap.size 53 3 s (ys.take k).length (scells (stL (ys.take k))) ∧ Below w7.heap.size w7 wr) (fun _ _ i _ => ys.length - (intOf i).toNat)
    case atStart => exact ⟨0, by omega, rfl, hE0, hb0⟩
    case round =>
      obtain ⟨k, hk, rfl, hov, hb⟩ := hrel
      have hbs := hb.size
      clear hE0 hb0
      by_cases hlt : k < ys.length
      · obtain ⟨b, off, rfl, hbl, hc1, hc2⟩ := hcelly k hlt
        have hd1 := (hb.cell (p := ⟨b, off + k * 2, none⟩) hbl).trans hc1
        have hd2 := (hb.cell (p := ⟨b, off + k * 2 + 1, none⟩) hbl).trans hc2
        have i1 : (k : Int) < (ys.length : Int) := by omega
        have htk := Lib.hid (show ys.take (k + 1) = ys.take k ++ [(ys[k].1, ys[k].2)] from List.take_succ_eq_append_getElem hlt)
        have htl : (ys.take k).length ≤ 1048576 := by rw [List.length_take]; omega
        clear hc1 hc2 hcelly
        generalize ys[k].1 = x1 at *
        generalize ys[k].2 = x2 at *
        have hax : Below wr.heap.size wr (wr.alloc (.cells #[.string x1, .string x2] 33)) := (Below.refl _ _).alloc (Nat.le_refl _) _
        have hov1 := own_keep hov hax
        have hnw := three_new (wr.alloc (.cells #[.string x1, .string x2] 33)) (.int .i64 0) (.string x1) (.string x2) 53
        rw [World.size_alloc] at hnw
        go_wp2_with (at_builtin; refine held ?_)
        unfold Held
        refine app_stp rfl (.tmp 64) (.tmp 67) rfl w7.heap.size _ (ys.take k) (x1, x2) ⟨wr.heap.size + 1, 0, none⟩ 1 (by rfl) (by rfl) (own_keep hov1 ((Below.refl _ _).alloc (Nat.le_refl _) _)) hnw htl (by simp; omega) ?_
        intro v3 wx hov3 hg3
        have hbx : Below w7.heap.size w7 ((wr.alloc (.cells #[.string x1, .string x2] 33)).alloc (.cells #[.int .i64 0, .string x1, .string x2] 53)) := (hb.alloc hbs _).alloc (by simp; omega) _
        have hB3 := hbx.trans (below_grown hg3 (by simp; omega) (own_block_ge hov1))
        clear hg3 hbx hov1 hax hnw hov hd1 hd2
        go_wp2
        go_roundw
        case rel => exact ⟨k + 1, by omega, by go_num, by rw [htk.out]; exact hov3, hB3⟩
        case measure => simp [intOf] <;> omega
      · obtain rfl : k = ys.length := by omega
        have S : RdS wr u12 (stL ys) := by
          have := Rd.of_own hov
          rw [List.take_length] at this
          unfold RdS
          rw [show (stL ys).length = ys.length by unfold stL; rw [List.length_map]]
          exact this
        have b7r := b7.trans (hb.mono b7.size)
        have H := HIR.out _ _ S (Y7.below hb)
        have R7r := R7.below hb
        have D7r := D7.below hb
        clear hov
        go_wp2_with (go_at_call 50; refine H.mono ?_; rintro e wi ⟨rfl, hi⟩; refine held ?_)
        unfold Held
        have bi := b7r.trans (hi.mono b7r.size)
        have Ri := R7r.below hi
        have Di := D7r.below hi
        clear hi b7r R7r D7r R7 D7 b7 H
        go_wp2_with (go_at_call 27; refine (HRO.out _ Ri).mono ?_; rintro e w8 ⟨vr, rfl, or_, h8⟩; refine held ?_)
        unfold Held
        have b8 := bi.trans (h8.mono bi.size)
        have R8 := Ri.below h8
        have D8 := Di.below h8
        obtain ⟨Ar, cr, er, hnr, hcr, _⟩ := Rd.of_own or_
        subst er
        clear or_ h8 HRO
        rcases HC.out with ⟨c1, c2⟩ | ⟨c1, c2, c3⟩ | ⟨c1, c2, c3⟩
        · rw [c1, c2]
          go_wp2
          go_ret
          exact ⟨rfl, b8⟩
        · have hg := HG.out c2
          have H9 := HIO.out (wspM xs) vd _ D8
          rw [hg.1] at H9
          have H10 := Lib.hid (fun W P R => HIS.out vd W P R)
          rw [hg.2] at H10
          have H9h := Lib.hid H9
          rw [c1, c2]
          have c4 : (((ringsB xs).length : Int) == 0) = true := by rw [c3]; rfl
          clear H9 hg c3
          go_wp2_with (go_at_call 48; refine H9h.out.mono ?_; rintro e w9 ⟨rfl, h9⟩; refine held ?_)
          unfold Held
          have b9 := b8.trans (h9.mono b8.size)
          have R9 := R8.below h9
          have D9 := D8.below h9
          clear h9 H9h b8 R8 D8
          go_wp2_with (go_at_call 23; refine (H10.out _ D9 R9).mono ?_; rintro e w10 ⟨rfl, h10⟩; refine held ?_)
          unfold Held
          have b10 := b9.trans (h10.mono b9.size)
          clear h10 H10 b9 R9 D9
          go_wp2
          go_ret
          exact ⟨rfl, b10⟩
        · have c4 : (((ringsB xs).length : Int) == 0) = false := by rw [beq_eq_false_iff_ne]; omega
          rw [c1, c2]
          go_wp2
          go_ret
          exact ⟨rfl, b8⟩
  · rw [ho] at e2 ⊢
    clear HIR HRT
    go_wp2_with (go_at_call 27; refine (HRO.out _ R7).mono ?_; rintro e w8 ⟨vr, rfl, or_, h8⟩; refine held ?_)
    unfold Held
    have b8 := b7.trans (h8.mono b7.size)
    have R8 := R7.below h8
    have D8 := D7.below h8
    obtain ⟨Ar, cr, er, hnr, hcr, _⟩ := Rd.of_own or_
    subst er
    clear or_ h8 HRO
    rcases HC.out with ⟨c1, c2⟩ | ⟨c1, c2, c3⟩ | ⟨c1, c2, c3⟩
    · rw [c1, c2]
      go_wp2
      go_ret
      exact ⟨rfl, b8⟩
    · have hg := HG.out c2
      have H9 := HIO.out (wspM xs) vd _ D8
      rw [hg.1] at H9
      have H10 := Lib.hid (fun W P R => HIS.out vd W P R)
      rw [hg.2] at H10
      have H9h := Lib.hid H9
      rw [c1, c2]
      have c4 : (((ringsB xs).length : Int) == 0) = true := by rw [c3]; rfl
      clear H9 hg c3
      go_wp2_with (go_at_call 48; refine H9h.out.mono ?_; rintro e w9 ⟨rfl, h9⟩; refine held ?_)
      unfold Held
      have b9 := b8.trans (h9.mono b8.size)
      have R9 := R8.below h9
      have D9 := D8.below h9
      clear h9 H9h b8 R8 D8
      go_wp2_with (go_at_call 23; refine (H10.out _ D9 R9).mono ?_; rintro e w10 ⟨rfl, h10⟩; refine held ?_)
      unfold Held
      have b10 := b9.trans (h10.mono b9.size)
      clear h10 H10 b9 R9 D9
      go_wp2
      go_ret
      exact ⟨rfl, b10⟩
    · have c4 : (((ringsB xs).length : Int) == 0) = false := by rw [beq_eq_false_iff_ne]; omega
      rw [c1, c2]
      go_wp2
      go_ret
      exact ⟨rfl, b8⟩

namespace fnWithoutSpare
open Go.RowKit Go.PM Go.ChangeShapes Go.WideShapes Go.ChangeAt
open Go.ChangeMaps (open_string shut_string)
set_option maxRecDepth 100000 in
theorem lifted (os : Os) (started : os.Started) (H : Type) (enc : TypeId × Value → H) :
    ReturnsInHanded {} Try.checked os 6 .any (Rows.fnWithoutSpareSpec.pre6 enc Try.prog Try.f6 Rows.fnWithoutSpareRow.domain false) (Rows.fnWithoutSpareSpec.post enc Try.prog Try.f6 false true false false) := by
  refine returnsInHanded_of_change (C := Try.checked) own started (by kernel_rfl) Try.func6
    (ChangeSpec.witness6 (enc := enc) (C := Try.checked) false ⟨#[], #[.slice none 0 0, .slice none 0 0], []⟩ 8 (by kernel_rfl) (by kernel_rfl) (by kernel_rfl) (by kernel_rfl)) ?_
  intro W base args ds gs before hval0 hW hcnd _
  have hval : ∀ (j : Nat) t v, Try.f6.params[j]? = some t → args[j]? = some v → Value.okWide Try.prog W .any base t v := hval0
  have hW' := hW
  obtain ⟨p, q, hA0, hV, rfl, hfz, hnd⟩ := hW
  have hA : DataW.TrodAll enc Try.prog W 0 (fun _ => true) true Try.f6.params.toList args.toList ds p := hA0
  rw [Try.params6] at hA hval
  obtain ⟨v0, vs0, d0, ds0, p0, q0, hargs, rfl, rfl, h0, r0⟩ := trodAll_cons hA
  obtain ⟨v1, vs1, d1, ds1, p1, q1, rfl, rfl, rfl, h1, r1⟩ := trodAll_cons r0
  obtain ⟨rfl, rfl, rfl⟩ := trodAll_nil r1
  obtain rfl : args = #[v0, v1] := by cases args; simp_all
  obtain ⟨rfl, rfl⟩ := trodVars_none hV
  have k0 := h0
  have lt0 : ∀ x ∈ p0, x.block < W.heap.size := by obtain ⟨m, hm⟩ := k0; exact DataW.trod_lt m _ _ _ hm
  have k1 := h1
  have lt1 : ∀ x ∈ p1, x.block < W.heap.size := by obtain ⟨m, hm⟩ := k1; exact DataW.trod_lt m _ _ _ hm
  obtain ⟨a0, len0, cap0, rfl⟩ := okWide_slice Try.underlying22 (hval 0 22 v0 rfl rfl)
  have hx0 : RdB W W.heap.size (.slice a0 len0 cap0) len0 := by obtain ⟨fuel, hf⟩ := h0; exact open_bytes hf
  obtain ⟨a1, len1, cap1, rfl⟩ := okWide_slice Try.underlying22 (hval 1 22 v1 rfl rfl)
  have hx1 : RdB W W.heap.size (.slice a1 len1 cap1) len1 := by obtain ⟨fuel, hf⟩ := h1; exact open_bytes hf
  clear hA0 hval0
  refine (exWithoutSpare W _ len0 hx0 _ len1 hx1).mono fun e W' ⟨he, bel⟩ => ?_
  subst he
  exact ⟨_, rfl, _, _, _, [], _, [], hW', trodAll_mk1 (shut_bool Try.underlying4 _), (trodAll_cons_mk (Below.trod laidOut (by kernel_rfl) (of_decide_eq_true (by kernel_rfl)) k0 bel lt0) (trodAll_cons_mk (Below.trod laidOut (by kernel_rfl) (of_decide_eq_true (by kernel_rfl)) k1 bel lt1) trodAll_mk0)), rfl, bel.frame _, fun h => by cases h⟩

theorem over : Rows.fnWithoutSpareRow.holds Try.pinned (OpenSpec.ofChange Rows.fnWithoutSpareSpec) :=
  OpenClaim.holds_of_wide 6 Try.f6 rfl rfl rfl rfl rfl rfl rfl ⟨rfl, rfl, rfl, rfl, rfl⟩ rfl rfl rfl rfl rfl (by kernel_rfl) Try.func6 (by kernel_rfl)
    (of_decide_eq_true (by kernel_rfl)) (by unfold Func.isWrapper; first | (rw [if_pos (by decide +kernel)]; kernel_rfl) | (rw [if_neg (by decide +kernel)]; exact ⟨rfl, rfl⟩))
    (fun os started H enc _ => lifted os started H enc)

/-- The statement. -/
theorem proved : Rows.FnWithoutSpareSaid := over
end fnWithoutSpare
end Go.Proofs.Ytbgchjjaaelkbaa
