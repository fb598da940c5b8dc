/- Proved: for every input of the form's own reach the law FnCompose answers true and its arguments read afterwards as before; no further condition. -/
import Derived.Test.YtmifmfljiaoeaaaSpS
import Derived.Test.YtmifmfljiaoeaaaRow
import Derived.Test.YtmifmfljiaoeaaaSt5
import Derived.Test.YtmifmfljiaoeaaaCompI
import Derived.Test.YtmifmfljiaoeaaaPmSame
import Derived.Test.YtmifmfljiaoeaaaDraw3
import Derived.Test.YtmifmfljiaoeaaaBytes
namespace Go.Proofs.Ytmifmfljiaoeaaa
open Go.RowKit Go.PM

end Go.Proofs.Ytmifmfljiaoeaaa
namespace Go.PM
open Go.RowKit
theorem src_okC {xs : List Mv} (h : MV xs) : ∀ p, p < 9 → okC (srcT (tabOf xs) p) = true := by
  intro p hp
  rw [srcM_nm h hp]
  unfold srcM
  cases hf : xs.find? (fun m => decide (m.1 = nm p)) with
  | none =>
    show okC (nm p) = true
    unfold okC; rw [(cidx_nm hp).1]; rfl
  | some m =>
    have hm := List.mem_of_find?_eq_some hf
    have h1 := h.1 m hm
    unfold mok at h1; rw [Bool.and_eq_true] at h1
    exact isS_okC h1.2
def aoB (xs : List Mv) (s : ByteArray) : ByteArray := okS (mvalid xs && stateV s) (stB (aoS (tabOf xs) (ofB s)))
def ioB (xs : List St) (s : ByteArray) : ByteArray := okS (svalid xs && stateV s) (stB (runS xs xs.length (ofB s)))
theorem okS_yes (s : ByteArray) : okS true s = s := rfl
theorem okS_no (s : ByteArray) : okS false s = ⟨#[]⟩ := rfl
end Go.PM
namespace Go.Proofs.Ytmifmfljiaoeaaa
open Go.RowKit Go.PM

set_option maxHeartbeats 800000 in
theorem imAtOnce_c (xs : List Mv) (v : Value) (s : ByteArray) (w : World) (hx : RdM w v xs) (hs : s.size ≤ 9223372036854775807) :
    Calls Try.prog 19 #[v, .string s] w fun e w' => e = .returned (.tuple #[.string (aoB xs s), .bool (mvalid xs && stateV s)]) ∧ Below w.heap.size w w' := by
  have HB : Hid (∀ x y, mvalid xs = x → stateV s = y → aoB xs s = okS (x && y) (stB (aoS (tabOf xs) (ofB s)))) := fun x y h1 h2 => by rw [aoB, h1, h2]
  by_cases h1 : MV xs
  · have hm : mvalid xs = true := by simpa [mvalid] using h1
    rcases Bool.eq_false_or_eq_true (stateV s) with h2 | h2
    · have HBT := Lib.hid (HB.out true true hm h2)
      have HT := Lib.hid (tableOf_yes xs h1 v w hx)
      have HS := Lib.hid (fun W => stateOf_c s W hs)
      have HG : Hid (stOf s = ofB s) := stOf_yes h2
      have HA := Lib.hid (fun W => atOnce_c (tabOf xs) (ofB s) (src_okC h1) W)
      have HX := Lib.hid (fun W => text_c (aoS (tabOf xs) (ofB s)) W)
      have HM := Lib.hid hm
      have H2 := Lib.hid h2
      clear hx h1 hm h2
      generalize tabOf xs = t at *
      generalize aoS t (ofB s) = g at *
      go_enter Try.func19, Try.ntmps19
      go_wp2_with fail
      refine HT.out.mono ?_
      rintro e w1 ⟨rfl, hb1⟩
      have hs1 := hb1.size
      have k2 := At.new w1 52 (tabA t)
      have b2 : Below w.heap.size w (w1.alloc (.cells (tabA t) 52)) := hb1.alloc hs1 _
      go_wp2_with fail
      refine (HS.out _).mono ?_
      rintro e w3 ⟨rfl, hb3⟩
      rw [HG.out, H2.out]
      have k3 := k2.keep hb3
      have b3 := b2.trans (hb3.mono b2.size)
      have s3 := b3.size
      have z3 := At.new w3 62 zSA
      generalize ofB s = f at *
      go_wp2_with (first | (refine st_row rfl 62 (.tmp 8) (.tmp 18) rfl rfl w3.heap.size 62 zSA (stC f) z3 (by rfl) (by rfl) (by kernel_rfl) rfl (stC_one _) ?_; intro W4 k4 g4; have j4 := (k3.alloc (.cells zSA 62)).grown g4 (by have := k3.lt; simp; omega)) | (refine ld_row rfl 62 (.tmp 8) rfl w3.heap.size 62 (stC f) k4 (by rfl) 11 5 Try.underlying62 (by kernel_rfl) ?_) | (refine ld_row rfl 52 (.tmp 6) rfl w1.heap.size 52 (tabA t) j4 (by rfl) 9 9 Try.underlying52 (by kernel_rfl) ?_))
      have b4 : Below w.heap.size w W4 := (b3.alloc s3 _).trans (below_grown g4 (by simp; omega) (fun g hg => by cases hg; omega))
      refine (HA.out _).mono ?_
      rintro e w5 ⟨rfl, hb5⟩
      have b5 := b4.trans (hb5.mono b4.size)
      go_wp2_with fail
      refine (HX.out _).mono ?_
      rintro e w6 ⟨rfl, hb6⟩
      go_wp2
      go_ret2
      exact ⟨by rw [HM.out, H2.out, HBT.out]; rfl, b5.trans (hb6.mono b5.size)⟩
    · have HT := Lib.hid (tableOf_yes xs h1 v w hx)
      have HS := Lib.hid (fun W => stateOf_c s W hs)
      have HBT := Lib.hid (HB.out true false hm h2)
      have HM := Lib.hid hm
      have H2 := Lib.hid h2
      clear hx h1 hm h2
      generalize tabOf xs = t at *
      generalize stOf s = f at *
      go_enter Try.func19, Try.ntmps19
      go_wp2_with fail
      refine HT.out.mono ?_
      rintro e w1 ⟨rfl, hb1⟩
      have hs1 := hb1.size
      have b2 : Below w.heap.size w (w1.alloc (.cells (tabA t) 52)) := hb1.alloc hs1 _
      go_wp2_with fail
      refine (HS.out _).mono ?_
      rintro e w3 ⟨rfl, hb3⟩
      rw [H2.out]
      have b3 := b2.trans (hb3.mono b2.size)
      have s3 := b3.size
      have z3 := At.new w3 62 zSA
      go_wp2_with (refine st_row rfl 62 (.tmp 8) (.tmp 18) rfl rfl w3.heap.size 62 zSA (stC f) z3 (by rfl) (by rfl) (by kernel_rfl) rfl (stC_one _) ?_; intro W4 k4 g4)
      go_ret2
      exact ⟨by rw [HM.out, H2.out, HBT.out]; rfl, (b3.alloc s3 _).trans (below_grown g4 (by simp; omega) (fun g hg => by cases hg; omega))⟩
  · have hm : mvalid xs = false := by simpa [mvalid] using h1
    rcases Bool.eq_false_or_eq_true (stateV s) with h2 | h2
    · have HT := Lib.hid (tableOf_no xs h1 v w hx)
      have HS := Lib.hid (fun W => stateOf_c s W hs)
      have HBT := Lib.hid (HB.out false true hm h2)
      have HM := Lib.hid hm
      have H2 := Lib.hid h2
      clear hx h1 hm h2

      generalize stOf s = f at *
      go_enter Try.func19, Try.ntmps19
      go_wp2_with fail
      refine HT.out.mono ?_
      rintro e w1 ⟨rfl, hb1⟩
      have hs1 := hb1.size
      have b2 : Below w.heap.size w (w1.alloc (.cells zA 52)) := hb1.alloc hs1 _
      go_wp2_with fail
      refine (HS.out _).mono ?_
      rintro e w3 ⟨rfl, hb3⟩
      rw [H2.out]
      have b3 := b2.trans (hb3.mono b2.size)
      have s3 := b3.size
      have z3 := At.new w3 62 zSA
      go_wp2_with (refine st_row rfl 62 (.tmp 8) (.tmp 18) rfl rfl w3.heap.size 62 zSA (stC f) z3 (by rfl) (by rfl) (by kernel_rfl) rfl (stC_one _) ?_; intro W4 k4 g4)
      go_ret2
      exact ⟨by rw [HM.out, H2.out, HBT.out]; rfl, (b3.alloc s3 _).trans (below_grown g4 (by simp; omega) (fun g hg => by cases hg; omega))⟩
    · have HT := Lib.hid (tableOf_no xs h1 v w hx)
      have HS := Lib.hid (fun W => stateOf_c s W hs)
      have HBT := Lib.hid (HB.out false false hm h2)
      have HM := Lib.hid hm
      have H2 := Lib.hid h2
      clear hx h1 hm h2

      generalize stOf s = f at *
      go_enter Try.func19, Try.ntmps19
      go_wp2_with fail
      refine HT.out.mono ?_
      rintro e w1 ⟨rfl, hb1⟩
      have hs1 := hb1.size
      have b2 : Below w.heap.size w (w1.alloc (.cells zA 52)) := hb1.alloc hs1 _
      go_wp2_with fail
      refine (HS.out _).mono ?_
      rintro e w3 ⟨rfl, hb3⟩
      rw [H2.out]
      have b3 := b2.trans (hb3.mono b2.size)
      have s3 := b3.size
      have z3 := At.new w3 62 zSA
      go_wp2_with (refine st_row rfl 62 (.tmp 8) (.tmp 18) rfl rfl w3.heap.size 62 zSA (stC f) z3 (by rfl) (by rfl) (by kernel_rfl) rfl (stC_one _) ?_; intro W4 k4 g4)
      go_ret2
      exact ⟨by rw [HM.out, H2.out, HBT.out]; rfl, (b3.alloc s3 _).trans (below_grown g4 (by simp; omega) (fun g hg => by cases hg; omega))⟩
end Go.Proofs.Ytmifmfljiaoeaaa
namespace Go.PO
open Go.PM Go.RowKit
theorem own_rdc {w : World} {base n : Nat} {e : TypeId} {v : Value} {xs : List Mv} (h : w.ownsRow base e 2 v n (mcells xs)) (hn : n = xs.length) : ∃ A cap, v = .slice A xs.length cap ∧ RdM w (.slice A xs.length cap) xs := by
  subst hn
  have hr : RdM w v xs := Rd.of_own h
  obtain ⟨A, cap, rfl, _⟩ := hr.open
  exact ⟨A, cap, rfl, hr⟩
theorem comp_MV {xs ys : List Mv} (h1 : MV xs) (h2 : MV ys) : MV (compM xs ys) := by
  rw [compM_yes (by simpa [mvalid] using h1) (by simpa [mvalid] using h2)]
  exact lsF_MV (SVal_cmp (SVal_M h1) (SVal_M h2))
theorem comp_src {xs ys : List Mv} (h1 : MV xs) (h2 : MV ys) {p : Nat} (hp : p < 9) : srcM (compM xs ys) (nm p) = cmpM xs ys p := by
  rw [compM_yes (by simpa [mvalid] using h1) (by simpa [mvalid] using h2)]
  exact lsF_src _ hp
theorem comp_assoc {xs ys zs : List Mv} (h1 : MV xs) (h2 : MV ys) (h3 : MV zs) : compM (compM xs ys) zs = compM xs (compM ys zs) := by
  have m1 : mvalid xs = true := by simpa [mvalid] using h1
  have m3 : mvalid zs = true := by simpa [mvalid] using h3
  have m12 : mvalid (compM xs ys) = true := by simpa [mvalid] using comp_MV h1 h2
  have m23 : mvalid (compM ys zs) = true := by simpa [mvalid] using comp_MV h2 h3
  rw [compM_yes m12 m3, compM_yes m1 m23]
  refine lsF_congr fun p hp => ?_
  show cmpF (fun q => srcM (compM xs ys) (nm q)) (fun q => srcM zs (nm q)) p = cmpF (fun q => srcM xs (nm q)) (fun q => srcM (compM ys zs) (nm q)) p
  rw [cmpF_congr (C := cmpM xs ys) (D := fun q => srcM zs (nm q)) (fun q hq => comp_src h1 h2 hq) (fun _ _ => rfl) hp]
  rw [cmpF_congr (A := fun q => srcM xs (nm q)) (B := fun q => srcM (compM ys zs) (nm q)) (C := fun q => srcM xs (nm q)) (D := cmpM ys zs) (fun _ _ => rfl) (fun q hq => comp_src h2 h3 hq) hp]
  exact cmpF_assoc (fun q => srcM xs (nm q)) (fun q => srcM ys (nm q)) (fun q => srcM zs (nm q)) p
theorem aoS_congr (t : Nat → ByteArray) {f g : Nat → UInt8} (h : ∀ p, p < 11 → f p = g p) : ∀ p, p < 11 → aoS t f p = aoS t g p := by
  intro p hp
  unfold aoS
  by_cases h9 : p < 9
  · rw [if_pos h9, if_pos h9]
    unfold rdS
    by_cases hc : isC (srcT t p) = true
    · rw [if_pos hc, if_pos hc, h _ (cidx_lt hc)]
    · rw [if_neg hc, if_neg hc]
  · rw [if_neg h9, if_neg h9]; exact h p hp
theorem ao_comp {xs ys : List Mv} (h1 : MV xs) (h2 : MV ys) (f : Nat → UInt8) : ∀ p, p < 11 → aoS (tabOf (compM xs ys)) f p = aoS (tabOf ys) (aoS (tabOf xs) f) p := by
  intro p hp
  by_cases h9 : p < 9
  · have e1 : aoS (tabOf (compM xs ys)) f p = rdS f (cmpM xs ys p) := by
      show (if p < 9 then rdS f (srcT (tabOf (compM xs ys)) p) else f p) = _
      rw [if_pos h9, srcT_M (comp_MV h1 h2) h9, comp_src h1 h2 h9]
    have e2 : aoS (tabOf ys) (aoS (tabOf xs) f) p = rdS (aoS (tabOf xs) f) (srcM ys (nm p)) := by
      show (if p < 9 then rdS (aoS (tabOf xs) f) (srcT (tabOf ys) p) else _) = _
      rw [if_pos h9, srcT_M h2 h9]
    rw [e1, e2, cmpM_eq]
    have hs : isS (srcM ys (nm p)) = true := SVal_M h2 p h9
    by_cases hP : isP (srcM ys (nm p)) = true
    · rw [if_pos hP]
      have hq := pidx_spec hP
      have hc := isP_isC hP
      rw [rdS_cell hc.1, hc.2]
      show _ = (if pidx (srcM ys (nm p)) < 9 then rdS f (srcT (tabOf xs) (pidx (srcM ys (nm p)))) else _)
      rw [if_pos hq.1, srcM_place h1 hP]
    · rw [if_neg hP]
      have hD : isD (srcM ys (nm p)) = true := by
        unfold isS at hs; rw [Bool.or_eq_true] at hs
        exact hs.resolve_left hP
      rw [rdS_digit (isD_notC hD), rdS_digit (isD_notC hD)]
  · show (if p < 9 then _ else f p) = (if p < 9 then _ else (if p < 9 then _ else f p))
    rw [if_neg h9, if_neg h9, if_neg h9]
theorem isV_digit {a : ByteArray} (h : isD a = true) : isV (fc a) = true := by
  obtain ⟨c, rfl⟩ := one_of_size (isD_size h)
  have : 48 ≤ c.toNat ∧ c.toNat ≤ 57 := by simpa [isD] using h
  show isV c = true
  unfold isV
  simp [this]
theorem stateV_stB {g : Nat → UInt8} (h : ∀ q, q < 11 → isV (g q) = true) : stateV (stB g) = true := by
  unfold stateV stB
  simp [h 0 (by omega), h 1 (by omega), h 2 (by omega), h 3 (by omega), h 4 (by omega), h 5 (by omega), h 6 (by omega), h 7 (by omega), h 8 (by omega), h 9 (by omega), h 10 (by omega), ByteArray.size]
theorem isV_ofB {s : ByteArray} (h : stateV s = true) : ∀ q, q < 11 → isV (ofB s q) = true := by
  intro q hq
  unfold stateV at h
  rw [Bool.and_eq_true, decide_eq_true_eq] at h
  have hl : s.data.toList.length = 11 := by rw [size_data]; exact h.2
  unfold ofB
  rw [List.getD_eq_getElem?_getD, List.getElem?_eq_getElem (by omega)]
  exact List.all_eq_true.1 h.1 _ (List.getElem_mem _)
theorem isV_ao {xs : List Mv} (h : MV xs) {f : Nat → UInt8} (hf : ∀ q, q < 11 → isV (f q) = true) : ∀ q, q < 11 → isV (aoS (tabOf xs) f q) = true := by
  intro q hq
  unfold aoS
  by_cases h9 : q < 9
  · rw [if_pos h9]
    have := src_okC h q h9
    unfold okC at this
    rw [Bool.or_eq_true] at this
    by_cases hc : isC (srcT (tabOf xs) q) = true
    · rw [rdS_cell hc]; exact hf _ (cidx_lt hc)
    · have hd := this.resolve_left hc
      rw [rdS_digit (isD_notC hd)]; exact isV_digit hd
  · rw [if_neg h9]; exact hf q hq
/-- what both do one after the other they do at once -/
theorem ao_both {xs ys : List Mv} (h1 : MV xs) (h2 : MV ys) {s : ByteArray} (hs : stateV s = true) :
    aoB ys (aoB xs s) = aoB (compM xs ys) s ∧ (mvalid (compM xs ys) && stateV s) = true ∧ (aoB xs s).size = 11 := by
  have m1 : mvalid xs = true := by simpa [mvalid] using h1
  have m2 : mvalid ys = true := by simpa [mvalid] using h2
  have m3 : mvalid (compM xs ys) = true := by simpa [mvalid] using comp_MV h1 h2
  have e1 : aoB xs s = stB (aoS (tabOf xs) (ofB s)) := by rw [aoB, m1, hs]; rfl
  have hv : stateV (aoB xs s) = true := by rw [e1]; exact stateV_stB (isV_ao h1 (isV_ofB hs))
  refine ⟨?_, by rw [m3, hs]; rfl, by rw [e1]; rfl⟩
  rw [aoB, m2, hv]
  rw [show aoB (compM xs ys) s = stB (aoS (tabOf (compM xs ys)) (ofB s)) by rw [aoB, m3, hs]; rfl]
  show stB (aoS (tabOf ys) (ofB (aoB xs s))) = _
  refine stB_congr fun p hp => ?_
  rw [ao_comp h1 h2 _ p hp, e1]
  exact aoS_congr _ (fun q hq => stB_at _ q hq) p hp
theorem RdB.more {w w' : World} {B n : Nat} {v : Value} (h : RdB w B v n) (hb : Below w.heap.size w w') (hB : B ≤ w'.heap.size) : RdB w' w'.heap.size v n := by
  obtain ⟨A, cap, e, h1, h2, h3⟩ := h.keep (grown_below hb none) (fun r e => by cases e)
  refine ⟨A, cap, e, h1, h2, fun k hk => ?_⟩
  obtain ⟨b, off, c, e1, hb, hl, hc⟩ := h3 k hk
  exact ⟨b, off, c, e1, by omega, hl, hc⟩
end Go.PO
namespace Go.Proofs.Ytmifmfljiaoeaaa
open Go.RowKit Go.PM Go.PO

theorem imCompose_r (xs ys : List Mv) (v u : Value) (b : Bool) (hb : (mvalid xs && mvalid ys) = b) (w : World) (hx : RdM w v xs) (hy : RdM w u ys) :
    Calls Try.prog 16 #[v, u] w fun e w' => ∃ A cap, e = .returned (.tuple #[.slice A (compM xs ys).length cap, .bool b]) ∧ RdM w' (.slice A (compM xs ys).length cap) (compM xs ys) ∧ Below w.heap.size w w' :=
  (imComposeMoves_c xs ys v u w hx hy).mono fun e w' ⟨v', he, ho, hbl⟩ => by
    obtain ⟨A, cap, hv, hr⟩ := own_rdc ho rfl
    exact ⟨A, cap, by rw [he, hv, hb], hr, hbl⟩
theorem spCompose_r (xs ys : List Mv) (v u : Value) (b : Bool) (hb : (mvalid xs && mvalid ys) = b) (w : World) (hx : RdM w v xs) (hy : RdM w u ys) (hz : ∀ m ∈ xs, m.1.size ≤ 9223372036854775807 ∧ m.2.size ≤ 9223372036854775807) (hn : xs.length ≤ 1048576) (hz2 : ∀ m ∈ ys, m.1.size ≤ 9223372036854775807 ∧ m.2.size ≤ 9223372036854775807) (hn2 : ys.length ≤ 1048576) :
    Calls Try.prog 17 #[v, u] w fun e w' => ∃ A cap, e = .returned (.tuple #[.slice A (compM xs ys).length cap, .bool b]) ∧ RdM w' (.slice A (compM xs ys).length cap) (compM xs ys) ∧ Below w.heap.size w w' :=
  (spComposeMoves_c xs ys v u w hx hy hz hn hz2 hn2).mono fun e w' ⟨v', he, ho, hbl⟩ => by
    obtain ⟨A, cap, hv, hr⟩ := own_rdc ho rfl
    exact ⟨A, cap, by rw [he, hv, hb], hr, hbl⟩
theorem pmSame_yc (xs : List Mv) (v u : Value) (w : World) (hx : RdM w v xs) (hy : RdM w u xs) :
    Calls Try.prog 18 #[v, u] w fun e w' => e = .returned (.bool true) ∧ Below w.heap.size w w' := by
  have := pmSame_c xs xs v u w hx hy
  rwa [show decide (xs = xs) = true by simp] at this

set_option maxRecDepth 100000 in
set_option maxHeartbeats 800000 in
theorem l4Two_c (w : World) (B r : Nat) (p : Int) (hr : Rdr w 93 B r p) (p1 : p ≤ 900000) :
    Calls Try.prog 45 #[.pointer (some ⟨r, 0, none⟩)] w fun e w' => ∃ u v xs ys, e = .returned (.tuple #[u, v]) ∧ RdM w' u xs ∧ RdM w' v ys ∧ (xs.length ≤ 65 ∧ ∀ m ∈ xs, m.1.size ≤ 64 ∧ m.2.size ≤ 64) ∧ (ys.length ≤ 65 ∧ ∀ m ∈ ys, m.1.size ≤ 64 ∧ m.2.size ≤ 64) ∧ w.grownBy w' (some r) := by
  have hlt : r < w.heap.size := by obtain ⟨_, _, v, n, _, _, h⟩ := hr; exact h.lt
  have HS := Lib.hid (l1Some_c w B r p hr (by omega))
  go_enter Try.func45, Try.ntmps45
  go_wp2_with fail
  refine HS.out.mono ?_
  rintro e w1 ⟨u, xs, p', rfl, ho, hsh, R1, hp, g1⟩
  have HSH := Lib.hid hsh
  have hs1 := g1.size
  have HS2 := Lib.hid (l1Some_c w1 B r p' R1 (by omega))
  clear hsh HS
  go_wp2_with fail
  refine HS2.out.mono ?_
  rintro e w2 ⟨v, ys, p2, rfl, ho2, hsh2, R2, hp2, g2⟩
  have HSH2 := Lib.hid hsh2
  have ho3 := own_grown ho g2 (.inl (fun e => by have := own_block_ge ho r e; omega))
  have G := grown_trans g1 g2
  have q1 : RdM w2 u xs := Rd.of_own ho3
  have q2 : RdM w2 v ys := Rd.of_own ho2
  clear hsh2 HS2 ho ho2 ho3 g1 g2 R1 R2
  go_wp2
  go_ret2
  exact ⟨_, _, xs, ys, rfl, q1, q2, HSH.out, HSH2.out, G⟩
set_option maxRecDepth 100000 in
set_option maxHeartbeats 800000 in
theorem drawComposeMoves_c (w : World) (v : Value) (n : Nat) (hv : RdB w w.heap.size v n) :
    Calls Try.prog 15 #[v] w fun e w' => ∃ u v xs ys, e = .returned (.tuple #[u, v]) ∧ RdM w' u xs ∧ RdM w' v ys ∧ (xs.length ≤ 65 ∧ ∀ m ∈ xs, m.1.size ≤ 64 ∧ m.2.size ≤ 64) ∧ (ys.length ≤ 65 ∧ ∀ m ∈ ys, m.1.size ≤ 64 ∧ m.2.size ≤ 64) ∧ Below w.heap.size w w' := by
  have HO := Lib.hid (l13Open_c w v n hv)
  go_enter Try.func15, Try.ntmps15
  go_wp2_with fail
  refine HO.out.mono ?_
  rintro e w1 ⟨r, rfl, R1, b1⟩
  have hs1 := b1.size
  have hB := R1.1
  have HS := Lib.hid (l4Two_c w1 _ r 0 R1 (by omega))
  go_wp2_with fail
  refine HS.out.mono ?_
  rintro e w2 ⟨u, v2, xs, ys, rfl, q1, q2, hsh, hsh2, g2⟩
  have HSH := Lib.hid hsh
  have HSH2 := Lib.hid hsh2
  have b2 : Below w.heap.size w w2 := b1.trans (below_grown g2 hs1 (fun g e => by cases e; exact hB))
  clear HO HS hsh hsh2 g2 R1
  go_wp2
  go_ret2
  exact ⟨_, _, xs, ys, rfl, q1, q2, HSH.out, HSH2.out, b2⟩
end Go.Proofs.Ytmifmfljiaoeaaa
namespace Go.Proofs.Ytmifmfljiaoeaaa
open Go.RowKit Go.PM Go.PO
set_option maxRecDepth 100000 in
set_option maxHeartbeats 6400000 in
theorem exCompose (w : World) (v0 : Value) (n0 : Nat) (hv : RdB w w.heap.size v0 n0) (v1 : Value) (n1 : Nat) (hv1 : RdB w w.heap.size v1 n1) :
    Calls Try.prog 3 #[v0, v1] w fun e w' => e = .returned (.bool true) ∧ Below w.heap.size w w' := by
  have hv0 := hv
  have hv10 := hv1
  obtain ⟨A, cap, rfl, hc, hn, _⟩ := hv
  obtain ⟨A', cap', rfl, hc', hn', _⟩ := hv1
  by_cases hbig : 1048576 < n0
  · have t : decide ((n0 : Int) > 1048576) = true := by simp; omega
    go_enter Try.func3, Try.ntmps3
    go_wp2
    go_ret
    exact ⟨rfl, Below.refl _ _⟩
  have t : decide ((n0 : Int) > 1048576) = false := by simp; omega
  by_cases hbig1 : 1048576 < n1
  · have t1 : decide ((n1 : Int) > 1048576) = true := by simp; omega
    go_enter Try.func3, Try.ntmps3
    go_wp2
    go_ret
    exact ⟨rfl, Below.refl _ _⟩
  have t1 : decide ((n1 : Int) > 1048576) = false := by simp; omega
  have HD := Lib.hid (drawComposeMoves_c w _ n0 hv0)
  have HM := Lib.hid (fun W (hb : Below w.heap.size w W) => drawComposeMoves_c W _ n1 (RdB.more hv10 hb hb.size))
  clear hv0 hv10
  go_enter Try.func3, Try.ntmps3
  go_wp2_with fail
  refine HD.out.mono ?_
  rintro e w1 ⟨u, v, xs, ys, rfl, R1, S1, ⟨hl, hz⟩, ⟨hl2, hz2⟩, b1⟩
  have hs1 := b1.size
  have HZ : Hid (∀ m ∈ xs, m.1.size ≤ 9223372036854775807 ∧ m.2.size ≤ 9223372036854775807) := fun m hm => by have := hz m hm; omega
  have HZ2 : Hid (∀ m ∈ ys, m.1.size ≤ 9223372036854775807 ∧ m.2.size ≤ 9223372036854775807) := fun m hm => by have := hz2 m hm; omega
  clear HD hz hz2
  obtain ⟨b, hb⟩ : ∃ b, (mvalid xs && mvalid ys) = b := ⟨_, rfl⟩
  have HI := Lib.hid (fun W h1 h2 => imCompose_r xs ys u v b hb W h1 h2)
  have HSP := Lib.hid (fun W h1 h2 => spCompose_r xs ys u v b hb W h1 h2 HZ.out (by omega) HZ2.out (by omega))
  have HB := Lib.hid hb
  clear hb
  go_wp2_with fail
  refine (HI.out _ R1 S1).mono ?_
  rintro e w2 ⟨A2, c2, rfl, Q2, h2⟩
  have b2 := b1.trans (h2.mono hs1)
  have hs2 := b2.size
  have R2 := R1.below h2
  have S2 := S1.below h2
  clear h2 b1 R1 S1
  go_wp2_with fail
  refine (HSP.out _ R2 S2).mono ?_
  rintro e w3 ⟨A3, c3, rfl, P3, h3⟩
  have b3 := b2.trans (h3.mono hs2)
  have hs3 := b3.size
  have R3 := R2.below h3
  have S3 := S2.below h3
  have Q3 := Q2.below h3
  clear h3 b2 R2 S2 Q2
  go_wp2_with fail
  refine (pmSame_yc _ _ _ _ Q3 P3).mono ?_
  rintro e w4 ⟨rfl, h4⟩
  have b4 := b3.trans (h4.mono hs3)
  have hs4 := b4.size
  have R4 := R3.below h4
  have S4 := S3.below h4
  have Q4 := Q3.below h4
  have P4 := P3.below h4
  clear h4 b3 R3 S3 Q3 P3 HI HSP
  cases b with
  | false =>
    go_wp2_with fail
    refine (pmSame_yc _ _ _ _ Q4 P4).mono ?_
    rintro e w5 ⟨rfl, h5⟩
    have b5 := b4.trans (h5.mono hs4)
    clear h5 b4 R4 S4 Q4 P4
    go_wp2
    go_ret
    exact ⟨rfl, b5⟩
  | true =>
    have hb := HB.out
    rw [Bool.and_eq_true] at hb
    have h1 : MV xs := by simpa [mvalid] using hb.1
    have h2 : MV ys := by simpa [mvalid] using hb.2
    have hsv : stateV ⟨#[49, 50, 51, 52, 53, 54, 55, 56, 57, 120, 121]⟩ = true := by decide +kernel
    obtain ⟨ha1, ha2, ha3⟩ := ao_both h1 h2 hsv
    have HA := Lib.hid (fun W hW => imAtOnce_c xs u ⟨#[49, 50, 51, 52, 53, 54, 55, 56, 57, 120, 121]⟩ W hW (by decide))
    have HAB := Lib.hid (fun W hW => imAtOnce_c ys v (aoB xs ⟨#[49, 50, 51, 52, 53, 54, 55, 56, 57, 120, 121]⟩) W hW (by rw [ha3]; decide))
    have HAC := Lib.hid (fun W v' hW => imAtOnce_c (compM xs ys) v' ⟨#[49, 50, 51, 52, 53, 54, 55, 56, 57, 120, 121]⟩ W hW (by decide))
    rw [ha1] at HAB
    rw [ha2] at HAC
    have HMV := Lib.hid (show MV xs ∧ MV ys from ⟨h1, h2⟩)
    have HMC := Lib.hid (comp_MV h1 h2)
    clear hb h1 h2 ha1 ha2 ha3
    generalize aoB (compM xs ys) ⟨#[49, 50, 51, 52, 53, 54, 55, 56, 57, 120, 121]⟩ = ac at *
    generalize aoB xs ⟨#[49, 50, 51, 52, 53, 54, 55, 56, 57, 120, 121]⟩ = aa at *
    go_wp2_with fail
    refine (HA.out _ R4).mono ?_
    rintro e w5 ⟨rfl, h5⟩
    have b5 := b4.trans (h5.mono hs4)
    have hs5 := b5.size
    have R5 := R4.below h5
    have S5 := S4.below h5
    have Q5 := Q4.below h5
    clear h5 b4 R4 S4 Q4 P4
    go_wp2_with fail
    refine (HAB.out _ S5).mono ?_
    rintro e w6 ⟨rfl, h6⟩
    have b6 := b5.trans (h6.mono hs5)
    have hs6 := b6.size
    have R6 := R5.below h6
    have S6 := S5.below h6
    have Q6 := Q5.below h6
    clear h6 b5 R5 S5 Q5
    go_wp2_with fail
    refine (HAC.out _ _ Q6).mono ?_
    rintro e w7 ⟨rfl, h7⟩
    have b7 := b6.trans (h7.mono hs6)
    have hs7 := b7.size
    have R7 := R6.below h7
    have S7 := S6.below h7
    have Q7 := Q6.below h7
    clear h7 b6 R6 S6 Q6 HA HAB HAC
    go_wp2_with fail
    refine (HM.out _ b7).mono ?_
    rintro e w8 ⟨u8, v8, zs, ts, rfl, T8, _, ⟨hl8, hz8⟩, _, h8⟩
    have b8 := b7.trans (h8.mono hs7)
    have hs8 := b8.size
    have R8 := R7.below h8
    have S8 := S7.below h8
    have Q8 := Q7.below h8
    clear h8 b7 R7 S7 Q7 HM hz8
    obtain ⟨mz, hmz⟩ : ∃ mz, mvalid zs = mz := ⟨_, rfl⟩
    have hmc : mvalid (compM xs ys) = true := by simpa [mvalid] using HMC.out
    have hmx : mvalid xs = true := by simpa [mvalid] using HMV.out.1
    have hmy : mvalid ys = true := by simpa [mvalid] using HMV.out.2
    have HL := Lib.hid (fun W v' h1 h2 => imCompose_r (compM xs ys) zs v' u8 mz (by rw [hmc, hmz]; rfl) W h1 h2)
    have HN := Lib.hid (fun W h1 h2 => imCompose_r ys zs v u8 mz (by rw [hmy, hmz]; rfl) W h1 h2)
    have HR := Lib.hid (fun W v' bb h1 h2 h3 => imCompose_r xs (compM ys zs) u v' bb h1 W h2 h3)
    have HAS : Hid (mz = true → compM (compM xs ys) zs = compM xs (compM ys zs) ∧ (mvalid xs && mvalid (compM ys zs)) = true) := fun h => by
      have h3 : MV zs := by rw [h] at hmz; simpa [mvalid] using hmz
      have h4 : mvalid (compM ys zs) = true := by simpa [mvalid] using comp_MV HMV.out.2 h3
      exact ⟨comp_assoc HMV.out.1 HMV.out.2 h3, by rw [hmx, h4]; rfl⟩
    clear hmz hmc hmx hmy
    go_wp2_with fail
    refine (HL.out _ _ Q8 T8).mono ?_
    rintro e w9 ⟨A9, c9, rfl, L9, h9⟩
    have b9 := b8.trans (h9.mono hs8)
    have hs9 := b9.size
    have R9 := R8.below h9
    have S9 := S8.below h9
    have T9 := T8.below h9
    clear h9 b8 R8 S8 Q8 T8
    go_wp2_with fail
    refine (HN.out _ S9 T9).mono ?_
    rintro e wa ⟨Aa, ca, rfl, Na, ha⟩
    have ba := b9.trans (ha.mono hs9)
    have hsa := ba.size
    have Ra := R9.below ha
    have La := L9.below ha
    clear ha b9 R9 S9 T9 L9 HL HN
    cases mz with
    | true =>
      obtain ⟨hq1, hq2⟩ := HAS.out rfl
      have HR2 := Lib.hid (HR.out wa _ true hq2 Ra Na)
      rw [← hq1] at HR2
      clear hq1 hq2
      go_wp2_with fail
      refine HR2.out.mono ?_
      rintro e wb ⟨Ab, cb, rfl, Rb, hb⟩
      have bb := ba.trans (hb.mono hsa)
      have hsb := bb.size
      have Lb := La.below hb
      clear hb ba Ra La Na
      go_wp2_with fail
      refine (pmSame_yc _ _ _ _ Lb Rb).mono ?_
      rintro e wc ⟨rfl, hc2⟩
      have bc := bb.trans (hc2.mono hsb)
      clear hc2 bb Lb Rb
      go_wp2
      go_ret
      exact ⟨rfl, bc⟩
    | false =>
      obtain ⟨bb2, hbb⟩ : ∃ bb, (mvalid xs && mvalid (compM ys zs)) = bb := ⟨_, rfl⟩
      have HR2 := Lib.hid (HR.out wa _ bb2 hbb Ra Na)
      clear hbb
      go_wp2_with fail
      refine HR2.out.mono ?_
      rintro e wb ⟨Ab, cb, rfl, Rb, hb⟩
      have bb := ba.trans (hb.mono hsa)
      clear hb ba Ra La Na Rb
      go_wp2
      go_ret
      exact ⟨rfl, bb⟩

namespace fnCompose
open Go.RowKit Go.PM Go.ChangeShapes Go.WideShapes Go.ChangeAt
open Go.ChangeMaps (open_string shut_string)
set_option maxRecDepth 100000 in
theorem lifted (os : Os) (started : os.Started) (H : Type) (enc : TypeId × Value → H) :
    ReturnsInHanded {} Try.checked os 3 .any (Rows.fnComposeSpec.pre6 enc Try.prog Try.f3 Rows.fnComposeRow.domain false) (Rows.fnComposeSpec.post enc Try.prog Try.f3 false true false false) := by
  refine returnsInHanded_of_change (C := Try.checked) own started (by kernel_rfl) Try.func3
    (ChangeSpec.witness6 (enc := enc) (C := Try.checked) false ⟨#[], #[.slice none 0 0, .slice none 0 0], []⟩ 8 (by kernel_rfl) (by kernel_rfl) (by kernel_rfl) (by kernel_rfl)) ?_
  intro W base args ds gs before hval0 hW hcnd _
  have hval : ∀ (j : Nat) t v, Try.f3.params[j]? = some t → args[j]? = some v → Value.okWide Try.prog W .any base t v := hval0
  have hW' := hW
  obtain ⟨p, q, hA0, hV, rfl, hfz, hnd⟩ := hW
  have hA : DataW.TrodAll enc Try.prog W 0 (fun _ => true) true Try.f3.params.toList args.toList ds p := hA0
  rw [Try.params3] at hA hval
  obtain ⟨v0, vs0, d0, ds0, p0, q0, hargs, rfl, rfl, h0, r0⟩ := trodAll_cons hA
  obtain ⟨v1, vs1, d1, ds1, p1, q1, rfl, rfl, rfl, h1, r1⟩ := trodAll_cons r0
  obtain ⟨rfl, rfl, rfl⟩ := trodAll_nil r1
  obtain rfl : args = #[v0, v1] := by cases args; simp_all
  obtain ⟨rfl, rfl⟩ := trodVars_none hV
  have k0 := h0
  have lt0 : ∀ x ∈ p0, x.block < W.heap.size := by obtain ⟨m, hm⟩ := k0; exact DataW.trod_lt m _ _ _ hm
  have k1 := h1
  have lt1 : ∀ x ∈ p1, x.block < W.heap.size := by obtain ⟨m, hm⟩ := k1; exact DataW.trod_lt m _ _ _ hm
  obtain ⟨a0, len0, cap0, rfl⟩ := okWide_slice Try.underlying22 (hval 0 22 v0 rfl rfl)
  have hx0 : RdB W W.heap.size (.slice a0 len0 cap0) len0 := by obtain ⟨fuel, hf⟩ := h0; exact open_bytes hf
  obtain ⟨a1, len1, cap1, rfl⟩ := okWide_slice Try.underlying22 (hval 1 22 v1 rfl rfl)
  have hx1 : RdB W W.heap.size (.slice a1 len1 cap1) len1 := by obtain ⟨fuel, hf⟩ := h1; exact open_bytes hf
  clear hA0 hval0
  refine (exCompose W _ len0 hx0 _ len1 hx1).mono fun e W' ⟨he, bel⟩ => ?_
  subst he
  exact ⟨_, rfl, _, _, _, [], _, [], hW', trodAll_mk1 (shut_bool Try.underlying4 _), (trodAll_cons_mk (Below.trod laidOut (by kernel_rfl) (of_decide_eq_true (by kernel_rfl)) k0 bel lt0) (trodAll_cons_mk (Below.trod laidOut (by kernel_rfl) (of_decide_eq_true (by kernel_rfl)) k1 bel lt1) trodAll_mk0)), rfl, bel.frame _, fun h => by cases h⟩

theorem over : Rows.fnComposeRow.holds Try.pinned (OpenSpec.ofChange Rows.fnComposeSpec) :=
  OpenClaim.holds_of_wide 3 Try.f3 rfl rfl rfl rfl rfl rfl rfl ⟨rfl, rfl, rfl, rfl, rfl⟩ rfl rfl rfl rfl rfl (by kernel_rfl) Try.func3 (by kernel_rfl)
    (of_decide_eq_true (by kernel_rfl)) (by unfold Func.isWrapper; first | (rw [if_pos (by decide +kernel)]; kernel_rfl) | (rw [if_neg (by decide +kernel)]; exact ⟨rfl, rfl⟩))
    (fun os started H enc _ => lifted os started H enc)

/-- The statement. -/
theorem proved : Rows.FnComposeSaid := over
end fnCompose
end Go.Proofs.Ytmifmfljiaoeaaa
