import Derived.Test.YtcpibkffeenehaaDoorCkB
import Derived.Test.YtcpibkffeenehaaDoorCkA
namespace Go.Proofs.YtcpibkffeenehaaDoor
open Go.RowKit Go.PM Go.PD Go.PF
attribute [local go_sem] Oper.semAt_some

set_option maxRecDepth 100000 in
set_option maxHeartbeats 2000000 in
theorem imArgsOf_c (ps : ByteArray) (hp : ps.size ≤ 1048576) (xs : List Mv) (v : Value) (w : World) (hx : RdM w v xs) :
    Calls Tryd.prog 25 #[.string ps, v] w fun e w' => e = .returned (.tuple #[.string (agB ps.data.toList xs), .bool (agOk ps.data.toList xs)]) ∧ Below w.heap.size w w' := by
  have HV := Lib.hid (fun W => parValid_c ps W)
  have HOB : Hid (agB ps.data.toList xs = okS (agOk ps.data.toList xs) (arB (srcM xs) ps.data.toList)) := rfl
  have HOK : Hid (agOk ps.data.toList xs = ((parOk ps.data.toList && mvalid xs) && agS ps.data.toList xs)) := rfl
  have HO1 : Hid (∀ s, okS true s = s) := fun _ => rfl
  have HO0 : Hid (∀ s, okS false s = ⟨#[]⟩) := fun _ => rfl
  rw [HOB.out, HOK.out]
  clear HOB HOK
  by_cases h2 : MV xs
  · have m2 : mvalid xs = true := by simpa [mvalid] using h2
    have HX := Lib.hid (tableOf_yes xs h2 v w hx)
    rcases Bool.eq_false_or_eq_true (parOk ps.data.toList) with h1 | h1
    · have HT := Lib.hid (fun W => takeAll_c ps (tabOf xs) W)
      rw [mvT_idle, show (lsF (srcT (tabOf xs)) 9).all (inPs ps.data.toList) = agI ps.data.toList xs from rfl, agI_S _ h2] at HT
      have hZ : ∀ c ∈ ps.data.toList, (behF (tabOf xs) (ch c)).size = 1 := fun c hc => by
        unfold behF
        rw [if_pos (par_place h1 c hc)]
        exact isS_size (SVal_tab h2 _ (ch_nm (par_place h1 c hc)).1)
      have HA := Lib.hid (fun W => parArgs_c ps (tabOf xs) hp (par_place h1) hZ W)
      rw [beh_src h1 h2] at HA
      rw [h1, m2]
      rw [h1] at HV
      clear h1 h2 hx m2 hZ
      rcases Bool.eq_false_or_eq_true (agS ps.data.toList xs) with h3 | h3
      · rw [h3] at HT ⊢
        rw [show okS (true && true && true) (arB (srcM xs) ps.data.toList) = arB (srcM xs) ps.data.toList from rfl]
        clear h3
        generalize arB (srcM xs) ps.data.toList = ar at *
        generalize tabOf xs = f at *
        go_enter Tryd.func25, Tryd.ntmps25
        go_wp2_with fail
        refine HX.out.mono ?_
        rintro e w1 ⟨rfl, hb1⟩
        have hs1 := hb1.size
        have k1 : At (w1.alloc (.cells (tabA f) 63)) w1.heap.size 63 (tabC f) := At.new w1 _ _
        have hB1 := hb1.alloc hs1 (.cells (tabA f) 63)
        clear hb1
        go_wp2_with (first | (go_at_call 52; refine (HV.out _).mono ?_; rintro e w' ⟨rfl, rfl⟩) | (refine ld_row rfl 63 (.tmp 7) rfl w1.heap.size 63 (tabC f) k1 (by rfl) 9 9 Tryd.underlying63 (by kernel_rfl) ?_) | (go_at_call 53; refine (HT.out _).mono ?_; rintro e w2 ⟨rfl, hb2⟩; refine held ?_))
        unfold Held
        have k2 := k1.keep hb2
        have hB2 := hB1.trans (hb2.mono hB1.size)
        have hs2 := hB2.size
        clear hb2 hB1 k1
        go_wp2_with (first | (refine ld_row rfl 63 (.tmp 7) rfl w1.heap.size 63 (tabC f) k2 (by rfl) 9 9 Tryd.underlying63 (by kernel_rfl) ?_) | (go_at_call 54; refine (HA.out _).mono ?_; rintro e w3 ⟨rfl, hb3⟩; refine held ?_))
        unfold Held
        have hB3 := hB2.trans (hb3.mono hs2)
        clear hb3 hB2 k2
        go_wp2
        go_ret2
        exact ⟨rfl, hB3⟩
      · rw [h3] at HT ⊢
        rw [show okS (true && true && false) (arB (srcM xs) ps.data.toList) = ⟨#[]⟩ from rfl]
        clear h3 HA
        generalize tabOf xs = f at *
        go_enter Tryd.func25, Tryd.ntmps25
        go_wp2_with fail
        refine HX.out.mono ?_
        rintro e w1 ⟨rfl, hb1⟩
        have hs1 := hb1.size
        have k1 : At (w1.alloc (.cells (tabA f) 63)) w1.heap.size 63 (tabC f) := At.new w1 _ _
        have hB1 := hb1.alloc hs1 (.cells (tabA f) 63)
        clear hb1
        go_wp2_with (first | (go_at_call 52; refine (HV.out _).mono ?_; rintro e w' ⟨rfl, rfl⟩) | (refine ld_row rfl 63 (.tmp 7) rfl w1.heap.size 63 (tabC f) k1 (by rfl) 9 9 Tryd.underlying63 (by kernel_rfl) ?_) | (go_at_call 53; refine (HT.out _).mono ?_; rintro e w2 ⟨rfl, hb2⟩; refine held ?_))
        unfold Held
        have hB2 := hB1.trans (hb2.mono hB1.size)
        clear hb2 hB1 k1
        go_wp2
        go_ret2
        exact ⟨rfl, hB2⟩
    · rw [h1, m2]
      rw [h1] at HV
      rw [show okS (false && true && agS ps.data.toList xs) (arB (srcM xs) ps.data.toList) = ⟨#[]⟩ from rfl, show (false && true && agS ps.data.toList xs) = false from rfl]
      clear h1 h2 hx m2
      generalize tabOf xs = f at *
      go_enter Tryd.func25, Tryd.ntmps25
      go_wp2_with fail
      refine HX.out.mono ?_
      rintro e w1 ⟨rfl, hb1⟩
      have hB1 := hb1.alloc hb1.size (.cells (tabA f) 63)
      go_wp2_with (first | (go_at_call 52; refine (HV.out _).mono ?_; rintro e w' ⟨rfl, rfl⟩))
      go_ret2
      exact ⟨rfl, hB1⟩
  · have m2 : mvalid xs = false := by simpa [mvalid] using h2
    have HX := Lib.hid (tableOf_no xs h2 v w hx)
    rw [m2, Bool.and_false, Bool.false_and]
    rw [show okS false (arB (srcM xs) ps.data.toList) = ⟨#[]⟩ from rfl]
    clear h2 hx m2
    go_enter Tryd.func25, Tryd.ntmps25
    go_wp2_with fail
    refine HX.out.mono ?_
    rintro e w1 ⟨rfl, hb1⟩
    have hB1 := hb1.alloc hb1.size (.cells zA 63)
    go_wp2
    go_ret2
    exact ⟨rfl, hB1⟩
end Go.Proofs.YtcpibkffeenehaaDoor
namespace Go.PF
open Go.PM Go.PD Go.RowKit Go.Lib
theorem mv_sz {xs : List Mv} (h : MV xs) : ∀ m ∈ xs, m.1.size ≤ 9223372036854775807 ∧ m.2.size ≤ 9223372036854775807 := fun m hm => by
  have := h.1 m hm
  unfold mok at this
  rw [Bool.and_eq_true] at this
  rw [isP_size this.1, isS_size this.2]
  decide
def sdOk (ps az : ByteArray) : Bool := clOk ps.data.toList az.data.toList && decide (ps = az)
def ag0 (ps : List UInt8) (xs : List Mv) (k : Nat) : Prop := ∀ j (_ : j < k) (hj : j < xs.length), (decide (xs[j].1 = xs[j].2) || inPs ps xs[j]) = true
theorem arB_one {ps : List UInt8} (hp : parOk ps = true) {xs : List Mv} (h : MV xs) : ∀ c ∈ ps, (srcM xs (ch c)).size = 1 := fun c hc => src_one h (par_place hp c hc)
end Go.PF
namespace Go.Proofs.YtcpibkffeenehaaDoor
open Go.RowKit Go.PM Go.PD Go.PF Go.Lib
attribute [local go_sem] Oper.semAt_some
def coI (ps az : List UInt8) : Int := if clOk ps az then cioI (clM ps az) else -1

set_option maxRecDepth 100000 in
set_option maxHeartbeats 1000000 in
theorem spSteadyParams_c (ps az : ByteArray) (hp : ps.size ≤ 1048576) (ha : az.size ≤ 1048576) (w : World) :
    Calls Tryd.prog 18 #[.string ps, .string az] w fun e w' => e = .returned (.tuple #[.string (sdB ps.data.toList az.data.toList), .bool (clOk ps.data.toList az.data.toList)]) ∧ Below w.heap.size w w' := by
  have HV := Lib.hid (spCallValid_c ps az hp ha w)
  rcases Bool.eq_false_or_eq_true (clOk ps.data.toList az.data.toList) with h1 | h1
  · have hl := cl_len h1
    have hl4 := (par_len (cl_par h1)).2
    rw [size_data] at hl4
    rw [size_data, size_data] at hl
    have HF : Hid (sdB ps.data.toList az.data.toList = pickB ps.data.toList (sdH ps.data.toList az.data.toList) ps.size) := by
      show _ = _
      unfold sdB sdT okS
      rw [h1, if_pos rfl, size_data]
    have HX := Lib.hid (fun k hk => extract_one ps k hk)
    have HS := Lib.hid (fun k => pickB_succ ps.data.toList (sdH ps.data.toList az.data.toList) k)
    have HZ := Lib.hid (fun k => pickB_size ps.data.toList (sdH ps.data.toList az.data.toList) k)
    have HH : Hid (∀ k (hk : k < ps.size) (hk2 : k < az.size), sdH ps.data.toList az.data.toList k = decide ((ps[k].toNat : Int) = (az[k].toNat : Int))) := fun k hk hk2 => by
      have g1 : ps.data.toList[k]? = some ps[k] := List.getElem?_eq_getElem (by rw [size_data]; exact hk)
      have g2 : az.data.toList[k]? = some az[k] := List.getElem?_eq_getElem (by rw [size_data]; exact hk2)
      unfold sdH
      rw [List.getD_eq_getElem?_getD, List.getD_eq_getElem?_getD, g1, g2, decide_eq_decide]
      constructor
      · intro h; have h' : ps[k] = az[k] := h; rw [h']
      · intro h
        refine UInt8.toNat_inj.1 ?_
        show ps[k].toNat = az[k].toNat
        omega
    have H0 : Hid (pickB ps.data.toList (sdH ps.data.toList az.data.toList) 0 = ⟨#[]⟩) := rfl
    have H1 := Lib.hid h1
    clear h1
    generalize clOk ps.data.toList az.data.toList = r at *
    generalize sdB ps.data.toList az.data.toList = sd at *
    generalize sdH ps.data.toList az.data.toList = h at *
    generalize ps.data.toList = pl at *
    cases H1.out
    go_enter Tryd.func18, Tryd.ntmps18
    go_wp2_with fail
    refine HV.out.mono ?_
    rintro e w1 ⟨rfl, hb1⟩
    have hs1 := hb1.size
    go_wp2
    go_loopw [6, 7, 14] (fun o _ i wr => ∃ (k : Nat), k ≤ ps.size ∧ i = .int .i64 k ∧ o = .string (pickB pl h k) ∧ Below w.heap.size w wr) (fun _ _ i _ => ps.size - (RowKit.intOf i).toNat)
    case atStart => exact ⟨0, by omega, rfl, by rw [H0.out], hb1⟩
    case round =>
      obtain ⟨k, hk, rfl, rfl, hb⟩ := hrel
      have hbs := hb.size
      by_cases hlt : k < ps.size
      · have i0 : (0 : Int) ≤ (k : Int) := by omega
        have i1 : (k : Int) < (ps.size : Int) := by omega
        have i2 : (k : Int) + 1 ≤ (ps.size : Int) := by omega
        have i3 : (k : Int) < (az.size : Int) := by omega
        have hlt2 : k < az.size := by omega
        have hx := HX.out k hlt
        have hhk := HH.out k hlt hlt2
        have hs := HS.out k
        have hz := HZ.out k
        have hone : (⟨#[pl.getD k 0]⟩ : ByteArray).size = 1 := rfl
        have bd : Below w.heap.size w wr.drew := hb.drew
        generalize (⟨#[pl.getD k 0]⟩ : ByteArray) = q at *
        generalize pickB pl h k = cur at *
        generalize hc1 : ps[k] = c1 at *
        generalize hc2 : az[k] = c2 at *
        by_cases hcc : (c1.toNat : Int) = (c2.toNat : Int)
        · have t1 : ((c1.toNat : Int) == (c2.toNat : Int)) = true := by simpa using hcc
          rw [hhk, decide_eq_true hcc, if_pos rfl] at hs
          have HSS := Lib.hid hs
          clear hs hhk hcc
          go_wp2
          refine wp_region_quiet (C := fun w' => w' = wr.drew) (by kernel_rfl) (by kernel_rfl) rfl ?_
          simp only
          repeat (go_big_quiet_step (fail))
          refine wpQuiet_nil ?_
          intro w' hw'
          subst hw'
          go_wp2
          go_roundw
          case rel => exact ⟨k + 1, by omega, by go_num, by rw [HSS.out], bd⟩
          case measure => simp [RowKit.intOf]; omega
        · have t1 : ((c1.toNat : Int) == (c2.toNat : Int)) = false := by simpa using hcc
          rw [hhk, decide_eq_false hcc] at hs
          have HSS := Lib.hid hs
          clear hs hhk hcc
          go_wp2
          refine wp_region_quiet (C := fun w' => w' = wr.drew) (by kernel_rfl) (by kernel_rfl) rfl ?_
          simp only
          repeat (go_big_quiet_step (fail))
          refine wpQuiet_nil ?_
          intro w' hw'
          subst hw'
          go_wp2
          go_roundw
          case rel => exact ⟨k + 1, by omega, by go_num, by rw [HSS.out]; rfl, bd⟩
          case measure => simp [RowKit.intOf]; omega
      · have HK : Hid (k = ps.size) := by show _ = _; omega
        have i1 : ¬ (k : Int) < (ps.size : Int) := by omega
        go_wp2
        go_ret2
        exact ⟨by rw [HF.out, HK.out]; rfl, hb⟩
  · have HF : Hid (sdB ps.data.toList az.data.toList = ⟨#[]⟩) := by
      show _ = _
      unfold sdB okS
      rw [h1]; rfl
    have H1 := Lib.hid h1
    clear h1
    generalize clOk ps.data.toList az.data.toList = r at *
    generalize sdB ps.data.toList az.data.toList = sd at *
    cases H1.out
    go_enter Tryd.func18, Tryd.ntmps18
    go_wp2_with fail
    refine HV.out.mono ?_
    rintro e w1 ⟨rfl, hb1⟩
    go_wp2
    go_ret2
    exact ⟨by rw [HF.out]; rfl, hb1⟩
set_option maxHeartbeats 800000 in
theorem spIsSteady_c (ps az : ByteArray) (hp : ps.size ≤ 1048576) (ha : az.size ≤ 1048576) (w : World) :
    Calls Tryd.prog 24 #[.string ps, .string az] w fun e w' => e = .returned (.bool (sdOk ps az)) ∧ Below w.heap.size w w' := by
  have HV := Lib.hid (spCallValid_c ps az hp ha w)
  have HO : Hid (sdOk ps az = (clOk ps.data.toList az.data.toList && decide (ps = az))) := rfl
  have hbq := beq_str ps az
  generalize clOk ps.data.toList az.data.toList = r at *
  cases r with
  | true =>
    by_cases he : ps = az
    · rw [decide_eq_true he] at hbq HO
      have HO2 : Hid (sdOk ps az = true) := HO.out
      generalize sdOk ps az = so at *
      clear he HO
      go_enter Tryd.func24, Tryd.ntmps24
      go_wp2_with fail
      refine HV.out.mono ?_
      rintro e w1 ⟨rfl, hb1⟩
      go_wp2
      go_ret
      exact ⟨by rw [HO2.out]; rfl, hb1⟩
    · rw [decide_eq_false he] at hbq HO
      have HO2 : Hid (sdOk ps az = false) := HO.out
      generalize sdOk ps az = so at *
      clear he HO
      go_enter Tryd.func24, Tryd.ntmps24
      go_wp2_with fail
      refine HV.out.mono ?_
      rintro e w1 ⟨rfl, hb1⟩
      go_wp2
      go_ret
      exact ⟨by rw [HO2.out]; rfl, hb1⟩
  | false =>
    have HO2 : Hid (sdOk ps az = false) := HO.out
    generalize sdOk ps az = so at *
    clear HO hbq
    go_enter Tryd.func24, Tryd.ntmps24
    go_wp2_with fail
    refine HV.out.mono ?_
    rintro e w1 ⟨rfl, hb1⟩
    go_wp2
    go_ret
    exact ⟨by rw [HO2.out]; rfl, hb1⟩
set_option maxHeartbeats 800000 in
theorem spCallCost_c (ps az : ByteArray) (hp : ps.size ≤ 1048576) (ha : az.size ≤ 1048576) (w : World) :
    Calls Tryd.prog 22 #[.string ps, .string az] w fun e w' => e = .returned (.int .i64 (coI ps.data.toList az.data.toList)) ∧ Below w.heap.size w w' := by
  have HV := Lib.hid (spCallValid_c ps az hp ha w)
  rcases Bool.eq_false_or_eq_true (clOk ps.data.toList az.data.toList) with h1 | h1
  · have hl := cl_len h1
    have hl4 := (par_len (cl_par h1)).2
    rw [size_data] at hl4
    rw [size_data, size_data] at hl
    have HM := Lib.hid (fun W => l10Moves_c ps az hl hl4 W)
    have HC := Lib.hid (fun v W hx => spCountInOrder_c (clM ps.data.toList az.data.toList) v W hx (mv_sz (cl_MV h1)) (by have := MV_len (cl_MV h1); omega))
    have HO : Hid (coI ps.data.toList az.data.toList = cioI (clM ps.data.toList az.data.toList)) := if_pos h1
    have H1 := Lib.hid h1
    clear h1 hl hl4
    generalize clOk ps.data.toList az.data.toList = r at *
    generalize coI ps.data.toList az.data.toList = co at *
    generalize clM ps.data.toList az.data.toList = xs at *
    cases H1.out
    go_enter Tryd.func22, Tryd.ntmps22
    go_wp2_with fail
    refine HV.out.mono ?_
    rintro e w1 ⟨rfl, hb1⟩
    have hs1 := hb1.size
    go_wp2_with fail
    refine (HM.out _).mono ?_
    rintro e w2 ⟨v', rfl, ho, hb2⟩
    have hB2 := hb1.trans (hb2.mono hs1)
    have hs2 := hB2.size
    have hR : RdM w2 v' xs := Rd.of_own ho
    go_wp2_with fail
    refine (HC.out _ _ hR).mono ?_
    rintro e w3 ⟨rfl, hb3⟩
    go_wp2
    go_ret
    exact ⟨by rw [HO.out]; rfl, hB2.trans (hb3.mono hs2)⟩
  · have HO : Hid (coI ps.data.toList az.data.toList = -1) := by show _ = _; unfold coI; rw [h1]; rfl
    have H1 := Lib.hid h1
    clear h1
    generalize clOk ps.data.toList az.data.toList = r at *
    generalize coI ps.data.toList az.data.toList = co at *
    cases H1.out
    go_enter Tryd.func22, Tryd.ntmps22
    go_wp2_with fail
    refine HV.out.mono ?_
    rintro e w1 ⟨rfl, hb1⟩
    go_wp2
    go_ret
    exact ⟨by rw [HO.out]; rfl, hb1⟩
set_option maxRecDepth 100000 in
set_option maxHeartbeats 1000000 in
theorem spCallAfter_c (ps az bz : ByteArray) (hp : ps.size ≤ 1048576) (ha : az.size ≤ 1048576) (hb : bz.size ≤ 1048576) (w : World) :
    Calls Tryd.prog 30 #[.string ps, .string az, .string bz] w fun e w' => e = .returned (.tuple #[.string (caB ps.data.toList az.data.toList bz.data.toList), .bool (caOk ps.data.toList az.data.toList bz.data.toList)]) ∧ Below w.heap.size w w' := by
  have HV1 := Lib.hid (spCallValid_c ps az hp ha w)
  have HV2 := Lib.hid (fun W => spCallValid_c ps bz hp hb W)
  have HOK : Hid (caOk ps.data.toList az.data.toList bz.data.toList = (clOk ps.data.toList az.data.toList && clOk ps.data.toList bz.data.toList)) := rfl
  have HOB : Hid (caB ps.data.toList az.data.toList bz.data.toList = okS (caOk ps.data.toList az.data.toList bz.data.toList) (arB (caS (clM ps.data.toList az.data.toList) (clM ps.data.toList bz.data.toList)) ps.data.toList)) := rfl
  rcases Bool.eq_false_or_eq_true (clOk ps.data.toList az.data.toList) with h1 | h1
  · rcases Bool.eq_false_or_eq_true (clOk ps.data.toList bz.data.toList) with h2 | h2
    · have hl := cl_len h1
      have hl2 := cl_len h2
      have hl4 := (par_len (cl_par h1)).2
      rw [size_data] at hl4
      rw [size_data, size_data] at hl hl2
      have HM1 := Lib.hid (fun W => l10Moves_c ps az hl hl4 W)
      have HM2 := Lib.hid (fun W => l10Moves_c ps bz hl2 hl4 W)
      have HC := Lib.hid (fun v u W hx hy => l4Compose_c (clM ps.data.toList az.data.toList) (clM ps.data.toList bz.data.toList) v u W hx hy)
      have hMV : MV (lsF (cmpM (clM ps.data.toList az.data.toList) (clM ps.data.toList bz.data.toList)) 9) := lsF_MV (SVal_cmp (SVal_M (cl_MV h1)) (SVal_M (cl_MV h2)))
      have HA := Lib.hid (fun v W hx => l10Args_c ps (lsF (cmpM (clM ps.data.toList az.data.toList) (clM ps.data.toList bz.data.toList)) 9) v W hx hp (arB_one (cl_par h1) hMV))
      rw [src_comp (cl_par h1)] at HA
      rw [HOB.out, HOK.out, h1, h2]
      rw [h1] at HV1
      rw [h2] at HV2
      clear h1 h2 hl hl2 hl4 hMV HOK HOB
      have HOS : Hid (∀ s, okS (true && true) s = s) := fun _ => rfl
      rw [HOS.out]
      generalize arB (caS (clM ps.data.toList az.data.toList) (clM ps.data.toList bz.data.toList)) ps.data.toList = ar at *
      generalize lsF (cmpM (clM ps.data.toList az.data.toList) (clM ps.data.toList bz.data.toList)) 9 = zs at *
      generalize clM ps.data.toList az.data.toList = xs at *
      generalize clM ps.data.toList bz.data.toList = ys at *
      go_enter Tryd.func30, Tryd.ntmps30
      go_wp2_with fail
      refine HV1.out.mono ?_
      rintro e w1 ⟨rfl, hb1⟩
      have hs1 := hb1.size
      go_wp2_with fail
      refine (HV2.out _).mono ?_
      rintro e w2 ⟨rfl, hb2⟩
      have hB2 := hb1.trans (hb2.mono hs1)
      have hs2 := hB2.size
      clear hb1 hb2
      go_wp2_with fail
      refine (HM1.out _).mono ?_
      rintro e w3 ⟨v3, rfl, ho3, hb3⟩
      have hB3 := hB2.trans (hb3.mono hs2)
      have hs3 := hB3.size
      have hR3 : RdM w3 v3 xs := Rd.of_own ho3
      clear hb3 ho3 hB2
      go_wp2_with fail
      refine (HM2.out _).mono ?_
      rintro e w4 ⟨v4, rfl, ho4, hb4⟩
      have hB4 := hB3.trans (hb4.mono hs3)
      have hs4 := hB4.size
      have hR4 : RdM w4 v4 ys := Rd.of_own ho4
      have hR34 := hR3.below hb4
      clear hb4 ho4 hB3 hR3
      go_wp2_with fail
      refine (HC.out _ _ _ hR34 hR4).mono ?_
      rintro e w5 ⟨v5, rfl, ho5, hb5⟩
      have hB5 := hB4.trans (hb5.mono hs4)
      have hs5 := hB5.size
      have hR5 : RdM w5 v5 zs := Rd.of_own ho5
      clear hb5 ho5 hB4 hR34 hR4
      go_wp2_with fail
      refine (HA.out _ _ hR5).mono ?_
      rintro e w6 ⟨rfl, hb6⟩
      have hB6 := hB5.trans (hb6.mono hs5)
      go_wp2
      go_ret2
      exact ⟨rfl, hB6⟩
    · rw [HOB.out, HOK.out, h1, h2]
      rw [h1] at HV1
      rw [h2] at HV2
      clear h1 h2 HOK HOB
      have HOS : Hid (∀ s, okS (true && false) s = ⟨#[]⟩) := fun _ => rfl
      rw [HOS.out]
      go_enter Tryd.func30, Tryd.ntmps30
      go_wp2_with fail
      refine HV1.out.mono ?_
      rintro e w1 ⟨rfl, hb1⟩
      have hs1 := hb1.size
      go_wp2_with fail
      refine (HV2.out _).mono ?_
      rintro e w2 ⟨rfl, hb2⟩
      have hB2 := hb1.trans (hb2.mono hs1)
      go_wp2
      go_ret2
      exact ⟨rfl, hB2⟩
  · rw [HOB.out, HOK.out, h1]
    rw [h1] at HV1
    clear h1 HOK HOB
    have HOS : Hid (∀ b s, okS (false && b) s = ⟨#[]⟩) := fun _ _ => rfl
    rw [HOS.out]
    go_enter Tryd.func30, Tryd.ntmps30
    go_wp2_with fail
    refine HV1.out.mono ?_
    rintro e w1 ⟨rfl, hb1⟩
    go_wp2
    go_ret2
    exact ⟨rfl, hb1⟩
set_option maxRecDepth 100000 in
set_option maxHeartbeats 1000000 in
theorem spLoopAfter_c (ps az : ByteArray) (n : Int) (hp : ps.size ≤ 1048576) (ha : az.size ≤ 1048576) (w : World) :
    Calls Tryd.prog 33 #[.string ps, .string az, .int .i64 n] w fun e w' => e = .returned (.tuple #[.string (laB ps.data.toList az.data.toList n), .bool (laOk ps.data.toList az.data.toList n)]) ∧ Below w.heap.size w w' := by
  have HV1 := Lib.hid (spCallValid_c ps az hp ha w)
  have HI := Lib.hid (fun W => l1In_c n 0 60 W)
  have HIB : Hid (inB n 0 60 = (decide (0 ≤ n) && decide (n ≤ 60))) := by show inB n 0 60 = _; unfold inB; rw [Bool.decide_and]
  rw [HIB.out] at HI
  have HOK : Hid (laOk ps.data.toList az.data.toList n = (clOk ps.data.toList az.data.toList && (decide (0 ≤ n) && decide (n ≤ 60)))) := rfl
  have HOB : Hid (laB ps.data.toList az.data.toList n = okS (laOk ps.data.toList az.data.toList n) (arB (laS (clM ps.data.toList az.data.toList) n.toNat) ps.data.toList)) := rfl
  rw [HOB.out, HOK.out]
  clear HOK HOB HIB
  rcases Bool.eq_false_or_eq_true (clOk ps.data.toList az.data.toList) with h1 | h1
  · rcases Bool.eq_false_or_eq_true (decide (0 ≤ n) && decide (n ≤ 60)) with h2 | h2
    · have hl := cl_len h1
      have hl4 := (par_len (cl_par h1)).2
      rw [size_data] at hl4
      rw [size_data, size_data] at hl
      have HM1 := Lib.hid (fun W => l10Moves_c ps az hl hl4 W)
      have hMV : MV (pwL (clM ps.data.toList az.data.toList) n.toNat) := lsF_MV (SVal_pw (SVal_M (cl_MV h1)) _)
      have HA := Lib.hid (fun v W hx => l10Args_c ps (pwL (clM ps.data.toList az.data.toList) n.toNat) v W hx hp (arB_one (cl_par h1) hMV))
      rw [show arB (srcM (pwL (clM ps.data.toList az.data.toList) n.toNat)) ps.data.toList = arB (laS (clM ps.data.toList az.data.toList) n.toNat) ps.data.toList from src_pow (cl_par h1) _ _] at HA
      rw [h1, h2]
      rw [h1] at HV1
      rw [h2] at HI
      rw [Bool.and_eq_true, decide_eq_true_eq, decide_eq_true_eq] at h2
      obtain ⟨m, rfl⟩ := Int.eq_ofNat_of_zero_le h2.1
      have hm : m ≤ 60 := by omega
      have HC := Lib.hid (fun v W hx => l4Power_c (clM ps.data.toList az.data.toList) v m hm W hx)
      rw [show (m : Int).toNat = m from rfl] at HA ⊢
      clear h1 h2 hl hl4 hMV
      have HOS : Hid (∀ s, okS (true && true) s = s) := fun _ => rfl
      rw [HOS.out]
      generalize arB (laS (clM ps.data.toList az.data.toList) m) ps.data.toList = ar at *
      generalize pwL (clM ps.data.toList az.data.toList) m = zs at *
      generalize clM ps.data.toList az.data.toList = xs at *
      go_enter Tryd.func33, Tryd.ntmps33
      go_wp2_with fail
      refine HV1.out.mono ?_
      rintro e w1 ⟨rfl, hb1⟩
      have hs1 := hb1.size
      go_wp2_with fail
      refine (HI.out _).mono ?_
      rintro e w2 ⟨rfl, rfl⟩
      go_wp2_with fail
      refine (HM1.out _).mono ?_
      rintro e w3 ⟨v3, rfl, ho3, hb3⟩
      have hB3 := hb1.trans (hb3.mono hs1)
      have hs3 := hB3.size
      have hR3 : RdM w3 v3 xs := Rd.of_own ho3
      clear hb3 ho3 hb1
      go_wp2_with fail
      refine (HC.out _ _ hR3).mono ?_
      rintro e w5 ⟨v5, rfl, ho5, hb5⟩
      have hB5 := hB3.trans (hb5.mono hs3)
      have hs5 := hB5.size
      have hR5 : RdM w5 v5 zs := Rd.of_own ho5
      clear hb5 ho5 hB3 hR3
      go_wp2_with fail
      refine (HA.out _ _ hR5).mono ?_
      rintro e w6 ⟨rfl, hb6⟩
      have hB6 := hB5.trans (hb6.mono hs5)
      go_wp2
      go_ret2
      exact ⟨rfl, hB6⟩
    · rw [h1, h2]
      rw [h1] at HV1
      rw [h2] at HI
      clear h1 h2
      have HOS : Hid (∀ s, okS (true && false) s = ⟨#[]⟩) := fun _ => rfl
      rw [HOS.out]
      go_enter Tryd.func33, Tryd.ntmps33
      go_wp2_with fail
      refine HV1.out.mono ?_
      rintro e w1 ⟨rfl, hb1⟩
      go_wp2_with fail
      refine (HI.out _).mono ?_
      rintro e w2 ⟨rfl, rfl⟩
      go_wp2
      go_ret2
      exact ⟨rfl, hb1⟩
  · rw [h1]
    rw [h1] at HV1
    clear h1
    have HOS : Hid (∀ b s, okS (false && b) s = ⟨#[]⟩) := fun _ _ => rfl
    rw [HOS.out]
    go_enter Tryd.func33, Tryd.ntmps33
    go_wp2_with fail
    refine HV1.out.mono ?_
    rintro e w1 ⟨rfl, hb1⟩
    go_wp2
    go_ret2
    exact ⟨rfl, hb1⟩
set_option maxRecDepth 100000 in
set_option maxHeartbeats 2000000 in
theorem spArgsOf_c (ps : ByteArray) (hp : ps.size ≤ 1048576) (xs : List Mv) (v : Value) (w : World) (hx : RdM w v xs) (hz : ∀ m ∈ xs, m.1.size ≤ 9223372036854775807 ∧ m.2.size ≤ 9223372036854775807) (hn : xs.length ≤ 1048576) :
    Calls Tryd.prog 37 #[.string ps, v] w fun e w' => e = .returned (.tuple #[.string (agB ps.data.toList xs), .bool (agOk ps.data.toList xs)]) ∧ Below w.heap.size w w' := by
  have HP := Lib.hid (l10Params_c ps hp w)
  have HMV := Lib.hid (fun W (hW : Below w.heap.size w W) => spMovesValid_c xs v W (hx.below hW) hz hn)
  have HX := Lib.hid (fun W (hW : Below w.heap.size w W) => hx.below hW)
  have HOB : Hid (agB ps.data.toList xs = okS (agOk ps.data.toList xs) (arB (srcM xs) ps.data.toList)) := rfl
  have HOK : Hid (agOk ps.data.toList xs = ((parOk ps.data.toList && mvalid xs) && agS ps.data.toList xs)) := rfl
  have HO1 : Hid (∀ s, okS true s = s) := fun _ => rfl
  have HO0 : Hid (∀ s, okS false s = ⟨#[]⟩) := fun _ => rfl
  rw [HOB.out]
  rcases Bool.eq_false_or_eq_true (parOk ps.data.toList) with h1 | h1
  · rcases Bool.eq_false_or_eq_true (mvalid xs) with h2 | h2
    · have hMV : MV xs := by simpa [mvalid] using h2
      have HA := Lib.hid (fun W (hW : Below w.heap.size w W) => l10Args_c ps xs v W (hx.below hW) hp (arB_one h1 hMV))
      have HOK2 : Hid (agOk ps.data.toList xs = agS ps.data.toList xs) := by show _ = _; rw [HOK.out, h1, h2]; rfl
      have HNO := Lib.hid (fun k hk h => agS_at (ps := ps.data.toList) (xs := xs) k hk h)
      have HYES := Lib.hid (fun h => agS_all (ps := ps.data.toList) (xs := xs) h)
      have HFD := Lib.hid (fun c W => l13Find_c ps c W (by omega))
      have HKEY : Hid (∀ k (hk : k < xs.length), ∃ c, xs[k].1 = ⟨#[c]⟩ ∧ inPs ps.data.toList xs[k] = decide ((0 : Int) ≤ indexByte ps.data.toList c)) := fun k hk => by
        have hm := hMV.1 _ (List.getElem_mem hk)
        unfold mok at hm
        rw [Bool.and_eq_true] at hm
        obtain ⟨c, hc⟩ := one_of_size (isP_size hm.1)
        refine ⟨c, hc, ?_⟩
        unfold inPs
        rw [hc, decide_eq_decide]
        exact (indexByte_mem _ _).symm
      rw [h1] at HP
      rw [h2] at HMV
      rw [HOK2.out]
      obtain ⟨A, cap, rfl, hn', hc, hcell⟩ := hx.open
      clear hx hz h1 h2 hMV HOK HOK2 HOB
      generalize arB (srcM xs) ps.data.toList = ar at *
      generalize agS ps.data.toList xs = ag at *
      generalize ps.data.toList = pl at *
      go_enter Tryd.func37, Tryd.ntmps37
      go_wp2_with fail
      refine HP.out.mono ?_
      rintro e w1 ⟨rfl, hb1⟩
      have hs1 := hb1.size
      go_wp2_with fail
      refine (HMV.out _ hb1).mono ?_
      rintro e w2 ⟨rfl, hb2⟩
      have hB2 := hb1.trans (hb2.mono hs1)
      clear hb1 hb2
      go_wp2
      go_loopw [7, 18] (fun _ i wr => ∃ (k : Nat), k ≤ xs.length ∧ i = .int .i64 k ∧ Hid (∀ j (_ : j < k) (hj : j < xs.length), (decide (xs[j].1 = xs[j].2) || inPs pl xs[j]) = true) ∧ Below w.heap.size w wr) (fun _ i _ => xs.length - (RowKit.intOf i).toNat)
      case atStart => exact ⟨0, by omega, rfl, fun j hj _ => absurd hj (Nat.not_lt_zero j), hB2⟩
      case round =>
        obtain ⟨k, hk, rfl, hall, hb⟩ := hrel
        have hbs := hb.size
        by_cases hlt : k < xs.length
        · obtain ⟨b, off, rfl, hbl, hc1, hc2⟩ := hcell k hlt
          have hd1 := (hb.cell (p := ⟨b, off + k * 2, none⟩) hbl).trans hc1
          have hd2 := (hb.cell (p := ⟨b, off + k * 2 + 1, none⟩) hbl).trans hc2
          obtain ⟨c, hxc, hin⟩ := HKEY.out k hlt
          have HNK := Lib.hid (HNO.out k hlt)
          have HNX : Hid ((decide (xs[k].1 = xs[k].2) || inPs pl xs[k]) = true → ∀ j (_ : j < k + 1) (hj : j < xs.length), (decide (xs[j].1 = xs[j].2) || inPs pl xs[j]) = true) := fun h j hjk hj => by
            by_cases e : j = k
            · subst e; exact h
            · exact hall.out j (by omega) hj
          have HFC : Hid (∀ (a : ByteArray) (_ : a = ⟨#[c]⟩) (h0 : 0 < a.size) W, Calls Tryd.prog 72 #[.string ps, .int .u8 (a[0]'h0).toNat] W fun e w' => e = .returned (.int .i64 (indexByte pl c)) ∧ W = w') := fun a ha h0 W => by subst ha; exact HFD.out c W
          have HFA := Lib.hid (HFC.out _ hxc)
          have ha1 : xs[k].1.size = 1 := by rw [hxc]; rfl
          rw [hin] at HNK HNX
          have i0 : (0 : Int) ≤ (k : Int) := by omega
          have i1 : (k : Int) < (xs.length : Int) := by omega
          clear hc1 hc2 hcell hin hxc
          clear HFC
          generalize xs[k].2 = x2 at *
          generalize xs[k].1 = x1 at *
          have hbq := beq_str x1 x2
          have i2 : (0 : Int) < (x1.size : Int) := by omega
          by_cases he : x1 = x2
          · rw [decide_eq_true he] at hbq HNX
            have HK := Lib.hid (HNX.out rfl)
            clear he
            go_wp2
            go_roundw
            case rel => exact ⟨k + 1, by omega, by go_num, HK, by (repeat' (first | (with_reducible exact Below.refl _ _) | (with_reducible assumption) | (with_reducible refine Below.alloc ?_ ?_ _) | (with_reducible refine Below.drew ?_) | (with_reducible refine Below.setCell ?_ ?_ _) | (with_reducible exact Nat.le_refl _) | omega | ((repeat (first | rewrite [World.size_alloc] | rewrite [World.size_setCell] | rewrite [World.size_drew])); omega) | (simp; omega) | (simp; done)))⟩
            case measure => simp [RowKit.intOf]; omega
          · rw [decide_eq_false he] at hbq HNX HNK
            clear he
            by_cases hf : (0 : Int) ≤ indexByte pl c
            · rw [decide_eq_true hf] at HNX
              have HK := Lib.hid (HNX.out rfl)
              have t1 : ¬ indexByte pl c < 0 := by omega
              go_wp2_with (go_at_call 72; refine (HFA.out _ _).mono ?_; rintro e w' ⟨rfl, rfl⟩)
              go_roundw
              case rel => exact ⟨k + 1, by omega, by go_num, HK, by (repeat' (first | (with_reducible exact Below.refl _ _) | (with_reducible assumption) | (with_reducible refine Below.alloc ?_ ?_ _) | (with_reducible refine Below.drew ?_) | (with_reducible refine Below.setCell ?_ ?_ _) | (with_reducible exact Nat.le_refl _) | omega | ((repeat (first | rewrite [World.size_alloc] | rewrite [World.size_setCell] | rewrite [World.size_drew])); omega) | (simp; omega) | (simp; done)))⟩
              case measure => simp [RowKit.intOf]; omega
            · rw [decide_eq_false hf] at HNK
              have HF := Lib.hid (HNK.out rfl)
              have t1 : indexByte pl c < 0 := by omega
              go_wp2_with (go_at_call 72; refine (HFA.out _ _).mono ?_; rintro e w' ⟨rfl, rfl⟩)
              go_ret2
              exact ⟨by rw [HF.out, HO0.out]; rfl, by (repeat' (first | (with_reducible exact Below.refl _ _) | (with_reducible assumption) | (with_reducible refine Below.alloc ?_ ?_ _) | (with_reducible refine Below.drew ?_) | (with_reducible refine Below.setCell ?_ ?_ _) | (with_reducible exact Nat.le_refl _) | omega | ((repeat (first | rewrite [World.size_alloc] | rewrite [World.size_setCell] | rewrite [World.size_drew])); omega) | (simp; omega) | (simp; done)))⟩
        · have i1 : ¬ (k : Int) < (xs.length : Int) := by omega
          have HT : Hid (ag = true) := HYES.out fun j hj => hall.out j (by omega) hj
          have HAC := Lib.hid (HA.out wr hb)
          go_wp2_with fail
          refine HAC.out.mono ?_
          rintro e w4 ⟨rfl, hb4⟩
          go_wp2
          go_ret2
          exact ⟨by rw [HT.out, HO1.out]; rfl, hb.trans (hb4.mono hbs)⟩
    · have HOK2 : Hid (agOk ps.data.toList xs = false) := by show _ = _; rw [HOK.out, h1, h2]; rfl
      rw [h1] at HP
      rw [h2] at HMV
      rw [HOK2.out, HO0.out]
      clear h1 h2 HOK HOK2 HOB
      go_enter Tryd.func37, Tryd.ntmps37
      go_wp2_with fail
      refine HP.out.mono ?_
      rintro e w1 ⟨rfl, hb1⟩
      have hs1 := hb1.size
      go_wp2_with fail
      refine (HMV.out _ hb1).mono ?_
      rintro e w2 ⟨rfl, hb2⟩
      have hB2 := hb1.trans (hb2.mono hs1)
      go_wp2
      go_ret2
      exact ⟨rfl, hB2⟩
  · have HOK2 : Hid (agOk ps.data.toList xs = false) := by show _ = _; rw [HOK.out, h1]; rfl
    rw [h1] at HP
    rw [HOK2.out, HO0.out]
    clear h1 HOK HOK2 HOB
    go_enter Tryd.func37, Tryd.ntmps37
    go_wp2_with fail
    refine HP.out.mono ?_
    rintro e w1 ⟨rfl, hb1⟩
    go_wp2
    go_ret2
    exact ⟨rfl, hb1⟩
end Go.Proofs.YtcpibkffeenehaaDoor
namespace Go.Proofs.YtcpibkffeenehaaDoor
open Go.RowKit Go.PM Go.PD Go.PF Go.Lib
attribute [local go_sem] Oper.semAt_some
theorem clL_MV (ps az : List UInt8) : MV (clL ps az) := by
  unfold clL
  split
  · next h => exact cl_MV h
  · exact MV_nil
theorem ca_one {ps : List UInt8} (hp : parOk ps = true) {f : Nat → ByteArray} (hf : SVal (srcT f)) : ∀ c ∈ ps, (behF f (ch c)).size = 1 := fun c hc => by
  unfold behF
  rw [if_pos (par_place hp c hc)]
  exact isS_size (hf _ (ch_nm (par_place hp c hc)).1)
set_option maxRecDepth 100000 in
set_option maxHeartbeats 1600000 in
theorem callTable_c (ps az : ByteArray) (hp : ps.size ≤ 1048576) (ha : az.size ≤ 1048576) (w : World) (hT : U8w w) :
    Calls Tryd.prog 59 #[.string ps, .string az] w fun e w' => e = .returned (.tuple #[tabX (tabOf (clL ps.data.toList az.data.toList)), .bool (clOk ps.data.toList az.data.toList)]) ∧ Below w.heap.size w w' := by
  have HB0 : Below w.heap.size w (w.alloc (.cells zA 63)) := (Below.refl _ _).alloc (Nat.le_refl _) _
  have HM := Lib.hid (imMovesFor_c ps az hp ha _ (hT.below HB0))
  have HTB := Lib.hid (fun v W hx => tableOf_yes (clL ps.data.toList az.data.toList) (clL_MV _ _) v W hx)
  have k0 : At (w.alloc (.cells zA 63)) w.heap.size 63 zA := At.new _ _ _
  generalize clOk ps.data.toList az.data.toList = ok at *
  generalize clL ps.data.toList az.data.toList = xs at *
  go_enter Tryd.func59, Tryd.ntmps59
  go_wp2_with fail
  refine HM.out.mono ?_
  rintro e w1 ⟨v', rfl, ho, hb1⟩
  have k1 := k0.keep hb1
  have hB1 := HB0.trans (hb1.mono HB0.size)
  have hs1 := hB1.size
  have hR : RdM w1 v' xs := Rd.of_own ho
  clear hb1 ho k0 HB0
  go_wp2_with fail
  refine (HTB.out _ _ hR).mono ?_
  rintro e w2 ⟨rfl, hb2⟩
  have k2 := (k1.keep hb2).alloc (.cells (tabA (tabOf xs)) 63)
  have hB2 := hB1.trans (hb2.mono hs1)
  have hs2 := hB2.size
  have q2 : At (w2.alloc (.cells (tabA (tabOf xs)) 63)) w2.heap.size 63 (tabC (tabOf xs)) := At.new w2 63 (tabA (tabOf xs))
  have hB3 := hB2.alloc hs2 (.cells (tabA (tabOf xs)) 63)
  have hs3 := hB3.size
  have hlk := k1.lt
  clear hb2 hB1 hB2 hR k1
  generalize hg : tabOf xs = g at *
  have HG := Lib.hid hg
  clear hg
  go_wp2_with (first | (refine ld_row rfl 63 (.tmp 8) rfl w2.heap.size 63 (tabC g) q2 (by rfl) 9 9 Tryd.underlying63 (by kernel_rfl) ?_) | (refine st_row rfl 63 (.tmp 4) (.tmp 21) rfl rfl w.heap.size 63 zA (tabC g) k2 (by rfl) (by rfl) (by kernel_rfl) rfl (tabC_all _) ?_; intro W5 k5 g5; refine held ?_))
  unfold Held
  have hB5 := hB3.trans (below_grown g5 (B := w.heap.size) hs3 (fun g e => by cases e; omega))
  go_wp2
  refine bodyPost_ret (v := .tuple #[tabV g, .bool ok]) (results_row2 Tryd.results59 _ _ w.heap.size 63 (tabC g) (by rfl) (by rfl) k5 9 9 Tryd.underlying63 (by kernel_rfl)) rfl ⟨by rw [HG.out]; rfl, hB5⟩

set_option maxRecDepth 100000 in
set_option maxHeartbeats 1000000 in
theorem imSteadyParams_c (ps az : ByteArray) (hp : ps.size ≤ 1048576) (ha : az.size ≤ 1048576) (w : World) (hT : U8w w) :
    Calls Tryd.prog 17 #[.string ps, .string az] w fun e w' => e = .returned (.tuple #[.string (sdB ps.data.toList az.data.toList), .bool (clOk ps.data.toList az.data.toList)]) ∧ Below w.heap.size w w' := by
  have HV := Lib.hid (imCallValid_c ps az hp ha w hT)
  rcases Bool.eq_false_or_eq_true (clOk ps.data.toList az.data.toList) with h1 | h1
  · have hl := cl_len h1
    have hl4 := (par_len (cl_par h1)).2
    rw [size_data] at hl4
    rw [size_data, size_data] at hl
    have HF : Hid (sdB ps.data.toList az.data.toList = pickB ps.data.toList (sdH ps.data.toList az.data.toList) ps.size) := by
      show _ = _
      unfold sdB sdT okS
      rw [h1, if_pos rfl, size_data]
    have HX := Lib.hid (fun k hk => extract_one ps k hk)
    have HS := Lib.hid (fun k => pickB_succ ps.data.toList (sdH ps.data.toList az.data.toList) k)
    have HZ := Lib.hid (fun k => pickB_size ps.data.toList (sdH ps.data.toList az.data.toList) k)
    have HH : Hid (∀ k (hk : k < ps.size) (hk2 : k < az.size), sdH ps.data.toList az.data.toList k = decide ((ps[k].toNat : Int) = (az[k].toNat : Int))) := fun k hk hk2 => by
      have g1 : ps.data.toList[k]? = some ps[k] := List.getElem?_eq_getElem (by rw [size_data]; exact hk)
      have g2 : az.data.toList[k]? = some az[k] := List.getElem?_eq_getElem (by rw [size_data]; exact hk2)
      unfold sdH
      rw [List.getD_eq_getElem?_getD, List.getD_eq_getElem?_getD, g1, g2, decide_eq_decide]
      constructor
      · intro h; have h' : ps[k] = az[k] := h; rw [h']
      · intro h
        refine UInt8.toNat_inj.1 ?_
        show ps[k].toNat = az[k].toNat
        omega
    have H0 : Hid (pickB ps.data.toList (sdH ps.data.toList az.data.toList) 0 = ⟨#[]⟩) := rfl
    have H1 := Lib.hid h1
    clear h1
    generalize clOk ps.data.toList az.data.toList = r at *
    generalize sdB ps.data.toList az.data.toList = sd at *
    generalize sdH ps.data.toList az.data.toList = h at *
    generalize ps.data.toList = pl at *
    cases H1.out
    go_enter Tryd.func17, Tryd.ntmps17
    go_wp2_with fail
    refine HV.out.mono ?_
    rintro e w1 ⟨rfl, hb1⟩
    have hs1 := hb1.size
    go_wp2
    go_loopw [6, 7, 14] (fun o _ i wr => ∃ (k : Nat), k ≤ ps.size ∧ i = .int .i64 k ∧ o = .string (pickB pl h k) ∧ Below w.heap.size w wr) (fun _ _ i _ => ps.size - (RowKit.intOf i).toNat)
    case atStart => exact ⟨0, by omega, rfl, by rw [H0.out], hb1⟩
    case round =>
      obtain ⟨k, hk, rfl, rfl, hb⟩ := hrel
      have hbs := hb.size
      by_cases hlt : k < ps.size
      · have i0 : (0 : Int) ≤ (k : Int) := by omega
        have i1 : (k : Int) < (ps.size : Int) := by omega
        have i2 : (k : Int) + 1 ≤ (ps.size : Int) := by omega
        have i3 : (k : Int) < (az.size : Int) := by omega
        have hlt2 : k < az.size := by omega
        have hx := HX.out k hlt
        have hhk := HH.out k hlt hlt2
        have hs := HS.out k
        have hz := HZ.out k
        have hone : (⟨#[pl.getD k 0]⟩ : ByteArray).size = 1 := rfl
        have bd : Below w.heap.size w wr.drew := hb.drew
        generalize (⟨#[pl.getD k 0]⟩ : ByteArray) = q at *
        generalize pickB pl h k = cur at *
        generalize hc1 : ps[k] = c1 at *
        generalize hc2 : az[k] = c2 at *
        by_cases hcc : (c1.toNat : Int) = (c2.toNat : Int)
        · have t1 : ((c1.toNat : Int) == (c2.toNat : Int)) = true := by simpa using hcc
          rw [hhk, decide_eq_true hcc, if_pos rfl] at hs
          have HSS := Lib.hid hs
          clear hs hhk hcc
          go_wp2
          refine wp_region_quiet (C := fun w' => w' = wr.drew) (by kernel_rfl) (by kernel_rfl) rfl ?_
          simp only
          repeat (go_big_quiet_step (fail))
          refine wpQuiet_nil ?_
          intro w' hw'
          subst hw'
          go_wp2
          go_roundw
          case rel => exact ⟨k + 1, by omega, by go_num, by rw [HSS.out], bd⟩
          case measure => simp [RowKit.intOf]; omega
        · have t1 : ((c1.toNat : Int) == (c2.toNat : Int)) = false := by simpa using hcc
          rw [hhk, decide_eq_false hcc] at hs
          have HSS := Lib.hid hs
          clear hs hhk hcc
          go_wp2
          refine wp_region_quiet (C := fun w' => w' = wr.drew) (by kernel_rfl) (by kernel_rfl) rfl ?_
          simp only
          repeat (go_big_quiet_step (fail))
          refine wpQuiet_nil ?_
          intro w' hw'
          subst hw'
          go_wp2
          go_roundw
          case rel => exact ⟨k + 1, by omega, by go_num, by rw [HSS.out]; rfl, bd⟩
          case measure => simp [RowKit.intOf]; omega
      · have HK : Hid (k = ps.size) := by show _ = _; omega
        have i1 : ¬ (k : Int) < (ps.size : Int) := by omega
        go_wp2
        go_ret2
        exact ⟨by rw [HF.out, HK.out]; rfl, hb⟩
  · have HF : Hid (sdB ps.data.toList az.data.toList = ⟨#[]⟩) := by
      show _ = _
      unfold sdB okS
      rw [h1]; rfl
    have H1 := Lib.hid h1
    clear h1
    generalize clOk ps.data.toList az.data.toList = r at *
    generalize sdB ps.data.toList az.data.toList = sd at *
    cases H1.out
    go_enter Tryd.func17, Tryd.ntmps17
    go_wp2_with fail
    refine HV.out.mono ?_
    rintro e w1 ⟨rfl, hb1⟩
    go_wp2
    go_ret2
    exact ⟨by rw [HF.out]; rfl, hb1⟩
set_option maxHeartbeats 800000 in
theorem imIsSteady_c (ps az : ByteArray) (hp : ps.size ≤ 1048576) (ha : az.size ≤ 1048576) (w : World) (hT : U8w w) :
    Calls Tryd.prog 23 #[.string ps, .string az] w fun e w' => e = .returned (.bool (sdOk ps az)) ∧ Below w.heap.size w w' := by
  have HV := Lib.hid (imCallValid_c ps az hp ha w hT)
  have HO : Hid (sdOk ps az = (clOk ps.data.toList az.data.toList && decide (ps = az))) := rfl
  have hbq := beq_str ps az
  generalize clOk ps.data.toList az.data.toList = r at *
  cases r with
  | true =>
    by_cases he : ps = az
    · rw [decide_eq_true he] at hbq HO
      have HO2 : Hid (sdOk ps az = true) := HO.out
      generalize sdOk ps az = so at *
      clear he HO
      go_enter Tryd.func23, Tryd.ntmps23
      go_wp2_with fail
      refine HV.out.mono ?_
      rintro e w1 ⟨rfl, hb1⟩
      go_wp2
      go_ret
      exact ⟨by rw [HO2.out]; rfl, hb1⟩
    · rw [decide_eq_false he] at hbq HO
      have HO2 : Hid (sdOk ps az = false) := HO.out
      generalize sdOk ps az = so at *
      clear he HO
      go_enter Tryd.func23, Tryd.ntmps23
      go_wp2_with fail
      refine HV.out.mono ?_
      rintro e w1 ⟨rfl, hb1⟩
      go_wp2
      go_ret
      exact ⟨by rw [HO2.out]; rfl, hb1⟩
  | false =>
    have HO2 : Hid (sdOk ps az = false) := HO.out
    generalize sdOk ps az = so at *
    clear HO hbq
    go_enter Tryd.func23, Tryd.ntmps23
    go_wp2_with fail
    refine HV.out.mono ?_
    rintro e w1 ⟨rfl, hb1⟩
    go_wp2
    go_ret
    exact ⟨by rw [HO2.out]; rfl, hb1⟩
set_option maxHeartbeats 800000 in
theorem imCallCost_c (ps az : ByteArray) (hp : ps.size ≤ 1048576) (ha : az.size ≤ 1048576) (w : World) (hT : U8w w) :
    Calls Tryd.prog 16 #[.string ps, .string az] w fun e w' => e = .returned (.int .i64 (coI ps.data.toList az.data.toList)) ∧ Below w.heap.size w w' := by
  have HV := Lib.hid (imMovesFor_c ps az hp ha w hT)
  rcases Bool.eq_false_or_eq_true (clOk ps.data.toList az.data.toList) with h1 | h1
  · have HC := Lib.hid (fun v W hx => imCountInOrder_c (clM ps.data.toList az.data.toList) v W hx (by have := MV_len (cl_MV h1); omega))
    have HO : Hid (coI ps.data.toList az.data.toList = cioI (clM ps.data.toList az.data.toList)) := if_pos h1
    rw [clL_yes h1, h1] at HV
    clear h1
    generalize coI ps.data.toList az.data.toList = co at *
    generalize clM ps.data.toList az.data.toList = xs at *
    go_enter Tryd.func16, Tryd.ntmps16
    go_wp2_with fail
    refine HV.out.mono ?_
    rintro e w1 ⟨v', rfl, ho, hb1⟩
    have hs1 := hb1.size
    have hR : RdM w1 v' xs := Rd.of_own ho
    go_wp2_with fail
    refine (HC.out _ _ hR).mono ?_
    rintro e w3 ⟨rfl, hb3⟩
    go_wp2
    go_ret
    exact ⟨by rw [HO.out]; rfl, hb1.trans (hb3.mono hs1)⟩
  · have HO : Hid (coI ps.data.toList az.data.toList = -1) := by show _ = _; unfold coI; rw [h1]; rfl
    rw [h1] at HV
    clear h1
    generalize coI ps.data.toList az.data.toList = co at *
    go_enter Tryd.func16, Tryd.ntmps16
    go_wp2_with fail
    refine HV.out.mono ?_
    rintro e w1 ⟨v', rfl, ho, hb1⟩
    go_wp2
    go_ret
    exact ⟨by rw [HO.out]; rfl, hb1⟩
set_option maxRecDepth 100000 in
set_option maxHeartbeats 2000000 in
theorem imCallAfter_c (ps az bz : ByteArray) (hp : ps.size ≤ 1048576) (ha : az.size ≤ 1048576) (hb : bz.size ≤ 1048576) (w : World) (hT : U8w w) :
    Calls Tryd.prog 29 #[.string ps, .string az, .string bz] w fun e w' => e = .returned (.tuple #[.string (caB ps.data.toList az.data.toList bz.data.toList), .bool (caOk ps.data.toList az.data.toList bz.data.toList)]) ∧ Below w.heap.size w w' := by
  have HV1 := Lib.hid (callTable_c ps az hp ha w hT)
  have HV2 := Lib.hid (fun W (hW : Below w.heap.size w W) => callTable_c ps bz hp hb W (hT.below hW))
  have HOK : Hid (caOk ps.data.toList az.data.toList bz.data.toList = (clOk ps.data.toList az.data.toList && clOk ps.data.toList bz.data.toList)) := rfl
  have HOB : Hid (caB ps.data.toList az.data.toList bz.data.toList = okS (caOk ps.data.toList az.data.toList bz.data.toList) (arB (caS (clM ps.data.toList az.data.toList) (clM ps.data.toList bz.data.toList)) ps.data.toList)) := rfl
  rw [HOB.out, HOK.out]
  clear HOB HOK
  rcases Bool.eq_false_or_eq_true (clOk ps.data.toList az.data.toList) with h1 | h1
  · rcases Bool.eq_false_or_eq_true (clOk ps.data.toList bz.data.toList) with h2 | h2
    · rw [clL_yes h1, h1] at HV1
      rw [clL_yes h2, h2] at HV2
      have hS1 := SVal_tab (cl_MV h1)
      have hS2 := SVal_tab (cl_MV h2)
      have HTH := Lib.hid (fun W => then_v (tabOf (clM ps.data.toList az.data.toList)) (tabOf (clM ps.data.toList bz.data.toList)) hS2 W)
      have HA := Lib.hid (fun W => parArgs_c ps (thenF (tabOf (clM ps.data.toList az.data.toList)) (tabOf (clM ps.data.toList bz.data.toList))) hp (par_place (cl_par h1)) (ca_one (cl_par h1) (SVal_then hS1 hS2)) W)
      rw [beh_then (cl_par h1) (cl_MV h1) (cl_MV h2)] at HA
      rw [h1, h2]
      rw [show ∀ s, okS (true && true) s = s from fun _ => rfl]
      clear h1 h2 hS1 hS2
      generalize arB (caS (clM ps.data.toList az.data.toList) (clM ps.data.toList bz.data.toList)) ps.data.toList = ar at *
      generalize thenF (tabOf (clM ps.data.toList az.data.toList)) (tabOf (clM ps.data.toList bz.data.toList)) = tt at *
      generalize tabOf (clM ps.data.toList az.data.toList) = f at *
      generalize tabOf (clM ps.data.toList bz.data.toList) = g at *
      go_enter Tryd.func29, Tryd.ntmps29
      go_wp2_with fail
      refine HV1.out.mono ?_
      rintro e w1 ⟨rfl, hb1⟩
      have hs1 := hb1.size
      have k1 : At (w1.alloc (.cells (tabA f) 63)) w1.heap.size 63 (tabC f) := At.new w1 63 (tabA f)
      have hB1 := hb1.alloc hs1 (.cells (tabA f) 63)
      have HV3 := Lib.hid (HV2.out _ hB1)
      clear hb1
      go_wp2_with fail
      refine HV3.out.mono ?_
      rintro e w2 ⟨rfl, hb2⟩
      have k2 := (k1.keep hb2).alloc (.cells (tabA g) 63)
      have q2 : At (w2.alloc (.cells (tabA g) 63)) w2.heap.size 63 (tabC g) := At.new w2 63 (tabA g)
      have hB2 := hB1.trans (hb2.mono hB1.size)
      have hB3 := hB2.alloc hB2.size (.cells (tabA g) 63)
      clear hb2 hB1 hB2 k1
      go_wp2_with (first | (refine ld_row rfl 63 (.tmp 8) rfl w1.heap.size 63 (tabC f) k2 (by rfl) 9 9 Tryd.underlying63 (by kernel_rfl) ?_) | (refine ld_row rfl 63 (.tmp 10) rfl w2.heap.size 63 (tabC g) q2 (by rfl) 9 9 Tryd.underlying63 (by kernel_rfl) ?_) | (go_at_call 60; refine (HTH.out _).mono ?_; rintro e w4 ⟨rfl, hb4⟩; refine held ?_))
      unfold Held
      have hB4 := hB3.trans (hb4.mono hB3.size)
      clear hb4 hB3 k2 q2
      go_wp2_with (go_at_call 54; refine (HA.out _).mono ?_; rintro e w5 ⟨rfl, hb5⟩; refine held ?_)
      unfold Held
      have hB5 := hB4.trans (hb5.mono hB4.size)
      go_wp2
      go_ret2
      exact ⟨rfl, hB5⟩
    · rw [h1] at HV1
      rw [h2] at HV2
      rw [h1, h2, show ∀ s, okS (true && false) s = ⟨#[]⟩ from fun _ => rfl]
      clear h1 h2
      generalize tabOf (clL ps.data.toList az.data.toList) = f at *
      generalize tabOf (clL ps.data.toList bz.data.toList) = g at *
      go_enter Tryd.func29, Tryd.ntmps29
      go_wp2_with fail
      refine HV1.out.mono ?_
      rintro e w1 ⟨rfl, hb1⟩
      have hB1 := hb1.alloc hb1.size (.cells (tabA f) 63)
      have HV3 := Lib.hid (HV2.out _ hB1)
      go_wp2_with fail
      refine HV3.out.mono ?_
      rintro e w2 ⟨rfl, hb2⟩
      have hB2 := hB1.trans (hb2.mono hB1.size)
      have hB3 := hB2.alloc hB2.size (.cells (tabA g) 63)
      go_wp2
      go_ret2
      exact ⟨rfl, hB3⟩
  · rw [h1] at HV1
    rw [h1, show ∀ b s, okS (false && b) s = ⟨#[]⟩ from fun _ _ => rfl, Bool.false_and]
    clear h1
    generalize tabOf (clL ps.data.toList az.data.toList) = f at *
    generalize tabOf (clL ps.data.toList bz.data.toList) = g at *
    generalize clOk ps.data.toList bz.data.toList = o2 at *
    go_enter Tryd.func29, Tryd.ntmps29
    go_wp2_with fail
    refine HV1.out.mono ?_
    rintro e w1 ⟨rfl, hb1⟩
    have hB1 := hb1.alloc hb1.size (.cells (tabA f) 63)
    have HV3 := Lib.hid (HV2.out _ hB1)
    go_wp2_with fail
    refine HV3.out.mono ?_
    rintro e w2 ⟨rfl, hb2⟩
    have hB2 := hB1.trans (hb2.mono hB1.size)
    have hB3 := hB2.alloc hB2.size (.cells (tabA g) 63)
    go_wp2
    go_ret2
    exact ⟨rfl, hB3⟩
end Go.Proofs.YtcpibkffeenehaaDoor
namespace Go.Proofs.YtcpibkffeenehaaDoor
open Go.RowKit Go.PM Go.PD Go.PF Go.Lib
attribute [local go_sem] Oper.semAt_some
set_option maxRecDepth 100000 in
set_option maxHeartbeats 4000000 in
theorem imLoopAfter_c (ps az : ByteArray) (n : Int) (hp : ps.size ≤ 1048576) (ha : az.size ≤ 1048576) (w : World) (hT : U8w w) :
    Calls Tryd.prog 32 #[.string ps, .string az, .int .i64 n] w fun e w' => e = .returned (.tuple #[.string (laB ps.data.toList az.data.toList n), .bool (laOk ps.data.toList az.data.toList n)]) ∧ Below w.heap.size w w' := by
  have HV1 := Lib.hid (callTable_c ps az hp ha w hT)
  have HOK : Hid (laOk ps.data.toList az.data.toList n = (clOk ps.data.toList az.data.toList && (decide (0 ≤ n) && decide (n ≤ 60)))) := rfl
  have HOB : Hid (laB ps.data.toList az.data.toList n = okS (laOk ps.data.toList az.data.toList n) (arB (laS (clM ps.data.toList az.data.toList) n.toNat) ps.data.toList)) := rfl
  rw [HOB.out, HOK.out]
  clear HOB HOK
  rcases Bool.eq_false_or_eq_true (clOk ps.data.toList az.data.toList) with h1 | h1
  · by_cases h2 : 0 ≤ n ∧ n ≤ 60
    · rw [clL_yes h1, h1] at HV1
      have hS1 := SVal_tab (cl_MV h1)
      obtain ⟨m, rfl⟩ := Int.eq_ofNat_of_zero_le h2.1
      have hm : m ≤ 60 := by omega
      rw [h1, decide_eq_true h2.1, decide_eq_true h2.2, show ∀ s, okS (true && (true && true)) s = s from fun _ => rfl, show (m : Int).toNat = m from rfl]
      have HTH := Lib.hid (fun d (hd : SVal (srcT d)) W => then_v (tabOf (clM ps.data.toList az.data.toList)) d hd W)
      have HNX : Hid (∀ d k, SVal (srcT d) → (∀ p, p < 9 → srcT d p = pwF (srcT (tabOf (clM ps.data.toList az.data.toList))) k p) → SVal (srcT (thenF (tabOf (clM ps.data.toList az.data.toList)) d)) ∧ ∀ p, p < 9 → srcT (thenF (tabOf (clM ps.data.toList az.data.toList)) d) p = pwF (srcT (tabOf (clM ps.data.toList az.data.toList))) (k + 1) p) := fun d k h h' => ⟨SVal_then hS1 h, fun p hp => by
        rw [srcT_then, ← pwF_left _ k p hp]
        exact cmpF_congr (fun _ _ => rfl) h' hp⟩
      have HAR := Lib.hid (fun d hd => beh_pow (cl_par h1) (cl_MV h1) (d := d) (n := m) hd)
      have HA := Lib.hid (fun d (hd : SVal (srcT d)) W => parArgs_c ps d hp (par_place (cl_par h1)) (ca_one (cl_par h1) hd) W)
      clear h1 h2
      generalize arB (laS (clM ps.data.toList az.data.toList) m) ps.data.toList = ar at *
      generalize tabOf (clM ps.data.toList az.data.toList) = f at *
      go_enter Tryd.func32, Tryd.ntmps32
      go_wp2_with fail
      refine HV1.out.mono ?_
      rintro e w1 ⟨rfl, hb1⟩
      have hs1 := hb1.size
      have k1 : At (w1.alloc (.cells (tabA f) 63)) w1.heap.size 63 (tabC f) := At.new w1 63 (tabA f)
      have hB1 := hb1.alloc hs1 (.cells (tabA f) 63)
      have t1 : decide ((m : Int) < 0) = false := decide_eq_false (by omega)
      have t2 : decide ((m : Int) > 60) = false := decide_eq_false (by omega)
      have t3 : decide ((60 : Int) < (m : Int)) = false := decide_eq_false (by omega)
      have t4 : ¬ (m : Int) < 0 := by omega
      have t5 : ¬ (m : Int) > 60 := by omega
      clear hb1
      go_wp2
      have q0 : (w1.alloc (.cells (tabA f) 63)).cell? ⟨w1.heap.size, 0, none⟩ = some (.string (f 0)) := k1.cell 0
      have q1 : (w1.alloc (.cells (tabA f) 63)).cell? ⟨w1.heap.size, 1, none⟩ = some (.string (f 1)) := k1.cell 1
      have q2 : (w1.alloc (.cells (tabA f) 63)).cell? ⟨w1.heap.size, 2, none⟩ = some (.string (f 2)) := k1.cell 2
      have q3 : (w1.alloc (.cells (tabA f) 63)).cell? ⟨w1.heap.size, 3, none⟩ = some (.string (f 3)) := k1.cell 3
      have q4 : (w1.alloc (.cells (tabA f) 63)).cell? ⟨w1.heap.size, 4, none⟩ = some (.string (f 4)) := k1.cell 4
      have q5 : (w1.alloc (.cells (tabA f) 63)).cell? ⟨w1.heap.size, 5, none⟩ = some (.string (f 5)) := k1.cell 5
      have q6 : (w1.alloc (.cells (tabA f) 63)).cell? ⟨w1.heap.size, 6, none⟩ = some (.string (f 6)) := k1.cell 6
      have q7 : (w1.alloc (.cells (tabA f) 63)).cell? ⟨w1.heap.size, 7, none⟩ = some (.string (f 7)) := k1.cell 7
      have q8 : (w1.alloc (.cells (tabA f) 63)).cell? ⟨w1.heap.size, 8, none⟩ = some (.string (f 8)) := k1.cell 8
      go_region
      obtain ⟨W1, hW1⟩ : ∃ W1 : World, W1 = ((w1.alloc (.cells (tabA f) 63)).alloc (.cells zA 63)).drew := ⟨_, rfl⟩
      have k3 : At W1 (w1.heap.size + 1) 63 (tabC fun _ => emp) := by
        rw [hW1]
        have := At.new (w1.alloc (.cells (tabA f) 63)) 63 zA
        rw [World.size_alloc] at this
        exact this
      have hB3 : Below w.heap.size w W1 := by rw [hW1]; exact (hB1.alloc hB1.size (.cells zA 63)).drew
      rw [← hW1]
      clear hW1 q0 q1 q2 q3 q4 q5 q6 q7 q8 k1 hB1
      go_wp2
      go_loopw [32] (fun i wr => ∃ (k : Nat) (d : Nat → ByteArray), k ≤ m ∧ i = .int .i64 k ∧ At wr (w1.heap.size + 1) 63 (tabC d) ∧ Hid (SVal (srcT d)) ∧ Hid (∀ p, p < 9 → srcT d p = pwF (srcT f) k p) ∧ Below w.heap.size w wr) (fun i _ => m - (RowKit.intOf i).toNat)
      case atStart => exact ⟨0, fun _ => emp, by omega, rfl, k3, SVal_zero, fun _ _ => rfl, hB3⟩
      case round =>
        clear k3 hB3
        obtain ⟨k, d, hk, rfl, k1, hsv, hpw, hb⟩ := hrel
        have hbs := hb.size
        have hl1 := k1.lt
        by_cases hlt : k < m
        · have i1 : (k : Int) < (m : Int) := by omega
          have HT2 := Lib.hid (HTH.out d hsv.out)
          obtain ⟨n1, n2⟩ := HNX.out d k hsv.out hpw.out
          have N1 := Lib.hid n1
          have N2 := Lib.hid n2
          clear n1 n2 hsv hpw
          generalize thenF f d = fd at *
          go_wp2_with (first | (refine ld_row rfl 63 (.tmp 10) rfl (w1.heap.size + 1) 63 (tabC d) k1 (by rfl) 9 9 Tryd.underlying63 (by kernel_rfl) ?_) | (go_at_call 60; refine (HT2.out _).mono ?_; rintro e w2 ⟨rfl, hb2⟩; refine held ?_))
          unfold Held
          have m1 := k1.keep hb2
          have hbw := hb.trans (hb2.mono hbs)
          have hbws := hbw.size
          clear hb2 hb k1
          go_wp2_with (refine st_row rfl 63 (.tmp 10) (.tmp 36) rfl rfl (w1.heap.size + 1) 63 (tabC d) (tabC fd) m1 (by rfl) (by rfl) (by kernel_rfl) rfl (tabC_all _) ?_; intro W5 k5 g5)
          have hB5 := hbw.trans (below_grown g5 (B := w.heap.size) hbws (fun g e => by cases e; omega))
          clear m1 hbw g5
          go_wp2
          go_roundw
          case rel => exact ⟨k + 1, fd, by omega, by go_num, k5, N1, N2, hB5⟩
          case measure => simp [RowKit.intOf]; omega
        · have hkm : k = m := by omega
          have i1 : ¬ (k : Int) < (m : Int) := by omega
          have HA2 := Lib.hid (HA.out d hsv.out)
          have hpw2 := hpw.out
          rw [hkm] at hpw2
          rw [HAR.out d hpw2] at HA2
          clear hpw hpw2 hsv hkm hk hlt
          go_wp2_with (first | (refine ld_row rfl 63 (.tmp 10) rfl (w1.heap.size + 1) 63 (tabC d) k1 (by rfl) 9 9 Tryd.underlying63 (by kernel_rfl) ?_) | (go_at_call 54; refine (HA2.out _).mono ?_; rintro e w3 ⟨rfl, hb3⟩; refine held ?_))
          unfold Held
          have hB3 := hb.trans (hb3.mono hbs)
          go_wp2
          go_ret2
          exact ⟨rfl, hB3⟩
    · rw [h1] at HV1
      have e2 : (decide (0 ≤ n) && decide (n ≤ 60)) = false := by
        rw [← Bool.decide_and]; exact decide_eq_false h2
      rw [h1, e2, show ∀ s, okS (true && false) s = ⟨#[]⟩ from fun _ => rfl]
      clear h1 e2
      generalize tabOf (clL ps.data.toList az.data.toList) = f at *
      by_cases hn : n < 0
      · have t1 : decide (n < 0) = true := decide_eq_true hn
        clear h2
        go_enter Tryd.func32, Tryd.ntmps32
        go_wp2_with fail
        refine HV1.out.mono ?_
        rintro e w1 ⟨rfl, hb1⟩
        have hB1 := hb1.alloc hb1.size (.cells (tabA f) 63)
        go_wp2
        go_ret2
        exact ⟨rfl, hB1⟩
      · have t1 : decide (n < 0) = false := decide_eq_false hn
        have t2 : n > 60 := by omega
        have t3 : decide (n > 60) = true := decide_eq_true t2
        clear h2
        go_enter Tryd.func32, Tryd.ntmps32
        go_wp2_with fail
        refine HV1.out.mono ?_
        rintro e w1 ⟨rfl, hb1⟩
        have hB1 := hb1.alloc hb1.size (.cells (tabA f) 63)
        go_wp2
        go_ret2
        exact ⟨rfl, hB1⟩
  · rw [h1] at HV1
    rw [h1, show ∀ b s, okS (false && b) s = ⟨#[]⟩ from fun _ _ => rfl, Bool.false_and]
    clear h1
    generalize tabOf (clL ps.data.toList az.data.toList) = f at *
    go_enter Tryd.func32, Tryd.ntmps32
    go_wp2_with fail
    refine HV1.out.mono ?_
    rintro e w1 ⟨rfl, hb1⟩
    have hB1 := hb1.alloc hb1.size (.cells (tabA f) 63)
    go_wp2
    go_ret2
    exact ⟨rfl, hB1⟩
end Go.Proofs.YtcpibkffeenehaaDoor
