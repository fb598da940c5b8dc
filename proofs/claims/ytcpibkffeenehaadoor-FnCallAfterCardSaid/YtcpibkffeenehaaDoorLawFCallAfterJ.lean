/- Proved: for every input of the form's own reach the law FnCallAfter answers true and its arguments read afterwards as before; no further condition. -/
import Derived.Test.YtcpibkffeenehaaDoorCkC
import Derived.Test.YtcpibkffeenehaaDoorCkE
import Derived.Test.YtcpibkffeenehaaDoorCkG
import Derived.Test.YtcpibkffeenehaaDoorCard10
import Derived.Test.YtcpibkffeenehaaDoorCkD
import Derived.Test.YtcpibkffeenehaaDoorHar
import Derived.Test.YtcpibkffeenehaaDoorOpen
namespace Go.Proofs.YtcpibkffeenehaaDoor
open Go.RowKit Go.PM Go.PD Go.PF Go.PW Go.PO
attribute [local go_sem] Oper.semAt_some
theorem la_next {p q : ByteArray} {m : Nat} (h : clOk p.data.toList q.data.toList = true) :
    caOk p.data.toList (arB (laS (clM p.data.toList q.data.toList) m) p.data.toList).data.toList q.data.toList = true ∧ caB p.data.toList (arB (laS (clM p.data.toList q.data.toList) m) p.data.toList).data.toList q.data.toList = arB (laS (clM p.data.toList q.data.toList) (m + 1)) p.data.toList := by
  obtain ⟨k1, k2⟩ := la_call h m
  have e : caOk p.data.toList (arB (laS (clM p.data.toList q.data.toList) m) p.data.toList).data.toList q.data.toList = true := by
    unfold caOk
    rw [arB_list, k1, h]; rfl
  refine ⟨e, ?_⟩
  unfold caB okS
  rw [e, if_pos rfl, arB_list, k2]
theorem la_size {p : List UInt8} {q : List UInt8} {m : Nat} (h : clOk p q = true) : (arB (laS (clM p q) m) p).size ≤ 4 := by
  have k1 := (la_call h m).1
  have h2 := cl_len k1
  have h3 := (par_len (cl_par k1)).2
  rw [← arB_list, size_data] at h2
  omega
set_option maxRecDepth 100000 in
set_option maxHeartbeats 6400000 in
theorem exCallAfter (w : World) (v0 : Value) (n0 : Nat) (hv : RdB w w.heap.size v0 n0) (v1 : Value) (n1 : Nat) (hu : RdB w w.heap.size v1 n1) (hT : U8w w) :
    Calls Tryd.prog 4 #[v0, v1] w fun e w' => e = .returned (.bool true) ∧ Below w.heap.size w w' := by
  have hv0 := hv
  have hu0 := hu
  obtain ⟨A, cap, rfl, hc, hn, _⟩ := hv
  obtain ⟨A1, cap1, rfl, hc1, hn1, _⟩ := hu
  by_cases hbig : 1048576 < n0
  · have t : decide ((n0 : Int) > 1048576) = true := by simp; omega
    go_enter Tryd.func4, Tryd.ntmps4
    go_wp2
    go_ret
    exact ⟨rfl, Below.refl _ _⟩
  have t : decide ((n0 : Int) > 1048576) = false := by simp; omega
  by_cases hbig1 : 1048576 < n1
  · have t1 : decide ((n1 : Int) > 1048576) = true := by simp; omega
    go_enter Tryd.func4, Tryd.ntmps4
    go_wp2
    go_ret
    exact ⟨rfl, Below.refl _ _⟩
  have t1 : decide ((n1 : Int) > 1048576) = false := by simp; omega
  have HD := Lib.hid (drawCallAfter_c w _ n0 hv0)
  have HDL := Lib.hid (fun W (hb : Below w.heap.size w W) => drawLoopAfter_c W (.slice A1 n1 cap1) n1 (Go.PO.RdB.more hu0 hb hb.size))
  clear hv0 hu0
  go_enter Tryd.func4, Tryd.ntmps4
  go_wp2_with fail
  refine HD.out.mono ?_
  rintro e w1 ⟨ps, az, bz, rfl, hsh, b1⟩
  have hps : ps.size ≤ 1048576 := by have := hsh.out.1; omega
  have haz : az.size ≤ 1048576 := by have := hsh.out.2.1; omega
  have hbz : bz.size ≤ 1048576 := by have := hsh.out.2.2; omega
  have HI := Lib.hid (imCallAfter_c ps az bz hps haz hbz w1 (hT.below b1))
  have HS := Lib.hid (fun W => spCallAfter_c ps az bz hps haz hbz W)
  have HMA := Lib.hid (fun W (hb : Below w.heap.size w W) => imMovesFor_c ps az hps haz W (hT.below hb))
  have HMB := Lib.hid (fun W (hb : Below w.heap.size w W) => imMovesFor_c ps bz hps hbz W (hT.below hb))
  have HOB : Hid (caB ps.data.toList az.data.toList bz.data.toList = okS (caOk ps.data.toList az.data.toList bz.data.toList) (arB (caS (clM ps.data.toList az.data.toList) (clM ps.data.toList bz.data.toList)) ps.data.toList)) := rfl
  rw [HOB.out] at HI HS
  clear HD hsh HOB
  have q1 : (∀ x : ByteArray, (x.toList == x.toList) = true) := fun x => by simp
  have Q1 := Lib.hid q1
  clear q1
  rcases Bool.eq_false_or_eq_true (caOk ps.data.toList az.data.toList bz.data.toList) with h1 | h1
  · have h2 : clOk ps.data.toList az.data.toList = true ∧ clOk ps.data.toList bz.data.toList = true := by
      unfold caOk at h1
      rw [Bool.and_eq_true] at h1
      exact h1
    obtain ⟨c1, c2⟩ := ca_call h2.1 h2.2
    rw [← arB_list] at c1 c2
    have hza : (arB (caS (clM ps.data.toList az.data.toList) (clM ps.data.toList bz.data.toList)) ps.data.toList).size ≤ 1048576 := by
      have h4 := cl_len c1
      have h5 := (par_len (cl_par c1)).2
      rw [size_data] at h4
      omega
    have HMC := Lib.hid (fun W (hb : Below w.heap.size w W) => imMovesFor_c ps (arB (caS (clM ps.data.toList az.data.toList) (clM ps.data.toList bz.data.toList)) ps.data.toList) hps hza W (hT.below hb))
    have HCP := Lib.hid (fun v u W hx hy => imComposeMoves_c (clM ps.data.toList az.data.toList) (clM ps.data.toList bz.data.toList) v u W hx hy)
    have HSM := Lib.hid (fun v u W hx hy => imSameMoves_c (compM (clM ps.data.toList az.data.toList) (clM ps.data.toList bz.data.toList)) (clM ps.data.toList (arB (caS (clM ps.data.toList az.data.toList) (clM ps.data.toList bz.data.toList)) ps.data.toList).data.toList) v u W hx hy)
    rw [c2] at HSM
    rw [clL_yes c1, c1] at HMC
    rw [clL_yes h2.1, h2.1] at HMA
    rw [clL_yes h2.2, h2.2] at HMB
    rw [cl_mv h2.1, cl_mv h2.2] at HCP
    rw [h1, show ∀ s, okS true s = s from fun _ => rfl] at HI HS
    clear h1 h2 c1 c2 hza
    generalize clM ps.data.toList (arB (caS (clM ps.data.toList az.data.toList) (clM ps.data.toList bz.data.toList)) ps.data.toList).data.toList = md at *
    generalize arB (caS (clM ps.data.toList az.data.toList) (clM ps.data.toList bz.data.toList)) ps.data.toList = ar at *
    generalize compM (clM ps.data.toList az.data.toList) (clM ps.data.toList bz.data.toList) = mc at *
    generalize clM ps.data.toList az.data.toList = ma at *
    generalize clM ps.data.toList bz.data.toList = mb at *
    have s1 := Q1.out ar
    go_wp2_with fail
    refine (HI.out).mono ?_
    rintro e w2 ⟨rfl, bw2⟩
    have B2 : Below w.heap.size w w2 := b1.trans (bw2.mono b1.size)
    go_wp2_with fail
    refine (HS.out _).mono ?_
    rintro e w3 ⟨rfl, bw3⟩
    have B3 : Below w.heap.size w w3 := B2.trans (bw3.mono B2.size)
    go_wp2_with fail
    refine (HDL.out _ B3).mono ?_
    rintro e w4 ⟨pp, qq, n, rfl, hsh2, bw4⟩
    have B4 : Below w.heap.size w w4 := B3.trans (bw4.mono B3.size)
    have hpp : pp.size ≤ 1048576 := by have := hsh2.out.1; omega
    have hqq : qq.size ≤ 1048576 := by have := hsh2.out.2.1; omega
    have hnl : -1 ≤ n ∧ n ≤ 61 := hsh2.out.2.2
    have HLI := Lib.hid (fun x W (hb : Below w.heap.size w W) => imLoopAfter_c pp qq x hpp hqq W (hT.below hb))
    have HLS := Lib.hid (fun W => spLoopAfter_c pp qq n hpp hqq W)
    have HLI1 := Lib.hid (HLI.out n _ B4)
    have HOL : Hid (∀ x, laB pp.data.toList qq.data.toList x = okS (laOk pp.data.toList qq.data.toList x) (arB (laS (clM pp.data.toList qq.data.toList) x.toNat) pp.data.toList)) := fun _ => rfl
    rw [HOL.out] at HLI1 HLS
    clear hsh2
    rcases Bool.eq_false_or_eq_true (laOk pp.data.toList qq.data.toList n) with f1 | f1
    · rw [f1, show ∀ s, okS true s = s from fun _ => rfl] at HLI1 HLS
      have f2 : clOk pp.data.toList qq.data.toList = true ∧ 0 ≤ n ∧ n ≤ 60 := by
        unfold laOk at f1
        rw [Bool.and_eq_true, Bool.and_eq_true, decide_eq_true_eq, decide_eq_true_eq] at f1
        exact f1
      obtain ⟨f3, f4, f5⟩ := f2
      obtain ⟨m, rfl⟩ := Int.eq_ofNat_of_zero_le f4
      rw [show (m : Int).toNat = m from rfl] at HLI1 HLS
      obtain ⟨x1, x2⟩ := la_next (p := pp) (q := qq) (m := m) f3
      have hls := la_size (p := pp.data.toList) (q := qq.data.toList) (m := m) f3
      have HCA := Lib.hid (fun W (hb : Below w.heap.size w W) => imCallAfter_c pp (arB (laS (clM pp.data.toList qq.data.toList) m) pp.data.toList) qq hpp (by omega) hqq W (hT.below hb))
      rw [x1, x2] at HCA
      have HLN := Lib.hid (HLI.out ((m : Int) + 1))
      rw [HOL.out, show ((m : Int) + 1).toNat = m + 1 from rfl] at HLN
      have hm1 : (m : Int) + 1 ≤ 61 := by omega
      have hm0 : (0 : Int) ≤ (m : Int) := by omega
      clear HLI HOL f1 f3 f4 f5 x1 x2 hls hnl
      generalize arB (laS (clM pp.data.toList qq.data.toList) m) pp.data.toList = lp at *
      generalize laOk pp.data.toList qq.data.toList ((m : Int) + 1) = gd at *
      generalize arB (laS (clM pp.data.toList qq.data.toList) (m + 1)) pp.data.toList = nx at *
      have s2 := Q1.out lp
      have s3 := Q1.out nx
      go_wp2_with fail
      refine (HLI1.out).mono ?_
      rintro e w5 ⟨rfl, bw5⟩
      have B5 : Below w.heap.size w w5 := B4.trans (bw5.mono B4.size)
      go_wp2_with fail
      refine (HLS.out _).mono ?_
      rintro e w6 ⟨rfl, bw6⟩
      have B6 : Below w.heap.size w w6 := B5.trans (bw6.mono B5.size)
      go_wp2_with fail
      refine (HCA.out _ B6).mono ?_
      rintro e w7 ⟨rfl, bw7⟩
      have B7 : Below w.heap.size w w7 := B6.trans (bw7.mono B6.size)
      cases gd with
      | true =>
        rw [show ∀ s, okS true s = s from fun _ => rfl] at HLN
        go_wp2_with fail
        refine (HLN.out _ B7).mono ?_
        rintro e w8 ⟨rfl, bw8⟩
        have B8 : Below w.heap.size w w8 := B7.trans (bw8.mono B7.size)
        go_wp2_with fail
        refine (HMA.out _ B8).mono ?_
        rintro e w21 ⟨va, rfl, oa, bw21⟩
        have Ba : Below w.heap.size w w21 := B8.trans (bw21.mono B8.size)
        have Ra : RdM w21 va ma := Rd.of_own oa
        go_wp2_with fail
        refine (HMB.out _ Ba).mono ?_
        rintro e w22 ⟨vb, rfl, ob, bw22⟩
        have Bb : Below w.heap.size w w22 := Ba.trans (bw22.mono Ba.size)
        have Rb : RdM w22 vb mb := Rd.of_own ob
        replace Ra := Ra.below bw22
        go_wp2_with fail
        refine (HCP.out _ _ _ Ra Rb).mono ?_
        rintro e w23 ⟨vc, rfl, oc, bw23⟩
        have Bc : Below w.heap.size w w23 := Bb.trans (bw23.mono Bb.size)
        have Rc : RdM w23 vc mc := Rd.of_own oc
        go_wp2_with fail
        refine (HMC.out _ Bc).mono ?_
        rintro e w24 ⟨vd, rfl, od, bw24⟩
        have Bd : Below w.heap.size w w24 := Bc.trans (bw24.mono Bc.size)
        have Rd4 : RdM w24 vd md := Rd.of_own od
        replace Rc := Rc.below bw24
        go_wp2_with fail
        refine (HSM.out _ _ _ Rc Rd4).mono ?_
        rintro e w25 ⟨rfl, bw25⟩
        have Be : Below w.heap.size w w25 := Bd.trans (bw25.mono Bd.size)
        go_wp2
        go_ret
        exact ⟨rfl, Be⟩
      | false =>
        rw [show ∀ s, okS false s = ⟨#[]⟩ from fun _ => rfl] at HLN
        go_wp2_with fail
        refine (HLN.out _ B7).mono ?_
        rintro e w8 ⟨rfl, bw8⟩
        have B8 : Below w.heap.size w w8 := B7.trans (bw8.mono B7.size)
        go_wp2_with fail
        refine (HMA.out _ B8).mono ?_
        rintro e w21 ⟨va, rfl, oa, bw21⟩
        have Ba : Below w.heap.size w w21 := B8.trans (bw21.mono B8.size)
        have Ra : RdM w21 va ma := Rd.of_own oa
        go_wp2_with fail
        refine (HMB.out _ Ba).mono ?_
        rintro e w22 ⟨vb, rfl, ob, bw22⟩
        have Bb : Below w.heap.size w w22 := Ba.trans (bw22.mono Ba.size)
        have Rb : RdM w22 vb mb := Rd.of_own ob
        replace Ra := Ra.below bw22
        go_wp2_with fail
        refine (HCP.out _ _ _ Ra Rb).mono ?_
        rintro e w23 ⟨vc, rfl, oc, bw23⟩
        have Bc : Below w.heap.size w w23 := Bb.trans (bw23.mono Bb.size)
        have Rc : RdM w23 vc mc := Rd.of_own oc
        go_wp2_with fail
        refine (HMC.out _ Bc).mono ?_
        rintro e w24 ⟨vd, rfl, od, bw24⟩
        have Bd : Below w.heap.size w w24 := Bc.trans (bw24.mono Bc.size)
        have Rd4 : RdM w24 vd md := Rd.of_own od
        replace Rc := Rc.below bw24
        go_wp2_with fail
        refine (HSM.out _ _ _ Rc Rd4).mono ?_
        rintro e w25 ⟨rfl, bw25⟩
        have Be : Below w.heap.size w w25 := Bd.trans (bw25.mono Bd.size)
        go_wp2
        go_ret
        exact ⟨rfl, Be⟩
    · rw [f1, show ∀ s, okS false s = ⟨#[]⟩ from fun _ => rfl] at HLI1 HLS
      clear HLI HOL f1 hnl
      go_wp2_with fail
      refine (HLI1.out).mono ?_
      rintro e w5 ⟨rfl, bw5⟩
      have B5 : Below w.heap.size w w5 := B4.trans (bw5.mono B4.size)
      go_wp2_with fail
      refine (HLS.out _).mono ?_
      rintro e w6 ⟨rfl, bw6⟩
      have B6 : Below w.heap.size w w6 := B5.trans (bw6.mono B5.size)
      go_wp2_with fail
      refine (HMA.out _ B6).mono ?_
      rintro e w21 ⟨va, rfl, oa, bw21⟩
      have Ba : Below w.heap.size w w21 := B6.trans (bw21.mono B6.size)
      have Ra : RdM w21 va ma := Rd.of_own oa
      go_wp2_with fail
      refine (HMB.out _ Ba).mono ?_
      rintro e w22 ⟨vb, rfl, ob, bw22⟩
      have Bb : Below w.heap.size w w22 := Ba.trans (bw22.mono Ba.size)
      have Rb : RdM w22 vb mb := Rd.of_own ob
      replace Ra := Ra.below bw22
      go_wp2_with fail
      refine (HCP.out _ _ _ Ra Rb).mono ?_
      rintro e w23 ⟨vc, rfl, oc, bw23⟩
      have Bc : Below w.heap.size w w23 := Bb.trans (bw23.mono Bb.size)
      have Rc : RdM w23 vc mc := Rd.of_own oc
      go_wp2_with fail
      refine (HMC.out _ Bc).mono ?_
      rintro e w24 ⟨vd, rfl, od, bw24⟩
      have Bd : Below w.heap.size w w24 := Bc.trans (bw24.mono Bc.size)
      have Rd4 : RdM w24 vd md := Rd.of_own od
      replace Rc := Rc.below bw24
      go_wp2_with fail
      refine (HSM.out _ _ _ Rc Rd4).mono ?_
      rintro e w25 ⟨rfl, bw25⟩
      have Be : Below w.heap.size w w25 := Bd.trans (bw25.mono Bd.size)
      go_wp2
      go_ret
      exact ⟨rfl, Be⟩
  · rw [h1, show ∀ s, okS false s = ⟨#[]⟩ from fun _ => rfl] at HI HS
    clear h1 HMA HMB
    have s1 := Q1.out ⟨#[]⟩
    go_wp2_with fail
    refine (HI.out).mono ?_
    rintro e w2 ⟨rfl, bw2⟩
    have B2 : Below w.heap.size w w2 := b1.trans (bw2.mono b1.size)
    go_wp2_with fail
    refine (HS.out _).mono ?_
    rintro e w3 ⟨rfl, bw3⟩
    have B3 : Below w.heap.size w w3 := B2.trans (bw3.mono B2.size)
    go_wp2_with fail
    refine (HDL.out _ B3).mono ?_
    rintro e w4 ⟨pp, qq, n, rfl, hsh2, bw4⟩
    have B4 : Below w.heap.size w w4 := B3.trans (bw4.mono B3.size)
    have hpp : pp.size ≤ 1048576 := by have := hsh2.out.1; omega
    have hqq : qq.size ≤ 1048576 := by have := hsh2.out.2.1; omega
    have hnl : -1 ≤ n ∧ n ≤ 61 := hsh2.out.2.2
    have HLI := Lib.hid (fun x W (hb : Below w.heap.size w W) => imLoopAfter_c pp qq x hpp hqq W (hT.below hb))
    have HLS := Lib.hid (fun W => spLoopAfter_c pp qq n hpp hqq W)
    have HLI1 := Lib.hid (HLI.out n _ B4)
    have HOL : Hid (∀ x, laB pp.data.toList qq.data.toList x = okS (laOk pp.data.toList qq.data.toList x) (arB (laS (clM pp.data.toList qq.data.toList) x.toNat) pp.data.toList)) := fun _ => rfl
    rw [HOL.out] at HLI1 HLS
    clear hsh2
    rcases Bool.eq_false_or_eq_true (laOk pp.data.toList qq.data.toList n) with f1 | f1
    · rw [f1, show ∀ s, okS true s = s from fun _ => rfl] at HLI1 HLS
      have f2 : clOk pp.data.toList qq.data.toList = true ∧ 0 ≤ n ∧ n ≤ 60 := by
        unfold laOk at f1
        rw [Bool.and_eq_true, Bool.and_eq_true, decide_eq_true_eq, decide_eq_true_eq] at f1
        exact f1
      obtain ⟨f3, f4, f5⟩ := f2
      obtain ⟨m, rfl⟩ := Int.eq_ofNat_of_zero_le f4
      rw [show (m : Int).toNat = m from rfl] at HLI1 HLS
      obtain ⟨x1, x2⟩ := la_next (p := pp) (q := qq) (m := m) f3
      have hls := la_size (p := pp.data.toList) (q := qq.data.toList) (m := m) f3
      have HCA := Lib.hid (fun W (hb : Below w.heap.size w W) => imCallAfter_c pp (arB (laS (clM pp.data.toList qq.data.toList) m) pp.data.toList) qq hpp (by omega) hqq W (hT.below hb))
      rw [x1, x2] at HCA
      have HLN := Lib.hid (HLI.out ((m : Int) + 1))
      rw [HOL.out, show ((m : Int) + 1).toNat = m + 1 from rfl] at HLN
      have hm1 : (m : Int) + 1 ≤ 61 := by omega
      have hm0 : (0 : Int) ≤ (m : Int) := by omega
      clear HLI HOL f1 f3 f4 f5 x1 x2 hls hnl
      generalize arB (laS (clM pp.data.toList qq.data.toList) m) pp.data.toList = lp at *
      generalize laOk pp.data.toList qq.data.toList ((m : Int) + 1) = gd at *
      generalize arB (laS (clM pp.data.toList qq.data.toList) (m + 1)) pp.data.toList = nx at *
      have s2 := Q1.out lp
      have s3 := Q1.out nx
      go_wp2_with fail
      refine (HLI1.out).mono ?_
      rintro e w5 ⟨rfl, bw5⟩
      have B5 : Below w.heap.size w w5 := B4.trans (bw5.mono B4.size)
      go_wp2_with fail
      refine (HLS.out _).mono ?_
      rintro e w6 ⟨rfl, bw6⟩
      have B6 : Below w.heap.size w w6 := B5.trans (bw6.mono B5.size)
      go_wp2_with fail
      refine (HCA.out _ B6).mono ?_
      rintro e w7 ⟨rfl, bw7⟩
      have B7 : Below w.heap.size w w7 := B6.trans (bw7.mono B6.size)
      cases gd with
      | true =>
        rw [show ∀ s, okS true s = s from fun _ => rfl] at HLN
        go_wp2_with fail
        refine (HLN.out _ B7).mono ?_
        rintro e w8 ⟨rfl, bw8⟩
        have B8 : Below w.heap.size w w8 := B7.trans (bw8.mono B7.size)
        go_wp2
        go_ret
        exact ⟨rfl, B8⟩
      | false =>
        rw [show ∀ s, okS false s = ⟨#[]⟩ from fun _ => rfl] at HLN
        go_wp2_with fail
        refine (HLN.out _ B7).mono ?_
        rintro e w8 ⟨rfl, bw8⟩
        have B8 : Below w.heap.size w w8 := B7.trans (bw8.mono B7.size)
        go_wp2
        go_ret
        exact ⟨rfl, B8⟩
    · rw [f1, show ∀ s, okS false s = ⟨#[]⟩ from fun _ => rfl] at HLI1 HLS
      clear HLI HOL f1 hnl
      go_wp2_with fail
      refine (HLI1.out).mono ?_
      rintro e w5 ⟨rfl, bw5⟩
      have B5 : Below w.heap.size w w5 := B4.trans (bw5.mono B4.size)
      go_wp2_with fail
      refine (HLS.out _).mono ?_
      rintro e w6 ⟨rfl, bw6⟩
      have B6 : Below w.heap.size w w6 := B5.trans (bw6.mono B5.size)
      go_wp2
      go_ret
      exact ⟨rfl, B6⟩

namespace fnCallAfter
open Go.RowKit Go.PM Go.ChangeShapes Go.WideShapes Go.ChangeAt
open Go.ChangeMaps (open_string shut_string)
set_option maxRecDepth 100000 in
theorem lifted (os : Os) (started : os.Started) (H : Type) (enc : TypeId × Value → H) :
    ReturnsInHanded {} Tryd.checked os 4 .any (fun w args => (Rows.fnCallAfterSpec.pre enc Tryd.prog Tryd.f4 [] false w args ∧ laidMetH Tryd.prog laidL w) ∧ sizedMet enc Tryd.prog Tryd.f4 (OpenSpec.ofChange Rows.fnCallAfterSpec) false w args)
      (Rows.fnCallAfterSpec.post enc Tryd.prog Tryd.f4 false true false false) := by
  refine returnsInHanded_of_change_and (C := Tryd.checked) (X := fun w _ => laidMetH Tryd.prog laidL w) (fun _ _ _ hh h => h.of_heap hh) own started (by kernel_rfl) Tryd.func4
    (ChangeSpec.witness_at (enc := enc) (C := Tryd.checked) (os := os) (X := fun w _ => laidMetH Tryd.prog laidL w) false (laidWorld os) #[.slice none 0 0, .slice none 0 0] 8 rfl (by kernel_rfl) (by kernel_rfl) (by kernel_rfl) (by kernel_rfl) (by kernel_rfl) (laidWorld_met os _)) ?_
  intro W base args ds gs before hval0 hW _ _ hL _
  have hval : ∀ (j : Nat) t v, Tryd.f4.params[j]? = some t → args[j]? = some v → Value.okWide Tryd.prog W .any base t v := hval0
  have hW' := hW
  obtain ⟨p, q, hA0, hV, rfl, hfz, hnd⟩ := hW
  have hA : DataW.TrodAll enc Tryd.prog W 0 (fun _ => true) true Tryd.f4.params.toList args.toList ds p := hA0
  rw [Tryd.params4] at hA hval
  obtain ⟨v0, vs0, d0, ds0, p0, q0, hargs, rfl, rfl, h0, r0⟩ := trodAll_cons hA
  obtain ⟨v1, vs1, d1, ds1, p1, q1, rfl, rfl, rfl, h1, r1⟩ := trodAll_cons r0
  obtain ⟨rfl, rfl, rfl⟩ := trodAll_nil r1
  obtain rfl : args = #[v0, v1] := by cases args; simp_all
  obtain ⟨rfl, rfl⟩ := trodVars_none hV
  have hG := u8_of_laid hL
  have k0 := h0
  have lt0 : ∀ x ∈ p0, x.block < W.heap.size := by obtain ⟨m, hm⟩ := k0; exact DataW.trod_lt m _ _ _ hm
  have k1 := h1
  have lt1 : ∀ x ∈ p1, x.block < W.heap.size := by obtain ⟨m, hm⟩ := k1; exact DataW.trod_lt m _ _ _ hm
  obtain ⟨a0, len0, cap0, rfl⟩ := okWide_slice Tryd.underlying22 (hval 0 22 v0 rfl rfl)
  have hx0 : RdB W W.heap.size (.slice a0 len0 cap0) len0 := by obtain ⟨fuel, hf⟩ := h0; exact open_bytes hf
  obtain ⟨a1, len1, cap1, rfl⟩ := okWide_slice Tryd.underlying22 (hval 1 22 v1 rfl rfl)
  have hx1 : RdB W W.heap.size (.slice a1 len1 cap1) len1 := by obtain ⟨fuel, hf⟩ := h1; exact open_bytes hf
  clear hA0 hval0
  refine (exCallAfter W _ len0 hx0 _ len1 hx1 hG).mono fun e W' ⟨he, bel⟩ => ?_
  subst he
  exact ⟨_, rfl, _, _, _, [], _, [], hW', trodAll_mk1 (shut_bool Tryd.underlying4 _), (trodAll_cons_mk (Below.trod laidOut (by kernel_rfl) (of_decide_eq_true (by kernel_rfl)) k0 bel lt0) (trodAll_cons_mk (Below.trod laidOut (by kernel_rfl) (of_decide_eq_true (by kernel_rfl)) k1 bel lt1) trodAll_mk0)), rfl, bel.frame _, fun h => by cases h⟩

theorem over : Rows.fnCallAfterRow.holds Tryd.pinned (OpenSpec.ofChange Rows.fnCallAfterSpec) :=
  OpenClaim.holds_of_wide 4 Tryd.f4 rfl rfl rfl rfl rfl rfl rfl ⟨rfl, rfl, rfl, rfl, rfl⟩ rfl rfl rfl rfl rfl (by kernel_rfl) Tryd.func4 (by kernel_rfl)
    (of_decide_eq_true (by kernel_rfl)) (by unfold Func.isWrapper; first | (rw [if_pos (by decide +kernel)]; kernel_rfl) | (rw [if_neg (by decide +kernel)]; exact ⟨rfl, rfl⟩))
    (fun os started H enc _ => lifted os started H enc)

/-- The statement. -/
theorem proved : Rows.FnCallAfterCardSaid :=
  Claim7.holds_tied_plain_at .later [] [.data, .pinned] true Rows.fnCallAfterCard.stood.harness false
    over (fun _ h => by cases h) (by kernel_rfl) (fun _ h => by cases h) fnCallAfter_row_tie rfl ⟨rfl, rfl⟩ (by kernel_rfl) rfl
    (fun f fn hf hfn => by
      obtain rfl : f = 4 := Option.some.inj ((show Tryd.prog.funcNamed "loop.example/parallelmoves/laws.FnCallAfter" = some 4 by kernel_rfl).symm.trans hf) |>.symm
      obtain rfl : fn = Tryd.f4 := (Option.some.inj (Tryd.func4.symm.trans hfn)).symm
      exact ⟨by kernel_rfl, fun j t ht => by
        rw [Tryd.params4] at ht
        rcases j with _ | _ | j
        · obtain rfl : t = 22 := by simpa using ht.symm
          exact (show Tryd.prog.wantsStandIn 22 = false by kernel_rfl)
        · obtain rfl : t = 22 := by simpa using ht.symm
          exact (show Tryd.prog.wantsStandIn 22 = false by kernel_rfl)
        · simp at ht⟩)
    (by kernel_rfl)
end fnCallAfter
end Go.Proofs.YtcpibkffeenehaaDoor
