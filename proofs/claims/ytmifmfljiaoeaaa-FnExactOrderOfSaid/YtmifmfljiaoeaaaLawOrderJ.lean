/- Proved: for every input of the form's own reach the law FnExactOrderOf answers true and its arguments read afterwards as before; no further condition. -/
import Derived.Test.YtmifmfljiaoeaaaRow
import Derived.Deep.RegionHeld3
import Derived.Test.YtmifmfljiaoeaaaIdle
import Derived.Test.YtmifmfljiaoeaaaHold
import Derived.Test.YtmifmfljiaoeaaaComp
import Derived.Test.YtmifmfljiaoeaaaBusy
import Derived.Test.YtmifmfljiaoeaaaUndoP
import Derived.Test.YtmifmfljiaoeaaaLeaves
import Derived.Test.YtmifmfljiaoeaaaRingI
import Derived.Test.YtmifmfljiaoeaaaWheelP
import Derived.Test.YtmifmfljiaoeaaaDeep2
import Derived.Test.YtmifmfljiaoeaaaOwn
import Derived.Test.YtmifmfljiaoeaaaHar
import Derived.Test.YtmifmfljiaoeaaaOpen
namespace Go.PM
open Go.RowKit
theorem yieldsIf_row {P : Program} {ops : Array Oper} {S : World → Prop} {op : Oper} {a : Act} (hw : Region.wanted op (yielded ops a.tmps) = true) (ty : TypeId) (x : Operand) (ho : op.op = .load ty x)
    (b : Nat) (t : TypeId) (cs : Array Value) (hx : a.eval x = .pointer (some ⟨b, 0, none⟩)) (hS : ∀ w, S w → At w b t cs)
    (k : Nat) (e : TypeId) (hu : P.underlying ty = some (.array k e)) (hi : (P.info? ty).map (·.size) = some cs.size) : YieldsIf P ops S op (.agg cs) a :=
  .inl ⟨hw, fun w hw' => by
    unfold execOp
    simp only [ho, hx, Instr.loadAt, Instr.sureAddr, Sem.run_bind, Sem.run_pure, Result.andThen_ok, run_loadVar_row w b t ty cs (0, 0) _ (hS w hw') hu rfl hi]⟩
end Go.PM
namespace Go.PM
open Go.RowKit
theorem SVal_then {f g : Nat → ByteArray} (h1 : SVal (srcT f)) (h2 : SVal (srcT g)) : SVal (srcT (thenF f g)) := by
  intro p hp
  rw [srcT_then]
  exact SVal_cmp h1 h2 p hp
theorem SVal_tab {xs : List Mv} (h : MV xs) : SVal (srcT (tabOf xs)) := by
  intro p hp
  rw [srcT_M h hp]
  exact SVal_M h p hp
theorem SVal_zero : SVal (srcT fun _ => emp) := fun _ h => isS_nm h
/-- what the loop of power holds: what is done, what is left -/
structure PwR (f : Nat → ByteArray) (N : Nat) (d x : Nat → ByteArray) (k : Nat) : Prop where
  inv : PwInv f N d x k
  dv : SVal (srcT d)
  xv : SVal (srcT x)
theorem PwR.start {f : Nat → ByteArray} (h : SVal (srcT f)) (N : Nat) : PwR f N (fun _ => emp) f N := ⟨PwInv_start f N, SVal_zero, h⟩
theorem PwR.odd {f d x : Nat → ByteArray} {N n : Nat} (h : PwR f N d x n) (h1 : n % 2 = 1) : PwR f N (thenF d x) (thenF x x) (n / 2) := ⟨PwInv_odd h.inv h1, SVal_then h.dv h.xv, SVal_then h.xv h.xv⟩
theorem PwR.even {f d x : Nat → ByteArray} {N n : Nat} (h : PwR f N d x n) (h1 : n % 2 = 0) : PwR f N d (thenF x x) (n / 2) := ⟨PwInv_even h.inv h1, h.dv, SVal_then h.xv h.xv⟩
theorem PwR.done {f d x : Nat → ByteArray} {N : Nat} (h : PwR f N d x 0) : ∀ p, p < 9 → srcT d p = pwF (srcT f) N p := fun _ hp => PwInv_end h.inv hp
end Go.PM
namespace Go.Proofs.Ytmifmfljiaoeaaa
open Go.RowKit Go.PM

theorem then_v (f g : Nat → ByteArray) (hg : SVal (srcT g)) (w : World) :
    Calls Try.prog 48 #[tabX f, tabX g] w fun e w' => e = .returned (tabX (thenF f g)) ∧ Below w.heap.size w w' := then_c f g hg w
theorem idle_v (f : Nat → ByteArray) (w : World) :
    Calls Try.prog 49 #[tabX f] w fun e w' => e = .returned (tabX (noIdle f)) ∧ Below w.heap.size w w' := idle_c f w

set_option maxRecDepth 100000 in
set_option maxHeartbeats 2000000 in
theorem power_c (f : Nat → ByteArray) (hf : SVal (srcT f)) (n : Nat) (hn : n ≤ 60) (w : World) :
    Calls Try.prog 58 #[zX, tabX f, .int .i64 n] w fun e w' => ∃ d, e = .returned (tabX d) ∧ Hid (∀ p, p < 9 → srcT d p = pwF (srcT f) n p) ∧ Below w.heap.size w w' := by
  have HM : ∀ (n : Nat) (w : World) (t : Nat → ByteArray), (method (n + 1) 52 (.agg (tabC t)) "loop.example/parallelmoves/impl.then").run Try.prog w = .ok (48, .agg (tabC t)) w := fun _ _ _ => by kernel_rfl
  have HST := Lib.hid (PwR.start hf n)
  have HTH := Lib.hid (fun x y hy W => then_v x y hy W)
  clear hf
  go_enter Try.func58, Try.ntmps58
  obtain ⟨W0, hW0⟩ : ∃ W0 : World, W0 = (((w.alloc (.cells zA 52)).alloc (.cells (tabA f) 52)).alloc (.cells zA 52)).alloc (.cells zA 52) := ⟨_, rfl⟩
  have hB0 : Below w.heap.size w W0 := by rw [hW0]; (repeat' (first | (with_reducible exact Below.refl _ _) | (with_reducible assumption) | (with_reducible refine Below.alloc ?_ ?_ _) | (with_reducible refine Below.drew ?_) | (with_reducible refine Below.setCell ?_ ?_ _) | (with_reducible exact Nat.le_refl _) | omega | ((repeat (first | rewrite [World.size_alloc] | rewrite [World.size_setCell] | rewrite [World.size_drew])); omega) | (simp; omega) | (simp; done)))
  have hA1 : At W0 (w.heap.size + 1) 52 (tabA f) := by
    rw [hW0]; have := ((At.new (w.alloc (.cells zA 52)) 52 (tabA f)).alloc (.cells zA 52)).alloc (.cells zA 52)
    rwa [World.size_alloc] at this
  have hA2 : At W0 (w.heap.size + 1 + 1) 52 zA := by
    rw [hW0]; have := (At.new ((w.alloc (.cells zA 52)).alloc (.cells (tabA f) 52)) 52 zA).alloc (.cells zA 52)
    rwa [World.size_alloc, World.size_alloc] at this
  have hA3 : At W0 (w.heap.size + 1 + 1 + 1) 52 zA := by
    rw [hW0]; have := At.new (((w.alloc (.cells zA 52)).alloc (.cells (tabA f) 52)).alloc (.cells zA 52)) 52 zA
    rwa [World.size_alloc, World.size_alloc, World.size_alloc] at this
  go_wp2
  rw [← hW0]
  clear hW0
  go_loopw [2] (fun i wr => ∃ (k : Nat) (d x : Nat → ByteArray), k ≤ n ∧ i = .int .i64 k ∧ At wr (w.heap.size + 1) 52 (tabC x) ∧ At wr (w.heap.size + 1 + 1) 52 zA ∧ At wr (w.heap.size + 1 + 1 + 1) 52 (tabC d) ∧ Below w.heap.size w wr ∧ Hid (PwR f n d x k)) (fun i _ => (intOf i).toNat)
  case atStart => exact ⟨n, fun _ => emp, f, Nat.le_refl _, rfl, hA1, hA2, hA3, hB0, HST.out⟩
  case round =>
    obtain ⟨k, d, x, hk, rfl, h1, h2, h3, hb, hinv⟩ := hrel
    have hbs := hb.size
    have hl1 := h1.lt
    have hl2 := h2.lt
    have hl3 := h3.lt
    by_cases h0 : 0 < k
    · have i0 : (0 : Int) < (k : Int) := by omega
      have hq : (k : Int) / 2 = ((k / 2 : Nat) : Int) := by omega
      have HQ := Lib.hid hq
      clear hq
      have hkk : k / 2 ≤ n := by omega
      have hkl : k / 2 < k := by omega
      have hsz := hinv.out.xv
      have HT2 := Lib.hid (HTH.out x x hsz)
      rcases Nat.mod_two_eq_zero_or_one k with hm | hm
      · have hme : ((k : Int) % 2 == 1) = false := by rw [show (k : Int) % 2 = 0 by omega]; rfl
        have HI2 : Hid (PwR f n d (thenF x x) (k / 2)) := hinv.out.even hm
        clear hm hinv hsz
        generalize thenF x x = xx at *
        go_wp2_with (first | (refine ld_row rfl 52 (.tmp 4) rfl (w.heap.size + 1) 52 (tabC x) h1 (by rfl) 9 9 Try.underlying52 (by kernel_rfl) ?_) | (go_at_call 48; refine (HT2.out _).mono ?_; rintro e w2 ⟨rfl, hb2⟩; refine held ?_))
        unfold Held
        have m1 := h1.keep hb2
        have m2 := h2.keep hb2
        have m3 := h3.keep hb2
        have hbw := hb.trans (hb2.mono hbs)
        have hbws := hbw.size
        clear h1 h2 h3 hb hb2
        go_wp2_with (refine st_row rfl 52 (.tmp 4) (.tmp 23) rfl rfl (w.heap.size + 1) 52 (tabC x) (tabC xx) m1 (by rfl) (by rfl) (by kernel_rfl) rfl (tabC_all _) ?_; intro W5 k1 g5)
        have k2 : At W5 (w.heap.size + 1 + 1) 52 zA := m2.grown g5 (by first | (simp; done) | (simp; omega))
        have k3 : At W5 (w.heap.size + 1 + 1 + 1) 52 (tabC d) := m3.grown g5 (by first | (simp; done) | (simp; omega))
        have hB5 := hbw.trans (below_grown g5 (B := w.heap.size) hbws (fun g e => by cases e; omega))
        clear m1 m2 m3 hbw g5
        go_wp2
        go_roundw
        case rel => exact ⟨k / 2, d, xx, hkk, by first | rfl | (rw [← HQ.out]) | (go_num), k1, k2, k3, hB5, HI2⟩
        case measure => simp [intOf]; omega
      · have hme : ((k : Int) % 2 == 1) = true := by rw [show (k : Int) % 2 = 1 by omega]; rfl
        have HI2 : Hid (PwR f n (thenF d x) (thenF x x) (k / 2)) := hinv.out.odd hm
        have HT1 := Lib.hid (HTH.out d x hsz)
        clear hm hinv hsz
        generalize thenF x x = xx at *
        generalize thenF d x = dx at *
        have l1 := h1.lt
        have l3 := h3.lt
        go_wp2_with (first | (refine ld_row rfl 52 (.tmp 7) rfl (w.heap.size + 1 + 1 + 1) 52 (tabC d) h3 (by rfl) 9 9 Try.underlying52 (by kernel_rfl) ?_) | (refine ld_row rfl 52 (.tmp 4) rfl (w.heap.size + 1) 52 (tabC x) h1 (by rfl) 9 9 Try.underlying52 (by kernel_rfl) ?_) | (go_at_call 48; refine (HT1.out _).mono ?_; rintro e w2 ⟨rfl, hb2⟩; refine held ?_))
        unfold Held
        have m1 := h1.keep hb2
        have m2 := h2.keep hb2
        have m3 := h3.keep hb2
        have hbw := hb.trans (hb2.mono hbs)
        have hbws := hbw.size
        clear h1 h2 h3 hb hb2 HT1
        go_wp2_with (refine st_row rfl 52 (.tmp 7) (.tmp 19) rfl rfl (w.heap.size + 1 + 1 + 1) 52 (tabC d) (tabC dx) m3 (by rfl) (by rfl) (by kernel_rfl) rfl (tabC_all _) ?_; intro W5 k3 g5; refine held ?_)
        unfold Held
        have k2 : At W5 (w.heap.size + 1 + 1) 52 zA := m2.grown g5 (by first | (simp; done) | (simp; omega))
        have k1 : At W5 (w.heap.size + 1) 52 (tabC x) := m1.grown g5 (by first | (simp; done) | (simp; omega))
        have hB5 := hbw.trans (below_grown g5 (B := w.heap.size) hbws (fun g e => by cases e; omega))
        have hB5s := hB5.size
        have l5 := k1.lt
        clear m1 m2 m3 hbw g5
        go_wp2_with (first | (refine ld_row rfl 52 (.tmp 4) rfl (w.heap.size + 1) 52 (tabC x) k1 (by rfl) 9 9 Try.underlying52 (by kernel_rfl) ?_) | (go_at_call 48; refine (HT2.out _).mono ?_; rintro e w6 ⟨rfl, hb6⟩; refine held ?_))
        unfold Held
        have m1 := k1.keep hb6
        have m2 := k2.keep hb6
        have m3 := k3.keep hb6
        have hbw := hB5.trans (hb6.mono hB5s)
        have hbws := hbw.size
        clear k1 k2 k3 hB5 hb6
        go_wp2_with (refine st_row rfl 52 (.tmp 4) (.tmp 23) rfl rfl (w.heap.size + 1) 52 (tabC x) (tabC xx) m1 (by rfl) (by rfl) (by kernel_rfl) rfl (tabC_all _) ?_; intro W7 k1 g7)
        have k2 : At W7 (w.heap.size + 1 + 1) 52 zA := m2.grown g7 (by first | (simp; done) | (simp; omega))
        have k3 : At W7 (w.heap.size + 1 + 1 + 1) 52 (tabC dx) := m3.grown g7 (by first | (simp; done) | (simp; omega))
        have hB7 := hbw.trans (below_grown g7 (B := w.heap.size) hbws (fun g e => by cases e; omega))
        clear m1 m2 m3 hbw g7
        go_wp2
        go_roundw
        case rel => exact ⟨k / 2, dx, xx, hkk, by first | rfl | (rw [← HQ.out]) | (go_num), k1, k2, k3, hB7, HI2⟩
        case measure => simp [intOf]; omega
    · have hk0 : k = 0 := by omega
      subst hk0
      have HD := Lib.hid hinv.out.done
      clear hinv
      go_wp2_with (first | (refine ld_row rfl 52 (.tmp 7) rfl (w.heap.size + 1 + 1 + 1) 52 (tabC d) h3 (by rfl) 9 9 Try.underlying52 (by kernel_rfl) ?_) | (refine st_row rfl 52 (.tmp 6) (.tmp 24) rfl rfl (w.heap.size + 1 + 1) 52 zA (tabC d) h2 (by rfl) (by rfl) (by kernel_rfl) rfl (tabC_all _) ?_; intro W5 k2 g5))
      have hB5 := hb.trans (below_grown g5 (B := w.heap.size) hbs (fun g e => by cases e; omega))
      refine bodyPost_ret (v := tabV d) (results_row1 Try.results58 _ _ (w.heap.size + 1 + 1) 52 (tabC d) (by rfl) k2 9 9 Try.underlying52 (by kernel_rfl)) rfl ⟨d, rfl, HD, hB5⟩
end Go.Proofs.Ytmifmfljiaoeaaa
namespace Go.PM
open Go.RowKit
theorem compM_len (xs ys : List Mv) : (compM xs ys).length ≤ 9 := by
  unfold compM
  split
  · exact lsF_len _ 9
  · simp
theorem compM_yes {xs ys : List Mv} (h1 : mvalid xs = true) (h2 : mvalid ys = true) : compM xs ys = lsF (cmpM xs ys) 9 := by rw [compM, h1, h2]; rfl
theorem compM_no {xs ys : List Mv} (h : (mvalid xs && mvalid ys) = false) : compM xs ys = [] := by rw [compM, h]; rfl
def pwL (xs : List Mv) (n : Nat) : List Mv := lsF (pwF (fun q => srcM xs (nm q)) n) 9
theorem pwL_zero (xs : List Mv) : pwL xs 0 = [] := lsF_nm
theorem pwL_succ (xs : List Mv) (n : Nat) : lsF (cmpM (pwL xs n) xs) 9 = pwL xs (n + 1) := cmpM_pw xs n
theorem pwL_len (xs : List Mv) (n : Nat) : (pwL xs n).length ≤ 9 := lsF_len _ 9
def powOk (xs : List Mv) (n : Int) : Bool := mvalid xs && (decide (0 ≤ n) && decide (n ≤ 60))
theorem powM_yes {xs : List Mv} {n : Int} (h : powOk xs n = true) : powM xs n = pwL xs n.toNat := by
  unfold powOk at h; rw [powM, h]; rfl
theorem powM_no {xs : List Mv} {n : Int} (h : powOk xs n = false) : powM xs n = [] := by
  unfold powOk at h; rw [powM, h]; rfl
theorem powM_len (xs : List Mv) (n : Int) : (powM xs n).length ≤ 9 := by
  unfold powM
  split
  · exact lsF_len _ 9
  · simp
end Go.PM
namespace Go.Proofs.Ytmifmfljiaoeaaa
open Go.RowKit Go.PM

set_option maxRecDepth 100000 in
set_option maxHeartbeats 1000000 in
theorem l4Compose_c (xs ys : List Mv) (v u : Value) (w : World) (hx : RdM w v xs) (hy : RdM w u ys) :
    Calls Try.prog 52 #[v, u] w fun e w' => ∃ v', e = .returned v' ∧ w'.ownsRow w.heap.size 60 2 v' (lsF (cmpM xs ys) 9).length (mcells (lsF (cmpM xs ys) 9)) ∧ Below w.heap.size w w' := by
  have HN : Hid (∀ q, q < 9 → (ByteArray.mk #[97, 98, 99, 100, 101, 102, 65, 66, 67]).extract q (q+1) = nm q) := by
    show ∀ q, _
    intro q hq
    match q, hq with
    | 0, _ | 1, _ | 2, _ | 3, _ | 4, _ | 5, _ | 6, _ | 7, _ | 8, _ => decide +kernel
  have HSY := Lib.hid (fun W (hW : RdM W u ys) (a : ByteArray) => l1Source_c ys u a W hW)
  have HSX := Lib.hid (fun W (hW : RdM W v xs) (a : ByteArray) => l1Source_c xs v a W hW)
  have HX := Lib.hid (fun W (hW : Below w.heap.size w W) => hx.below hW)
  have HYB := Lib.hid (fun W (hW : Below w.heap.size w W) => hy.below hW)
  have hE := World.ownsRow_lit (e := 60) (base := w.heap.size) (size := 2) w #[] 0 (Nat.le_refl _) (Nat.zero_le _) rfl
  clear hx hy
  go_enter Try.func52, Try.ntmps52
  go_wp2
  go_loopw [5, 10] (fun o i wr => ∃ (k : Nat), k ≤ 9 ∧ i = .int .i64 k ∧ wr.ownsRow w.heap.size 60 2 o (lsF (cmpM xs ys) k).length (mcells (lsF (cmpM xs ys) k)) ∧ Below w.heap.size w wr) (fun _ i _ => 9 - (intOf i).toNat)
  case atStart => exact ⟨0, by omega, rfl, hE, by (repeat' (first | (with_reducible exact Below.refl _ _) | (with_reducible assumption) | (with_reducible refine Below.alloc ?_ ?_ _) | (with_reducible refine Below.drew ?_) | (with_reducible refine Below.setCell ?_ ?_ _) | (with_reducible exact Nat.le_refl _) | omega | ((repeat (first | rewrite [World.size_alloc] | rewrite [World.size_setCell] | rewrite [World.size_drew])); omega) | (simp; omega) | (simp; done)))⟩
  case round =>
    obtain ⟨k, hk, rfl, ho, hb⟩ := hrel
    have hbs := hb.size
    by_cases hlt : k < 9
    · have hex := HN.out k hlt
      have hyr := HYB.out wr hb
      have HY := Lib.hid (lsF_yes (cmpM xs ys) k)
      have HZ := Lib.hid (lsF_no (cmpM xs ys) k)
      have hle := lsF_len (cmpM xs ys) k
      have HH := Lib.hid (show lsH (cmpM xs ys) k = decide (cmpM xs ys k ≠ nm k) from rfl)
      have HCM := Lib.hid (cmpM_eq xs ys k)
      have hcall := HSY.out wr hyr (nm k)
      have HC := Lib.hid hcall
      clear hcall hyr
      generalize hsk : srcM ys (nm k) = sk at *
      generalize cmpM xs ys k = cm at *
      generalize nm k = q at *
      go_wp2_with fail
      refine HC.out.mono ?_
      rintro e w2 ⟨rfl, hb2⟩
      have hb2s := hb2.size
      have ho2 := own_keep ho hb2
      have hbw := hb.trans (hb2.mono hbs)
      have hbws := hbw.size
      have hxr := HX.out w2 hbw
      rcases Bool.eq_false_or_eq_true (isP sk) with hp | hp
      · have hcm : cm = srcM xs sk := by rw [HCM.out, if_pos hp]
        have hcall := HSX.out w2 hxr sk
        rw [← hcm] at hcall
        have HC2 := Lib.hid hcall
        clear hcm hcall hxr hb2 hb ho
        rcases Bool.eq_false_or_eq_true (cm.toList == q.toList) with hd | hd
        · have HD := Lib.hid hd
          go_wp2_with (first | (go_at_call 86; refine (l1Place_c _ _).mono ?_; rintro e w' ⟨rfl, rfl⟩; rw [hp]) | (go_at_call 74; refine HC2.out.mono ?_; rintro e w4 ⟨rfl, hb4⟩; refine held ?_))
          unfold Held
          have ho4 := own_keep ho2 hb4
          have hbw4 := hbw.trans (hb4.mono hbws)
          clear ho2 hb4
          go_wp2
          go_roundw
          case rel =>
            have h := HD.out
            rw [beq_str, decide_eq_true_eq] at h
            refine ⟨k + 1, by omega, by go_num, ?_, by (repeat' (first | (with_reducible exact Below.refl _ _) | (with_reducible assumption) | (with_reducible refine Below.alloc ?_ ?_ _) | (with_reducible refine Below.drew ?_) | (with_reducible refine Below.setCell ?_ ?_ _) | (with_reducible exact Nat.le_refl _) | omega | ((repeat (first | rewrite [World.size_alloc] | rewrite [World.size_setCell] | rewrite [World.size_drew])); omega) | (simp; omega) | (simp; done)))⟩
            rw [HZ.out (by rw [HH.out, h]; simp)]; exact ho4
          case measure => simp [intOf]; omega
        · have HD := Lib.hid hd
          go_wp2_with (first | (go_at_call 86; refine (l1Place_c _ _).mono ?_; rintro e w' ⟨rfl, rfl⟩; rw [hp]) | (go_at_call 74; refine HC2.out.mono ?_; rintro e w4 ⟨rfl, hb4⟩; refine held ?_))
          unfold Held
          have hb4s := hb4.size
          have ho4 := own_keep ho2 hb4
          have hbw4 := hbw.trans (hb4.mono hbws)
          have hbw4s := hbw4.size
          have hnw := two_new w4 (.string q) (.string cm) 60
          clear ho2 hb4
          go_wp2_with (at_builtin; refine held ?_)
          unfold Held
          refine app_mv rfl (.tmp 28) (.tmp 32) rfl w.heap.size u5 (lsF (cmpM xs ys) k) (q, cm) ⟨w4.heap.size, 0, none⟩ 1 (by rfl) (by rfl) (own_keep ho4 ((Below.refl _ _).alloc (Nat.le_refl _) _)) hnw (by omega) (by simp; omega) ?_
          intro v' w3 hown3 hgrow3
          have hb3 := below_grown hgrow3 (B := w.heap.size) (by simp; omega) (own_block_ge ho4)
          have hbw3 := Below.trans (hbw4.alloc hbw4s (.cells #[.string q, .string cm] 60)) hb3
          clear hb3 hgrow3 hnw
          go_wp2
          go_roundw
          case rel =>
            have h := HD.out
            rw [beq_str, decide_eq_false_iff_not] at h
            refine ⟨k + 1, by omega, by go_num, ?_, hbw3⟩
            rw [HY.out (by rw [HH.out]; simp [h])]; exact hown3
          case measure => simp [intOf]; omega
      · have hcm : cm = sk := by rw [HCM.out, if_neg (by rw [hp]; decide)]
        have HCC := Lib.hid hcm
        clear hcm hxr hb2 hb ho
        rcases Bool.eq_false_or_eq_true (sk.toList == q.toList) with hd | hd
        · have HD := Lib.hid hd
          go_wp2_with (first | (go_at_call 86; refine (l1Place_c _ _).mono ?_; rintro e w' ⟨rfl, rfl⟩; rw [hp]))
          go_roundw
          case rel =>
            have h := HD.out
            rw [beq_str, decide_eq_true_eq] at h
            refine ⟨k + 1, by omega, by go_num, ?_, by (repeat' (first | (with_reducible exact Below.refl _ _) | (with_reducible assumption) | (with_reducible refine Below.alloc ?_ ?_ _) | (with_reducible refine Below.drew ?_) | (with_reducible refine Below.setCell ?_ ?_ _) | (with_reducible exact Nat.le_refl _) | omega | ((repeat (first | rewrite [World.size_alloc] | rewrite [World.size_setCell] | rewrite [World.size_drew])); omega) | (simp; omega) | (simp; done)))⟩
            rw [HZ.out (by rw [HH.out, HCC.out, h]; simp)]; exact ho2
          case measure => simp [intOf]; omega
        · have HD := Lib.hid hd
          have hnw := two_new w2 (.string q) (.string sk) 60
          go_wp2_with (first | (go_at_call 86; refine (l1Place_c _ _).mono ?_; rintro e w' ⟨rfl, rfl⟩; rw [hp]) | (at_builtin; refine held ?_))
          unfold Held
          refine app_mv rfl (.tmp 28) (.tmp 32) rfl w.heap.size u5 (lsF (cmpM xs ys) k) (q, sk) ⟨w2.heap.size, 0, none⟩ 1 (by rfl) (by rfl) (own_keep ho2 ((Below.refl _ _).alloc (Nat.le_refl _) _)) hnw (by omega) (by simp; omega) ?_
          intro v' w3 hown3 hgrow3
          have hb3 := below_grown hgrow3 (B := w.heap.size) (by simp; omega) (own_block_ge ho2)
          have hbw3 := Below.trans (hbw.alloc hbws (.cells #[.string q, .string sk] 60)) hb3
          clear hb3 hgrow3 hnw
          go_wp2
          go_roundw
          case rel =>
            have h := HD.out
            rw [beq_str, decide_eq_false_iff_not] at h
            refine ⟨k + 1, by omega, by go_num, ?_, hbw3⟩
            rw [HY.out (by rw [HH.out, HCC.out]; simp [h]), HCC.out]; exact hown3
          case measure => simp [intOf]; omega
    · have hk9 : k = 9 := by omega
      subst hk9
      go_wp2
      go_ret
      exact ⟨_, rfl, ho, hb⟩

set_option maxRecDepth 100000 in
theorem l4Power_c (xs : List Mv) (v : Value) (n : Nat) (hn : n ≤ 60) (w : World) (hx : RdM w v xs) :
    Calls Try.prog 60 #[v, .int .i64 n] w fun e w' => ∃ v', e = .returned v' ∧ w'.ownsRow w.heap.size 60 2 v' (pwL xs n).length (mcells (pwL xs n)) ∧ Below w.heap.size w w' := by
  have HX := Lib.hid (fun W (hW : Below w.heap.size w W) => hx.below hW)
  have hE := World.ownsRow_lit (e := 60) (base := w.heap.size) (size := 2) w #[] 0 (Nat.le_refl _) (Nat.zero_le _) rfl
  have HZ := Lib.hid (pwL_zero xs)
  have HS := Lib.hid (pwL_succ xs)
  clear hx
  go_enter Try.func60, Try.ntmps60
  go_wp2
  go_loopw [5, 8] (fun o i wr => ∃ (k : Nat), k ≤ n ∧ i = .int .i64 k ∧ wr.ownsRow w.heap.size 60 2 o (pwL xs k).length (mcells (pwL xs k)) ∧ Below w.heap.size w wr) (fun _ i _ => n - (intOf i).toNat)
  case atStart => exact ⟨0, by omega, rfl, by rw [HZ.out]; exact hE, by (repeat' (first | (with_reducible exact Below.refl _ _) | (with_reducible assumption) | (with_reducible refine Below.alloc ?_ ?_ _) | (with_reducible refine Below.drew ?_) | (with_reducible refine Below.setCell ?_ ?_ _) | (with_reducible exact Nat.le_refl _) | omega | ((repeat (first | rewrite [World.size_alloc] | rewrite [World.size_setCell] | rewrite [World.size_drew])); omega) | (simp; omega) | (simp; done)))⟩
  case round =>
    obtain ⟨k, hk, rfl, ho, hb⟩ := hrel
    have hbs := hb.size
    by_cases hlt : k < n
    · have hlt' : (k : Int) < (n : Int) := by omega
      have hc := l4Compose_c (pwL xs k) xs u5 v wr (Rd.of_own ho) (HX.out wr hb)
      rw [HS.out] at hc
      have HC := Lib.hid hc
      clear hc
      go_wp2_with fail
      refine HC.out.mono ?_
      rintro e w2 ⟨v', rfl, ho2, hb2⟩
      have hbw := hb.trans (hb2.mono hbs)
      have ho3 := own_more ho2 hbs
      go_wp2
      go_roundw
      case rel => exact ⟨k + 1, by omega, by go_num, ho3, hbw⟩
      case measure => simp [intOf]; omega
    · have hk9 : k = n := by omega
      subst hk9
      go_wp2
      go_ret
      exact ⟨_, rfl, ho, hb⟩
set_option maxRecDepth 100000 in
theorem spComposeMoves_c (xs ys : List Mv) (v u : Value) (w : World) (hx : RdM w v xs) (hy : RdM w u ys) (hz : ∀ m ∈ xs, m.1.size ≤ 9223372036854775807 ∧ m.2.size ≤ 9223372036854775807) (hn : xs.length ≤ 1048576) (hz2 : ∀ m ∈ ys, m.1.size ≤ 9223372036854775807 ∧ m.2.size ≤ 9223372036854775807) (hn2 : ys.length ≤ 1048576) :
    Calls Try.prog 17 #[v, u] w fun e w' => ∃ v', e = .returned (.tuple #[v', .bool (mvalid xs && mvalid ys)]) ∧ w'.ownsRow w.heap.size 60 2 v' (compM xs ys).length (mcells (compM xs ys)) ∧ Below w.heap.size w w' := by
  have HX := Lib.hid (fun W (hW : Below w.heap.size w W) => hx.below hW)
  have HY := Lib.hid (fun W (hW : Below w.heap.size w W) => hy.below hW)
  have HV1 := Lib.hid (spMovesValid_c xs v w hx hz hn)
  have HV2 := Lib.hid (fun W hW => spMovesValid_c ys u W hW hz2 hn2)
  have HC := Lib.hid (fun W h1 h2 => l4Compose_c xs ys v u W h1 h2)
  have HM1 := Lib.hid (fun h1 h2 => compM_yes (xs := xs) (ys := ys) h1 h2)
  have HM2 := Lib.hid (fun h => compM_no (xs := xs) (ys := ys) h)
  clear hx hy hz hz2
  rcases Bool.eq_false_or_eq_true (mvalid xs) with h1 | h1
  · rcases Bool.eq_false_or_eq_true (mvalid ys) with h2 | h2
    all_goals
      go_enter Try.func17, Try.ntmps17
      go_wp2_with fail
      refine HV1.out.mono ?_
      rintro e w1 ⟨he, hb1⟩
      rw [h1] at he
      subst he
      have hs1 := hb1.size
      have hy1 := HY.out w1 hb1
      go_wp2_with fail
      refine (HV2.out w1 hy1).mono ?_
      rintro e w2 ⟨he, hb2⟩
      rw [h2] at he
      subst he
      have hbw := hb1.trans (hb2.mono hs1)
      have hs2 := hbw.size
    · have hx2 := HX.out w2 hbw
      have hy2 := HY.out w2 hbw
      go_wp2_with fail
      refine (HC.out w2 hx2 hy2).mono ?_
      rintro e w3 ⟨v', rfl, ho, hb3⟩
      have hb := hbw.trans (hb3.mono hs2)
      have ho3 := own_more ho hs2
      clear hb1 hb2 hb3 ho hx2 hy2
      go_wp2
      go_ret2
      exact ⟨_, by rw [h1, h2]; rfl, by rw [HM1.out h1 h2]; exact ho3, hb⟩
    · have hE := World.ownsRow_lit (e := 60) (base := w.heap.size) (size := 2) w2 #[] 0 hs2 (Nat.zero_le _) rfl
      go_wp2
      go_ret2
      exact ⟨_, by rw [h1, h2]; rfl, by rw [HM2.out (by rw [h1, h2]; rfl)]; exact hE, by (repeat' (first | (with_reducible exact Below.refl _ _) | (with_reducible assumption) | (with_reducible refine Below.alloc ?_ ?_ _) | (with_reducible refine Below.drew ?_) | (with_reducible refine Below.setCell ?_ ?_ _) | (with_reducible exact Nat.le_refl _) | omega | ((repeat (first | rewrite [World.size_alloc] | rewrite [World.size_setCell] | rewrite [World.size_drew])); omega) | (simp; omega) | (simp; done)))⟩
  · go_enter Try.func17, Try.ntmps17
    go_wp2_with fail
    refine HV1.out.mono ?_
    rintro e w1 ⟨he, hb1⟩
    rw [h1] at he
    subst he
    have hs1 := hb1.size
    have hE := World.ownsRow_lit (e := 60) (base := w.heap.size) (size := 2) w1 #[] 0 hs1 (Nat.zero_le _) rfl
    go_wp2
    go_ret2
    exact ⟨_, by rw [h1]; rfl, by rw [HM2.out (by rw [h1]; rfl)]; exact hE, by (repeat' (first | (with_reducible exact Below.refl _ _) | (with_reducible assumption) | (with_reducible refine Below.alloc ?_ ?_ _) | (with_reducible refine Below.drew ?_) | (with_reducible refine Below.setCell ?_ ?_ _) | (with_reducible exact Nat.le_refl _) | omega | ((repeat (first | rewrite [World.size_alloc] | rewrite [World.size_setCell] | rewrite [World.size_drew])); omega) | (simp; omega) | (simp; done)))⟩
set_option maxRecDepth 100000 in
theorem spPowerOf_c (xs : List Mv) (v : Value) (n : Int) (w : World) (hx : RdM w v xs) (hz : ∀ m ∈ xs, m.1.size ≤ 9223372036854775807 ∧ m.2.size ≤ 9223372036854775807) (hn : xs.length ≤ 1048576) :
    Calls Try.prog 22 #[v, .int .i64 n] w fun e w' => ∃ v', e = .returned (.tuple #[v', .bool (powOk xs n)]) ∧ w'.ownsRow w.heap.size 60 2 v' (powM xs n).length (mcells (powM xs n)) ∧ Below w.heap.size w w' := by
  have HX := Lib.hid (fun W (hW : Below w.heap.size w W) => hx.below hW)
  have HV1 := Lib.hid (spMovesValid_c xs v w hx hz hn)
  have HC := Lib.hid (fun W m hm h1 => l4Power_c xs v m hm W h1)
  have HM1 := Lib.hid (fun h => powM_yes (xs := xs) (n := n) h)
  have HM2 := Lib.hid (fun h => powM_no (xs := xs) (n := n) h)
  have HI := Lib.hid (fun W => l1In_c n 0 60 W)
  have HIB : Hid (inB n 0 60 = (decide (0 ≤ n) && decide (n ≤ 60))) := by show inB n 0 60 = _; unfold inB; rw [Bool.decide_and]
  have HOK : Hid (powOk xs n = (mvalid xs && (decide (0 ≤ n) && decide (n ≤ 60)))) := rfl
  clear hx hz
  rcases Bool.eq_false_or_eq_true (mvalid xs) with h1 | h1
  · rcases Bool.eq_false_or_eq_true (decide (0 ≤ n) && decide (n ≤ 60)) with h2 | h2
    all_goals
      go_enter Try.func22, Try.ntmps22
      go_wp2_with fail
      refine HV1.out.mono ?_
      rintro e w1 ⟨he, hb1⟩
      rw [h1] at he
      subst he
      have hs1 := hb1.size
      go_wp2_with fail
      refine (HI.out w1).mono ?_
      rintro e w2 ⟨he, hw2⟩
      rw [HIB.out, h2] at he
      subst he
      subst hw2
    · rw [Bool.and_eq_true, decide_eq_true_eq, decide_eq_true_eq] at h2
      obtain ⟨m, rfl⟩ := Int.eq_ofNat_of_zero_le h2.1
      have hm : m ≤ 60 := by omega
      have hok : powOk xs (m : Int) = true := by rw [HOK.out, h1]; simp; omega
      have HK := Lib.hid hok
      have hx2 := HX.out w1 hb1
      clear h2 hok
      go_wp2_with fail
      refine (HC.out w1 m hm hx2).mono ?_
      rintro e w3 ⟨v', rfl, ho, hb3⟩
      have hb := hb1.trans (hb3.mono hs1)
      have ho3 := own_more ho hs1
      clear hb1 hb3 ho hx2
      go_wp2
      go_ret2
      exact ⟨_, by rw [HK.out]; rfl, by rw [HM1.out HK.out]; exact ho3, hb⟩
    · have hE := World.ownsRow_lit (e := 60) (base := w.heap.size) (size := 2) w1 #[] 0 hs1 (Nat.zero_le _) rfl
      have hok : powOk xs n = false := by rw [HOK.out, h1, h2]; rfl
      have HK := Lib.hid hok
      clear hok
      go_wp2
      go_ret2
      exact ⟨_, by rw [HK.out]; rfl, by rw [HM2.out HK.out]; exact hE, by (repeat' (first | (with_reducible exact Below.refl _ _) | (with_reducible assumption) | (with_reducible refine Below.alloc ?_ ?_ _) | (with_reducible refine Below.drew ?_) | (with_reducible refine Below.setCell ?_ ?_ _) | (with_reducible exact Nat.le_refl _) | omega | ((repeat (first | rewrite [World.size_alloc] | rewrite [World.size_setCell] | rewrite [World.size_drew])); omega) | (simp; omega) | (simp; done)))⟩
  · have hok : powOk xs n = false := by rw [HOK.out, h1]; rfl
    have HK := Lib.hid hok
    clear hok
    go_enter Try.func22, Try.ntmps22
    go_wp2_with fail
    refine HV1.out.mono ?_
    rintro e w1 ⟨he, hb1⟩
    rw [h1] at he
    subst he
    have hs1 := hb1.size
    have hE := World.ownsRow_lit (e := 60) (base := w.heap.size) (size := 2) w1 #[] 0 hs1 (Nat.zero_le _) rfl
    go_wp2
    go_ret2
    exact ⟨_, by rw [HK.out]; rfl, by rw [HM2.out HK.out]; exact hE, by (repeat' (first | (with_reducible exact Below.refl _ _) | (with_reducible assumption) | (with_reducible refine Below.alloc ?_ ?_ _) | (with_reducible refine Below.drew ?_) | (with_reducible refine Below.setCell ?_ ?_ _) | (with_reducible exact Nat.le_refl _) | omega | ((repeat (first | rewrite [World.size_alloc] | rewrite [World.size_setCell] | rewrite [World.size_drew])); omega) | (simp; omega) | (simp; done)))⟩
end Go.Proofs.Ytmifmfljiaoeaaa
namespace Go.PM
open Go.RowKit
theorem powM_tab {xs : List Mv} (h : MV xs) {d : Nat → ByteArray} {n : Nat} (hn : n ≤ 60) (hd : ∀ p, p < 9 → srcT d p = pwF (srcT (tabOf xs)) n p) : mvT (noIdle d) (List.range 9) = powM xs (n : Int) := by
  have m1 : mvalid xs = true := by simpa [mvalid] using h
  have hok : powOk xs (n : Int) = true := by
    unfold powOk
    rw [m1]
    simp
    omega
  rw [powM_yes hok, mvT_idle]
  refine lsF_congr fun p hp => ?_
  rw [hd p hp]
  exact pwF_congr (fun q hq => srcT_M h hq) n p hp
end Go.PM
namespace Go.Proofs.Ytmifmfljiaoeaaa
open Go.RowKit Go.PM

set_option maxRecDepth 100000 in
set_option maxHeartbeats 2000000 in
theorem imComposeMoves_c (xs ys : List Mv) (v u : Value) (w : World) (hx : RdM w v xs) (hy : RdM w u ys) :
    Calls Try.prog 16 #[v, u] w fun e w' => ∃ v', e = .returned (.tuple #[v', .bool (mvalid xs && mvalid ys)]) ∧ w'.ownsRow w.heap.size 60 2 v' (compM xs ys).length (mcells (compM xs ys)) ∧ Below w.heap.size w w' := by
  have HY := Lib.hid (fun W (hW : Below w.heap.size w W) => hy.below hW)
  by_cases h1 : MV xs
  · have HX := Lib.hid (tableOf_yes xs h1 v w hx)
    have HM1 := Lib.hid (show mvalid xs = true by simpa [mvalid] using h1)
    by_cases h2 : MV ys
    · have HT := Lib.hid (fun W hW => tableOf_yes ys h2 u W hW)
      have HM2 := Lib.hid (show mvalid ys = true by simpa [mvalid] using h2)
      have HR := Lib.hid (compM_tab h1 h2)
      have HTH := Lib.hid (fun W => then_v (tabOf xs) (tabOf ys) (SVal_tab h2) W)
      clear h1 h2 hx hy
      go_enter Try.func16, Try.ntmps16
      go_wp2_with fail
      refine HX.out.mono ?_
      rintro e w1 ⟨rfl, hb1⟩
      have hs1 := hb1.size
      have hy1 := HY.out _ (hb1.alloc hs1 (.cells (tabA (tabOf xs)) 52))
      go_wp2_with fail
      refine (HT.out _ hy1).mono ?_
      rintro e w2 ⟨rfl, hb2⟩
      have k1 : At (w1.alloc (.cells (tabA (tabOf xs)) 52)) w1.heap.size 52 (tabA (tabOf xs)) := At.new w1 _ _
      have k2 := (k1.keep hb2).alloc (.cells (tabA (tabOf ys)) 52)
      have k3 := At.new w2 52 (tabA (tabOf ys))
      have hB2 := (hb1.alloc hs1 (.cells (tabA (tabOf xs)) 52)).trans (hb2.mono (by simp [World.size_alloc]; omega))
      have hs2 := hB2.size
      have hB3 := hB2.alloc hs2 (.cells (tabA (tabOf ys)) 52)
      have hs3 := hB3.size
      clear hb2 k1 hy1 hb1
      generalize thenF (tabOf xs) (tabOf ys) = tt at *
      generalize tabOf xs = f at *
      generalize tabOf ys = g at *
      go_wp2_with (first | (refine ld_row rfl 52 (.tmp 6) rfl w1.heap.size 52 (tabC f) k2 (by rfl) 9 9 Try.underlying52 (by kernel_rfl) ?_) | (refine ld_row rfl 52 (.tmp 8) rfl w2.heap.size 52 (tabC g) k3 (by rfl) 9 9 Try.underlying52 (by kernel_rfl) ?_) | (go_at_call 48; refine (HTH.out _).mono ?_; rintro e w4 ⟨rfl, hb4⟩; refine held ?_))
      unfold Held
      have hB4 := hB3.trans (hb4.mono hs3)
      have hs4 := hB4.size
      clear hb4 k2 k3 hB3
      go_wp2_with (go_at_call 49; refine (idle_v tt _).mono ?_; rintro e w5 ⟨rfl, hb5⟩; refine held ?_)
      unfold Held
      have hB5 := hB4.trans (hb5.mono hs4)
      have hs5 := hB5.size
      clear hb5 hB4
      have HLI := Lib.hid (fun W => list_c (noIdle tt) W)
      rw [HR.out] at HLI
      go_wp2_with (go_at_call 50; refine (HLI.out _).mono ?_; rintro e w6 ⟨v', rfl, ho, hb6⟩; refine held ?_)
      unfold Held
      have hB6 := hB5.trans (hb6.mono hs5)
      have ho6 := own_more ho hs5
      clear hb6 hB5 ho
      go_wp2
      go_ret2
      exact ⟨_, by rw [HM1.out, HM2.out]; rfl, ho6, hB6⟩
    · have HT := Lib.hid (fun W hW => tableOf_no ys h2 u W hW)
      have HM2 := Lib.hid (show mvalid ys = false by simpa [mvalid] using h2)
      have HNO := Lib.hid (compM_no (xs := xs) (ys := ys) (by rw [HM2.out, Bool.and_false]))
      clear h1 h2 hx hy
      go_enter Try.func16, Try.ntmps16
      go_wp2_with fail
      refine HX.out.mono ?_
      rintro e w1 ⟨rfl, hb1⟩
      have hs1 := hb1.size
      have hy1 := HY.out _ (hb1.alloc hs1 (.cells (tabA (tabOf xs)) 52))
      go_wp2_with fail
      refine (HT.out _ hy1).mono ?_
      rintro e w2 ⟨rfl, hb2⟩
      have hB2 := (hb1.alloc hs1 (.cells (tabA (tabOf xs)) 52)).trans (hb2.mono (by simp [World.size_alloc]; omega))
      have hs2 := hB2.size
      clear hb2 hy1 hb1
      go_wp2
      go_ret2
      exact ⟨_, by rw [HM2.out, Bool.and_false]; rfl, by rw [HNO.out]; exact ⟨rfl, .inl ⟨rfl, rfl⟩⟩, by (repeat' (first | (with_reducible exact Below.refl _ _) | (with_reducible assumption) | (with_reducible refine Below.alloc ?_ ?_ _) | (with_reducible refine Below.drew ?_) | (with_reducible refine Below.setCell ?_ ?_ _) | (with_reducible exact Nat.le_refl _) | omega | ((repeat (first | rewrite [World.size_alloc] | rewrite [World.size_setCell] | rewrite [World.size_drew])); omega) | (simp; omega) | (simp; done)))⟩
  · have HM1 := Lib.hid (show mvalid xs = false by simpa [mvalid] using h1)
    have HNO := Lib.hid (compM_no (xs := xs) (ys := ys) (by rw [HM1.out, Bool.false_and]))
    have HX := Lib.hid (tableOf_no xs h1 v w hx)
    by_cases h2 : MV ys
    all_goals
      first | (have HT := Lib.hid (fun W hW => tableOf_yes ys h2 u W hW)) | (have HT := Lib.hid (fun W hW => tableOf_no ys h2 u W hW))
      clear h1 h2 hx hy
      go_enter Try.func16, Try.ntmps16
      go_wp2_with fail
      refine HX.out.mono ?_
      rintro e w1 ⟨rfl, hb1⟩
      have hs1 := hb1.size
      have hy1 := HY.out _ (hb1.alloc hs1 (.cells (tabA (fun _ => emp)) 52))
      go_wp2_with fail
      refine (HT.out _ hy1).mono ?_
      rintro e w2 ⟨rfl, hb2⟩
      have hB2 := (hb1.alloc hs1 (.cells (tabA (fun _ => emp)) 52)).trans (hb2.mono (by simp [World.size_alloc]; omega))
      have hs2 := hB2.size
      clear hb2 hy1 hb1
      go_wp2
      go_ret2
      exact ⟨_, by rw [HM1.out, Bool.false_and]; rfl, by rw [HNO.out]; exact ⟨rfl, .inl ⟨rfl, rfl⟩⟩, by (repeat' (first | (with_reducible exact Below.refl _ _) | (with_reducible assumption) | (with_reducible refine Below.alloc ?_ ?_ _) | (with_reducible refine Below.drew ?_) | (with_reducible refine Below.setCell ?_ ?_ _) | (with_reducible exact Nat.le_refl _) | omega | ((repeat (first | rewrite [World.size_alloc] | rewrite [World.size_setCell] | rewrite [World.size_drew])); omega) | (simp; omega) | (simp; done)))⟩
set_option maxRecDepth 100000 in
set_option maxHeartbeats 2000000 in
theorem imPowerOf_c (xs : List Mv) (v : Value) (n : Int) (w : World) (hx : RdM w v xs) :
    Calls Try.prog 21 #[v, .int .i64 n] w fun e w' => ∃ v', e = .returned (.tuple #[v', .bool (powOk xs n)]) ∧ w'.ownsRow w.heap.size 60 2 v' (powM xs n).length (mcells (powM xs n)) ∧ Below w.heap.size w w' := by
  have HOK : Hid (powOk xs n = (mvalid xs && (decide (0 ≤ n) && decide (n ≤ 60)))) := rfl
  have HM2 := Lib.hid (fun h => powM_no (xs := xs) (n := n) h)
  by_cases h1 : MV xs
  · have HX := Lib.hid (tableOf_yes xs h1 v w hx)
    have HM1 := Lib.hid (show mvalid xs = true by simpa [mvalid] using h1)
    by_cases h2 : 0 ≤ n
    · obtain ⟨m, rfl⟩ := Int.eq_ofNat_of_zero_le h2
      have g1 : decide ((m : Int) < 0) = false := decide_eq_false (by omega)
      by_cases h3 : m ≤ 60
      · have g2 : decide ((60 : Int) < (m : Int)) = false := decide_eq_false (by omega)
        have HP := Lib.hid (fun W => power_c (tabOf xs) (SVal_tab h1) m h3 W)
        have HR := Lib.hid (fun d hd => powM_tab (d := d) h1 h3 hd)
        have HK : Hid (powOk xs (m : Int) = true) := by show _ = _; rw [HOK.out, HM1.out]; simp; omega
        clear h1 hx
        go_enter Try.func21, Try.ntmps21
        go_wp2_with fail
        refine HX.out.mono ?_
        rintro e w1 ⟨rfl, hb1⟩
        have hs1 := hb1.size
        have k1 : At (w1.alloc (.cells (tabA (tabOf xs)) 52)) w1.heap.size 52 (tabA (tabOf xs)) := At.new w1 _ _
        have hB2 := hb1.alloc hs1 (.cells (tabA (tabOf xs)) 52)
        have hs2 := hB2.size
        clear hb1
        generalize tabOf xs = f at *
        go_wp2_with (first | (refine ld_row rfl 52 (.tmp 6) rfl w1.heap.size 52 (tabC f) k1 (by rfl) 9 9 Try.underlying52 (by kernel_rfl) ?_) | (go_at_call 58; refine (HP.out _).mono ?_; rintro e w4 ⟨d, rfl, hd, hb4⟩; refine held ?_))
        unfold Held
        have hB4 := hB2.trans (hb4.mono hs2)
        have hs4 := hB4.size
        clear hb4 k1 hB2
        go_wp2_with (go_at_call 49; refine (idle_v d _).mono ?_; rintro e w5 ⟨rfl, hb5⟩; refine held ?_)
        unfold Held
        have hB5 := hB4.trans (hb5.mono hs4)
        have hs5 := hB5.size
        clear hb5 hB4
        have HLI := Lib.hid (fun W => list_c (noIdle d) W)
        rw [HR.out d hd.out] at HLI
        go_wp2_with (go_at_call 50; refine (HLI.out _).mono ?_; rintro e w6 ⟨v', rfl, ho, hb6⟩; refine held ?_)
        unfold Held
        have hB6 := hB5.trans (hb6.mono hs5)
        have ho6 := own_more ho hs5
        clear hb6 hB5 ho
        go_wp2
        go_ret2
        exact ⟨_, by rw [HK.out]; rfl, ho6, hB6⟩
      · have g2 : decide ((60 : Int) < (m : Int)) = true := decide_eq_true (by omega)
        have HK : Hid (powOk xs (m : Int) = false) := by show _ = _; rw [HOK.out, HM1.out]; simp; omega
        clear h1 hx
        go_enter Try.func21, Try.ntmps21
        go_wp2_with fail
        refine HX.out.mono ?_
        rintro e w1 ⟨rfl, hb1⟩
        have hs1 := hb1.size
        go_wp2
        go_ret2
        exact ⟨_, by rw [HK.out]; rfl, by rw [HM2.out HK.out]; exact ⟨rfl, .inl ⟨rfl, rfl⟩⟩, by (repeat' (first | (with_reducible exact Below.refl _ _) | (with_reducible assumption) | (with_reducible refine Below.alloc ?_ ?_ _) | (with_reducible refine Below.drew ?_) | (with_reducible refine Below.setCell ?_ ?_ _) | (with_reducible exact Nat.le_refl _) | omega | ((repeat (first | rewrite [World.size_alloc] | rewrite [World.size_setCell] | rewrite [World.size_drew])); omega) | (simp; omega) | (simp; done)))⟩
    · have g1 : decide (n < 0) = true := decide_eq_true (by omega)
      have HK : Hid (powOk xs n = false) := by show _ = _; rw [HOK.out, HM1.out]; simp; omega
      clear h1 hx
      go_enter Try.func21, Try.ntmps21
      go_wp2_with fail
      refine HX.out.mono ?_
      rintro e w1 ⟨rfl, hb1⟩
      have hs1 := hb1.size
      go_wp2
      go_ret2
      exact ⟨_, by rw [HK.out]; rfl, by rw [HM2.out HK.out]; exact ⟨rfl, .inl ⟨rfl, rfl⟩⟩, by (repeat' (first | (with_reducible exact Below.refl _ _) | (with_reducible assumption) | (with_reducible refine Below.alloc ?_ ?_ _) | (with_reducible refine Below.drew ?_) | (with_reducible refine Below.setCell ?_ ?_ _) | (with_reducible exact Nat.le_refl _) | omega | ((repeat (first | rewrite [World.size_alloc] | rewrite [World.size_setCell] | rewrite [World.size_drew])); omega) | (simp; omega) | (simp; done)))⟩
  · have HX := Lib.hid (tableOf_no xs h1 v w hx)
    have HM1 := Lib.hid (show mvalid xs = false by simpa [mvalid] using h1)
    have HK : Hid (powOk xs n = false) := by show _ = _; rw [HOK.out, HM1.out]; rfl
    clear h1 hx
    go_enter Try.func21, Try.ntmps21
    go_wp2_with fail
    refine HX.out.mono ?_
    rintro e w1 ⟨rfl, hb1⟩
    have hs1 := hb1.size
    go_wp2
    go_ret2
    exact ⟨_, by rw [HK.out]; rfl, by rw [HM2.out HK.out]; exact ⟨rfl, .inl ⟨rfl, rfl⟩⟩, by (repeat' (first | (with_reducible exact Below.refl _ _) | (with_reducible assumption) | (with_reducible refine Below.alloc ?_ ?_ _) | (with_reducible refine Below.drew ?_) | (with_reducible refine Below.setCell ?_ ?_ _) | (with_reducible exact Nat.le_refl _) | omega | ((repeat (first | rewrite [World.size_alloc] | rewrite [World.size_setCell] | rewrite [World.size_drew])); omega) | (simp; omega) | (simp; done)))⟩
end Go.Proofs.Ytmifmfljiaoeaaa
namespace Go.Proofs.Ytmifmfljiaoeaaa
open Go.RowKit Go.PM Go.Lib
attribute [local go_sem] Oper.semAt_some

set_option maxRecDepth 100000 in
set_option maxHeartbeats 4000000 in
theorem undone_c (f : Nat → ByteArray) (hE : Exch (srcT f)) (w : World) :
    Calls Try.prog 69 #[tabX f] w fun e w' => e = .returned (tabX (bkF f 9)) ∧ Below w.heap.size w w' := by
  refine (callsIn_wide (n := 5)).1 ?_
  refine callsIn_of_wp_marks Try.func69 rfl trivial ?_ rfl
  simp only [Try.ntmps69, List.size_toArray, List.length_cons, List.length_nil, Nat.reduceAdd, Nat.reduceSub, Array.replicate_succ, Array.replicate_zero, List.push_toArray, List.append_toArray, List.nil_append, List.cons_append]
  gi_wp2
  obtain ⟨W0, hW0⟩ : ∃ W0 : World, W0 = ((w.alloc (.cells (tabA f) 52)).alloc (.cells zA 52)).alloc (.cells zA 52) := ⟨_, rfl⟩
  have hS0 : W0.heap.size = w.heap.size + 3 := by rw [hW0]; simp only [World.size_alloc]
  have hB0 : Below w.heap.size w W0 := by rw [hW0]; (repeat' (first | (with_reducible exact Below.refl _ _) | (with_reducible assumption) | (with_reducible refine Below.alloc ?_ ?_ _) | (with_reducible refine Below.drew ?_) | (with_reducible refine Below.setCell ?_ ?_ _) | (with_reducible exact Nat.le_refl _) | omega | ((repeat (first | rewrite [World.size_alloc] | rewrite [World.size_setCell] | rewrite [World.size_drew])); omega) | (simp; omega) | (simp; done)))
  have hA0 : At W0 w.heap.size 52 (tabA f) := by rw [hW0]; exact ((At.new _ _ _).alloc _).alloc _
  have hA1 : At W0 (w.heap.size + 1) 52 zA := by
    rw [hW0]; have := (At.new (w.alloc (.cells (tabA f) 52)) 52 zA).alloc (.cells zA 52)
    rwa [World.size_alloc] at this
  have hA2 : At W0 (w.heap.size + 1 + 1) 52 zA := by
    rw [hW0]; have := At.new ((w.alloc (.cells (tabA f) 52)).alloc (.cells zA 52)) 52 zA
    rwa [World.size_alloc, World.size_alloc] at this
  rw [← hW0]
  clear hW0
  refine range_law (F := Fence.wide) (gf := 62) (lf := #[.int .i64 9]) (lb := #[]) rfl (by decide) rfl trivial (fun args w => rfl) (encs := fun p : Nat => #[.int .i64 p]) (xs := List.range 9)
    (below_iter _ _ trivial rfl (by decide)) (fun _ => rfl)
    (fun pre W => At W (w.heap.size + 1 + 1) 52 (tabA (bkF f pre.length)) ∧ At W (w.heap.size + 1) 52 zA ∧ Below w.heap.size w W ∧ At W w.heap.size 52 (tabA f))
    (fun _ _ _ => False) ?_ (fun _ => ownFrom_pure _ _) ?_ (fun p => { tmps := #[tabX f, .pointer (some ⟨w.heap.size, 0, none⟩), .pointer (some ⟨w.heap.size + 1, 0, none⟩), .pointer (some ⟨w.heap.size + 1 + 1, 0, none⟩), .int .i64 p, undef, undef, .func (.func 62) #[.int .i64 9] #[], .int .i64 p, undef, undef, undef, undef, undef, undef, undef, undef, undef, undef, undef, undef], defers := [] }) ?_ ?_ ?_ ?_
  · rintro s A A' row ⟨h1, h2, h3, h4⟩ hg hr
    have hr' : ∀ r, row = some r → w.heap.size + 3 ≤ r := fun r e => by have := (hr r e).1; omega
    refine ⟨(hg.block _ h1.lt (fun e => ?_)).trans h1, (hg.block _ h2.lt (fun e => ?_)).trans h2, h3.trans (below_grown hg h3.size (fun g e => ?_)), (hg.block _ h4.lt (fun e => ?_)).trans h4⟩
    · have := hr' _ e.symm; omega
    · have := hr' _ e.symm; omega
    · have := hr' _ e; omega
    · have := hr' _ e.symm; omega
  · exact ⟨hA2, hA1, hB0, hA0⟩
  · intro l p W Kc hK
    gi_wp2
    exact hK
  · clear hA0 hA1 hA2 hB0
    rintro l pre p W ⟨h1, h2, h3, h4⟩ hp hsz
    obtain ⟨hl, hp9⟩ := pre_len pre p hp
    rw [hl] at h1
    have HL : Hid ((pre ++ [p]).length = p + 1) := by show _ = _; simp [hl]
    have HBK : Hid (bkF f (p + 1) = upd (bkF f p) (pidx (srcT f p)) (nm p)) := rfl
    have hip := hE.place hp9
    have hi9 := (pidx_spec hip).1
    have HTS := Lib.hid (tabC_set (bkF f p) (pidx (srcT f p)) hi9 (nm p))
    have hsrc := source_c f p hp9 W
    have HIX := Lib.hid (fun W' => indexOf_yes (srcT f p) hip W')
    have HNM := Lib.hid (fun W' => name_c p hp9 W')
    have hpc : (tabA (bkF f p))[pidx (srcT f p)]? = some (.string (bkF f p (pidx (srcT f p)))) := tabC_at _ _ hi9
    clear hl hip
    generalize hgm : bkF f p = g' at *
    generalize nm p = q at *
    generalize pidx (srcT f p) = j at *
    have HSRC := Lib.hid hsrc
    clear hsrc
    have i0 : (0 : Int) ≤ (j : Int) := by omega
    have i1 : (j : Int) < 9 := by omega
    have l1 := h1.lt
    have l2 := h2.lt
    have l4 := h4.lt
    have q0 : W.cell? ⟨w.heap.size, 0, none⟩ = some (.string (f 0)) := h4.cell 0
    have q1 : W.cell? ⟨w.heap.size, 1, none⟩ = some (.string (f 1)) := h4.cell 1
    have q2 : W.cell? ⟨w.heap.size, 2, none⟩ = some (.string (f 2)) := h4.cell 2
    have q3 : W.cell? ⟨w.heap.size, 3, none⟩ = some (.string (f 3)) := h4.cell 3
    have q4 : W.cell? ⟨w.heap.size, 4, none⟩ = some (.string (f 4)) := h4.cell 4
    have q5 : W.cell? ⟨w.heap.size, 5, none⟩ = some (.string (f 5)) := h4.cell 5
    have q6 : W.cell? ⟨w.heap.size, 6, none⟩ = some (.string (f 6)) := h4.cell 6
    have q7 : W.cell? ⟨w.heap.size, 7, none⟩ = some (.string (f 7)) := h4.cell 7
    have q8 : W.cell? ⟨w.heap.size, 8, none⟩ = some (.string (f 8)) := h4.cell 8
    gi_wp2
    refine ⟨trivial, ?_⟩
    refine CallsIn.inRound l (callsIn_wide.2 (HSRC.out.mono ?_))
    rintro e w2 ⟨rfl, hb2⟩
    clear q0 q1 q2 q3 q4 q5 q6 q7 q8
    gi_wp2
    refine ⟨trivial, ?_⟩
    refine CallsIn.inRound l (callsIn_wide.2 ((HIX.out _).mono ?_))
    rintro e w3 ⟨rfl, rfl⟩
    have k1 : At w2 (w.heap.size + 1 + 1) 52 (tabA g') := h1.keep hb2
    have k2 : At w2 (w.heap.size + 1) 52 zA := h2.keep hb2
    have k3 : Below w.heap.size w w2 := h3.trans (hb2.mono h3.size)
    have k4 : At w2 w.heap.size 52 (tabA f) := h4.keep hb2
    have kf := k1.frozen j
    have kc : w2.cell? ⟨w.heap.size + 1 + 1, j, none⟩ = some (.string (g' j)) := (k1.cell j).trans hpc
    have kl := k1.lt
    have kF : KeepsFrom W0.heap.size W w2 := keepsFrom_below hb2
    have kS : W.heap.size ≤ w2.heap.size := hb2.size
    clear h1 h2 h3 h4 hb2
    gi_wp2
    refine ⟨trivial, ?_⟩
    refine CallsIn.inRound l (callsIn_wide.2 ((HNM.out _).mono ?_))
    rintro e w3 ⟨rfl, rfl⟩
    gi_wp2
    refine ⟨kF.trans ((KeepsOthers.setCell _ _ _).from _), KeepsIn.zero (by simp [World.size_setCell]; exact kS), ?_, k2.far (by first | (simp; done) | (simp; omega)) _, k3.setCell (by show w.heap.size ≤ w.heap.size + 1 + 1; omega) _, k4.far (by first | (simp; done) | (simp; omega)) _⟩
    rw [HL.out, HBK.out]
    have := k1.set j (.string q)
    rw [show (tabA g').setIfInBounds j (.string q) = tabA (upd g' j q) from HTS.out] at this
    exact this
  · intro D W hD hI hd
    obtain ⟨h1, h2, h3, h4⟩ := hI
    clear hA0 hA1 hA2 hB0 h4
    replace h1 : At W (w.heap.size + 1 + 1) 52 (tabC (bkF f 9)) := h1
    have hl1 := h1.lt
    have hl2 := h2.lt
    have hDD : w.heap.size + 3 ≤ D := by first | omega | simpa [World.size_alloc, Nat.add_assoc] using hD
    generalize hg9 : bkF f 9 = g9 at *
    have HG9 := Lib.hid hg9
    clear hg9
    gi_wp2_with (first | (refine ldIn_row rfl 52 (.tmp 3) rfl (w.heap.size + 1 + 1) 52 (tabC g9) h1 (by rfl) 9 9 Try.underlying52 (by kernel_rfl) ?_) | (refine stIn_row rfl 52 (.tmp 2) (.tmp 20) rfl rfl (w.heap.size + 1) 52 zA (tabC g9) h2 (by rfl) (by rfl) (by kernel_rfl) rfl (tabC_all _) ?_; intro W6 hA6 hg6))
    have d6 : W6.heap[D]? = some (.deferred (some [])) := (hg6.block D (Array.getElem?_eq_some_iff.1 hd).1 (by simp; omega)).trans hd
    have bel : Below w.heap.size w W6 := h3.trans (below_grown hg6 h3.size (fun g hg => by cases hg; omega))
    simp only [Act.put, List.setIfInBounds_toArray, List.set_cons_succ, List.set_cons_zero]
    have fin : LeavesInM Fence.wide 5 Try.prog Try.f69 #[tabX f, .pointer (some ⟨w.heap.size, 0, none⟩), .pointer (some ⟨w.heap.size + 1, 0, none⟩), .pointer (some ⟨w.heap.size + 1 + 1, 0, none⟩), undef, undef, undef, .func (.func 62) #[.int .i64 9] #[], undef, undef, undef, undef, undef, undef, undef, undef, undef, undef, undef, undef, .agg (tabC g9)]
        (fun e w' => e = Ending.returned (tabX (bkF f 9)) ∧ Below w.heap.size w w') [] .returning (W6.putObj D (.deferred none)) := by
      exact ⟨_, results_row1 Try.results69 _ _ (w.heap.size + 1) 52 (tabC g9) (by rfl) ((World.putObj_heap_other (by omega)).trans hA6) 9 9 Try.underlying52 (by kernel_rfl), by rw [HG9.out]; rfl, bel.trans ⟨rfl, rfl, rfl, by simp [World.putObj], fun k hk => World.putObj_heap_other (by omega)⟩⟩
    exact ⟨by simp, .inl ⟨D, _, rfl, run_takeDeferred d6, fin⟩⟩
  · intro _ _ _ _ _ _ hf
    exact hf.elim
end Go.Proofs.Ytmifmfljiaoeaaa
namespace Go.PM
open Go.RowKit
theorem undoM_len (xs : List Mv) : (undoM xs).length ≤ 9 := by
  unfold undoM
  split
  · exact lsF_len _ 9
  · simp
theorem undoM_yes {xs : List Mv} (h : exchB xs = true) : undoM xs = unL xs 9 := by rw [undoM, if_pos h, unL_inv (exchB_M h)]
theorem undoM_no {xs : List Mv} (h : exchB xs = false) : undoM xs = [] := by rw [undoM, h]; rfl
def lostB (xs : List Mv) : ByteArray := okS (mvalid xs) (leavesB xs)
theorem exchB_eq (xs : List Mv) : exchB xs = (mvalid xs && decide (lostB xs = emp)) := by
  unfold exchB lostB okS
  cases mvalid xs <;> simp
end Go.PM
namespace Go.Proofs.Ytmifmfljiaoeaaa
open Go.RowKit Go.PM

set_option maxRecDepth 100000 in
set_option maxHeartbeats 1000000 in
theorem spLostBy_c (xs : List Mv) (v : Value) (w : World) (hx : RdM w v xs) (hz : ∀ m ∈ xs, m.1.size ≤ 9223372036854775807 ∧ m.2.size ≤ 9223372036854775807) (hn' : xs.length ≤ 1048576) :
    Calls Try.prog 34 #[v] w fun e w' => e = .returned (.tuple #[.string (lostB xs), .bool (mvalid xs)]) ∧ Below w.heap.size w w' := by
  have HO : Hid (lostB xs = if mvalid xs then leavesB xs else ⟨#[]⟩) := rfl
  have HV := Lib.hid (spMovesValid_c xs v w hx hz hn')
  rcases Bool.eq_false_or_eq_true (mvalid xs) with h1 | h1
  · have HN : Hid (∀ q, q < 9 → (ByteArray.mk #[97, 98, 99, 100, 101, 102, 65, 66, 67]).extract q (q+1) = nm q) := by
      show ∀ q, _
      intro q hq
      match q, hq with
      | 0, _ | 1, _ | 2, _ | 3, _ | 4, _ | 5, _ | 6, _ | 7, _ | 8, _ => decide +kernel
    have HALL := Lib.hid (show namesS (lostH xs) 9 = leavesB xs from lost_leaf (xs := xs) (by simpa [mvalid] using h1))
    have HX := Lib.hid (fun W (hW : Below w.heap.size w W) => hx.below hW)
    have HSS := Lib.hid (fun W (hW : RdM W v xs) a => l1Source_c xs v a W hW)
    have HRR := Lib.hid (fun W (hW : RdM W v xs) a => l1Readers_c xs v a W hW)
    have H1 := Lib.hid h1
    clear hx hz h1
    go_enter Try.func34, Try.ntmps34
    go_wp2_with fail
    refine HV.out.mono ?_
    rintro e w1 ⟨he, hb1⟩
    rw [H1.out] at he
    subst he
    have hs1 := hb1.size
    go_wp2
    go_loopw [4, 10] (fun o i wr => ∃ k : Nat, k ≤ 9 ∧ i = .int .i64 k ∧ o = .string (namesS (lostH xs) k) ∧ Below w.heap.size w wr) (fun _ i _ => 9 - (intOf i).toNat)
    case atStart => exact ⟨0, by omega, rfl, rfl, hb1⟩
    case round =>
      obtain ⟨k, hk, rfl, rfl, hb⟩ := hrel
      have hbs := hb.size
      by_cases hlt : k < 9
      · have hex := HN.out k hlt
        have hsz := namesS_size (lostH xs) k
        have HY := Lib.hid (namesS_yes (lostH xs) k)
        have HZ := Lib.hid (namesS_no (lostH xs) k)
        have HH := Lib.hid (show lostH xs k = (decide (srcM xs (nm k) ≠ nm k) && decide (namesW (rsH xs (nm k)) = emp)) from rfl)
        have HC := Lib.hid (HSS.out wr (HX.out wr hb) (nm k))
        have HRK := Lib.hid (fun W hW => HRR.out W (HX.out W hW) (nm k))
        generalize namesS (lostH xs) k = s0 at *
        generalize namesW (rsH xs (nm k)) = rr at *
        generalize srcM xs (nm k) = sk at *
        have hq1 : (nm k).size = 1 := rfl
        generalize nm k = q at *
        rcases Bool.eq_false_or_eq_true (sk.toList == q.toList) with hd | hd
        · have HD := Lib.hid hd
          go_wp2_with fail
          refine HC.out.mono ?_
          rintro e w2 ⟨rfl, hb2⟩
          have hbw := hb.trans (hb2.mono hbs)
          clear hb2 hb
          go_wp2
          go_roundw
          case rel =>
            have h := HD.out
            rw [beq_str, decide_eq_true_eq] at h
            exact ⟨k + 1, by omega, by go_num, by rw [HZ.out (by rw [HH.out, h]; simp)], hbw⟩
          case measure => simp [intOf]; omega
        · have HD := Lib.hid hd
          go_wp2_with fail
          refine HC.out.mono ?_
          rintro e w2 ⟨rfl, hb2⟩
          have hbw := hb.trans (hb2.mono hbs)
          have hbws := hbw.size
          have HR2 := Lib.hid (HRK.out w2 hbw)
          clear hb2 hb
          rcases Bool.eq_false_or_eq_true rr.toList.isEmpty with he | he
          all_goals
            have HE := Lib.hid he
            go_wp2_with (go_at_call 70; refine HR2.out.mono ?_; rintro e w3 ⟨rfl, hb3⟩; refine held ?_)
            unfold Held
            have hbw3 := hbw.trans (hb3.mono hbws)
            clear hb3 hbw
            go_wp2
            go_roundw
          case rel =>
            have h := HD.out
            rw [beq_str, decide_eq_false_iff_not] at h
            have h2 := HE.out
            rw [emp_iff, decide_eq_true_eq] at h2
            exact ⟨k + 1, by omega, by go_num, by rw [← HY.out (by rw [HH.out]; simp [h, h2])], hbw3⟩
          case measure => simp [intOf]; omega
          case rel =>
            have h2 := HE.out
            rw [emp_iff, decide_eq_false_iff_not] at h2
            exact ⟨k + 1, by omega, by go_num, by rw [HZ.out (by rw [HH.out]; simp [h2])], hbw3⟩
          case measure => simp [intOf]; omega
      · have hk9 : k = 9 := by omega
        subst hk9
        rw [HALL.out]
        go_wp2
        go_ret2
        exact ⟨by rw [H1.out, HO.out, H1.out]; rfl, hb⟩
  · go_enter Try.func34, Try.ntmps34
    go_wp2_with fail
    refine HV.out.mono ?_
    rintro e w1 ⟨rfl, hb1⟩
    go_wp2
    go_ret2
    exact ⟨by rw [HO.out, h1]; rfl, hb1⟩
theorem spIsExchange_c (xs : List Mv) (v : Value) (w : World) (hx : RdM w v xs) (hz : ∀ m ∈ xs, m.1.size ≤ 9223372036854775807 ∧ m.2.size ≤ 9223372036854775807) (hn' : xs.length ≤ 1048576) :
    Calls Try.prog 37 #[v] w fun e w' => e = .returned (.bool (exchB xs)) ∧ Below w.heap.size w w' := by
  have HO := Lib.hid (exchB_eq xs)
  have HL := Lib.hid (spLostBy_c xs v w hx hz hn')
  clear hx hz
  rcases Bool.eq_false_or_eq_true (mvalid xs) with h1 | h1
  · generalize lostB xs = lb at *
    rcases Bool.eq_false_or_eq_true lb.toList.isEmpty with he | he
    all_goals
      have HE := Lib.hid he
      go_enter Try.func37, Try.ntmps37
      go_wp2_with fail
      refine HL.out.mono ?_
      rintro e w1 ⟨rfl, hb1⟩
      go_wp2
      go_ret
      refine ⟨?_, hb1⟩
      rw [HO.out, h1]
    · have h2 := HE.out
      rw [emp_iff, decide_eq_true_eq] at h2
      rw [decide_eq_true h2]; rfl
    · have h2 := HE.out
      rw [emp_iff, decide_eq_false_iff_not] at h2
      rw [decide_eq_false h2]; rfl
  · go_enter Try.func37, Try.ntmps37
    go_wp2_with fail
    refine HL.out.mono ?_
    rintro e w1 ⟨rfl, hb1⟩
    go_wp2
    go_ret
    exact ⟨by rw [HO.out, h1]; rfl, hb1⟩
set_option maxRecDepth 100000 in
set_option maxHeartbeats 1000000 in
theorem spUndoMoves_c (xs : List Mv) (v : Value) (w : World) (hx : RdM w v xs) (hz : ∀ m ∈ xs, m.1.size ≤ 9223372036854775807 ∧ m.2.size ≤ 9223372036854775807) (hn' : xs.length ≤ 1048576) :
    Calls Try.prog 31 #[v] w fun e w' => ∃ v', e = .returned (.tuple #[v', .bool (exchB xs)]) ∧ w'.ownsRow w.heap.size 60 2 v' (undoM xs).length (mcells (undoM xs)) ∧ Below w.heap.size w w' := by
  have hE := World.ownsRow_lit (e := 60) (base := w.heap.size) (size := 2) w #[] 0 (Nat.le_refl _) (Nat.zero_le _) rfl
  have HV := Lib.hid (fun W hW => spIsExchange_c xs v W hW hz hn')
  have HX := Lib.hid (fun W (hW : Below w.heap.size w W) => hx.below hW)
  have HRR := Lib.hid (fun W (hW : RdM W v xs) a => l1Readers_c xs v a W hW)
  clear hx hz
  rcases Bool.eq_false_or_eq_true (exchB xs) with h1 | h1
  · have HN : Hid (∀ q, q < 9 → (ByteArray.mk #[97, 98, 99, 100, 101, 102, 65, 66, 67]).extract q (q+1) = nm q) := by
      show ∀ q, _
      intro q hq
      match q, hq with
      | 0, _ | 1, _ | 2, _ | 3, _ | 4, _ | 5, _ | 6, _ | 7, _ | 8, _ => decide +kernel
    have HALL := Lib.hid (undoM_yes h1)
    have H1 := Lib.hid h1
    clear h1
    go_enter Try.func31, Try.ntmps31
    have hb0 : Below w.heap.size w (w.alloc (.cells #[] 60)) := (Below.refl _ _).alloc (Nat.le_refl _) _
    have hx0 := HX.out _ hb0
    go_wp2_with fail
    refine (HV.out _ hx0).mono ?_
    rintro e w1 ⟨he, hb1⟩
    rw [H1.out] at he
    subst he
    have hbw1 := hb0.trans (hb1.mono hb0.size)
    have hE1 := own_keep hE hb1
    clear hE hb1 hx0 hb0
    go_wp2
    go_loopw [4, 13] (fun o i wr => ∃ k : Nat, k ≤ 9 ∧ i = .int .i64 k ∧ wr.ownsRow w.heap.size 60 2 o (unL xs k).length (mcells (unL xs k)) ∧ Below w.heap.size w wr) (fun _ i _ => 9 - (intOf i).toNat)
    case atStart => exact ⟨0, by omega, rfl, hE1, hbw1⟩
    case round =>
      obtain ⟨k, hk, rfl, ho, hb⟩ := hrel
      have hbs := hb.size
      by_cases hlt : k < 9
      · have hex := HN.out k hlt
        have hle := unL_len xs k
        have HY := Lib.hid (unL_yes xs k)
        have HZ := Lib.hid (unL_no xs k)
        have HH := Lib.hid (show unH xs k = decide (namesW (rsH xs (nm k)) ≠ emp) from rfl)
        have HC := Lib.hid (HRR.out wr (HX.out wr hb) (nm k))
        generalize namesW (rsH xs (nm k)) = rr at *
        generalize nm k = q at *
        rcases Bool.eq_false_or_eq_true rr.toList.isEmpty with he | he
        · have HE := Lib.hid he
          go_wp2_with fail
          refine HC.out.mono ?_
          rintro e w2 ⟨rfl, hb2⟩
          have hbw := hb.trans (hb2.mono hbs)
          have ho2 := own_keep ho hb2
          clear hb2 hb ho
          go_wp2
          go_roundw
          case rel =>
            have h := HE.out
            rw [emp_iff, decide_eq_true_eq] at h
            exact ⟨k + 1, by omega, by go_num, by rw [HZ.out (by rw [HH.out, h]; simp)]; exact ho2, hbw⟩
          case measure => simp [intOf]; omega
        · have HE := Lib.hid he
          go_wp2_with fail
          refine HC.out.mono ?_
          rintro e w2 ⟨rfl, hb2⟩
          have hbw := hb.trans (hb2.mono hbs)
          have hbws := hbw.size
          have ho2 := own_keep ho hb2
          clear hb2 hb ho
          have hnw := two_new w2 (.string q) (.string rr) 60
          go_wp2_with (at_builtin; refine held ?_)
          unfold Held
          refine app_mv rfl (.tmp 25) (.tmp 29) rfl w.heap.size u4 (unL xs k) (q, rr) ⟨w2.heap.size, 0, none⟩ 1 (by rfl) (by rfl) (own_keep ho2 ((Below.refl _ _).alloc (Nat.le_refl _) _)) hnw (by omega) (by simp; omega) ?_
          intro v' w3 hown3 hgrow3
          have hb3 := below_grown hgrow3 (B := w.heap.size) (by simp; omega) (own_block_ge ho2)
          have hbw3 := Below.trans (hbw.alloc hbws (.cells #[.string q, .string rr] 60)) hb3
          clear hb3 hgrow3 hnw
          go_wp2
          go_roundw
          case rel =>
            have h := HE.out
            rw [emp_iff, decide_eq_false_iff_not] at h
            refine ⟨k + 1, by omega, by go_num, ?_, hbw3⟩
            rw [HY.out (by rw [HH.out]; simp [h])]; exact hown3
          case measure => simp [intOf]; omega
      · have hk9 : k = 9 := by omega
        subst hk9
        go_wp2
        go_ret2
        exact ⟨_, by rw [H1.out]; rfl, by rw [HALL.out]; exact ho, hb⟩
  · have HNO := Lib.hid (undoM_no h1)
    have H1 := Lib.hid h1
    clear h1
    go_enter Try.func31, Try.ntmps31
    have hb0 : Below w.heap.size w (w.alloc (.cells #[] 60)) := (Below.refl _ _).alloc (Nat.le_refl _) _
    have hx0 := HX.out _ hb0
    go_wp2_with fail
    refine (HV.out _ hx0).mono ?_
    rintro e w1 ⟨he, hb1⟩
    rw [H1.out] at he
    subst he
    have hbw1 := hb0.trans (hb1.mono hb0.size)
    have hE1 := own_keep hE hb1
    clear hE hb1 hx0 hb0
    go_wp2
    go_ret2
    exact ⟨_, by rw [H1.out]; rfl, by rw [HNO.out]; exact hE1, hbw1⟩
end Go.Proofs.Ytmifmfljiaoeaaa
namespace Go.Proofs.Ytmifmfljiaoeaaa
open Go.RowKit Go.PM

set_option maxRecDepth 100000 in
set_option maxHeartbeats 2000000 in
theorem exchOf_yes (xs : List Mv) (h1 : MV xs) (v : Value) (w : World) (hx : RdM w v xs) :
    Calls Try.prog 68 #[v] w fun e w' => e = .returned (.tuple #[tabX (tabOf xs), .bool (exchB xs)]) ∧ Below w.heap.size w w' := by
  have HX := Lib.hid (fun W (hW : Below w.heap.size w W) => hx.below hW)
  have HT := Lib.hid (fun W hW => tableOf_yes xs h1 v W hW)
  have HE : Hid (exchB xs = decide (namesW (leafH (tabOf xs)) = emp)) := by
    have m1 : mvalid xs = true := by simpa [mvalid] using h1
    show _ = _
    rw [exchB, m1]; rfl
  have HL := Lib.hid (fun W => leaves_c (tabOf xs) W)
  clear h1 hx
  generalize namesW (leafH (tabOf xs)) = lv at *
  generalize tabOf xs = f at *
  have hb0 : Below w.heap.size w (w.alloc (.cells zA 52)) := (Below.refl _ _).alloc (Nat.le_refl _) _
  have hA0 : At (w.alloc (.cells zA 52)) w.heap.size 52 zA := At.new w _ _
  have hx0 := HX.out _ hb0
  go_enter Try.func68, Try.ntmps68
  go_wp2_with fail
  refine (HT.out _ hx0).mono ?_
  rintro e w1 ⟨rfl, hb1⟩
  have hbw := hb0.trans (hb1.mono hb0.size)
  have hA1 := hA0.keep hb1
  have hs1 := hbw.size
  clear hx0 hA0 hb0 hb1
  obtain ⟨W3, hW3⟩ : ∃ W3 : World, W3 = w1.alloc (.cells (tabA f) 52) := ⟨_, rfl⟩
  have K1 : At W3 w1.heap.size 52 (tabC f) := by rw [hW3]; exact At.new w1 _ _
  have K2 : At W3 w.heap.size 52 zA := by rw [hW3]; exact hA1.alloc _
  have hB3 : Below w.heap.size w W3 := by rw [hW3]; exact hbw.alloc hs1 _
  have hs3 := hB3.size
  have hne : w1.heap.size ≠ w.heap.size := Nat.ne_of_gt hA1.lt
  clear hbw hA1
  go_wp2
  rw [← hW3]
  clear hW3
  refine wp_region_held_drew (S := fun W => At W w1.heap.size 52 (tabC f)) (by kernel_rfl) K1 (fun hHeld => ?_)
  refine wpAnyH_take (i := 0) (oi := _) (v := .agg (tabC f)) rfl (by kernel_rfl) (by kernel_rfl) (by kernel_rfl) (fun _ _ _ h => h) (yieldsIf_row rfl 52 (.tmp 4) rfl w1.heap.size 52 (tabC f) (by rfl) (fun _ h => h) 9 9 Try.underlying52 (by kernel_rfl)) hHeld ?_
  simp only [Act.put, List.getElem_toArray, List.getElem_cons_zero, List.setIfInBounds_toArray, List.set_cons_succ, List.set_cons_zero]
  refine wpAnyH_take (i := 1) (oi := _) (v := ?_) rfl (by kernel_rfl) (by kernel_rfl) (by kernel_rfl) (fun _ _ _ h => h) (Or.inl ⟨by rfl, by intro w0 _; go_simp; rfl⟩) hHeld ?_
  simp only [Act.put, List.getElem_toArray, List.getElem_cons_succ, List.getElem_cons_zero, List.setIfInBounds_toArray, List.set_cons_succ, List.set_cons_zero]
  refine wpAnyH_take (i := 2) (oi := _) (v := ?_) rfl (by kernel_rfl) (by kernel_rfl) (by kernel_rfl) (fun _ _ _ h => h) (Or.inl ⟨by rfl, by intro w0 _; go_simp; rfl⟩) hHeld ?_
  simp only [Act.put, List.getElem_toArray, List.getElem_cons_succ, List.getElem_cons_zero, List.setIfInBounds_toArray, List.set_cons_succ, List.set_cons_zero]
  refine wpAnyH_take (i := 3) (oi := _) (v := .agg (tabC f)) rfl (by kernel_rfl) (by kernel_rfl) (by kernel_rfl) (fun _ _ _ h => h) (yieldsIf_row rfl 52 (.tmp 4) rfl w1.heap.size 52 (tabC f) (by rfl) (fun _ h => h) 9 9 Try.underlying52 (by kernel_rfl)) hHeld ?_
  simp only [Act.put, List.getElem_toArray, List.getElem_cons_succ, List.getElem_cons_zero, List.setIfInBounds_toArray, List.set_cons_succ, List.set_cons_zero]
  refine wpAnyH_ready (rs := [4]) (by kernel_rfl) (by simp) ?_
  refine AllReadyH.cons rfl (fun K hK => ?_) AllReadyH.nil
  go_simp
  go_at_call 73
  refine (HL.out _).mono ?_
  rintro e W4 ⟨rfl, hb4⟩
  replace hb4 : Below W3.heap.size W3 W4 := (Below.refl _ _).drew.trans hb4
  have m1 := K1.keep hb4
  have m2 := K2.keep hb4
  have hB4 := hB3.trans (hb4.mono hs3)
  have hs4 := hB4.size
  refine hK.out _ _ m1 (fun hHeld2 => ?_)
  clear hK K hb4 hHeld
  try simp only [Act.put, List.getElem_toArray, List.getElem_cons_succ, List.getElem_cons_zero, List.setIfInBounds_toArray, List.set_cons_succ, List.set_cons_zero]
  refine wpAnyH_take (i := 5) (oi := _) (v := ?_) rfl (by kernel_rfl) (by kernel_rfl) (by kernel_rfl) (fun _ _ _ h => h) (Or.inl ⟨by rfl, by intro w0 _; go_simp; rfl⟩) m1 ?_
  simp only [Act.put, List.getElem_toArray, List.getElem_cons_succ, List.getElem_cons_zero, List.setIfInBounds_toArray, List.set_cons_succ, List.set_cons_zero]
  refine wpAnyH_take (i := 6) (oi := _) (v := ?_) rfl (by kernel_rfl) (by kernel_rfl) (by kernel_rfl) (fun _ _ _ h => h) (Or.inl ⟨by rfl, by intro w0 _; go_simp; rfl⟩) m1 ?_
  simp only [Act.put, List.getElem_toArray, List.getElem_cons_succ, List.getElem_cons_zero, List.setIfInBounds_toArray, List.set_cons_succ, List.set_cons_zero]
  refine wpAnyH_ready (rs := [7]) (by kernel_rfl) (by simp) ?_
  refine AllReadyH.cons rfl (fun K hK => ?_) AllReadyH.nil
  rw [if_pos (by rfl)]
  refine wp_store_row 52 (.tmp 2) (.tmp 11) rfl w.heap.size (tabC f) (by rfl) (by rfl) 52 zA m2 (by kernel_rfl) rfl (tabC_all _) ?_
  have hg5 := grown_setRow W4 w.heap.size (tabC f)
  have hA5 := m2.setRow (tabC f)
  have n1 := m1.grown hg5 (fun e => hne (Option.some.inj e))
  have hB5 := hB4.trans (below_grown hg5 (B := w.heap.size) hs4 (fun g e => by cases e; omega))
  refine hK.out _ _ n1 (fun hHeld3 => ?_)
  clear hK K
  try simp only [Act.put, List.getElem_toArray, List.getElem_cons_succ, List.getElem_cons_zero]
  refine wpAnyH_take (i := 8) (oi := _) (v := ?_) rfl (by kernel_rfl) (by kernel_rfl) (by kernel_rfl) (fun _ _ _ h => h) (Or.inl ⟨by rfl, by intro w0 _; go_simp; rfl⟩) n1 ?_
  simp only [Act.put, List.getElem_toArray, List.getElem_cons_succ, List.getElem_cons_zero, List.setIfInBounds_toArray, List.set_cons_succ, List.set_cons_zero]
  refine wpAnyH_done (by kernel_rfl) ?_ _
  go_wp2
  refine bodyPost_ret (v := .tuple #[tabV f, .bool lv.toList.isEmpty]) (results_row2 Try.results68 _ _ w.heap.size 52 (tabC f) (by rfl) (by rfl) hA5 9 9 Try.underlying52 (by kernel_rfl)) rfl ⟨by rw [HE.out, emp_iff]; rfl, hB5⟩

set_option maxRecDepth 100000 in
set_option maxHeartbeats 2000000 in
theorem exchOf_no (xs : List Mv) (h1 : ¬ MV xs) (v : Value) (w : World) (hx : RdM w v xs) :
    Calls Try.prog 68 #[v] w fun e w' => e = .returned (.tuple #[zX, .bool false]) ∧ Below w.heap.size w w' := by
  have HX := Lib.hid (fun W (hW : Below w.heap.size w W) => hx.below hW)
  have HT := Lib.hid (fun W hW => tableOf_no xs h1 v W hW)
  clear h1 hx
  have hb0 : Below w.heap.size w (w.alloc (.cells zA 52)) := (Below.refl _ _).alloc (Nat.le_refl _) _
  have hA0 : At (w.alloc (.cells zA 52)) w.heap.size 52 zA := At.new w _ _
  have hx0 := HX.out _ hb0
  go_enter Try.func68, Try.ntmps68
  go_wp2_with fail
  refine (HT.out _ hx0).mono ?_
  rintro e w1 ⟨rfl, hb1⟩
  have hbw := hb0.trans (hb1.mono hb0.size)
  have hA1 := hA0.keep hb1
  have hs1 := hbw.size
  clear hx0 hA0 hb0 hb1
  obtain ⟨W3, hW3⟩ : ∃ W3 : World, W3 = w1.alloc (.cells zA 52) := ⟨_, rfl⟩
  have K1 : At W3 w1.heap.size 52 zA := by rw [hW3]; exact At.new w1 _ _
  have K2 : At W3 w.heap.size 52 zA := by rw [hW3]; exact hA1.alloc _
  have hB3 : Below w.heap.size w W3 := by rw [hW3]; exact hbw.alloc hs1 _
  have hs3 := hB3.size
  have hne : w1.heap.size ≠ w.heap.size := Nat.ne_of_gt hA1.lt
  clear hbw hA1
  go_wp2
  rw [← hW3]
  clear hW3
  refine wp_region_held_drew (S := fun W => At W w1.heap.size 52 (tabC (fun _ => emp))) (by kernel_rfl) K1 (fun hHeld => ?_)
  refine wpAnyH_take (i := 0) (oi := _) (v := .agg (tabC (fun _ => emp))) rfl (by kernel_rfl) (by kernel_rfl) (by kernel_rfl) (fun _ _ _ h => h) (yieldsIf_row rfl 52 (.tmp 4) rfl w1.heap.size 52 (tabC (fun _ => emp)) (by rfl) (fun _ h => h) 9 9 Try.underlying52 (by kernel_rfl)) hHeld ?_
  simp only [Act.put, List.getElem_toArray, List.getElem_cons_zero, List.setIfInBounds_toArray, List.set_cons_succ, List.set_cons_zero]
  refine wpAnyH_take (i := 1) (oi := _) (v := ?_) rfl (by kernel_rfl) (by kernel_rfl) (by kernel_rfl) (fun _ _ _ h => h) (Or.inl ⟨by rfl, by intro w0 _; go_simp; rfl⟩) hHeld ?_
  simp only [Act.put, List.getElem_toArray, List.getElem_cons_succ, List.getElem_cons_zero, List.setIfInBounds_toArray, List.set_cons_succ, List.set_cons_zero]
  refine wpAnyH_take (i := 2) (oi := _) (v := ?_) rfl (by kernel_rfl) (by kernel_rfl) (by kernel_rfl) (fun _ _ _ h => h) (Or.inl ⟨by rfl, by intro w0 _; go_simp; rfl⟩) hHeld ?_
  simp only [Act.put, List.getElem_toArray, List.getElem_cons_succ, List.getElem_cons_zero, List.setIfInBounds_toArray, List.set_cons_succ, List.set_cons_zero]
  refine wpAnyH_take (i := 3) (oi := _) (v := undef) rfl (by kernel_rfl) (by kernel_rfl) (by kernel_rfl) (fun _ _ _ h => h) (Or.inr ⟨by rfl, rfl⟩) hHeld ?_
  simp only [Act.put, List.getElem_toArray, List.getElem_cons_succ, List.getElem_cons_zero, List.setIfInBounds_toArray, List.set_cons_succ, List.set_cons_zero]
  refine wpAnyH_take (i := 4) (oi := _) (v := undef) rfl (by kernel_rfl) (by kernel_rfl) (by kernel_rfl) (fun _ _ _ h => h) (Or.inr ⟨by rfl, rfl⟩) hHeld ?_
  simp only [Act.put, List.getElem_toArray, List.getElem_cons_succ, List.getElem_cons_zero, List.setIfInBounds_toArray, List.set_cons_succ, List.set_cons_zero]
  refine wpAnyH_take (i := 5) (oi := _) (v := undef) rfl (by kernel_rfl) (by kernel_rfl) (by kernel_rfl) (fun _ _ _ h => h) (Or.inr ⟨by rfl, rfl⟩) hHeld ?_
  simp only [Act.put, List.getElem_toArray, List.getElem_cons_succ, List.getElem_cons_zero, List.setIfInBounds_toArray, List.set_cons_succ, List.set_cons_zero]
  refine wpAnyH_take (i := 6) (oi := _) (v := ?_) rfl (by kernel_rfl) (by kernel_rfl) (by kernel_rfl) (fun _ _ _ h => h) (Or.inl ⟨by rfl, by intro w0 _; go_simp; rfl⟩) hHeld ?_
  simp only [Act.put, List.getElem_toArray, List.getElem_cons_succ, List.getElem_cons_zero, List.setIfInBounds_toArray, List.set_cons_succ, List.set_cons_zero]
  have m1 : At W3.drew w1.heap.size 52 zA := K1
  have m2 : At W3.drew w.heap.size 52 zA := K2
  have hB4 : Below w.heap.size w W3.drew := hB3.drew
  have hs4 := hB4.size
  refine wpAnyH_ready (rs := [7]) (by kernel_rfl) (by simp) ?_
  refine AllReadyH.cons rfl (fun K hK => ?_) AllReadyH.nil
  rw [if_pos (by rfl)]
  refine wp_store_row 52 (.tmp 2) (.tmp 11) rfl w.heap.size (tabC (fun _ => emp)) (by rfl) (by rfl) 52 zA m2 (by kernel_rfl) rfl (tabC_all _) ?_
  have hg5 := grown_setRow W3.drew w.heap.size (tabC (fun _ => emp))
  have hA5 := m2.setRow (tabC (fun _ => emp))
  have n1 := m1.grown hg5 (fun e => hne (Option.some.inj e))
  have hB5 := hB4.trans (below_grown hg5 (B := w.heap.size) hs4 (fun g e => by cases e; omega))
  refine hK.out _ _ n1 (fun hHeld3 => ?_)
  clear hK K
  try simp only [Act.put, List.getElem_toArray, List.getElem_cons_succ, List.getElem_cons_zero]
  refine wpAnyH_take (i := 8) (oi := _) (v := ?_) rfl (by kernel_rfl) (by kernel_rfl) (by kernel_rfl) (fun _ _ _ h => h) (Or.inl ⟨by rfl, by intro w0 _; go_simp; rfl⟩) n1 ?_
  simp only [Act.put, List.getElem_toArray, List.getElem_cons_succ, List.getElem_cons_zero, List.setIfInBounds_toArray, List.set_cons_succ, List.set_cons_zero]
  refine wpAnyH_done (by kernel_rfl) ?_ _
  go_wp2
  refine bodyPost_ret (v := .tuple #[.agg (tabC (fun _ => emp)), .bool false]) (results_row2 Try.results68 _ _ w.heap.size 52 (tabC (fun _ => emp)) (by rfl) (by rfl) hA5 9 9 Try.underlying52 (by kernel_rfl)) rfl ⟨rfl, hB5⟩

theorem imIsExchange_c (xs : List Mv) (v : Value) (w : World) (hx : RdM w v xs) :
    Calls Try.prog 36 #[v] w fun e w' => e = .returned (.bool (exchB xs)) ∧ Below w.heap.size w w' := by
  by_cases h1 : MV xs
  · have HT := Lib.hid (exchOf_yes xs h1 v w hx)
    clear hx h1
    go_enter Try.func36, Try.ntmps36
    go_wp2_with fail
    refine HT.out.mono ?_
    rintro e w1 ⟨rfl, hb1⟩
    have hs1 := hb1.size
    go_wp2
    go_ret
    exact ⟨rfl, by (repeat' (first | (with_reducible exact Below.refl _ _) | (with_reducible assumption) | (with_reducible refine Below.alloc ?_ ?_ _) | (with_reducible refine Below.drew ?_) | (with_reducible refine Below.setCell ?_ ?_ _) | (with_reducible exact Nat.le_refl _) | omega | ((repeat (first | rewrite [World.size_alloc] | rewrite [World.size_setCell] | rewrite [World.size_drew])); omega) | (simp; omega) | (simp; done)))⟩
  · have HT := Lib.hid (exchOf_no xs h1 v w hx)
    have HE : Hid (exchB xs = false) := by
      have : mvalid xs = false := by simpa [mvalid] using h1
      show _ = _
      rw [exchB, this]; rfl
    clear hx h1
    go_enter Try.func36, Try.ntmps36
    go_wp2_with fail
    refine HT.out.mono ?_
    rintro e w1 ⟨rfl, hb1⟩
    have hs1 := hb1.size
    go_wp2
    go_ret
    exact ⟨by rw [HE.out]; rfl, by (repeat' (first | (with_reducible exact Below.refl _ _) | (with_reducible assumption) | (with_reducible refine Below.alloc ?_ ?_ _) | (with_reducible refine Below.drew ?_) | (with_reducible refine Below.setCell ?_ ?_ _) | (with_reducible exact Nat.le_refl _) | omega | ((repeat (first | rewrite [World.size_alloc] | rewrite [World.size_setCell] | rewrite [World.size_drew])); omega) | (simp; omega) | (simp; done)))⟩
set_option maxRecDepth 100000 in
theorem imLostBy_c (xs : List Mv) (v : Value) (w : World) (hx : RdM w v xs) :
    Calls Try.prog 33 #[v] w fun e w' => e = .returned (.tuple #[.string (lostB xs), .bool (mvalid xs)]) ∧ Below w.heap.size w w' := by
  have HO : Hid (lostB xs = if mvalid xs then leavesB xs else ⟨#[]⟩) := rfl
  by_cases h1 : MV xs
  · have hm : mvalid xs = true := by simpa [mvalid] using h1
    go_enter Try.func33, Try.ntmps33
    go_wp2_with fail
    refine (tableOf_yes xs h1 v _ hx).mono ?_
    rintro e w1 ⟨rfl, hb1⟩
    have hs1 := hb1.size
    go_wp2_with fail
    refine (leaves_c (tabOf xs) _).mono ?_
    rintro e w3 ⟨rfl, hb3⟩
    have b3 := (hb1.alloc hs1 (.cells (tabA (tabOf xs)) 52)).trans (hb3.mono (by simp [World.size_alloc]; omega))
    clear hb3
    go_wp2
    go_ret2
    exact ⟨by rw [HO.out, hm]; rfl, b3⟩
  · have hm : mvalid xs = false := by simpa [mvalid] using h1
    go_enter Try.func33, Try.ntmps33
    go_wp2_with fail
    refine (tableOf_no xs h1 v _ hx).mono ?_
    rintro e w1 ⟨rfl, hb1⟩
    have hs1 := hb1.size
    go_wp2
    go_ret2
    exact ⟨by rw [HO.out, hm]; rfl, by (repeat' (first | (with_reducible exact Below.refl _ _) | (with_reducible assumption) | (with_reducible refine Below.alloc ?_ ?_ _) | (with_reducible refine Below.drew ?_) | (with_reducible refine Below.setCell ?_ ?_ _) | (with_reducible exact Nat.le_refl _) | omega | ((repeat (first | rewrite [World.size_alloc] | rewrite [World.size_setCell] | rewrite [World.size_drew])); omega) | (simp; omega) | (simp; done)))⟩
set_option maxRecDepth 100000 in
set_option maxHeartbeats 2000000 in
theorem imUndoMoves_c (xs : List Mv) (v : Value) (w : World) (hx : RdM w v xs) :
    Calls Try.prog 30 #[v] w fun e w' => ∃ v', e = .returned (.tuple #[v', .bool (exchB xs)]) ∧ w'.ownsRow w.heap.size 60 2 v' (undoM xs).length (mcells (undoM xs)) ∧ Below w.heap.size w w' := by
  by_cases h1 : MV xs
  · have HT := Lib.hid (exchOf_yes xs h1 v w hx)
    rcases Bool.eq_false_or_eq_true (exchB xs) with h2 | h2
    · have HR := Lib.hid (undoM_tab h2)
      have HU := Lib.hid (fun W => undone_c (tabOf xs) (exchB_iff.1 h2).2 W)
      have H2 := Lib.hid h2
      clear hx h1 h2
      generalize tabOf xs = f at *
      go_enter Try.func30, Try.ntmps30
      go_wp2_with fail
      refine HT.out.mono ?_
      rw [H2.out]
      rintro e w1 ⟨rfl, hb1⟩
      have hs1 := hb1.size
      have k1 : At (w1.alloc (.cells (tabA f) 52)) w1.heap.size 52 (tabA f) := At.new w1 _ _
      have hB2 := hb1.alloc hs1 (.cells (tabA f) 52)
      have hs2 := hB2.size
      clear hb1
      go_wp2_with (first | (refine ld_row rfl 52 (.tmp 4) rfl w1.heap.size 52 (tabC f) k1 (by rfl) 9 9 Try.underlying52 (by kernel_rfl) ?_) | (go_at_call 69; refine (HU.out _).mono ?_; rintro e w4 ⟨rfl, hb4⟩; refine held ?_))
      unfold Held
      have hB4 := hB2.trans (hb4.mono hs2)
      have hs4 := hB4.size
      clear hb4 k1 hB2
      go_wp2_with (go_at_call 49; refine (idle_v (bkF f 9) _).mono ?_; rintro e w5 ⟨rfl, hb5⟩; refine held ?_)
      unfold Held
      have hB5 := hB4.trans (hb5.mono hs4)
      have hs5 := hB5.size
      clear hb5 hB4
      have HLI := Lib.hid (fun W => list_c (noIdle (bkF f 9)) W)
      rw [HR.out] at HLI
      go_wp2_with (go_at_call 50; refine (HLI.out _).mono ?_; rintro e w6 ⟨v', rfl, ho, hb6⟩; refine held ?_)
      unfold Held
      have hB6 := hB5.trans (hb6.mono hs5)
      have ho6 := own_more ho hs5
      clear hb6 hB5 ho
      go_wp2
      go_ret2
      exact ⟨_, by rw [H2.out]; rfl, ho6, hB6⟩
    · have HNO := Lib.hid (undoM_no h2)
      have H2 := Lib.hid h2
      clear hx h1 h2
      generalize tabOf xs = f at *
      go_enter Try.func30, Try.ntmps30
      go_wp2_with fail
      refine HT.out.mono ?_
      rw [H2.out]
      rintro e w1 ⟨rfl, hb1⟩
      have hs1 := hb1.size
      go_wp2
      go_ret2
      exact ⟨_, by rw [H2.out]; rfl, by rw [HNO.out]; exact ⟨rfl, .inl ⟨rfl, rfl⟩⟩, by (repeat' (first | (with_reducible exact Below.refl _ _) | (with_reducible assumption) | (with_reducible refine Below.alloc ?_ ?_ _) | (with_reducible refine Below.drew ?_) | (with_reducible refine Below.setCell ?_ ?_ _) | (with_reducible exact Nat.le_refl _) | omega | ((repeat (first | rewrite [World.size_alloc] | rewrite [World.size_setCell] | rewrite [World.size_drew])); omega) | (simp; omega) | (simp; done)))⟩
  · have HT := Lib.hid (exchOf_no xs h1 v w hx)
    have HE : Hid (exchB xs = false) := by
      have : mvalid xs = false := by simpa [mvalid] using h1
      show _ = _
      rw [exchB, this]; rfl
    have HNO := Lib.hid (undoM_no HE.out)
    clear hx h1
    go_enter Try.func30, Try.ntmps30
    go_wp2_with fail
    refine HT.out.mono ?_
    rintro e w1 ⟨rfl, hb1⟩
    have hs1 := hb1.size
    go_wp2
    go_ret2
    exact ⟨_, by rw [HE.out]; rfl, by rw [HNO.out]; exact ⟨rfl, .inl ⟨rfl, rfl⟩⟩, by (repeat' (first | (with_reducible exact Below.refl _ _) | (with_reducible assumption) | (with_reducible refine Below.alloc ?_ ?_ _) | (with_reducible refine Below.drew ?_) | (with_reducible refine Below.setCell ?_ ?_ _) | (with_reducible exact Nat.le_refl _) | omega | ((repeat (first | rewrite [World.size_alloc] | rewrite [World.size_setCell] | rewrite [World.size_drew])); omega) | (simp; omega) | (simp; done)))⟩
end Go.Proofs.Ytmifmfljiaoeaaa
namespace Go.PO
open Go.PM Go.RowKit Go.PW
section
variable {f : Nat → ByteArray} {s : Nat}
theorem wb_some (hf : SV f) (hs : s < 19) {i : Nat} (hi : i + 1 < (way (nxT f) s).length) : (way (nxT f) s)[i] < 9 ∧ sx f (way (nxT f) s)[i] = (way (nxT f) s)[i + 1] := by
  have hr := way_rho (nice hf) hs
  obtain ⟨a, t, e1, e2, e3⟩ := hr.step (j := i) hi
  rw [hr.some_ (j := i) (by omega)] at e1
  rw [hr.some_ (j := i + 1) hi] at e3
  obtain rfl := Option.some.inj e1
  obtain rfl := Option.some.inj e3
  have h9 := (nice hf).low _ _ e2
  refine ⟨h9, ?_⟩
  by_cases e : sx f (way (nxT f) s)[i] = (way (nxT f) s)[i]
  · rw [nxT_stay h9 e] at e2; cases e2
  · rw [nxT_some h9 e] at e2; exact Option.some.inj e2
theorem wb_zero (hf : SV f) (hs : s < 19) (h0 : 0 < (way (nxT f) s).length) : (way (nxT f) s)[0] = s := by
  have hr := way_rho (nice hf) hs
  have := hr.some_ h0
  exact (Option.some.inj this).symm
end
section
variable {nx : Nat → Option Nat}
theorem ringsF_in (hn : Nice nx) {q : Nat} (hq : q < 9) (hr : onRb nx q = true) : ∀ k, q < k → q ∈ (ringsF nx k).flatten := by
  intro k
  induction k with
  | zero => intro h; omega
  | succ k ih =>
    intro h
    by_cases hc : onRb nx k = true ∧ k ∉ (ringsF nx k).flatten
    · rw [ringsF_yes hc.1 hc.2, List.flatten_append, List.mem_append]
      rcases Nat.lt_or_ge q k with h1 | h1
      · exact .inl (ih h1)
      · right
        have : q = k := by omega
        subst this
        obtain ⟨l, hl⟩ := way_first nx q hn (by omega)
        simp [hl]
    · rw [ringsF_no hc]
      rcases Nat.lt_or_ge q k with h1 | h1
      · exact ih h1
      · have : q = k := by omega
        subst this
        exact Classical.not_not.1 fun hm => hc ⟨hr, hm⟩
theorem ringsF_mem2 : ∀ k, ∀ l ∈ ringsF nx k, ∃ s, s < k ∧ l = way nx s ∧ onRb nx s = true ∧ s ∉ (ringsF nx s).flatten := by
  intro k
  induction k with
  | zero => intro l h; simp [ringsF] at h
  | succ k ih =>
    intro l h
    by_cases hc : onRb nx k = true ∧ k ∉ (ringsF nx k).flatten
    · rw [ringsF_yes hc.1 hc.2, List.mem_append] at h
      rcases h with h | h
      · obtain ⟨s, h1, h2⟩ := ih l h; exact ⟨s, by omega, h2⟩
      · simp at h; exact ⟨k, by omega, h, hc⟩
    · rw [ringsF_no hc] at h
      obtain ⟨s, h1, h2⟩ := ih l h; exact ⟨s, by omega, h2⟩
theorem ring_next (hn : Nice nx) {s : Nat} (hs : s < 19) (hr : onRb nx s = true) {x y : Nat} (hx : x ∈ way nx s) (h : nx x = some y) : y ∈ way nx s := by
  have ho := way_rho hn hs
  have e := ho.onR.1 ((onRb_iff hn hs).1 hr)
  obtain ⟨j, hj⟩ := List.getElem?_of_mem hx
  have hjl := (List.getElem?_eq_some_iff.1 hj).1
  rw [ho.at_ j hjl] at hj
  have h2 : orb nx s (j + 1) = some y := by simp only [orb, hj, Option.bind_some]; exact h
  by_cases hl : j + 1 < (way nx s).length
  · rw [ho.some_ hl] at h2
    rw [← Option.some.inj h2]; exact List.getElem_mem hl
  · rw [show j + 1 = (way nx s).length by omega, e] at h2
    obtain rfl := Option.some.inj h2
    exact List.mem_of_getElem? (ho.at_ 0 ho.pos)
theorem ring_orb (hn : Nice nx) {s : Nat} (hs : s < 19) (hr : onRb nx s = true) {x : Nat} (hx : x ∈ way nx s) : ∀ k y, orb nx x k = some y → y ∈ way nx s := by
  intro k
  induction k with
  | zero => intro y h; simp only [orb, Option.some.injEq] at h; rw [← h]; exact hx
  | succ k ih =>
    intro y h
    simp only [orb, Option.bind_eq_some_iff] at h
    obtain ⟨z, h1, h2⟩ := h
    exact ring_next hn hs hr (ih z h1) h2
theorem ring_back (hn : Nice nx) {s : Nat} (hs : s < 19) (hr : onRb nx s = true) {x : Nat} (hx : x ∈ way nx s) : ∃ k, orb nx x k = some s := by
  have ho := way_rho hn hs
  have e := ho.onR.1 ((onRb_iff hn hs).1 hr)
  obtain ⟨j, hj⟩ := List.getElem?_of_mem hx
  have hjl := (List.getElem?_eq_some_iff.1 hj).1
  rw [ho.at_ j hjl] at hj
  refine ⟨(way nx s).length - j, ?_⟩
  have := orb_add (nx := nx) s j ((way nx s).length - j)
  rw [show j + ((way nx s).length - j) = (way nx s).length by omega, e, hj] at this
  exact this.symm

/-- rings have no place in common -/
theorem ringsF_nodup (hn : Nice nx) : ∀ k, k ≤ 9 → (ringsF nx k).flatten.Nodup := by
  intro k
  induction k with
  | zero => intro _; simp [ringsF]
  | succ k ih =>
    intro hk
    by_cases hc : onRb nx k = true ∧ k ∉ (ringsF nx k).flatten
    · rw [ringsF_yes hc.1 hc.2, List.flatten_append, List.nodup_append]
      have hr := way_rho hn (show k < 19 by omega)
      refine ⟨ih (by omega), by simpa using hr.nodup, fun a ha b hb e => ?_⟩
      subst e
      have hb : a ∈ way nx k := by simpa using hb
      obtain ⟨l, hl, hal⟩ := List.mem_flatten.1 ha
      obtain ⟨s', hs', rfl, hr', _⟩ := ringsF_mem2 k l hl
      obtain ⟨m, hm⟩ := ring_back hn (show k < 19 by omega) hc.1 hb
      have := ring_orb hn (show s' < 19 by omega) hr' hal m k hm
      exact hc.2 (List.mem_flatten.2 ⟨_, hl, this⟩)
    · rw [ringsF_no hc]; exact ih (by omega)
structure RingQ (f : Nat → ByteArray) (r : List Nat) : Prop where
  two : 2 ≤ r.length
  low : ∀ i (h : i < r.length), r[i] < 9
  next : ∀ i (h : i < r.length), sx f r[i] = r[(i + 1) % r.length]'(Nat.mod_lt _ (by omega))
  nodup : r.Nodup
theorem ringQ (f : Nat → ByteArray) (hf : SV f) {r : List Nat} (h : r ∈ ringsF (nxT f) 9) : RingQ f r := by
  obtain ⟨s, hs, rfl, hr, hfr⟩ := ringsF_mem2 9 r h
  have hn := nice hf
  have hs19 : s < 19 := by omega
  have ho := way_rho hn hs19
  obtain ⟨i0, h1, h2, h3⟩ := ring_last hf hs19
  obtain ⟨h4, h5, h6⟩ := h3.1 hr
  have hall := ring_all hn hs19 ((onRb_iff hn hs19).1 hr)
  have h0 := wb_zero hf hs19 ho.pos
  refine ⟨h4, fun i hi => ring_low hn (hall _ (List.getElem_mem hi)), fun i hi => ?_, ho.nodup⟩
  by_cases hl : i + 1 < (way (nxT f) s).length
  · rw [(wb_some hf hs19 hl).2]
    congr 1
    exact (Nat.mod_eq_of_lt hl).symm
  · have he : i + 1 = (way (nxT f) s).length := by omega
    have h7 : (way (nxT f) s)[i] = i0 := by
      rw [show (way (nxT f) s).length - 1 = i by omega, List.getElem?_eq_getElem hi] at h1
      exact Option.some.inj h1
    rw [h7, h6]
    have h8 : (i + 1) % (way (nxT f) s).length = 0 := by rw [he, Nat.mod_self]
    simp only [h8]
    exact h0.symm
theorem ring_pow {f : Nat → ByteArray} (hf : SV f) {r : List Nat} (h : RingQ f r) : ∀ n i (hi : i < r.length), pwF (srcT f) n r[i] = nm (r[(i + n) % r.length]'(Nat.mod_lt _ (by omega)))
  | 0, i, hi => by
    show nm r[i] = _
    congr 2
    exact (Nat.mod_eq_of_lt hi).symm
  | n + 1, i, hi => by
    have hp := h.low i hi
    have hm : (i + n) % r.length < r.length := Nat.mod_lt _ (by omega)
    have hq := h.low _ hm
    rw [← pwF_left _ _ _ hp]
    unfold cmpF
    rw [ring_pow hf h n i hi, if_pos (isP_nm hq), pidx_nm hq, ← (sx_lt hf hq).2, h.next _ hm]
    have e : ((i + n) % r.length + 1) % r.length = (i + (n + 1)) % r.length := by rw [Nat.mod_add_mod, Nat.add_assoc]
    simp only [e]
    exact sn_nm _ (h.low _ (Nat.mod_lt _ (by omega)))
theorem ring_dvd {f : Nat → ByteArray} (hf : SV f) {r : List Nat} (h : RingQ f r) (n i : Nat) (hi : i < r.length) : pwF (srcT f) n r[i] = nm r[i] ↔ r.length ∣ n := by
  rw [ring_pow hf h n i hi]
  have hm : (i + n) % r.length < r.length := Nat.mod_lt _ (by omega)
  have e1 : nm (r[(i + n) % r.length]'hm) = nm r[i] ↔ (i + n) % r.length = i := by
    constructor
    · intro e
      exact (List.getElem_inj h.nodup).1 (nm_inj (h.low _ hm) (h.low i hi) e)
    · intro e; simp only [e]
  rw [e1]
  constructor
  · intro e
    have h1 := Nat.div_add_mod (i + n) r.length
    rw [e] at h1
    exact ⟨(i + n) / r.length, by omega⟩
  · rintro ⟨k, rfl⟩
    rw [Nat.add_mul_mod_self_left, Nat.mod_eq_of_lt hi]
theorem stay_pow {S : Nat → ByteArray} {p : Nat} (hp : p < 9) (h : S p = nm p) : ∀ n, pwF S n p = nm p
  | 0 => rfl
  | n + 1 => by
    show cmpF (pwF S n) S p = nm p
    unfold cmpF
    rw [h, if_pos (isP_nm hp), pidx_nm hp, stay_pow hp h n]
/-- in an exchange each place that changes is on a ring -/
theorem exch_ring {f : Nat → ByteArray} (hf : SV f) (he : Exch (srcT f)) {p : Nat} (hp : p < 9) (h : srcT f p ≠ nm p) : onRb (nxT f) p = true := by
  have hn := nice hf
  have hs : p < 19 := by omega
  rw [onRb_iff hn hs]
  have ho := way_rho hn hs
  rw [ho.onR]
  have hlow : ∀ i, i < 9 → sx f i < 9 := fun i hi => by
    have h1 := he.place hi
    have h2 := isP_sidx (s := srcT f i) (by unfold isS; rw [h1]; rfl)
    rw [h1] at h2
    exact of_decide_eq_true h2.symm
  have hsrc : ∀ i, i < 9 → srcT f i = nm (sx f i) := fun i hi => by rw [← sn_nm _ (hlow i hi)]; exact (sx_lt hf hi).2.symm
  have hinj : ∀ i j, i < 9 → j < 9 → sx f i = sx f j → i = j := fun i j hi hj e => he.inj hi hj (by rw [hsrc i hi, hsrc j hj, e])
  have hgo : ∀ k, ∃ i, orb (nxT f) p k = some i ∧ i < 9 ∧ sx f i ≠ i := by
    intro k
    induction k with
    | zero => exact ⟨p, rfl, hp, fun e => h (by rw [hsrc p hp, e])⟩
    | succ k ih =>
      obtain ⟨i, h1, h2, h3⟩ := ih
      refine ⟨sx f i, ?_, hlow i h2, fun e => h3 (hinj _ _ (hlow i h2) h2 e)⟩
      simp only [orb, h1, Option.bind_some]
      exact nxT_some h2 h3
  rcases ho.last with h1 | ⟨mu, hmu, h1⟩
  · obtain ⟨i, h2, _⟩ := hgo (way (nxT f) p).length
    rw [h1] at h2; cases h2
  · rcases Nat.eq_zero_or_pos mu with h0 | h0
    · rw [h1, h0]; rfl
    · exfalso
      obtain ⟨m, rfl⟩ : ∃ m, mu = m + 1 := ⟨mu - 1, by omega⟩
      obtain ⟨n, hn2⟩ : ∃ n, (way (nxT f) p).length = n + 1 := ⟨(way (nxT f) p).length - 1, by omega⟩
      rw [hn2] at h1
      obtain ⟨i, e1, e2, e3⟩ := hgo m
      obtain ⟨j, e4, e5, e6⟩ := hgo n
      simp only [orb, e1, e4, Option.bind_some] at h1
      rw [nxT_some e2 e3, nxT_some e5 e6] at h1
      have := hinj _ _ e5 e2 (Option.some.inj h1)
      have := ho.inj (i := m) (j := n) (by omega) (by omega) (by rw [e1, e4, this])
      omega
def lcmL (l : List Nat) : Nat := l.foldl Nat.lcm 1
theorem lcm_fold_dvd : ∀ (l : List Nat) (a n : Nat), l.foldl Nat.lcm a ∣ n ↔ a ∣ n ∧ ∀ b ∈ l, b ∣ n
  | [], a, n => by simp
  | b :: l, a, n => by
    rw [List.foldl_cons, lcm_fold_dvd l]
    constructor
    · rintro ⟨h1, h2⟩
      refine ⟨Nat.dvd_trans (Nat.dvd_lcm_left a b) h1, fun c hc => ?_⟩
      rw [List.mem_cons] at hc
      rcases hc with rfl | hc
      · exact Nat.dvd_trans (Nat.dvd_lcm_right a c) h1
      · exact h2 c hc
    · rintro ⟨h1, h2⟩
      exact ⟨Nat.lcm_dvd h1 (h2 b (by simp)), fun c hc => h2 c (by simp [hc])⟩
theorem lcmL_dvd (l : List Nat) (n : Nat) : lcmL l ∣ n ↔ ∀ b ∈ l, b ∣ n := by
  unfold lcmL
  rw [lcm_fold_dvd]
  simp
theorem lcm1 : ∀ a, a < 10 → lcmL [a] ≤ 20 := by decide +kernel
theorem lcm2 : ∀ a, a < 10 → ∀ b, b < 10 → a + b ≤ 9 → lcmL [a, b] ≤ 20 := by decide +kernel
theorem lcm3 : ∀ a, a < 8 → ∀ b, b < 8 → ∀ c, c < 8 → a + b + c ≤ 9 → lcmL [a, b, c] ≤ 20 := by decide +kernel
theorem lcm4 : ∀ a, a < 4 → ∀ b, b < 4 → ∀ c, c < 4 → ∀ d, d < 4 → a + b + c + d ≤ 9 → lcmL [a, b, c, d] ≤ 20 := by decide +kernel
theorem lcmL_le (l : List Nat) (h2 : ∀ a ∈ l, 2 ≤ a) (hs : l.sum ≤ 9) : lcmL l ≤ 20 := by
  match l, h2, hs with
  | [], _, _ => decide
  | [a], _, hs => simp at hs; exact lcm1 a (by omega)
  | [a, b], _, hs => simp at hs; exact lcm2 a (by omega) b (by omega) (by omega)
  | [a, b, c], h2, hs =>
    simp at hs h2
    exact lcm3 a (by omega) b (by omega) c (by omega) (by omega)
  | [a, b, c, d], h2, hs =>
    simp at hs h2
    exact lcm4 a (by omega) b (by omega) c (by omega) d (by omega) (by omega)
  | a :: b :: c :: d :: e :: l, h2, hs =>
    simp at hs h2
    omega
theorem lcmL_pos {l : List Nat} (h : ∀ a ∈ l, 0 < a) : 0 < lcmL l := by
  have : ∀ (l : List Nat) (a : Nat), 0 < a → (∀ b ∈ l, 0 < b) → 0 < l.foldl Nat.lcm a := by
    intro l
    induction l with
    | nil => intro a h _; exact h
    | cons b l ih =>
      intro a h1 h2
      exact ih _ (Nat.lcm_pos h1 (h2 b (by simp))) fun c hc => h2 c (by simp [hc])
  exact this l 1 (by decide) h
/-- the least number of times -/
def ordN (f : Nat → ByteArray) : Nat := lcmL ((ringsF (nxT f) 9).map List.length)
theorem flatten_len : ∀ l : List (List Nat), l.flatten.length = (l.map List.length).sum
  | [] => rfl
  | a :: l => by simp [flatten_len l]
theorem rings_sum {f : Nat → ByteArray} (hf : SV f) {l : List (List Nat)} (h : l <+: ringsF (nxT f) 9) : (∀ a ∈ l.map List.length, 2 ≤ a) ∧ (l.map List.length).sum ≤ 9 := by
  constructor
  · intro a ha
    obtain ⟨r, hr, rfl⟩ := List.mem_map.1 ha
    exact (ringQ f hf (h.mem hr)).two
  · have h1 : l.flatten.length ≤ 9 := by
      have h2 := ringsF_nodup (nice hf) 9 (Nat.le_refl _)
      obtain ⟨t, ht⟩ := h
      rw [← ht, List.flatten_append] at h2
      refine nodup_le _ 9 (List.nodup_append.1 h2).1 fun a ha => ?_
      obtain ⟨r, hr, har⟩ := List.mem_flatten.1 ha
      obtain ⟨i, hi⟩ := List.getElem?_of_mem har
      have hil := (List.getElem?_eq_some_iff.1 hi).1
      have := (ringQ f hf (ht ▸ List.mem_append_left t hr)).low i hil
      rw [List.getElem?_eq_getElem hil] at hi
      rw [← Option.some.inj hi]; exact this
    rwa [flatten_len] at h1
theorem ord_pre {f : Nat → ByteArray} (hf : SV f) {l : List (List Nat)} (h : l <+: ringsF (nxT f) 9) : 1 ≤ lcmL (l.map List.length) ∧ lcmL (l.map List.length) ≤ 20 := by
  have h1 := rings_sum hf h
  exact ⟨lcmL_pos fun a ha => by have := h1.1 a ha; omega, lcmL_le _ h1.1 h1.2⟩
theorem ordN_le {f : Nat → ByteArray} (hf : SV f) : 1 ≤ ordN f ∧ ordN f ≤ 20 := ord_pre hf (List.prefix_refl _)
theorem lcmL_snoc (l : List Nat) (a : Nat) : lcmL (l ++ [a]) = Nat.lcm (lcmL l) a := by simp [lcmL]
theorem pow_id_iff {f : Nat → ByteArray} (hf : SV f) (he : Exch (srcT f)) (n : Nat) : (∀ p, p < 9 → pwF (srcT f) n p = nm p) ↔ ordN f ∣ n := by
  have hn := nice hf
  unfold ordN
  rw [lcmL_dvd]
  constructor
  · intro h b hb
    obtain ⟨r, hr, rfl⟩ := List.mem_map.1 hb
    have hq := ringQ f hf hr
    have h0 : 0 < r.length := by have := hq.two; omega
    exact (ring_dvd hf hq n 0 h0).1 (h _ (hq.low 0 h0))
  · intro h p hp
    by_cases hst : srcT f p = nm p
    · exact stay_pow hp hst n
    · have h1 := ringsF_in hn hp (exch_ring hf he hp hst) 9 hp
      obtain ⟨r, hr, hpr⟩ := List.mem_flatten.1 h1
      have hq := ringQ f hf hr
      obtain ⟨i, hi⟩ := List.getElem?_of_mem hpr
      have hil := (List.getElem?_eq_some_iff.1 hi).1
      rw [List.getElem?_eq_getElem hil] at hi
      have e := Option.some.inj hi
      have := (ring_dvd hf hq n i hil).2 (h _ (List.mem_map.2 ⟨r, hr, rfl⟩))
      rwa [e] at this
theorem lsF_emp {S : Nat → ByteArray} : lsF S 9 = [] ↔ ∀ p, p < 9 → S p = nm p := by
  unfold lsF
  rw [List.map_eq_nil_iff, List.filter_eq_nil_iff]
  constructor
  · intro h p hp
    have := h p (by simpa using hp)
    simpa [lsH] using this
  · intro h p hp
    have := h p (by simpa using hp)
    simp [lsH, this]
def ordI (xs : List Mv) : Int := if exchB xs then (ordN (tabOf xs) : Int) else -1
theorem ord_list {xs : List Mv} (h : exchB xs = true) (n : Nat) : lsF (pwF (fun q => srcM xs (nm q)) n) 9 = [] ↔ ordN (tabOf xs) ∣ n := by
  obtain ⟨h1, h2⟩ := exchB_iff.1 h
  rw [← pow_id_iff (SV_tab h1) h2, lsF_emp]
  constructor
  · intro g p hp; rw [pwF_congr (fun q hq => srcT_M h1 hq) n p hp]; exact g p hp
  · intro g p hp; rw [← pwF_congr (fun q hq => srcT_M h1 hq) n p hp]; exact g p hp
end
end Go.PO
namespace Go.PO
open Go.PM Go.RowKit Go.PW
/-- the greatest depth of the first k places -/
noncomputable def maxD (nx : Nat → Option Nat) : Nat → Nat
  | 0 => 0
  | k + 1 => max (maxD nx k) (depN nx k)
noncomputable def settleI (xs : List Mv) : Int := if mvalid xs then (maxD (nxT (tabOf xs)) 9 : Int) else -1
theorem depth_nm {xs : List Mv} (h : MV xs) {k : Nat} (hk : k < 9) : depthI xs (nm k) = (depN (nxT (tabOf xs)) k : Int) := by
  have m1 : mvalid xs = true := by simpa [mvalid] using h
  unfold depthI
  rw [m1, isP_nm hk, pidx_nm hk]; rfl
theorem maxD_succ (nx : Nat → Option Nat) (k : Nat) : ((maxD nx (k + 1) : Nat) : Int) = max (maxD nx k : Int) (depN nx k : Int) := by
  show ((max (maxD nx k) (depN nx k) : Nat) : Int) = _
  omega
theorem spots_at {w w' : World} {b : Nat} {nx : Nat → Option Nat} (h : Spots w b nx) (hk : ∀ t cs, At w b t cs → At w' b t cs) : Spots w' b nx := by
  obtain ⟨t, cs, hA⟩ := h.row
  have hB := hk t cs hA
  exact ⟨⟨t, cs, hB⟩, fun i hi => by rw [hB.cell, ← hA.cell]; exact h.name i hi, fun i hi => by rw [hB.cell, ← hA.cell]; exact h.src i hi⟩
end Go.PO
namespace Go.Proofs.Ytmifmfljiaoeaaa
open Go.RowKit Go.PM Go.PW Go.PO
attribute [local go_sem] Oper.semAt_some

set_option maxRecDepth 100000 in
set_option maxHeartbeats 1000000 in
theorem spSettlesAfter_c (xs : List Mv) (v : Value) (w : World) (hx : RdM w v xs) (hz : ∀ m ∈ xs, m.1.size ≤ 9223372036854775807 ∧ m.2.size ≤ 9223372036854775807) (hn' : xs.length ≤ 1048576) :
    Calls Try.prog 24 #[v] w fun e w' => e = .returned (.int .i64 (settleI xs)) ∧ Below w.heap.size w w' := by
  have HO : Hid (settleI xs = if mvalid xs then (maxD (nxT (tabOf xs)) 9 : Int) else -1) := rfl
  have HV := Lib.hid (spMovesValid_c xs v w hx hz hn')
  have HX := Lib.hid (fun W (hW : Below w.heap.size w W) => hx.below hW)
  rcases Bool.eq_false_or_eq_true (mvalid xs) with h1 | h1
  · have HN : Hid (∀ q, q < 9 → (ByteArray.mk #[97, 98, 99, 100, 101, 102, 65, 66, 67]).extract q (q+1) = nm q) := by
      show ∀ q, _
      intro q hq
      match q, hq with
      | 0, _ | 1, _ | 2, _ | 3, _ | 4, _ | 5, _ | 6, _ | 7, _ | 8, _ => decide +kernel
    have HD := Lib.hid (fun W hW a => spDepthOf_c xs v a W hW hz hn')
    have HDN := Lib.hid (fun k hk => depth_nm (xs := xs) (by simpa [mvalid] using h1) (k := k) hk)
    have H1 := Lib.hid h1
    clear hx hz h1
    generalize nxT (tabOf xs) = nx at *
    go_enter Try.func24, Try.ntmps24
    go_wp2_with fail
    refine HV.out.mono ?_
    rintro e w1 ⟨he, hb1⟩
    rw [H1.out] at he
    subst he
    have hs1 := hb1.size
    go_wp2
    go_loopw [3, 8] (fun o i wr => ∃ k : Nat, k ≤ 9 ∧ i = .int .i64 k ∧ o = .int .i64 (maxD nx k : Nat) ∧ Below w.heap.size w wr) (fun _ i _ => 9 - (intOf i).toNat)
    case atStart => exact ⟨0, by omega, rfl, rfl, hb1⟩
    case round =>
      obtain ⟨k, hk, rfl, rfl, hb⟩ := hrel
      have hbs := hb.size
      by_cases hlt : k < 9
      · have hex := HN.out k hlt
        have hc := HD.out wr (HX.out wr hb) (nm k)
        rw [HDN.out k hlt] at hc
        have HC := Lib.hid hc
        have HS := Lib.hid (maxD_succ nx k)
        clear hc
        generalize maxD nx k = mk at *
        generalize depN nx k = dk at *
        generalize nm k = q at *
        go_wp2_with fail
        refine HC.out.mono ?_
        rintro e w2 ⟨rfl, hb2⟩
        have hbw := hb.trans (hb2.mono hbs)
        clear hb2 hb
        go_wp2
        go_roundw
        case rel => exact ⟨k + 1, by omega, by go_num, by rw [HS.out], hbw⟩
        case measure => simp [intOf]; omega
      · have hk9 : k = 9 := by omega
        subst hk9
        go_wp2
        go_ret
        exact ⟨by rw [HO.out, H1.out]; rfl, hb⟩
  · go_enter Try.func24, Try.ntmps24
    go_wp2_with fail
    refine HV.out.mono ?_
    rintro e w1 ⟨rfl, hb1⟩
    go_wp2
    go_ret
    exact ⟨by rw [HO.out, h1]; rfl, hb1⟩
set_option maxRecDepth 100000 in
set_option maxHeartbeats 4000000 in
theorem imSettlesAfter_c (xs : List Mv) (v : Value) (w : World) (hx : RdM w v xs) :
    Calls Try.prog 23 #[v] w fun e w' => e = .returned (.int .i64 (settleI xs)) ∧ Below w.heap.size w w' := by
  have HO : Hid (settleI xs = if mvalid xs then (maxD (nxT (tabOf xs)) 9 : Int) else -1) := rfl
  by_cases h1 : MV xs
  · have HT := Lib.hid (tableOf_yes xs h1 v w hx)
    have hm1 : mvalid xs = true := by simpa [mvalid] using h1
    have HM := Lib.hid hm1
    have hn := nice (SV_tab h1)
    have HSP := Lib.hid (fun W => spotsOf_c (tabOf xs) (SV_tab h1) W)
    have HDP := Lib.hid (fun b p (hp : p < 9) W hS => depth_c b (nxT (tabOf xs)) hn p (by omega) _ (depN_stops hn (show p < 19 by omega)) W hS)
    clear h1 hx hm1 hn
    generalize nxT (tabOf xs) = nx at *
    generalize tabOf xs = t at *
    refine (callsIn_wide (n := 5)).1 ?_
    refine callsIn_of_wp_marks Try.func23 rfl trivial ?_ rfl
    simp only [Try.ntmps23, List.size_toArray, List.length_cons, List.length_nil, Nat.reduceAdd, Nat.reduceSub, Array.replicate_succ, Array.replicate_zero, List.push_toArray, List.append_toArray, List.nil_append, List.cons_append]
    gi_wp2_with fail
    refine ⟨trivial, callsIn_wide.2 (HT.out.mono ?_)⟩
    rintro e w1 ⟨rfl, hb1⟩
    have hs1 := hb1.size
    have hB0 : Below w.heap.size w (w1.alloc (.cells (tabA t) 52)) := hb1.alloc hs1 _
    have hS0 := hB0.size
    have k1 : At (w1.alloc (.cells (tabA t) 52)) w1.heap.size 52 (tabA t) := At.new w1 _ _
    gi_wp2
    refine ⟨trivial, callsIn_wide.2 ?_⟩
    refine (HSP.out _).mono ?_
    rintro e W1 ⟨⟨bs, rfl, hbs, hSW⟩, hb2⟩
    have hB1 : Below w.heap.size w W1 := hB0.trans (hb2.mono hS0)
    have hS1 := hB1.size
    have hbl := hSW.lt
    clear hb2 hB0 k1 hb1
    obtain ⟨W2, hW2⟩ : ∃ W2 : World, W2 = (W1.alloc (.cells #[.pointer (some ⟨bs, 0, none⟩)] 73)).alloc (.cells #[.int .i64 0] 3) := ⟨_, rfl⟩
    have hA1 : At W2 W1.heap.size 73 #[.pointer (some ⟨bs, 0, none⟩)] := by rw [hW2]; exact (At.new W1 _ _).alloc _
    have hA2 : At W2 (W1.heap.size + 1) 3 #[.int .i64 0] := by
      rw [hW2]; have := At.new (W1.alloc (.cells #[.pointer (some ⟨bs, 0, none⟩)] 73)) 3 #[.int .i64 0]
      rwa [World.size_alloc] at this
    have hSW2 : Spots W2 bs nx := by rw [hW2]; exact spots_at hSW fun t' cs h => (h.alloc _).alloc _
    have hB2 : Below w.heap.size w W2 := by rw [hW2]; (repeat' (first | (with_reducible exact Below.refl _ _) | (with_reducible assumption) | (with_reducible refine Below.alloc ?_ ?_ _) | (with_reducible refine Below.drew ?_) | (with_reducible refine Below.setCell ?_ ?_ _) | (with_reducible exact Nat.le_refl _) | omega | ((repeat (first | rewrite [World.size_alloc] | rewrite [World.size_setCell] | rewrite [World.size_drew])); omega) | (simp; omega) | (simp; done)))
    have hS2 : W2.heap.size = W1.heap.size + 2 := by rw [hW2]; simp only [World.size_alloc]
    gi_wp2
    rw [← hW2]
    clear hW2
    refine range_law (F := Fence.wide) (gf := 62) (lf := #[.int .i64 9]) (lb := #[]) rfl (by decide) rfl trivial (fun args w => rfl) (encs := fun p : Nat => #[.int .i64 p]) (xs := List.range 9)
      (below_iter _ _ trivial rfl (by decide)) (fun _ => rfl)
      (fun pre W => At W (W1.heap.size + 1) 3 #[.int .i64 (maxD nx pre.length : Nat)] ∧ At W W1.heap.size 73 #[.pointer (some ⟨bs, 0, none⟩)] ∧ Spots W bs nx ∧ Below w.heap.size w W)
      (fun _ _ _ => False) ?own (fun _ => ownFrom_pure _ _) ?start ?a1 ?assign ?body ?done ?stop
    case own =>
      rintro s A A' row ⟨h1, h2, h3, h4⟩ hg hr
      have hr' : ∀ r, row = some r → W1.heap.size + 2 ≤ r := fun r e => by have := (hr r e).1; omega
      have hne : ∀ b, b < W1.heap.size + 2 → some b ≠ row := fun b hb e => by have := hr' _ e.symm; omega
      exact ⟨h1.grown hg (hne _ (by omega)), h2.grown hg (hne _ (by omega)), spots_at h3 fun t' cs h => h.grown hg (hne _ (by omega)), h4.trans (below_grown hg h4.size (fun g e => by have := hr' _ e; omega))⟩
    case start => exact ⟨hA2, hA1, hSW2, hB2⟩
    case assign =>
      intro l p W Kc hK
      gi_wp2
      exact hK
    case body =>
      rintro l pre p W ⟨h1, h2, h3, h4⟩ hp hsz
      obtain ⟨hl, hp9⟩ := pre_len pre p hp
      rw [hl] at h1
      have HL : Hid ((pre ++ [p]).length = p + 1) := by show _ = _; simp [hl]
      have HMS := Lib.hid (maxD_succ nx p)
      have hdp : ∀ x : Ext W.heap.size W.drew, Calls Try.prog 63 #[.pointer (some ⟨bs, p * 2, none⟩)] x.val fun e w' => e = .returned (.int .i64 (depN nx p : Nat)) ∧ Below x.val.heap.size x.val w' := fun x => HDP.out bs p hp9 x.val (h3.below ((Below.refl _ _).drew.trans x.property))
      have hc1 : ∀ x : Ext W.heap.size W.drew, x.val.cell? ⟨W1.heap.size + 1, 0, none⟩ = some (.int .i64 (maxD nx p : Nat)) := fun x => (x.property.cell (p := ⟨W1.heap.size + 1, 0, none⟩) h1.lt).trans (h1.cell 0)
      have hc2 : ∀ x : Ext W.heap.size W.drew, x.val.cell? ⟨W1.heap.size, 0, none⟩ = some (.pointer (some ⟨bs, 0, none⟩)) := fun x => (x.property.cell (p := ⟨W1.heap.size, 0, none⟩) h2.lt).trans (h2.cell 0)
      clear hl
      generalize depN nx p = dk at *
      generalize hmk : maxD nx p = mk at *
      have i0 : (0 : Int) ≤ (p : Int) := by omega
      have i1 : (p : Int) < 19 := by omega
      gi_wp2
      refine region_tail_inRound (F := Fence.wide) (C := fun w' => ∃ x : Ext W.heap.size W.drew, w' = x.val) 7 rfl (by kernel_rfl) (by kernel_rfl) (by kernel_rfl) ⟨⟨_, Below.refl _ _⟩, rfl⟩ ?_
      simp only [List.take_succ_cons, List.take_zero, List.drop_succ_cons, List.drop_zero]
      gi_big_quiet_step (fail)
      gi_big_quiet_step (fail)
      gi_big_quiet_step (fail)
      gi_big_quiet_step (fail)
      gi_big_quiet_step (fail)
      (refine BigFrame.wpQuietIn_want (fun _ _ _ _ => trivial) rfl (fun K hK => ?_); gi_big_quiet_op; refine ⟨_, fun _ => callsIn_wide.2 (ext_call _ (Nat.le_refl _) (hdp _)), hK _ ?_⟩; clear hK K)
      gi_big_quiet_step (fail)
      refine wpQuietIn_nil ?_
      rintro W3 ⟨xw, rfl⟩
      have hb2 : Below W.heap.size W xw.val := ((Below.refl _ _).drew).trans xw.property
      clear hc1 hc2 hdp
      generalize xw.val = W3 at *
      have k1 := h1.keep hb2
      have k2 := h2.keep hb2
      have k3 := spots_at h3 fun t' cs h => h.keep hb2
      have k4 := h4.trans (hb2.mono h4.size)
      have kf := k1.frozen 0
      have kc := k1.cell 0
      have kl := k1.lt
      have kS := hb2.size
      have kF : KeepsFrom W2.heap.size W W3 := keepsFrom_below hb2
      clear h1 h2 h3 h4 hb2
      gi_wp2
      refine ⟨kF.trans ((KeepsOthers.setCell _ _ _).from _), KeepsIn.zero (by simp [World.size_setCell]; exact kS), ?_, k2.far (by first | (simp; done) | (simp; omega)) _, spots_at k3 fun t' cs h => h.far (by show bs ≠ W1.heap.size + 1; omega) _, k4.setCell (by show w.heap.size ≤ W1.heap.size + 1; omega) _⟩
      rw [HL.out, HMS.out]
      exact k1.set 0 _
    case done =>
      intro D W hD hI hd
      obtain ⟨h1, h2, h3, h4⟩ := hI
      have h1' : At W (W1.heap.size + 1) 3 #[.int .i64 (maxD nx 9 : Nat)] := h1
      have hc := h1'.cell 0
      clear h1 h1' h2 h3
      gi_wp2
      refine ⟨by simp, .inl ⟨D, _, rfl, run_takeDeferred hd, ?_⟩⟩
      refine ⟨_, results_tmp rfl _ _ _, by rw [HO.out, HM.out]; rfl, h4.trans ⟨rfl, rfl, rfl, by simp [World.putObj], fun k hk => World.putObj_heap_other (by omega)⟩⟩
    case stop =>
      intro _ _ _ _ _ _ hf
      exact hf.elim
  · have HM := Lib.hid (show mvalid xs = false by simpa [mvalid] using h1)
    have HT := Lib.hid (tableOf_no xs h1 v w hx)
    clear h1 hx
    go_enter Try.func23, Try.ntmps23
    go_wp2_with fail
    refine HT.out.mono ?_
    rintro e w1 ⟨rfl, hb1⟩
    have hs1 := hb1.size
    go_wp2
    go_ret
    exact ⟨by rw [HO.out, HM.out]; rfl, by (repeat' (first | (with_reducible exact Below.refl _ _) | (with_reducible assumption) | (with_reducible refine Below.alloc ?_ ?_ _) | (with_reducible refine Below.drew ?_) | (with_reducible refine Below.setCell ?_ ?_ _) | (with_reducible exact Nat.le_refl _) | omega | ((repeat (first | rewrite [World.size_alloc] | rewrite [World.size_setCell] | rewrite [World.size_drew])); omega) | (simp; omega) | (simp; done)))⟩
end Go.Proofs.Ytmifmfljiaoeaaa
namespace Go.PO
open Go.PM Go.RowKit Go.PW
theorem gcd_step (a b : Nat) : Nat.gcd b (a % b) = Nat.gcd a b := by
  rw [Nat.gcd_comm b (a % b), ← Nat.gcd_rec b a, Nat.gcd_comm]
theorem lcm_div (a b : Nat) : a / Nat.gcd a b * b = Nat.lcm a b := by
  unfold Nat.lcm
  rw [Nat.div_mul_right_comm (Nat.gcd_dvd_left a b)]
theorem ord_lists {xs : List Mv} (h : exchB xs = true) : (∀ n, ((pwL xs n).length = 0 ↔ ordN (tabOf xs) ∣ n)) ∧ 1 ≤ ordN (tabOf xs) ∧ ordN (tabOf xs) ≤ 20 := by
  refine ⟨fun n => ?_, ordN_le (SV_tab (exchB_iff.1 h).1)⟩
  rw [← ord_list h n]
  exact List.length_eq_zero_iff
theorem ord_step {xs : List Mv} (h : exchB xs = true) : ∀ pre r, pre ++ [r] <+: ringsF (nxT (tabOf xs)) 9 → Nat.lcm (lcmL (pre.map List.length)) r.length = lcmL ((pre ++ [r]).map List.length) ∧ lcmL (pre.map List.length) ≤ 20 ∧ 2 ≤ r.length ∧ r.length ≤ 19 := by
  intro pre r hp
  have hf := SV_tab (exchB_iff.1 h).1
  have h1 := ord_pre hf (List.IsPrefix.trans (List.prefix_append pre [r]) hp)
  have h2 := rings_sum hf hp
  refine ⟨?_, h1.2, ?_, ?_⟩
  · rw [List.map_append]; exact (lcmL_snoc _ _).symm
  · exact h2.1 _ (by simp)
  · have := h2.2
    simp at this; omega
end Go.PO
namespace Go.Proofs.Ytmifmfljiaoeaaa
open Go.RowKit Go.PM Go.PW Go.PO
attribute [local go_sem] Oper.semAt_some

set_option maxRecDepth 100000 in
theorem gcd_c (a b : Nat) (ha : a ≤ 1000000) (hb : b ≤ 1000000) (w : World) :
    Calls Try.prog 100 #[.int .i64 a, .int .i64 b] w fun e w' => e = .returned (.int .i64 (Nat.gcd a b : Nat)) ∧ Below w.heap.size w w' := by
  go_enter Try.func100, Try.ntmps100
  go_wp2
  go_loopw [0, 1] (fun x y wr => ∃ (c d : Nat), x = .int .i64 c ∧ y = .int .i64 d ∧ c ≤ 1000000 ∧ d ≤ 1000000 ∧ Hid (Nat.gcd c d = Nat.gcd a b) ∧ Below w.heap.size w wr) (fun _ y _ => (intOf y).toNat)
  case atStart => exact ⟨a, b, rfl, rfl, ha, hb, rfl, Below.refl _ _⟩
  case round =>
    obtain ⟨c, d, rfl, rfl, hc, hd, hg, hbw⟩ := hrel
    have HS := Lib.hid (gcd_step c d)
    by_cases h0 : d = 0
    · subst h0
      have HZ : Hid (c = Nat.gcd a b) := by show _ = _; rw [← hg.out, Nat.gcd_zero_right]
      clear hg HS
      go_wp2
      go_ret
      exact ⟨by rw [← HZ.out]; rfl, hbw⟩
    · have hne : ((d : Int) != 0) = true := by simpa using h0
      have hnz : ¬ ((d : Int) = 0) := by omega
      have hr : ∃ r, c % d = r := ⟨_, rfl⟩
      obtain ⟨r, hr⟩ := hr
      have hrl : r < d := by rw [← hr]; exact Nat.mod_lt _ (by omega)
      have HR : Hid ((c : Int) % (d : Int) = (r : Int)) := by show _ = _; omega
      have HG : Hid (Nat.gcd d r = Nat.gcd a b) := by
        show _ = _
        rw [← hr, HS.out]; exact hg.out
      clear hg HS hr
      go_wp2
      refine wp_region_quiet (C := fun w' => w' = wr.drew) (by kernel_rfl) (by kernel_rfl) rfl ?_
      simp only
      repeat (go_big_quiet_step (fail))
      refine wpQuiet_nil ?_
      intro w' hw'
      subst hw'
      go_wp2
      go_roundw
      case rel => exact ⟨d, r, rfl, by first | rw [HR.out] | rfl, hd, by omega, HG, hbw.drew⟩
      case measure =>
        have := HR.out
        simp [intOf]; omega

theorem lcm_c (a b : Nat) (ha : a ≤ 1000) (hb : b ≤ 1000) (hb0 : 0 < b) (w : World) :
    Calls Try.prog 72 #[.int .i64 a, .int .i64 b] w fun e w' => e = .returned (.int .i64 (Nat.lcm a b : Nat)) ∧ Below w.heap.size w w' := by
  have HL := Lib.hid (lcm_div a b)
  have HG := Lib.hid (fun W => gcd_c a b (by omega) (by omega) W)
  have hg0 : 0 < Nat.gcd a b := Nat.gcd_pos_of_pos_right a hb0
  have hq : a / Nat.gcd a b ≤ a := Nat.div_le_self _ _
  have hqb : a / Nat.gcd a b * b ≤ 1000000 := by
    have : a / Nat.gcd a b * b ≤ 1000 * 1000 := Nat.mul_le_mul (by omega) hb
    omega
  generalize hgg : Nat.gcd a b = g at *
  generalize Nat.lcm a b = l at *
  clear hgg
  obtain ⟨q, hqq⟩ : ∃ q, a / g = q := ⟨_, rfl⟩
  have HQ : Hid ((a : Int) / (g : Int) = (q : Int)) := by show _ = _; rw [← hqq]; exact (Int.natCast_ediv a g).symm
  rw [hqq] at HL hq hqb
  have hgn : ¬ ((g : Int) = 0) := by omega
  clear hqq
  go_enter Try.func72, Try.ntmps72
  go_wp2_with fail
  refine (HG.out _).mono ?_
  rintro e w1 ⟨rfl, hb1⟩
  have hq2 := HQ.out
  have hm1 : (q : Int) * (b : Int) = (l : Int) := by rw [← HL.out]; simp
  have hm2 : (l : Int) ≤ 1000000 := by rw [← hm1]; have : ((q * b : Nat) : Int) ≤ 1000000 := by omega
                                       simpa using this
  go_wp2
  go_ret
  exact ⟨by first | rfl | (rw [hm1]), hb1⟩

theorem l4Power_s (xs : List Mv) (v : Value) (n : Nat) (hn : n ≤ 60) (w : World) (hx : RdM w v xs) (L : Nat) (hL : (pwL xs n).length = L) :
    Calls Try.prog 60 #[v, .int .i64 n] w fun e w' => ∃ A cap, e = .returned (.slice A L cap) ∧ Below w.heap.size w w' :=
  (l4Power_c xs v n hn w hx).mono fun e w' ⟨v', he, ho, hb⟩ => by
    obtain ⟨A, cap, hv, _⟩ := Rd.of_own ho
    exact ⟨A, cap, by rw [he, hv, hL], hb⟩
set_option maxRecDepth 100000 in
set_option maxHeartbeats 1000000 in
theorem spOrderOf_c (xs : List Mv) (v : Value) (w : World) (hx : RdM w v xs) (hz : ∀ m ∈ xs, m.1.size ≤ 9223372036854775807 ∧ m.2.size ≤ 9223372036854775807) (hn' : xs.length ≤ 1048576) :
    Calls Try.prog 35 #[v] w fun e w' => e = .returned (.int .i64 (ordI xs)) ∧ Below w.heap.size w w' := by
  have HV := Lib.hid (spIsExchange_c xs v w hx hz hn')
  have HX := Lib.hid (fun W (hW : Below w.heap.size w W) => hx.below hW)
  have HO : Hid (ordI xs = if exchB xs then (ordN (tabOf xs) : Int) else -1) := rfl
  have HP := Lib.hid (fun n hn W hW L hL => l4Power_s xs v n hn W hW L hL)
  clear hx hz
  rcases Bool.eq_false_or_eq_true (exchB xs) with h1 | h1
  · obtain ⟨ho1, ho2, ho3⟩ := ord_lists h1
    have HOL := Lib.hid ho1
    have H1 := Lib.hid h1
    clear h1 ho1
    generalize ordN (tabOf xs) = N at *
    go_enter Try.func35, Try.ntmps35
    go_wp2_with fail
    refine HV.out.mono ?_
    rintro e w1 ⟨he, hb1⟩
    rw [H1.out] at he
    subst he
    go_wp2
    go_loopw [3] (fun i wr => ∃ k : Nat, 1 ≤ k ∧ k ≤ N ∧ i = .int .i64 k ∧ Below w.heap.size w wr) (fun i _ => 61 - (intOf i).toNat)
    case atStart => exact ⟨1, by omega, by omega, rfl, hb1⟩
    case round =>
      obtain ⟨k, hk1, hk, rfl, hb⟩ := hrel
      have hbs := hb.size
      have hk60 : (k : Int) ≤ 60 := by omega
      by_cases he : k = N
      · have HC := Lib.hid (HP.out k (by omega) wr (HX.out wr hb) 0 ((HOL.out k).2 (by rw [he]; exact Nat.dvd_refl _)))
        have HE := Lib.hid he
        clear he
        go_wp2_with fail
        refine HC.out.mono ?_
        rintro e w2 ⟨A, cap, rfl, hb2⟩
        have hbw := hb.trans (hb2.mono hbs)
        clear hb2 hb
        go_wp2
        go_ret
        exact ⟨by rw [HO.out, H1.out, ← HE.out]; rfl, hbw⟩
      · have hl : (pwL xs k).length ≠ 0 := fun e => by
          have := Nat.le_of_dvd (by omega) ((HOL.out k).1 e)
          omega
        have HC := Lib.hid (HP.out k (by omega) wr (HX.out wr hb) _ rfl)
        generalize (pwL xs k).length = L at *
        have hL : ((L : Int) == 0) = false := by simpa using hl
        have hkN : k + 1 ≤ N := by omega
        clear hl he
        go_wp2_with fail
        refine HC.out.mono ?_
        rintro e w2 ⟨A, cap, rfl, hb2⟩
        have hbw := hb.trans (hb2.mono hbs)
        clear hb2 hb
        go_wp2
        go_roundw
        case rel => exact ⟨k + 1, by omega, hkN, by go_num, hbw⟩
        case measure => simp [intOf]; omega
  · go_enter Try.func35, Try.ntmps35
    go_wp2_with fail
    refine HV.out.mono ?_
    rintro e w1 ⟨he, hb1⟩
    rw [h1] at he
    subst he
    go_wp2
    go_ret
    exact ⟨by rw [HO.out, h1]; rfl, hb1⟩
set_option maxRecDepth 100000 in
set_option maxHeartbeats 4000000 in
theorem imOrderOf_c (xs : List Mv) (v : Value) (w : World) (hx : RdM w v xs) :
    Calls Try.prog 32 #[v] w fun e w' => e = .returned (.int .i64 (ordI xs)) ∧ Below w.heap.size w w' := by
  have HO : Hid (ordI xs = if exchB xs then (ordN (tabOf xs) : Int) else -1) := rfl
  by_cases h1 : MV xs
  · have HT := Lib.hid (exchOf_yes xs h1 v w hx)
    rcases Bool.eq_false_or_eq_true (exchB xs) with h2 | h2
    · have hn := nice (SV_tab h1)
      have HSP := Lib.hid (fun W => spotsOf_c (tabOf xs) (SV_tab h1) W)
      have HST := Lib.hid (ord_step h2)
      have HORD : Hid (ordN (tabOf xs) = lcmL ((ringsF (nxT (tabOf xs)) 9).map List.length)) := rfl
      have H2 := Lib.hid h2
      rw [h2] at HT
      clear h1 hx h2
      generalize nxT (tabOf xs) = nx at *
      generalize tabOf xs = t at *
      refine (callsIn_wide (n := 5)).1 ?_
      refine callsIn_of_wp_marks Try.func32 rfl trivial ?_ rfl
      simp only [Try.ntmps32, List.size_toArray, List.length_cons, List.length_nil, Nat.reduceAdd, Nat.reduceSub, Array.replicate_succ, Array.replicate_zero, List.push_toArray, List.append_toArray, List.nil_append, List.cons_append]
      gi_wp2_with fail
      refine ⟨trivial, callsIn_wide.2 (HT.out.mono ?_)⟩
      rintro e w1 ⟨rfl, hb1⟩
      have hs1 := hb1.size
      obtain ⟨W0, hW0⟩ : ∃ W0 : World, W0 = (w1.alloc (.cells (tabA t) 52)).alloc (.cells #[.int .i64 1] 3) := ⟨_, rfl⟩
      have hS0 : W0.heap.size = w1.heap.size + 2 := by rw [hW0]; simp only [World.size_alloc]
      have hB0 : Below w.heap.size w W0 := by rw [hW0]; (repeat' (first | (with_reducible exact Below.refl _ _) | (with_reducible assumption) | (with_reducible refine Below.alloc ?_ ?_ _) | (with_reducible refine Below.drew ?_) | (with_reducible refine Below.setCell ?_ ?_ _) | (with_reducible exact Nat.le_refl _) | omega | ((repeat (first | rewrite [World.size_alloc] | rewrite [World.size_setCell] | rewrite [World.size_drew])); omega) | (simp; omega) | (simp; done)))
      have hA0 : At W0 (w1.heap.size + 1) 3 #[.int .i64 1] := by
        rw [hW0]; have := At.new (w1.alloc (.cells (tabA t) 52)) 3 #[.int .i64 1]
        rwa [World.size_alloc] at this
      gi_wp2
      refine ⟨trivial, callsIn_wide.2 ?_⟩
      rw [← hW0]
      clear hW0
      refine (HSP.out W0).mono ?_
      rintro e W1 ⟨⟨bs, rfl, hbs, hSW⟩, hb2⟩
      have hA1 := hA0.keep hb2
      have hB1 : Below w.heap.size w W1 := hB0.trans (hb2.mono hB0.size)
      have hS1 := hb2.size
      have hbl := hSW.lt
      clear hA0 hb2 hB0
      gi_wp2
      refine range_law5 (F := Fence.wide) (gf := 71) (lf := #[.pointer (some ⟨bs, 0, none⟩)]) (lb := #[]) rfl (by decide) rfl trivial (fun args w => rfl) (encs := fun r : List Nat => #[.string (txt r)]) (xs := ringsF nx 9) (κ := 3)
        (rings_iter bs nx hn) (fun _ => rfl)
        (fun pre W => At W (w1.heap.size + 1) 3 #[.int .i64 (lcmL (pre.map List.length) : Nat)] ∧ Spots W bs nx ∧ Below w.heap.size w W)
        (fun _ _ _ => False) ?pr ?iw ?own (fun _ => ownFrom_pure _ _) ?start ?a1 ?assign ?body ?done ?stop
      case pr => rintro pre A ⟨_, h, _⟩; exact h
      case iw =>
        rintro pre A A' r ⟨k1, k3, k4⟩ hr1 hr2 hg
        exact ⟨at_grown' k1 hg (fun e => by cases e; omega), spots_at k3 fun t' cs h => at_grown' h hg (fun e => by cases e; omega), k4.trans (below_grown hg k4.size (fun g e => by cases e; have := hB1.size; omega))⟩
      case own =>
        rintro s A A' row ⟨k1, k3, k4⟩ hg hr
        exact ⟨at_turn' k1 hg (fun r e => (hr r e).2), spots_at k3 fun t' cs h => at_turn' h hg (fun r e => (hr r e).2), k4.trans (below_grown hg k4.size (fun g e => by have := (hr g e).1; have := hB1.size; omega))⟩
      case start => exact ⟨hA1, hSW, hB1⟩
      case assign =>
        intro l p W Kc hK
        gi_wp2
        exact hK
      case body =>
        rintro l pre r W ⟨k1, k3, k4⟩ hp hsz
        obtain ⟨g1, g2, g3, g4⟩ := HST.out pre r hp
        have HG := Lib.hid g1
        have hts := txt_size r
        have HLC := Lib.hid (fun W => lcm_c (lcmL (pre.map List.length)) r.length (by omega) (by omega) (by omega) W)
        rw [g1] at HLC
        clear g1 hp
        generalize lcmL (pre.map List.length) = a at *
        generalize ha2 : lcmL ((pre ++ [r]).map List.length) = a2 at *
        have HA2 := Lib.hid ha2
        clear ha2
        generalize txt r = s at *
        generalize r.length = L at *
        have c3 : W.cell? ⟨w1.heap.size + 1, 0, none⟩ = some (.int .i64 a) := k1.cell 0
        have hl1 := k1.lt
        gi_wp2
        refine ⟨trivial, ?_⟩
        refine CallsIn.inRound l (callsIn_wide.2 ((HLC.out _).mono ?_))
        rintro e W3 ⟨rfl, hb3⟩
        have j1 := k1.keep hb3
        have d2 := j1.frozen 0
        have d1 := j1.cell 0
        have j3 := spots_at k3 fun t' cs h => h.keep hb3
        have j4 := k4.trans (hb3.mono k4.size)
        have jS := hb3.size
        have jl := j1.lt
        have jF : KeepsFrom W1.heap.size W W3 := keepsFrom_below hb3
        have jI : KeepsIn (W1.heap.size + 2) 3 W W3 := ⟨hb3.size, fun x hx1 hx2 => hb3.block x (by omega)⟩
        have hzw := hB1.size
        clear c3 k1 k3 k4 hb3
        gi_wp2
        refine ⟨jF.trans ((KeepsOthers.setCell _ _ _).from _), ⟨by simp [World.size_setCell]; exact jI.size, fun x hx1 hx2 => (heap_setCell_other _ _ _ _ (by simp; omega)).trans (jI.same x hx1 hx2)⟩, by rw [HA2.out]; exact j1.set 0 _, spots_at j3 fun t' cs h => h.far (by show bs ≠ w1.heap.size + 1; omega) _, j4.setCell (by simp; omega) _⟩
      case done =>
        intro D W hD hI hd
        obtain ⟨k1, k3, k4⟩ := hI
        rw [← HORD.out] at k1
        have c3 : W.cell? ⟨w1.heap.size + 1, 0, none⟩ = some (.int .i64 (ordN t : Nat)) := k1.cell 0
        have hzw := hB1.size
        clear k1 k3
        gi_wp2
        refine ⟨by simp, .inl ⟨D, _, rfl, run_takeDeferred hd, ?_⟩⟩
        refine ⟨_, results_tmp rfl _ _ _, by rw [HO.out, H2.out]; rfl, k4.trans ⟨rfl, rfl, rfl, by simp [World.putObj], fun k hk => World.putObj_heap_other (by omega)⟩⟩
      case stop =>
        intro _ _ _ _ _ _ hf
        exact hf.elim
    · have H2 := Lib.hid h2
      rw [h2] at HT
      clear h1 hx h2
      generalize tabOf xs = t at *
      go_enter Try.func32, Try.ntmps32
      go_wp2_with fail
      refine HT.out.mono ?_
      rintro e w1 ⟨rfl, hb1⟩
      have hs1 := hb1.size
      go_wp2
      go_ret
      exact ⟨by rw [HO.out, H2.out]; rfl, by (repeat' (first | (with_reducible exact Below.refl _ _) | (with_reducible assumption) | (with_reducible refine Below.alloc ?_ ?_ _) | (with_reducible refine Below.drew ?_) | (with_reducible refine Below.setCell ?_ ?_ _) | (with_reducible exact Nat.le_refl _) | omega | ((repeat (first | rewrite [World.size_alloc] | rewrite [World.size_setCell] | rewrite [World.size_drew])); omega) | (simp; omega) | (simp; done)))⟩
  · have HE : Hid (exchB xs = false) := by
      have : mvalid xs = false := by simpa [mvalid] using h1
      show _ = _
      rw [exchB, this]; rfl
    have HT := Lib.hid (exchOf_no xs h1 v w hx)
    clear h1 hx
    go_enter Try.func32, Try.ntmps32
    go_wp2_with fail
    refine HT.out.mono ?_
    rintro e w1 ⟨rfl, hb1⟩
    have hs1 := hb1.size
    go_wp2
    go_ret
    exact ⟨by rw [HO.out, HE.out]; rfl, by (repeat' (first | (with_reducible exact Below.refl _ _) | (with_reducible assumption) | (with_reducible refine Below.alloc ?_ ?_ _) | (with_reducible refine Below.drew ?_) | (with_reducible refine Below.setCell ?_ ?_ _) | (with_reducible exact Nat.le_refl _) | omega | ((repeat (first | rewrite [World.size_alloc] | rewrite [World.size_setCell] | rewrite [World.size_drew])); omega) | (simp; omega) | (simp; done)))⟩
end Go.Proofs.Ytmifmfljiaoeaaa
namespace Go.Proofs.Ytmifmfljiaoeaaa
open Go.RowKit Go.PM Go.PO
set_option maxRecDepth 100000 in
set_option maxHeartbeats 1600000 in
theorem exOrderOf (w : World) (xs0 : List Mv) (v0 : Value) (hx0 : RdM w v0 xs0) (hz0 : ∀ m ∈ xs0, m.1.size ≤ 9223372036854775807 ∧ m.2.size ≤ 9223372036854775807) :
    Calls Try.prog 10 #[v0] w fun e w' => e = .returned (.bool true) ∧ Below w.heap.size w w' := by
  go_enter Try.func10, Try.ntmps10
  go_wp2_with fail
  refine (szMoveS_c xs0 v0 1048576 _ (by decide) (by decide) hx0 hz0).mono ?_
  rintro e w1 ⟨⟨r0, rfl, hr0, hq0⟩, Hw1⟩
  have HR0 := Lib.hid hr0
  clear hr0
  have Bw1 := Hw1
  have Zw1 := Bw1.size
  by_cases hneg0 : r0 < 0
  · go_wp2
    go_ret
    exact ⟨rfl, Bw1⟩
  have hl0 : xs0.length ≤ 1048576 := by have := HR0.out (by omega); have := msize_len xs0; omega
  have hm0 : msize xs0 ≤ 1048576 := by have := HR0.out (by omega); omega
  go_wp2_with fail
  refine (toMoveS_c xs0 v0 _ (hx0.below Bw1) hl0).mono ?_
  rintro e w2 ⟨uw2, rfl, how2, Hw2⟩
  have Bw2 : Below w.heap.size w w2 := Bw1.trans (Hw2.mono Zw1)
  have Zw2 := Bw2.size
  have Rw2 : RdM w2 uw2 xs0 := Rd.of_own how2
  go_wp2_with fail
  refine (spOrderOf_c xs0 uw2 _ Rw2 hz0 hl0).mono ?_
  rintro e w3 ⟨rfl, Hw3⟩
  have Bw3 : Below w.heap.size w w3 := Bw2.trans (Hw3.mono Zw2)
  have Zw3 := Bw3.size
  go_wp2_with fail
  refine (toMoveS_c xs0 v0 _ (hx0.below Bw3) hl0).mono ?_
  rintro e w4 ⟨uw4, rfl, how4, Hw4⟩
  have Bw4 : Below w.heap.size w w4 := Bw3.trans (Hw4.mono Zw3)
  have Zw4 := Bw4.size
  have Rw4 : RdM w4 uw4 xs0 := Rd.of_own how4
  go_wp2_with fail
  refine (imOrderOf_c xs0 uw4 _ Rw4).mono ?_
  rintro e w5 ⟨rfl, Hw5⟩
  have Bw5 : Below w.heap.size w w5 := Bw4.trans (Hw5.mono Zw4)
  have Zw5 := Bw5.size
  have Q0 : RdM w5 uw4 xs0 := Rw4.below Hw5
  go_wp2_with fail
  refine (toMoveS_c xs0 v0 _ (hx0.below Bw5) hl0).mono ?_
  rintro e w6 ⟨uw6, rfl, how6, Hw6⟩
  have Bw6 : Below w.heap.size w w6 := Bw5.trans (Hw6.mono Zw5)
  have Zw6 := Bw6.size
  have Rw6 : RdM w6 uw6 xs0 := Rd.of_own how6
  go_wp2_with fail
  refine (eqMoveS_c xs0 xs0 uw4 uw6 _ (Q0.below Hw6) Rw6).mono ?_
  rintro e w7 ⟨he0, Hw7⟩
  rw [show decide (xs0 = xs0) = true by simp] at he0
  subst he0
  have Bw7 : Below w.heap.size w w7 := Bw6.trans (Hw7.mono Zw6)
  have Zw7 := Bw7.size
  go_wp2
  go_ret
  exact ⟨rfl, Bw7⟩

namespace fnExactOrderOf
open Go.RowKit Go.PM Go.ChangeShapes Go.WideShapes Go.ChangeAt
open Go.ChangeMaps (open_string shut_string)
set_option maxRecDepth 100000 in
theorem lifted (os : Os) (started : os.Started) (H : Type) (enc : TypeId × Value → H) :
    ReturnsInHanded {} Try.checked os 10 .any (Rows.fnExactOrderOfSpec.pre6 enc Try.prog Try.f10 Rows.fnExactOrderOfRow.domain false) (Rows.fnExactOrderOfSpec.post enc Try.prog Try.f10 false true false false) := by
  refine returnsInHanded_of_change (C := Try.checked) own started (by kernel_rfl) Try.func10
    (ChangeSpec.witness6 (enc := enc) (C := Try.checked) false ⟨#[], #[.slice none 0 0], []⟩ 8 (by kernel_rfl) (by kernel_rfl) (by kernel_rfl) (by kernel_rfl)) ?_
  intro W base args ds gs before hval0 hW hcnd _
  have hval : ∀ (j : Nat) t v, Try.f10.params[j]? = some t → args[j]? = some v → Value.okWide Try.prog W .any base t v := hval0
  have hW' := hW
  obtain ⟨p, q, hA0, hV, rfl, hfz, hnd⟩ := hW
  have hA : DataW.TrodAll enc Try.prog W 0 (fun _ => true) true Try.f10.params.toList args.toList ds p := hA0
  rw [Try.params10] at hA hval
  obtain ⟨v0, vs0, d0, ds0, p0, q0, hargs, rfl, rfl, h0, r0⟩ := trodAll_cons hA
  obtain ⟨rfl, rfl, rfl⟩ := trodAll_nil r0
  obtain rfl : args = #[v0] := by cases args; simp_all
  obtain ⟨rfl, rfl⟩ := trodVars_none hV
  have k0 := h0
  have lt0 : ∀ x ∈ p0, x.block < W.heap.size := by obtain ⟨m, hm⟩ := k0; exact DataW.trod_lt m _ _ _ hm
  obtain ⟨a0, len0, cap0, rfl⟩ := okWide_slice Try.underlying41 (hval 0 41 v0 rfl rfl)
  obtain ⟨xs0, hx0, hz0⟩ : ∃ xs : List Mv, RdM W (.slice a0 len0 cap0) xs ∧ ∀ m ∈ xs, m.1.size ≤ 9223372036854775807 ∧ m.2.size ≤ 9223372036854775807 := by obtain ⟨fuel, hf⟩ := h0; exact open_moves hf
  clear hA0 hval0
  refine (exOrderOf W xs0 _ hx0 hz0).mono fun e W' ⟨he, bel⟩ => ?_
  subst he
  exact ⟨_, rfl, _, _, _, [], _, [], hW', trodAll_mk1 (shut_bool Try.underlying4 _), (trodAll_cons_mk (Below.trod laidOut (by kernel_rfl) (of_decide_eq_true (by kernel_rfl)) k0 bel lt0) trodAll_mk0), rfl, bel.frame _, fun h => by cases h⟩

theorem over : Rows.fnExactOrderOfRow.holds Try.pinned (OpenSpec.ofChange Rows.fnExactOrderOfSpec) :=
  OpenClaim.holds_of_wide 10 Try.f10 rfl rfl rfl rfl rfl rfl rfl ⟨rfl, rfl, rfl, rfl, rfl⟩ rfl rfl rfl rfl rfl (by kernel_rfl) Try.func10 (by kernel_rfl)
    (of_decide_eq_true (by kernel_rfl)) (by unfold Func.isWrapper; first | (rw [if_pos (by decide +kernel)]; kernel_rfl) | (rw [if_neg (by decide +kernel)]; exact ⟨rfl, rfl⟩))
    (fun os started H enc _ => lifted os started H enc)

/-- The statement. -/
theorem proved : Rows.FnExactOrderOfSaid := over
end fnExactOrderOf
end Go.Proofs.Ytmifmfljiaoeaaa
