import Derived.Test.YtmifmfljiaoeaaaIdle
import Derived.Test.YtmifmfljiaoeaaaHold
namespace Go.PM
open Go.RowKit
theorem SVal_then {f g : Nat → ByteArray} (h1 : SVal (srcT f)) (h2 : SVal (srcT g)) : SVal (srcT (thenF f g)) := by
  intro p hp
  rw [srcT_then]
  exact SVal_cmp h1 h2 p hp
theorem SVal_tab {xs : List Mv} (h : MV xs) : SVal (srcT (tabOf xs)) := by
  intro p hp
  rw [srcT_M h hp]
  exact SVal_M h p hp
theorem SVal_zero : SVal (srcT fun _ => emp) := fun _ h => isS_nm h
/-- what the loop of power holds: what is done, what is left -/
structure PwR (f : Nat → ByteArray) (N : Nat) (d x : Nat → ByteArray) (k : Nat) : Prop where
  inv : PwInv f N d x k
  dv : SVal (srcT d)
  xv : SVal (srcT x)
theorem PwR.start {f : Nat → ByteArray} (h : SVal (srcT f)) (N : Nat) : PwR f N (fun _ => emp) f N := ⟨PwInv_start f N, SVal_zero, h⟩
theorem PwR.odd {f d x : Nat → ByteArray} {N n : Nat} (h : PwR f N d x n) (h1 : n % 2 = 1) : PwR f N (thenF d x) (thenF x x) (n / 2) := ⟨PwInv_odd h.inv h1, SVal_then h.dv h.xv, SVal_then h.xv h.xv⟩
theorem PwR.even {f d x : Nat → ByteArray} {N n : Nat} (h : PwR f N d x n) (h1 : n % 2 = 0) : PwR f N d (thenF x x) (n / 2) := ⟨PwInv_even h.inv h1, h.dv, SVal_then h.xv h.xv⟩
theorem PwR.done {f d x : Nat → ByteArray} {N : Nat} (h : PwR f N d x 0) : ∀ p, p < 9 → srcT d p = pwF (srcT f) N p := fun _ hp => PwInv_end h.inv hp
end Go.PM
namespace Go.Proofs.Ytmifmfljiaoeaaa
open Go.RowKit Go.PM

theorem then_v (f g : Nat → ByteArray) (hg : SVal (srcT g)) (w : World) :
    Calls Try.prog 48 #[tabX f, tabX g] w fun e w' => e = .returned (tabX (thenF f g)) ∧ Below w.heap.size w w' := then_c f g hg w
theorem idle_v (f : Nat → ByteArray) (w : World) :
    Calls Try.prog 49 #[tabX f] w fun e w' => e = .returned (tabX (noIdle f)) ∧ Below w.heap.size w w' := idle_c f w

set_option maxRecDepth 100000 in
set_option maxHeartbeats 2000000 in
theorem power_c (f : Nat → ByteArray) (hf : SVal (srcT f)) (n : Nat) (hn : n ≤ 60) (w : World) :
    Calls Try.prog 58 #[zX, tabX f, .int .i64 n] w fun e w' => ∃ d, e = .returned (tabX d) ∧ Hid (∀ p, p < 9 → srcT d p = pwF (srcT f) n p) ∧ Below w.heap.size w w' := by
  have HM : ∀ (n : Nat) (w : World) (t : Nat → ByteArray), (method (n + 1) 52 (.agg (tabC t)) "loop.example/parallelmoves/impl.then").run Try.prog w = .ok (48, .agg (tabC t)) w := fun _ _ _ => by kernel_rfl
  have HST := Lib.hid (PwR.start hf n)
  have HTH := Lib.hid (fun x y hy W => then_v x y hy W)
  clear hf
  go_enter Try.func58, Try.ntmps58
  obtain ⟨W0, hW0⟩ : ∃ W0 : World, W0 = (((w.alloc (.cells zA 52)).alloc (.cells (tabA f) 52)).alloc (.cells zA 52)).alloc (.cells zA 52) := ⟨_, rfl⟩
  have hB0 : Below w.heap.size w W0 := by rw [hW0]; (repeat' (first | (with_reducible exact Below.refl _ _) | (with_reducible assumption) | (with_reducible refine Below.alloc ?_ ?_ _) | (with_reducible refine Below.drew ?_) | (with_reducible refine Below.setCell ?_ ?_ _) | (with_reducible exact Nat.le_refl _) | omega | ((repeat (first | rewrite [World.size_alloc] | rewrite [World.size_setCell] | rewrite [World.size_drew])); omega) | (simp; omega) | (simp; done)))
  have hA1 : At W0 (w.heap.size + 1) 52 (tabA f) := by
    rw [hW0]; have := ((At.new (w.alloc (.cells zA 52)) 52 (tabA f)).alloc (.cells zA 52)).alloc (.cells zA 52)
    rwa [World.size_alloc] at this
  have hA2 : At W0 (w.heap.size + 1 + 1) 52 zA := by
    rw [hW0]; have := (At.new ((w.alloc (.cells zA 52)).alloc (.cells (tabA f) 52)) 52 zA).alloc (.cells zA 52)
    rwa [World.size_alloc, World.size_alloc] at this
  have hA3 : At W0 (w.heap.size + 1 + 1 + 1) 52 zA := by
    rw [hW0]; have := At.new (((w.alloc (.cells zA 52)).alloc (.cells (tabA f) 52)).alloc (.cells zA 52)) 52 zA
    rwa [World.size_alloc, World.size_alloc, World.size_alloc] at this
  go_wp2
  rw [← hW0]
  clear hW0
  go_loopw [2] (fun i wr => ∃ (k : Nat) (d x : Nat → ByteArray), k ≤ n ∧ i = .int .i64 k ∧ At wr (w.heap.size + 1) 52 (tabC x) ∧ At wr (w.heap.size + 1 + 1) 52 zA ∧ At wr (w.heap.size + 1 + 1 + 1) 52 (tabC d) ∧ Below w.heap.size w wr ∧ Hid (PwR f n d x k)) (fun i _ => (intOf i).toNat)
  case atStart => exact ⟨n, fun _ => emp, f, Nat.le_refl _, rfl, hA1, hA2, hA3, hB0, HST.out⟩
  case round =>
    obtain ⟨k, d, x, hk, rfl, h1, h2, h3, hb, hinv⟩ := hrel
    have hbs := hb.size
    have hl1 := h1.lt
    have hl2 := h2.lt
    have hl3 := h3.lt
    by_cases h0 : 0 < k
    · have i0 : (0 : Int) < (k : Int) := by omega
      have hq : (k : Int) / 2 = ((k / 2 : Nat) : Int) := by omega
      have HQ := Lib.hid hq
      clear hq
      have hkk : k / 2 ≤ n := by omega
      have hkl : k / 2 < k := by omega
      have hsz := hinv.out.xv
      have HT2 := Lib.hid (HTH.out x x hsz)
      rcases Nat.mod_two_eq_zero_or_one k with hm | hm
      · have hme : ((k : Int) % 2 == 1) = false := by rw [show (k : Int) % 2 = 0 by omega]; rfl
        have HI2 : Hid (PwR f n d (thenF x x) (k / 2)) := hinv.out.even hm
        clear hm hinv hsz
        generalize thenF x x = xx at *
        go_wp2_with (first | (refine ld_row rfl 52 (.tmp 4) rfl (w.heap.size + 1) 52 (tabC x) h1 (by rfl) 9 9 Try.underlying52 (by kernel_rfl) ?_) | (go_at_call 48; refine (HT2.out _).mono ?_; rintro e w2 ⟨rfl, hb2⟩; refine held ?_))
        unfold Held
        have m1 := h1.keep hb2
        have m2 := h2.keep hb2
        have m3 := h3.keep hb2
        have hbw := hb.trans (hb2.mono hbs)
        have hbws := hbw.size
        clear h1 h2 h3 hb hb2
        go_wp2_with (refine st_row rfl 52 (.tmp 4) (.tmp 23) rfl rfl (w.heap.size + 1) 52 (tabC x) (tabC xx) m1 (by rfl) (by rfl) (by kernel_rfl) rfl (tabC_all _) ?_; intro W5 k1 g5)
        have k2 : At W5 (w.heap.size + 1 + 1) 52 zA := m2.grown g5 (by first | (simp; done) | (simp; omega))
        have k3 : At W5 (w.heap.size + 1 + 1 + 1) 52 (tabC d) := m3.grown g5 (by first | (simp; done) | (simp; omega))
        have hB5 := hbw.trans (below_grown g5 (B := w.heap.size) hbws (fun g e => by cases e; omega))
        clear m1 m2 m3 hbw g5
        go_wp2
        go_roundw
        case rel => exact ⟨k / 2, d, xx, hkk, by first | rfl | (rw [← HQ.out]) | (go_num), k1, k2, k3, hB5, HI2⟩
        case measure => simp [intOf]; omega
      · have hme : ((k : Int) % 2 == 1) = true := by rw [show (k : Int) % 2 = 1 by omega]; rfl
        have HI2 : Hid (PwR f n (thenF d x) (thenF x x) (k / 2)) := hinv.out.odd hm
        have HT1 := Lib.hid (HTH.out d x hsz)
        clear hm hinv hsz
        generalize thenF x x = xx at *
        generalize thenF d x = dx at *
        have l1 := h1.lt
        have l3 := h3.lt
        go_wp2_with (first | (refine ld_row rfl 52 (.tmp 7) rfl (w.heap.size + 1 + 1 + 1) 52 (tabC d) h3 (by rfl) 9 9 Try.underlying52 (by kernel_rfl) ?_) | (refine ld_row rfl 52 (.tmp 4) rfl (w.heap.size + 1) 52 (tabC x) h1 (by rfl) 9 9 Try.underlying52 (by kernel_rfl) ?_) | (go_at_call 48; refine (HT1.out _).mono ?_; rintro e w2 ⟨rfl, hb2⟩; refine held ?_))
        unfold Held
        have m1 := h1.keep hb2
        have m2 := h2.keep hb2
        have m3 := h3.keep hb2
        have hbw := hb.trans (hb2.mono hbs)
        have hbws := hbw.size
        clear h1 h2 h3 hb hb2 HT1
        go_wp2_with (refine st_row rfl 52 (.tmp 7) (.tmp 19) rfl rfl (w.heap.size + 1 + 1 + 1) 52 (tabC d) (tabC dx) m3 (by rfl) (by rfl) (by kernel_rfl) rfl (tabC_all _) ?_; intro W5 k3 g5; refine held ?_)
        unfold Held
        have k2 : At W5 (w.heap.size + 1 + 1) 52 zA := m2.grown g5 (by first | (simp; done) | (simp; omega))
        have k1 : At W5 (w.heap.size + 1) 52 (tabC x) := m1.grown g5 (by first | (simp; done) | (simp; omega))
        have hB5 := hbw.trans (below_grown g5 (B := w.heap.size) hbws (fun g e => by cases e; omega))
        have hB5s := hB5.size
        have l5 := k1.lt
        clear m1 m2 m3 hbw g5
        go_wp2_with (first | (refine ld_row rfl 52 (.tmp 4) rfl (w.heap.size + 1) 52 (tabC x) k1 (by rfl) 9 9 Try.underlying52 (by kernel_rfl) ?_) | (go_at_call 48; refine (HT2.out _).mono ?_; rintro e w6 ⟨rfl, hb6⟩; refine held ?_))
        unfold Held
        have m1 := k1.keep hb6
        have m2 := k2.keep hb6
        have m3 := k3.keep hb6
        have hbw := hB5.trans (hb6.mono hB5s)
        have hbws := hbw.size
        clear k1 k2 k3 hB5 hb6
        go_wp2_with (refine st_row rfl 52 (.tmp 4) (.tmp 23) rfl rfl (w.heap.size + 1) 52 (tabC x) (tabC xx) m1 (by rfl) (by rfl) (by kernel_rfl) rfl (tabC_all _) ?_; intro W7 k1 g7)
        have k2 : At W7 (w.heap.size + 1 + 1) 52 zA := m2.grown g7 (by first | (simp; done) | (simp; omega))
        have k3 : At W7 (w.heap.size + 1 + 1 + 1) 52 (tabC dx) := m3.grown g7 (by first | (simp; done) | (simp; omega))
        have hB7 := hbw.trans (below_grown g7 (B := w.heap.size) hbws (fun g e => by cases e; omega))
        clear m1 m2 m3 hbw g7
        go_wp2
        go_roundw
        case rel => exact ⟨k / 2, dx, xx, hkk, by first | rfl | (rw [← HQ.out]) | (go_num), k1, k2, k3, hB7, HI2⟩
        case measure => simp [intOf]; omega
    · have hk0 : k = 0 := by omega
      subst hk0
      have HD := Lib.hid hinv.out.done
      clear hinv
      go_wp2_with (first | (refine ld_row rfl 52 (.tmp 7) rfl (w.heap.size + 1 + 1 + 1) 52 (tabC d) h3 (by rfl) 9 9 Try.underlying52 (by kernel_rfl) ?_) | (refine st_row rfl 52 (.tmp 6) (.tmp 24) rfl rfl (w.heap.size + 1 + 1) 52 zA (tabC d) h2 (by rfl) (by rfl) (by kernel_rfl) rfl (tabC_all _) ?_; intro W5 k2 g5))
      have hB5 := hb.trans (below_grown g5 (B := w.heap.size) hbs (fun g e => by cases e; omega))
      refine bodyPost_ret (v := tabV d) (results_row1 Try.results58 _ _ (w.heap.size + 1 + 1) 52 (tabC d) (by rfl) k2 9 9 Try.underlying52 (by kernel_rfl)) rfl ⟨d, rfl, HD, hB5⟩
end Go.Proofs.Ytmifmfljiaoeaaa
