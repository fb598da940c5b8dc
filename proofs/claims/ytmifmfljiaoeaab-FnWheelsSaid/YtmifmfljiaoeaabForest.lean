import Derived.Test.YtmifmfljiaoeaabHd
import Derived.Test.YtmifmfljiaoeaabTail
import Derived.Test.YtmifmfljiaoeaabNames
import Derived.Test.YtmifmfljiaoeaabSource
namespace Go.PW
open Go.RowKit Go.PM
/-- the cells of the wheels -/
abbrev whA (g : Nat → Nat) : Array Value := #[.int .i64 (g 0 : Nat), .int .i64 (g 1 : Nat), .int .i64 (g 2 : Nat), .int .i64 (g 3 : Nat), .int .i64 (g 4 : Nat), .int .i64 (g 5 : Nat), .int .i64 (g 6 : Nat), .int .i64 (g 7 : Nat), .int .i64 (g 8 : Nat)]
theorem whA_at (g : Nat → Nat) (q : Nat) (hq : q < 9) : (whA g)[q]? = some (.int .i64 (g q : Nat)) := by
  match q, hq with
  | 0, _ | 1, _ | 2, _ | 3, _ | 4, _ | 5, _ | 6, _ | 7, _ | 8, _ => rfl
theorem whA_set (g : Nat → Nat) (q : Nat) (hq : q < 9) (x : Nat) : (whA g).setIfInBounds q (.int .i64 (x : Nat)) = whA (fun r => if r = q then x else g r) := by
  match q, hq with
  | 0, _ | 1, _ | 2, _ | 3, _ | 4, _ | 5, _ | 6, _ | 7, _ | 8, _ => simp [whA]
theorem grown_set (w : World) (p : Addr) (v : Value) : w.grownBy (w.setCell p v) (some p.block) :=
  ⟨rfl, rfl, rfl, by simp [World.size_setCell], fun i _ hne => heap_setCell_other w p i v (fun e => hne (by rw [e]))⟩
end Go.PW
namespace Go.Proofs.Ytmifmfljiaoeaab
open Go.RowKit Go.PM Go.PW

set_option maxRecDepth 100000 in
set_option maxHeartbeats 1000000 in
theorem head_c (b : Nat) (g h dp : Nat → Nat) (hF : Forest g h dp) (p : Nat) (hp : p < 9) (w : World) (hA : At w b 134 (whA g)) :
    Calls Try.prog 119 #[.pointer (some ⟨b, 0, none⟩), .int .i64 p] w fun e w' => e = .returned (.int .i64 (h p : Nat)) ∧ w = w' := by
  have HLT := Lib.hid hF.lt
  have HUP := Lib.hid hF.up
  have HRT := Lib.hid hF.root
  have HC : Hid (∀ q, q < 9 → w.cell? ⟨b, q, none⟩ = some (.int .i64 (g q : Nat))) := fun q hq => (hA.cell q).trans (whA_at g q hq)
  clear hF hA
  go_enter Try.func119, Try.ntmps119
  go_wp2
  go_loop [1] (fun i => ∃ q : Nat, q < 9 ∧ i = .int .i64 q ∧ Hid (h q = h p)) (fun i => dp (intOf i).toNat)
  case atStart => exact ⟨p, hp, rfl, rfl⟩
  case round =>
    obtain ⟨q, hq, rfl, hh⟩ := hrel
    have hc := HC.out q hq
    have hlt := HLT.out q hq
    have hup := HUP.out q hq
    have hrt := HRT.out q hq
    have i0 : (0 : Int) ≤ (q : Int) := by omega
    have i1 : (q : Int) < 9 := by omega
    by_cases he : g q = q
    · have HR : Hid (h p = q) := by show _ = _; rw [← hh.out]; exact hrt he
      rw [he] at hc
      clear hup hrt
      go_wp2
      go_ret
      exact ⟨by rw [HR.out]; rfl, rfl⟩
    · have h2 := hup he
      have HD := Lib.hid h2.1
      have HH : Hid (h (g q) = h p) := by show _ = _; rw [h2.2]; exact hh.out
      have hne : ((g q : Int) != (q : Int)) = true := by simp; omega
      clear hup hrt h2 he
      generalize g q = r at *
      go_wp2
      go_round
      case rel => exact ⟨r, hlt, rfl, HH⟩
      case measure => simpa [intOf] using HD.out
set_option maxRecDepth 100000 in
set_option maxHeartbeats 1000000 in
theorem join_c (b : Nat) (g h dp : Nat → Nat) (hF : Forest g h dp) (p q : Nat) (hp : p < 9) (hq : q < 9) (w : World) (hA : At w b 134 (whA g)) :
    Calls Try.prog 118 #[.pointer (some ⟨b, 0, none⟩), .int .i64 p, .int .i64 q] w fun e w' => (∃ v, e = .returned v) ∧ At w' b 134 (whA (fun r => if r = h p then h q else g r)) ∧ w.grownBy w' (some b) := by
  have h1 := hF.hlt p hp
  have h2 := hF.hlt q hq
  have HH := Lib.hid (fun x (hx : x < 9) W (hW : At W b 134 (whA g)) => head_c b g h dp hF x hx W hW)
  have HS := Lib.hid (whA_set g (h p) h1 (h q))
  have hl := hA.lt
  have hx : ∀ x : Ext w.heap.size w.drew, At x.val b 134 (whA g) := fun x => hA.below ((Below.refl _ _).drew.trans x.property) hl
  have ha : ∀ x : Ext w.heap.size w.drew, Calls Try.prog 119 #[.pointer (some ⟨b, 0, none⟩), .int .i64 p] x.val fun e w' => e = .returned (.int .i64 (h p : Nat)) ∧ x.val = w' := fun x => HH.out p hp x.val (hx x)
  have hb : ∀ x : Ext w.heap.size w.drew, Calls Try.prog 119 #[.pointer (some ⟨b, 0, none⟩), .int .i64 q] x.val fun e w' => e = .returned (.int .i64 (h q : Nat)) ∧ x.val = w' := fun x => HH.out q hq x.val (hx x)
  have i0 : (0 : Int) ≤ (h p : Int) := by omega
  have i1 : (h p : Int) < 9 := by omega
  have HCA : Hid (∀ W, At W b 134 (whA g) → W.cell? ⟨b, h p, none⟩ = some (.int .i64 (g (h p) : Nat))) := fun W hW => (hW.cell (h p)).trans (whA_at g _ h1)
  clear hF
  generalize hhp : h p = a at *
  generalize hhq : h q = c at *
  go_enter Try.func118, Try.ntmps118
  go_wp2
  refine region_tail (C := fun w' => ∃ x : Ext w.heap.size w.drew, w' = x.val) 9 (by kernel_rfl) (by kernel_rfl) ⟨⟨_, Below.refl _ _⟩, rfl⟩ ?_
  simp only [List.take_succ_cons, List.take_zero, List.drop_succ_cons, List.drop_zero]
  repeat (go_big_quiet_step (first | (go_at_call 119; with_reducible exact ext_same _ (ha _)) | (go_at_call 119; with_reducible exact ext_same _ (hb _))))
  refine wpQuiet_nil ?_
  rintro W2 ⟨xw, rfl⟩
  have hA2 := hx xw
  have hg2 : w.grownBy xw.val (some b) := grown_below ((Below.refl _ _).drew.trans xw.property) (some b)
  clear hx ha hb
  generalize xw.val = W2 at *
  have hc := HCA.out W2 hA2
  have hfz := hA2.frozen a
  have hl2 := hA2.lt
  have hA3 := hA2.set a (.int .i64 (c : Nat))
  rw [HS.out] at hA3
  have hg3 := grown_trans hg2 (grown_set W2 ⟨b, a, none⟩ (.int .i64 (c : Nat)))
  clear hA2
  go_wp2
  go_end0
  exact ⟨⟨_, rfl⟩, hA3, hg3⟩
set_option maxRecDepth 100000 in
set_option maxHeartbeats 1000000 in
theorem wheelFn_c (b b1 b2 : Nat) (g h dp : Nat → Nat) (hF : Forest g h dp) (p r : Nat) (hp : p < 9) (w : World) (hA : At w b 134 (whA g)) (h1 : At w b1 90 #[.pointer (some ⟨b, 0, none⟩)]) (h2 : At w b2 93 #[.int .i64 (r : Nat)]) :
    Calls Try.prog 121 #[.int .i64 p, .pointer (some ⟨b1, 0, none⟩), .pointer (some ⟨b2, 0, none⟩)] w fun e w' => e = .returned (.bool (decide (h p = r))) ∧ Below w.heap.size w w' := by
  have hx : ∀ x : Ext w.heap.size w, At x.val b 134 (whA g) := fun x => hA.below x.property hA.lt
  have hc1 : ∀ x : Ext w.heap.size w, x.val.cell? ⟨b1, 0, none⟩ = some (.pointer (some ⟨b, 0, none⟩)) := fun x => (x.property.cell (p := ⟨b1, 0, none⟩) h1.lt).trans (h1.cell 0)
  have hc2 : ∀ x : Ext w.heap.size w, x.val.cell? ⟨b2, 0, none⟩ = some (.int .i64 (r : Nat)) := fun x => (x.property.cell (p := ⟨b2, 0, none⟩) h2.lt).trans (h2.cell 0)
  have hh : ∀ x : Ext w.heap.size w, Calls Try.prog 119 #[.pointer (some ⟨b, 0, none⟩), .int .i64 p] x.val fun e w' => e = .returned (.int .i64 (h p : Nat)) ∧ x.val = w' := fun x => head_c b g h dp hF p hp x.val (hx x)
  clear hF
  generalize h p = a at *
  go_enter Try.func121, Try.ntmps121
  go_wp2
  refine wp_region_ext w.heap.size (by kernel_rfl) (by kernel_rfl) ?_
  repeat (go_big_quiet_step ((go_at_call 119; exact ext_same _ (hh _))))
  refine wpQuiet_nil ?_
  intro w2 hw'
  obtain ⟨xw, hxw⟩ := hw'
  have hb2 := xw.property
  rw [← hxw] at hb2
  clear hxw xw hx hc1 hc2 hh
  go_wp2
  go_ret
  refine ⟨?_, hb2⟩
  by_cases e : a = r
  · subst e; simp
  · simp [e]; omega
set_option maxRecDepth 100000 in
set_option maxHeartbeats 1000000 in
theorem wheel_c (b : Nat) (g h dp : Nat → Nat) (hF : Forest g h dp) (p : Nat) (hp : p < 9) (w : World) (hA : At w b 134 (whA g)) :
    Calls Try.prog 80 #[.pointer (some ⟨b, 0, none⟩), .int .i64 p] w fun e w' => e = .returned (.string (namesW fun q => decide (h q = h p))) ∧ Below w.heap.size w w' := by
  have HF := Lib.hid hF
  have hA0 := hA.alloc (.cells #[.pointer (some ⟨b, 0, none⟩)] 90)
  have HH := Lib.hid (fun W (hW : At W b 134 (whA g)) => head_c b g h dp hF p hp W hW)
  clear hF
  go_enter Try.func80, Try.ntmps80
  go_wp2_with fail
  refine (HH.out _ hA0).mono ?_
  rintro e w1 ⟨rfl, rfl⟩
  have q1 : At (w.alloc (.cells #[.pointer (some ⟨b, 0, none⟩)] 90)) w.heap.size 90 #[.pointer (some ⟨b, 0, none⟩)] := At.new w _ _
  have q2 : At ((w.alloc (.cells #[.pointer (some ⟨b, 0, none⟩)] 90)).alloc (.cells #[.int .i64 (h p : Nat)] 93)) (w.heap.size + 1) 93 #[.int .i64 (h p : Nat)] := by
    have := At.new (w.alloc (.cells #[.pointer (some ⟨b, 0, none⟩)] 90)) 93 #[.int .i64 (h p : Nat)]
    rwa [World.size_alloc] at this
  have q1' := q1.alloc (.cells #[.int .i64 (h p : Nat)] 93)
  have qA := hA0.alloc (.cells #[.int .i64 (h p : Nat)] 93)
  have b0 : Below w.heap.size w ((w.alloc (.cells #[.pointer (some ⟨b, 0, none⟩)] 90)).alloc (.cells #[.int .i64 (h p : Nat)] 93)) := by (repeat' (first | (with_reducible exact Below.refl _ _) | (with_reducible assumption) | (with_reducible refine Below.alloc ?_ ?_ _) | (with_reducible refine Below.drew ?_) | (with_reducible refine Below.setCell ?_ ?_ _) | (with_reducible exact Nat.le_refl _) | omega | ((repeat (first | rewrite [World.size_alloc] | rewrite [World.size_setCell] | rewrite [World.size_drew])); omega) | (simp; omega) | (simp; done)))
  have z0 := b0.size
  clear q1 hA0
  go_wp2_with fail
  refine (names_c 121 #[.pointer (some ⟨w.heap.size, 0, none⟩), .pointer (some ⟨w.heap.size + 1, 0, none⟩)] (fun q => decide (h q = h p)) _ (fun _ _ => rfl) (fun q hq W hW => ?_)).mono ?_
  · exact wheelFn_c b _ _ g h dp HF.out q (h p) hq W (qA.keep hW) (q1'.keep hW) (q2.keep hW)
  · rintro e w3 ⟨rfl, hb3⟩
    have b3 := b0.trans (hb3.mono z0)
    clear q1' q2 qA hb3
    go_wp2
    go_ret
    exact ⟨rfl, b3⟩
end Go.Proofs.Ytmifmfljiaoeaab
