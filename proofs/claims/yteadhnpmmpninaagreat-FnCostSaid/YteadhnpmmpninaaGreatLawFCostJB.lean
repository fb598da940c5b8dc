import Derived.Test.YteadhnpmmpninaaGreatLawFCostJA
import Derived.Test.YteadhnpmmpninaaGreatColl
import Derived.Test.YteadhnpmmpninaaGreatLate
import Derived.Test.YteadhnpmmpninaaGreatHold
import Derived.Test.YteadhnpmmpninaaGreatTurn
import Derived.Test.YteadhnpmmpninaaGreatBelow
import Derived.Test.YteadhnpmmpninaaGreatRange
import Derived.Scope
import Derived.WalkMore
import Derived.Test.YteadhnpmmpninaaGreatRow
import Derived.Deep.RegionHeld3
import Derived.Deep.AppendLies
namespace Go.PS
open Go.PM Go.RowKit
/-- goals in cells -/
def gC (g : Nat → Nat) : Array Value := #[.int .i64 (g 0 : Nat), .int .i64 (g 1 : Nat), .int .i64 (g 2 : Nat), .int .i64 (g 3 : Nat), .int .i64 (g 4 : Nat), .int .i64 (g 5 : Nat), .int .i64 (g 6 : Nat), .int .i64 (g 7 : Nat), .int .i64 (g 8 : Nat)]
theorem gC_size (g : Nat → Nat) : (gC g).size = 9 := rfl
theorem gC_at (g : Nat → Nat) (p : Nat) (hp : p < 9) : (gC g)[p]? = some (.int .i64 (g p : Nat)) := by
  match p, hp with
  | 0, _ | 1, _ | 2, _ | 3, _ | 4, _ | 5, _ | 6, _ | 7, _ | 8, _ => rfl
def setN (g : Nat → Nat) (p x : Nat) : Nat → Nat := fun q => if q = p then x else g q
theorem gC_set (g : Nat → Nat) (p : Nat) (hp : p < 9) (x : Nat) : (gC g).setIfInBounds p (.int .i64 (x : Nat)) = gC (setN g p x) := by
  match p, hp with
  | 0, _ | 1, _ | 2, _ | 3, _ | 4, _ | 5, _ | 6, _ | 7, _ | 8, _ => simp [gC, setN]
theorem gC_congr {f g : Nat → Nat} (h : ∀ p, p < 9 → f p = g p) : gC f = gC g := by
  unfold gC
  rw [h 0 (by omega), h 1 (by omega), h 2 (by omega), h 3 (by omega), h 4 (by omega), h 5 (by omega), h 6 (by omega), h 7 (by omega), h 8 (by omega)]
theorem gC_one (g : Nat → Nat) : (gC g).all (·.oneCell') = true := by simp [gC, Value.oneCell']
theorem grown_cellP (W : World) (a : Addr) (v : Value) : W.grownBy (W.setCell a v) (some a.block) :=
  ⟨rfl, rfl, rfl, by simp [World.size_setCell], fun k _ hne => heap_setCell_other W a k v (fun e => hne (by rw [e]))⟩
theorem swp_set (g : Nat → Nat) (p q : Nat) : setN (setN g p (g q)) q (g p) = swp g p q := by
  funext x
  show (if x = q then g p else if x = p then g q else g x) = g (tr p q x)
  unfold tr
  by_cases h1 : x = q
  · rw [if_pos h1]
    by_cases h2 : x = p
    · rw [if_pos h2, ← h1, ← h2]
    · rw [if_neg h2, if_pos h1]
  · rw [if_neg h1]
    by_cases h2 : x = p
    · rw [if_pos h2, if_pos h2]
    · rw [if_neg h2, if_neg h2, if_neg h1]
end Go.PS
namespace Go.Proofs.YteadhnpmmpninaaGreat
open Go.RowKit Go.PM Go.PS Go.Lib
attribute [local go_sem] Oper.semAt_some

set_option maxRecDepth 100000 in
theorem indexP_c (g : Nat → Nat) (hg : Prm g) (b p : Nat) (hp : p < 9) (w : World) (hA : At w b 98 (gC g)) :
    Calls Tryz.prog 98 #[.slice (some ⟨b, 0, none⟩) 9 9, .int .i64 p] w fun e w' => e = .returned (.int .i64 (hold g p : Nat)) ∧ w = w' := by
  have h1 := hg.hold hp
  have HI := Lib.hid (fun q hq => hg.hold_iff hp hq (q := q))
  have hcs : ∀ q, q < 9 → w.cell? ⟨b, q, none⟩ = some (.int .i64 (g q : Nat)) := fun q hq => (hA.cell q).trans (gC_at g q hq)
  have hbl := hA.lt
  generalize hold g p = r at *
  go_enter Tryz.func98, Tryz.ntmps98
  go_wp2
  go_loopw [5, 8] (fun _ i wr => ∃ (k : Nat), k ≤ r ∧ i = .int .i64 k ∧ Hid (wr = w)) (fun _ i _ => 9 - (RowKit.intOf i).toNat)
  case atStart => exact ⟨0, by omega, rfl, rfl⟩
  case round =>
    obtain ⟨k, hk, rfl, hwr⟩ := hrel
    have hwr' := hwr.out
    subst hwr'
    have hlt : k < 9 := by omega
    have hd := hcs k hlt
    have i0 : (0 : Int) ≤ (k : Int) := by omega
    have i1 : (k : Int) < 9 := by omega
    have hiff := HI.out k hlt
    have HK := Lib.hid hiff
    clear hiff hcs hA
    by_cases e : g k = p
    · have hr : r = k := HK.out.1 e
      have ee : ((p : Int) == (g k : Int)) = true := by rw [beq_iff_eq]; omega
      subst hr
      generalize g r = x at *
      go_wp2
      go_ret
      exact ⟨rfl, rfl⟩
    · have ee : ((p : Int) == (g k : Int)) = false := by rw [beq_eq_false_iff_ne]; omega
      have hkr : k ≠ r := fun e2 => e (HK.out.2 e2.symm)
      have HKR := Lib.hid hkr
      clear hkr
      generalize g k = x at *
      go_wp2
      go_roundw
      case rel => exact ⟨k + 1, by have := HKR.out; omega, by go_num, trivial⟩
      case measure => simp [RowKit.intOf]; omega
theorem holder_c (g : Nat → Nat) (hg : Prm g) (b p : Nat) (hp : p < 9) (w : World) (hA : At w b 98 (gC g)) :
    Calls Tryz.prog 70 #[.pointer (some ⟨b, 0, none⟩), .int .i64 p] w fun e w' => e = .returned (.int .i64 (hold g p : Nat)) ∧ w = w' := by
  have HC := Lib.hid (indexP_c g hg b p hp w hA)
  have hlt := hA.lt
  go_enter Tryz.func70, Tryz.ntmps70
  go_wp2_with (go_at_call 98; refine HC.out.mono ?_; rintro e w' ⟨rfl, rfl⟩)
  go_ret
  exact ⟨rfl, rfl⟩
theorem results_stp (fn : Func) (hr : fn.results = #[.cell 6 47]) (W : World) (b : Nat) (k : Int) (a c : ByteArray) (hA : At W b 47 #[.int .i64 k, .string a, .string c]) (tmps : Array Value) (h2 : tmps.getD 6 undef = .pointer (some ⟨b, 0, none⟩)) :
    (results fn tmps).run Tryz.prog W = .ok (.agg #[.int .i64 k, .string a, .string c]) W := by
  have q0 := hA.cell 0
  have q1 := hA.cell 1
  have q2 := hA.cell 2
  simp at q0 q1 q2
  simp only [Array.getD_eq_getD_getElem?] at h2
  simp [results, hr, go_sem, h2, q0, q1, q2]
set_option maxRecDepth 100000 in
set_option maxHeartbeats 1600000 in
theorem swap_c (g : Nat → Nat) (b p q : Nat) (hp : p < 9) (hq : q < 9) (hpq : p ≠ q) (w : World) (hA : At w b 98 (gC g)) :
    Calls Tryz.prog 69 #[.pointer (some ⟨b, 0, none⟩), .int .i64 p, .int .i64 q] w fun e w' => e = .returned (.agg #[.int .i64 1, .string (nm p), .string (nm q)]) ∧ At w' b 98 (gC (swp g p q)) ∧ w.grownBy w' (some b) := by
  have hn1 := fun W' => name_c p hp W'
  have hn2 := fun W' => name_c q hq W'
  have hlt := hA.lt
  obtain ⟨W1, hW1e⟩ : ∃ W1, W1 = w.alloc (.cells #[.int .i64 0, .string ⟨#[]⟩, .string ⟨#[]⟩] 47) := ⟨_, rfl⟩
  have hb1 : Below w.heap.size w W1 := by rw [hW1e]; exact (Below.refl _ _).alloc (Nat.le_refl _) _
  have hz1 : W1.heap.size = w.heap.size + 1 := by rw [hW1e]; simp
  have hA1 : At W1 b 98 (gC g) := hA.keep hb1
  have hN1 : At W1 w.heap.size 47 #[.int .i64 0, .string ⟨#[]⟩, .string ⟨#[]⟩] := by rw [hW1e]; exact At.new _ _ _
  have hA2 := (hA1.set p (.int .i64 (g q : Nat))).set q (.int .i64 (g p : Nat))
  rw [gC_set g p hp, gC_set _ q hq, swp_set] at hA2
  have hg1 := (grown_cellP W1 ⟨b, p, none⟩ (.int .i64 (g q : Nat)))
  have hg2 := (grown_cellP (W1.setCell ⟨b, p, none⟩ (.int .i64 (g q : Nat))) ⟨b, q, none⟩ (.int .i64 (g p : Nat)))
  have hgg := grown_trans (grown_below hb1 (some b)) (grown_trans hg1 hg2)
  have hN2 := (hN1.far (show w.heap.size ≠ (⟨b, p, none⟩ : Addr).block by show w.heap.size ≠ b; omega) (.int .i64 (g q : Nat))).far (show w.heap.size ≠ (⟨b, q, none⟩ : Addr).block by show w.heap.size ≠ b; omega) (.int .i64 (g p : Nat))
  have c1 : W1.cell? ⟨b, p, none⟩ = some (.int .i64 (g p : Nat)) := (hA1.cell p).trans (gC_at g p hp)
  have c2 : W1.cell? ⟨b, q, none⟩ = some (.int .i64 (g q : Nat)) := (hA1.cell q).trans (gC_at g q hq)
  have f1 := hA1.frozen p
  have f2 := hA1.frozen q
  have i0 : (0 : Int) ≤ (p : Int) := by omega
  have i1 : (p : Int) < 9 := by omega
  have i2 : (0 : Int) ≤ (q : Int) := by omega
  have i3 : (q : Int) < 9 := by omega
  have hbz : b < W1.heap.size := by omega
  clear hA hA1 hN1 hg1 hg2 hb1
  generalize g p = x at *
  generalize g q = y at *
  generalize swp g p q = g2 at *
  generalize nm p = np at *
  generalize nm q = nq at *
  go_enter Tryz.func69, Tryz.ntmps69
  go_wp2
  rw [← hW1e]
  clear hW1e
  go_region
  obtain ⟨W2, hW2⟩ : ∃ W2, W2 = ((W1.setCell ⟨b, p, none⟩ (.int .i64 (y : Nat))).setCell ⟨b, q, none⟩ (.int .i64 (x : Nat))).drew := ⟨_, rfl⟩
  have hA3 : At W2 b 98 (gC g2) := by rw [hW2]; exact hA2
  have hN3 : At W2 w.heap.size 47 #[.int .i64 0, .string ⟨#[]⟩, .string ⟨#[]⟩] := by rw [hW2]; exact hN2
  have hG3 : w.grownBy W2 (some b) := by rw [hW2]; exact ⟨hgg.os, hgg.tape, hgg.output, hgg.size, hgg.block⟩
  rw [← hW2]
  clear hW2 hA2 hN2 hgg c1 c2 f1 f2
  have z0 := hN3.frozen 0
  have z1 := hN3.frozen 1
  have z2 := hN3.frozen 2
  have hNl := hN3.lt
  have k0 : W2.cell? ⟨w.heap.size, 0, none⟩ = some (.int .i64 0) := hN3.cell 0
  have k1 : W2.cell? ⟨w.heap.size, 1, none⟩ = some (.string ⟨#[]⟩) := hN3.cell 1
  have k2 : W2.cell? ⟨w.heap.size, 2, none⟩ = some (.string ⟨#[]⟩) := hN3.cell 2
  have hA4 := ((hA3.far (show b ≠ (⟨w.heap.size, 0, none⟩ : Addr).block by show b ≠ w.heap.size; omega) (.int .i64 1)).far (show b ≠ (⟨w.heap.size, 1, none⟩ : Addr).block by show b ≠ w.heap.size; omega) (.string np)).far (show b ≠ (⟨w.heap.size, 2, none⟩ : Addr).block by show b ≠ w.heap.size; omega) (.string nq)
  have hG4 : w.grownBy (((W2.setCell ⟨w.heap.size, 0, none⟩ (.int .i64 1)).setCell ⟨w.heap.size, 1, none⟩ (.string np)).setCell ⟨w.heap.size, 2, none⟩ (.string nq)) (some b) :=
    ⟨hG3.os, hG3.tape, hG3.output, by simp [World.size_setCell]; exact hG3.size, fun k hk hne => by
      rw [heap_setCell_other _ _ _ _ (by show k ≠ w.heap.size; omega), heap_setCell_other _ _ _ _ (by show k ≠ w.heap.size; omega), heap_setCell_other _ _ _ _ (by show k ≠ w.heap.size; omega)]
      exact hG3.block k hk hne⟩
  have hN4 := ((hN3.set 0 (.int .i64 1)).set 1 (.string np)).set 2 (.string nq)
  have HN4 := Lib.hid hN4
  clear hN4
  have HA4 := Lib.hid hA4
  have HG4 := Lib.hid hG4
  clear hA4 hG4 hA3 hG3 hN3
  go_wp2_with (go_at_call 65; first | (refine (hn1 _).mono ?_; rintro e w' ⟨rfl, rfl⟩) | (refine (hn2 _).mono ?_; rintro e w' ⟨rfl, rfl⟩))
  refine bodyPost_ret (v := .agg #[.int .i64 1, .string np, .string nq]) (results_stp _ Tryz.results69 _ w.heap.size _ _ _ (by simpa using HN4.out) _ rfl) rfl ⟨rfl, HA4.out, HG4.out⟩
end Go.Proofs.YteadhnpmmpninaaGreat
namespace Go.PM
open Go.RowKit
section
variable {F : Fence} {m : Nat} {P : Program} {ops : Array Oper} {md : Region.Mode} {C D : World → Prop} {Q : Exit → Act → World → Prop}
/-- operations one behind the other, a fact kept till the first of the last ones -/
def wpListT (F : Fence) (m : Nat) (P : Program) (ops : Array Oper) (D : World → Prop) (Q : Exit → Act → World → Prop) (rest : List Oper) : List Oper → Act → World → Prop
  | [], a, w => D w ∧ wpListIn F m P ops Q rest a w
  | o :: l, a, w => D w ∧ Oper.wpIn F m P o a w (wpListT F m P ops D Q rest l) Q
theorem wpAnyT_of_list {rest : List Oper} (hne : rest ≠ []) : ∀ (l : List Oper) (k : Nat) (listed : Array Bool) (a : Act) (w : World), (∀ j, (l ++ rest)[j]? = ops[k + j]?) →
    Region.waitsFor md ops (k + l.length) 0 = true → (∀ o ∈ l, o.guard = none) → Region.seqB md ops (l.length + rest.length) k listed = true → wpListT F m P ops D Q rest l a w → wpAnyT F m P md ops D Q (l.length + rest.length) listed a w
  | [], k, listed, a, w, hl, hw0, _, hB, h => by
    obtain ⟨hD, hlist⟩ := h
    cases rest with
    | nil => exact absurd rfl hne
    | cons o r =>
      have hl' : ∀ j, (o :: r)[j]? = ops[k + j]? := fun j => by simpa using hl j
      have hB' : Region.seqB md ops (o :: r).length k listed = true := by simpa using hB
      have hany := wpAnyIn_of_seq' (md := md) (Q' := Q) (o :: r) k listed a w hl' hB' hlist
      simp only [List.length_cons, Region.seqB, Bool.and_eq_true, decide_eq_true_eq] at hB'
      simp only [List.length_nil, Nat.zero_add, List.length_cons] at hany ⊢
      refine ⟨hD, hany.1, fun j hj => ?_⟩
      rw [hB'.1] at hj
      have hjn : j = k := by simpa using hj
      subst hjn
      have hw0' : Region.waitsFor md ops j 0 = true := by simpa using hw0
      simp only [hw0', if_true]
      exact hany.2 _ (by rw [hB'.1]; simp)
  | o :: l, k, listed, a, w, hl, hw0, hg, hB, h => by
    obtain ⟨hD, hop⟩ := h
    have h0 : ops[k]? = some o := by simpa using (hl 0).symm
    have e : (o :: l).length + rest.length = (l.length + rest.length) + 1 := by simp only [List.length_cons]; omega
    rw [e] at hB ⊢
    simp only [Region.seqB, Bool.and_eq_true, decide_eq_true_eq] at hB
    refine ⟨hD, fun h1 => (by rw [hB.1] at h1; cases h1), fun j hj => ?_⟩
    rw [hB.1] at hj
    have hjk : j = k := by simpa using hj
    subst hjk
    have hwn : Region.wanted o (yielded ops a.tmps) = true := by simp [Region.wanted, hg o (by simp)]
    have hw : wpOpIn F m P ops Q j (wpListT F m P ops D Q rest l) a w := by
      unfold wpOpIn
      simp only [h0]
      rw [if_pos hwn]; exact hop
    refine wpOpIn_mono (fun a' w' h' => ?_) hw
    have hT := wpAnyT_of_list hne l (j + 1) (listed.setIfInBounds j true) a' w' (fun i => by have := hl (i + 1); simpa [Nat.add_assoc, Nat.add_comm 1 i] using this) (by
      have : j + 1 + l.length = j + (o :: l).length := by simp only [List.length_cons]; omega
      rw [this]; exact hw0) (fun o' ho' => hg o' (by simp [ho'])) hB.2 h'
    split
    · exact wpAnyT_any _ _ _ _ hT
    · exact hT
/-- what is asked of the region's form -/
def lateB2 (ops : Array Oper) (n k : Nat) : Bool :=
  Region.noSelect ops && decide (0 < n) && decide (n + k < ops.size) && sinkB1 .any ops n && Region.chainB .any ops n && Region.lexHead .any ops (ops.size - n) (n - 1) 1 ((Array.replicate ops.size false).setIfInBounds 0 true) &&
    Region.waitsFor .any ops (n + k) 0 && Region.free .any ops (Array.replicate ops.size false) 0 && (Region.ready .any ops (Array.replicate ops.size false)).contains 0
/-- A region that draws its order, whose first operation reads what only the last ones turn: it first, n - 1 quiet ones, k that turn something else, the others one behind the other. -/
theorem any_late2 {a : Act} {w : World} {l : List Oper} (n k : Nat) (hro : F.round = none) (hB : lateB2 l.toArray n k = true) (o0 : Oper) (h0 : l[0]? = some o0) (hgn : ∀ o ∈ (l.drop n).take k, o.guard = none) (v0 : Value)
    (hQ : ∀ c a w, Q (.panic c) (a.put o0.dst v0) w → Q (.panic c) a w) (hy : YieldsD P l.toArray D o0 v0 a) (hCD : ∀ w, C w → D w) (hC : C w)
    (h : wpQuietIn F m P l.toArray C (fun a' => ∀ w', C w' → wpListT F m P l.toArray D Q (l.drop (n + k)) ((l.drop n).take k) a' w') ((l.drop 1).take (n - 1)) (a.put o0.dst v0)) :
    wpAnyIn F m P .any l.toArray Q l.toArray.size (Array.replicate l.toArray.size false) a w := by
  simp only [lateB2, Bool.and_eq_true, decide_eq_true_eq] at hB
  obtain ⟨⟨⟨⟨⟨⟨⟨⟨hsel, hn0⟩, hn⟩, hs⟩, hc⟩, hlex⟩, hw0⟩, hf0⟩, hr0⟩ := hB
  have hn' : n + k < l.length := by simpa using hn
  have hr0' : 0 ∈ Region.ready .any l.toArray (Array.replicate l.toArray.size false) := by simpa using hr0
  have h0a : l.toArray[0]? = some o0 := by simpa using h0
  have inv0 : HeadInv .any l.toArray n (Array.replicate l.toArray.size false) :=
    ⟨by simp, fun j oj _ hl => (by rw [getD_replicate_false] at hl; cases hl), fun t _ ht => getD_in (by simpa using ht) (getD_replicate_false _ _)⟩
  have inv1 := inv0.set hr0' hn0
  have htl : ((l.drop 1).take (n - 1)).length = n - 1 := by simp; omega
  have H := wpAnyLQ1_lex (md := .any) (g := l.toArray.size - n) hsel hs hc (by omega) ((l.drop 1).take (n - 1)) 1 _ (a.put o0.dst v0) (by decide) (fun j hj => by
    have hj' : j < n - 1 := by rw [htl] at hj; exact hj
    simp [hj', Nat.add_comm]) (by rw [htl]; omega) inv1 (by rw [htl]; exact hlex) h
  have hlm : ((l.drop n).take k).length = k := by simp; omega
  have hlr : (l.drop (n + k)).length = l.length - (n + k) := by simp
  have hsz : ((l.drop n).take k).length + (l.drop (n + k)).length = l.toArray.size - n := by rw [hlm, hlr]; simp; omega
  have happ : (l.drop n).take k ++ l.drop (n + k) = l.drop n := by rw [← List.drop_drop]; exact List.take_append_drop _ _
  have T := wpAnyT_of_headQ (D := D) (Q := Q) (g := l.toArray.size - n) hro hCD (fun listed a' w' hw' hL => by
    obtain ⟨hseq, hLq⟩ := hL
    rw [← hsz] at hseq ⊢
    exact wpAnyT_of_list (fun e => by rw [e] at hlr; simp at hlr; omega) _ n listed a' w' (fun j => by rw [happ]; simp [List.getElem?_drop]) (by rw [hlm]; exact hw0) hgn hseq (hLq w' hw')) _ _ _ _ hC H
  rw [htl, show n - 1 + (l.toArray.size - n) = l.toArray.size - 1 by omega] at T
  have := late_first (md := .any) hro h0a (Region.noSelect_spec hsel) hQ (l.toArray.size - 1) _ a w (Region.free_spec h0a hf0) hr0' hy T
  rw [show l.toArray.size - 1 + 1 = l.toArray.size by omega] at this
  exact this
theorem region_late2_inRound {id r : Nat} {a : Act} {w : World} {l : List Oper} (n k : Nat) (hro : F.round = none) (hd : noDefer l.toArray = true) (hm : P.follows .mixedOrders = true) (hB : lateB2 l.toArray n k = true) (o0 : Oper) (h0 : l[0]? = some o0) (hgn : ∀ o ∈ (l.drop n).take k, o.guard = none) (v0 : Value)
    (hQ : ∀ c a w, Q (.panic c) (a.put o0.dst v0) w → Q (.panic c) a w) (hy : YieldsD P l.toArray D o0 v0 a) (hCD : ∀ w, C w → D w) (hC : C w.drew)
    (h : wpQuietIn F m P l.toArray C (fun a' => ∀ w', C w' → wpListT F m P l.toArray D Q (l.drop (n + k)) ((l.drop n).take k) a' w') ((l.drop 1).take (n - 1)) (a.put o0.dst v0)) :
    (Code.region id l.toArray true).wpIn (F.inRound r) m P Q a w :=
  region_inRound hro hd hm (any_late2 n k hro hB o0 h0 hgn v0 hQ hy hCD hC h)
theorem region_late2 {id : Nat} {a : Act} {w : World} {l : List Oper} (n k : Nat) (hro : F.round = none) (hm : P.follows .mixedOrders = true) (hB : lateB2 l.toArray n k = true) (o0 : Oper) (h0 : l[0]? = some o0) (hgn : ∀ o ∈ (l.drop n).take k, o.guard = none) (v0 : Value)
    (hQ : ∀ c a w, Q (.panic c) (a.put o0.dst v0) w → Q (.panic c) a w) (hy : YieldsD P l.toArray D o0 v0 a) (hCD : ∀ w, C w → D w) (hC : C w.drew)
    (h : wpQuietIn F m P l.toArray C (fun a' => ∀ w', C w' → wpListT F m P l.toArray D Q (l.drop (n + k)) ((l.drop n).take k) a' w') ((l.drop 1).take (n - 1)) (a.put o0.dst v0)) :
    (Code.region id l.toArray true).wpIn F m P Q a w :=
  wpIn_region_any hm (any_late2 n k hro hB o0 h0 hgn v0 hQ hy hCD hC h)
end
end Go.PM
namespace Go.PS
open Go.PM Go.RowKit
/-- swaps as steps -/
def swS (p : Nat × Nat) : St := (1, nm p.1, nm p.2)
def swL (ps : List (Nat × Nat)) : List St := ps.map swS
theorem swL_app (ps qs : List (Nat × Nat)) : swL (ps ++ qs) = swL ps ++ swL qs := by simp [swL]
theorem swL_len (ps : List (Nat × Nat)) : (swL ps).length = ps.length := by simp [swL]
theorem scells_one (xs : List St) : ∀ u ∈ scells xs, u.oneCell' = true := by
  intro u hu
  unfold scells at hu
  obtain ⟨x, _, hx⟩ := List.mem_flatMap.1 hu
  simp at hx
  rcases hx with rfl | rfl | rfl <;> rfl
theorem op_k {F : Fence} {n : Nat} {P : Program} {o : Oper} {a : Act} {w : World} {X : Act → World → Prop} {Q : Exit → Act → World → Prop} (h : ∀ K : Act → World → Prop, (∀ a w, X a w → K a w) → Oper.wpIn F n P o a w K Q) : Oper.wpIn F n P o a w X Q := h X fun _ _ h => h
/-- the cells of a row of one's own, at its address -/
theorem own_cellsAt {w : World} {base : Nat} {e : TypeId} {n b cap : Nat} {xs : List Value} {size : Nat} (h : w.ownsRow base e size (.slice (some ⟨b, 0, none⟩) n cap) n xs) : ∀ j u, xs[j]? = some u → w.cell? ((⟨b, 0, none⟩ : Addr).add j) = some u := by
  intro j u hu
  have hj : j < n * size := by have := (List.getElem?_eq_some_iff.1 hu).1; rw [h.1] at this; exact this
  rw [show (⟨b, 0, none⟩ : Addr).add j = ⟨b, j, none⟩ by unfold Addr.add; split <;> simp_all]
  rw [h.cellAt j hj]; exact hu
end Go.PS
namespace Go.Proofs.YteadhnpmmpninaaGreat
open Go.RowKit Go.PM Go.PS
theorem infoSt3 : (Tryz.prog.info? 47).map (fun i => (i.zero, i.size, i.bytes)) = some (some (.agg #[.int .i64 0, .string ⟨#[]⟩, .string ⟨#[]⟩]), 3, 40) := by kernel_rfl
theorem sliceIn_st {F : Fence} {n : Nat} {o : Oper} {a : Act} {w : World} {K : Act → World → Prop} {Q : Exit → Act → World → Prop} (x : Operand) (ho : o.op = .buildSlice 25 1 #[(0, x)]) (k : Int) (s t : ByteArray) (hx : a.eval x = .agg #[.int .i64 k, .string s, .string t])
    (h : K (a.put o.dst (.slice (some ⟨w.heap.size, 0, none⟩) 1 1)) (w.alloc (.cells #[.int .i64 k, .string s, .string t] 47))) : o.wpIn F n Tryz.prog a w K Q := by
  obtain ⟨i0, hi0, hz0, hz1, hz2⟩ := info_parts infoSt3
  refine sliceIn 25 47 1 #[(0, x)] ho #[.int .i64 k, .string s, .string t] i0 _ Tryz.underlying25 hi0 hz0 (by rw [hz1]; decide) (by rw [hz1]; decide) ?_ h
  have hr : Array.range 3 = #[0, 1, 2] := by decide
  simp [hx, hz1, Instr.fill, Value.cells, hr]
theorem listIn_st {F : Fence} {k : Nat} {ops : Array Oper} {rest : List Oper} {o : Oper} {a : Act} {Q : Exit → Act → World → Prop} {w : World} (hgd : o.guard = none) (s x : Operand)
    (ho : o.op = .call { callee := .builtin .append, args := #[s, x], argTypes := #[25, 25] })
    (base : Nat) (v : Value) (ys : List St) (m : St) (ad : Addr) (c : Nat) (hs : a.eval s = v) (hx : a.eval x = .slice (some ad) 1 c)
    (hown : w.ownsRow base 47 3 v ys.length (scells ys)) (hnew : ∀ j u, [Value.int .i64 m.1, Value.string m.2.1, Value.string m.2.2][j]? = some u → w.cell? (ad.add j) = some u)
    (hlen : ys.length ≤ 1048576) (hbase : base ≤ w.heap.size)
    (h : ∀ v' w', w'.ownsRow base 47 3 v' (ys ++ [m]).length (scells (ys ++ [m])) → w.grownBy w' v.ownBlock → wpListIn F k Tryz.prog ops Q rest (a.put o.dst v') w') : wpListIn F k Tryz.prog ops Q (o :: rest) a w := by
  obtain ⟨i0, hi0, hz0, hz1, hz2⟩ := info_parts infoSt3
  refine wpListIn_append_own w hgd s x _ ho base 47 i0 _ 3 40 Tryz.underlying25 hi0 hz0 hz1 hz2 rfl (by omega) v ys.length (scells ys) hs hown ad 1 c [Value.int .i64 m.1, Value.string m.2.1, Value.string m.2.2] hx rfl hnew
    (by intro u hu; simp at hu; rcases hu with rfl | rfl | rfl <;> rfl) (by simp only [maxLen]; omega) (by omega) hbase ?_
  intro v' w' h2 h3 _
  refine h v' w' ?_ h3
  have hcs : scells ys ++ [Value.int .i64 m.1, Value.string m.2.1, Value.string m.2.2] = scells (ys ++ [m]) := by rw [scells_append]; simp [scells]
  rw [← hcs, List.length_append]
  simpa using h2
/-- append of a whole row of steps -/
theorem run_app_rows (w : World) (ty : TypeId) (base base2 : Nat) (v v2 : Value) (ys zs : List St) (hown : w.ownsRow base 47 3 v ys.length (scells ys)) (hown2 : w.ownsRow base2 47 3 v2 zs.length (scells zs))
    (hlen : ys.length + zs.length ≤ 1048576) (hbase : base ≤ w.heap.size) :
    ∃ v' w', (Builtin.append_ #[25, 25] ty #[v, v2]).run Tryz.prog w = .ok v' w' ∧ w'.ownsRow base 47 3 v' (ys ++ zs).length (scells (ys ++ zs)) ∧ w.grownBy w' v.ownBlock := by
  obtain ⟨i0, hi0, hz0, hz1, hz2⟩ := info_parts infoSt3
  have hc2 := hown2.2
  rcases hc2 with ⟨rfl, hn⟩ | ⟨g, cap, cur, rfl, _, _, _⟩
  · have hz : zs = [] := List.length_eq_zero_iff.1 hn
    subst hz
    refine ⟨v, w, run_append_owned_none w base 25 ty 47 i0 3 Tryz.underlying25 hi0 v ys.length (scells ys) hown, by simpa using hown, grown_refl _ _⟩
  · obtain ⟨v', w', hr, r1, r2, _⟩ := run_append_own (P := Tryz.prog) w base 25 ty 47 i0 _ 3 40 Tryz.underlying25 hi0 hz0 hz1 hz2 rfl (by omega) v ys.length (scells ys) hown ⟨g, 0, none⟩ zs.length cap (scells zs) (scells_length zs) (own_cellsAt hown2) (scells_one zs) (by simp only [maxLen]; omega) (by omega) hbase
    refine ⟨v', w', hr, ?_, r2⟩
    rw [List.length_append, scells_append]; exact r1
theorem listIn_rows {F : Fence} {k : Nat} {ops : Array Oper} {rest : List Oper} {o : Oper} {a : Act} {Q : Exit → Act → World → Prop} {w : World} (hgd : o.guard = none) (s x : Operand)
    (ho : o.op = .call { callee := .builtin .append, args := #[s, x], argTypes := #[25, 25] })
    (base base2 : Nat) (v v2 : Value) (ys zs : List St) (hs : a.eval s = v) (hx : a.eval x = v2)
    (hown : w.ownsRow base 47 3 v ys.length (scells ys)) (hown2 : w.ownsRow base2 47 3 v2 zs.length (scells zs))
    (hlen : ys.length + zs.length ≤ 1048576) (hbase : base ≤ w.heap.size)
    (h : ∀ v' w', w'.ownsRow base 47 3 v' (ys ++ zs).length (scells (ys ++ zs)) → w.grownBy w' v.ownBlock → wpListIn F k Tryz.prog ops Q rest (a.put o.dst v') w') : wpListIn F k Tryz.prog ops Q (o :: rest) a w := by
  refine wpListIn_plain hgd fun K hK' => ?_
  obtain ⟨v', w', hrun, r1, r2⟩ := run_app_rows w o.type base base2 v v2 ys zs hown hown2 hlen hbase
  unfold Oper.wpIn
  refine ⟨?_, ?_⟩
  · simp [Oper.about, ho, resolve, Target.leads, Sem.run_pure]
  · rw [Oper.semAt_plain F _ _ (by rw [ho]; intro c hc'; cases hc')]
    simp [execOp, ho, resolve, invoke, builtin, hs, hx, hrun, Result.andThen]
    exact hK' _ _ (h v' w' r1 r2)
end Go.Proofs.YteadhnpmmpninaaGreat
namespace Go.Proofs.YteadhnpmmpninaaGreat
open Go.RowKit Go.PM
attribute [local go_sem] Oper.semAt_some

set_option maxRecDepth 100000 in
set_option maxHeartbeats 1000000 in
theorem below_iterN (N : Nat) (hN : N ≤ 1000) (F : Fence) (n : Nat) (hF : F.fn 64) (hro : F.round = none) (hn : 1 ≤ n) :
    Iter 0 F n Tryz.prog 64 (fun y => #[.int .i64 N] ++ #[y] ++ #[]) (fun p : Nat => #[.int .i64 p]) (List.range N) := by
  intro l J Jx W hJ hJx hY h0
  refine callsIn_of_wp Tryz.func64 rfl hF ?_ hro
  simp only [Tryz.ntmps64, List.size_toArray, List.length_cons, List.length_nil, Nat.reduceAdd, Nat.reduceSub, Array.replicate_succ, Array.replicate_zero, List.push_toArray, List.append_toArray, List.nil_append, List.cons_append]
  gi_wp2
  gi_loopw [4, 6] (fun _ i wr => ∃ k : Nat, k ≤ N ∧ i = .int .i64 k ∧ J (List.range k) wr ∧ W.heap.size ≤ wr.heap.size) (fun _ i _ => N - (intOf i).toNat)
  case atStart => exact ⟨0, by omega, rfl, h0, Nat.le_refl _⟩
  case round =>
    obtain ⟨k, hk, rfl, hj, hsz⟩ := hrel
    by_cases hlt : k < N
    · obtain ⟨fn, tmps, assign, body, hy, hR⟩ := hY (List.range k) k wr hj hsz (range_step k N hlt)
      gi_wp2
      refine hR.mono ?_
      rintro e W3 (⟨rfl, hJ3, hK3, _⟩ | ⟨rfl, hJx3, _⟩)
      · have hsz3 := Nat.le_trans hsz hK3.size
        gi_wp2
        go_roundw
        case rel => exact ⟨k + 1, by omega, by go_num, by rw [List.range_succ]; exact hJ3, hsz3⟩
        case measure => simp [intOf]; omega
      · gi_wp2
        refine bodyPost_ret (results_none rfl _ _ _) rfl ?_
        exact ⟨⟨_, rfl⟩, .inr ⟨_, range_step k N hlt, hJx3⟩⟩
    · have hk' : k = N := by omega
      have hj' := hj
      rw [hk'] at hj'
      clear hk'
      gi_wp2
      go_end0
      exact ⟨⟨_, rfl⟩, .inl hj'⟩
end Go.Proofs.YteadhnpmmpninaaGreat
namespace Go.PS
open Go.PM Go.RowKit
/-- what the swapping holds: goals, swaps, and its own blocks -/
def SwW (t1 t2 t3 t4 e : TypeId) (fv : Value) (w : World) (B b : Nat) (A : World) (ps : List (Nat × Nat)) (g : Nat → Nat) (o : Value) : Prop :=
  At A w.heap.size t1 #[.pointer (some ⟨b, 0, none⟩)] ∧ At A (w.heap.size + 1) t2 #[o] ∧ At A (w.heap.size + 1 + 1) t3 #[fv] ∧ A.ownsRow B e 3 o (swL ps).length (scells (swL ps)) ∧ At A b t4 (gC g) ∧ w.grownBy A (some b)
theorem SwW.turn {t1 t2 t3 t4 e : TypeId} {fv : Value} {w : World} {B b : Nat} {A A' : World} {ps : List (Nat × Nat)} {g : Nat → Nat} {o : Value} {row : Option Nat} (h : SwW t1 t2 t3 t4 e fv w B b A ps g o) (hg : A.grownBy A' row) (hr : ∀ r, row = some r → w.heap.size ≤ r ∧ ∃ ob : Obj, A.heap[r]? = some ob ∧ ob.isCells = false) : SwW t1 t2 t3 t4 e fv w B b A' ps g o := by
  obtain ⟨h1, h2, h3, h4, h5, h6⟩ := h
  refine ⟨at_turn h1 hg (fun r e => (hr r e).2), at_turn h2 hg (fun r e => (hr r e).2), at_turn h3 hg (fun r e => (hr r e).2), row_turn h4 hg (fun r e => (hr r e).2), at_turn h5 hg (fun r e => (hr r e).2), ?_⟩
  refine ⟨hg.os.trans h6.os, hg.tape.trans h6.tape, hg.output.trans h6.output, Nat.le_trans h6.size hg.size, fun i hi hne => ?_⟩
  rw [hg.block i (by have := h6.size; omega) (fun e => by have := (hr i e.symm).1; omega)]
  exact h6.block i hi hne
theorem at_cells {w : World} {b : Nat} {t : TypeId} {cs : Array Value} (h : At w b t cs) : ∀ (j : Nat) (ob : Obj), some b = some j → w.heap[j]? = some ob → ob.isCells = true := by
  intro j ob e hh
  cases e
  unfold At at h
  rw [h] at hh
  cases hh; rfl
theorem own_cells {w : World} {base : Nat} {e : TypeId} {size n : Nat} {v : Value} {cs : List Value} (h : w.ownsRow base e size v n cs) : ∀ (j : Nat) (ob : Obj), v.ownBlock = some j → w.heap[j]? = some ob → ob.isCells = true := by
  intro j ob e1 hh
  rcases h.2 with ⟨rfl, _⟩ | ⟨g, cap, cur, rfl, _, hg, _⟩
  · cases e1
  · cases e1
    rw [hg] at hh
    cases hh; rfl
theorem SwW.step {t1 t2 t3 t4 e : TypeId} (he1 : e ≠ t1) (he2 : e ≠ t2) (he3 : e ≠ t3) (he4 : e ≠ t4) {fv : Value} {w : World} {B b : Nat} {A A3 W5 : World} {ps qs : List (Nat × Nat)} {g g2 : Nat → Nat} {o o' : Value} {cs : Array Value}
    (h : SwW t1 t2 t3 t4 e fv w B b A ps g o) (hb : b < w.heap.size) (hB : w.heap.size + 3 ≤ B) (hA3 : At A3 b t4 (gC g2)) (hg3 : A.drew.grownBy A3 (some b))
    (hown5 : W5.ownsRow B e 3 o' (swL (ps ++ qs)).length (scells (swL (ps ++ qs)))) (hgrow5 : (A3.alloc (.cells cs e)).grownBy W5 o.ownBlock) :
    At W5 (w.heap.size + 1) t2 #[o] ∧ SwW t1 t2 t3 t4 e fv w B b (W5.setCell ⟨w.heap.size + 1, 0, none⟩ o') (ps ++ qs) g2 o' ∧ KeepsOthers A (W5.setCell ⟨w.heap.size + 1, 0, none⟩ o') := by
  obtain ⟨h1, h2, h3, h4, h5, h6⟩ := h
  have hsz := h6.size
  have g1 : At A.drew w.heap.size t1 #[.pointer (some ⟨b, 0, none⟩)] := h1
  have g2' : At A.drew (w.heap.size + 1) t2 #[o] := h2
  have g3 : At A.drew (w.heap.size + 1 + 1) t3 #[fv] := h3
  have g4 : A.drew.ownsRow B e 3 o (swL ps).length (scells (swL ps)) := h4
  have k1 := (at_grown' g1 hg3 (fun e => by cases e; omega)).alloc (.cells cs e)
  have k2 := (at_grown' g2' hg3 (fun e => by cases e; omega)).alloc (.cells cs e)
  have k3 := (at_grown' g3 hg3 (fun e => by cases e; omega)).alloc (.cells cs e)
  have hbe := own_block_ge h4
  have k4 := own_keep (own_grown g4 hg3 (.inl fun e => by have := hbe b e; omega)) ((Below.refl A3.heap.size A3).alloc (Nat.le_refl _) (.cells cs e))
  have k5 := hA3.alloc (.cells cs e)
  have m1 := at_grown' k1 hgrow5 (box_apart k4 k1 he1)
  have m2 := at_grown' k2 hgrow5 (box_apart k4 k2 he2)
  have m3 := at_grown' k3 hgrow5 (box_apart k4 k3 he3)
  have m5 := at_grown' k5 hgrow5 (box_apart k4 k5 he4)
  have hs5 := grownBy_setCell' W5 (w.heap.size + 1) o'
  have hne5 := box_apart hown5 m2 he2
  refine ⟨m2, ⟨at_grown' m1 hs5 (by simp), m2.set 0 _, at_grown' m3 hs5 (by simp), hown5.kept hs5 (.inr hne5.symm), at_grown' m5 hs5 (fun e => by cases e; omega), ?_⟩, ?_⟩
  · have hz3 := hg3.size
    have hz5 := hgrow5.size
    simp only [World.size_alloc] at hz5
    have hzd : A.drew.heap.size = A.heap.size := rfl
    refine ⟨hs5.os.trans (hgrow5.os.trans (hg3.os.trans h6.os)), hs5.tape.trans (hgrow5.tape.trans (hg3.tape.trans h6.tape)), hs5.output.trans (hgrow5.output.trans (hg3.output.trans h6.output)), by have := hs5.size; omega, fun i hi hne => ?_⟩
    rw [hs5.block i (by omega) (fun e => by cases e; omega), hgrow5.block i (by simp only [World.size_alloc]; omega) (fun e => by have := hbe i e.symm; omega)]
    rw [Below.heap_alloc A3 _ _ (by omega), hg3.block i (by omega) hne]
    exact h6.block i hi hne
  · have q1 : KeepsOthers A A3 := (KeepsOthers.drew A).trans (KeepsOthers.of_grownBy hg3 (at_cells (w := A.drew) h5))
    exact ((q1.trans (KeepsOthers.alloc A3 _)).trans (KeepsOthers.of_grownBy hgrow5 (own_cells k4))).trans (KeepsOthers.setCell _ _ _)
/-- one round of the walk along a ring -/
def RsR (t1 t2 t3 t4 e : TypeId) (fv : Value) (w : World) (B b : Nat) (W : World) (tot : List (Nat × Nat)) (ge : Nat → Nat) (k : Nat) (pv nv : Value) (A : World) : Prop :=
  ∃ (q : Nat) (ps : List (Nat × Nat)) (g : Nat → Nat) (o : Value), pv = .int .i64 q ∧ nv = .int .i64 (hold g q : Nat) ∧ q < 9 ∧ Prm g ∧ muG g ≤ k ∧ ps ++ (rsW k g q).1 = tot ∧ (rsW k g q).2 = ge ∧ SwW t1 t2 t3 t4 e fv w B b A ps g o ∧ KeepsOthers W A
end Go.PS
namespace Go.Proofs.YteadhnpmmpninaaGreat
open Go.RowKit Go.PM Go.PS Go.Lib
attribute [local go_sem] Oper.semAt_some

set_option maxRecDepth 100000 in
set_option maxHeartbeats 4000000 in
theorem ringSwaps_c (g : Nat → Nat) (hg : Prm g) (b : Nat) (w : World) (hA : At w b 98 (gC g)) :
    Calls Tryz.prog 31 #[.pointer (some ⟨b, 0, none⟩)] w fun e w' => ∃ v', e = .returned v' ∧ w'.ownsRow w.heap.size 47 3 v' (swL (rsA 9 g).1).length (scells (swL (rsA 9 g).1)) ∧ w.grownBy w' (some b) := by
  have hbl := hA.lt
  have HP := Lib.hid (fun k hk => rsA_prm hg k hk)
  have HLE := Lib.hid (fun k hk => rsA_le hg k hk)
  refine (callsIn_wide (n := 5)).1 ?_
  refine callsIn_of_wp_marks Tryz.func31 rfl trivial ?_ rfl
  simp only [Tryz.ntmps31, List.size_toArray, List.length_cons, List.length_nil, Nat.reduceAdd, Nat.reduceSub, Array.replicate_succ, Array.replicate_zero, List.push_toArray, List.append_toArray, List.nil_append, List.cons_append]
  gi_wp2
  obtain ⟨W0, hW0⟩ : ∃ W0 : World, W0 = (((w.alloc (.cells #[.pointer (some ⟨b, 0, none⟩)] 62)).alloc (.cells #[.slice none 0 0] 25)).alloc (.cells #[.func (.func 69) #[.pointer (some ⟨b, 0, none⟩)] #[]] 99)) := ⟨_, rfl⟩
  have hS0 : W0.heap.size = w.heap.size + 3 := by rw [hW0]; simp only [World.size_alloc]
  have hB0 : Below w.heap.size w W0 := by rw [hW0]; (repeat' (first | (with_reducible exact Below.refl _ _) | (with_reducible assumption) | (with_reducible refine Below.alloc ?_ ?_ _) | (with_reducible refine Below.drew ?_) | (with_reducible refine Below.setCell ?_ ?_ _) | (with_reducible exact Nat.le_refl _) | omega | ((repeat (first | rewrite [World.size_alloc] | rewrite [World.size_setCell] | rewrite [World.size_drew])); omega) | (simp; omega) | (simp; done)))
  have hI0 : SwW 62 25 99 98 47 (.func (.func 69) #[.pointer (some ⟨b, 0, none⟩)] #[]) w (W0.heap.size + 2) b W0 (rsA 0 g).1 (rsA 0 g).2 (.slice none 0 0) := by
    rw [hW0]
    refine ⟨((At.new _ _ _).alloc _).alloc _, ?_, ?_, ⟨rfl, .inl ⟨rfl, rfl⟩⟩, ((hA.alloc _).alloc _).alloc _, ?_⟩
    · have := (At.new (w.alloc (.cells #[.pointer (some ⟨b, 0, none⟩)] 62)) 25 #[.slice none 0 0]).alloc (.cells #[.func (.func 69) #[.pointer (some ⟨b, 0, none⟩)] #[]] 99)
      rwa [World.size_alloc] at this
    · have := At.new ((w.alloc (.cells #[.pointer (some ⟨b, 0, none⟩)] 62)).alloc (.cells #[.slice none 0 0] 25)) 99 #[.func (.func 69) #[.pointer (some ⟨b, 0, none⟩)] #[]]
      rwa [World.size_alloc, World.size_alloc] at this
    · rw [← hW0]; exact grown_below hB0 _
  rw [← hW0]
  clear hW0
  refine range_law (F := Fence.wide) (gf := 64) (lf := #[.int .i64 9]) (lb := #[]) rfl (by decide) rfl trivial (fun args w => rfl) (encs := fun p : Nat => #[.int .i64 p]) (xs := List.range 9)
    (below_iter _ _ trivial rfl (by decide)) (fun _ => rfl)
    (fun pre W => ∃ o, SwW 62 25 99 98 47 (.func (.func 69) #[.pointer (some ⟨b, 0, none⟩)] #[]) w (W0.heap.size + 2) b W (rsA pre.length g).1 (rsA pre.length g).2 o)
    (fun _ _ _ => False) ?_ (fun _ => ownFrom_pure _ _) ?_ (fun p => { tmps := #[.pointer (some ⟨b, 0, none⟩), .pointer (some ⟨w.heap.size, 0, none⟩), .slice none 0 0, .pointer (some ⟨w.heap.size + 1, 0, none⟩), .pointer (some ⟨w.heap.size + 1 + 1, 0, none⟩), .int .i64 p, undef, undef, .pointer (some ⟨b, 0, none⟩), .func (.func 69) #[.pointer (some ⟨b, 0, none⟩)] #[], .func (.func 64) #[.int .i64 9] #[], .int .i64 p, undef, undef, undef, undef, undef, undef, undef, undef, undef, undef, undef, undef, undef, undef, undef, undef, undef, undef, undef], defers := [] }) ?_ ?_ ?_ ?_
  · rintro s A A' row ⟨o, h⟩ hg hr
    exact ⟨o, h.turn hg (fun r e => ⟨by have := (hr r e).1; omega, (hr r e).2⟩)⟩
  · exact ⟨_, hI0⟩
  · intro l p W Kc hK
    gi_wp2
    exact hK
  · clear hI0
    rintro l pre p W ⟨o, hI⟩ hp hsz
    obtain ⟨hl, hp9⟩ := pre_len pre p hp
    rw [hl] at hI
    have HL : Hid ((pre ++ [p]).length = p + 1) := by show _ = _; simp [hl]
    have hP := HP.out p (by omega)
    have HT1 : Hid ((rsA p g).1 ++ (rsW 9 (rsA p g).2 p).1 = (rsA (p + 1) g).1) := rfl
    have HT2 : Hid ((rsW 9 (rsA p g).2 p).2 = (rsA (p + 1) g).2) := rfl
    have HLN := Lib.hid (HLE.out (p + 1) (by omega))
    obtain ⟨tot, htot0⟩ : ∃ tot, tot = (rsA (p + 1) g).1 := ⟨_, rfl⟩
    obtain ⟨ge, hge0⟩ : ∃ ge, ge = (rsA (p + 1) g).2 := ⟨_, rfl⟩
    have HA1 : Hid ((rsA (p + 1) g).1 = tot) := htot0.symm
    have HA2 : Hid ((rsA (p + 1) g).2 = ge) := hge0.symm
    rw [← htot0] at HT1 HLN
    rw [← hge0] at HT2
    clear htot0 hge0
    generalize (rsA p g).1 = ps0 at *
    generalize (rsA p g).2 = g0 at *
    have hII := hI
    obtain ⟨h1, h2, h3, h4, h5, h6⟩ := hI
    have c1 : W.cell? ⟨w.heap.size, 0, none⟩ = some (.pointer (some ⟨b, 0, none⟩)) := h1.cell 0
    have hbl1 := h1.lt
    have HH := Lib.hid (holder_c g0 hP b p hp9 W h5)
    clear h1 h2 h3 h4 h5 h6
    gi_wp2_with fail
    refine ⟨trivial, ?_⟩
    refine CallsIn.inRound l (callsIn_wide.2 (HH.out.mono ?_))
    rintro e wq ⟨rfl, rfl⟩
    gi_wp2

    gi_loopw [6, 7] (fun pv nv wr => ∃ k, RsR 62 25 99 98 47 (.func (.func 69) #[.pointer (some ⟨b, 0, none⟩)] #[]) w (W0.heap.size + 2) b W tot ge k pv nv wr)
      (fun pv nv wr => PW.least (fun k => RsR 62 25 99 98 47 (.func (.func 69) #[.pointer (some ⟨b, 0, none⟩)] #[]) w (W0.heap.size + 2) b W tot ge k pv nv wr))
    case atStart => exact ⟨9, p, ps0, g0, o, rfl, rfl, hp9, hP, muG_le g0, HT1.out, HT2.out, hII, KeepsOthers.refl W⟩
    case round =>
      obtain ⟨hru, _⟩ := PW.least_spec hrel
      generalize hkk : PW.least (fun k => RsR 62 25 99 98 47 (.func (.func 69) #[.pointer (some ⟨b, 0, none⟩)] #[]) w (W0.heap.size + 2) b W tot ge k u6 u7 wr) = kk at *
      have HKK := Lib.hid hkk
      clear hrel hkk
      obtain ⟨q, ps, g1, o1, rfl, rfl, hq9, hP1, hmu, htot, hge, hS, hKO⟩ := hru
      have hh := hP1.hold hq9
      by_cases hst : hold g1 q = q
      · rw [rsW_stop _ hst] at htot hge
        have htot' : ps = tot := by simpa using htot
        have hge' : g1 = ge := hge
        have FIN : Hid (∃ o, SwW 62 25 99 98 47 (.func (.func 69) #[.pointer (some ⟨b, 0, none⟩)] #[]) w (W0.heap.size + 2) b wr tot ge o) := ⟨o1, by rw [← htot', ← hge']; exact hS⟩
        have t1 : (((hold g1 q : Nat) : Int) != ((q : Nat) : Int)) = false := by rw [hst]; simp
        clear htot hge htot' hge' hS hst
        generalize hold g1 q = n1 at *
        gi_wp2
        refine ⟨hKO.from _, KeepsIn.zero hKO.size, ?_⟩
        have FIN2 := FIN.out
        rw [← HA1.out, ← HA2.out, ← HL.out] at FIN2
        exact FIN2
      · obtain ⟨k, rfl⟩ : ∃ k', kk = k' + 1 := ⟨kk - 1, by have := muG_step hP1 hq9 hst; omega⟩
        rw [rsW_go _ hst] at htot hge
        have hmu2 := muG_step hP1 hq9 hst
        have hpl : ps.length ≤ 9 := by
          have h1 := congrArg List.length htot
          rw [List.length_append] at h1
          have := HLN.out; omega
        have hP2 := hP1.swp hq9 hh.1
        have hSS := hS
        obtain ⟨h1, h2, h3, h4, h5, h6⟩ := hS
        have t1 : (((hold g1 q : Nat) : Int) != ((q : Nat) : Int)) = true := by rw [bne_iff_ne]; omega
        have hst' : q ≠ hold g1 q := fun e => hst e.symm
        have HSWAP := Lib.hid (swap_c g1 b q (hold g1 q) hq9 hh.1 hst' wr.drew h5)
        have c2 : wr.drew.cell? ⟨w.heap.size + 1, 0, none⟩ = some o1 := h2.cell 0
        have c3 : wr.drew.cell? ⟨w.heap.size + 1 + 1, 0, none⟩ = some (.func (.func 69) #[.pointer (some ⟨b, 0, none⟩)] #[]) := h3.cell 0
        have hz6 := h6.size
        have l2 := h2.lt
        have l3 := h3.lt
        have HNX : Hid (∀ A o, SwW 62 25 99 98 47 (.func (.func 69) #[.pointer (some ⟨b, 0, none⟩)] #[]) w (W0.heap.size + 2) b A (ps ++ [(q, hold g1 q)]) (swp g1 q (hold g1 q)) o → KeepsOthers W A → RsR 62 25 99 98 47 (.func (.func 69) #[.pointer (some ⟨b, 0, none⟩)] #[]) w (W0.heap.size + 2) b W tot ge k (.int .i64 (hold g1 q : Nat)) (.int .i64 (hold (swp g1 q (hold g1 q)) (hold g1 q) : Nat)) A) := fun A o hA hK =>
          ⟨hold g1 q, _, _, o, rfl, rfl, hh.1, hP2, by omega, by rw [← htot]; simp, hge, hA, hK⟩
        have hn9 := hh.1
        have HP2 := Lib.hid hP2
        clear htot hge hst hst' h1 h2 h3 h5 hh hP1 hP2 hmu2 hmu
        generalize swp g1 q (hold g1 q) = g2 at *
        generalize hold g1 q = n1 at *
        gi_wp2
        refine region_late2_inRound (F := Fence.wide) (C := fun w' => w' = wr.drew) (D := fun w' => w'.cell? ⟨w.heap.size + 1, 0, none⟩ = some o1) 4 2 rfl (by kernel_rfl) (by kernel_rfl) (by kernel_rfl) _ (by rfl) (by simp) o1 (fun _ _ _ h => h) (yieldsD_load (by rfl) _ _ (by rfl) _ Tryz.underlying25 _ (by rfl) o1) (fun w' hw => by subst hw; exact c2) rfl ?_
        simp only [List.take_succ_cons, List.take_zero, List.drop_succ_cons, List.drop_zero, Nat.reduceSub, Nat.reduceAdd]
        simp only [Act.put, List.setIfInBounds_toArray, List.set_cons_succ, List.set_cons_zero]
        gi_big_quiet_step (fail)
        gi_big_quiet_step (fail)
        gi_big_quiet_step (fail)
        refine wpQuietIn_nil ?_
        intro w' hw'
        subst hw'
        refine ⟨c2, op_k (fun K hK => ?_)⟩
        go_simp
        refine ⟨trivial, callsIn_wide.2 (HSWAP.out.mono ?_)⟩
        rintro e w3 ⟨rfl, hA3, hg3⟩
        refine hK _ _ ?_
        clear hK K
        have d2 : w3.cell? ⟨w.heap.size + 1, 0, none⟩ = some o1 := hg3.cell c2 (by show some (w.heap.size + 1) ≠ some b; intro e; cases e; omega)
        have hz3 := hg3.size
        refine ⟨d2, ?_⟩
        refine sliceIn_st (.tmp 26) rfl 1 (nm q) (nm n1) (by rfl) ?_
        have hal : Below w3.heap.size w3 (w3.alloc (.cells #[.int .i64 1, .string (nm q), .string (nm n1)] 47)) := (Below.refl _ _).alloc (Nat.le_refl _) _
        have l2d : w.heap.size + 1 < w3.heap.size := by have : wr.drew.heap.size = wr.heap.size := rfl; omega
        refine ⟨(hal.cell (p := ⟨w.heap.size + 1, 0, none⟩) l2d).trans d2, ?_⟩
        have hbe := own_block_ge h4
        have h4d : wr.drew.ownsRow (W0.heap.size + 2) 47 3 o1 (swL ps).length (scells (swL ps)) := h4
        have h4a := own_keep (own_grown h4d hg3 (.inl fun e => by have := hbe b e; omega)) hal
        refine listIn_st rfl (.tmp 22) (.tmp 27) rfl (W0.heap.size + 2) o1 (swL ps) (1, nm q, nm n1) ⟨w3.heap.size, 0, none⟩ 1 (by rfl) (by rfl) h4a (three_new w3 _ _ _ _) (by rw [swL_len]; omega) (by have := hKO.size; have : wr.drew.heap.size = wr.heap.size := rfl; simp; omega) ?_
        intro o' W5 hown5 hgrow5
        have hown5' : W5.ownsRow (W0.heap.size + 2) 47 3 o' (swL (ps ++ [(q, n1)])).length (scells (swL (ps ++ [(q, n1)]))) := by rw [swL_app]; exact hown5
        obtain ⟨k2, hS5, hKO5⟩ := SwW.step (by decide) (by decide) (by decide) (by decide) hSS hbl (by omega) hA3 hg3 hown5' hgrow5
        have d3 := k2.cell 0
        have d4 := k2.frozen 0
        have l5 := k2.lt
        have hS5' := hS5
        obtain ⟨e1, e2, e3, e4, e5, e6⟩ := hS5'
        have e1' : At W5 w.heap.size 62 #[.pointer (some ⟨b, 0, none⟩)] := (heap_setCell_other W5 ⟨w.heap.size + 1, 0, none⟩ w.heap.size o' (by show w.heap.size ≠ w.heap.size + 1; omega)).symm.trans e1
        have f1 : W5.cell? ⟨w.heap.size, 0, none⟩ = some (.pointer (some ⟨b, 0, none⟩)) := e1'.cell 0
        have f1l := e1'.lt
        have hR := HNX.out _ _ hS5 (hKO.trans hKO5)
        have HHN := Lib.hid (holder_c g2 HP2.out b n1 hn9 _ e5)
        rw [show (swL ps ++ [((1, nm q, nm n1) : St)]).length = (swL ps).length + 1 by simp] at hown5
        obtain ⟨A5, cap5, rfl, _⟩ := Rd.of_own hown5
        clear e1' e1 e2 e3 e4 e5 e6 hS5 hKO5 hown5 hown5' hgrow5 h4d h4a hal d2 c2 c3 hA3 hg3 h4 h6 hSS HNX HSWAP hz3 k2
        gi_wp2_with fail
        refine ⟨trivial, ?_⟩
        refine CallsIn.inRound l (callsIn_wide.2 (HHN.out.mono ?_))
        rintro e wq ⟨rfl, rfl⟩
        gi_wp2
        go_roundw
        case rel => exact ⟨k, hR⟩
        case measure =>
          rw [HKK.out]
          have := (PW.least_spec (P := fun k => RsR 62 25 99 98 47 (.func (.func 69) #[.pointer (some ⟨b, 0, none⟩)] #[]) w (W0.heap.size + 2) b W tot ge k _ _ _) ⟨k, hR⟩).2 _ hR
          omega
  · intro D W hD hI hd
    obtain ⟨o, h1, h2, h3, h4, h5, h6⟩ := hI
    have c3 : W.cell? ⟨w.heap.size + 1, 0, none⟩ = some o := h2.cell 0
    have hDD : w.heap.size + 3 ≤ D := by omega
    clear h1 h2 h3 h5 hI0
    gi_wp2
    refine ⟨by simp, .inl ⟨D, _, rfl, run_takeDeferred hd, ?_⟩⟩
    refine ⟨_, results_tmp rfl _ _ _, _, rfl, own_more (row_turn h4 (grownBy_putObj' W D _) (fun r e => by cases e; exact ⟨_, hd, rfl⟩)) (by omega), ?_⟩
    refine ⟨h6.os, h6.tape, h6.output, by simp [World.putObj]; exact h6.size, fun i hi hne => ?_⟩
    rw [World.putObj_heap_other (by omega)]
    exact h6.block i hi hne
  · intro _ _ _ _ _ _ hf
    exact hf.elim
end Go.Proofs.YteadhnpmmpninaaGreat
namespace Go.PS
open Go.PM Go.RowKit
theorem SwW.drew {t1 t2 t3 t4 e : TypeId} {fv : Value} {w : World} {B b : Nat} {A : World} {ps : List (Nat × Nat)} {g : Nat → Nat} {o : Value} (h : SwW t1 t2 t3 t4 e fv w B b A ps g o) : SwW t1 t2 t3 t4 e fv w B b A.drew ps g o :=
  ⟨h.1, h.2.1, h.2.2.1, h.2.2.2.1, h.2.2.2.2.1, ⟨h.2.2.2.2.2.os, h.2.2.2.2.2.tape, h.2.2.2.2.2.output, h.2.2.2.2.2.size, h.2.2.2.2.2.block⟩⟩
end Go.PS
namespace Go.Proofs.YteadhnpmmpninaaGreat
open Go.RowKit Go.PM Go.PS Go.Lib
attribute [local go_sem] Oper.semAt_some

end Go.Proofs.YteadhnpmmpninaaGreat
namespace Go.PM
section
variable {F : Fence} {n : Nat} {P : Program} {b : Frame} {a : Act} {k : List Item} {cs : List Frame} {w : World} {Q : Exit → Act → World → Prop}
theorem stepR_scope {c : Code} : step P (lone (b.atR a (.code (.scope c) :: k)) cs w) = .next (lone (b.atR a (.code c :: .inScope c :: k)) cs w) :=
  step_lone_go (by simp [stepG, stepG.exec, Frame.atR])
theorem stepR_inScope {c : Code} : step P (lone (b.atR a (.inScope c :: k)) cs w) = .next (lone (b.atR a k) cs w) :=
  step_lone_go (by simp [stepG, stepG.exec, Frame.atR])
/-- a scope through which the run goes without a goto, inside a fence -/
theorem wpIn_scope {c : Code} (h : c.wpIn F n P (Exit.noGoto Q) a w) : (Code.scope c).wpIn F n P Q a w := by
  intro b k cs hro hb hr
  have h0 : (lone (b.atR a (.code (.scope c) :: k)) cs w).fenced P F := fenced_calm hb hr rfl
  obtain ⟨e, a₁, w₁, hq, harr⟩ := h b (.inScope c :: k) cs hro hb hr
  cases e with
  | normal => exact ⟨.normal, a₁, w₁, hq, .head h0 stepR_scope (StepsIn.trans harr (.one (fenced_calm hb hr rfl) stepR_inScope))⟩
  | exit id' =>
    have hx : exitTo id' (.inScope c :: k) = exitTo id' k := by simp [exitTo]
    exact ⟨.exit id', a₁, w₁, hq, fun k' hk => .head h0 stepR_scope (harr.1 k' (by rw [hx]; exact hk)),
      fun hr' hk => let ⟨k₁, h1, h2⟩ := harr.2 hr' (by rw [hx]; exact hk); ⟨k₁, h1, .head h0 stepR_scope h2⟩⟩
  | goto l => exact hq.elim
  | ret => exact ⟨_, a₁, w₁, hq, .of_steps (.one h0 stepR_scope) harr⟩
  | panic ch => exact ⟨_, a₁, w₁, hq, .of_steps (.one h0 stepR_scope) harr⟩
  | outgrown => exact ⟨_, a₁, w₁, hq, .of_steps (.one h0 stepR_scope) harr⟩
end
end Go.PM
namespace Go.PS
open Go.PM Go.RowKit
/-- what going through neighbours holds -/
def NbW (t1 t2 t4 e : TypeId) (w : World) (B b : Nat) (A : World) (ps : List (Nat × Nat)) (g : Nat → Nat) (o : Value) : Prop :=
  At A w.heap.size t1 #[.pointer (some ⟨b, 0, none⟩)] ∧ At A (w.heap.size + 1) t2 #[o] ∧ A.ownsRow B e 3 o (swL ps).length (scells (swL ps)) ∧ At A b t4 (gC g) ∧ w.grownBy A (some b)
theorem NbW.turn {t1 t2 t4 e : TypeId} {w : World} {B b : Nat} {A A' : World} {ps : List (Nat × Nat)} {g : Nat → Nat} {o : Value} {row : Option Nat} (h : NbW t1 t2 t4 e w B b A ps g o) (hg : A.grownBy A' row) (hr : ∀ r, row = some r → w.heap.size ≤ r ∧ ∃ ob : Obj, A.heap[r]? = some ob ∧ ob.isCells = false) : NbW t1 t2 t4 e w B b A' ps g o := by
  obtain ⟨h1, h2, h4, h5, h6⟩ := h
  refine ⟨at_turn h1 hg (fun r e => (hr r e).2), at_turn h2 hg (fun r e => (hr r e).2), row_turn h4 hg (fun r e => (hr r e).2), at_turn h5 hg (fun r e => (hr r e).2), ?_⟩
  refine ⟨hg.os.trans h6.os, hg.tape.trans h6.tape, hg.output.trans h6.output, Nat.le_trans h6.size hg.size, fun i hi hne => ?_⟩
  rw [hg.block i (by have := h6.size; omega) (fun e => by have := (hr i e.symm).1; omega)]
  exact h6.block i hi hne
theorem NbW.drew {t1 t2 t4 e : TypeId} {w : World} {B b : Nat} {A : World} {ps : List (Nat × Nat)} {g : Nat → Nat} {o : Value} (h : NbW t1 t2 t4 e w B b A ps g o) : NbW t1 t2 t4 e w B b A.drew ps g o :=
  ⟨h.1, h.2.1, h.2.2.1, h.2.2.2.1, ⟨h.2.2.2.2.os, h.2.2.2.2.tape, h.2.2.2.2.output, h.2.2.2.2.size, h.2.2.2.2.block⟩⟩
theorem NbW.step {t1 t2 t4 e : TypeId} (he1 : e ≠ t1) (he2 : e ≠ t2) (he4 : e ≠ t4) {w : World} {B b : Nat} {A A3 W5 : World} {ps qs : List (Nat × Nat)} {g g2 : Nat → Nat} {o o' : Value}
    (h : NbW t1 t2 t4 e w B b A ps g o) (hb : b < w.heap.size) (hB : w.heap.size ≤ B) (hs0 : w.heap.size + 2 ≤ A.heap.size) (hA3 : At A3 b t4 (gC g2)) (hg3 : A.drew.grownBy A3 (some b))
    (hown5 : W5.ownsRow B e 3 o' (swL (ps ++ qs)).length (scells (swL (ps ++ qs)))) (hgrow5 : A3.grownBy W5 o.ownBlock) :
    At W5 (w.heap.size + 1) t2 #[o] ∧ NbW t1 t2 t4 e w B b (W5.setCell ⟨w.heap.size + 1, 0, none⟩ o') (ps ++ qs) g2 o' ∧ KeepsOthers A (W5.setCell ⟨w.heap.size + 1, 0, none⟩ o') := by
  obtain ⟨h1, h2, h4, h5, h6⟩ := h
  have hsz := h6.size
  have g1 : At A.drew w.heap.size t1 #[.pointer (some ⟨b, 0, none⟩)] := h1
  have g2' : At A.drew (w.heap.size + 1) t2 #[o] := h2
  have g4 : A.drew.ownsRow B e 3 o (swL ps).length (scells (swL ps)) := h4
  have k1 := at_grown' g1 hg3 (fun e => by cases e; omega)
  have k2 := at_grown' g2' hg3 (fun e => by cases e; omega)
  have hbe := own_block_ge h4
  have k4 := own_grown g4 hg3 (.inl fun e => by have := hbe b e; omega)
  have m1 := at_grown' k1 hgrow5 (box_apart k4 k1 he1)
  have m2 := at_grown' k2 hgrow5 (box_apart k4 k2 he2)
  have m5 := at_grown' hA3 hgrow5 (box_apart k4 hA3 he4)
  have hs5 := grownBy_setCell' W5 (w.heap.size + 1) o'
  have hne5 := box_apart hown5 m2 he2
  refine ⟨m2, ⟨at_grown' m1 hs5 (by simp), m2.set 0 _, hown5.kept hs5 (.inr hne5.symm), at_grown' m5 hs5 (fun e => by cases e; omega), ?_⟩, ?_⟩
  · have hz3 := hg3.size
    have hz5 := hgrow5.size
    have hzd : A.drew.heap.size = A.heap.size := rfl
    refine ⟨hs5.os.trans (hgrow5.os.trans (hg3.os.trans h6.os)), hs5.tape.trans (hgrow5.tape.trans (hg3.tape.trans h6.tape)), hs5.output.trans (hgrow5.output.trans (hg3.output.trans h6.output)), by have := hs5.size; omega, fun i hi hne => ?_⟩
    rw [hs5.block i (by omega) (fun e => by cases e; omega), hgrow5.block i (by omega) (fun e => by have := hbe i e.symm; omega), hg3.block i (by omega) hne]
    exact h6.block i hi hne
  · have q1 : KeepsOthers A A3 := (KeepsOthers.drew A).trans (KeepsOthers.of_grownBy hg3 (at_cells (w := A.drew) h5))
    exact (q1.trans (KeepsOthers.of_grownBy hgrow5 (own_cells k4))).trans (KeepsOthers.setCell _ _ _)
/-- the marks that loops over functions leave -/
def dfr (D : Nat) : Deferred := { target := .collected D, args := #[] }
def Marks (w : World) (ds : List Nat) (A : World) : Prop := ds.Nodup ∧ ∀ D ∈ ds, w.heap.size + 2 ≤ D ∧ A.heap[D]? = some (.deferred (some []))
theorem Marks.keep {w : World} {ds : List Nat} {A A' : World} (h : Marks w ds A) (hk : KeepsOthers A A') : Marks w ds A' :=
  ⟨h.1, fun D hD => ⟨(h.2 D hD).1, hk.same D _ (h.2 D hD).2 rfl⟩⟩
theorem Marks.turn {w : World} {ds : List Nat} {A A' : World} {row : Option Nat} {N : Nat} (h : Marks w ds A) (hlt : ∀ D ∈ ds, D < N) (hg : A.grownBy A' row) (hr : ∀ r, row = some r → N ≤ r) : Marks w ds A' :=
  ⟨h.1, fun D hD => ⟨(h.2 D hD).1, (hg.block D (Array.getElem?_eq_some_iff.1 (h.2 D hD).2).1 (fun e => by have := hr D e.symm; have := hlt D hD; omega)).trans (h.2 D hD).2⟩⟩
theorem Marks.lt {w : World} {ds : List Nat} {A : World} (h : Marks w ds A) : ∀ D ∈ ds, D < A.heap.size := fun D hD => (Array.getElem?_eq_some_iff.1 (h.2 D hD).2).1
theorem leaves_all {F : Fence} {n : Nat} {P : Program} {fn : Func} {tmps : Array Value} {R : Ending → World → Prop} : ∀ (ds : List Nat) (A : World), ds.Nodup → (∀ D ∈ ds, A.heap[D]? = some (.deferred (some []))) →
    (∀ A' : World, A'.os = A.os → A'.tape = A.tape → A'.output = A.output → A'.heap.size = A.heap.size → (∀ k, k ∉ ds → A'.heap[k]? = A.heap[k]?) → LeavesInM F n P fn tmps R [] .returning A') → LeavesInM F n P fn tmps R (ds.map dfr) .returning A
  | [], A, _, _, h => h A rfl rfl rfl rfl (fun _ _ => rfl)
  | D :: ds, A, hn, hD, h => by
    rw [List.nodup_cons] at hn
    refine ⟨by simp, .inl ⟨D, _, rfl, run_takeDeferred (hD D (by simp)), ?_⟩⟩
    refine leaves_all ds _ hn.2 (fun E hE => ?_) (fun A' h1 h2 h3 h4 h5 => h A' h1 h2 h3 (by rw [h4]; simp [World.putObj]) fun k hk => ?_)
    · rw [World.putObj_heap_other (fun e => hn.1 (by rw [← e]; exact hE))]
      exact hD E (by simp [hE])
    · rw [List.mem_cons] at hk
      rw [h5 k (fun hk2 => hk (.inr hk2)), World.putObj_heap_other (fun e => hk (.inl e))]
theorem own_same {w w' : World} {base : Nat} {e : TypeId} {size n : Nat} {v : Value} {cs : List Value} (h : w.ownsRow base e size v n cs) (hs : ∀ (k : Nat) (ob : Obj), w.heap[k]? = some ob → ob.isCells = true → w'.heap[k]? = some ob) : w'.ownsRow base e size v n cs := by
  refine ⟨h.1, ?_⟩
  rcases h.2 with h' | ⟨g, cap, cur, rfl, hbg, hg, hr⟩
  · exact .inl h'
  · exact .inr ⟨g, cap, cur, rfl, hbg, hs g _ hg rfl, hr⟩
/-- a round of going through neighbours: k swaps or fewer are left -/
def NbR (t1 t2 t4 e : TypeId) (w : World) (B b : Nat) (tot : List (Nat × Nat)) (k : Nat) (a : Act) (A : World) : Prop :=
  ∃ (ps : List (Nat × Nat)) (g : Nat → Nat) (o u : Value) (ds : List Nat), a = { tmps := #[.pointer (some ⟨b, 0, none⟩), .pointer (some ⟨w.heap.size, 0, none⟩), .slice none 0 0, .pointer (some ⟨w.heap.size + 1, 0, none⟩), undef, u, undef, undef, undef, undef, undef, undef, undef, undef, undef], defers := ds.map dfr } ∧
    ps ++ nbF k g = tot ∧ Prm g ∧ invG g ≤ k ∧ NbW t1 t2 t4 e w B b A ps g o ∧ Marks w ds A ∧ w.heap.size + 2 ≤ A.heap.size
end Go.PS
namespace Go.Proofs.YteadhnpmmpninaaGreat
open Go.RowKit Go.PM Go.PS Go.Lib
attribute [local go_sem] Oper.semAt_some

end Go.Proofs.YteadhnpmmpninaaGreat
namespace Go.PS
open Go.PM Go.RowKit
theorem bkF_idx {f : Nat → ByteArray} (h : Exch (srcT f)) {q : Nat} (hq : q < 9) : isP (bkF f 9 q) = true ∧ pidx (bkF f 9 q) = invI (srcT f) q := by
  have h1 := h.inv hq
  have h2 := bkF_at h 9 (Nat.le_refl _) _ h1.1
  rw [h1.2, pidx_nm hq] at h2
  rw [h2]
  exact ⟨isP_nm h1.1, pidx_nm h1.1⟩
/-- the goals of the first k places are laid -/
def halfG (g : Nat → Nat) (k : Nat) : Nat → Nat := fun p => if p < k then g p else 0
theorem halfG_step (g : Nat → Nat) (k : Nat) : setN (halfG g k) k (g k) = halfG g (k + 1) := by
  funext x
  show (if x = k then g k else if x < k then g x else 0) = if x < k + 1 then g x else 0
  by_cases h1 : x = k
  · subst h1; rw [if_pos rfl, if_pos (by omega)]
  · rw [if_neg h1]
    by_cases h2 : x < k
    · rw [if_pos h2, if_pos (by omega)]
    · rw [if_neg h2, if_neg (by omega)]
theorem halfG_full (g : Nat → Nat) : gC (halfG g 9) = gC g := gC_congr fun p hp => by
  show (if p < 9 then g p else 0) = g p
  rw [if_pos hp]
end Go.PS
namespace Go.Proofs.YteadhnpmmpninaaGreat
open Go.RowKit Go.PM Go.PS Go.Lib
attribute [local go_sem] Oper.semAt_some

set_option maxRecDepth 100000 in
set_option maxHeartbeats 4000000 in
theorem permutationOf_c (f : Nat → ByteArray) (hE : Exch (srcT f)) (w : World) :
    Calls Tryz.prog 30 #[tabX f] w fun e w' => ∃ b, e = .returned (.pointer (some ⟨b, 0, none⟩)) ∧ At w' b 98 (gC (invI (srcT f))) ∧ w.heap.size ≤ b ∧ Below w.heap.size w w' := by
  have HU := Lib.hid (fun W => undone_c f hE W)
  have HB := Lib.hid (fun q hq => bkF_idx hE (q := q) hq)
  clear hE
  generalize bkF f 9 = bk at *
  generalize invI (srcT f) = g at *
  refine (callsIn_wide (n := 5)).1 ?_
  refine callsIn_of_wp_marks Tryz.func30 rfl trivial ?_ rfl
  simp only [Tryz.ntmps30, List.size_toArray, List.length_cons, List.length_nil, Nat.reduceAdd, Nat.reduceSub, Array.replicate_succ, Array.replicate_zero, List.push_toArray, List.append_toArray, List.nil_append, List.cons_append]
  have hA0 : At (w.alloc (.cells (tabC f) 51)) w.heap.size 51 (tabC f) := At.new _ _ _
  gi_wp2_with (refine ldIn_row rfl 51 (.tmp 1) rfl w.heap.size 51 (tabC f) (hA0.alloc _) (by rfl) 9 9 Tryz.underlying51 (by kernel_rfl) ?_; refine held ?_)
  unfold Held
  have hP0 : At ((w.alloc (.cells (tabC f) 51)).alloc (.cells (gC (fun _ => 0)) 98)) (w.heap.size + 1) 98 (gC (fun _ => 0)) := by
    have := At.new (w.alloc (.cells (tabC f) 51)) 98 (gC (fun _ => 0))
    rwa [World.size_alloc] at this
  have hB0 : Below w.heap.size w ((w.alloc (.cells (tabC f) 51)).alloc (.cells (gC (fun _ => 0)) 98)) := ((Below.refl _ _).alloc (Nat.le_refl _) _).alloc (by simp) _
  clear hA0
  gi_wp2_with fail
  refine ⟨trivial, callsIn_wide.2 ((HU.out _).mono ?_)⟩
  rintro e w1 ⟨rfl, hb1⟩
  have hP1 := hP0.keep hb1
  have hB1 := hB0.trans (hb1.mono hB0.size)
  have hs1 := hB1.size
  have hPl := hP1.lt
  clear hP0 hB0 hb1
  gi_wp2_with fail
  obtain ⟨W0, hW0⟩ : ∃ W0 : World, W0 = ((w1.alloc (.cells #[.pointer (some ⟨w.heap.size + 1, 0, none⟩)] 62)).alloc (.cells (tabA bk) 51)) := ⟨_, rfl⟩
  have hS0 : W0.heap.size = w1.heap.size + 2 := by rw [hW0]; simp only [World.size_alloc]
  have hB0 : Below w.heap.size w W0 := by rw [hW0]; exact (hB1.alloc hs1 _).alloc (by simp; omega) _
  have hA0 : At W0 w1.heap.size 62 #[.pointer (some ⟨w.heap.size + 1, 0, none⟩)] := by rw [hW0]; exact (At.new _ _ _).alloc _
  have hA1 : At W0 (w1.heap.size + 1) 51 (tabA bk) := by
    rw [hW0]; have := At.new (w1.alloc (.cells #[.pointer (some ⟨w.heap.size + 1, 0, none⟩)] 62)) 51 (tabA bk)
    rwa [World.size_alloc] at this
  have hA2 : At W0 (w.heap.size + 1) 98 (gC (halfG g 0)) := by
    rw [hW0, show halfG g 0 = fun _ => 0 by funext x; simp [halfG]]; exact (hP1.alloc _).alloc _
  rw [← hW0]
  clear hW0 hP1 hB1
  refine range_law (F := Fence.wide) (gf := 64) (lf := #[.int .i64 9]) (lb := #[]) rfl (by decide) rfl trivial (fun args w => rfl) (encs := fun p : Nat => #[.int .i64 p]) (xs := List.range 9)
    (below_iter _ _ trivial rfl (by decide)) (fun _ => rfl)
    (fun pre W => At W (w.heap.size + 1) 98 (gC (halfG g pre.length)) ∧ At W w1.heap.size 62 #[.pointer (some ⟨w.heap.size + 1, 0, none⟩)] ∧ At W (w1.heap.size + 1) 51 (tabA bk) ∧ Below w.heap.size w W)
    (fun _ _ _ => False) ?_ (fun _ => ownFrom_pure _ _) ?_ (fun p => { tmps := #[tabX f, .pointer (some ⟨w.heap.size, 0, none⟩), .pointer none, .pointer (some ⟨w1.heap.size, 0, none⟩), .pointer (some ⟨w1.heap.size + 1, 0, none⟩), .int .i64 p, .pointer (some ⟨w.heap.size + 1, 0, none⟩), .agg (tabC f), tabX bk, .func (.func 64) #[.int .i64 9] #[], .int .i64 p, undef, undef, undef, undef, undef, undef, undef, undef, undef, undef, undef, undef], defers := [] }) ?_ ?_ ?_ ?_
  · rintro s A A' row ⟨h1, h2, h3, h4⟩ hg hr
    exact ⟨at_turn h1 hg (fun r e => (hr r e).2), at_turn h2 hg (fun r e => (hr r e).2), at_turn h3 hg (fun r e => (hr r e).2), h4.trans (below_grown hg h4.size (fun g e => by have := (hr g e).1; have := hB0.size; omega))⟩
  · exact ⟨hA2, hA0, hA1, hB0⟩
  · intro l p W Kc hK
    gi_wp2
    exact hK
  · clear hA0 hA1 hA2
    rintro l pre p W ⟨h1, h2, h3, h4⟩ hp hsz
    obtain ⟨hl, hp9⟩ := pre_len pre p hp
    rw [hl] at h1
    have HL : Hid ((pre ++ [p]).length = p + 1) := by show _ = _; simp [hl]
    obtain ⟨b1, b2⟩ := HB.out p hp9
    have HST := Lib.hid (halfG_step g p)
    have HSET := Lib.hid (gC_set (halfG g p) p hp9 (g p))
    have HIX := fun W' => indexOf_yes (bk p) b1 W'
    rw [b2] at HIX
    have hz4 := h4.size
    have l1 := h1.lt
    have l2 := h2.lt
    have l3 := h3.lt
    have i0 : (0 : Int) ≤ (p : Int) := by omega
    have i1 : (p : Int) < 9 := by omega
    have c2 : W.drew.cell? ⟨w1.heap.size, 0, none⟩ = some (.pointer (some ⟨w.heap.size + 1, 0, none⟩)) := h2.cell 0
    have c3 : W.drew.cell? ⟨w1.heap.size + 1, p, none⟩ = some (.string (bk p)) := (h3.cell p).trans (tabC_at bk p hp9)
    have c1 : W.drew.cell? ⟨w.heap.size + 1, p, none⟩ = some (.int .i64 (halfG g p p : Nat)) := (h1.cell p).trans (gC_at _ p hp9)
    have f1 : W.drew.frozen? ⟨w.heap.size + 1, p, none⟩ = false := h1.frozen p
    have fin : KeepsFrom W0.heap.size W (W.drew.setCell ⟨w.heap.size + 1, p, none⟩ (.int .i64 (g p : Nat))) ∧ KeepsIn (W0.heap.size + 2) 0 W (W.drew.setCell ⟨w.heap.size + 1, p, none⟩ (.int .i64 (g p : Nat))) ∧
        At (W.drew.setCell ⟨w.heap.size + 1, p, none⟩ (.int .i64 (g p : Nat))) (w.heap.size + 1) 98 (gC (halfG g (pre ++ [p]).length)) ∧
        At (W.drew.setCell ⟨w.heap.size + 1, p, none⟩ (.int .i64 (g p : Nat))) w1.heap.size 62 #[.pointer (some ⟨w.heap.size + 1, 0, none⟩)] ∧
        At (W.drew.setCell ⟨w.heap.size + 1, p, none⟩ (.int .i64 (g p : Nat))) (w1.heap.size + 1) 51 (tabA bk) ∧ Below w.heap.size w (W.drew.setCell ⟨w.heap.size + 1, p, none⟩ (.int .i64 (g p : Nat))) := by
      refine ⟨((KeepsOthers.drew W).trans (KeepsOthers.setCell _ _ _)).from _, KeepsIn.zero (by simp [World.size_setCell]), ?_, At.far (w := W.drew) h2 (by show w1.heap.size ≠ w.heap.size + 1; omega) _, At.far (w := W.drew) h3 (by show w1.heap.size + 1 ≠ w.heap.size + 1; omega) _, h4.drew.setCell (by show w.heap.size ≤ w.heap.size + 1; omega) _⟩
      rw [HL.out]
      have := At.set (w := W.drew) h1 p (.int .i64 (g p : Nat))
      rw [HSET.out, HST.out] at this
      exact this
    have FIN := Lib.hid fin
    clear fin h1 h2 h3 b1 b2 HL HB HST HSET
    generalize halfG g p p = oldv at *
    generalize g p = j at *
    generalize bk p = s at *
    gi_wp2
    refine region_inRound (F := Fence.wide) rfl (by kernel_rfl) (by kernel_rfl) ?_
    (refine wpAnyIn_take (i := 1) (v := ?_) rfl rfl (by kernel_rfl) (by kernel_rfl) (by kernel_rfl) (fun _ _ _ h => h) ⟨Or.inl ⟨by rfl, by intro w0; go_simp; try with_reducible rfl⟩, fun _ => rfl⟩ ?_)
    (refine wpAnyIn_take (i := 2) (v := ?_) rfl rfl (by kernel_rfl) (by kernel_rfl) (by kernel_rfl) (fun _ _ _ h => h) ⟨Or.inl ⟨by rfl, by intro w0; go_simp; try with_reducible rfl⟩, fun _ => rfl⟩ ?_)
    (refine wpAnyIn_take (i := 3) (v := ?_) rfl rfl (by kernel_rfl) (by kernel_rfl) (by kernel_rfl) (fun _ _ _ h => h) ⟨Or.inl ⟨by rfl, by intro w0; go_simp; try with_reducible rfl⟩, fun _ => rfl⟩ ?_)
    (refine wpAnyIn_ready (rs := [0, 4]) (by kernel_rfl) (by simp) ?_; refine AllReadyIn.cons rfl (fun Kr hKr => ?_) (AllReadyIn.cons rfl (fun Kr hKr => ?_) (AllReadyIn.nil)))
    · (go_simp; refine hKr _ _ ?_; clear hKr Kr)
      (refine wpAnyIn_take (i := 9) (v := ?_) rfl rfl (by kernel_rfl) (by kernel_rfl) (by kernel_rfl) (fun _ _ _ h => h) ⟨Or.inl ⟨by rfl, by intro w0; go_simp; try with_reducible rfl⟩, fun _ => rfl⟩ ?_)
      (refine wpAnyIn_ready (rs := [4]) (by kernel_rfl) (by simp) ?_; refine AllReadyIn.cons rfl (fun Kr hKr => ?_) (AllReadyIn.nil))
      (go_simp; refine hKr _ _ ?_; clear hKr Kr)
      (refine wpAnyIn_ready (rs := [5]) (by kernel_rfl) (by simp) ?_; refine AllReadyIn.cons rfl (fun Kr hKr => ?_) (AllReadyIn.nil))
      (go_simp; refine ⟨trivial, callsIn_wide.2 ((HIX _).mono ?_)⟩; rintro e wq ⟨rfl, rfl⟩; refine hKr _ _ ?_; clear hKr Kr)
      (refine wpAnyIn_take (i := 6) (v := ?_) rfl rfl (by kernel_rfl) (by kernel_rfl) (by kernel_rfl) (fun _ _ _ h => h) ⟨Or.inl ⟨by rfl, by intro w0; go_simp; try with_reducible rfl⟩, fun _ => rfl⟩ ?_)
      (refine wpAnyIn_take (i := 7) (v := ?_) rfl rfl (by kernel_rfl) (by kernel_rfl) (by kernel_rfl) (fun _ _ _ h => h) ⟨Or.inl ⟨by rfl, by intro w0; go_simp; try with_reducible rfl⟩, fun _ => rfl⟩ ?_)
      (refine wpAnyIn_take (i := 8) (v := ?_) rfl rfl (by kernel_rfl) (by kernel_rfl) (by kernel_rfl) (fun _ _ _ h => h) ⟨Or.inl ⟨by rfl, by intro w0; go_simp; try with_reducible rfl⟩, fun _ => rfl⟩ ?_)
      (refine wpAnyIn_take (i := 10) (v := ?_) rfl rfl (by kernel_rfl) (by kernel_rfl) (by kernel_rfl) (fun _ _ _ h => h) ⟨Or.inl ⟨by rfl, by intro w0; go_simp; try with_reducible rfl⟩, fun _ => rfl⟩ ?_)
      (refine wpAnyIn_ready (rs := [11]) (by kernel_rfl) (by simp) ?_; refine AllReadyIn.cons rfl (fun Kr hKr => ?_) (AllReadyIn.nil))
      (go_simp; refine hKr _ _ ?_; clear hKr Kr)
      refine wpAnyIn_done (by kernel_rfl) ?_ _
      exact FIN.out
    · (go_simp; refine hKr _ _ ?_; clear hKr Kr)
      (refine wpAnyIn_ready (rs := [0, 5]) (by kernel_rfl) (by simp) ?_; refine AllReadyIn.cons rfl (fun Kr hKr => ?_) (AllReadyIn.cons rfl (fun Kr hKr => ?_) (AllReadyIn.nil)))
      · (go_simp; refine hKr _ _ ?_; clear hKr Kr)
        (refine wpAnyIn_take (i := 9) (v := ?_) rfl rfl (by kernel_rfl) (by kernel_rfl) (by kernel_rfl) (fun _ _ _ h => h) ⟨Or.inl ⟨by rfl, by intro w0; go_simp; try with_reducible rfl⟩, fun _ => rfl⟩ ?_)
        (refine wpAnyIn_ready (rs := [5]) (by kernel_rfl) (by simp) ?_; refine AllReadyIn.cons rfl (fun Kr hKr => ?_) (AllReadyIn.nil))
        (go_simp; refine ⟨trivial, callsIn_wide.2 ((HIX _).mono ?_)⟩; rintro e wq ⟨rfl, rfl⟩; refine hKr _ _ ?_; clear hKr Kr)
        (refine wpAnyIn_take (i := 6) (v := ?_) rfl rfl (by kernel_rfl) (by kernel_rfl) (by kernel_rfl) (fun _ _ _ h => h) ⟨Or.inl ⟨by rfl, by intro w0; go_simp; try with_reducible rfl⟩, fun _ => rfl⟩ ?_)
        (refine wpAnyIn_take (i := 7) (v := ?_) rfl rfl (by kernel_rfl) (by kernel_rfl) (by kernel_rfl) (fun _ _ _ h => h) ⟨Or.inl ⟨by rfl, by intro w0; go_simp; try with_reducible rfl⟩, fun _ => rfl⟩ ?_)
        (refine wpAnyIn_take (i := 8) (v := ?_) rfl rfl (by kernel_rfl) (by kernel_rfl) (by kernel_rfl) (fun _ _ _ h => h) ⟨Or.inl ⟨by rfl, by intro w0; go_simp; try with_reducible rfl⟩, fun _ => rfl⟩ ?_)
        (refine wpAnyIn_take (i := 10) (v := ?_) rfl rfl (by kernel_rfl) (by kernel_rfl) (by kernel_rfl) (fun _ _ _ h => h) ⟨Or.inl ⟨by rfl, by intro w0; go_simp; try with_reducible rfl⟩, fun _ => rfl⟩ ?_)
        (refine wpAnyIn_ready (rs := [11]) (by kernel_rfl) (by simp) ?_; refine AllReadyIn.cons rfl (fun Kr hKr => ?_) (AllReadyIn.nil))
        (go_simp; refine hKr _ _ ?_; clear hKr Kr)
        refine wpAnyIn_done (by kernel_rfl) ?_ _
        exact FIN.out
      · (go_simp; refine ⟨trivial, callsIn_wide.2 ((HIX _).mono ?_)⟩; rintro e wq ⟨rfl, rfl⟩; refine hKr _ _ ?_; clear hKr Kr)
        (refine wpAnyIn_take (i := 6) (v := ?_) rfl rfl (by kernel_rfl) (by kernel_rfl) (by kernel_rfl) (fun _ _ _ h => h) ⟨Or.inl ⟨by rfl, by intro w0; go_simp; try with_reducible rfl⟩, fun _ => rfl⟩ ?_)
        (refine wpAnyIn_take (i := 7) (v := ?_) rfl rfl (by kernel_rfl) (by kernel_rfl) (by kernel_rfl) (fun _ _ _ h => h) ⟨Or.inl ⟨by rfl, by intro w0; go_simp; try with_reducible rfl⟩, fun _ => rfl⟩ ?_)
        (refine wpAnyIn_take (i := 8) (v := ?_) rfl rfl (by kernel_rfl) (by kernel_rfl) (by kernel_rfl) (fun _ _ _ h => h) ⟨Or.inl ⟨by rfl, by intro w0; go_simp; try with_reducible rfl⟩, fun _ => rfl⟩ ?_)
        (refine wpAnyIn_ready (rs := [0]) (by kernel_rfl) (by simp) ?_; refine AllReadyIn.cons rfl (fun Kr hKr => ?_) (AllReadyIn.nil))
        (go_simp; refine hKr _ _ ?_; clear hKr Kr)
        (refine wpAnyIn_take (i := 9) (v := ?_) rfl rfl (by kernel_rfl) (by kernel_rfl) (by kernel_rfl) (fun _ _ _ h => h) ⟨Or.inl ⟨by rfl, by intro w0; go_simp; try with_reducible rfl⟩, fun _ => rfl⟩ ?_)
        (refine wpAnyIn_take (i := 10) (v := ?_) rfl rfl (by kernel_rfl) (by kernel_rfl) (by kernel_rfl) (fun _ _ _ h => h) ⟨Or.inl ⟨by rfl, by intro w0; go_simp; try with_reducible rfl⟩, fun _ => rfl⟩ ?_)
        (refine wpAnyIn_ready (rs := [11]) (by kernel_rfl) (by simp) ?_; refine AllReadyIn.cons rfl (fun Kr hKr => ?_) (AllReadyIn.nil))
        (go_simp; refine hKr _ _ ?_; clear hKr Kr)
        refine wpAnyIn_done (by kernel_rfl) ?_ _
        exact FIN.out
  · intro D W hD hI hd
    obtain ⟨h1, h2, h3, h4⟩ := hI
    have c2 : W.cell? ⟨w1.heap.size, 0, none⟩ = some (.pointer (some ⟨w.heap.size + 1, 0, none⟩)) := h2.cell 0
    have h1' : At W (w.heap.size + 1) 98 (gC g) := by
      have h1 : At W (w.heap.size + 1) 98 (gC (halfG g 9)) := h1
      rwa [halfG_full] at h1
    have hDD : w1.heap.size + 2 ≤ D := by first | omega | simpa [World.size_alloc, Nat.add_assoc] using hD
    clear h1 h2 h3 hA0 hA1 hA2
    gi_wp2
    refine ⟨by simp, .inl ⟨D, _, rfl, run_takeDeferred hd, ?_⟩⟩
    exact ⟨_, results_tmp rfl _ _ _, w.heap.size + 1, rfl, (World.putObj_heap_other (by omega)).trans h1', by omega, h4.trans ⟨rfl, rfl, rfl, by simp [World.putObj], fun k hk => World.putObj_heap_other (by omega)⟩⟩
  · intro _ _ _ _ _ _ hf
    exact hf.elim
end Go.Proofs.YteadhnpmmpninaaGreat
namespace Go.PM
open Go.RowKit
theorem SVal_then {f g : Nat → ByteArray} (h1 : SVal (srcT f)) (h2 : SVal (srcT g)) : SVal (srcT (thenF f g)) := by
  intro p hp
  rw [srcT_then]
  exact SVal_cmp h1 h2 p hp
theorem SVal_tab {xs : List Mv} (h : MV xs) : SVal (srcT (tabOf xs)) := by
  intro p hp
  rw [srcT_M h hp]
  exact SVal_M h p hp
theorem SVal_zero : SVal (srcT fun _ => emp) := fun _ h => isS_nm h
/-- what the loop of power holds: what is done, what is left -/
structure PwR (f : Nat → ByteArray) (N : Nat) (d x : Nat → ByteArray) (k : Nat) : Prop where
  inv : PwInv f N d x k
  dv : SVal (srcT d)
  xv : SVal (srcT x)
theorem PwR.start {f : Nat → ByteArray} (h : SVal (srcT f)) (N : Nat) : PwR f N (fun _ => emp) f N := ⟨PwInv_start f N, SVal_zero, h⟩
theorem PwR.odd {f d x : Nat → ByteArray} {N n : Nat} (h : PwR f N d x n) (h1 : n % 2 = 1) : PwR f N (thenF d x) (thenF x x) (n / 2) := ⟨PwInv_odd h.inv h1, SVal_then h.dv h.xv, SVal_then h.xv h.xv⟩
theorem PwR.even {f d x : Nat → ByteArray} {N n : Nat} (h : PwR f N d x n) (h1 : n % 2 = 0) : PwR f N d (thenF x x) (n / 2) := ⟨PwInv_even h.inv h1, h.dv, SVal_then h.xv h.xv⟩
theorem PwR.done {f d x : Nat → ByteArray} {N : Nat} (h : PwR f N d x 0) : ∀ p, p < 9 → srcT d p = pwF (srcT f) N p := fun _ hp => PwInv_end h.inv hp
end Go.PM
namespace Go.Proofs.YteadhnpmmpninaaGreat
open Go.RowKit Go.PM

theorem idle_v (f : Nat → ByteArray) (w : World) :
    Calls Tryz.prog 27 #[tabX f] w fun e w' => e = .returned (tabX (noIdle f)) ∧ Below w.heap.size w w' := idle_c f w
end Go.Proofs.YteadhnpmmpninaaGreat
namespace Go.PM
open Go.RowKit
theorem compM_len (xs ys : List Mv) : (compM xs ys).length ≤ 9 := by
  unfold compM
  split
  · exact lsF_len _ 9
  · simp
theorem compM_yes {xs ys : List Mv} (h1 : mvalid xs = true) (h2 : mvalid ys = true) : compM xs ys = lsF (cmpM xs ys) 9 := by rw [compM, h1, h2]; rfl
theorem compM_no {xs ys : List Mv} (h : (mvalid xs && mvalid ys) = false) : compM xs ys = [] := by rw [compM, h]; rfl
def pwL (xs : List Mv) (n : Nat) : List Mv := lsF (pwF (fun q => srcM xs (nm q)) n) 9
theorem pwL_zero (xs : List Mv) : pwL xs 0 = [] := lsF_nm
theorem pwL_succ (xs : List Mv) (n : Nat) : lsF (cmpM (pwL xs n) xs) 9 = pwL xs (n + 1) := cmpM_pw xs n
theorem pwL_len (xs : List Mv) (n : Nat) : (pwL xs n).length ≤ 9 := lsF_len _ 9
def powOk (xs : List Mv) (n : Int) : Bool := mvalid xs && (decide (0 ≤ n) && decide (n ≤ 60))
theorem powM_yes {xs : List Mv} {n : Int} (h : powOk xs n = true) : powM xs n = pwL xs n.toNat := by
  unfold powOk at h; rw [powM, h]; rfl
theorem powM_no {xs : List Mv} {n : Int} (h : powOk xs n = false) : powM xs n = [] := by
  unfold powOk at h; rw [powM, h]; rfl
theorem powM_len (xs : List Mv) (n : Int) : (powM xs n).length ≤ 9 := by
  unfold powM
  split
  · exact lsF_len _ 9
  · simp
end Go.PM
namespace Go.Proofs.YteadhnpmmpninaaGreat
open Go.RowKit Go.PM

end Go.Proofs.YteadhnpmmpninaaGreat
namespace Go.PM
open Go.RowKit
theorem powM_tab {xs : List Mv} (h : MV xs) {d : Nat → ByteArray} {n : Nat} (hn : n ≤ 60) (hd : ∀ p, p < 9 → srcT d p = pwF (srcT (tabOf xs)) n p) : mvT (noIdle d) (List.range 9) = powM xs (n : Int) := by
  have m1 : mvalid xs = true := by simpa [mvalid] using h
  have hok : powOk xs (n : Int) = true := by
    unfold powOk
    rw [m1]
    simp
    omega
  rw [powM_yes hok, mvT_idle]
  refine lsF_congr fun p hp => ?_
  rw [hd p hp]
  exact pwF_congr (fun q hq => srcT_M h hq) n p hp
end Go.PM
namespace Go.Proofs.YteadhnpmmpninaaGreat
open Go.RowKit Go.PM

end Go.Proofs.YteadhnpmmpninaaGreat
namespace Go.PM
open Go.RowKit
theorem undoM_len (xs : List Mv) : (undoM xs).length ≤ 9 := by
  unfold undoM
  split
  · exact lsF_len _ 9
  · simp
theorem undoM_yes {xs : List Mv} (h : exchB xs = true) : undoM xs = unL xs 9 := by rw [undoM, if_pos h, unL_inv (exchB_M h)]
theorem undoM_no {xs : List Mv} (h : exchB xs = false) : undoM xs = [] := by rw [undoM, h]; rfl
def lostB (xs : List Mv) : ByteArray := okS (mvalid xs) (leavesB xs)
theorem exchB_eq (xs : List Mv) : exchB xs = (mvalid xs && decide (lostB xs = emp)) := by
  unfold exchB lostB okS
  cases mvalid xs <;> simp
end Go.PM
namespace Go.Proofs.YteadhnpmmpninaaGreat
open Go.RowKit Go.PM

end Go.Proofs.YteadhnpmmpninaaGreat
namespace Go.PM
open Go.RowKit
theorem yieldsIf_row {P : Program} {ops : Array Oper} {S : World → Prop} {op : Oper} {a : Act} (hw : Region.wanted op (yielded ops a.tmps) = true) (ty : TypeId) (x : Operand) (ho : op.op = .load ty x)
    (b : Nat) (t : TypeId) (cs : Array Value) (hx : a.eval x = .pointer (some ⟨b, 0, none⟩)) (hS : ∀ w, S w → At w b t cs)
    (k : Nat) (e : TypeId) (hu : P.underlying ty = some (.array k e)) (hi : (P.info? ty).map (·.size) = some cs.size) : YieldsIf P ops S op (.agg cs) a :=
  .inl ⟨hw, fun w hw' => by
    unfold execOp
    simp only [ho, hx, Instr.loadAt, Instr.sureAddr, Sem.run_bind, Sem.run_pure, Result.andThen_ok, run_loadVar_row w b t ty cs (0, 0) _ (hS w hw') hu rfl hi]⟩
end Go.PM
namespace Go.Proofs.YteadhnpmmpninaaGreat
open Go.RowKit Go.PM

end Go.Proofs.YteadhnpmmpninaaGreat
namespace Go.PS
open Go.PM Go.RowKit Go.PW
/-- the goals of moves that are an exchange -/
def goM (xs : List Mv) : Nat → Nat := invI (srcT (tabOf xs))
/-- swaps that do an exchange; the same with neighbours -/
def swM (xs : List Mv) : List (Nat × Nat) := if exchB xs then (rsA 9 (goM xs)).1 else []
def nbM (xs : List Mv) : List (Nat × Nat) := if exchB xs then nbF 36 (goM xs) else []
theorem goM_prm {xs : List Mv} (h : exchB xs = true) : Prm (goM xs) := inv_prm (exchB_iff.1 h).2
theorem swM_yes {xs : List Mv} (h : exchB xs = true) : swM xs = (rsA 9 (goM xs)).1 := if_pos h
theorem swM_no {xs : List Mv} (h : exchB xs = false) : swM xs = [] := if_neg (by rw [h]; decide)
theorem nbM_yes {xs : List Mv} (h : exchB xs = true) : nbM xs = nbF 36 (goM xs) := if_pos h
theorem nbM_no {xs : List Mv} (h : exchB xs = false) : nbM xs = [] := if_neg (by rw [h]; decide)
theorem swM_le (xs : List Mv) : (swM xs).length ≤ 9 := by
  rcases Bool.eq_false_or_eq_true (exchB xs) with h | h
  · rw [swM_yes h]; exact rsA_le (goM_prm h) 9 (Nat.le_refl _)
  · rw [swM_no h]; simp
theorem nbM_le (xs : List Mv) : (nbM xs).length ≤ 36 := by
  rcases Bool.eq_false_or_eq_true (exchB xs) with h | h
  · rw [nbM_yes h, (nbF_facts 36 _ (goM_prm h) (invG_le _)).1]; exact invG_le _
  · rw [nbM_no h]; simp
theorem swM_rings {xs : List Mv} (h : exchB xs = true) : swM xs = (ringsF (nxT (tabOf xs)) 9).flatMap prs := by
  obtain ⟨h1, h2⟩ := exchB_iff.1 h
  rw [swM_yes h]; exact (rsA_rings (SV_tab h1) h2 9 (Nat.le_refl _)).1
end Go.PS
namespace Go.Proofs.YteadhnpmmpninaaGreat
open Go.RowKit Go.PM Go.PS Go.Lib
end Go.Proofs.YteadhnpmmpninaaGreat
namespace Go.PW
open Go.RowKit Go.PM
theorem Spots.of_at {w w' : World} {b : Nat} {nx : Nat → Option Nat} (h : Spots w b nx) (hk : ∀ t cs, At w b t cs → At w' b t cs) : Spots w' b nx := by
  obtain ⟨t, cs, hA⟩ := h.row
  have hB := hk t cs hA
  exact ⟨⟨t, cs, hB⟩, fun i hi => by rw [hB.cell, ← hA.cell]; exact h.name i hi, fun i hi => by rw [hB.cell, ← hA.cell]; exact h.src i hi⟩
end Go.PW
namespace Go.Proofs.YteadhnpmmpninaaGreat
open Go.RowKit Go.PM Go.PW Go.Lib
attribute [local go_sem] Oper.semAt_some

theorem appIn_str {F : Fence} {k : Nat} {ops : Array Oper} {rest : List Oper} {o : Oper} {a : Act} {Q : Exit → Act → World → Prop} {w : World} (hgd : o.guard = none) (s x : Operand)
    (ho : o.op = .call { callee := .builtin .append, args := #[s, x], argTypes := #[32, 32] })
    (base : Nat) (v : Value) (ys : List ByteArray) (m : ByteArray) (ad : Addr) (c : Nat) (hs : a.eval s = v) (hx : a.eval x = .slice (some ad) 1 c)
    (hown : w.ownsRow base 9 1 v ys.length (tcells ys)) (hnew : ∀ j u, [Value.string m][j]? = some u → w.cell? (ad.add j) = some u)
    (hlen : ys.length ≤ 1048576) (hbase : base ≤ w.heap.size)
    (h : ∀ v' w', w'.ownsRow base 9 1 v' (ys ++ [m]).length (tcells (ys ++ [m])) → w.grownBy w' v.ownBlock → wpListIn F k Tryz.prog ops Q rest (a.put o.dst v') w') : wpListIn F k Tryz.prog ops Q (o :: rest) a w := by
  obtain ⟨i0, hi0, hz0, hz1, hz2⟩ := info_parts infoStr
  refine wpListIn_append_own w hgd s x _ ho base 9 i0 _ 1 16 Tryz.underlying32 hi0 hz0 hz1 hz2 rfl (by omega) v ys.length (tcells ys) hs hown ad 1 c [Value.string m] hx rfl hnew
    (by intro u hu; simp at hu; subst hu; rfl) (by simp only [maxLen]; omega) (by omega) hbase ?_
  intro v' w' h2 h3 _
  refine h v' w' ?_ h3
  rw [tcells_append, List.length_append]
  simpa [tcells] using h2

set_option maxRecDepth 100000 in
set_option maxHeartbeats 2000000 in
theorem imRingsOf_c (xs : List Mv) (v : Value) (w : World) (hx : RdM w v xs) :
    Calls Tryz.prog 12 #[v] w fun e w' => ∃ v', e = .returned (.tuple #[v', .bool (mvalid xs)]) ∧ w'.ownsRow w.heap.size 9 1 v' (ringsB xs).length (tcells (ringsB xs)) ∧ Below w.heap.size w w' := by
  by_cases h1 : MV xs
  · have HT := Lib.hid (tableOf_yes xs h1 v w hx)
    have hm1 : mvalid xs = true := by simpa [mvalid] using h1
    have HM := Lib.hid hm1
    have HS := Lib.hid (show ringsB xs = ringsT (nxT (tabOf xs)) 9 from if_pos hm1)
    have hn := nice (SV_tab h1)
    have HSP := Lib.hid (fun W => spotsOf_c (tabOf xs) (SV_tab h1) W)
    have HLE := Lib.hid (fun k (hk : k ≤ 9) => (ringsF_lt hn k hk).2.1)
    have HRT : Hid (∀ k, ringsT (nxT (tabOf xs)) k = (ringsF (nxT (tabOf xs)) k).map txt) := fun _ => rfl
    clear h1 hx hm1
    generalize nxT (tabOf xs) = nx at *
    generalize tabOf xs = t at *
    refine (callsIn_wide (n := 5)).1 ?_
    refine callsIn_of_wp_marks Tryz.func12 rfl trivial ?_ rfl
    simp only [Tryz.ntmps12, List.size_toArray, List.length_cons, List.length_nil, Nat.reduceAdd, Nat.reduceSub, Array.replicate_succ, Array.replicate_zero, List.push_toArray, List.append_toArray, List.nil_append, List.cons_append]
    gi_wp2_with fail
    refine ⟨trivial, callsIn_wide.2 (HT.out.mono ?_)⟩
    rintro e w1 ⟨rfl, hb1⟩
    have hs1 := hb1.size
    gi_wp2
    obtain ⟨W0, hW0⟩ : ∃ W0 : World, W0 = (w1.alloc (.cells (tabA t) 51)).alloc (.cells #[.slice none 0 0] 32) := ⟨_, rfl⟩
    have hS0 : W0.heap.size = w1.heap.size + 2 := by rw [hW0]; simp only [World.size_alloc]
    have hB0 : Below w.heap.size w W0 := by rw [hW0]; (repeat' (first | (with_reducible exact Below.refl _ _) | (with_reducible assumption) | (with_reducible refine Below.alloc ?_ ?_ _) | (with_reducible refine Below.drew ?_) | (with_reducible refine Below.setCell ?_ ?_ _) | (with_reducible exact Nat.le_refl _) | omega | ((repeat (first | rewrite [World.size_alloc] | rewrite [World.size_setCell] | rewrite [World.size_drew])); omega) | (simp; omega) | (simp; done)))
    have hA0 : At W0 (w1.heap.size + 1) 32 #[.slice none 0 0] := by
      rw [hW0]; have := At.new (w1.alloc (.cells (tabA t) 51)) 32 #[.slice none 0 0]
      rwa [World.size_alloc] at this
    refine ⟨trivial, callsIn_wide.2 ?_⟩
    rw [← hW0]
    clear hW0
    refine (HSP.out W0).mono ?_
    rintro e W1 ⟨⟨bs, rfl, hbs, hSW⟩, hb2⟩
    have hA1 := hA0.keep hb2
    have hB1 : Below w.heap.size w W1 := hB0.trans (hb2.mono hB0.size)
    have hS1 := hb2.size
    have hbl := hSW.lt
    clear hA0 hb2 hB0
    gi_wp2
    refine range_law5 (F := Fence.wide) (gf := 41) (lf := #[.pointer (some ⟨bs, 0, none⟩)]) (lb := #[]) rfl (by decide) rfl trivial (fun args w => rfl) (encs := fun r : List Nat => #[.string (txt r)]) (xs := ringsF nx 9) (κ := 3)
      (rings_iter bs nx hn) (fun _ => rfl)
      (fun pre W => ∃ o, At W (w1.heap.size + 1) 32 #[o] ∧ W.ownsRow (W1.heap.size + 5) 9 1 o (pre.map txt).length (tcells (pre.map txt)) ∧ Spots W bs nx ∧ Below w.heap.size w W)
      (fun _ _ _ => False) ?pr ?iw ?own (fun _ => ownFrom_pure _ _) ?start ?a1 ?assign ?body ?done ?stop
    case pr => rintro pre A ⟨o, _, _, h, _⟩; exact h
    case iw =>
      rintro pre A A' r ⟨o, k1, k2, k3, k4⟩ hr1 hr2 hg
      have hge := own_block_ge k2
      refine ⟨o, at_grown' k1 hg (fun e => by cases e; omega), own_grown k2 hg (.inl fun e => ?_), k3.of_at fun t' cs h => at_grown' h hg (fun e => by cases e; omega), k4.trans (below_grown hg k4.size (fun g e => by cases e; have := hB1.size; omega))⟩
      have := hge r e; omega
    case own =>
      rintro s A A' row ⟨o, k1, k2, k3, k4⟩ hg hr
      exact ⟨o, at_turn' k1 hg (fun r e => (hr r e).2), own_turn' k2 hg (fun r e => (hr r e).2), k3.of_at fun t' cs h => at_turn' h hg (fun r e => (hr r e).2), k4.trans (below_grown hg k4.size (fun g e => by have := (hr g e).1; have := hB1.size; omega))⟩
    case start => exact ⟨_, hA1, ⟨rfl, .inl ⟨rfl, rfl⟩⟩, hSW, hB1⟩
    case assign =>
      intro l p W Kc hK
      gi_wp2
      exact hK
    case body =>
      rintro l pre r W ⟨o, k1, k2, k3, k4⟩ hp hsz
      have hlen : (pre.map txt).length ≤ 9 := by
        have h1 := hp.length_le
        have h2 := HLE.out 9 (by omega)
        simp at h1 ⊢; omega
      have hmap : (pre ++ [r]).map txt = pre.map txt ++ [txt r] := by simp
      have HMAP := Lib.hid hmap
      clear hmap hp
      generalize pre.map txt = ys at *
      generalize txt r = s at *
      have c3 : W.cell? ⟨w1.heap.size + 1, 0, none⟩ = some o := k1.cell 0
      have hl1 := k1.lt
      have hnw := one_new W (.string s) 9
      have hzw := hB1.size
      gi_wp2_with (gi_at_builtin; refine held ?_)
      unfold Held
      refine appIn_str rfl (.tmp 19) (.tmp 21) rfl (W1.heap.size + 5) o ys s ⟨W.heap.size, 0, none⟩ 1 (by rfl) (by rfl) (own_keep k2 ((Below.refl _ _).alloc (Nat.le_refl _) _)) hnw (by omega) (by simp; omega) ?_
      intro o' W3 hown3 hgrow3
      have j1 : At W3 (w1.heap.size + 1) 32 #[o] := at_grown' (k1.alloc (.cells #[.string s] 9)) hgrow3 (own_box_ne' k2 k1 (by decide))
      have d1 := j1.cell 0
      have d2 := j1.frozen 0
      have hge := own_block_ge k2
      have hK3 : KeepsFrom W1.heap.size W W3 := by
        refine ⟨Nat.le_trans (by simp) hgrow3.size, fun x ob hx1 hx2 hx3 => ?_⟩
        have hx4 := (Array.getElem?_eq_some_iff.1 hx2).1
        refine (hgrow3.block x (by simp; omega) (fun e => ?_)).trans ((Below.heap_alloc _ _ _ hx4).trans hx2)
        rcases k2.2 with ⟨rfl, _⟩ | ⟨g, cap, cur, rfl, _, hh, _⟩
        · cases e
        · cases e
          rw [hh] at hx2
          cases hx2
          cases hx3
      have hI3 : KeepsIn (W1.heap.size + 2) 3 W W3 := by
        refine ⟨Nat.le_trans (by simp) hgrow3.size, fun x hx1 hx2 => ?_⟩
        refine (hgrow3.block x (by simp; omega) (fun e => ?_)).trans (Below.heap_alloc _ _ _ (by omega))
        have := hge x e.symm
        omega
      have hSP3 : Spots W3 bs nx := k3.of_at fun t' cs h => at_grown' (h.alloc (.cells #[.string s] 9)) hgrow3 (fun e => by have := hge bs e.symm; omega)
      have hB3 : Below w.heap.size w W3 := (k4.alloc k4.size _).trans (below_grown hgrow3 (by have := k4.size; simp; omega) (fun g e => by have := hge g e; omega))
      have hne3 := own_box_ne' hown3 j1 (by decide)
      have hpn : (ys ++ [s]).length = ys.length + 1 := by simp
      rw [hpn] at hown3
      obtain ⟨A3, cap3, rfl, _⟩ := Rd.of_own hown3
      have m1 : At (W3.setCell ⟨w1.heap.size + 1, 0, none⟩ (.slice A3 (ys.length + 1) cap3)) (w1.heap.size + 1) 32 #[.slice A3 (ys.length + 1) cap3] := j1.set 0 _
      have mS : Spots (W3.setCell ⟨w1.heap.size + 1, 0, none⟩ (.slice A3 (ys.length + 1) cap3)) bs nx := hSP3.of_at fun t' cs h => h.far (by show bs ≠ w1.heap.size + 1; omega) _
      clear hnw c3 k1 k2 k3 k4 hgrow3 hge hSP3
      gi_wp2
      refine ⟨hK3.trans ((KeepsOthers.setCell _ _ _).from _), ⟨by simp [World.size_setCell]; exact hI3.size, fun x hx1 hx2 => (heap_setCell_other _ _ _ _ (by simp; omega)).trans (hI3.same x hx1 hx2)⟩, _, m1, ?_, mS, hB3.setCell (by simp; omega) _⟩
      rw [HMAP.out, hpn]
      exact hown3.kept (grownBy_setCell' W3 (w1.heap.size + 1) _) (.inr hne3.symm)
    case done =>
      intro D W hD hI hd
      obtain ⟨o, k1, k2, k3, k4⟩ := hI
      have c3 : W.cell? ⟨w1.heap.size + 1, 0, none⟩ = some o := k1.cell 0
      have hown := own_more k2 (show w.heap.size ≤ W1.heap.size + 5 by have := hB1.size; omega)
      have hzw := hB1.size
      clear k1 k2 k3
      gi_wp2
      refine ⟨by simp, .inl ⟨D, _, rfl, run_takeDeferred hd, ?_⟩⟩
      have hW2 : (W.putObj D (.deferred none)).ownsRow w.heap.size 9 1 o (ringsB xs).length (tcells (ringsB xs)) := by
        rw [HS.out, HRT.out]
        exact own_turn' hown (grownBy_putObj' W D _) (fun r e => by cases e; exact ⟨_, hd, rfl⟩)
      have hR : ∀ tmps : Array Value, tmps.getD 2 undef = o → tmps.getD 3 undef = .bool true → (results Tryz.f12 tmps).run Tryz.prog (W.putObj D (.deferred none)) = .ok (.tuple #[o, .bool true]) (W.putObj D (.deferred none)) := fun tmps h2 h3 => by
        have h2' : tmps[2]?.getD undef = o := by simpa using h2
        have h3' : tmps[3]?.getD undef = .bool true := by simpa using h3
        simp [results, Tryz.results12, h2', h3']
      exact ⟨_, hR _ rfl rfl, _, by rw [HM.out], hW2, k4.trans ⟨rfl, rfl, rfl, by simp [World.putObj], fun k hk => World.putObj_heap_other (by have := k4.size; omega)⟩⟩
    case stop =>
      intro _ _ _ _ _ _ hf
      exact hf.elim
  · have hm0 : mvalid xs = false := by simpa [mvalid] using h1
    have HM := Lib.hid hm0
    have HS := Lib.hid (show ringsB xs = [] from if_neg (by rw [hm0]; decide))
    have HT := Lib.hid (tableOf_no xs h1 v w hx)
    clear h1 hx hm0
    go_enter Tryz.func12, Tryz.ntmps12
    go_wp2_with fail
    refine HT.out.mono ?_
    rintro e w1 ⟨rfl, hb1⟩
    have hs1 := hb1.size
    go_wp2
    go_ret2
    exact ⟨_, by rw [HM.out]; rfl, by rw [HS.out]; exact ⟨rfl, .inl ⟨rfl, rfl⟩⟩, by (repeat' (first | (with_reducible exact Below.refl _ _) | (with_reducible assumption) | (with_reducible refine Below.alloc ?_ ?_ _) | (with_reducible refine Below.drew ?_) | (with_reducible refine Below.setCell ?_ ?_ _) | (with_reducible exact Nat.le_refl _) | omega | ((repeat (first | rewrite [World.size_alloc] | rewrite [World.size_setCell] | rewrite [World.size_drew])); omega) | (simp; omega) | (simp; done)))⟩
end Go.Proofs.YteadhnpmmpninaaGreat
namespace Go.PS
open Go.PM Go.RowKit Go.PW
theorem rows_neS {w : World} {base base' : Nat} {e e' : TypeId} {size size' n n' : Nat} {v v' : Value} {cs cs' : List Value} (h : w.ownsRow base e size v n cs) (h' : w.ownsRow base' e' size' v' n' cs') (hne : e ≠ e') : v.ownBlock ≠ v'.ownBlock ∨ v'.ownBlock = none := by
  rcases h'.2 with ⟨rfl, _⟩ | ⟨g, cap, cur, rfl, _, hg, _⟩
  · exact .inr rfl
  · refine .inl fun e1 => ?_
    rcases h.2 with ⟨rfl, _⟩ | ⟨g2, cap2, cur2, rfl, _, hg2, _⟩
    · cases e1
    · cases e1
      rw [hg] at hg2
      cases hg2
      exact hne rfl
theorem prs_at : ∀ (r : List Nat) (j : Nat) (h : j + 1 < r.length), (prs r)[j]? = some (r[j], r[j + 1])
  | a :: b :: l, 0, _ => rfl
  | a :: b :: l, j + 1, h => by
    have := prs_at (b :: l) j (by simpa using h)
    simpa [prs] using this
  | [_], j, h => by simp at h
  | [], j, h => by simp at h
theorem prs_take (r : List Nat) (j : Nat) (h : j + 1 < r.length) : (prs r).take (j + 1) = (prs r).take j ++ [(r[j], r[j + 1])] := by
  have h1 := prs_at r j h
  have h2 := (List.getElem?_eq_some_iff.1 h1)
  rw [List.take_succ_eq_append_getElem h2.1, h2.2]
theorem txt_ext (r : List Nat) (j : Nat) (h : j < r.length) (h9 : r[j] < 9) : (txt r).extract j (j + 1) = nm r[j] := by
  rw [extract_one _ _ (by rw [txt_size]; exact h), txt_list, List.getD_eq_getElem?_getD, List.getElem?_map, List.getElem?_eq_getElem h, ← sn_nm _ h9]; rfl
/-- the swaps of the first i rings -/
def rgS (rs : List (List Nat)) (i : Nat) : List (Nat × Nat) := (rs.take i).flatMap prs
theorem rgS_step (rs : List (List Nat)) (i : Nat) (h : i < rs.length) : rgS rs (i + 1) = rgS rs i ++ prs rs[i] := by
  unfold rgS; rw [take_snoc rs i h, List.flatMap_append]; simp
theorem rgS_full (rs : List (List Nat)) : rgS rs rs.length = rs.flatMap prs := by unfold rgS; rw [List.take_length]
theorem ownT_at {w : World} {B : Nat} {e : TypeId} {A : Option Addr} {n cap : Nat} {ts : List ByteArray} (h : w.ownsRow B e 1 (.slice A n cap) n (tcells ts)) (k : Nat) (hk : k < ts.length) (hn : ts.length = n) : ∃ b off, A = some ⟨b, off, none⟩ ∧ b < w.heap.size ∧ w.cell? ⟨b, off + k, none⟩ = some (.string ts[k]) := by
  obtain ⟨A', cap', e1, _, _, _, hr⟩ := Rd.of_own h
  cases e1
  obtain ⟨b, off, eA, hb, hcell⟩ := hr (by omega)
  exact ⟨b, off, eA, hb, hcell k _ (by unfold tcells; rw [List.getElem?_map, List.getElem?_eq_getElem hk]; rfl)⟩
structure RsOk (rs : List (List Nat)) : Prop where
  two : ∀ r ∈ rs, 2 ≤ r.length
  low : ∀ r ∈ rs, ∀ i (h : i < r.length), r[i] < 9
  len : rs.length ≤ 9
  nine : ∀ r ∈ rs, r.length ≤ 9
theorem rsOk {f : Nat → ByteArray} (hf : SV f) : RsOk (ringsF (nxT f) 9) := by
  refine ⟨fun r hr => (PO.ringQ f hf hr).two, fun r hr => (PO.ringQ f hf hr).low, (ringsF_lt (nice hf) 9 (Nat.le_refl _)).2.1, fun r hr => ?_⟩
  have hq := PO.ringQ f hf hr
  refine PW.nodup_le r 9 hq.nodup fun a ha => ?_
  obtain ⟨i, hi⟩ := List.getElem?_of_mem ha
  have hil := (List.getElem?_eq_some_iff.1 hi).1
  rw [List.getElem?_eq_getElem hil] at hi
  rw [← Option.some.inj hi]; exact hq.low i hil
theorem rgS_len {rs : List (List Nat)} (h : RsOk rs) : ∀ i, i ≤ rs.length → (rgS rs i).length ≤ 9 * i
  | 0, _ => by simp [rgS]
  | i + 1, hi => by
    have ih := rgS_len h i (by omega)
    rw [rgS_step rs i (by omega), List.length_append, prs_len]
    have := h.nine _ (List.getElem_mem (show i < rs.length by omega))
    omega
end Go.PS
namespace Go.Proofs.YteadhnpmmpninaaGreat
open Go.RowKit Go.PM Go.PS Go.PW Go.Lib

theorem results_stp4 (fn : Func) (hr : fn.results = #[.cell 4 47]) (W : World) (b : Nat) (k : Int) (a c : ByteArray) (hA : At W b 47 #[.int .i64 k, .string a, .string c]) (tmps : Array Value) (h2 : tmps.getD 4 undef = .pointer (some ⟨b, 0, none⟩)) :
    (results fn tmps).run Tryz.prog W = .ok (.agg #[.int .i64 k, .string a, .string c]) W := by
  have q0 := hA.cell 0
  have q1 := hA.cell 1
  have q2 := hA.cell 2
  simp at q0 q1 q2
  simp only [Array.getD_eq_getD_getElem?] at h2
  simp [results, hr, go_sem, h2, q0, q1, q2]
theorem l7Swap_c (x y : ByteArray) (w : World) :
    Calls Tryz.prog 76 #[.string x, .string y] w fun e w' => e = .returned (.agg #[.int .i64 1, .string x, .string y]) ∧ Below w.heap.size w w' := by
  go_enter Tryz.func76, Tryz.ntmps76
  go_wp2
  refine bodyPost_ret (v := .agg #[.int .i64 1, .string x, .string y]) (results_stp4 _ Tryz.results76 _ w.heap.size _ _ _ (At.new _ _ _) _ rfl) rfl ⟨rfl, (Below.refl _ _).alloc (Nat.le_refl _) _⟩
set_option maxRecDepth 100000 in
set_option maxHeartbeats 3000000 in
theorem l7Rings_c (xs : List Mv) (h1 : MV xs) (v : Value) (w : World) (hx : RdM w v xs) :
    Calls Tryz.prog 35 #[v] w fun e w' => ∃ v', e = .returned v' ∧ w'.ownsRow w.heap.size 47 3 v' (swL ((ringsF (nxT (tabOf xs)) 9).flatMap prs)).length (scells (swL ((ringsF (nxT (tabOf xs)) 9).flatMap prs))) ∧ Below w.heap.size w w' := by
  have hf := SV_tab h1
  have hE := World.ownsRow_lit (e := 47) (base := w.heap.size) (size := 3) w #[] 0 (Nat.le_refl _) (Nat.zero_le _) rfl
  have hb0 : Below w.heap.size w (w.alloc (.cells #[] 47)) := (Below.refl _ _).alloc (Nat.le_refl _) _
  have HL := Lib.hid (l3Rings_c xs h1 v _ (hx.below hb0))
  have hok := rsOk hf
  have HRT : Hid (ringsT (nxT (tabOf xs)) 9 = (ringsF (nxT (tabOf xs)) 9).map txt) := rfl
  rw [HRT.out] at HL
  clear HRT hx hf h1
  generalize ringsF (nxT (tabOf xs)) 9 = rs at *
  have HFU := Lib.hid (rgS_full rs)
  rw [← HFU.out]
  go_enter Tryz.func35, Tryz.ntmps35
  go_wp2_with (go_at_call 36; refine HL.out.mono ?_; rintro e w1 ⟨v1, rfl, ho1, hb1⟩; refine held ?_)
  unfold Held
  have hE1 := own_keep hE hb1
  have hB1 := hb0.trans (hb1.mono hb0.size)
  have hs1 := hB1.size
  have hlm : (rs.map txt).length = rs.length := List.length_map ..
  rw [hlm] at ho1
  have hr9 := hok.len
  obtain ⟨A, cap, rfl, hn1, hc1, _⟩ := RdT.open (show RdT w1 v1 (rs.map txt) by unfold RdT; rw [hlm]; exact Rd.of_own ho1)
  rw [hlm] at ho1 hn1 hc1
  rw [hlm]
  have HOK := Lib.hid hok
  have HLEN := Lib.hid (fun i hi => rgS_len hok i hi)
  clear hE hb0 HL hb1 hok hlm
  go_wp2
  go_loopw [3, 5, 6, 11] (fun o _ _ i wr => ∃ (k : Nat), k ≤ rs.length ∧ i = .int .i64 k ∧ wr.ownsRow w.heap.size 47 3 o (swL (rgS rs k)).length (scells (swL (rgS rs k))) ∧ Below w.heap.size w wr ∧ wr.ownsRow (w.alloc (.cells #[] 47)).heap.size 9 1 (.slice A rs.length cap) rs.length (tcells (rs.map txt))) (fun _ _ _ i _ => rs.length - (RowKit.intOf i).toNat)
  case atStart => exact ⟨0, by omega, rfl, hE1, hB1, ho1⟩
  case round =>
    obtain ⟨k, hk, rfl, ho, hb, hy⟩ := hrel
    have hbs := hb.size
    by_cases hlt : k < rs.length
    · obtain ⟨b, off, rfl, hbl, hd⟩ := ownT_at hy k (by simpa using hlt) (by simp)
      rw [List.getElem_map] at hd
      have HST := Lib.hid (rgS_step rs k hlt)
      have htwo := HOK.out.two _ (List.getElem_mem hlt)
      have hnin := HOK.out.nine _ (List.getElem_mem hlt)
      have HLO := Lib.hid (HOK.out.low _ (List.getElem_mem hlt))
      have hpl := HLEN.out k hk
      have hrl := (prs_len rs[k])
      generalize hrk : rs[k] = r at *
      have hts : (txt r).size = r.length := txt_size r
      have HEX : Hid (∀ j (hj : j < r.length), (txt r).extract j (j + 1) = nm r[j]) := fun j hj => txt_ext r j hj (HLO.out j hj)
      have HPT := Lib.hid (fun j hj => prs_take r j hj)
      have HPF : Hid ((prs r).take (r.length - 1) = prs r) := by show _ = _; rw [← hrl, List.take_length]
      have i0 : (0 : Int) ≤ (k : Int) := by omega
      have i1 : (k : Int) < (rs.length : Int) := by omega
      clear hrk hrl
      generalize txt r = t at *
      generalize rgS rs k = pr at *
      have isub : ((t.size : Int) - 1) = ((r.length - 1 : Nat) : Int) := by omega
      generalize hrn : r.length - 1 = rn at *
      have hrn9 : rn ≤ 8 := by omega
      have hrl : r.length = rn + 1 := by omega
      go_wp2
      rename World => wo
      go_loopw [3, 6, 18] (fun o _ j wr => ∃ (m : Nat), m ≤ rn ∧ j = .int .i64 m ∧ wr.ownsRow w.heap.size 47 3 o (swL (pr ++ (prs r).take m)).length (scells (swL (pr ++ (prs r).take m))) ∧ Below w.heap.size w wr ∧ wr.ownsRow (w.alloc (.cells #[] 47)).heap.size 9 1 (.slice (some ⟨b, off, none⟩) rs.length cap) rs.length (tcells (rs.map txt))) (fun _ _ j _ => rn - (RowKit.intOf j).toNat)
      case atStart => exact ⟨0, by omega, rfl, by simpa using ho, hb, hy⟩
      case round =>
        obtain ⟨m, hm, rfl, hom, hbm, hym⟩ := hrel
        have hbms := hbm.size
        by_cases hml : m < rn
        · have hex1 := HEX.out m (by omega)
          have hex2 := HEX.out (m + 1) (by omega)
          have hpt := HPT.out m (by omega)
          have hlen : (swL (pr ++ (prs r).take m)).length ≤ 1000 := by
            rw [swL_len, List.length_append]
            have := List.length_take_le m (prs r)
            omega
          have HNX : Hid (swL (pr ++ (prs r).take (m + 1)) = swL (pr ++ (prs r).take m) ++ [((1, nm r[m], nm r[m + 1]) : St)]) := by
            show _ = _
            rw [hpt, ← List.append_assoc, swL_app _ [_]]; rfl
          have n0 : (0 : Int) ≤ (m : Int) := by omega
          have n1 : IntKind.i64.wrap ((m : Int) + 1) = (m : Int) + 1 := IntWalk.i64_in _ ⟨by omega, by omega⟩
          have n2 : IntKind.i64.wrap ((m : Int) + 2) = (m : Int) + 2 := IntWalk.i64_in _ ⟨by omega, by omega⟩
          have n3 : ((m : Int) + 1).toNat = m + 1 := by omega
          have n4 : ((m : Int) + 2).toNat = m + 1 + 1 := by omega
          have n5 : (m : Int) + 1 ≤ (t.size : Int) := by omega
          have n6 : (m : Int) + 2 ≤ (t.size : Int) := by omega
          have n7 : (m : Int) ≤ (m : Int) + 1 := by omega
          have n8 : (m : Int) + 1 ≤ (m : Int) + 2 := by omega
          have n9 : (0 : Int) ≤ (m : Int) + 1 := by omega
          clear hpt
          generalize swL (pr ++ (prs r).take m) = ys at *
          generalize nm r[m] = a1 at *
          generalize nm r[m + 1] = a2 at *
          go_wp2
          refine wpIn_wide.1 (region_late2 (m := 0) (F := Fence.wide) (C := fun w' => w' = wr.drew) (D := fun _ => True) 12 2 rfl (by kernel_rfl) (by kernel_rfl) _ (by rfl) (by simp) u3 (by intro _ _ _ h; exact h) (yieldsD_move (by rfl) _ (by rfl) u3 (by rfl)) (fun _ _ => trivial) rfl ?_)
          simp only [List.take_succ_cons, List.take_zero, List.drop_succ_cons, List.drop_zero, Nat.reduceSub, Nat.reduceAdd]
          simp only [Act.put, List.setIfInBounds_toArray, List.set_cons_succ, List.set_cons_zero]
          repeat (gi_big_quiet_step (fail))
          refine wpQuietIn_nil ?_
          intro w' hw'
          subst hw'
          refine ⟨trivial, op_k (fun K hK => ?_)⟩
          go_simp
          refine ⟨trivial, rfl, callsIn_wide.2 ((l7Swap_c _ _ _).mono ?_)⟩
          rintro e w3 ⟨rfl, hb3⟩
          refine hK _ _ ?_
          clear hK K
          refine ⟨trivial, ?_⟩
          refine sliceIn_st (.tmp 33) rfl 1 a1 a2 (by rfl) ?_
          refine ⟨trivial, ?_⟩
          have hbd : Below w.heap.size w wr.drew := hbm.drew
          have hB3 := hbd.trans (hb3.mono hbms)
          have hal : Below w3.heap.size w3 (w3.alloc (.cells #[.int .i64 1, .string a1, .string a2] 47)) := (Below.refl _ _).alloc (Nat.le_refl _) _
          have hom3 := own_keep (own_keep (show wr.drew.ownsRow w.heap.size 47 3 u3 ys.length (scells ys) from hom) hb3) hal
          have hym3 := own_keep (own_keep (show wr.drew.ownsRow (w.alloc (.cells #[] 47)).heap.size 9 1 (.slice (some ⟨b, off, none⟩) rs.length cap) rs.length (tcells (rs.map txt)) from hym) hb3) hal
          have hs3 := hB3.size
          refine listIn_st rfl (.tmp 21) (.tmp 34) rfl w.heap.size u3 ys (1, a1, a2) ⟨w3.heap.size, 0, none⟩ 1 (by rfl) (by rfl) hom3 (three_new w3 _ _ _ _) (by omega) (by simp; omega) ?_
          intro v' w5 hown5 hgrow5
          have hb5 := (hB3.alloc hs3 (.cells #[.int .i64 1, .string a1, .string a2] 47)).trans (below_grown hgrow5 (B := w.heap.size) (by simp; omega) (own_block_ge hom))
          have hy5 := own_grown hym3 hgrow5 (rows_neS hym3 hom3 (by decide))
          clear hgrow5 hom3 hym3 hal hB3 hb3 hbd hom hym hbm
          gi_wp2
          go_wp2
          go_roundw
          case rel => exact ⟨m + 1, by omega, by go_num, by rw [HNX.out]; exact hown5, hb5, hy5⟩
          case measure => simp [RowKit.intOf]; omega
        · have hme : m = rn := by omega
          subst hme
          rw [HPF.out, ← HST.out] at hom
          go_wp2
          go_roundw
          case rel => exact ⟨k + 1, by omega, by go_num, hom, hbm, hym⟩
          case measure => simp [RowKit.intOf]; omega
    · have hke : k = rs.length := by omega
      subst hke
      go_wp2
      go_ret
      exact ⟨_, rfl, ho, hb⟩
end Go.Proofs.YteadhnpmmpninaaGreat
namespace Go.PS
open Go.PM Go.RowKit Go.PW
/-- how many steps moves take with swaps; how many swaps an exchange takes; its sign -/
def cwI (xs : List Mv) : Int := if mvalid xs then ((busyF xs 9).length : Int) - ((ringsB xs).length : Int) else -1
def csI (xs : List Mv) : Int := if exchB xs then cwI xs else -1
def sgI (xs : List Mv) : Int := if exchB xs then (if (swM xs).length % 2 = 0 then 1 else -1) else 0
theorem exch_mv {xs : List Mv} (h : exchB xs = true) : mvalid xs = true := by
  have := (exchB_iff.1 h).1
  simpa [mvalid] using this
theorem ringsB_len {xs : List Mv} (h : mvalid xs = true) : (ringsB xs).length = (ringsF (nxT (tabOf xs)) 9).length := by
  unfold ringsB ringsT; rw [if_pos h, List.length_map]
theorem ringsB_le (xs : List Mv) : (ringsB xs).length ≤ 9 := by
  rcases Bool.eq_false_or_eq_true (mvalid xs) with h | h
  · rw [ringsB_len h]
    exact (ringsF_lt (nice (SV_tab (by simpa [mvalid] using h))) 9 (Nat.le_refl _)).2.1
  · unfold ringsB; rw [if_neg (by rw [h]; decide)]; simp
theorem flat_low {f : Nat → ByteArray} (hf : SV f) : ∀ x ∈ (ringsF (nxT f) 9).flatten, x < 9 ∧ sx f x ≠ x := fun x hx => by
  obtain ⟨r, hr, hxr⟩ := List.mem_flatten.1 hx
  have hq := PO.ringQ f hf hr
  obtain ⟨i, hi⟩ := List.getElem?_of_mem hxr
  have hil := (List.getElem?_eq_some_iff.1 hi).1
  rw [List.getElem?_eq_getElem hil] at hi
  have e := Option.some.inj hi
  have h2 := hq.two
  refine ⟨by rw [← e]; exact hq.low i hil, fun es => ?_⟩
  have h3 := hq.next i hil
  rw [e, es, ← e] at h3
  have h4 := (List.getElem_inj hq.nodup).1 h3
  by_cases h5 : i + 1 < r.length
  · rw [Nat.mod_eq_of_lt h5] at h4; omega
  · rw [show i + 1 = r.length by omega, Nat.mod_self] at h4; omega
theorem busy_flat {xs : List Mv} (h : exchB xs = true) : (busyF xs 9).length = (ringsF (nxT (tabOf xs)) 9).flatten.length := by
  obtain ⟨h1, h2⟩ := exchB_iff.1 h
  have hf := SV_tab h1
  have hn := nice hf
  have hbf : (busyF xs 9).length = ((List.range 9).filter (busyH xs)).length := by unfold busyF; rw [List.length_map]
  have hbz : ∀ p, p < 9 → (busyH xs p = true ↔ sx (tabOf xs) p ≠ p) := fun p hp => by
    unfold busyH
    rw [decide_eq_true_eq, ← srcM_nm h1 hp, ne_eq, src_self hf hp]
  rw [hbf]
  refine Nat.le_antisymm ?_ ?_
  · refine PM.nodup_le _ _ (List.nodup_range.filter _) fun a ha => ?_
    obtain ⟨ha1, ha2⟩ := List.mem_filter.1 ha
    have ha9 : a < 9 := by simpa using ha1
    refine PO.ringsF_in hn ha9 (PO.exch_ring hf h2 ha9 fun e => ?_) 9 ha9
    exact (hbz a ha9).1 ha2 ((src_self hf ha9).1 e)
  · refine PM.nodup_le _ _ (PO.ringsF_nodup hn 9 (Nat.le_refl _)) fun a ha => ?_
    have := flat_low hf a ha
    exact List.mem_filter.2 ⟨by simpa using this.1, (hbz a this.1).2 this.2⟩
theorem cs_len {xs : List Mv} (h : exchB xs = true) : csI xs = ((swM xs).length : Int) := by
  obtain ⟨h1, h2⟩ := exchB_iff.1 h
  have hm := exch_mv h
  unfold csI cwI
  rw [if_pos h, if_pos hm, busy_flat h, ringsB_len hm, swM_rings h]
  have := prs_count _ (rings_pos (SV_tab h1))
  omega
theorem cs_no {xs : List Mv} (h : exchB xs = false) : csI xs = -1 := if_neg (by rw [h]; decide)
end Go.PS
namespace Go.Proofs.YteadhnpmmpninaaGreat
open Go.RowKit Go.PM Go.PS Go.PW Go.Lib

set_option maxRecDepth 100000 in
set_option maxHeartbeats 1000000 in
theorem imCountWithSwaps_c (xs : List Mv) (v : Value) (w : World) (hx : RdM w v xs) (hn' : xs.length ≤ 1048576) :
    Calls Tryz.prog 8 #[v] w fun e w' => e = .returned (.int .i64 (cwI xs)) ∧ Below w.heap.size w w' := by
  have HN : Hid (cwI xs = if mvalid xs then ((busyF xs 9).length : Int) - ((ringsB xs).length : Int) else -1) := rfl
  have HI : Hid (countI xs = if mvalid xs then ((busyF xs 9).length : Int) else -1) := rfl
  have hl1 := busyF_len xs 9
  have hl2 := ringsB_le xs
  have HC := Lib.hid (imRingsOf_c xs v w hx)
  have HB := Lib.hid (fun W (hW : Below w.heap.size w W) => imCountBusy_c xs v W (hx.below hW) hn')
  go_enter Tryz.func8, Tryz.ntmps8
  go_wp2_with fail
  refine HC.out.mono ?_
  rintro e w1 ⟨v', rfl, ho, hb⟩
  obtain ⟨A, cap, rfl, _⟩ := Rd.of_own ho
  clear ho HC hx
  have hs1 := hb.size
  rcases Bool.eq_false_or_eq_true (mvalid xs) with h1 | h1
  · have hci := HI.out
    rw [h1, if_pos rfl] at hci
    have hcb := HB.out _ hb
    rw [hci] at hcb
    generalize (ringsB xs).length = n at *
    generalize (busyF xs 9).length = m at *
    go_wp2_with (go_at_call 14; refine hcb.mono ?_; rintro e w2 ⟨rfl, hb2⟩; refine held ?_)
    unfold Held
    have hb3 := hb.trans (hb2.mono hs1)
    clear hb2 hcb hci
    go_wp2
    go_ret
    exact ⟨by rw [HN.out, h1, if_pos rfl]; rfl, hb3⟩
  · go_wp2
    go_ret
    exact ⟨by rw [HN.out, h1]; rfl, hb⟩
set_option maxRecDepth 100000 in
set_option maxHeartbeats 1000000 in
theorem spCountWithSwaps_c (xs : List Mv) (v : Value) (w : World) (hx : RdM w v xs) (hz : ∀ m ∈ xs, m.1.size ≤ 9223372036854775807 ∧ m.2.size ≤ 9223372036854775807) (hn' : xs.length ≤ 1048576) :
    Calls Tryz.prog 10 #[v] w fun e w' => e = .returned (.int .i64 (cwI xs)) ∧ Below w.heap.size w w' := by
  have HN : Hid (cwI xs = if mvalid xs then ((busyF xs 9).length : Int) - ((ringsB xs).length : Int) else -1) := rfl
  have hl1 := busyF_len xs 9
  have hl2 := ringsB_le xs
  have HX := Lib.hid (fun W (hW : Below w.heap.size w W) => hx.below hW)
  have HV := Lib.hid (spMovesValid_c xs v w hx hz hn')
  rcases Bool.eq_false_or_eq_true (mvalid xs) with h1 | h1
  · have HB := Lib.hid (fun W (hW : RdM W v xs) => l1Busy_c xs v W hW)
    have HL := Lib.hid (fun W (hW : RdM W v xs) => l3Rings_c xs (by simpa [mvalid] using h1) v W hW)
    have HRB : Hid (ringsT (nxT (tabOf xs)) 9 = ringsB xs) := by show _ = _; unfold ringsB; rw [if_pos h1]
    rw [HRB.out] at HL
    rw [h1] at HV HN
    clear hx hz h1 HRB
    generalize ringsB xs = rs at *
    generalize busyF xs 9 = bs at *
    go_enter Tryz.func10, Tryz.ntmps10
    go_wp2_with fail
    refine HV.out.mono ?_
    rintro e w1 ⟨rfl, hb1⟩
    have hs1 := hb1.size
    have hx1 := HX.out _ hb1
    go_wp2_with (go_at_call 33; refine (HB.out _ hx1).mono ?_; rintro e w2 ⟨v2, rfl, ho2, hb2⟩; refine held ?_)
    unfold Held
    have hB2 := hb1.trans (hb2.mono hs1)
    have hx2 := HX.out _ hB2
    have hs2 := hB2.size
    obtain ⟨A2, cap2, rfl, _⟩ := Rd.of_own ho2
    clear ho2 hx1 hb2
    go_wp2_with (go_at_call 36; refine (HL.out _ hx2).mono ?_; rintro e w3 ⟨v3, rfl, ho3, hb3⟩; refine held ?_)
    unfold Held
    have hB3 := hB2.trans (hb3.mono hs2)
    obtain ⟨A3, cap3, rfl, _⟩ := Rd.of_own ho3
    clear ho3 hx2 hb3
    generalize rs.length = n at *
    generalize bs.length = m at *
    go_wp2
    go_ret
    exact ⟨by rw [HN.out]; rfl, hB3⟩
  · rw [h1] at HV HN
    clear hx hz
    go_enter Tryz.func10, Tryz.ntmps10
    go_wp2_with fail
    refine HV.out.mono ?_
    rintro e w1 ⟨rfl, hb1⟩
    go_wp2
    go_ret
    exact ⟨by rw [HN.out]; rfl, hb1⟩
end Go.Proofs.YteadhnpmmpninaaGreat
namespace Go.PM
open Go.RowKit
theorem beqB (a b : ByteArray) : (a == b) = (a.data == b.data) := by cases a; cases b; rfl
instance lawB : LawfulBEq ByteArray where
  eq_of_beq {a b} h := by
    rw [beqB] at h
    exact ByteArray.ext (eq_of_beq h)
  rfl {a} := by rw [beqB]; exact beq_self_eq_true _
/-- how many of the moves read a place -/
def rdN (xs : List Mv) (a : ByteArray) : Nat := (xs.map (·.2)).count a
/-- a move whose place none reads -/
def freeB (xs : List Mv) (m : Mv) : Bool := decide (rdN xs m.1 = 0)
/-- the first move that can be done ahead of all others -/
def aheadI (xs : List Mv) : Option Nat := xs.findIdx? (freeB xs)
def aheadZ (xs : List Mv) : Int := match aheadI xs with
  | some i => (i : Int)
  | none => -1
def spT : ByteArray := ⟨#[116]⟩
/-- moves that read a place read another one instead -/
def instM (a b : ByteArray) (xs : List Mv) : List Mv := xs.map fun m => if m.2 = a then (m.1, b) else m
/-- moves behind one that is done -/
def redM (d : Mv) (xs : List Mv) : List Mv := if isD d.2 = true then xs else instM d.2 d.1 xs
theorem isP_cases {s : ByteArray} (h : isP s = true) : isD s = false ∧ s ≠ spT := by
  obtain ⟨h1, h2⟩ := pidx_spec h
  rw [← h2]
  generalize pidx s = p at h1
  match p, h1 with
  | 0, _ | 1, _ | 2, _ | 3, _ | 4, _ | 5, _ | 6, _ | 7, _ | 8, _ => decide +kernel
theorem isD_cases {s : ByteArray} (h : isD s = true) : isP s = false ∧ s ≠ spT := by
  refine ⟨?_, fun e => ?_⟩
  · rcases Bool.eq_false_or_eq_true (isP s) with h1 | h1
    · rw [(isP_cases h1).1] at h; cases h
    · exact h1
  · subst e; revert h; decide +kernel
theorem spT_cases : isP spT = false ∧ isD spT = false := by decide +kernel
theorem instM_len (a b : ByteArray) (xs : List Mv) : (instM a b xs).length = xs.length := by simp [instM]
theorem redM_len (d : Mv) (xs : List Mv) : (redM d xs).length = xs.length := by
  unfold redM; split
  · rfl
  · exact instM_len _ _ _
theorem instM_keys (a b : ByteArray) (xs : List Mv) : (instM a b xs).map (·.1) = xs.map (·.1) := by
  unfold instM
  rw [List.map_map]
  refine List.map_congr_left fun m _ => ?_
  show (if m.2 = a then (m.1, b) else m).1 = m.1
  split <;> rfl
theorem redM_keys (d : Mv) (xs : List Mv) : (redM d xs).map (·.1) = xs.map (·.1) := by
  unfold redM; split
  · rfl
  · exact instM_keys _ _ _
theorem instM_mem {a b : ByteArray} {xs : List Mv} {m : Mv} (h : m ∈ instM a b xs) : ∃ x ∈ xs, m.1 = x.1 ∧ ((x.2 = a ∧ m.2 = b) ∨ (x.2 ≠ a ∧ m = x)) := by
  unfold instM at h
  obtain ⟨x, hx, e⟩ := List.mem_map.1 h
  by_cases hxa : x.2 = a
  · rw [if_pos hxa] at e; subst e
    exact ⟨x, hx, rfl, .inl ⟨hxa, rfl⟩⟩
  · rw [if_neg hxa] at e; subst e
    exact ⟨x, hx, rfl, .inr ⟨hxa, rfl⟩⟩
theorem instM_at (a b : ByteArray) (xs : List Mv) (k : Nat) (hk : k < (instM a b xs).length) : (instM a b xs)[k] = if (xs[k]'(by rwa [instM_len] at hk)).2 = a then ((xs[k]'(by rwa [instM_len] at hk)).1, b) else xs[k]'(by rwa [instM_len] at hk) := by
  simp only [instM, List.getElem_map]
theorem instM_none {a b : ByteArray} {xs : List Mv} (h : rdN xs a = 0) : instM a b xs = xs := by
  unfold instM
  have : ∀ m ∈ xs, (if m.2 = a then (m.1, b) else m) = m := fun m hm => by
    rw [if_neg]
    intro e
    unfold rdN at h
    rw [List.count_eq_zero] at h
    exact h (List.mem_map.2 ⟨m, hm, e⟩)
  rw [List.map_congr_left this, List.map_id']
theorem instM_rdN (a b : ByteArray) (hab : b ≠ a) : ∀ xs : List Mv, rdN (instM a b xs) a = 0 ∧ rdN (instM a b xs) b = rdN xs b + rdN xs a ∧ ∀ c, c ≠ a → c ≠ b → rdN (instM a b xs) c = rdN xs c
  | [] => ⟨rfl, rfl, fun _ _ _ => rfl⟩
  | x :: xs => by
    obtain ⟨h1, h2, h3⟩ := instM_rdN a b hab xs
    have e : instM a b (x :: xs) = (if x.2 = a then (x.1, b) else x) :: instM a b xs := rfl
    unfold rdN at *
    rw [e, List.map_cons, List.map_cons]
    by_cases hx : x.2 = a
    · rw [if_pos hx]
      refine ⟨?_, ?_, fun c hc hc2 => ?_⟩
      · rw [List.count_cons_of_ne (by exact hab), h1]
      · rw [List.count_cons_self, h2, hx, List.count_cons_of_ne (by exact fun e => hab e.symm), List.count_cons_self]; omega
      · rw [List.count_cons_of_ne (by exact fun e => hc2 e.symm), h3 c hc hc2, hx, List.count_cons_of_ne (by exact fun e => hc e.symm)]
    · rw [if_neg hx]
      refine ⟨?_, ?_, fun c hc hc2 => ?_⟩
      · rw [List.count_cons_of_ne hx, h1]
      · rw [List.count_cons, h2, List.count_cons_of_ne hx, List.count_cons]; omega
      · rw [List.count_cons, h3 c hc hc2, List.count_cons]
theorem rdN_zero {xs : List Mv} {a : ByteArray} : rdN xs a = 0 ↔ ∀ m ∈ xs, m.2 ≠ a := by
  unfold rdN
  rw [List.count_eq_zero]
  constructor
  · intro h m hm e; exact h (List.mem_map.2 ⟨m, hm, e⟩)
  · intro h hm
    obtain ⟨m, hm, e⟩ := List.mem_map.1 hm
    exact h m hm e
theorem rdN_erase (xs : List Mv) (i : Nat) (hi : i < xs.length) (a : ByteArray) : rdN xs a = rdN (xs.eraseIdx i) a + if xs[i].2 = a then 1 else 0 := by
  induction xs generalizing i with
  | nil => simp at hi
  | cons x xs ih =>
    cases i with
    | zero =>
      unfold rdN
      rw [List.eraseIdx_zero, List.tail_cons, List.map_cons, List.count_cons]
      simp
    | succ i =>
      have := ih i (by simpa using hi)
      unfold rdN at this ⊢
      rw [List.eraseIdx_cons_succ, List.map_cons, List.map_cons, List.count_cons, List.count_cons, this]
      simp only [List.getElem_cons_succ]; omega
theorem erase_mem {α : Type _} {xs : List α} {i : Nat} {m : α} (h : m ∈ xs.eraseIdx i) : m ∈ xs := (List.eraseIdx_sublist xs i).subset h
theorem erase_key {xs : List Mv} (hn : (xs.map (·.1)).Nodup) {i : Nat} (hi : i < xs.length) : ∀ m ∈ xs.eraseIdx i, m.1 ≠ xs[i].1 := by
  induction xs generalizing i with
  | nil => simp at hi
  | cons x xs ih =>
    rw [List.map_cons, List.nodup_cons] at hn
    intro m hm e
    cases i with
    | zero =>
      rw [List.eraseIdx_zero, List.tail_cons] at hm
      exact hn.1 (List.mem_map.2 ⟨m, hm, by simpa using e⟩)
    | succ i =>
      rw [List.eraseIdx_cons_succ, List.mem_cons] at hm
      simp only [List.getElem_cons_succ] at e
      rcases hm with rfl | hm
      · exact hn.1 (List.mem_map.2 ⟨xs[i]'(by simpa using hi), List.getElem_mem _, e.symm⟩)
      · exact ih hn.2 (by simpa using hi) m hm e
theorem erase_or {α : Type _} {xs : List α} {i : Nat} (hi : i < xs.length) {m : α} (h : m ∈ xs) : m = xs[i] ∨ m ∈ xs.eraseIdx i := by
  induction xs generalizing i with
  | nil => simp at hi
  | cons x xs ih =>
    cases i with
    | zero =>
      rw [List.mem_cons] at h
      rcases h with rfl | h
      · exact .inl rfl
      · exact .inr (by simpa using h)
    | succ i =>
      rw [List.mem_cons] at h
      rw [List.eraseIdx_cons_succ, List.mem_cons]
      rcases h with rfl | h
      · exact .inr (.inl rfl)
      · rcases ih (by simpa using hi) h with e | e
        · exact .inl (by simpa using e)
        · exact .inr (.inr e)
/-- moves that wait -/
structure Wt (ws : List Mv) : Prop where
  keys : (ws.map (·.1)).Nodup
  to_ : ∀ m ∈ ws, isP m.1 = true
  from_ : ∀ m ∈ ws, isP m.2 = true ∨ isD m.2 = true ∨ m.2 = spT
  ne : ∀ m ∈ ws, m.1 ≠ m.2
  one : rdN ws spT ≤ 1
theorem aheadI_some {ws : List Mv} {i : Nat} (h : aheadI ws = some i) : ∃ hi : i < ws.length, rdN ws ws[i].1 = 0 := by
  unfold aheadI at h
  obtain ⟨h1, h2, _⟩ := List.findIdx?_eq_some_iff_getElem.1 h
  refine ⟨h1, ?_⟩
  unfold freeB at h2
  simpa using h2
theorem aheadI_none {ws : List Mv} (h : aheadI ws = none) : ∀ m ∈ ws, rdN ws m.1 ≠ 0 := by
  intro m hm e
  unfold aheadI at h
  have := List.findIdx?_eq_none_iff.1 h m hm
  unfold freeB at this
  simp [e] at this
theorem Wt.erase {ws : List Mv} (h : Wt ws) (i : Nat) : Wt (ws.eraseIdx i) := by
  refine ⟨h.keys.sublist ((List.eraseIdx_sublist ws i).map _), fun m hm => h.to_ m (erase_mem hm), fun m hm => h.from_ m (erase_mem hm), fun m hm => h.ne m (erase_mem hm), ?_⟩
  refine Nat.le_trans ?_ h.one
  unfold rdN
  exact ((List.eraseIdx_sublist ws i).map _).count_le _
theorem Wt.inst {ws : List Mv} (h : Wt ws) {a b : ByteArray} (_hab : b ≠ a) (hb : isP b = true ∨ b = spT) (hk : ∀ m ∈ ws, m.1 ≠ b) (h1 : rdN (instM a b ws) spT ≤ 1) : Wt (instM a b ws) := by
  refine ⟨by rw [instM_keys]; exact h.keys, fun m hm => ?_, fun m hm => ?_, fun m hm => ?_, h1⟩
  · obtain ⟨x, hx, e, _⟩ := instM_mem hm
    rw [e]; exact h.to_ x hx
  · obtain ⟨x, hx, e, (⟨e1, e2⟩ | ⟨e1, e2⟩)⟩ := instM_mem hm
    · rw [e2]
      rcases hb with hb | hb
      · exact .inl hb
      · exact .inr (.inr hb)
    · rw [e2]; exact h.from_ x hx
  · obtain ⟨x, hx, e, (⟨e1, e2⟩ | ⟨e1, e2⟩)⟩ := instM_mem hm
    · rw [e, e2]; exact hk x hx
    · rw [e2]; exact h.ne x hx
theorem perm_of_sub {α : Type _} [BEq α] [LawfulBEq α] : ∀ (l m : List α), l.Nodup → (∀ a ∈ l, a ∈ m) → m.length ≤ l.length → l.Perm m
  | [], m, _, _, hl => by
    have : m = [] := List.length_eq_zero_iff.1 (by simpa using hl)
    rw [this]
  | a :: l, m, hn, hs, hl => by
    rw [List.nodup_cons] at hn
    have ha : a ∈ m := hs a (by simp)
    have h1 := perm_of_sub l (m.erase a) hn.2 (fun b hb => (List.mem_erase_of_ne (fun (e : b = a) => hn.1 (by rw [← e]; exact hb))).2 (hs b (by simp [hb]))) (by
      rw [List.length_erase_of_mem ha]; simp only [List.length_cons] at hl; omega)
    exact (List.Perm.cons a h1).trans (List.perm_cons_erase ha).symm
/-- where each place waits for a reader, all moves are of closed rings -/
theorem Wt.full {ws : List Mv} (h : Wt ws) (hn : aheadI ws = none) : (∀ m ∈ ws, rdN ws m.1 = 1) ∧ (∀ m ∈ ws, ∃ x ∈ ws, x.1 = m.2) ∧ rdN ws spT = 0 := by
  have hp : (ws.map (·.1)).Perm (ws.map (·.2)) := by
    refine perm_of_sub _ _ h.keys (fun a ha => ?_) (by simp)
    obtain ⟨m, hm, rfl⟩ := List.mem_map.1 ha
    have := aheadI_none hn m hm
    unfold rdN at this
    exact List.count_pos_iff.1 (Nat.pos_of_ne_zero this)
  have hx : ∀ m ∈ ws, ∃ x ∈ ws, x.1 = m.2 := fun m hm => by
    have := hp.mem_iff.2 (List.mem_map.2 ⟨m, hm, rfl⟩ : m.2 ∈ ws.map (·.2))
    obtain ⟨x, hx, e⟩ := List.mem_map.1 this
    exact ⟨x, hx, e⟩
  refine ⟨fun m hm => ?_, hx, ?_⟩
  · unfold rdN
    rw [← hp.count_eq]
    have h1 := (List.nodup_iff_count.1 h.keys) m.1
    have h2 : 0 < (ws.map (·.1)).count m.1 := List.count_pos_iff.2 (List.mem_map.2 ⟨m, hm, rfl⟩)
    omega
  · rw [rdN_zero]
    intro m hm e
    obtain ⟨x, hx, e2⟩ := hx m hm
    exact (isP_cases (h.to_ x hx)).2 (e2.trans e)
theorem Wt.some_ {ws : List Mv} (h : Wt ws) {i : Nat} (hi : i < ws.length) (_hf : rdN ws ws[i].1 = 0) : Wt (redM ws[i] (ws.eraseIdx i)) := by
  unfold redM
  split
  · exact h.erase i
  · next hd =>
    have hm := List.getElem_mem hi
    have hne := h.ne _ hm
    refine (h.erase i).inst hne (.inl (h.to_ _ hm)) (erase_key h.keys hi) ?_
    have ht : ws[i].1 ≠ spT := (isP_cases (h.to_ _ hm)).2
    obtain ⟨r1, r2, r3⟩ := instM_rdN ws[i].2 ws[i].1 hne (ws.eraseIdx i)
    by_cases e : ws[i].2 = spT
    · rw [e] at r1; rw [e, r1]; omega
    · rw [r3 _ (fun e' => e e'.symm) (fun e' => ht e'.symm)]
      exact (h.erase i).one
theorem Wt.none_ {ws : List Mv} (h : Wt ws) (h0 : 0 < ws.length) (hn : aheadI ws = none) : Wt (redM (spT, ws[0].1) ws) ∧ rdN (redM (spT, ws[0].1) ws) spT = 1 := by
  obtain ⟨f1, f2, f3⟩ := h.full hn
  have hm := List.getElem_mem h0
  have hp := isP_cases (h.to_ _ hm)
  have e : redM (spT, ws[0].1) ws = instM ws[0].1 spT ws := by
    unfold redM
    rw [if_neg]
    show ¬ isD ws[0].1 = true
    rw [hp.1]; decide
  obtain ⟨r1, r2, r3⟩ := instM_rdN ws[0].1 spT (fun e => hp.2 e.symm) ws
  have h1 : rdN (instM ws[0].1 spT ws) spT = 1 := by rw [r2, f3, f1 _ hm]
  rw [e]
  exact ⟨h.inst (fun e => hp.2 e.symm) (.inr rfl) (fun m hm => (isP_cases (h.to_ m hm)).2) (by omega), h1⟩
/-- the steps of an order -/
def ordF : Nat → List Mv → List Mv
  | 0, _ => []
  | _ + 1, [] => []
  | n + 1, x :: xs => match aheadI (x :: xs) with
    | some i => match (x :: xs)[i]? with
      | some m => m :: ordF n (redM m ((x :: xs).eraseIdx i))
      | none => []
    | none => (spT, x.1) :: ordF n (redM (spT, x.1) (x :: xs))
theorem ordF_nil (n : Nat) : ordF n [] = [] := by cases n <;> rfl
theorem ordF_some {n : Nat} {ws : List Mv} {i : Nat} (hi : i < ws.length) (h : aheadI ws = some i) : ordF (n + 1) ws = ws[i] :: ordF n (redM ws[i] (ws.eraseIdx i)) := by
  cases ws with
  | nil => simp at hi
  | cons x xs =>
    rw [ordF, h]
    simp only
    rw [List.getElem?_eq_getElem hi]
theorem ordF_none {n : Nat} {ws : List Mv} (h0 : 0 < ws.length) (h : aheadI ws = none) : ordF (n + 1) ws = (spT, ws[0].1) :: ordF n (redM (spT, ws[0].1) ws) := by
  cases ws with
  | nil => simp at h0
  | cons x xs =>
    rw [ordF, h]
    rfl
/-- what is left of an order takes fewer steps than this -/
def muW (ws : List Mv) : Nat := 2 * ws.length + if rdN ws spT = 0 then 1 else 0
theorem muW_some {ws : List Mv} {i : Nat} (hi : i < ws.length) (d : Mv) : muW (redM d (ws.eraseIdx i)) + 1 ≤ muW ws := by
  unfold muW
  rw [redM_len, List.length_eraseIdx_of_lt hi]
  split <;> split <;> omega
theorem muW_none {ws : List Mv} (h : Wt ws) (h0 : 0 < ws.length) (hn : aheadI ws = none) : muW (redM (spT, ws[0].1) ws) + 1 ≤ muW ws := by
  have h1 := (h.none_ h0 hn).2
  have h2 := (h.full hn).2.2
  unfold muW
  rw [redM_len, h1, h2]
  simp
/-- what is taken ahead, as long as there is such a move -/
def takF : Nat → List Mv → List Mv
  | 0, _ => []
  | n + 1, xs => match aheadI xs with
    | some i => match xs[i]? with
      | some m => m :: takF n (xs.eraseIdx i)
      | none => []
    | none => []
theorem takF_some {n : Nat} {ws : List Mv} {i : Nat} (hi : i < ws.length) (h : aheadI ws = some i) : takF (n + 1) ws = ws[i] :: takF n (ws.eraseIdx i) := by
  rw [takF, h]
  simp only
  rw [List.getElem?_eq_getElem hi]
theorem takF_none {n : Nat} {ws : List Mv} (h : aheadI ws = none) : takF n ws = [] := by
  cases n with
  | zero => rfl
  | succ n => rw [takF, h]
theorem takF_len : ∀ n ws, (takF n ws).length ≤ ws.length
  | 0, _ => Nat.zero_le _
  | n + 1, ws => by
    rw [takF]
    cases h : aheadI ws with
    | none => exact Nat.zero_le _
    | some i =>
      obtain ⟨hi, _⟩ := aheadI_some h
      simp only
      rw [List.getElem?_eq_getElem hi]
      have := takF_len n (ws.eraseIdx i)
      rw [List.length_eraseIdx_of_lt hi] at this
      simp only [List.length_cons]; omega
theorem ordF_len : ∀ n ws, (ordF n ws).length ≤ n
  | 0, _ => Nat.le_refl _
  | n + 1, [] => Nat.zero_le _
  | n + 1, x :: xs => by
    rw [ordF]
    split
    · split
      · have := ordF_len n; simp only [List.length_cons]; exact Nat.succ_le_succ (this _)
      · exact Nat.zero_le _
    · simp only [List.length_cons]; exact Nat.succ_le_succ (ordF_len n _)
theorem busyF_Wt {xs : List Mv} (h : MV xs) : Wt (busyF xs 9) := by
  have hl : busyF xs 9 = lsF (fun p => srcM xs (nm p)) 9 := rfl
  have hMV : MV (busyF xs 9) := by rw [hl]; exact lsF_MV (SVal_M h)
  refine ⟨hMV.2, fun m hm => ?_, fun m hm => ?_, fun m hm => ?_, ?_⟩
  · have := hMV.1 m hm
    unfold mok at this; rw [Bool.and_eq_true] at this; exact this.1
  · have := hMV.1 m hm
    unfold mok at this; rw [Bool.and_eq_true] at this
    have h2 := this.2
    unfold isS at h2; rw [Bool.or_eq_true] at h2
    exact h2.elim .inl (fun h => .inr (.inl h))
  · rw [hl] at hm
    obtain ⟨p, _, hne, e⟩ := lsF_mem hm
    rw [e]; exact fun e => hne e.symm
  · have : rdN (busyF xs 9) spT = 0 := by
      rw [rdN_zero]
      intro m hm e
      have := hMV.1 m hm
      unfold mok at this; rw [Bool.and_eq_true] at this
      have h2 := this.2
      rw [e] at h2
      revert h2; decide +kernel
    omega
/-- steps that do moves; moves in an order in which they can be done -/
def ordM (xs : List Mv) : List Mv := if mvalid xs then ordF 19 (busyF xs 9) else []
def takM (xs : List Mv) : List Mv := takF 9 (busyF xs 9)
def wspB (xs : List Mv) : Bool := mvalid xs && decide ((takM xs).length = (busyF xs 9).length)
def wspM (xs : List Mv) : List Mv := if wspB xs then takM xs else []
end Go.PM
namespace Go.PS
open Go.PM Go.RowKit Go.PW
/-- what is left when all has been taken ahead that can be -/
def remF : Nat → List Mv → List Mv
  | 0, ws => ws
  | n + 1, ws => match aheadI ws with
    | some i => remF n (ws.eraseIdx i)
    | none => ws
theorem remF_some {n : Nat} {ws : List Mv} {i : Nat} (h : aheadI ws = some i) : remF (n + 1) ws = remF n (ws.eraseIdx i) := by rw [remF, h]
theorem remF_none {n : Nat} {ws : List Mv} (h : aheadI ws = none) : remF n ws = ws := by
  cases n with
  | zero => rfl
  | succ n => rw [remF, h]
theorem remF_sub : ∀ (n : Nat) (ws : List Mv), (remF n ws).Sublist ws
  | 0, ws => List.Sublist.refl ws
  | n + 1, ws => by
    cases h : aheadI ws with
    | none => rw [remF_none h]; exact List.Sublist.refl ws
    | some i => rw [remF_some h]; exact (remF_sub n _).trans (List.eraseIdx_sublist ws i)
theorem remF_ahead : ∀ (n : Nat) (ws : List Mv), ws.length ≤ n → aheadI (remF n ws) = none
  | 0, ws, hl => by
    have : ws = [] := List.length_eq_zero_iff.1 (by omega)
    rw [this]; rfl
  | n + 1, ws, hl => by
    cases h : aheadI ws with
    | none => rw [remF_none h]; exact h
    | some i =>
      obtain ⟨hi, _⟩ := aheadI_some h
      rw [remF_some h]
      exact remF_ahead n _ (by rw [List.length_eraseIdx_of_lt hi]; omega)
theorem tak_sub : ∀ (n : Nat) (ws : List Mv), ∀ m ∈ takF n ws, m ∈ ws
  | 0, _, m, h => by cases h
  | n + 1, ws, m, h => by
    cases ha : aheadI ws with
    | none => rw [takF_none ha] at h; cases h
    | some i =>
      obtain ⟨hi, _⟩ := aheadI_some ha
      rw [takF_some hi ha] at h
      rcases List.mem_cons.1 h with rfl | h
      · exact List.getElem_mem hi
      · exact erase_mem (tak_sub n _ m h)
theorem tak_rem : ∀ (n : Nat) (ws : List Mv), (ws.map (·.1)).Nodup → (∀ m ∈ ws, m ∈ takF n ws ∨ m ∈ remF n ws) ∧ (∀ a ∈ takF n ws, ∀ b ∈ remF n ws, a.1 ≠ b.1) ∧ (takF n ws).length + (remF n ws).length = ws.length
  | 0, ws, _ => ⟨fun m h => .inr h, fun a h => (by cases h), by simp [takF, remF]⟩
  | n + 1, ws, hk => by
    cases ha : aheadI ws with
    | none =>
      rw [takF_none ha, remF_none ha]
      exact ⟨fun m h => .inr h, fun a h => (by cases h), by simp⟩
    | some i =>
      obtain ⟨hi, _⟩ := aheadI_some ha
      rw [takF_some hi ha, remF_some ha]
      obtain ⟨h1, h2, h3⟩ := tak_rem n (ws.eraseIdx i) (hk.sublist ((List.eraseIdx_sublist ws i).map _))
      refine ⟨fun m hm => ?_, fun a h b hb => ?_, ?_⟩
      · rcases erase_or hi hm with rfl | hm
        · exact .inl (by simp)
        · exact (h1 m hm).imp (fun h => by simp [h]) id
      · rcases List.mem_cons.1 h with rfl | h
        · exact fun e => erase_key hk hi b ((remF_sub n _).subset hb) e.symm
        · exact h2 a h b hb
      · rw [List.length_eraseIdx_of_lt hi] at h3
        simp only [List.length_cons]; omega
/-- a table without the moves that are done -/
def delF (f : Nat → ByteArray) (T : List Mv) : Nat → ByteArray := fun p => if nm p ∈ T.map (·.1) then emp else f p
theorem delF_nil (f : Nat → ByteArray) : delF f [] = f := by funext p; simp [delF]
theorem delF_snoc (f : Nat → ByteArray) (T : List Mv) (m : Mv) (hm : isP m.1 = true) (p : Nat) (hp : p < 9) : (if p = pidx m.1 then emp else delF f T p) = delF f (T ++ [m]) p := by
  unfold delF
  have hs := pidx_spec hm
  rw [List.map_append, List.map_cons, List.map_nil]
  by_cases e : p = pidx m.1
  · rw [if_pos e, if_pos (by rw [e, hs.2]; simp)]
  · rw [if_neg e]
    have : (nm p ∈ T.map (·.1) ++ [m.1]) ↔ nm p ∈ T.map (·.1) := by
      rw [List.mem_append, List.mem_singleton]
      constructor
      · rintro (h | h)
        · exact h
        · exact absurd (by rw [← h, pidx_nm hp]) e
      · exact .inl
    by_cases h : nm p ∈ T.map (·.1)
    · rw [if_pos h, if_pos (this.2 h)]
    · rw [if_neg h, if_neg (fun h2 => h (this.1 h2))]
theorem busy_at {xs : List Mv} {p : Nat} (hp : p < 9) : nm p ∈ (busyF xs 9).map (·.1) ↔ srcM xs (nm p) ≠ nm p := by
  unfold busyF
  rw [List.map_map, List.mem_map]
  constructor
  · rintro ⟨q, hq, e⟩
    obtain ⟨h1, h2⟩ := List.mem_filter.1 hq
    have : q = p := nm_inj (by simpa using h1) hp e
    subst this
    simpa [busyH] using h2
  · intro h
    exact ⟨p, List.mem_filter.2 ⟨by simpa using hp, by simpa [busyH] using h⟩, rfl⟩
theorem busy_is {xs : List Mv} {m : Mv} (h : m ∈ busyF xs 9) : ∃ p, p < 9 ∧ m = (nm p, srcM xs (nm p)) ∧ srcM xs (nm p) ≠ nm p := by
  unfold busyF at h
  obtain ⟨q, hq, rfl⟩ := List.mem_map.1 h
  obtain ⟨h1, h2⟩ := List.mem_filter.1 hq
  exact ⟨q, by simpa using h1, rfl, by simpa [busyH] using h2⟩
/-- the moves that are left of all -/
def remM (xs : List Mv) : List Mv := remF 9 (busyF xs 9)
theorem remM_MV {xs : List Mv} (h : MV xs) : MV (remM xs) := by
  have hl : busyF xs 9 = lsF (fun p => srcM xs (nm p)) 9 := rfl
  have hB : MV (busyF xs 9) := by rw [hl]; exact lsF_MV (SVal_M h)
  have hs := remF_sub 9 (busyF xs 9)
  exact ⟨fun m hm => hB.1 m (hs.subset hm), hB.2.sublist (hs.map _)⟩
theorem rem_src {xs : List Mv} (h : MV xs) {p : Nat} (hp : p < 9) : srcT (delF (tabOf xs) (takM xs)) p = srcT (tabOf (remM xs)) p := by
  have hW := busyF_Wt h
  obtain ⟨t1, t2, _⟩ := tak_rem 9 (busyF xs 9) hW.keys
  rw [srcM_nm (remM_MV h) hp]
  have hd : srcT (delF (tabOf xs) (takM xs)) p = if nm p ∈ (takM xs).map (·.1) then nm p else srcM xs (nm p) := by
    by_cases e : nm p ∈ (takM xs).map (·.1)
    · rw [if_pos e]; unfold srcT delF; rw [if_pos e, if_pos rfl]
    · rw [if_neg e, ← srcM_nm h hp]; unfold srcT delF; rw [if_neg e]
  rw [hd]
  by_cases hr : nm p ∈ (remM xs).map (·.1)
  · obtain ⟨m, hm, e⟩ := List.mem_map.1 hr
    have hmb := (remF_sub 9 (busyF xs 9)).subset hm
    obtain ⟨q, hq, rfl, _⟩ := busy_is hmb
    have : q = p := nm_inj hq hp e
    subst this
    have h1 := srcM_of_mem (remM_MV h) hm
    rw [if_neg (fun h2 => by
      obtain ⟨a, ha, e2⟩ := List.mem_map.1 h2
      exact t2 a ha _ hm e2)]
    exact h1.symm
  · have h1 : srcM (remM xs) (nm p) = nm p := by
      refine Classical.not_not.1 fun hne => hr ?_
      exact List.mem_map.2 ⟨_, mem_of_srcM hne, rfl⟩
    rw [h1]
    split
    · rfl
    · next hn =>
      refine Classical.not_not.1 fun hne => ?_
      have h2 := (busy_at hp).2 hne
      obtain ⟨m, hm, e⟩ := List.mem_map.1 h2
      rcases t1 m hm with h3 | h3
      · exact hn (List.mem_map.2 ⟨m, h3, e⟩)
      · exact hr (List.mem_map.2 ⟨m, h3, e⟩)
theorem remM_Wt {xs : List Mv} (h : MV xs) : Wt (remM xs) := by
  have hW := busyF_Wt h
  have hs := remF_sub 9 (busyF xs 9)
  refine ⟨hW.keys.sublist (hs.map _), fun m hm => hW.to_ m (hs.subset hm), fun m hm => hW.from_ m (hs.subset hm), fun m hm => hW.ne m (hs.subset hm), ?_⟩
  refine Nat.le_trans ?_ hW.one
  unfold rdN
  exact (hs.map _).count_le _
theorem remM_exch {xs : List Mv} (h : MV xs) : Exch (srcT (tabOf (remM xs))) := by
  have hM := remM_MV h
  have ha := aheadI_none (remF_ahead 9 (busyF xs 9) (busyF_len xs 9))
  intro q hq
  by_cases hr : nm q ∈ (remM xs).map (·.1)
  · obtain ⟨m, hm, e⟩ := List.mem_map.1 hr
    have h1 := ha m hm
    have h2 : ∃ x ∈ remM xs, x.2 = nm q := Classical.byContradiction fun hno => h1 (rdN_zero.2 fun x hx ex => hno ⟨x, hx, by rw [ex]; exact e⟩)
    obtain ⟨x, hx, ex⟩ := h2
    have hP := (remM_Wt h).to_ x hx
    have hs := pidx_spec hP
    refine ⟨pidx x.1, hs.1, ?_⟩
    rw [srcM_nm hM hs.1, hs.2, srcM_of_mem hM hx]; exact ex
  · refine ⟨q, hq, ?_⟩
    rw [srcM_nm hM hq]
    refine Classical.not_not.1 fun hne => hr ?_
    exact List.mem_map.2 ⟨_, mem_of_srcM hne, rfl⟩
theorem del_exch {xs : List Mv} (h : MV xs) : Exch (srcT (delF (tabOf xs) (takM xs))) := (remM_exch h).congr fun _p hp => (rem_src h hp).symm
theorem nxT_congr {f g : Nat → ByteArray} (h : ∀ p, p < 9 → srcT f p = srcT g p) : nxT f = nxT g := by
  funext i
  unfold nxT
  by_cases hi : i < 9
  · rw [if_pos hi, if_pos hi]
    have : sx f i = sx g i := by unfold sx; rw [h i hi]
    rw [this]
  · rw [if_neg hi, if_neg hi]
theorem del_SV {xs : List Mv} (h : MV xs) : SV (delF (tabOf xs) (takM xs)) := fun p hp => by rw [rem_src h hp]; exact SV_tab (remM_MV h) p hp
/-- the swaps of what is left -/
def rwM (xs : List Mv) : List (Nat × Nat) := (ringsF (nxT (tabOf (remM xs))) 9).flatMap prs
theorem rw_del {xs : List Mv} (h : MV xs) : (rsA 9 (invI (srcT (delF (tabOf xs) (takM xs))))).1 = rwM xs := by
  rw [(rsA_rings (del_SV h) (del_exch h) 9 (Nat.le_refl _)).1, nxT_congr fun p hp => rem_src h hp]; rfl
/-- steps that do moves with swaps -/
def owS (xs : List Mv) : List St := if mvalid xs then stL (takM xs) ++ swL (rwM xs) else []
theorem owS_yes {xs : List Mv} (h : mvalid xs = true) : owS xs = stL (takM xs) ++ swL (rwM xs) := if_pos h
theorem owS_no {xs : List Mv} (h : mvalid xs = false) : owS xs = [] := if_neg (by rw [h]; decide)
theorem rwM_le {xs : List Mv} (h : MV xs) : (rwM xs).length ≤ 9 := by
  rw [← rw_del h]; exact rsA_le (inv_prm (del_exch h)) 9 (Nat.le_refl _)
theorem takM_le (xs : List Mv) : (takM xs).length ≤ 9 := by
  have h1 := takF_len 9 (busyF xs 9)
  have h2 := busyF_len xs 9
  unfold takM; omega
theorem owS_le (xs : List Mv) : (owS xs).length ≤ 18 := by
  rcases Bool.eq_false_or_eq_true (mvalid xs) with h | h
  · rw [owS_yes h, List.length_append, swL_len]
    have h1 := takM_le xs
    have h2 := rwM_le (xs := xs) (by simpa [mvalid] using h)
    unfold stL; rw [List.length_map]; omega
  · rw [owS_no h]; simp
end Go.PS
namespace Go.PW
open Go.PM
def shut1 (f : Nat → ByteArray) (l : List Nat) : Bool := l.all fun i => decide (rcount f i = 1)
theorem ringsF_mem {nx : Nat → Option Nat} : ∀ k, ∀ l ∈ ringsF nx k, ∃ s, s < k ∧ l = way nx s ∧ onRb nx s = true := by
  intro k
  induction k with
  | zero => intro l h; simp [ringsF] at h
  | succ k ih =>
    intro l h
    by_cases hc : onRb nx k = true ∧ k ∉ (ringsF nx k).flatten
    · rw [ringsF_yes hc.1 hc.2, List.mem_append] at h
      rcases h with h | h
      · obtain ⟨s, h1, h2⟩ := ih l h; exact ⟨s, by omega, h2⟩
      · simp at h; exact ⟨k, by omega, h, hc.1⟩
    · rw [ringsF_no hc] at h
      obtain ⟨s, h1, h2⟩ := ih l h; exact ⟨s, by omega, h2⟩
theorem all_eq {α : Type _} {p q : α → Bool} : ∀ (l : List α), (∀ i ∈ l, p i = q i) → l.all p = l.all q
  | [], _ => rfl
  | a :: l, h => by rw [List.all_cons, List.all_cons, h a (by simp), all_eq l fun i hi => h i (by simp [hi])]
theorem shut_iff {f : Nat → ByteArray} (hf : SV f) {l : List Nat} (hl : l ∈ ringsF (nxT f) 9) : shut f l = shut1 f l := by
  obtain ⟨s, hs, rfl, hon⟩ := ringsF_mem 9 l hl
  unfold shut shut1
  have h : ∀ i ∈ way (nxT f) s, decide (rcount f i ≤ 1) = decide (rcount f i = 1) := fun i hi => by
    rw [decide_eq_decide]; exact ring_one hf (by omega) hon hi
  exact all_eq _ h
theorem closed_take {f : Nat → ByteArray} {l : List Nat} {j : Nat} (hj : j < l.length) : shut1 f (l.take (j + 1)) = (shut1 f (l.take j) && decide (rcount f l[j] = 1)) := by
  unfold shut1
  rw [take_snoc l j hj, List.all_append]; simp
def closedT (f : Nat → ByteArray) (rs : List (List Nat)) : List ByteArray := (rs.filter (shut1 f)).map txt
theorem closedT_yes {f : Nat → ByteArray} {rs : List (List Nat)} {l : List Nat} (h : shut1 f l = true) : closedT f (rs ++ [l]) = closedT f rs ++ [txt l] := by simp [closedT, h]
theorem closedT_no {f : Nat → ByteArray} {rs : List (List Nat)} {l : List Nat} (h : shut1 f l = false) : closedT f (rs ++ [l]) = closedT f rs := by simp [closedT, h]
theorem closedT_len {f : Nat → ByteArray} (rs : List (List Nat)) : (closedT f rs).length ≤ rs.length := by
  unfold closedT; rw [List.length_map]; exact List.length_filter_le _ _
def closedB (xs : List Mv) : List ByteArray := if mvalid xs then closedT (tabOf xs) (ringsF (nxT (tabOf xs)) 9) else []
theorem closedB_len (xs : List Mv) : (closedB xs).length ≤ 1000 := by
  unfold closedB
  by_cases h : mvalid xs = true
  · rw [if_pos h]
    have h1 := (ringsF_lt (nice (SV_tab (by simpa [mvalid] using h))) 9 (by omega)).2.1
    have h2 := closedT_len (f := tabOf xs) (ringsF (nxT (tabOf xs)) 9)
    omega
  · rw [if_neg h]; simp
end Go.PW
namespace Go.Proofs.YteadhnpmmpninaaGreat
open Go.RowKit Go.PM Go.PW Go.Lib

theorem app_strL {ops : Array Oper} {rest : List Oper} {o : Oper} {a : Act} {Q : Exit → Act → World → Prop} {w : World} (hgd : o.guard = none) (s x : Operand)
    (ho : o.op = .call { callee := .builtin .append, args := #[s, x], argTypes := #[32, 32] })
    (base : Nat) (v : Value) (ys : List ByteArray) (m : ByteArray) (ad : Addr) (c : Nat) (hs : a.eval s = v) (hx : a.eval x = .slice (some ad) 1 c)
    (hown : w.ownsRow base 9 1 v ys.length (tcells ys)) (hnew : ∀ j u, [Value.string m][j]? = some u → w.cell? (ad.add j) = some u)
    (hlen : ys.length ≤ 1048576) (hbase : base ≤ w.heap.size)
    (h : ∀ v' w', w'.ownsRow base 9 1 v' (ys ++ [m]).length (tcells (ys ++ [m])) → w.grownBy w' v.ownBlock → (∀ g, v'.ownBlock = some g → v.ownBlock = some g ∨ g = w.heap.size) → wpList Tryz.prog ops Q rest (a.put o.dst v') w') : wpList Tryz.prog ops Q (o :: rest) a w := by
  obtain ⟨i0, hi0, hz0, hz1, hz2⟩ := info_parts infoStr
  refine wpList_append_lies w hgd s x _ ho base 9 i0 _ 1 16 Tryz.underlying32 hi0 hz0 hz1 hz2 rfl (by omega) v ys.length (tcells ys) hs hown ad 1 c [Value.string m] hx rfl hnew
    (by intro u hu; simp at hu; subst hu; rfl) (by omega) (by simp only [maxLen]; omega) (by omega) hbase _ rfl ?_
  intro g cap w' h2 h3 h4 _
  refine h _ w' ?_ h3 (fun g' e => by cases e; exact h4)
  rw [tcells_append, List.length_append]
  simpa [tcells] using h2
set_option maxRecDepth 100000 in
set_option maxHeartbeats 1600000 in
theorem l3Closed_c (xs : List Mv) (h1 : MV xs) (v : Value) (w : World) (hx : RdM w v xs) :
    Calls Tryz.prog 107 #[v] w fun e w' => ∃ v', e = .returned v' ∧ w'.ownsRow w.heap.size 9 1 v' (closedT (tabOf xs) (ringsF (nxT (tabOf xs)) 9)).length (tcells (closedT (tabOf xs) (ringsF (nxT (tabOf xs)) 9))) ∧ Below w.heap.size w w' := by
  have hf := SV_tab h1
  have hn := nice hf
  have HL := Lib.hid (fun W (hW : RdM W v xs) => l3Rings_c xs h1 v W hW)
  have HX := Lib.hid (fun W (hW : Below w.heap.size w W) => hx.below hW)
  have HRD := Lib.hid (fun W (hW : RdM W v xs) (i : Nat) => show Calls Tryz.prog 111 #[v, .string (sn i)] W fun e w' => e = .returned (.string (namesW (rdH (tabOf xs) (sn i)))) ∧ Below W.heap.size W w' from by
    have := l1Readers_c xs v (sn i) W hW
    rwa [rsH_rdH h1] at this)
  have HRC : Hid (∀ i, rcount (tabOf xs) i = (namesW (rdH (tabOf xs) (sn i))).size) := fun _ => rfl
  have hE := World.ownsRow_lit (e := 9) (base := w.heap.size) (size := 1) w #[] 0 (Nat.le_refl _) (Nat.zero_le _) rfl
  have hlt9 := ringsF_lt hn 9 (by omega)
  have HWL : Hid (∀ l ∈ ringsF (nxT (tabOf xs)) 9, l.length ≤ 19) := fun l hl => by
    obtain ⟨s, hs, rfl, _⟩ := ringsF_mem 9 l hl
    exact (way_rho hn (by omega)).len
  have HRT : Hid (ringsT (nxT (tabOf xs)) 9 = (ringsF (nxT (tabOf xs)) 9).map txt) := rfl
  clear hf hn
  generalize tabOf xs = f at *
  generalize hrs : ringsF (nxT f) 9 = rs at *
  generalize ringsT (nxT f) 9 = rt at *
  go_enter Tryz.func107, Tryz.ntmps107
  go_wp2_with fail
  refine (HL.out _ (HX.out _ ((Below.refl _ _).alloc (Nat.le_refl _) _))).mono ?_
  rintro e w1 ⟨v', rfl, ho, hb1⟩
  have hb1w : Below w.heap.size w w1 := ((Below.refl _ _).alloc (Nat.le_refl _) _).trans (hb1.mono (by simp))
  have hE1 := own_keep hE hb1
  have hge : ∀ g, v'.ownBlock = some g → w.heap.size + 1 ≤ g := fun g e => by have := own_block_ge ho g e; simpa using this
  have hs1 := hb1w.size
  have hr1 : RdT w1 v' rt := Rd.of_own ho
  rw [HRT.out] at hr1
  obtain ⟨A, cap, rfl, hn1, hc1, hcell⟩ := hr1.open
  have hcel : ∀ k (hk : k < rs.length), ∃ b off, A = some ⟨b, off, none⟩ ∧ b < w1.heap.size ∧ w1.cell? ⟨b, off + k, none⟩ = some (.string (txt rs[k])) := fun k hk => by
    have := hcell k (by simpa using hk)
    simpa using this
  rw [List.length_map] at hn1 hc1
  have HBG : Hid (∀ b off, A = some ⟨b, off, none⟩ → rs.length ≠ 0 → w.heap.size + 1 ≤ b) := fun b off e hne => by
    rcases ho.2 with ⟨h0, _⟩ | ⟨g, cap', cur, h0, _⟩
    · injection h0 with e1 _ _
      rw [e1] at e; cases e
    · injection h0 with e1 _ _
      rw [e1] at e
      cases e
      exact hge _ (by rw [e1]; rfl)
  clear hr1 ho hb1 hcell hge
  have hlen : (rs.map txt).length = rs.length := List.length_map ..
  rw [hlen]
  go_wp2
  go_loopw [3, 5, 6, 7, 12] (fun o _ _ _ i wr => ∃ (k : Nat), k ≤ rs.length ∧ i = .int .i64 k ∧ wr.ownsRow w.heap.size 9 1 o (closedT f (rs.take k)).length (tcells (closedT f (rs.take k))) ∧ Hid (∀ g, o.ownBlock = some g → g < w.heap.size + 1 ∨ w1.heap.size ≤ g) ∧ Below w.heap.size w wr ∧ KeepsNew (w.heap.size + 1) w1 wr) (fun _ _ _ _ i _ => rs.length - (RowKit.intOf i).toNat)
  case atStart => exact ⟨0, by omega, rfl, hE1, (fun g e => by cases e; exact .inl (Nat.lt_succ_self _)), hb1w, KeepsNew.refl _ _⟩
  case round =>
    obtain ⟨k, hk, rfl, ho, HOB, hbw, hkn⟩ := hrel
    have hbs := hkn.size
    have hbws := hbw.size
    by_cases hlt : k < rs.length
    · obtain ⟨b, off, rfl, hbl, hc⟩ := hcel k hlt
      have hbge := HBG.out b off rfl (by omega)
      have hbl2 : b < wr.heap.size := by omega
      have hd : wr.cell? ⟨b, off + k, none⟩ = some (.string (txt rs[k])) := by
        rw [← hc]; unfold World.cell?; rw [hkn.same b hbge hbl]
      have hl19 := HWL.out rs[k] (List.getElem_mem hlt)
      have hlt19 : ∀ i ∈ rs[k], i < 19 := fun i hi => hlt9.1 i (List.mem_flatten.2 ⟨rs[k], List.getElem_mem hlt, hi⟩)
      have hle := closedT_len (f := f) (rs.take k)
      rw [List.length_take] at hle
      have hrl : rs.length ≤ 9 := hlt9.2.1
      have HY := Lib.hid (fun (h : shut1 f rs[k] = true) => closedT_yes (f := f) (rs := rs.take k) (l := rs[k]) h)
      have HN := Lib.hid (fun (h : shut1 f rs[k] = false) => closedT_no (f := f) (rs := rs.take k) (l := rs[k]) h)
      have HTK := Lib.hid (take_snoc rs k hlt)
      clear hc hcel
      generalize rs[k] = r at *
      have htz := txt_size r
      have hcz : (txt r).size = r.length := htz
      have HEX : Hid (∀ j (hj : j < r.length), (txt r).extract j (j + 1) = sn r[j]) := fun j hj => by
        rw [extract_one _ _ (by rw [hcz]; exact hj), txt_list, List.getD_eq_getElem?_getD, List.getElem?_map, List.getElem?_eq_getElem hj]; rfl
      have HCT := Lib.hid (fun j (hj : j < r.length) => closed_take (f := f) (l := r) (j := j) hj)
      have HALL : Hid (r.take r.length = r) := List.take_length
      generalize htr : txt r = t at *
      have HTR := Lib.hid htr
      clear htr
      go_wp2
      rename World => wo
      go_loopw [6, 7, 18] (fun cl _ i W => ∃ (j : Nat), j ≤ r.length ∧ i = .int .i64 j ∧ cl = .bool (shut1 f (r.take j)) ∧ Below wo.heap.size wo W) (fun _ _ i _ => r.length - (RowKit.intOf i).toNat)
      case atStart => exact ⟨0, by omega, rfl, rfl, Below.refl _ _⟩
      case round =>
        obtain ⟨j, hj, rfl, rfl, hbi⟩ := hrel
        have hbis := hbi.size
        have hbiw := hbw.trans (hbi.mono hbws)
        have hbiws := hbiw.size
        by_cases hjl : j < r.length
        · have hex := HEX.out j hjl
          have hct := HCT.out j hjl
          rcases Bool.eq_false_or_eq_true (shut1 f (r.take j)) with hsh | hsh
          · have hxr := HX.out _ hbiw
            have hrd := HRD.out _ hxr r[j]
            have hrc := HRC.out r[j]
            rw [hsh, Bool.true_and] at hct
            generalize namesW (rdH f (sn r[j])) = q at *
            have HRX := Lib.hid hrd
            have HC2 := Lib.hid hct
            have HR2 := Lib.hid hrc
            clear hrd hct hrc hxr
            rw [hsh]
            generalize sn r[j] = sr at *
            by_cases hq : q.size = 1
            · have hqq : ((q.size : Int) == 1) = true := by rw [hq]; rfl
              have HF : Hid (shut1 f (r.take (j + 1)) = true) := by show _ = _; rw [HC2.out, HR2.out]; simpa using hq
              clear hq hsh
              go_wp2_with fail
              refine HRX.out.mono ?_
              rintro e w4 ⟨rfl, hb4⟩
              have hbi4 := hbi.trans (hb4.mono hbis)
              clear hb4
              go_wp2
              go_roundw
              case rel => exact ⟨j + 1, by omega, by go_num, by rw [HF.out], hbi4⟩
              case measure => simp [RowKit.intOf]; omega
            · have hqq : ((q.size : Int) == 1) = false := by simp; omega
              have HF : Hid (shut1 f (r.take (j + 1)) = false) := by show _ = _; rw [HC2.out, HR2.out]; simpa using hq
              clear hq hsh
              go_wp2_with fail
              refine HRX.out.mono ?_
              rintro e w4 ⟨rfl, hb4⟩
              have hbi4 := hbi.trans (hb4.mono hbis)
              clear hb4
              go_wp2
              go_roundw
              case rel => exact ⟨j + 1, by omega, by go_num, by rw [HF.out], hbi4⟩
              case measure => simp [RowKit.intOf]; omega
          · rw [hsh, Bool.false_and] at hct
            have HF := Lib.hid hct
            clear hct
            rw [hsh]
            clear hsh
            go_wp2
            go_roundw
            case rel => exact ⟨j + 1, by omega, by go_num, by rw [HF.out], hbi⟩
            case measure => simp [RowKit.intOf]; omega
        · have hj' : j = r.length := by omega
          subst hj'
          rw [HALL.out]
          have hb5 := hbw.trans (hbi.mono hbws)
          have hk5 : KeepsNew (w.heap.size + 1) w1 wr := hkn.trans (KeepsNew.below hbi)
          have hk5s := hk5.size
          have ho5 := own_keep ho hbi
          rcases Bool.eq_false_or_eq_true (shut1 f r) with hsh | hsh
          · have hyy := HY.out hsh
            rw [← HTK.out] at hyy
            have HF := Lib.hid hyy
            rw [hsh]
            have hnw := one_new wr (.string t) 9
            have hown0 := own_keep ho5 ((Below.refl _ _).alloc (Nat.le_refl _) (.cells #[.string t] 9))
            clear hyy hsh
            go_wp2_with (at_builtin; refine app_strL rfl (.tmp 35) (.tmp 37) rfl w.heap.size u3 (closedT f (rs.take k)) t ⟨wr.heap.size, 0, none⟩ 1 (by rfl) (by rfl) hown0 hnw (by omega) (by simp; omega) ?_; intro v' w3 hown3 hgrow3 hlies3)
            have hb3 := below_grown hgrow3 (B := w.heap.size) (by have := hb5.size; simp; omega) (own_block_ge ho5)
            have hk6 : KeepsNew (w.heap.size + 1) w1 w3 := ⟨by have := hgrow3.size; simp at this; omega, fun x hx1 hx2 => by
              rw [hgrow3.block x (by simp; omega) (fun e => by have := HOB.out x e.symm; omega), Below.heap_alloc _ _ _ (by omega)]
              exact hk5.same x hx1 hx2⟩
            have HOB3 : Hid (∀ g, Value.ownBlock v' = some g → g < w.heap.size + 1 ∨ w1.heap.size ≤ g) := fun g e => by
              rcases hlies3 g e with h | h
              · exact HOB.out g h
              · right; simp at h; omega
            clear hlies3
            go_roundw
            case rel =>
              refine ⟨k + 1, by omega, by go_num, ?_, HOB3, (hb5.alloc hb5.size _).trans hb3, hk6⟩
              rw [HF.out]; exact hown3
            case measure => simp [RowKit.intOf]; omega
          · have hnn := HN.out hsh
            rw [← HTK.out] at hnn
            have HF := Lib.hid hnn
            rw [hsh]
            clear hnn hsh
            go_wp2
            go_roundw
            case rel => exact ⟨k + 1, by omega, by go_num, by rw [HF.out]; exact ho5, HOB, hb5, hk5⟩
            case measure => simp [RowKit.intOf]; omega
    · have hk' : k = rs.length := by omega
      have ho2 := ho
      rw [hk', List.take_of_length_le (Nat.le_refl _)] at ho2
      clear hk' ho
      go_wp2
      go_ret
      exact ⟨_, rfl, ho2, hbw⟩

theorem spClosedRings_c (xs : List Mv) (v : Value) (w : World) (hx : RdM w v xs) (hz : ∀ m ∈ xs, m.1.size ≤ 9223372036854775807 ∧ m.2.size ≤ 9223372036854775807) (hn' : xs.length ≤ 1048576) :
    Calls Tryz.prog 90 #[v] w fun e w' => ∃ v', e = .returned (.tuple #[v', .bool (mvalid xs)]) ∧ w'.ownsRow w.heap.size 9 1 v' (closedB xs).length (tcells (closedB xs)) ∧ Below w.heap.size w w' := by
  rcases Bool.eq_false_or_eq_true (mvalid xs) with h1 | h1
  · rw [h1, show closedB xs = closedT (tabOf xs) (ringsF (nxT (tabOf xs)) 9) from if_pos h1]
    have HL := Lib.hid (fun W (hW : RdM W v xs) => l3Closed_c xs (by simpa [mvalid] using h1) v W hW)
    go_enter Tryz.func90, Tryz.ntmps90
    go_wp2_with fail
    refine (spMovesValid_c xs v _ hx hz hn').mono ?_
    rintro e w1 ⟨he, hb1⟩
    rw [h1] at he
    subst he
    have hs1 := hb1.size
    go_wp2_with fail
    refine (HL.out _ (hx.below hb1)).mono ?_
    rintro e w2 ⟨v', rfl, ho, hb2⟩
    have ho2 := own_more ho hs1
    go_wp2
    go_ret2
    exact ⟨_, rfl, ho2, hb1.trans (hb2.mono hs1)⟩
  · rw [h1, show closedB xs = [] from if_neg (by rw [h1]; decide)]
    go_enter Tryz.func90, Tryz.ntmps90
    go_wp2_with fail
    refine (spMovesValid_c xs v _ hx hz hn').mono ?_
    rintro e w1 ⟨he, hb1⟩
    rw [h1] at he
    subst he
    have hs1 := hb1.size
    have hE := World.ownsRow_lit (e := 9) (base := w.heap.size) (size := 1) w1 #[] 0 hs1 (Nat.zero_le _) rfl
    go_wp2
    go_ret2
    exact ⟨_, rfl, hE, by (repeat' (first | (with_reducible exact Below.refl _ _) | (with_reducible assumption) | (with_reducible refine Below.alloc ?_ ?_ _) | (with_reducible refine Below.drew ?_) | (with_reducible refine Below.setCell ?_ ?_ _) | (with_reducible exact Nat.le_refl _) | omega | ((repeat (first | rewrite [World.size_alloc] | rewrite [World.size_setCell] | rewrite [World.size_drew])); omega) | (simp; omega) | (simp; done)))⟩
end Go.Proofs.YteadhnpmmpninaaGreat
namespace Go.PW
open Go.RowKit Go.PM
def closedS (f : Nat → ByteArray) (rs : List (List Nat)) : List ByteArray := (rs.filter (shut f)).map txt
theorem closedS_yes {f : Nat → ByteArray} {rs : List (List Nat)} {l : List Nat} (h : shut f l = true) : closedS f (rs ++ [l]) = closedS f rs ++ [txt l] := by simp [closedS, h]
theorem closedS_no {f : Nat → ByteArray} {rs : List (List Nat)} {l : List Nat} (h : shut f l = false) : closedS f (rs ++ [l]) = closedS f rs := by simp [closedS, h]
theorem closedS_len {f : Nat → ByteArray} (rs : List (List Nat)) : (closedS f rs).length ≤ rs.length := by
  unfold closedS; rw [List.length_map]; exact List.length_filter_le _ _
theorem closedS_T {f : Nat → ByteArray} (hf : SV f) : closedS f (ringsF (nxT f) 9) = closedT f (ringsF (nxT f) 9) := by
  unfold closedS closedT
  congr 1
  exact List.filter_congr fun l hl => shut_iff hf hl
theorem shut_take {f : Nat → ByteArray} {l : List Nat} {j : Nat} (hj : j < l.length) : shut f (l.take (j + 1)) = (shut f (l.take j) && decide (rcount f l[j] ≤ 1)) := by
  unfold shut
  rw [take_snoc l j hj, List.all_append]; simp
theorem shut_bad {f : Nat → ByteArray} {l : List Nat} {j : Nat} (hj : j < l.length) (h : ¬ rcount f l[j] ≤ 1) : shut f l = false := by
  unfold shut
  rw [List.all_eq_false]
  exact ⟨l[j], List.getElem_mem hj, by simpa using h⟩
end Go.PW
namespace Go.Proofs.YteadhnpmmpninaaGreat
open Go.RowKit Go.PM Go.PW Go.Lib
attribute [local go_sem] Oper.semAt_some

set_option maxRecDepth 100000 in
set_option maxHeartbeats 2000000 in
theorem imClosedRings_c (xs : List Mv) (v : Value) (w : World) (hx : RdM w v xs) :
    Calls Tryz.prog 47 #[v] w fun e w' => ∃ v', e = .returned (.tuple #[v', .bool (mvalid xs)]) ∧ w'.ownsRow w.heap.size 9 1 v' (closedB xs).length (tcells (closedB xs)) ∧ Below w.heap.size w w' := by
  by_cases h1 : MV xs
  · have HT := Lib.hid (tableOf_yes xs h1 v w hx)
    have hm1 : mvalid xs = true := by simpa [mvalid] using h1
    have HM := Lib.hid hm1
    have HS := Lib.hid (show closedB xs = closedS (tabOf xs) (ringsF (nxT (tabOf xs)) 9) by rw [closedB, if_pos hm1, closedS_T (SV_tab h1)])
    have hlt9 := ringsF_lt (nice (SV_tab h1)) 9 (by omega)
    have HRC : Hid (∀ i, rcount (tabOf xs) i = (namesW (rdH (tabOf xs) (sn i))).size) := fun _ => rfl
    have hn := nice (SV_tab h1)
    have HSP := Lib.hid (fun W => spotsOf_c (tabOf xs) (SV_tab h1) W)
    have HLE := Lib.hid (fun k (hk : k ≤ 9) => (ringsF_lt hn k hk).2.1)
    clear h1 hx hm1
    generalize nxT (tabOf xs) = nx at *
    generalize tabOf xs = t at *
    refine (callsIn_wide (n := 5)).1 ?_
    refine callsIn_of_wp_marks Tryz.func47 rfl trivial ?_ rfl
    simp only [Tryz.ntmps47, List.size_toArray, List.length_cons, List.length_nil, Nat.reduceAdd, Nat.reduceSub, Array.replicate_succ, Array.replicate_zero, List.push_toArray, List.append_toArray, List.nil_append, List.cons_append]
    gi_wp2_with fail
    refine wpIn_scope ?_
    gi_wp2_with fail
    refine ⟨trivial, callsIn_wide.2 (HT.out.mono ?_)⟩
    rintro e w1 ⟨rfl, hb1⟩
    have hs1 := hb1.size
    gi_wp2
    obtain ⟨W0, hW0⟩ : ∃ W0 : World, W0 = (w1.alloc (.cells (tabA t) 51)).alloc (.cells #[.slice none 0 0] 32) := ⟨_, rfl⟩
    have hS0 : W0.heap.size = w1.heap.size + 2 := by rw [hW0]; simp only [World.size_alloc]
    have hB0 : Below w.heap.size w W0 := by rw [hW0]; (repeat' (first | (with_reducible exact Below.refl _ _) | (with_reducible assumption) | (with_reducible refine Below.alloc ?_ ?_ _) | (with_reducible refine Below.drew ?_) | (with_reducible refine Below.setCell ?_ ?_ _) | (with_reducible exact Nat.le_refl _) | omega | ((repeat (first | rewrite [World.size_alloc] | rewrite [World.size_setCell] | rewrite [World.size_drew])); omega) | (simp; omega) | (simp; done)))
    have hA0 : At W0 (w1.heap.size + 1) 32 #[.slice none 0 0] := by
      rw [hW0]; have := At.new (w1.alloc (.cells (tabA t) 51)) 32 #[.slice none 0 0]
      rwa [World.size_alloc] at this
    have hT0 : At W0 w1.heap.size 51 (tabA t) := by rw [hW0]; exact (At.new _ _ _).alloc _
    refine wpIn_label ?_
    gi_wp2_with fail
    refine ⟨trivial, callsIn_wide.2 ?_⟩
    rw [← hW0]
    clear hW0
    refine (HSP.out W0).mono ?_
    rintro e W1 ⟨⟨bs, rfl, hbs, hSW⟩, hb2⟩
    have hA1 := hA0.keep hb2
    have hT1 := hT0.keep hb2
    have hB1 : Below w.heap.size w W1 := hB0.trans (hb2.mono hB0.size)
    have hS1 := hb2.size
    have hbl := hSW.lt
    clear hA0 hb2 hB0
    gi_wp2
    refine range_law5 (F := Fence.wide) (gf := 41) (lf := #[.pointer (some ⟨bs, 0, none⟩)]) (lb := #[]) rfl (by decide) rfl trivial (fun args w => rfl) (encs := fun r : List Nat => #[.string (txt r)]) (xs := ringsF nx 9) (κ := 3)
      (rings_iter bs nx hn) (fun _ => rfl)
      (fun pre W => ∃ o, At W (w1.heap.size + 1) 32 #[o] ∧ W.ownsRow (W1.heap.size + 5) 9 1 o (closedS t pre).length (tcells (closedS t pre)) ∧ Spots W bs nx ∧ Below w.heap.size w W ∧ At W w1.heap.size 51 (tabA t))
      (fun _ _ _ => False) ?pr ?iw ?own (fun _ => ownFrom_pure _ _) ?start ?a1 ?assign ?body ?done ?stop
    case pr => rintro pre A ⟨o, _, _, h, _, _⟩; exact h
    case iw =>
      rintro pre A A' r ⟨o, k1, k2, k3, k4, k5⟩ hr1 hr2 hg
      have hge := own_block_ge k2
      refine ⟨o, at_grown' k1 hg (fun e => by cases e; omega), own_grown k2 hg (.inl fun e => ?_), k3.of_at fun t' cs h => at_grown' h hg (fun e => by cases e; omega), k4.trans (below_grown hg k4.size (fun g e => by cases e; have := hB1.size; omega)), at_grown' k5 hg (fun e => by cases e; omega)⟩
      have := hge r e; omega
    case own =>
      rintro s A A' row ⟨o, k1, k2, k3, k4, k5⟩ hg hr
      exact ⟨o, at_turn' k1 hg (fun r e => (hr r e).2), own_turn' k2 hg (fun r e => (hr r e).2), k3.of_at fun t' cs h => at_turn' h hg (fun r e => (hr r e).2), k4.trans (below_grown hg k4.size (fun g e => by have := (hr g e).1; have := hB1.size; omega)), at_turn' k5 hg (fun r e => (hr r e).2)⟩
    case start => exact ⟨_, hA1, ⟨rfl, .inl ⟨rfl, rfl⟩⟩, hSW, hB1, hT1⟩
    case assign =>
      intro l p W Kc hK
      gi_wp2
      exact hK
    case body =>
      rintro l pre r W ⟨o, k1, k2, k3, k4, k5⟩ hp hsz
      have hrmem : r ∈ ringsF nx 9 := hp.mem (by simp)
      have hlt19 : ∀ i ∈ r, i < 19 := fun i hi => hlt9.1 i (List.mem_flatten.2 ⟨r, hrmem, hi⟩)
      have hlen : (closedS t pre).length ≤ 9 := by
        have h1 := hp.length_le
        have h2 := hlt9.2.1
        have h3 := closedS_len (f := t) pre
        simp at h1; omega
      have hrl : r.length ≤ 171 := by
        have h2 := hlt9.2.2
        obtain ⟨a, b, hab⟩ := List.append_of_mem hrmem
        rw [hab] at h2
        simp only [List.flatten_append, List.flatten_cons, List.length_append] at h2
        omega
      have HYES := Lib.hid (fun (h : shut t r = true) => closedS_yes (rs := pre) h)
      have HNO := Lib.hid (fun (h : shut t r = false) => closedS_no (rs := pre) h)
      have HST := Lib.hid (fun j (hj : j < r.length) => shut_take (f := t) hj)
      have HBAD := Lib.hid (fun j (hj : j < r.length) => shut_bad (f := t) hj)
      have HALL : Hid (r.take r.length = r) := List.take_length
      have htz := txt_size r
      have HEX : Hid (∀ j (hj : j < r.length), (txt r).extract j (j + 1) = sn r[j]) := fun j hj => by
        rw [extract_one _ _ (by rw [htz]; exact hj), txt_list, List.getD_eq_getElem?_getD, List.getElem?_map, List.getElem?_eq_getElem hj]; rfl
      clear hp hrmem
      generalize txt r = s at *
      gi_wp2
      gi_loopw [8, 22] (fun _ i A => ∃ (j : Nat), j ≤ r.length ∧ i = .int .i64 j ∧ Hid (shut t (r.take j) = true) ∧ Below W.heap.size W A) (fun _ i _ => r.length - (RowKit.intOf i).toNat)
      case atStart => exact ⟨0, by omega, rfl, rfl, Below.refl _ _⟩
      case round =>
        obtain ⟨j, hj, rfl, hsh, hbA⟩ := hrel
        have hbAs := hbA.size
        rename World => A
        have m1 := k1.keep hbA
        have m2 := own_keep k2 hbA
        have m3 := k3.below hbA
        have m4 := k4.trans (hbA.mono k4.size)
        have m5 := k5.keep hbA
        by_cases hjl : j < r.length
        · have hex := HEX.out j hjl
          have hrd := fun W' => readers_c t (sn r[j]) W'
          have hrc := HRC.out r[j]
          have hst := HST.out j hjl
          have hbad := HBAD.out j hjl
          rw [hsh.out, Bool.true_and] at hst
          generalize namesW (rdH t (sn r[j])) = q at *
          generalize sn r[j] = sr at *
          generalize rcount t r[j] = rc at *
          have HRX := Lib.hid hrd
          have hC := At.ext (W := A.drew) (B := A.heap.size) m5 m5.lt
          have hR : ∀ x : Ext A.heap.size A.drew, Calls Tryz.prog 86 #[tabX t, .string sr] x.val fun e w' => e = .returned (.string q) ∧ Below x.val.heap.size x.val w' := fun x => hrd x.val
          have i0 : (0 : Int) ≤ (j : Int) := by omega
          have i1 : (j : Int) < r.length := by omega
          have HST2 := Lib.hid hst
          have HBAD2 := Lib.hid hbad
          have HRC2 := Lib.hid hrc
          clear hst hbad hrc hrd
          gi_wp2
          refine region_quiet_inRound (F := Fence.wide) (C := fun w' => ∃ x : Ext A.heap.size A.drew, w' = x.val) rfl (by kernel_rfl) (by kernel_rfl) (by kernel_rfl) ⟨⟨_, Below.refl _ _⟩, rfl⟩ ?_
          simp only
          refine rowIn_step rfl 51 (.tmp 4) rfl w1.heap.size 51 (tabA t) (by rfl) hC 9 9 Tryz.underlying51 (by kernel_rfl) ?_
          simp only [Act.put, List.setIfInBounds_toArray, List.set_cons_succ, List.set_cons_zero]
          gi_big_quiet_step (fail)
          gi_big_quiet_step (fail)
          gi_big_quiet_step (fail)
          gi_big_quiet_step (fail)
          gi_big_quiet_step (fail)
          (refine BigFrame.wpQuietIn_want (fun _ _ _ _ => trivial) rfl (fun K hK => ?_); gi_big_quiet_op; refine ⟨_, fun _ => callsIn_wide.2 (ext_call _ (Nat.le_refl _) (hR _)), hK _ ?_⟩; clear hK K)
          gi_big_quiet_step (fail)
          gi_big_quiet_step (fail)
          refine wpQuietIn_nil ?_
          rintro A2 ⟨xw, rfl⟩
          have hb2 : Below A.heap.size A xw.val := ((Below.refl _ _).drew).trans xw.property
          clear hC hR
          generalize xw.val = A2 at *
          by_cases hq : q.size ≤ 1
          · have hq2 : ¬ (1 : Int) < (q.size : Int) := by omega
            have hsh2 : Hid (shut t (r.take (j + 1)) = true) := by show _ = _; rw [HST2.out, HRC2.out]; simpa using hq
            have hbA2 := hbA.trans (hb2.mono hbAs)
            clear m1 m2 m3 m4 m5 hq
            gi_wp2
            go_roundw
            case rel => exact ⟨j + 1, by omega, by go_num, hsh2, hbA2⟩
            case measure => simp [RowKit.intOf]; omega
          · have hq2 : (1 : Int) < (q.size : Int) := by omega
            have hbd := HBAD2.out (by rw [HRC2.out]; exact hq)
            have hno := HNO.out hbd
            have HF := Lib.hid hno
            have hbA2 := hbA.trans (hb2.mono hbAs)
            have n1 := m1.keep hb2
            have n2 := own_keep m2 hb2
            have n3 := m3.below hb2
            have n4 := m4.trans (hb2.mono m4.size)
            have n5 := m5.keep hb2
            clear m1 m2 m3 m4 m5 hq hbd hno k1 k2 k3 k4 k5
            gi_wp2
            exact ⟨keepsFrom_below hbA2, (KeepsNew.below (B := W1.heap.size + 2) hbA2).toIn (Nat.le_refl _) (by omega), _, n1, by rw [HF.out]; exact n2, n3, n4, n5⟩
        · have hjr : j = r.length := by omega
          subst hjr
          have hall := hsh.out
          rw [HALL.out] at hall
          have HY := Lib.hid (HYES.out hall)
          clear hall hsh
          have hsA : W1.heap.size + 5 ≤ A.heap.size := by omega
          have c3 : A.cell? ⟨w1.heap.size + 1, 0, none⟩ = some o := m1.cell 0
          have hl1 := m1.lt
          have hnw := one_new A (.string s) 9
          have hzw := hB1.size
          generalize closedS t pre = ys at *
          gi_wp2_with (gi_at_builtin; refine held ?_)
          unfold Held
          refine appIn_str rfl (.tmp 35) (.tmp 37) rfl (W1.heap.size + 5) o ys s ⟨A.heap.size, 0, none⟩ 1 (by rfl) (by rfl) (own_keep m2 ((Below.refl _ _).alloc (Nat.le_refl _) _)) hnw (by omega) (by simp; omega) ?_
          intro o' W3 hown3 hgrow3
          have j1 : At W3 (w1.heap.size + 1) 32 #[o] := at_grown' (m1.alloc (.cells #[.string s] 9)) hgrow3 (own_box_ne' m2 m1 (by decide))
          have d1 := j1.cell 0
          have d2 := j1.frozen 0
          have hge := own_block_ge m2
          have hK3 : KeepsFrom W1.heap.size A W3 := by
            refine ⟨Nat.le_trans (by simp) hgrow3.size, fun x ob hx1 hx2 hx3 => ?_⟩
            have hx4 := (Array.getElem?_eq_some_iff.1 hx2).1
            refine (hgrow3.block x (by simp; omega) (fun e => ?_)).trans ((Below.heap_alloc _ _ _ hx4).trans hx2)
            rcases m2.2 with ⟨rfl, _⟩ | ⟨g, cap, cur, rfl, _, hh, _⟩
            · cases e
            · cases e
              rw [hh] at hx2
              cases hx2
              cases hx3
          have hI3 : KeepsIn (W1.heap.size + 2) 3 A W3 := by
            refine ⟨Nat.le_trans (by simp) hgrow3.size, fun x hx1 hx2 => ?_⟩
            refine (hgrow3.block x (by simp; omega) (fun e => ?_)).trans (Below.heap_alloc _ _ _ (by omega))
            have := hge x e.symm
            omega
          have hKA : KeepsFrom W1.heap.size W W3 := (keepsFrom_below hbA).trans hK3
          have hIA : KeepsIn (W1.heap.size + 2) 3 W W3 := ⟨Nat.le_trans hbAs hI3.size, fun x hx1 hx2 => (hI3.same x hx1 hx2).trans (hbA.block x (by omega))⟩
          have hSP3 : Spots W3 bs nx := m3.of_at fun t' cs h => at_grown' (h.alloc (.cells #[.string s] 9)) hgrow3 (fun e => by have := hge bs e.symm; omega)
          have hT3 : At W3 w1.heap.size 51 (tabA t) := at_grown' (m5.alloc (.cells #[.string s] 9)) hgrow3 (fun e => by have := hge _ e.symm; omega)
          have hB3 : Below w.heap.size w W3 := (m4.alloc m4.size _).trans (below_grown hgrow3 (by have := m4.size; simp; omega) (fun g e => by have := hge g e; omega))
          have hne3 := own_box_ne' hown3 j1 (by decide)
          have hpn : (ys ++ [s]).length = ys.length + 1 := by simp
          rw [hpn] at hown3
          obtain ⟨A3, cap3, rfl, _⟩ := Rd.of_own hown3
          have q1 : At (W3.setCell ⟨w1.heap.size + 1, 0, none⟩ (.slice A3 (ys.length + 1) cap3)) (w1.heap.size + 1) 32 #[.slice A3 (ys.length + 1) cap3] := j1.set 0 _
          have qS : Spots (W3.setCell ⟨w1.heap.size + 1, 0, none⟩ (.slice A3 (ys.length + 1) cap3)) bs nx := hSP3.of_at fun t' cs h => h.far (by show bs ≠ w1.heap.size + 1; omega) _
          have qT := hT3.far (p := ⟨w1.heap.size + 1, 0, none⟩) (by show w1.heap.size ≠ w1.heap.size + 1; omega) (.slice A3 (ys.length + 1) cap3)
          clear hnw c3 k1 k2 k3 k4 k5 m1 m2 m3 m4 m5 hgrow3 hge hSP3 hK3 hI3
          gi_wp2
          refine ⟨hKA.trans ((KeepsOthers.setCell _ _ _).from _), ⟨by simp [World.size_setCell]; exact hIA.size, fun x hx1 hx2 => (heap_setCell_other _ _ _ _ (by simp; omega)).trans (hIA.same x hx1 hx2)⟩, _, q1, ?_, qS, hB3.setCell (by simp; omega) _, qT⟩
          rw [HY.out, hpn]
          exact hown3.kept (grownBy_setCell' W3 (w1.heap.size + 1) _) (.inr hne3.symm)
    case done =>
      intro D W hD hI hd
      obtain ⟨o, k1, k2, k3, k4, k5⟩ := hI
      have c3 : W.cell? ⟨w1.heap.size + 1, 0, none⟩ = some o := k1.cell 0
      have hown := own_more k2 (show w.heap.size ≤ W1.heap.size + 5 by have := hB1.size; omega)
      have hzw := hB1.size
      clear k1 k2 k3 k5
      gi_wp2
      refine ⟨by simp, .inl ⟨D, _, rfl, run_takeDeferred hd, ?_⟩⟩
      have hW2 : (W.putObj D (.deferred none)).ownsRow w.heap.size 9 1 o (closedB xs).length (tcells (closedB xs)) := by
        rw [HS.out]
        exact own_turn' hown (grownBy_putObj' W D _) (fun r e => by cases e; exact ⟨_, hd, rfl⟩)
      have hR : ∀ tmps : Array Value, tmps.getD 2 undef = o → tmps.getD 3 undef = .bool true → (results Tryz.f47 tmps).run Tryz.prog (W.putObj D (.deferred none)) = .ok (.tuple #[o, .bool true]) (W.putObj D (.deferred none)) := fun tmps h2 h3 => by
        have h2' : tmps[2]?.getD undef = o := by simpa using h2
        have h3' : tmps[3]?.getD undef = .bool true := by simpa using h3
        simp [results, Tryz.results47, h2', h3']
      exact ⟨_, hR _ rfl rfl, _, by rw [HM.out], hW2, k4.trans ⟨rfl, rfl, rfl, by simp [World.putObj], fun k hk => World.putObj_heap_other (by have := k4.size; omega)⟩⟩
    case stop =>
      intro _ _ _ _ _ _ hf
      exact hf.elim
  · have hm0 : mvalid xs = false := by simpa [mvalid] using h1
    have HM := Lib.hid hm0
    have HS := Lib.hid (show closedB xs = [] from if_neg (by rw [hm0]; decide))
    have HT := Lib.hid (tableOf_no xs h1 v w hx)
    clear h1 hx hm0
    go_enter Tryz.func47, Tryz.ntmps47
    go_wp2_with fail
    go_step3
    go_wp2_with fail
    refine HT.out.mono ?_
    rintro e w1 ⟨rfl, hb1⟩
    have hs1 := hb1.size
    go_wp2
    rw [Exit.noGoto_ret]
    go_ret2
    exact ⟨_, by rw [HM.out]; rfl, by rw [HS.out]; exact ⟨rfl, .inl ⟨rfl, rfl⟩⟩, by (repeat' (first | (with_reducible exact Below.refl _ _) | (with_reducible assumption) | (with_reducible refine Below.alloc ?_ ?_ _) | (with_reducible refine Below.drew ?_) | (with_reducible refine Below.setCell ?_ ?_ _) | (with_reducible exact Nat.le_refl _) | omega | ((repeat (first | rewrite [World.size_alloc] | rewrite [World.size_setCell] | rewrite [World.size_drew])); omega) | (simp; omega) | (simp; done)))⟩
end Go.Proofs.YteadhnpmmpninaaGreat
