import Derived.Test.YthgcoocgeekdnaaDoorTail
import Derived.Test.YthgcoocgeekdnaaDoorHold
import Derived.Test.YthgcoocgeekdnaaDoorApp
import Derived.Test.YthgcoocgeekdnaaDoorRow
import Derived.Test.YthgcoocgeekdnaaDoorClP
import Derived.Test.YthgcoocgeekdnaaDoorSp1
import Derived.Test.YthgcoocgeekdnaaDoorSource
import Derived.Test.YthgcoocgeekdnaaDoorJxA
import Derived.Sort.LotA
import Derived.Test.YthgcoocgeekdnaaDoorRange
import Derived.Test.YthgcoocgeekdnaaDoorShelf
import Derived.Test.YthgcoocgeekdnaaDoorMarkT
import Derived.Shelf.Utf8.RuneCount
import Derived.Shelf.Unicode.DecodeAny
import Derived.Test.YthgcoocgeekdnaaDoorSlF
import Derived.Test.YthgcoocgeekdnaaDoorNamesIn
import Derived.Test.YthgcoocgeekdnaaDoorNames
import Derived.Test.YthgcoocgeekdnaaDoorComp
namespace Go.PM
open Go.RowKit
def sinkB1 (md : Region.Mode) (ops : Array Oper) (n : Nat) : Bool :=
  (List.range n).all fun i => decide (i = 0) || (List.range (n + 1)).any fun j => decide (i < j) && Region.waitsFor md ops j i
section
variable {P : Program} {ops : Array Oper} {md : Region.Mode}
theorem tail_waits1 {n : Nat} {listed : Array Bool} (hs : sinkB1 md ops n = true) (hc : Region.chainB md ops n = true) (hn : n < ops.size) (inv : HeadInv md ops n listed) :
    ∀ (d i : Nat), n - i = d → 0 < i → i < n → listed.getD i true = false → ∀ t, n ≤ t → t ∉ Region.ready md ops listed := by
  intro d
  induction d using Nat.strongRecOn with
  | _ d ih =>
    intro i hd hi0 hi hun t ht hr
    obtain ⟨_, ot, hot, hall⟩ := mem_ready.1 hr
    have htlt : t < ops.size := (Array.getElem?_eq_some_iff.1 hot).1
    by_cases htn : t = n
    · subst htn
      have h1 := List.all_eq_true.1 hs i (List.mem_range.2 hi)
      rw [Bool.or_eq_true, decide_eq_true_eq] at h1
      have h1 := h1.resolve_left (by omega)
      obtain ⟨j, hj, hj2⟩ := List.any_eq_true.1 h1
      simp only [Bool.and_eq_true, decide_eq_true_eq] at hj2
      obtain ⟨oj, hoj, e, he, hb, hon⟩ := Region.waitsFor_spec hj2.2
      have hjle : j ≤ t := by have := List.mem_range.1 hj; omega
      by_cases hjt : j = t
      · subst hjt
        have : oj = ot := Option.some.inj (hoj.symm.trans hot)
        subst this
        have h2 := hall e he hb
        rw [hon, getD_both hun] at h2
        cases h2
      · cases hl : listed.getD j false with
        | true =>
          have h2 := inv.closed j oj hoj hl e he hb
          rw [hon, getD_both hun] at h2
          cases h2
        | false =>
          have hjs : j < listed.size := by rw [inv.size]; omega
          exact ih (t - j) (by omega) j rfl (by omega) (by omega) (getD_in hjs hl) t (Nat.le_refl _) hr
    · have h1 := List.all_eq_true.1 hc t (List.mem_range.2 htlt)
      simp only [Bool.or_eq_true, decide_eq_true_eq] at h1
      rcases h1 with h1 | h1
      · omega
      · obtain ⟨o', ho', e, he, hb, hon⟩ := Region.waitsFor_spec h1
        have : o' = ot := Option.some.inj (ho'.symm.trans hot)
        subst this
        have h2 := hall e he hb
        rw [hon, getD_both (inv.tail (t - 1) (by omega) (by omega))] at h2
        cases h2
end
section
variable {F : Fence} {m : Nat} {P : Program} {ops : Array Oper} {md : Region.Mode} {C D : World → Prop} {Q : Exit → Act → World → Prop}
theorem wpAnyLQ1_first {n i : Nat} {oi : Oper} {v : Value} {L : Array Bool → Act → Prop} (hi : ops[i]? = some oi) (hsel : ∀ (j : Nat) (o : Oper) cs b, ops[j]? = some o → o.op ≠ .select cs b)
    (hi0 : 0 < i) (hs : sinkB1 md ops n = true) (hc : Region.chainB md ops n = true) (hn : n < ops.size) (hin : i < n)
    (hdone : ∀ listed a, L listed a → ∀ j ∈ Region.ready md ops listed, n ≤ j) :
    ∀ (f : Nat) (listed : Array Bool) (a : Act), HeadInv md ops n listed →
      (∀ j oj, ops[j]? = some oj → j ≠ i → listed.getD j true = false → (∀ e ∈ oj.after, Region.binds md e = true → e.on ≠ i) → oi.apart ops oj = true) →
      i ∈ Region.ready md ops listed → YieldsQuiet F m P ops C oi v a →
      wpAnyLQIn F m P md ops C n L f (listed.setIfInBounds i true) (a.put oi.dst v) → wpAnyLQIn F m P md ops C n L (f + 1) listed a := by
  intro f
  induction f with
  | zero =>
    intro listed a inv _ hr hy H
    have hun := (mem_ready.1 hr).1
    refine ⟨fun h => (by rw [h] at hr; cases hr), fun j hj => ?_⟩
    have hjn : j < n := by
      rcases Nat.lt_or_ge j n with h | h
      · exact h
      · exact absurd hj (tail_waits1 hs hc hn inv _ i rfl hi0 hin hun j h)
    refine ⟨hjn, ?_⟩
    by_cases hji : j = i
    · subst hji; exact hy.qOpIn hi H
    · have := hdone _ _ H j (ready_mono hj hji)
      omega
  | succ f ih =>
    intro listed a inv hfree hr hy H
    have hun := (mem_ready.1 hr).1
    refine ⟨fun h => (by rw [h] at hr; cases hr), fun j hj => ?_⟩
    have hjn : j < n := by
      rcases Nat.lt_or_ge j n with h | h
      · exact h
      · exact absurd hj (tail_waits1 hs hc hn inv _ i rfl hi0 hin hun j h)
    refine ⟨hjn, ?_⟩
    by_cases hji : j = i
    · subst hji; exact hy.qOpIn hi H
    · have h1 := (H.2 j (ready_mono hj hji)).2
      obtain ⟨hjun, oj, hoj, hall⟩ := mem_ready.1 hj
      have hnot : ∀ e ∈ oj.after, Region.binds md e = true → e.on ≠ i := fun e he hb heq => by
        have h1 := hall e he hb
        rw [heq, getD_both hun] at h1
        cases h1
      have h2 := qOpIn_put hoj (hfree j oj hoj hji hjun hnot) (fun cs b => hsel i oi cs b hi) (fun cs b => hsel j oj cs b hoj) hy h1
      have hfree' : ∀ k ok, ops[k]? = some ok → k ≠ i → (listed.setIfInBounds j true).getD k true = false →
          (∀ e ∈ ok.after, Region.binds md e = true → e.on ≠ i) → oi.apart ops ok = true := fun k ok hk hki hun hno => by
        refine hfree k ok hk hki ?_ hno
        by_cases hjk : j = k
        · subst hjk; exact hjun
        · rw [getD_set_ne true hjk] at hun; exact hun
      refine qOpIn_mono (fun a' h3 => ih (listed.setIfInBounds j true) a' (inv.set hj hjn) hfree' (ready_mono hr (Ne.symm hji)) h3.1 ?_) h2
      rw [Array.setIfInBounds_comm _ _ hji]
      exact h3.2

theorem wpAnyLQ1_lex {n g : Nat} {Lq : Act → Prop} (hsel : Region.noSelect ops = true) (hs : sinkB1 md ops n = true) (hc : Region.chainB md ops n = true) (hn : n < ops.size) :
    ∀ (l : List Oper) (k : Nat) (listed : Array Bool) (a : Act), 0 < k → (∀ j, j < l.length → l[j]? = ops[k + j]?) → k + l.length = n → HeadInv md ops n listed →
    Region.lexHead md ops g l.length k listed = true → wpQuietIn F m P ops C Lq l a →
    wpAnyLQIn F m P md ops C n (fun listed' a' => Region.seqB md ops g n listed' = true ∧ Lq a') l.length listed a
  | [], k, listed, a, _, _, hk, _, hB, h => by
    have : k = n := by simpa using hk
    subst this
    exact ⟨by simpa [Region.lexHead] using hB, h⟩
  | o :: l, k, listed, a, hk0, hl, hk, inv, hB, h => by
    have h0 : ops[k]? = some o := by simpa using (hl 0 (by simp)).symm
    simp only [List.length_cons, Region.lexHead, Bool.and_eq_true] at hB
    obtain ⟨⟨hr, hf⟩, hB'⟩ := hB
    have hkn : k < n := by simp only [List.length_cons] at hk; omega
    have hr' : k ∈ Region.ready md ops listed := by simpa using hr
    have hst : qOpIn F m P ops C k (wpQuietIn F m P ops C Lq l) a := by unfold qOpIn; simp only [h0]; exact h
    obtain ⟨v, hy, hK⟩ := yieldsQuiet_of_qOpIn h0 hst
    exact wpAnyLQ1_first h0 (Region.noSelect_spec hsel) hk0 hs hc hn hkn (fun listed' a' hL => seqB_ready hL.1) l.length listed a inv (Region.free_spec h0 hf) hr' hy
      (wpAnyLQ1_lex hsel hs hc hn l (k + 1) _ _ (by omega) (fun j hj => by have := hl (j + 1) (by simp; omega); simpa [Nat.add_assoc, Nat.add_comm 1 j] using this) (by simp only [List.length_cons] at hk; omega) (inv.set hr' hkn) hB' hK)


/-- the same walk, a fact kept till an operation comes that waits for number 0 -/
def wpAnyT (F : Fence) (m : Nat) (P : Program) (md : Region.Mode) (ops : Array Oper) (D : World → Prop) (Q : Exit → Act → World → Prop) : Nat → Array Bool → Act → World → Prop
  | 0, listed, a, w => D w ∧ Region.ready md ops listed = [] ∧ Q .normal a w
  | f + 1, listed, a, w => D w ∧ (Region.ready md ops listed = [] → Q .normal a w) ∧ ∀ j ∈ Region.ready md ops listed,
      wpOpIn F m P ops Q j (fun a' w' => if Region.waitsFor md ops j 0 then wpAnyIn F m P md ops Q f (listed.setIfInBounds j true) a' w' else wpAnyT F m P md ops D Q f (listed.setIfInBounds j true) a' w') a w
theorem wpAnyT_any : ∀ (f : Nat) (listed : Array Bool) (a : Act) (w : World), wpAnyT F m P md ops D Q f listed a w → wpAnyIn F m P md ops Q f listed a w
  | 0, _, _, _, h => h.2
  | f + 1, listed, a, w, h => ⟨h.2.1, fun j hj => wpOpIn_mono (fun a' w' h' => by
      split at h'
      · exact h'
      · exact wpAnyT_any f _ a' w' h') (h.2.2 j hj)⟩
theorem wpAnyT_world {f : Nat} {listed : Array Bool} {a : Act} {w : World} (h : wpAnyT F m P md ops D Q f listed a w) : D w := by
  cases f <;> exact h.1
def YieldsD (P : Program) (ops : Array Oper) (D : World → Prop) (o : Oper) (v : Value) (a : Act) : Prop :=
  Region.wanted o (yielded ops a.tmps) = true ∧ (∀ w, D w → (execOp a.eval o).run P w = .ok (.value v) w) ∧ ∀ w, o.about P w a.eval = none
theorem YieldsD.of_same {o : Oper} {v : Value} {a a' : Act} (hy : YieldsD P ops D o v a) (he : execOp a'.eval o = execOp a.eval o) (hw : Region.wanted o (yielded ops a'.tmps) = Region.wanted o (yielded ops a.tmps)) (hb : ∀ w, o.about P w a'.eval = o.about P w a.eval) : YieldsD P ops D o v a' := by
  unfold YieldsD at *
  rw [he, hw]
  exact ⟨hy.1, hy.2.1, fun w => by rw [hb w]; exact hy.2.2 w⟩
theorem YieldsD.op {i : Nat} {o : Oper} {v : Value} {a : Act} (hro : F.round = none) (hi : ops[i]? = some o) (hy : YieldsD P ops D o v a) {K : Act → World → Prop} {w : World} (hw : D w) (h : K (a.put o.dst v) w) : wpOpIn F m P ops Q i K a w := by
  unfold wpOpIn
  simp only [hi, hy.1, if_true]
  unfold Oper.wpIn
  rw [hro, Oper.semAt_none, hy.2.1 w hw]
  exact ⟨(fun f hf => by rw [hy.2.2 w] at hf; cases hf), h⟩
theorem opD_put {j : Nat} {oi oj : Oper} {v : Value} (hro : F.round = none) (hj : ops[j]? = some oj) (hap : oi.apart ops oj = true)
    (hsi : ∀ cs b, oi.op ≠ .select cs b) (hsj : ∀ cs b, oj.op ≠ .select cs b)
    (hQ : ∀ c a w, Q (.panic c) (a.put oi.dst v) w → Q (.panic c) a w) {K : Act → World → Prop} {a : Act} {w : World}
    (hy : YieldsD P ops D oi v a) (h : wpOpIn F m P ops Q j K (a.put oi.dst v) w) :
    wpOpIn F m P ops Q j (fun a' w' => YieldsD P ops D oi v a' ∧ K (a'.put oi.dst v) w') a w := by
  obtain ⟨h1, h2, h3⟩ := Oper.apart_spec hap
  have keep : ∀ (a : Act), YieldsD P ops D oi v a → ∀ u, YieldsD P ops D oi v (a.put oj.dst u) := fun a hy u =>
    hy.of_same (execOp_put oi hsi a oj.dst u h3) (wanted_put oi a oj.dst u h3) (fun w => about_put oi w a oj.dst u h3)
  have keepD : ∀ d, YieldsD P ops D oi v { a with defers := d :: a.defers } := fun d => hy.of_same rfl rfl (fun _ => rfl)
  unfold wpOpIn at *
  simp only [hj] at *
  rw [wanted_put oj a oi.dst v h1, about_put oj w a oi.dst v h1] at h
  split
  · rename_i hw
    simp only [hw, if_true] at h
    unfold Oper.wpIn at *
    rw [about_put oj w a oi.dst v h1] at h
    refine ⟨h.1, ?_⟩
    have h := h.2
    rw [hro, Oper.semAt_none, execOp_put oj hsj a oi.dst v h1] at h
    rw [hro, Oper.semAt_none]
    generalize (execOp a.eval oj).run P w = r at *
    cases r with
    | ok x w' =>
      cases x <;> simp only [Oper.uponIn] at h ⊢
      case value u => exact ⟨keep a hy u, by rw [← Act.put_comm a v u h2]; exact h⟩
      case skip => exact ⟨keep a hy _, by rw [← Act.put_comm a v undef h2]; exact h⟩
      case defer d =>
        refine ⟨keep _ (keepD d) _, ?_⟩
        rw [← Act.put_comm _ v undef h2, ← Act.put_defers]
        exact h
      case enter f args =>
        refine ⟨h.1, CallsIn.mono h.2 fun e w'' he => ?_⟩
        cases e with
        | returned u => exact ⟨keep a hy u, by rw [← Act.put_comm a v u h2]; exact he⟩
        | panicked c => exact hQ _ _ _ he
        | outgrown => exact he
      case row row args => exact ⟨h.1, RowsIn.mono h.2 fun u w'' he => ⟨keep a hy u, by rw [← Act.put_comm a v u h2]; exact he⟩⟩
      case round l f tmps assign body =>
        refine ⟨h.1, RoundIn.mono h.2 fun e w'' he => ?_⟩
        cases e with
        | returned u => exact ⟨keep a hy u, by rw [← Act.put_comm a v u h2]; exact he⟩
        | panicked c => exact hQ _ _ _ he
        | outgrown => exact he
    | halt x w' =>
      cases x <;> simp only [Oper.uponIn] at h ⊢
      case panic u => exact hQ _ _ _ h
  · rename_i hw
    simp only [hw] at h
    exact ⟨h.1, keep a hy _, by rw [← Act.put_comm a v undef h2]; exact h.2⟩
theorem late_first {oi : Oper} {v : Value} (hro : F.round = none) (hi : ops[0]? = some oi) (hsel : ∀ (j : Nat) (o : Oper) cs b, ops[j]? = some o → o.op ≠ .select cs b)
    (hQ : ∀ c a w, Q (.panic c) (a.put oi.dst v) w → Q (.panic c) a w) :
    ∀ (fuel : Nat) (listed : Array Bool) (a : Act) (w : World),
      (∀ j oj, ops[j]? = some oj → j ≠ 0 → listed.getD j true = false → (∀ e ∈ oj.after, Region.binds md e = true → e.on ≠ 0) → oi.apart ops oj = true) →
      0 ∈ Region.ready md ops listed → YieldsD P ops D oi v a →
      wpAnyT F m P md ops D Q fuel (listed.setIfInBounds 0 true) (a.put oi.dst v) w → wpAnyIn F m P md ops Q (fuel + 1) listed a w := by
  intro fuel
  induction fuel with
  | zero =>
    intro listed a w _ hr hy H
    refine ⟨fun h => (by rw [h] at hr; cases hr), fun j hj => ?_⟩
    by_cases hji : j = 0
    · subst hji; exact hy.op hro hi H.1 H.2
    · have := ready_mono hj hji
      rw [H.2.1] at this
      cases this
  | succ fuel ih =>
    intro listed a w hfree hr hy H
    refine ⟨fun h => (by rw [h] at hr; cases hr), fun j hj => ?_⟩
    by_cases hji : j = 0
    · subst hji; exact hy.op hro hi H.1 (wpAnyT_any _ _ _ _ H)
    · have h1 := H.2.2 j (ready_mono hj hji)
      obtain ⟨hjun, oj, hoj, hall⟩ := mem_ready.1 hj
      have hun0 := (mem_ready.1 hr).1
      have hnot : ∀ e ∈ oj.after, Region.binds md e = true → e.on ≠ 0 := fun e he hb heq => by
        have h1 := hall e he hb
        rw [heq, getD_both hun0] at h1
        cases h1
      have hnw : Region.waitsFor md ops j 0 = false := by
        cases hwf : Region.waitsFor md ops j 0 with
        | false => rfl
        | true =>
          obtain ⟨o', ho', e, he, hb, hon⟩ := Region.waitsFor_spec hwf
          have : o' = oj := Option.some.inj (ho'.symm.trans hoj)
          subst this
          exact absurd hon (hnot e he hb)
      have h2 := opD_put hro hoj (hfree j oj hoj hji hjun hnot) (fun cs b => hsel 0 oi cs b hi) (fun cs b => hsel j oj cs b hoj) hQ hy h1
      have hfree' : ∀ k ok, ops[k]? = some ok → k ≠ 0 → (listed.setIfInBounds j true).getD k true = false →
          (∀ e ∈ ok.after, Region.binds md e = true → e.on ≠ 0) → oi.apart ops ok = true := fun k ok hk hki hun hno => by
        refine hfree k ok hk hki ?_ hno
        by_cases hjk : j = k
        · subst hjk; exact hjun
        · rw [getD_set_ne true hjk] at hun; exact hun
      refine wpOpIn_mono (fun a' w' h3 => ih (listed.setIfInBounds j true) a' w' hfree' (ready_mono hr (Ne.symm hji)) h3.1 ?_) h2
      have h4 := h3.2
      rw [hnw, if_neg (by decide)] at h4
      rw [Array.setIfInBounds_comm _ _ hji]
      exact h4
theorem wpAnyT_of_headQ {n g : Nat} {L : Array Bool → Act → Prop} (hro : F.round = none) (hCD : ∀ w, C w → D w) (hL : ∀ listed a w, C w → L listed a → wpAnyT F m P md ops D Q g listed a w) :
    ∀ (f : Nat) (listed : Array Bool) (a : Act) (w : World), C w → wpAnyLQIn F m P md ops C n L f listed a → wpAnyT F m P md ops D Q (f + g) listed a w
  | 0, listed, a, w, hw, h => by rw [Nat.zero_add]; exact hL _ _ _ hw h
  | f + 1, listed, a, w, hw, h => by
    rw [show f + 1 + g = (f + g) + 1 by omega]
    refine ⟨hCD w hw, fun h0 => absurd h0 h.1, fun i hi => wpOpIn_of_qOpIn hro hw (fun a' w' hw' h' => ?_) (h.2 i hi).2⟩
    have := wpAnyT_of_headQ hro hCD hL f _ a' w' hw' h'
    split
    · exact wpAnyT_any _ _ _ _ this
    · exact this
/-- what is asked of the region's form -/
def lateB (ops : Array Oper) (n : Nat) : Bool :=
  Region.noSelect ops && decide (0 < n) && decide (n + 1 < ops.size) && sinkB1 .any ops n && Region.chainB .any ops n && Region.lexHead .any ops (ops.size - n) (n - 1) 1 ((Array.replicate ops.size false).setIfInBounds 0 true) &&
    Region.waitsFor .any ops (n + 1) 0 && Region.free .any ops (Array.replicate ops.size false) 0 && (Region.ready .any ops (Array.replicate ops.size false)).contains 0
/-- A region that draws its order, whose first operation reads what only the last ones turn: it first, n - 1 quiet ones, one that may make memory, the others one behind the other. -/
theorem any_late {a : Act} {w : World} {l : List Oper} (n : Nat) (hro : F.round = none) (hB : lateB l.toArray n = true) (o0 on : Oper) (h0 : l[0]? = some o0) (hon : l[n]? = some on) (hgn : on.guard = none) (v0 : Value)
    (hQ : ∀ c a w, Q (.panic c) (a.put o0.dst v0) w → Q (.panic c) a w) (hy : YieldsD P l.toArray D o0 v0 a) (hCD : ∀ w, C w → D w) (hC : C w)
    (h : wpQuietIn F m P l.toArray C (fun a' => ∀ w', C w' → ∀ K : Act → World → Prop, (∀ a'' w'', D w'' → wpListIn F m P l.toArray Q (l.drop (n + 1)) a'' w'' → K a'' w'') → Oper.wpIn F m P on a' w' K Q) ((l.drop 1).take (n - 1)) (a.put o0.dst v0)) :
    wpAnyIn F m P .any l.toArray Q l.toArray.size (Array.replicate l.toArray.size false) a w := by
  simp only [lateB, Bool.and_eq_true, decide_eq_true_eq] at hB
  obtain ⟨⟨⟨⟨⟨⟨⟨⟨hsel, hn0⟩, hn⟩, hs⟩, hc⟩, hlex⟩, hw0⟩, hf0⟩, hr0⟩ := hB
  have hn' : n + 1 < l.length := by simpa using hn
  have hr0' : 0 ∈ Region.ready .any l.toArray (Array.replicate l.toArray.size false) := by simpa using hr0
  have h0a : l.toArray[0]? = some o0 := by simpa using h0
  have inv0 : HeadInv .any l.toArray n (Array.replicate l.toArray.size false) :=
    ⟨by simp, fun j oj _ hl => (by rw [getD_replicate_false] at hl; cases hl), fun t _ ht => getD_in (by simpa using ht) (getD_replicate_false _ _)⟩
  have inv1 := inv0.set hr0' hn0
  have htl : ((l.drop 1).take (n - 1)).length = n - 1 := by simp; omega
  have H := wpAnyLQ1_lex (md := .any) (g := l.toArray.size - n) hsel hs hc (by omega) ((l.drop 1).take (n - 1)) 1 _ (a.put o0.dst v0) (by decide) (fun j hj => by
    have hj' : j < n - 1 := by rw [htl] at hj; exact hj
    simp [hj', Nat.add_comm]) (by rw [htl]; omega) inv1 (by rw [htl]; exact hlex) h
  have T := wpAnyT_of_headQ (D := D) (Q := Q) (g := l.toArray.size - n) hro hCD (fun listed a' w' hw' hL => by
    obtain ⟨hseq, hLq⟩ := hL
    obtain ⟨g, hg⟩ : ∃ g, l.toArray.size - n = g + 1 + 1 := ⟨l.toArray.size - n - 2, by simp; omega⟩
    rw [hg] at hseq ⊢
    simp only [Region.seqB, Bool.and_eq_true, decide_eq_true_eq] at hseq
    refine ⟨hCD w' hw', fun h1 => (by rw [hseq.1] at h1; cases h1), fun i hi => ?_⟩
    rw [hseq.1] at hi
    have hin : i = n := by simpa using hi
    subst hin
    have hona : l.toArray[i]? = some on := by simpa using hon
    unfold wpOpIn
    simp only [hona]
    have hwn : Region.wanted on (yielded l.toArray a'.tmps) = true := by simp [Region.wanted, hgn]
    rw [if_pos hwn]
    refine hLq w' hw' _ (fun a'' w'' hD hlist => ?_)
    have hdl : (l.drop (i + 1)).length = g + 1 := by simp at hg ⊢; omega
    have hany := wpAnyIn_of_seq' (md := .any) (Q' := Q) (l.drop (i + 1)) (i + 1) (listed.setIfInBounds i true) a'' w'' (fun j => by simp [List.getElem?_drop]) (by rw [hdl]; simp only [Region.seqB, Bool.and_eq_true, decide_eq_true_eq]; exact hseq.2) hlist
    rw [hdl] at hany
    split
    · exact hany
    · refine ⟨hD, hany.1, fun j hj => ?_⟩
      rw [hseq.2.1] at hj
      have hjn : j = i + 1 := by simpa using hj
      subst hjn
      simp only [hw0, if_true]
      exact hany.2 _ (by rw [hseq.2.1]; simp)) _ _ _ _ hC H
  rw [htl, show n - 1 + (l.toArray.size - n) = l.toArray.size - 1 by omega] at T
  have := late_first (md := .any) hro h0a (Region.noSelect_spec hsel) hQ (l.toArray.size - 1) _ a w (Region.free_spec h0a hf0) hr0' hy T
  rw [show l.toArray.size - 1 + 1 = l.toArray.size by omega] at this
  exact this
theorem region_late_inRound {id r : Nat} {a : Act} {w : World} {l : List Oper} (n : Nat) (hro : F.round = none) (hd : noDefer l.toArray = true) (hm : P.follows .mixedOrders = true) (hB : lateB l.toArray n = true) (o0 on : Oper) (h0 : l[0]? = some o0) (hon : l[n]? = some on) (hgn : on.guard = none) (v0 : Value)
    (hQ : ∀ c a w, Q (.panic c) (a.put o0.dst v0) w → Q (.panic c) a w) (hy : YieldsD P l.toArray D o0 v0 a) (hCD : ∀ w, C w → D w) (hC : C w.drew)
    (h : wpQuietIn F m P l.toArray C (fun a' => ∀ w', C w' → ∀ K : Act → World → Prop, (∀ a'' w'', D w'' → wpListIn F m P l.toArray Q (l.drop (n + 1)) a'' w'' → K a'' w'') → Oper.wpIn F m P on a' w' K Q) ((l.drop 1).take (n - 1)) (a.put o0.dst v0)) :
    (Code.region id l.toArray true).wpIn (F.inRound r) m P Q a w :=
  region_inRound hro hd hm (any_late n hro hB o0 on h0 hon hgn v0 hQ hy hCD hC h)
end
end Go.PM
namespace Go.PM
open Go.RowKit
theorem box_apart {w : World} {base : Nat} {e t : TypeId} {size n b : Nat} {v : Value} {cs : List Value} {c : Array Value} (h : w.ownsRow base e size v n cs) (hA : At w b t c) (hne : e ≠ t) : some b ≠ v.ownBlock := by
  rcases h.2 with ⟨rfl, _⟩ | ⟨g, cap, cur, rfl, _, hg, _⟩
  · simp [Value.ownBlock]
  · intro e'
    simp only [Value.ownBlock, Option.some.injEq] at e'
    subst e'
    unfold At at hA
    rw [hA] at hg
    cases hg
    exact hne rfl
/-- a row of one's own outlasts the turn of a block that is no cells -/
theorem row_turn {w w' : World} {base : Nat} {e : TypeId} {size n : Nat} {v : Value} {cs : List Value} {row : Option Nat} (h : w.ownsRow base e size v n cs) (hg : w.grownBy w' row) (hr : ∀ r, row = some r → ∃ o : Obj, w.heap[r]? = some o ∧ o.isCells = false) : w'.ownsRow base e size v n cs := by
  refine h.kept hg ?_
  rcases h.2 with ⟨rfl, _⟩ | ⟨g, cap, cur, rfl, _, hh, _⟩
  · exact .inl rfl
  · refine .inr fun e' => ?_
    obtain ⟨o, ho, hc⟩ := hr g e'.symm
    rw [hh] at ho
    cases ho
    cases hc
theorem at_turn {w w' : World} {b : Nat} {t : TypeId} {c : Array Value} {row : Option Nat} (h : At w b t c) (hg : w.grownBy w' row) (hr : ∀ r, row = some r → ∃ o : Obj, w.heap[r]? = some o ∧ o.isCells = false) : At w' b t c := by
  refine h.grown hg fun e' => ?_
  obtain ⟨o, ho, hc⟩ := hr b e'.symm
  unfold At at h
  rw [h] at ho
  cases ho
  cases hc
theorem yieldsD_move {P : Program} {ops : Array Oper} {D : World → Prop} {o : Oper} {a : Act} (hgd : o.guard = none) (x : Operand) (ho : o.op = .move x) (v : Value) (hx : a.eval x = v) : YieldsD P ops D o v a := by
  subst hx
  refine ⟨by simp [Region.wanted, hgd], fun w _ => ?_, fun w => by simp [Oper.about, ho]⟩
  simp [execOp, ho]
theorem region_late_wide {P : Program} {m : Nat} {C D : World → Prop} {Q : Exit → Act → World → Prop} {id : Nat} {a : Act} {w : World} {l : List Oper} (n : Nat) (hm : P.follows .mixedOrders = true) (hB : lateB l.toArray n = true) (o0 on : Oper) (h0 : l[0]? = some o0) (hon : l[n]? = some on) (hgn : on.guard = none) (v0 : Value)
    (hQ : ∀ c a w, Q (.panic c) (a.put o0.dst v0) w → Q (.panic c) a w) (hy : YieldsD P l.toArray D o0 v0 a) (hCD : ∀ w, C w → D w) (hC : C w.drew)
    (h : wpQuietIn Fence.wide m P l.toArray C (fun a' => ∀ w', C w' → ∀ K : Act → World → Prop, (∀ a'' w'', D w'' → wpListIn Fence.wide m P l.toArray Q (l.drop (n + 1)) a'' w'' → K a'' w'') → Oper.wpIn Fence.wide m P on a' w' K Q) ((l.drop 1).take (n - 1)) (a.put o0.dst v0)) :
    (Code.region id l.toArray true).wp P Q a w :=
  wpIn_wide.1 (wpIn_region_any hm (any_late n rfl hB o0 on h0 hon hgn v0 hQ hy hCD hC h))
theorem yieldsD_load {P : Program} {ops : Array Oper} {o : Oper} {a : Act} (hgd : o.guard = none) (ty : TypeId) (x : Operand) (ho : o.op = .load ty x) (e : TypeId) (hu : P.underlying ty = some (.slice e)) (b : Nat) (hx : a.eval x = .pointer (some ⟨b, 0, none⟩)) (v : Value) :
    YieldsD P ops (fun w => w.cell? ⟨b, 0, none⟩ = some v) o v a := by
  refine ⟨by simp [Region.wanted, hgd], fun w hw => ?_, fun w => by simp [Oper.about, ho]⟩
  have hagg : (isAgg ty).run P w = .ok false w := by
    unfold isAgg
    rw [Sem.run_bind, run_underlying hu w]
    rfl
  simp [execOp, ho, hx, Instr.loadAt, Instr.sureAddr, loadVar, Sem.run_bind, hagg, run_load, hw]
theorem sliceIn {F : Fence} {n : Nat} {P : Program} {o : Oper} {a : Act} {w : World} {K : Act → World → Prop} {Q : Exit → Act → World → Prop} (t e : TypeId) (len : Nat) (parts : Array (Nat × Operand)) (ho : o.op = .buildSlice t len parts)
    (cells : Array Value) (ie : TypeInfo) (z : Value)
    (hu : P.underlying t = some (.slice e)) (hie : P.info? e = some ie) (hz : ie.zero = some z) (hsmall : ¬ len * ie.size > 2 ^ 24) (hpos : ¬ len * ie.size = 0)
    (hf : Instr.fill (fun i => some (i * ie.size, ie.size)) ((Array.range (len * ie.size)).map (z.cells[· % z.cells.size]!)) (parts.map fun (i, x) => (i, a.eval x)).toList = some cells)
    (h : K (a.put o.dst (.slice (some ⟨w.heap.size, 0, none⟩) len len)) (w.alloc (.cells cells e))) : o.wpIn F n P a w K Q := by
  unfold Oper.wpIn
  refine ⟨by simp [Oper.about, ho], ?_⟩
  rw [Oper.semAt_plain F _ _ (by rw [ho]; intro c hc'; cases hc')]
  unfold execOp
  simp only [ho, Sem.run_bind, run_buildSlice w t e len _ cells ie z hu hie hz hsmall hpos hf, Result.andThen_ok]
  exact h
end Go.PM
namespace Go.Proofs.YthgcoocgeekdnaaDoor
open Go.RowKit Go.PM
theorem sliceIn_mv {F : Fence} {n : Nat} {o : Oper} {a : Act} {w : World} {K : Act → World → Prop} {Q : Exit → Act → World → Prop} (x : Operand) (ho : o.op = .buildSlice 47 1 #[(0, x)]) (s t : ByteArray) (hx : a.eval x = .agg #[.string s, .string t])
    (h : K (a.put o.dst (.slice (some ⟨w.heap.size, 0, none⟩) 1 1)) (w.alloc (.cells #[.string s, .string t] 98))) : o.wpIn F n Tryd.prog a w K Q := by
  obtain ⟨i0, hi0, hz0, hz1, hz2⟩ := info_parts infoMv
  refine sliceIn 47 98 1 #[(0, x)] ho #[.string s, .string t] i0 _ Tryd.underlying47 hi0 hz0 (by rw [hz1]; decide) (by rw [hz1]; decide) ?_ h
  have hr : Array.range 2 = #[0, 1] := by decide
  simp [hx, hz1, Instr.fill, Value.cells, hr]
theorem listIn_mv {F : Fence} {k : Nat} {ops : Array Oper} {rest : List Oper} {o : Oper} {a : Act} {Q : Exit → Act → World → Prop} {w : World} (hgd : o.guard = none) (s x : Operand)
    (ho : o.op = .call { callee := .builtin .append, args := #[s, x], argTypes := #[47, 47] })
    (base : Nat) (v : Value) (ys : List Mv) (m : Mv) (ad : Addr) (c : Nat) (hs : a.eval s = v) (hx : a.eval x = .slice (some ad) 1 c)
    (hown : w.ownsRow base 98 2 v ys.length (mcells ys)) (hnew : ∀ j u, [Value.string m.1, Value.string m.2][j]? = some u → w.cell? (ad.add j) = some u)
    (hlen : ys.length ≤ 1048576) (hbase : base ≤ w.heap.size)
    (h : ∀ v' w', w'.ownsRow base 98 2 v' (ys ++ [m]).length (mcells (ys ++ [m])) → w.grownBy w' v.ownBlock → wpListIn F k Tryd.prog ops Q rest (a.put o.dst v') w') : wpListIn F k Tryd.prog ops Q (o :: rest) a w := by
  obtain ⟨i0, hi0, hz0, hz1, hz2⟩ := info_parts infoMv
  refine wpListIn_append_own w hgd s x _ ho base 98 i0 _ 2 32 Tryd.underlying47 hi0 hz0 hz1 hz2 rfl (by omega) v ys.length (mcells ys) hs hown ad 1 c [Value.string m.1, Value.string m.2] hx rfl hnew
    (by intro u hu; simp at hu; rcases hu with rfl | rfl <;> rfl) (by simp only [maxLen]; omega) (by omega) hbase ?_
  intro v' w' h2 h3 _
  refine h v' w' ?_ h3
  rw [mcells_append, List.length_append]
  simpa [mcells] using h2
end Go.Proofs.YthgcoocgeekdnaaDoor
namespace Go.PF
open Go.PM Go.PD Go.RowKit Go.Lib
def preOk (l : List UInt8) (k : Nat) : Prop := (l.take k).Nodup ∧ ∀ c ∈ l.take k, c ∈ regsL
theorem pre_zero (l : List UInt8) : preOk l 0 := by simp [preOk]
theorem pre_step {l : List UInt8} {k : Nat} (hk : k < l.length) (h : preOk l k) : preOk l (k + 1) ↔ l[k] ∈ regsL ∧ l[k] ∉ l.take k := by
  unfold preOk
  rw [take_snoc l k hk, List.nodup_append]
  constructor
  · rintro ⟨⟨_, _, h1⟩, h2⟩
    exact ⟨h2 _ (List.mem_append_right _ (List.mem_singleton_self _)), fun hm => h1 _ hm _ (List.mem_singleton_self _) rfl⟩
  · rintro ⟨h1, h2⟩
    refine ⟨⟨h.1, by simp, fun a ha b hb e => ?_⟩, fun c hc => ?_⟩
    · have : b = l[k] := by simpa using hb
      subst this; subst e; exact h2 ha
    · rcases List.mem_append.1 hc with hc | hc
      · exact h.2 c hc
      · have : c = l[k] := by simpa using hc
        subst this; exact h1
theorem pre_par {l : List UInt8} (k : Nat) (h : parOk l = true) : preOk l k :=
  ⟨(par_nodup h).sublist (List.take_sublist _ _), fun c hc => par_reg h c (List.mem_of_mem_take hc)⟩
theorem par_no {l : List UInt8} {k : Nat} (h : ¬ preOk l k) : parOk l = false := by
  cases hb : parOk l with
  | false => rfl
  | true => exact absurd (pre_par k hb) h
theorem ars_no {az : ByteArray} {k : Nat} (hk : k < az.size) (h : isS (az.extract k (k + 1)) = false) (ps : List UInt8) : clOk ps az.data.toList = false := by
  cases hb : clOk ps az.data.toList with
  | false => rfl
  | true =>
    have hl : k < az.data.toList.length := by rw [size_data]; exact hk
    rw [extract_one az k hk, List.getD_eq_getElem?_getD, List.getElem?_eq_getElem hl] at h
    have := cl_src hb _ (List.getElem_mem hl)
    rw [show ch az.data.toList[k] = ⟨#[(some az.data.toList[k]).getD 0]⟩ from rfl] at this
    rw [this] at h
    cases h
theorem ars_yes {az : ByteArray} (h : ∀ k, k < az.size → isS (az.extract k (k + 1)) = true) (ps : List UInt8) : clOk ps az.data.toList = (parOk ps && decide (az.data.toList.length = ps.length)) := by
  have : arsOk az.data.toList = true := by
    unfold arsOk
    rw [List.all_eq_true]
    intro c hc
    obtain ⟨k, hk, rfl⟩ := List.getElem_of_mem hc
    have h2 := h k (by rw [← size_data]; exact hk)
    rw [extract_one az k (by rw [← size_data]; exact hk), List.getD_eq_getElem?_getD, List.getElem?_eq_getElem hk] at h2
    exact h2
  unfold clOk; rw [this, Bool.true_and]
theorem clM_take {ps az : ByteArray} (h : az.size = ps.size) (k : Nat) (hk : k < ps.size) : (clM ps.data.toList az.data.toList).take (k + 1) = (clM ps.data.toList az.data.toList).take k ++ [(ps.extract k (k + 1), az.extract k (k + 1))] := by
  have h1 : k < ps.data.toList.length := by rw [size_data]; exact hk
  have h2 : k < az.data.toList.length := by rw [size_data]; omega
  have hl : k < (clM ps.data.toList az.data.toList).length := by rw [clM_len _ _ (by rw [size_data, size_data]; exact h)]; exact h1
  rw [take_snoc _ k hl, clM_at k hl h1 h2, extract_one ps k hk, extract_one az k (by omega), List.getD_eq_getElem?_getD, List.getD_eq_getElem?_getD, List.getElem?_eq_getElem h1, List.getElem?_eq_getElem h2]
  rfl
theorem agS_at {ps : List UInt8} {xs : List Mv} (k : Nat) (hk : k < xs.length) (h : (decide (xs[k].1 = xs[k].2) || inPs ps xs[k]) = false) : agS ps xs = false := by
  cases hb : agS ps xs with
  | false => rfl
  | true =>
    have := List.all_eq_true.1 hb _ (List.getElem_mem hk)
    rw [this] at h; cases h
theorem agS_all {ps : List UInt8} {xs : List Mv} (h : ∀ k (hk : k < xs.length), (decide (xs[k].1 = xs[k].2) || inPs ps xs[k]) = true) : agS ps xs = true :=
  List.all_eq_true.2 fun m hm => by
    obtain ⟨k, hk, rfl⟩ := List.getElem_of_mem hm
    exact h k hk
theorem src_one {xs : List Mv} (h : MV xs) {a : ByteArray} (ha : isP a = true) : (srcM xs a).size = 1 := by
  have : isS (srcM xs (nm (pidx a))) = true := SVal_M h (pidx a) (pidx_spec ha).1
  rw [(pidx_spec ha).2] at this
  exact isS_size this
end Go.PF
namespace Go.Proofs.YthgcoocgeekdnaaDoor
open Go.RowKit Go.PM Go.PD Go.PF Go.Lib
attribute [local go_sem] Oper.semAt_some
theorem par_full {l : List UInt8} (h : preOk l l.length) : parOk l = inB (l.length : Int) 1 4 := by
  unfold preOk at h
  rw [List.take_length] at h
  unfold parOk inB
  rw [decide_eq_true (p := l.Nodup ∧ ∀ c ∈ l, c ∈ regsL) h, Bool.and_true, decide_eq_decide]
  omega
theorem regB (c : UInt8) : decide (c ∈ regsL) = inB (c.toNat : Int) 97 102 := by
  unfold inB
  rw [decide_eq_decide]
  constructor
  · intro h
    simp only [regsL, List.mem_cons, List.not_mem_nil, or_false] at h
    rcases h with rfl | rfl | rfl | rfl | rfl | rfl <;> decide
  · intro h
    have e : c = UInt8.ofNat c.toNat := by simp
    have h2 : c.toNat = 97 ∨ c.toNat = 98 ∨ c.toNat = 99 ∨ c.toNat = 100 ∨ c.toNat = 101 ∨ c.toNat = 102 := by omega
    rw [e]
    rcases h2 with h2 | h2 | h2 | h2 | h2 | h2 <;> rw [h2] <;> decide

set_option maxRecDepth 100000 in
set_option maxHeartbeats 1000000 in
theorem l10Params_c (s : ByteArray) (hs : s.size ≤ 1048576) (w : World) :
    Calls Tryd.prog 35 #[.string s] w fun e w' => e = .returned (.bool (parOk s.data.toList)) ∧ Below w.heap.size w w' := by
  have HIN := Lib.hid (fun n lo hi W => l1In_c n lo hi W)
  have HFD := Lib.hid (fun (t : ByteArray) c W ht => l13Find_c t c W ht)
  have HX : Hid (∀ k, (s.extract 0 k).data.toList = s.data.toList.take k) := fun k => by rw [extract_data]; simp
  have HL : Hid (∀ k (hk : k < s.size), s.data.toList[k]? = some s[k]) := fun k hk => List.getElem?_eq_getElem (by rw [size_data]; exact hk)
  have HP0 := Lib.hid (pre_zero s.data.toList)
  have HPS := Lib.hid (fun k hk h => pre_step (l := s.data.toList) (k := k) hk h)
  have HNO := Lib.hid (fun k h => par_no (l := s.data.toList) (k := k) h)
  have HFU := Lib.hid (fun h => par_full (l := s.data.toList) h)
  have HSZ := Lib.hid (size_data s)
  generalize s.data.toList = l at *
  go_enter Tryd.func35, Tryd.ntmps35
  go_wp2
  go_loopw [3, 6] (fun _ i wr => ∃ k : Nat, k ≤ s.size ∧ i = .int .i64 k ∧ Hid (preOk l k) ∧ Below w.heap.size w wr) (fun _ i _ => s.size - (RowKit.intOf i).toNat)
  case atStart => exact ⟨0, by omega, rfl, HP0.out, Below.refl _ _⟩
  case round =>
    obtain ⟨k, hk, rfl, hp, hb⟩ := hrel
    have hbs := hb.size
    by_cases hlt : k < s.size
    · have hll : k < l.length := by rw [HSZ.out]; exact hlt
      have i0 : (0 : Int) ≤ (k : Int) := by omega
      have i1 : (k : Int) < (s.size : Int) := by omega
      have i2 : (k : Int) ≤ (s.size : Int) := by omega
      have HST := Lib.hid (HPS.out k hll hp.out)
      rw [show l[k] = s[k] from (List.getElem_eq_iff hll).2 (HL.out k hlt)] at HST
      have hfd := fun W => HFD.out (s.extract 0 k) s[k] W (by rw [ByteArray.size_extract]; omega)
      rw [HX.out k] at hfd
      have HF := Lib.hid hfd
      have HII := Lib.hid (fun W => HIN.out ((s[k].toNat : Nat) : Int) 97 102 W)
      have hreg := regB s[k]
      clear hfd hll
      have hu8 := wrap64_u8 s[k]
      generalize hc : s[k] = c at *
      rcases Bool.eq_false_or_eq_true (inB (c.toNat : Int) 97 102) with h1 | h1
      · rw [h1] at hreg HII
        by_cases hin : (0 : Int) ≤ indexByte (l.take k) c
        · have HN : Hid (parOk l = false) := HNO.out (k + 1) (fun h => ((HST.out.1 h).2) ((indexByte_mem _ _).1 hin))
          go_wp2
          refine wp_region_ext wr.heap.size (by kernel_rfl) (by kernel_rfl) ?_
          repeat (go_big_quiet_step (first | (go_at_call 40; exact ext_same _ (HII.out _)) | (go_at_call 43; exact ext_same _ (HF.out _))))
          refine wpQuiet_nil ?_
          intro w2 hw'
          obtain ⟨xw, hxw⟩ := hw'
          have hb2 := xw.property
          rw [← hxw] at hb2
          clear hxw xw
          have hbw := hb.trans (hb2.mono hbs)
          clear hb2
          go_wp2
          go_ret
          exact ⟨by rw [HN.out]; rfl, hbw⟩
        · have HK : Hid (preOk l (k + 1)) := HST.out.2 ⟨of_decide_eq_true hreg, fun hm => hin ((indexByte_mem _ _).2 hm)⟩
          go_wp2
          refine wp_region_ext wr.heap.size (by kernel_rfl) (by kernel_rfl) ?_
          repeat (go_big_quiet_step (first | (go_at_call 40; exact ext_same _ (HII.out _)) | (go_at_call 43; exact ext_same _ (HF.out _))))
          refine wpQuiet_nil ?_
          intro w2 hw'
          obtain ⟨xw, hxw⟩ := hw'
          have hb2 := xw.property
          rw [← hxw] at hb2
          clear hxw xw
          have hbw := hb.trans (hb2.mono hbs)
          clear hb2
          go_wp2
          go_roundw
          case rel => exact ⟨k + 1, by omega, by go_num, HK, hbw⟩
          case measure => simp [RowKit.intOf]; omega
      · rw [h1] at hreg HII
        have HN : Hid (parOk l = false) := HNO.out (k + 1) (fun h => (of_decide_eq_false hreg) (HST.out.1 h).1)
        go_wp2
        refine wp_region_ext wr.heap.size (by kernel_rfl) (by kernel_rfl) ?_
        repeat (go_big_quiet_step (first | (go_at_call 40; exact ext_same _ (HII.out _)) | (go_at_call 43; exact ext_same _ (HF.out _))))
        refine wpQuiet_nil ?_
        intro w2 hw'
        obtain ⟨xw, hxw⟩ := hw'
        have hb2 := xw.property
        rw [← hxw] at hb2
        clear hxw xw
        have hbw := hb.trans (hb2.mono hbs)
        clear hb2
        go_wp2
        go_ret
        exact ⟨by rw [HN.out]; rfl, hbw⟩
    · have hk' : k = l.length := by rw [HSZ.out]; omega
      have HE : Hid (parOk l = inB (s.size : Int) 1 4) := by
        show _ = _
        rw [← HSZ.out]
        refine HFU.out ?_
        rw [← hk']; exact hp.out
      have i1 : ¬ (k : Int) < (s.size : Int) := by omega
      clear hk'
      go_wp2_with (first | (go_at_call 40; refine (HIN.out _ _ _ _).mono ?_; rintro e w' ⟨rfl, rfl⟩))
      go_ret
      exact ⟨by rw [HE.out]; rfl, hb⟩
set_option maxRecDepth 100000 in
set_option maxHeartbeats 1000000 in
theorem spCallValid_c (ps az : ByteArray) (hp : ps.size ≤ 1048576) (ha : az.size ≤ 1048576) (w : World) :
    Calls Tryd.prog 41 #[.string ps, .string az] w fun e w' => e = .returned (.bool (clOk ps.data.toList az.data.toList)) ∧ Below w.heap.size w w' := by
  have HPA := Lib.hid (fun W => l10Params_c ps hp W)
  have HNO := Lib.hid (fun k hk h => ars_no (az := az) (k := k) hk h ps.data.toList)
  have HYES : Hid ((∀ k, k < az.size → isS (az.extract k (k + 1)) = true) → clOk ps.data.toList az.data.toList = (parOk ps.data.toList && decide ((az.size : Int) = (ps.size : Int)))) := fun h => by
    rw [ars_yes h, size_data, size_data]
    congr 1
    rw [decide_eq_decide]; omega
  have hor : ∀ (s : ByteArray) x y, isP s = x → isD s = y → isS s = (x || y) := by rintro s x y rfl rfl; rfl
  have HOR := Lib.hid hor
  clear hor
  generalize clOk ps.data.toList az.data.toList = r at *
  generalize parOk ps.data.toList = po at *
  go_enter Tryd.func41, Tryd.ntmps41
  go_wp2
  go_loop [5, 8] (fun _ i => ∃ k : Nat, k ≤ az.size ∧ i = .int .i64 k ∧ Hid (∀ j, j < k → isS (az.extract j (j + 1)) = true)) (fun _ i => az.size - (RowKit.intOf i).toNat)
  case atStart => exact ⟨0, by omega, rfl, fun j hj => absurd hj (by omega)⟩
  case round =>
    obtain ⟨k, hk, rfl, hj⟩ := hrel
    by_cases hlt : k < az.size
    · have i0 : (0 : Int) ≤ (k : Int) := by omega
      have i1 : (k : Int) < (az.size : Int) := by omega
      have i2 : (k : Int) + 1 ≤ (az.size : Int) := by omega
      have HN := Lib.hid (HNO.out k hlt)
      have HNX : Hid (isS (az.extract k (k + 1)) = true → ∀ j, j < k + 1 → isS (az.extract j (j + 1)) = true) := fun h j hjk => by
        by_cases e : j = k
        · subst e; exact h
        · exact hj.out j (by omega)
      have HP := Lib.hid (fun W => l1Place_c (az.extract k (k + 1)) W)
      have HD := Lib.hid (fun W => l1Digit_c (az.extract k (k + 1)) W)
      have HO := Lib.hid (HOR.out (az.extract k (k + 1)))
      generalize hq : az.extract k (k + 1) = q at *
      rcases Bool.eq_false_or_eq_true (isP q) with h1 | h1
      · have HK := Lib.hid (HNX.out (HO.out _ _ h1 rfl))
        rw [h1] at HP
        clear h1
        go_wp2_with (first | (go_at_call 58; refine (HP.out _).mono ?_; rintro e w' ⟨rfl, rfl⟩) | (go_at_call 59; refine (HD.out _).mono ?_; rintro e w' ⟨rfl, rfl⟩))
        go_round
        case rel => exact ⟨k + 1, by omega, by go_num, HK⟩
        case measure => simp [RowKit.intOf]; omega
      · rw [h1] at HP
        rcases Bool.eq_false_or_eq_true (isD q) with h2 | h2
        · have HK := Lib.hid (HNX.out (HO.out _ _ h1 h2))
          rw [h2] at HD
          clear h1 h2
          go_wp2_with (first | (go_at_call 58; refine (HP.out _).mono ?_; rintro e w' ⟨rfl, rfl⟩) | (go_at_call 59; refine (HD.out _).mono ?_; rintro e w' ⟨rfl, rfl⟩))
          go_round
          case rel => exact ⟨k + 1, by omega, by go_num, HK⟩
          case measure => simp [RowKit.intOf]; omega
        · have HF := Lib.hid (HN.out (HO.out _ _ h1 h2))
          rw [h2] at HD
          clear h1 h2
          go_wp2_with (first | (go_at_call 58; refine (HP.out _).mono ?_; rintro e w' ⟨rfl, rfl⟩) | (go_at_call 59; refine (HD.out _).mono ?_; rintro e w' ⟨rfl, rfl⟩))
          go_ret
          exact ⟨by rw [HF.out]; rfl, Below.refl _ _⟩
    · have hk' : k = az.size := by omega
      have i1 : ¬ (k : Int) < (az.size : Int) := by omega
      have HE : Hid (r = (po && decide ((az.size : Int) = (ps.size : Int)))) := by
        refine HYES.out ?_
        rw [← hk']; exact hj.out
      clear hk'
      cases po with
      | false =>
        go_wp2_with (first | (go_at_call 35; refine (HPA.out _).mono ?_; rintro e w2 ⟨rfl, hb2⟩))
        go_ret
        exact ⟨by rw [HE.out]; rfl, hb2⟩
      | true =>
        by_cases hsz : (az.size : Int) = (ps.size : Int)
        · have t1 : ((az.size : Int) == (ps.size : Int)) = true := by simpa using hsz
          have HE2 : Hid (r = true) := by show _ = _; rw [HE.out, decide_eq_true hsz]; rfl
          clear hsz
          go_wp2_with (first | (go_at_call 35; refine (HPA.out _).mono ?_; rintro e w2 ⟨rfl, hb2⟩))
          go_ret
          exact ⟨by rw [HE2.out]; rfl, hb2⟩
        · have t1 : ((az.size : Int) == (ps.size : Int)) = false := by simpa using hsz
          have HE2 : Hid (r = false) := by show _ = _; rw [HE.out, decide_eq_false hsz]; rfl
          clear hsz
          go_wp2_with (first | (go_at_call 35; refine (HPA.out _).mono ?_; rintro e w2 ⟨rfl, hb2⟩))
          go_ret
          exact ⟨by rw [HE2.out]; rfl, hb2⟩
set_option maxRecDepth 100000 in
set_option maxHeartbeats 1000000 in
theorem l10Moves_c (ps az : ByteArray) (hs : az.size = ps.size) (hp : ps.size ≤ 4) (w : World) :
    Calls Tryd.prog 53 #[.string ps, .string az] w fun e w' => ∃ v', e = .returned v' ∧ w'.ownsRow w.heap.size 98 2 v' (clM ps.data.toList az.data.toList).length (mcells (clM ps.data.toList az.data.toList)) ∧ Below w.heap.size w w' := by
  have hE := World.ownsRow_lit (e := 98) (base := w.heap.size) (size := 2) w #[] 0 (Nat.le_refl _) (Nat.zero_le _) rfl
  have HT := Lib.hid (fun k hk => clM_take hs k hk)
  have HLE : Hid ((clM ps.data.toList az.data.toList).length = ps.size) := by show _ = _; rw [clM_len _ _ (by rw [size_data, size_data]; exact hs), size_data]
  have HFL : Hid ((clM ps.data.toList az.data.toList).take ps.size = clM ps.data.toList az.data.toList) := by show _ = _; rw [List.take_of_length_le (by rw [HLE.out]; exact Nat.le_refl _)]
  generalize clM ps.data.toList az.data.toList = xs at *
  go_enter Tryd.func53, Tryd.ntmps53
  go_wp2
  go_loopw [5, 6, 10] (fun o _ i wr => ∃ (k : Nat), k ≤ ps.size ∧ i = .int .i64 k ∧ wr.ownsRow w.heap.size 98 2 o (xs.take k).length (mcells (xs.take k)) ∧ Below w.heap.size w wr) (fun _ _ i _ => ps.size - (RowKit.intOf i).toNat)
  case atStart => exact ⟨0, by omega, rfl, hE, by (repeat' (first | (with_reducible exact Below.refl _ _) | (with_reducible assumption) | (with_reducible refine Below.alloc ?_ ?_ _) | (with_reducible refine Below.drew ?_) | (with_reducible refine Below.setCell ?_ ?_ _) | (with_reducible exact Nat.le_refl _) | omega | ((repeat (first | rewrite [World.size_alloc] | rewrite [World.size_setCell] | rewrite [World.size_drew])); omega) | (simp; omega) | (simp; done)))⟩
  case round =>
    obtain ⟨k, hk, rfl, ho, hb⟩ := hrel
    have hbs := hb.size
    by_cases hlt : k < ps.size
    · have i0 : (0 : Int) ≤ (k : Int) := by omega
      have i1 : (k : Int) < (ps.size : Int) := by omega
      have i2 : (k : Int) + 1 ≤ (ps.size : Int) := by omega
      have i3 : (k : Int) + 1 ≤ (az.size : Int) := by omega
      have HTK := Lib.hid (HT.out k hlt)
      have hlk : (xs.take k).length ≤ 4 := by rw [List.length_take]; omega
      generalize hx1 : ps.extract k (k + 1) = x1 at *
      generalize hx2 : az.extract k (k + 1) = x2 at *
      have hnw := two_new wr.drew (.string x1) (.string x2) 98
      go_wp2
      refine region_late_wide (m := 0) (C := fun w' => w' = wr.drew) (D := fun _ => True) 12 (by kernel_rfl) (by kernel_rfl) _ _ (by rfl) (by rfl) (by rfl) u5 (by intro _ _ _ h; exact h) (yieldsD_move (by rfl) _ (by rfl) u5 (by rfl)) (fun _ _ => trivial) rfl ?_
      simp only [List.take_succ_cons, List.take_zero, List.drop_succ_cons, List.drop_zero, Nat.reduceSub, Nat.reduceAdd]
      simp only [Act.put, List.setIfInBounds_toArray, List.set_cons_succ, List.set_cons_zero]
      repeat (gi_big_quiet_step (fail))
      refine wpQuietIn_nil ?_
      intro w' hw' K hK
      subst hw'
      refine sliceIn_mv (.tmp 24) rfl x1 x2 (by rfl) ?_
      refine hK _ _ trivial ?_
      clear hK K
      simp only [Act.put, List.setIfInBounds_toArray, List.set_cons_succ, List.set_cons_zero]
      have hod : wr.drew.ownsRow w.heap.size 98 2 u5 (xs.take k).length (mcells (xs.take k)) := ho
      refine listIn_mv rfl (.tmp 13) (.tmp 25) rfl w.heap.size u5 (xs.take k) (x1, x2) ⟨wr.drew.heap.size, 0, none⟩ 1 (by rfl) (by rfl) (own_keep hod ((Below.refl _ _).alloc (Nat.le_refl _) _)) hnw (by omega) (by simp; omega) ?_
      intro v' w3 hown3 hgrow3
      have hge := own_block_ge ho
      have Bd : Below w.heap.size w wr.drew := hb.drew
      have hbw3 : Below w.heap.size w w3 := (Bd.alloc Bd.size (.cells #[.string x1, .string x2] 98)).trans (below_grown hgrow3 (B := w.heap.size) (by have := Bd.size; simp; omega) hge)
      clear ho hod hge hgrow3 hnw Bd
      gi_wp2
      go_wp2
      go_roundw
      case rel => exact ⟨k + 1, by omega, by go_num, by rw [HTK.out]; exact hown3, hbw3⟩
      case measure => simp [RowKit.intOf]; omega
    · have HK : Hid (k = ps.size) := by show _ = _; omega
      have i1 : ¬ (k : Int) < (ps.size : Int) := by omega
      have ho2 := ho
      rw [HK.out, HFL.out] at ho2
      clear ho hlt
      go_wp2
      go_ret
      exact ⟨_, rfl, ho2, hb⟩
end Go.Proofs.YthgcoocgeekdnaaDoor
namespace Go.Proofs.YthgcoocgeekdnaaDoor
open Go.RowKit Go.PM Go.PD Go.PF Go.Lib
attribute [local go_sem] Oper.semAt_some
theorem cs_at {n : Int} {cs : List ByteArray} (h : csOk n cs = true) : 1 ≤ n ∧ n ≤ 4 ∧ cs.length ≤ 5 ∧ ∀ c ∈ cs, clOk (abc n.toNat) c.data.toList = true := by
  unfold csOk at h
  rw [Bool.and_eq_true, decide_eq_true_eq, List.all_eq_true] at h
  exact ⟨h.1.1, h.1.2.1, h.1.2.2, h.2⟩
theorem cs_size {n : Int} {cs : List ByteArray} (h : csOk n cs = true) : ∀ c ∈ cs, (c.size : Int) = n := fun c hc => by
  obtain ⟨h1, h2, _, h4⟩ := cs_at h
  have h5 := cl_len (h4 c hc)
  rw [size_data, (abc_par (n := n.toNat) (by omega) (by omega)).2] at h5
  omega
theorem cs_cl {n : Int} {cs : List ByteArray} (h : csOk n cs = true) {ps : List UInt8} (hp : parOk ps = true) (hl : (ps.length : Int) = n) : ∀ c ∈ cs, clOk ps c.data.toList = true := fun c hc => by
  obtain ⟨h1, h2, _, h4⟩ := cs_at h
  refine cl_mk hp ?_ (cl_src (h4 c hc))
  have := cs_size h c hc
  rw [size_data]; omega
theorem cs_no {n : Int} {cs : List ByteArray} {k : Nat} (hk : k < cs.length) (h : clOk (abc n.toNat) cs[k].data.toList = false) : csOk n cs = false := by
  cases hb : csOk n cs with
  | false => rfl
  | true =>
    have := (cs_at hb).2.2.2 _ (List.getElem_mem hk)
    rw [this] at h; cases h
theorem cs_yes {n : Int} {cs : List ByteArray} (h : 1 ≤ n ∧ n ≤ 4 ∧ cs.length ≤ 5) (h2 : ∀ k (hk : k < cs.length), clOk (abc n.toNat) cs[k].data.toList = true) : csOk n cs = true := by
  unfold csOk
  rw [decide_eq_true h, Bool.true_and, List.all_eq_true]
  intro c hc
  obtain ⟨k, hk, rfl⟩ := List.getElem_of_mem hc
  exact h2 k hk
theorem abcB (n : Nat) (hn : n ≤ 4) : ((⟨#[97, 98, 99, 100]⟩ : ByteArray).extract 0 n).data.toList = abc n := by
  match n, hn with
  | 0, _ | 1, _ | 2, _ | 3, _ | 4, _ => decide +kernel

set_option maxRecDepth 100000 in
set_option maxHeartbeats 1600000 in
theorem spCallsValid_c (n : Int) (cs : List ByteArray) (v : Value) (w : World) (hx : RdT w v cs) (hz : ∀ c ∈ cs, c.size ≤ 1048576) (hn' : cs.length ≤ 1048576) :
    Calls Tryd.prog 21 #[.int .i64 n, v] w fun e w' => e = .returned (.bool (csOk n cs)) ∧ Below w.heap.size w w' := by
  obtain ⟨A, cap, rfl, hn, hc, hcell⟩ := hx.open
  clear hx
  have HI := Lib.hid (fun W => l1In_c n 1 4 W)
  by_cases h1 : 1 ≤ n ∧ n ≤ 4
  · have e1 : inB n 1 4 = true := decide_eq_true h1
    rw [e1] at HI
    obtain ⟨m, rfl⟩ := Int.eq_ofNat_of_zero_le (show (0 : Int) ≤ n by omega)
    by_cases h2 : cs.length ≤ 5
    · have HV : Hid (∀ k (hk : k < cs.length) W, Calls Tryd.prog 41 #[.string ((⟨#[97, 98, 99, 100]⟩ : ByteArray).extract 0 m), .string cs[k]] W fun e w' => e = .returned (.bool (clOk (abc m) cs[k].data.toList)) ∧ Below W.heap.size W w') := fun k hk W => by
        have := spCallValid_c ((⟨#[97, 98, 99, 100]⟩ : ByteArray).extract 0 m) cs[k] (by rw [ByteArray.size_extract]; omega) (hz _ (List.getElem_mem hk)) W
        rw [abcB m (by omega)] at this
        exact this
      have HNO := Lib.hid (fun k (hk : k < cs.length) h => cs_no (n := (m : Int)) hk h)
      have HYES := Lib.hid (fun h => cs_yes (n := (m : Int)) (cs := cs) ⟨h1.1, h1.2, h2⟩ h)
      rw [show ((m : Int)).toNat = m from rfl] at HNO HYES
      have t1 : ¬ (cs.length : Int) > 5 := by omega
      have t2 : decide ((cs.length : Int) > 5) = false := decide_eq_false t1
      have i3 : (m : Int) ≤ 4 := h1.2
      have i4 : (0 : Int) ≤ (m : Int) := by omega
      clear hz h1 h2 e1
      generalize csOk (m : Int) cs = r at *
      go_enter Tryd.func21, Tryd.ntmps21
      go_wp2_with (go_at_call 40; refine (HI.out _).mono ?_; rintro e w' ⟨rfl, rfl⟩)
      go_loopw [6, 17] (fun _ i wr => ∃ (k : Nat), k ≤ cs.length ∧ i = .int .i64 k ∧ Hid (∀ j (hj : j < cs.length), j < k → clOk (abc m) cs[j].data.toList = true) ∧ Below w.heap.size w wr) (fun _ i _ => cs.length - (RowKit.intOf i).toNat)
      case atStart => exact ⟨0, by omega, rfl, fun j _ hj => absurd hj (Nat.not_lt_zero j), Below.refl _ _⟩
      case round =>
        obtain ⟨k, hk, rfl, hall, hb⟩ := hrel
        have hbs := hb.size
        by_cases hlt : k < cs.length
        · obtain ⟨b, off, rfl, hbl, hc1⟩ := hcell k hlt
          have hd1 := (hb.cell (p := ⟨b, off + k, none⟩) hbl).trans hc1
          have HVK := Lib.hid (HV.out k hlt)
          have HNK := Lib.hid (HNO.out k hlt)
          have HNX : Hid (clOk (abc m) cs[k].data.toList = true → ∀ j (hj : j < cs.length), j < k + 1 → clOk (abc m) cs[j].data.toList = true) := fun h j hj hjk => by
            by_cases e : j = k
            · subst e; exact h
            · exact hall.out j hj (by omega)
          have i0 : (0 : Int) ≤ (k : Int) := by omega
          have i1 : (k : Int) < (cs.length : Int) := by omega
          clear hc1 hcell
          generalize clOk (abc m) cs[k].data.toList = ok at *
          generalize cs[k] = q at *
          cases ok with
          | true =>
            have HK := Lib.hid (HNX.out rfl)
            go_wp2_with fail
            refine (HVK.out _).mono ?_
            rintro e w2 ⟨rfl, hb2⟩
            have hbw := hb.trans (hb2.mono hbs)
            go_wp2
            go_roundw
            case rel => exact ⟨k + 1, by omega, by go_num, HK, hbw⟩
            case measure => simp [RowKit.intOf]; omega
          | false =>
            have HK := Lib.hid (HNK.out rfl)
            go_wp2_with fail
            refine (HVK.out _).mono ?_
            rintro e w2 ⟨rfl, hb2⟩
            have hbw := hb.trans (hb2.mono hbs)
            go_wp2
            go_ret
            exact ⟨by rw [HK.out]; rfl, hbw⟩
        · have HT : Hid (r = true) := HYES.out fun j hj => hall.out j hj (by omega)
          have i1 : ¬ (k : Int) < (cs.length : Int) := by omega
          go_wp2
          go_ret
          exact ⟨by rw [HT.out]; rfl, hb⟩
    · have HN : Hid (csOk (m : Int) cs = false) := by
        show _ = _
        unfold csOk
        rw [decide_eq_false (fun h => h2 h.2.2)]; rfl
      have t1 : (cs.length : Int) > 5 := by omega
      have t2 : decide ((cs.length : Int) > 5) = true := decide_eq_true t1
      clear hz h1 h2 e1 hcell
      generalize csOk (m : Int) cs = r at *
      go_enter Tryd.func21, Tryd.ntmps21
      go_wp2_with (go_at_call 40; refine (HI.out _).mono ?_; rintro e w' ⟨rfl, rfl⟩)
      go_ret
      exact ⟨by rw [HN.out]; rfl, Below.refl _ _⟩
  · have e1 : inB n 1 4 = false := decide_eq_false h1
    rw [e1] at HI
    have HN : Hid (csOk n cs = false) := by
      show _ = _
      unfold csOk
      rw [decide_eq_false (fun h => h1 ⟨h.1, h.2.1⟩)]; rfl
    clear hz h1 e1 hcell
    generalize csOk n cs = r at *
    go_enter Tryd.func21, Tryd.ntmps21
    go_wp2_with (go_at_call 40; refine (HI.out _).mono ?_; rintro e w' ⟨rfl, rfl⟩)
    go_ret
    exact ⟨by rw [HN.out]; rfl, Below.refl _ _⟩
set_option maxRecDepth 100000 in
set_option maxHeartbeats 1600000 in
theorem l11Total_c (ps : ByteArray) (cs : List ByteArray) (v : Value) (w : World) (hx : RdT w v cs) (hp : ps.size ≤ 4) (hs : ∀ c ∈ cs, c.size = ps.size) (h5 : cs.length ≤ 5) :
    Calls Tryd.prog 36 #[.string ps, v] w fun e w' => e = .returned (.int .i64 (totI ps.data.toList cs)) ∧ Below w.heap.size w w' := by
  obtain ⟨A, cap, rfl, hn, hc, hcell⟩ := hx.open
  clear hx
  have HM := Lib.hid (fun k (hk : k < cs.length) W => l10Moves_c ps cs[k] (hs _ (List.getElem_mem hk)) hp W)
  have HSZ : Hid (∀ k (hk : k < cs.length), (∀ m ∈ clM ps.data.toList cs[k].data.toList, m.1.size ≤ 9223372036854775807 ∧ m.2.size ≤ 9223372036854775807) ∧ (clM ps.data.toList cs[k].data.toList).length ≤ 1048576) := fun k hk => by
    refine ⟨fun m hm => ?_, ?_⟩
    · obtain ⟨x, _, rfl⟩ := List.mem_map.1 hm
      exact ⟨by show (1 : Nat) ≤ _; omega, by show (1 : Nat) ≤ _; omega⟩
    · rw [clM_len _ _ (by rw [size_data, size_data]; exact hs _ (List.getElem_mem hk)), size_data]; omega
  have HT : Hid (∀ k (hk : k < cs.length), totI ps.data.toList (cs.take (k + 1)) = totI ps.data.toList (cs.take k) + cioI (clM ps.data.toList cs[k].data.toList)) := fun k hk => by rw [take_snoc cs k hk, totI_snoc]
  have HR := Lib.hid (fun k => totI_range ps.data.toList (cs.take k))
  have HCR := Lib.hid (fun k (hk : k < cs.length) => cio_range (clM ps.data.toList cs[k].data.toList))
  have H0 : Hid (totI ps.data.toList (cs.take 0) = 0) := rfl
  have HF : Hid (totI ps.data.toList (cs.take cs.length) = totI ps.data.toList cs) := by show _ = _; rw [List.take_length]
  clear hs
  go_enter Tryd.func36, Tryd.ntmps36
  go_wp2
  go_loopw [5, 7, 10] (fun o _ i wr => ∃ (k : Nat), k ≤ cs.length ∧ i = .int .i64 k ∧ o = .int .i64 (totI ps.data.toList (cs.take k)) ∧ Below w.heap.size w wr) (fun _ _ i _ => cs.length - (RowKit.intOf i).toNat)
  case atStart => exact ⟨0, by omega, rfl, by rw [H0.out], Below.refl _ _⟩
  case round =>
    obtain ⟨k, hk, rfl, rfl, hb⟩ := hrel
    have hbs := hb.size
    by_cases hlt : k < cs.length
    · obtain ⟨b, off, rfl, hbl, hc1⟩ := hcell k hlt
      have hd1 := (hb.cell (p := ⟨b, off + k, none⟩) hbl).trans hc1
      have HMK := Lib.hid (HM.out k hlt)
      obtain ⟨z1, z2⟩ := HSZ.out k hlt
      have HC := Lib.hid (fun u W (hx : RdM W u (clM ps.data.toList cs[k].data.toList)) => spCountInOrder_c (clM ps.data.toList cs[k].data.toList) u W hx z1 z2)
      have HTK := Lib.hid (HT.out k hlt)
      have hr := HR.out k
      have hcr := HCR.out k hlt
      have htl : (cs.take k).length ≤ 5 := by rw [List.length_take]; omega
      have i0 : (0 : Int) ≤ (k : Int) := by omega
      have i1 : (k : Int) < (cs.length : Int) := by omega
      clear hc1 hcell z1 z2
      generalize totI ps.data.toList (cs.take k) = cur at *
      generalize cioI (clM ps.data.toList cs[k].data.toList) = ci at *
      generalize clM ps.data.toList cs[k].data.toList = xs at *
      generalize cs[k] = q at *
      have i2 : -6 ≤ cur + ci := by omega
      have i3 : cur + ci ≤ 10000 := by omega
      clear hr hcr
      go_wp2_with fail
      refine (HMK.out _).mono ?_
      rintro e w2 ⟨v', rfl, ho, hb2⟩
      have hB2 := hb.trans (hb2.mono hbs)
      have hR : RdM w2 v' xs := Rd.of_own ho
      clear ho hb2
      go_wp2_with fail
      refine (HC.out _ _ hR).mono ?_
      rintro e w3 ⟨rfl, hb3⟩
      have hB3 := hB2.trans (hb3.mono hB2.size)
      go_wp2
      go_roundw
      case rel => exact ⟨k + 1, by omega, by go_num, by rw [HTK.out], hB3⟩
      case measure => simp [RowKit.intOf]; omega
    · have HK : Hid (k = cs.length) := by show _ = _; omega
      have i1 : ¬ (k : Int) < (cs.length : Int) := by omega
      go_wp2
      go_ret
      exact ⟨by rw [← HF.out, HK.out]; rfl, hb⟩
set_option maxHeartbeats 800000 in
theorem spTotalCost_c (ps : ByteArray) (hp : ps.size ≤ 1048576) (cs : List ByteArray) (v : Value) (w : World) (hx : RdT w v cs) (hz : ∀ c ∈ cs, c.size ≤ 1048576) (hn' : cs.length ≤ 1048576) :
    Calls Tryd.prog 14 #[.string ps, v] w fun e w' => e = .returned (.int .i64 (tcI ps.data.toList cs)) ∧ Below w.heap.size w w' := by
  have HX := Lib.hid (fun W (hW : Below w.heap.size w W) => hx.below hW)
  have HP := Lib.hid (l10Params_c ps hp w)
  have HV := Lib.hid (fun W (hW : Below w.heap.size w W) => spCallsValid_c (ps.size : Int) cs v W (hx.below hW) hz hn')
  have HO : Hid (tcI ps.data.toList cs = if parOk ps.data.toList && csOk (ps.size : Int) cs then totI ps.data.toList cs else -1) := by show _ = _; unfold tcI; rw [size_data]
  rw [HO.out]
  rcases Bool.eq_false_or_eq_true (parOk ps.data.toList) with h1 | h1
  · rcases Bool.eq_false_or_eq_true (csOk (ps.size : Int) cs) with h2 | h2
    · have h4 := (par_len h1).2
      rw [size_data] at h4
      have HT := Lib.hid (fun W (hW : Below w.heap.size w W) => l11Total_c ps cs v W (hx.below hW) h4 (fun c hc => by have := cs_size h2 c hc; omega) (cs_at h2).2.2.1)
      rw [h1, h2, show (if (true && true) = true then totI ps.data.toList cs else -1) = totI ps.data.toList cs from rfl]
      rw [h1] at HP
      rw [h2] at HV
      clear hx hz h1 h2 HX HO
      generalize totI ps.data.toList cs = tt at *
      go_enter Tryd.func14, Tryd.ntmps14
      go_wp2_with fail
      refine HP.out.mono ?_
      rintro e w1 ⟨rfl, b1⟩
      go_wp2_with fail
      refine (HV.out _ b1).mono ?_
      rintro e w2 ⟨rfl, b2⟩
      have B2 := b1.trans (b2.mono b1.size)
      go_wp2_with fail
      refine (HT.out _ B2).mono ?_
      rintro e w3 ⟨rfl, b3⟩
      go_wp2
      go_ret
      exact ⟨rfl, B2.trans (b3.mono B2.size)⟩
    · rw [h1, h2, show (if (true && false) = true then totI ps.data.toList cs else -1) = -1 from rfl]
      rw [h1] at HP
      rw [h2] at HV
      clear hx hz h1 h2 HX HO
      go_enter Tryd.func14, Tryd.ntmps14
      go_wp2_with fail
      refine HP.out.mono ?_
      rintro e w1 ⟨rfl, b1⟩
      go_wp2_with fail
      refine (HV.out _ b1).mono ?_
      rintro e w2 ⟨rfl, b2⟩
      go_wp2
      go_ret
      exact ⟨rfl, b1.trans (b2.mono b1.size)⟩
  · rw [h1, Bool.false_and, show (if false = true then totI ps.data.toList cs else -1) = -1 from rfl]
    rw [h1] at HP
    clear hx hz h1 HX HO
    go_enter Tryd.func14, Tryd.ntmps14
    go_wp2_with fail
    refine HP.out.mono ?_
    rintro e w1 ⟨rfl, b1⟩
    go_wp2
    go_ret
    exact ⟨rfl, b1⟩
end Go.Proofs.YthgcoocgeekdnaaDoor
namespace Go.Proofs.YthgcoocgeekdnaaDoor
open Go.RowKit Go.PM Go.PD Go.PF Go.Lib
attribute [local go_sem] Oper.semAt_some
/-- the cells of a search -/
def chC (v : Value) (x : Cho) : Array Value := #[v, .string ⟨x.best.toArray⟩, .int .i64 x.least, .int .i64 (x.count : Int)]
theorem idx_neg (l : List UInt8) (c : UInt8) : indexByte l c < 0 ↔ c ∉ l := by
  have h := indexByte_mem l c
  constructor
  · intro h1 h2
    have := h.2 h2
    omega
  · intro h1
    rcases Int.lt_or_le (indexByte l c) 0 with h2 | h2
    · exact h2
    · exact absurd (h.1 h2) h1
theorem toB (s : ByteArray) : (⟨s.data.toList.toArray⟩ : ByteArray) = s := by cases s; simp

set_option maxRecDepth 100000 in
set_option maxHeartbeats 3200000 in
theorem all0_c (cs : List ByteArray) (h5 : cs.length ≤ 5) (v : Value) (w0 : World) (hv : RdT w0 v cs) (s : ByteArray) (h4 : s.size ≤ 4) (hs : ∀ c ∈ cs, c.size = s.size) (b : Nat) (hb0 : w0.heap.size ≤ b)
    (x : Cho) (W : World) (hA : At W b 57 (chC v x)) (hB : Below w0.heap.size w0 W) (hc : x.count ≤ 10000) :
    Calls Tryd.prog 60 #[.pointer (some ⟨b, 0, none⟩), .string s, .int .i64 (s.size : Int)] W fun e w' => (∃ u, e = .returned u) ∧ At w' b 57 (chC v (vis cs x s.data.toList)) ∧ Below w0.heap.size w0 w' := by
  have HT := Lib.hid (l11Total_c s cs v W (hv.below hB) h4 hs h5)
  obtain ⟨best, least, count⟩ := x
  have HV : Hid (∀ y : Cho, y = vis cs ⟨best, least, count⟩ s.data.toList ↔ y = if least < 0 ∨ totI s.data.toList cs < least then (⟨s.data.toList, totI s.data.toList cs, 1⟩ : Cho) else if totI s.data.toList cs = least then ⟨best, least, count + 1⟩ else ⟨best, least, count⟩) := fun y => Iff.rfl
  have HX : Hid (∀ tt : Int, tt = totI s.data.toList cs → vis cs ⟨best, least, count⟩ s.data.toList = if least < 0 ∨ tt < least then (⟨s.data.toList, tt, 1⟩ : Cho) else if tt = least then ⟨best, least, count + 1⟩ else ⟨best, least, count⟩) := fun tt e => by subst e; rfl
  have HX2 := Lib.hid (HX.out _ rfl)
  have hr := totI_range s.data.toList cs

  have HA : Hid (At W b 57 #[v, .string ⟨best.toArray⟩, .int .i64 least, .int .i64 (count : Int)]) := hA
  have hc : count ≤ 10000 := hc
  have i0 : -5 ≤ totI s.data.toList cs := by omega
  have i1 : totI s.data.toList cs ≤ 5500 := by omega
  clear HV HX hr hA
  generalize vis cs ⟨best, least, count⟩ s.data.toList = y at *
  generalize totI s.data.toList cs = tt at *
  have c0 := HA.out.cell 0
  have d0 := HA.out.frozen 0
  have hbw := hB.size
  go_enter Tryd.func60, Tryd.ntmps60
  go_wp2_with fail
  refine HT.out.mono ?_
  rintro e w1 ⟨rfl, hb1⟩
  have B1 := hB.trans (hb1.mono hbw)
  have A1 := HA.out.keep hb1
  have hbl := A1.lt
  clear c0 d0 hv hs
  have p0 := A1.cell 0
  have p1 := A1.cell 1
  have p2 := A1.cell 2
  have p3 := A1.cell 3
  have q1 := A1.frozen 1
  have q2 := A1.frozen 2
  have q3 := A1.frozen 3
  by_cases hn : least < 0 ∨ tt < least
  · rw [if_pos hn] at HX2
    have A2 := A1.set 2 (.int .i64 tt)
    have A3 := A2.set 1 (.string s)
    have A4 := A3.set 3 (.int .i64 0)
    have A5 := A4.set 3 (.int .i64 1)
    have r1 := A2.frozen 1
    have r3 := A3.frozen 3
    have s2 := A4.cell 2
    have s3 := A4.cell 3
    have t3 := A4.frozen 3
    have B5 := (((B1.setCell (p := ⟨b, 2, none⟩) hb0 (.int .i64 tt)).setCell (p := ⟨b, 1, none⟩) hb0 (.string s)).setCell (p := ⟨b, 3, none⟩) hb0 (.int .i64 0)).setCell (p := ⟨b, 3, none⟩) hb0 (.int .i64 1)
    have HG : Hid (At (((((w1.setCell ⟨b, 2, none⟩ (.int .i64 tt)).setCell ⟨b, 1, none⟩ (.string s)).setCell ⟨b, 3, none⟩ (.int .i64 0)).setCell ⟨b, 3, none⟩ (.int .i64 1))) b 57 (chC v y)) := by
      show At _ _ _ _
      rw [HX2.out]
      unfold chC
      rw [toB s]
      exact A5
    have HB := Lib.hid B5
    clear A1 A2 A3 A4 A5 B5 B1
    by_cases hl : least < 0
    · go_wp2
      refine bodyPost_ret (results_none rfl _ _ _) rfl ?_
      exact ⟨⟨_, rfl⟩, HG.out, HB.out⟩
    · have hl2 : tt < least := by omega
      go_wp2
      refine bodyPost_ret (results_none rfl _ _ _) rfl ?_
      exact ⟨⟨_, rfl⟩, HG.out, HB.out⟩
  · rw [if_neg hn] at HX2
    have hl : ¬ least < 0 := fun h => hn (.inl h)
    have hl2 : ¬ tt < least := fun h => hn (.inr h)
    by_cases he : tt = least
    · subst he
      rw [if_pos rfl] at HX2
      have A2 := A1.set 3 (.int .i64 ((count : Int) + 1))
      have HG : Hid (At (w1.setCell ⟨b, 3, none⟩ (.int .i64 ((count : Int) + 1))) b 57 (chC v y)) := by
        show At _ _ _ _
        rw [HX2.out]
        exact A2
      have HB := Lib.hid (B1.setCell (p := ⟨b, 3, none⟩) hb0 (.int .i64 ((count : Int) + 1)))
      clear A1 A2 B1
      go_wp2
      refine bodyPost_ret (results_none rfl _ _ _) rfl ?_
      exact ⟨⟨_, rfl⟩, HG.out, HB.out⟩
    · rw [if_neg he] at HX2
      have t1 : (tt == least) = false := by simpa using he
      have HG : Hid (At w1 b 57 (chC v y)) := by
        show At _ _ _ _
        rw [HX2.out]
        exact A1
      have HB := Lib.hid B1
      clear A1 B1
      go_wp2
      refine bodyPost_ret (results_none rfl _ _ _) rfl ?_
      exact ⟨⟨_, rfl⟩, HG.out, HB.out⟩
theorem runF_count (cs : List ByteArray) (d : Nat) (ps : List UInt8) (x : Cho) : (runF cs d ps x).count ≤ x.count + 6 ^ d := by
  have h1 := fold_count cs (arrs d ps) x
  have h2 := arrs_len d ps
  unfold runF
  omega
theorem runK_count (cs : List ByteArray) (d : Nat) (ps : List UInt8) (x : Cho) : ∀ k, k ≤ 6 → (runK cs d ps k x).count ≤ x.count + k * 6 ^ d
  | 0, _ => by rw [runK_zero]; omega
  | k + 1, h => by
    have h1 := runK_count cs d ps x k (by omega)
    have h2 := runF_count cs d (ps ++ [regsL.getD k 0]) (runK cs d ps k x)
    rw [runK_step cs d ps k (by omega) x, Nat.succ_mul]
    generalize 6 ^ d = q at *
    split <;> omega
theorem chain_bytes (s : ByteArray) (k : Nat) (hk : k < 6) : (s ++ nm k).data.toList = s.data.toList ++ [regsL.getD k 0] := by
  have e : nm k = ⟨#[regsL.getD k 0]⟩ := by
    match k, hk with
    | 0, _ | 1, _ | 2, _ | 3, _ | 4, _ | 5, _ => rfl
  rw [e, ByteArray.data_append, Array.toList_append]
set_option maxRecDepth 100000 in
set_option maxHeartbeats 6400000 in
theorem all_c (cs : List ByteArray) (h5 : cs.length ≤ 5) (v : Value) (w0 : World) (hv : RdT w0 v cs) (n : Nat) (h4 : n ≤ 4) (hs : ∀ c ∈ cs, c.size = n) (b : Nat) (hb0 : w0.heap.size ≤ b) :
    ∀ (d : Nat) (s : ByteArray) (x : Cho) (W : World), s.size + d = n → At W b 57 (chC v x) → Below w0.heap.size w0 W → x.count + 6 ^ d ≤ 10000 →
    Calls Tryd.prog 60 #[.pointer (some ⟨b, 0, none⟩), .string s, .int .i64 (n : Int)] W fun e w' => (∃ u, e = .returned u) ∧ At w' b 57 (chC v (runF cs d s.data.toList x)) ∧ Below w0.heap.size w0 w'
  | 0, s, x, W, hsz, hA, hB, hc => by
    have e : s.size = n := by omega
    subst e
    rw [runF_zero]
    exact all0_c cs h5 v w0 hv s h4 hs b hb0 x W hA hB (by omega)
  | d + 1, s, x, W, hsz, hA, hB, hc => by
    have IH := Lib.hid (all_c cs h5 v w0 hv n h4 hs b hb0 d)
    have HF := Lib.hid (fun c W => l13Find_c s c W (by omega))
    have HST := Lib.hid (fun k hk => runK_step cs d s.data.toList k hk x)
    have HCN : Hid (∀ k, k < 6 → (runK cs d s.data.toList k x).count + 6 ^ d ≤ 10000) := fun k hk => by
      have h1 := runK_count cs d s.data.toList x k (by omega)
      have h2 : k * 6 ^ d ≤ 5 * 6 ^ d := Nat.mul_le_mul_right _ (by omega)
      rw [Nat.pow_succ] at hc
      omega
    have H0 := Lib.hid (runK_zero cs d s.data.toList x)
    have H6 := Lib.hid (runK_full cs d s.data.toList x)
    have HNB := Lib.hid (fun k hk => chain_bytes s k hk)
    have HNG := Lib.hid (fun c => idx_neg s.data.toList c)
    have t0 : ((s.size : Int) == (n : Int)) = false := by
      have : (s.size : Int) ≠ (n : Int) := by omega
      simpa using this
    have h7 : s.size ≤ 3 := by omega
    have HSZ : Hid (∀ k, (s ++ nm k).size + d = n) := fun k => by
      rw [ByteArray.size_append, show (nm k).size = 1 from rfl]; omega
    have HA0 : Hid (At W b 57 (chC v (runK cs d s.data.toList 0 x))) := by show At _ _ _ _; rw [H0.out]; exact hA
    have HB0 := Lib.hid hB
    clear hsz hc hs hA hB hv
    go_enter Tryd.func60, Tryd.ntmps60
    go_wp2
    go_loopw [7, 55] (fun _ i wr => ∃ (k : Nat), k ≤ 6 ∧ i = .int .i64 k ∧ Hid (At wr b 57 (chC v (runK cs d s.data.toList k x))) ∧ Hid (Below w0.heap.size w0 wr)) (fun _ i _ => 6 - (RowKit.intOf i).toNat)
    case atStart => exact ⟨0, by omega, rfl, HA0, HB0⟩
    case round =>
      obtain ⟨k, hk, rfl, hA, hB⟩ := hrel
      by_cases hlt : k < 6
      · have hst := HST.out k hlt
        have hFk := Lib.hid (fun W => HF.out (placesL.getD k 0) W)
        have hng := HNG.out (placesL.getD k 0)
        have hpl : placesL.getD k 0 = regsL.getD k 0 := by
          match k, hlt with
          | 0, _ | 1, _ | 2, _ | 3, _ | 4, _ | 5, _ => rfl
        have hnz : (nm k).size = 1 := rfl
        have hIH := Lib.hid (fun W (hA : At W b 57 (chC v (runK cs d s.data.toList k x))) hB => IH.out (s ++ nm k) (runK cs d s.data.toList k x) W (HSZ.out k) hA hB (HCN.out k hlt))
        rw [HNB.out k hlt] at hIH
        rw [← hpl] at hst hIH
        by_cases hin : indexByte s.data.toList (placesL.getD k 0) < 0
        · have hno := hng.1 hin
          rw [if_neg hno] at hst
          have HS := Lib.hid hst
          clear hst hng hno HNG
          generalize indexByte s.data.toList (placesL.getD k 0) = zz at *
          have hcs : k = 0 ∨ k = 1 ∨ k = 2 ∨ k = 3 ∨ k = 4 ∨ k = 5 := by omega
          rcases hcs with rfl | rfl | rfl | rfl | rfl | rfl
          all_goals
            go_wp2_with (first | (go_at_call 43; refine (hFk.out _).mono ?_; rintro e w' ⟨rfl, rfl⟩) | (go_at_call 60; refine (hIH.out _ hA.out hB.out).mono ?_; rintro e w2 ⟨⟨u, rfl⟩, hA2, hB2⟩; rw [← HS.out] at hA2; have HA2 := Lib.hid hA2; have HB2 := Lib.hid hB2; clear hA2 hB2))
            go_roundw
            case rel => first | exact ⟨1, by decide, rfl, HA2, HB2⟩ | exact ⟨2, by decide, rfl, HA2, HB2⟩ | exact ⟨3, by decide, rfl, HA2, HB2⟩ | exact ⟨4, by decide, rfl, HA2, HB2⟩ | exact ⟨5, by decide, rfl, HA2, HB2⟩ | exact ⟨6, by decide, rfl, HA2, HB2⟩
            case measure => simp [RowKit.intOf]
        · have hno : placesL.getD k 0 ∈ s.data.toList := Classical.not_not.1 fun h => hin (hng.2 h)
          rw [if_pos hno] at hst
          rw [← hst] at hA
          clear hst hng hno HNG
          generalize indexByte s.data.toList (placesL.getD k 0) = zz at *
          have hcs : k = 0 ∨ k = 1 ∨ k = 2 ∨ k = 3 ∨ k = 4 ∨ k = 5 := by omega
          rcases hcs with rfl | rfl | rfl | rfl | rfl | rfl
          all_goals
            go_wp2_with (go_at_call 43; refine (hFk.out _).mono ?_; rintro e w' ⟨rfl, rfl⟩)
            go_roundw
            case rel => first | exact ⟨1, by decide, rfl, hA, hB⟩ | exact ⟨2, by decide, rfl, hA, hB⟩ | exact ⟨3, by decide, rfl, hA, hB⟩ | exact ⟨4, by decide, rfl, hA, hB⟩ | exact ⟨5, by decide, rfl, hA, hB⟩ | exact ⟨6, by decide, rfl, hA, hB⟩
            case measure => simp [RowKit.intOf]
      · have hk' : k = 6 := by omega
        subst hk'
        go_wp2
        go_end0
        exact ⟨⟨_, rfl⟩, by rw [← H6.out]; exact hA.out, hB.out⟩
end Go.Proofs.YthgcoocgeekdnaaDoor
namespace Go.Proofs.YthgcoocgeekdnaaDoor
open Go.RowKit Go.PM Go.PD Go.PF Go.Lib
attribute [local go_sem] Oper.semAt_some

set_option maxRecDepth 100000 in
set_option maxHeartbeats 3200000 in
theorem l11Run_c (n : Int) (cs : List ByteArray) (v : Value) (w : World) (hx : RdT w v cs) (hz : ∀ c ∈ cs, c.size ≤ 1048576) (hn' : cs.length ≤ 1048576) :
    Calls Tryd.prog 42 #[.int .i64 n, v] w fun e w' => ∃ b, e = .returned (.pointer (some ⟨b, 0, none⟩)) ∧ w.heap.size ≤ b ∧ At w' b 57 (chC v (choF n cs)) ∧ Below w.heap.size w w' := by
  obtain ⟨A, cap, rfl, _, _, _⟩ := id hx.open
  have HV := Lib.hid (fun W (hW : Below w.heap.size w W) => spCallsValid_c n cs (.slice A cs.length cap) W (hx.below hW) hz hn')
  rcases Bool.eq_false_or_eq_true (csOk n cs) with h2 | h2
  · obtain ⟨h1, h4, h5, _⟩ := cs_at h2
    have hs := cs_size h2
    obtain ⟨m, rfl⟩ := Int.eq_ofNat_of_zero_le (show (0 : Int) ≤ n by omega)
    have HR := Lib.hid (fun b hb W hA hB => all_c cs h5 (.slice A cs.length cap) w hx m (by omega) (fun c hc => by have := hs c hc; omega) b hb m (⟨#[]⟩ : ByteArray) cho0 W (by show 0 + m = m; omega) hA hB (by
      have : 6 ^ m ≤ 6 ^ 4 := Nat.pow_le_pow_right (by omega) (by omega)
      show 0 + 6 ^ m ≤ 10000
      omega))
    have HO : Hid (choF (m : Int) cs = runF cs m [] cho0) := by show _ = _; unfold choF; rw [h2]; rfl
    rw [h2] at HV
    clear hx hz h2 hs
    generalize choF (m : Int) cs = y at *
    go_enter Tryd.func42, Tryd.ntmps42
    go_wp2_with fail
    have A1 : At (w.alloc (.cells #[.slice A cs.length cap, .string { data := #[] }, .int .i64 (-1), .int .i64 0] 57)) w.heap.size 57 (chC (.slice A cs.length cap) cho0) := At.new w 57 #[.slice A cs.length cap, .string { data := #[] }, .int .i64 (-1), .int .i64 0]
    have B1 : Below w.heap.size w (w.alloc (.cells #[.slice A cs.length cap, .string { data := #[] }, .int .i64 (-1), .int .i64 0] 57)) := (Below.refl _ _).alloc (Nat.le_refl _) _
    generalize hw1 : w.alloc (.cells #[.slice A cs.length cap, .string { data := #[] }, .int .i64 (-1), .int .i64 0] 57) = w1 at *
    refine (HV.out _ B1).mono ?_
    rintro e w2 ⟨rfl, hb2⟩
    have A2 := A1.keep hb2
    have B2 := B1.trans (hb2.mono B1.size)
    clear A1 B1 hb2 hw1
    go_wp2_with fail
    refine (HR.out _ (Nat.le_refl _) _ A2 B2).mono ?_
    rintro e w3 ⟨⟨u, rfl⟩, A3, B3⟩
    have HA3 : Hid (At w3 w.heap.size 57 (chC (.slice A cs.length cap) y)) := by show At _ _ _ _; rw [HO.out]; exact A3
    have HB3 := Lib.hid B3
    clear A2 B2 A3 B3
    go_wp2
    go_ret
    exact ⟨_, rfl, Nat.le_refl _, HA3.out, HB3.out⟩
  · have HO : Hid (choF n cs = cho0) := by show _ = _; unfold choF; rw [h2]; rfl
    rw [h2] at HV
    clear hx hz h2
    generalize choF n cs = y at *
    go_enter Tryd.func42, Tryd.ntmps42
    go_wp2_with fail
    have A1 : At (w.alloc (.cells #[.slice A cs.length cap, .string { data := #[] }, .int .i64 (-1), .int .i64 0] 57)) w.heap.size 57 (chC (.slice A cs.length cap) cho0) := At.new w 57 #[.slice A cs.length cap, .string { data := #[] }, .int .i64 (-1), .int .i64 0]
    have B1 : Below w.heap.size w (w.alloc (.cells #[.slice A cs.length cap, .string { data := #[] }, .int .i64 (-1), .int .i64 0] 57)) := (Below.refl _ _).alloc (Nat.le_refl _) _
    generalize hw1 : w.alloc (.cells #[.slice A cs.length cap, .string { data := #[] }, .int .i64 (-1), .int .i64 0] 57) = w1 at *
    refine (HV.out _ B1).mono ?_
    rintro e w2 ⟨rfl, hb2⟩
    have A2 := A1.keep hb2
    have B2 := B1.trans (hb2.mono B1.size)
    rw [← HO.out] at A2
    have HA2 := Lib.hid A2
    have HB2 := Lib.hid B2
    clear A1 B1 hb2 hw1 A2 B2
    go_wp2
    go_ret
    exact ⟨_, rfl, Nat.le_refl _, HA2.out, HB2.out⟩
theorem choF_least (n : Int) (cs : List ByteArray) : (choF n cs).count ≤ 10000 := by
  unfold choF
  split
  · rename_i h
    obtain ⟨h1, h4, _, _⟩ := cs_at h
    have h2 := runF_count cs n.toNat [] cho0
    have : 6 ^ n.toNat ≤ 6 ^ 4 := Nat.pow_le_pow_right (by omega) (by omega)
    have e : cho0.count = 0 := rfl
    omega
  · decide
set_option maxRecDepth 100000 in
set_option maxHeartbeats 3200000 in
theorem spBestParams_c (n : Int) (cs : List ByteArray) (v : Value) (w : World) (hx : RdT w v cs) (hz : ∀ c ∈ cs, c.size ≤ 1048576) (hn' : cs.length ≤ 1048576) :
    Calls Tryd.prog 24 #[.int .i64 n, v] w fun e w' => e = .returned (.tuple #[.string (bpB n cs), .bool (decide (0 ≤ lcI n cs))]) ∧ Below w.heap.size w w' := by
  have HR := Lib.hid (l11Run_c n cs v w hx hz hn')
  have HO1 : Hid (bpB n cs = ⟨(choF n cs).best.toArray⟩) := rfl
  have HO2 : Hid (lcI n cs = (choF n cs).least) := rfl
  rw [HO1.out, HO2.out]
  clear hx hz HO1 HO2
  generalize choF n cs = y at *
  obtain ⟨best, least, count⟩ := y
  have HR : Hid (Calls Tryd.prog 42 #[.int .i64 n, v] w fun e w' => ∃ b, e = .returned (.pointer (some ⟨b, 0, none⟩)) ∧ w.heap.size ≤ b ∧ At w' b 57 #[v, .string ⟨best.toArray⟩, .int .i64 least, .int .i64 (count : Int)] ∧ Below w.heap.size w w') := HR
  show Calls _ _ _ _ fun e w' => e = .returned (.tuple #[.string ⟨best.toArray⟩, .bool (decide (0 ≤ least))]) ∧ Below w.heap.size w w'
  generalize (⟨best.toArray⟩ : ByteArray) = bs at *
  by_cases hl : 0 ≤ least
  · rw [decide_eq_true hl]
    have hl2 : decide (least ≥ 0) = true := decide_eq_true hl
    go_enter Tryd.func24, Tryd.ntmps24
    go_wp2_with fail
    refine HR.out.mono ?_
    rintro e w1 ⟨b, rfl, hb, hA, hB⟩
    have hbl := hA.lt
    have hp1 : w1.cell? ⟨b, 1, none⟩ = some (.string bs) := hA.cell 1
    have hp2 : w1.cell? ⟨b, 2, none⟩ = some (.int .i64 least) := hA.cell 2
    clear hA HR
    go_wp2
    go_region
    go_wp2
    go_ret2
    exact ⟨rfl, hB.drew⟩
  · rw [decide_eq_false hl]
    have hl2 : decide (least ≥ 0) = false := decide_eq_false hl
    go_enter Tryd.func24, Tryd.ntmps24
    go_wp2_with fail
    refine HR.out.mono ?_
    rintro e w1 ⟨b, rfl, hb, hA, hB⟩
    have hbl := hA.lt
    have hp1 : w1.cell? ⟨b, 1, none⟩ = some (.string bs) := hA.cell 1
    have hp2 : w1.cell? ⟨b, 2, none⟩ = some (.int .i64 least) := hA.cell 2
    clear hA HR
    go_wp2
    go_region
    go_wp2
    go_ret2
    exact ⟨rfl, hB.drew⟩
set_option maxHeartbeats 800000 in
theorem spLeastCost_c (n : Int) (cs : List ByteArray) (v : Value) (w : World) (hx : RdT w v cs) (hz : ∀ c ∈ cs, c.size ≤ 1048576) (hn' : cs.length ≤ 1048576) :
    Calls Tryd.prog 26 #[.int .i64 n, v] w fun e w' => e = .returned (.int .i64 (lcI n cs)) ∧ Below w.heap.size w w' := by
  have HR := Lib.hid (l11Run_c n cs v w hx hz hn')
  have HO2 : Hid (lcI n cs = (choF n cs).least) := rfl
  rw [HO2.out]
  clear hx hz HO2
  generalize choF n cs = y at *
  obtain ⟨best, least, count⟩ := y
  have HR : Hid (Calls Tryd.prog 42 #[.int .i64 n, v] w fun e w' => ∃ b, e = .returned (.pointer (some ⟨b, 0, none⟩)) ∧ w.heap.size ≤ b ∧ At w' b 57 #[v, .string ⟨best.toArray⟩, .int .i64 least, .int .i64 (count : Int)] ∧ Below w.heap.size w w') := HR
  show Calls _ _ _ _ fun e w' => e = .returned (.int .i64 least) ∧ Below w.heap.size w w'
  generalize (⟨best.toArray⟩ : ByteArray) = bs at *
  go_enter Tryd.func26, Tryd.ntmps26
  go_wp2_with fail
  refine HR.out.mono ?_
  rintro e w1 ⟨b, rfl, hb, hA, hB⟩
  have hbl := hA.lt
  have hp2 : w1.cell? ⟨b, 2, none⟩ = some (.int .i64 least) := hA.cell 2
  clear hA HR
  go_wp2
  go_ret
  exact ⟨rfl, hB⟩
set_option maxHeartbeats 1600000 in
theorem spCountBest_c (n : Int) (cs : List ByteArray) (v : Value) (w : World) (hx : RdT w v cs) (hz : ∀ c ∈ cs, c.size ≤ 1048576) (hn' : cs.length ≤ 1048576) :
    Calls Tryd.prog 29 #[.int .i64 n, v] w fun e w' => e = .returned (.int .i64 (cbI n cs)) ∧ Below w.heap.size w w' := by
  have HR := Lib.hid (l11Run_c n cs v w hx hz hn')
  have HO2 : Hid (cbI n cs = if (choF n cs).least < 0 then -1 else ((choF n cs).count : Int)) := rfl
  rw [HO2.out]
  clear hx hz HO2
  generalize choF n cs = y at *
  obtain ⟨best, least, count⟩ := y
  have HR : Hid (Calls Tryd.prog 42 #[.int .i64 n, v] w fun e w' => ∃ b, e = .returned (.pointer (some ⟨b, 0, none⟩)) ∧ w.heap.size ≤ b ∧ At w' b 57 #[v, .string ⟨best.toArray⟩, .int .i64 least, .int .i64 (count : Int)] ∧ Below w.heap.size w w') := HR
  show Calls _ _ _ _ fun e w' => e = .returned (.int .i64 (if least < 0 then -1 else (count : Int))) ∧ Below w.heap.size w w'
  generalize (⟨best.toArray⟩ : ByteArray) = bs at *
  by_cases hl : least < 0
  · rw [if_pos hl]
    go_enter Tryd.func29, Tryd.ntmps29
    go_wp2_with fail
    refine HR.out.mono ?_
    rintro e w1 ⟨b, rfl, hb, hA, hB⟩
    have hbl := hA.lt
    have hp2 : w1.cell? ⟨b, 2, none⟩ = some (.int .i64 least) := hA.cell 2
    clear hA HR
    go_wp2
    go_ret
    exact ⟨rfl, hB⟩
  · rw [if_neg hl]
    go_enter Tryd.func29, Tryd.ntmps29
    go_wp2_with fail
    refine HR.out.mono ?_
    rintro e w1 ⟨b, rfl, hb, hA, hB⟩
    have hbl := hA.lt
    have hp2 : w1.cell? ⟨b, 2, none⟩ = some (.int .i64 least) := hA.cell 2
    have hp3 : w1.cell? ⟨b, 3, none⟩ = some (.int .i64 (count : Int)) := hA.cell 3
    clear hA HR
    go_wp2
    go_ret
    exact ⟨rfl, hB⟩
set_option maxHeartbeats 1600000 in
theorem spIsBest_c (ps : ByteArray) (hp : ps.size ≤ 1048576) (cs : List ByteArray) (v : Value) (w : World) (hx : RdT w v cs) (hz : ∀ c ∈ cs, c.size ≤ 1048576) (hn' : cs.length ≤ 1048576) :
    Calls Tryd.prog 15 #[.string ps, v] w fun e w' => e = .returned (.bool (ibB ps cs)) ∧ Below w.heap.size w w' := by
  have HT := Lib.hid (spTotalCost_c ps hp cs v w hx hz hn')
  have HL := Lib.hid (fun W (hW : Below w.heap.size w W) => spLeastCost_c (ps.size : Int) cs v W (hx.below hW) hz hn')
  have HO : Hid (ibB ps cs = (decide (0 ≤ tcI ps.data.toList cs) && decide (tcI ps.data.toList cs = lcI (ps.size : Int) cs))) := rfl
  rw [HO.out]
  clear hx hz HO
  generalize tcI ps.data.toList cs = tt at *
  generalize lcI (ps.size : Int) cs = ll at *
  by_cases h0 : 0 ≤ tt
  · rw [decide_eq_true h0, Bool.true_and]
    go_enter Tryd.func15, Tryd.ntmps15
    go_wp2_with fail
    refine HT.out.mono ?_
    rintro e w1 ⟨rfl, hB⟩
    go_wp2_with fail
    refine (HL.out _ hB).mono ?_
    rintro e w2 ⟨rfl, hB2⟩
    go_wp2
    go_ret
    exact ⟨rfl, hB.trans (hB2.mono hB.size)⟩
  · rw [decide_eq_false h0, Bool.false_and]
    go_enter Tryd.func15, Tryd.ntmps15
    go_wp2_with fail
    refine HT.out.mono ?_
    rintro e w1 ⟨rfl, hB⟩
    go_wp2
    go_ret
    exact ⟨rfl, hB⟩
end Go.Proofs.YthgcoocgeekdnaaDoor
namespace Go.Proofs.YthgcoocgeekdnaaDoor
open Go.RowKit Go.PM Go.PD Go.PF Go.Lib
attribute [local go_sem] Oper.semAt_some
/-- how many calls have a register at a place -/
def vtN (cs : List ByteArray) (i : Nat) (r : ByteArray) : Nat := cs.countP fun a => decide (a.extract i (i + 1) = r)
theorem vtN_take (cs : List ByteArray) (i : Nat) (r : ByteArray) (k : Nat) (hk : k < cs.length) : vtN (cs.take (k + 1)) i r = vtN (cs.take k) i r + if cs[k].extract i (i + 1) = r then 1 else 0 := by
  unfold vtN
  rw [take_snoc cs k hk, List.countP_append, List.countP_singleton]
  simp only [decide_eq_true_eq]

set_option maxRecDepth 100000 in
set_option maxHeartbeats 3200000 in
theorem l11Votes_c (cs : List ByteArray) (h5 : cs.length ≤ 5) (v : Value) (w : World) (hx : RdT w v cs) (i : Nat) (hi : ∀ c ∈ cs, i < c.size) (hi4 : i ≤ 4) (r : ByteArray) :
    Calls Tryd.prog 44 #[v, .int .i64 (i : Int), .string r] w fun e w' => e = .returned (.int .i64 (vtN cs i r : Int)) ∧ Below w.heap.size w w' := by
  obtain ⟨A, cap, rfl, hn, hc, hcell⟩ := hx.open
  clear hx
  have HT := Lib.hid (fun k hk => vtN_take cs i r k hk)
  have HI : Hid (∀ k (hk : k < cs.length), i < cs[k].size) := fun k hk => hi _ (List.getElem_mem hk)
  have HR : Hid (∀ k, vtN (cs.take k) i r ≤ 5) := fun k => by
    have h1 := List.countP_le_length (l := cs.take k) (p := fun a => decide (a.extract i (i + 1) = r))
    have h2 : (cs.take k).length ≤ 5 := by rw [List.length_take]; omega
    exact Nat.le_trans h1 h2
  have H0 : Hid (vtN (cs.take 0) i r = 0) := rfl
  have HF : Hid (vtN (cs.take cs.length) i r = vtN cs i r) := by show _ = _; rw [List.take_length]
  clear hi
  go_enter Tryd.func44, Tryd.ntmps44
  go_wp2
  go_loopw [7, 9, 12] (fun o _ i' wr => ∃ (k : Nat), k ≤ cs.length ∧ i' = .int .i64 k ∧ o = .int .i64 (vtN (cs.take k) i r : Int) ∧ Below w.heap.size w wr) (fun _ _ i _ => cs.length - (RowKit.intOf i).toNat)
  case atStart => exact ⟨0, by omega, rfl, by rw [H0.out]; rfl, Below.refl _ _⟩
  case round =>
    obtain ⟨k, hk, rfl, rfl, hb⟩ := hrel
    have hbs := hb.size
    by_cases hlt : k < cs.length
    · obtain ⟨b, off, rfl, hbl, hc1⟩ := hcell k hlt
      have hd1 := (hb.cell (p := ⟨b, off + k, none⟩) hbl).trans hc1
      have HTK := Lib.hid (HT.out k hlt)
      have hik := HI.out k hlt
      have hr := HR.out k
      have i0 : (0 : Int) ≤ (k : Int) := by omega
      have i1 : (k : Int) < (cs.length : Int) := by omega
      clear hc1 hcell
      obtain ⟨nx, HNX⟩ : ∃ nx, Hid (vtN (cs.take (k + 1)) i r = nx) := ⟨_, rfl⟩
      rw [HNX.out] at HTK
      generalize vtN (cs.take k) i r = cur at *
      generalize cs[k] = q at *
      by_cases he : q.extract i (i + 1) = r
      · have q1 : ((q.extract i (i + 1)).toList == r.toList) = true := by rw [beq_str]; simpa using he
        have HN : Hid (nx = cur + 1) := by have := HTK.out; rw [if_pos he] at this; exact this
        clear HTK he
        go_wp2
        go_roundw
        case rel => exact ⟨k + 1, by omega, by go_num, by rw [HNX.out, HN.out]; go_num, hb⟩
        case measure => simp [RowKit.intOf]; omega
      · have q1 : ((q.extract i (i + 1)).toList == r.toList) = false := by rw [beq_str]; simpa using he
        have HN : Hid (nx = cur) := by have := HTK.out; rw [if_neg he] at this; exact this
        clear HTK he
        go_wp2
        go_roundw
        case rel => exact ⟨k + 1, by omega, by go_num, by rw [HNX.out, HN.out], hb⟩
        case measure => simp [RowKit.intOf]; omega
    · have HK : Hid (k = cs.length) := by show _ = _; omega
      have i1 : ¬ (k : Int) < (cs.length : Int) := by omega
      go_wp2
      go_ret
      exact ⟨by rw [← HF.out, HK.out]; rfl, hb⟩
def gB (cs : List ByteArray) (i : Nat) : ByteArray := ⟨(grF cs i).toArray⟩
def kB (cs : List ByteArray) (i k : Nat) : ByteArray := ⟨(grK cs i (grF cs i) k).toArray⟩
theorem grS_len (cs : List ByteArray) (i : Nat) (ps b : List UInt8) (k : Nat) (h : b.length ≤ 1) : (grS cs i ps b k).length ≤ 1 := by
  unfold grS
  split
  · exact h
  · split
    · exact Nat.le_refl _
    · split
      · exact Nat.le_refl _
      · exact h
theorem grK_len (cs : List ByteArray) (i : Nat) (ps : List UInt8) : ∀ k, (grK cs i ps k).length ≤ 1
  | 0 => Nat.zero_le _
  | k + 1 => grS_len cs i ps _ k (grK_len cs i ps k)
theorem grF_len (cs : List ByteArray) : ∀ i, (grF cs i).length ≤ i
  | 0 => Nat.le_refl _
  | i + 1 => by
    have h1 := grF_len cs i
    have h2 := grK_len cs i (grF cs i) 6
    show (grF cs i ++ grK cs i (grF cs i) 6).length ≤ i + 1
    rw [List.length_append]; omega
theorem gB_succ (cs : List ByteArray) (i : Nat) : gB cs (i + 1) = gB cs i ++ kB cs i 6 := by
  apply ByteArray.ext
  rw [ByteArray.data_append]
  show (grF cs i ++ grK cs i (grF cs i) 6).toArray = (grF cs i).toArray ++ (grK cs i (grF cs i) 6).toArray
  simp
theorem nm_reg (k : Nat) (hk : k < 6) : nm k = ch (regsL.getD k 0) := by
  match k, hk with
  | 0, _ | 1, _ | 2, _ | 3, _ | 4, _ | 5, _ => rfl
/-- one register more looked at -/
theorem kB_succ (cs : List ByteArray) (i k : Nat) (hk : k < 6) : kB cs i (k + 1) = if 0 ≤ indexByte (gB cs i).data.toList (regsL.getD k 0) then kB cs i k else if kB cs i k = ⟨#[]⟩ then nm k else if vtN cs i (nm k) > vtN cs i (kB cs i k) then nm k else kB cs i k := by
  have e1 : (gB cs i).data.toList = grF cs i := by simp [gB]
  rw [e1, nm_reg k hk]
  have hl := grK_len cs i (grF cs i) k
  show (⟨(grS cs i (grF cs i) (grK cs i (grF cs i) k) k).toArray⟩ : ByteArray) = if 0 ≤ _ then (⟨(grK cs i (grF cs i) k).toArray⟩ : ByteArray) else if (⟨(grK cs i (grF cs i) k).toArray⟩ : ByteArray) = _ then _ else if _ > vtN cs i (⟨(grK cs i (grF cs i) k).toArray⟩ : ByteArray) then _ else (⟨(grK cs i (grF cs i) k).toArray⟩ : ByteArray)
  generalize grK cs i (grF cs i) k = b at *
  unfold grS
  by_cases hm : 0 ≤ indexByte (grF cs i) (regsL.getD k 0)
  · rw [if_pos ((indexByte_mem _ _).1 hm), if_pos hm]
  · rw [if_neg (fun h => hm ((indexByte_mem _ _).2 h)), if_neg hm]
    match b, hl with
    | [], _ => rw [if_pos rfl]
    | [d], _ =>
      rw [if_neg (fun e => by cases e)]
      show (⟨(if votN cs i (regsL.getD k 0) > votN cs i d then _ else _ : List UInt8).toArray⟩ : ByteArray) = if votN cs i (regsL.getD k 0) > votN cs i d then _ else _
      split <;> rfl
set_option maxRecDepth 100000 in
set_option maxHeartbeats 6400000 in
theorem spGreedyParams_c (n : Int) (cs : List ByteArray) (v : Value) (w : World) (hx : RdT w v cs) (hz : ∀ c ∈ cs, c.size ≤ 1048576) (hn' : cs.length ≤ 1048576) :
    Calls Tryd.prog 27 #[.int .i64 n, v] w fun e w' => e = .returned (.tuple #[.string (gpB n cs), .bool (csOk n cs)]) ∧ Below w.heap.size w w' := by
  have HV := Lib.hid (spCallsValid_c n cs v w hx hz hn')
  rcases Bool.eq_false_or_eq_true (csOk n cs) with h2 | h2
  · obtain ⟨h1, h4, h5, _⟩ := cs_at h2
    have hs := cs_size h2
    obtain ⟨m, rfl⟩ := Int.eq_ofNat_of_zero_le (show (0 : Int) ≤ n by omega)
    have HVT := Lib.hid (fun W (hW : Below w.heap.size w W) i (hi : i < m) r => l11Votes_c cs h5 v W (hx.below hW) i (fun c hc => by have := hs c hc; omega) (by omega) r)
    have HO : Hid (gpB (m : Int) cs = gB cs m) := by show _ = _; unfold gpB; rw [h2]; rfl
    have HF := Lib.hid (fun i (hi : i ≤ 4) c W => l13Find_c (gB cs i) c W (by have := grF_len cs i; show (grF cs i).toArray.size ≤ _; rw [List.size_toArray]; omega))
    have HK := Lib.hid (fun i k hk => kB_succ cs i k hk)
    have HG := Lib.hid (fun i => gB_succ cs i)
    have HL : Hid (∀ i, (gB cs i).size ≤ i) := fun i => by have := grF_len cs i; show (grF cs i).toArray.size ≤ i; rw [List.size_toArray]; exact this
    have HKL : Hid (∀ i k, (kB cs i k).size ≤ 1) := fun i k => by have := grK_len cs i (grF cs i) k; show (grK cs i (grF cs i) k).toArray.size ≤ 1; rw [List.size_toArray]; exact this
    have H0 : Hid (gB cs 0 = ⟨#[]⟩) := rfl
    have HK0 : Hid (∀ i, kB cs i 0 = ⟨#[]⟩) := fun i => rfl
    rw [h2] at HV ⊢
    clear hx hz h2 hs
    go_enter Tryd.func27, Tryd.ntmps27
    go_wp2_with fail
    refine HV.out.mono ?_
    rintro e w1 ⟨rfl, hb1⟩
    go_wp2
    go_loopw [6, 7, 8, 9, 10, 16] (fun o _ _ _ _ i wr => ∃ (k : Nat), k ≤ m ∧ i = .int .i64 k ∧ o = .string (gB cs k) ∧ Below w.heap.size w wr) (fun _ _ _ _ _ i _ => m - (RowKit.intOf i).toNat)
    case atStart => exact ⟨0, by omega, rfl, by rw [H0.out], hb1⟩
    case round =>
      obtain ⟨i, hi, rfl, rfl, hb⟩ := hrel
      by_cases hlt : i < m
      · have HFi := Lib.hid (HF.out i (by omega))
        have HVi := Lib.hid (fun W hW r => HVT.out W hW i hlt r)
        have HKi := Lib.hid (HK.out i)
        have HGi := Lib.hid (HG.out i)
        have hli := HL.out i
        have HKLi := Lib.hid (HKL.out i)
        have HK0i := Lib.hid (HK0.out i)
        have i0 : (0 : Int) ≤ (i : Int) := by omega
        have i1 : (i : Int) < (m : Int) := by omega
        have i4 : i ≤ 3 := by omega
        clear HF HVT HK HG HL HKL HK0
        obtain ⟨nx, HNX⟩ : ∃ nx, Hid (gB cs (i + 1) = nx) := ⟨_, rfl⟩
        rw [HNX.out] at HGi
        generalize gB cs i = g at *
        go_wp2
        go_loopw [8, 9, 10, 19] (fun o _ _ j wr => ∃ (k : Nat), k ≤ 6 ∧ j = .int .i64 k ∧ o = .string (kB cs i k) ∧ Below w.heap.size w wr) (fun _ _ _ j _ => 6 - (RowKit.intOf j).toNat)
        case atStart => exact ⟨0, by omega, rfl, by rw [HK0i.out], hb⟩
        case round =>
          obtain ⟨k, hk, rfl, rfl, hb⟩ := hrel
          by_cases hlk : k < 6
          · have hkn := HKi.out k hlk
            have hcl := HKLi.out k
            have HC : Hid (∀ (a : ByteArray) (_ : a = ch (regsL.getD k 0)) (h0 : 0 < a.size) W, Calls Tryd.prog 43 #[.string g, .int .u8 ((a[0]'h0).toNat : Nat)] W fun e w' => e = .returned (.int .i64 (indexByte g.data.toList (regsL.getD k 0))) ∧ W = w') := fun a ha h0 W => by
              subst ha
              exact HFi.out (regsL.getD k 0) W
            have VA : Hid (∀ (a : ByteArray) (_ : a = nm k) W (hW : Below w.heap.size w W), Calls Tryd.prog 44 #[v, .int .i64 (i : Int), .string a] W fun e w' => e = .returned (.int .i64 (vtN cs i (nm k) : Int)) ∧ Below W.heap.size W w') := fun a ha W hW => by
              subst ha
              exact HVi.out W hW (nm k)
            have VB := Lib.hid (fun W (hW : Below w.heap.size w W) => HVi.out W hW (kB cs i k))
            obtain ⟨nk, HNK⟩ : ∃ nk, Hid (kB cs i (k + 1) = nk) := ⟨_, rfl⟩
            rw [HNK.out] at hkn
            clear HFi HVi HKi
            generalize indexByte g.data.toList (regsL.getD k 0) = zz at *
            generalize vtN cs i (nm k) = va at *
            generalize vtN cs i (kB cs i k) = vb at *
            generalize kB cs i k = cur at *
            by_cases hz : 0 ≤ zz
            · rw [if_pos hz] at hkn
              have HS := Lib.hid (HNK.out.trans hkn)
              have hcs : k = 0 ∨ k = 1 ∨ k = 2 ∨ k = 3 ∨ k = 4 ∨ k = 5 := by omega
              clear hkn HNK VA VB
              have HB := Lib.hid hb
              rcases hcs with rfl | rfl | rfl | rfl | rfl | rfl
              all_goals
                go_wp2_with (go_at_call 43; refine (HC.out _ rfl (by decide) _).mono ?_; rintro e w' ⟨rfl, rfl⟩)
                go_roundw
                case rel => first | exact ⟨1, by decide, rfl, by rw [HS.out], HB.out⟩ | exact ⟨2, by decide, rfl, by rw [HS.out], HB.out⟩ | exact ⟨3, by decide, rfl, by rw [HS.out], HB.out⟩ | exact ⟨4, by decide, rfl, by rw [HS.out], HB.out⟩ | exact ⟨5, by decide, rfl, by rw [HS.out], HB.out⟩ | exact ⟨6, by decide, rfl, by rw [HS.out], HB.out⟩
                case measure => simp [RowKit.intOf]
            · rw [if_neg hz] at hkn
              by_cases hemp : cur = ⟨#[]⟩
              · subst hemp
                rw [if_pos rfl] at hkn
                have HS := Lib.hid (HNK.out.trans hkn)
                have hcs : k = 0 ∨ k = 1 ∨ k = 2 ∨ k = 3 ∨ k = 4 ∨ k = 5 := by omega
                clear hkn HNK VA VB hcl
                have HB := Lib.hid hb
                rcases hcs with rfl | rfl | rfl | rfl | rfl | rfl
                all_goals
                  go_wp2_with (go_at_call 43; refine (HC.out _ rfl (by decide) _).mono ?_; rintro e w' ⟨rfl, rfl⟩)
                  go_roundw
                  case rel => first | exact ⟨1, by decide, rfl, by rw [HS.out]; rfl, HB.out⟩ | exact ⟨2, by decide, rfl, by rw [HS.out]; rfl, HB.out⟩ | exact ⟨3, by decide, rfl, by rw [HS.out]; rfl, HB.out⟩ | exact ⟨4, by decide, rfl, by rw [HS.out]; rfl, HB.out⟩ | exact ⟨5, by decide, rfl, by rw [HS.out]; rfl, HB.out⟩ | exact ⟨6, by decide, rfl, by rw [HS.out]; rfl, HB.out⟩
                  case measure => simp [RowKit.intOf]
              · rw [if_neg hemp] at hkn
                have q1 : ¬ cur.toList = [] := fun e => by
                  rw [ByteArray.toList_eq] at e
                  have h1 := toB cur
                  rw [e] at h1
                  exact hemp h1.symm
                have q2 : cur.toList.isEmpty = false := by
                  cases hl : cur.toList with
                  | nil => exact absurd hl q1
                  | cons a l => rfl
                have hcs : k = 0 ∨ k = 1 ∨ k = 2 ∨ k = 3 ∨ k = 4 ∨ k = 5 := by omega
                by_cases hgt : va > vb
                · rw [if_pos hgt] at hkn
                  have HS := Lib.hid (HNK.out.trans hkn)
                  have hgt' : (va : Int) > (vb : Int) := by omega
                  clear hkn HNK hemp
                  rcases hcs with rfl | rfl | rfl | rfl | rfl | rfl
                  all_goals
                    go_wp2_with (go_at_call 43; refine (HC.out _ rfl (by decide) _).mono ?_; rintro e w' ⟨rfl, rfl⟩)
                    refine (VA.out _ rfl _ hb).mono ?_
                    rintro e w2 ⟨rfl, hb2⟩
                    have B2 := hb.trans (hb2.mono hb.size)
                    go_wp2_with fail
                    refine (VB.out _ B2).mono ?_
                    rintro e w3 ⟨rfl, hb3⟩
                    have HB2 := Lib.hid (B2.trans (hb3.mono B2.size))
                    go_wp2
                    go_roundw
                    case rel => first | exact ⟨1, by decide, rfl, by rw [HS.out]; rfl, HB2.out⟩ | exact ⟨2, by decide, rfl, by rw [HS.out]; rfl, HB2.out⟩ | exact ⟨3, by decide, rfl, by rw [HS.out]; rfl, HB2.out⟩ | exact ⟨4, by decide, rfl, by rw [HS.out]; rfl, HB2.out⟩ | exact ⟨5, by decide, rfl, by rw [HS.out]; rfl, HB2.out⟩ | exact ⟨6, by decide, rfl, by rw [HS.out]; rfl, HB2.out⟩
                    case measure => simp [RowKit.intOf]
                · rw [if_neg hgt] at hkn
                  have HS := Lib.hid (HNK.out.trans hkn)
                  have hgt' : ¬ (va : Int) > (vb : Int) := by omega
                  clear hkn HNK hemp
                  rcases hcs with rfl | rfl | rfl | rfl | rfl | rfl
                  all_goals
                    go_wp2_with (go_at_call 43; refine (HC.out _ rfl (by decide) _).mono ?_; rintro e w' ⟨rfl, rfl⟩)
                    refine (VA.out _ rfl _ hb).mono ?_
                    rintro e w2 ⟨rfl, hb2⟩
                    have B2 := hb.trans (hb2.mono hb.size)
                    go_wp2_with fail
                    refine (VB.out _ B2).mono ?_
                    rintro e w3 ⟨rfl, hb3⟩
                    have HB2 := Lib.hid (B2.trans (hb3.mono B2.size))
                    go_wp2
                    go_roundw
                    case rel => first | exact ⟨1, by decide, rfl, by rw [HS.out], HB2.out⟩ | exact ⟨2, by decide, rfl, by rw [HS.out], HB2.out⟩ | exact ⟨3, by decide, rfl, by rw [HS.out], HB2.out⟩ | exact ⟨4, by decide, rfl, by rw [HS.out], HB2.out⟩ | exact ⟨5, by decide, rfl, by rw [HS.out], HB2.out⟩ | exact ⟨6, by decide, rfl, by rw [HS.out], HB2.out⟩
                    case measure => simp [RowKit.intOf]
          · have hk' : k = 6 := by omega
            subst hk'
            have hkl := HKLi.out 6
            generalize kB cs i 6 = kk at *
            go_wp2
            go_roundw
            case rel => exact ⟨i + 1, by omega, by go_num, by rw [HNX.out, HGi.out], hb⟩
            case measure => simp [RowKit.intOf]; omega
      · have HE : Hid (i = m) := by show _ = _; omega
        have i1 : ¬ (i : Int) < (m : Int) := by omega
        go_wp2
        go_ret2
        exact ⟨by rw [HO.out, HE.out]; rfl, hb⟩
  · have HO : Hid (gpB n cs = ⟨#[]⟩) := by show _ = _; unfold gpB; rw [h2]; rfl
    rw [h2] at HV ⊢
    clear hx hz h2
    go_enter Tryd.func27, Tryd.ntmps27
    go_wp2_with fail
    refine HV.out.mono ?_
    rintro e w1 ⟨rfl, hb1⟩
    go_wp2
    go_ret2
    exact ⟨by rw [HO.out]; rfl, hb1⟩
end Go.Proofs.YthgcoocgeekdnaaDoor
namespace Go.PF
open Go.Sort
/-- a register's number with its votes: what is sorted -/
abbrev Cd := Nat × Nat
def cfV (x y : Cd) : Int := if y.2 < x.2 then -1 else if x.2 < y.2 then 1 else 0
def ltV (x y : Cd) : Bool := decide (cfV x y < 0)
def ltW (x y : Cd) : Bool := decide (y.2 < x.2 ∨ (x.2 = y.2 ∧ x.1 < y.1))
theorem ltV_is (x y : Cd) : ltV x y = decide (y.2 < x.2) := by
  unfold ltV cfV
  by_cases h : y.2 < x.2
  · rw [if_pos h, decide_eq_true h]; rfl
  · rw [if_neg h, decide_eq_false h]
    split <;> rfl
theorem ltVW {x y : Cd} (h : ¬ x.1 < y.1) : ltV x y = ltW x y := by
  rw [ltV_is]
  unfold ltW
  rw [decide_eq_decide]
  exact ⟨fun h2 => .inl h2, fun h2 => by rcases h2 with h2 | h2; exact h2; exact absurd h2.2 h⟩
theorem swo_W : SWO ltW := by
  refine ⟨fun x => ?_, fun x y z h1 h2 => ?_, fun x y z h1 h2 => ?_⟩
  · unfold ltW; rw [decide_eq_false_iff_not]; omega
  · unfold ltW at *; rw [decide_eq_true_eq] at *; omega
  · unfold ltW at *; rw [decide_eq_false_iff_not] at *; omega
/-- ahead of the element that is put in there are those of smaller numbers alone -/
structure StI (n i : Nat) (d : Array Cd) : Prop where
  size : d.size = n
  low : ∀ p, p ≤ i → d[p]!.1 ≤ i
  high : ∀ p, i < p → p < n → d[p]!.1 = p
theorem StI.swp {n i : Nat} {d : Array Cd} (h : StI n i d) (hi : i < n) {a b : Nat} (ha : a ≤ i) (hb : b ≤ i) : StI n i (swp d a b) := by
  have g := swp_get d (show a < d.size by rw [h.size]; omega) (show b < d.size by rw [h.size]; omega)
  refine ⟨by rw [swp_size, h.size], fun p hp => ?_, fun p hp hpn => ?_⟩
  · rw [g]
    split
    · exact h.low a ha
    · split
      · exact h.low b hb
      · exact h.low p hp
  · rw [g, if_neg (by omega), if_neg (by omega)]; exact h.high p hp hpn
theorem ins_inner {n i : Nat} (hi : i < n) : ∀ (j : Nat) (d : Array Cd), StI n i d → j ≤ i → d[j]!.1 = i → (∀ p, p < j → d[p]!.1 < i) → insInner ltV 0 j d = insInner ltW 0 j d ∧ StI n i (insInner ltW 0 j d)
  | 0, d, h, _, _, _ => ⟨rfl, h⟩
  | j + 1, d, h, hj, he, hlt => by
    have h1 := hlt j (by omega)
    have e : ltV d[j + 1]! d[j]! = ltW d[j + 1]! d[j]! := ltVW (by omega)
    unfold insInner
    rw [e]
    by_cases hc : (decide (j + 1 > 0) && ltW d[j + 1]! d[j]!) = true
    · rw [if_pos hc, if_pos hc]
      have g := swp_get d (show j + 1 < d.size by rw [h.size]; omega) (show j < d.size by rw [h.size]; omega)
      refine ins_inner hi j (swp d (j + 1) j) (h.swp hi hj (by omega)) (by omega) ?_ fun p hp => ?_
      · rw [g, if_pos rfl]; exact he
      · rw [g, if_neg (by omega), if_neg (by omega)]; exact hlt p (by omega)
    · rw [if_neg hc, if_neg hc]; exact ⟨rfl, h⟩
/-- the same, ahead of the round of the element i -/
structure StO (n i : Nat) (d : Array Cd) : Prop where
  size : d.size = n
  low : ∀ p, p < i → d[p]!.1 < i
  high : ∀ p, i ≤ p → p < n → d[p]!.1 = p
theorem ins_outer {n : Nat} : ∀ (k i : Nat) (d : Array Cd), n - i = k → StO n i d → insOuter ltV 0 n i d = insOuter ltW 0 n i d
  | 0, i, d, hk, h => by
    have hi : ¬ i < n := by omega
    rw [insOuter, if_neg hi]
    conv => rhs; rw [insOuter, if_neg hi]
  | k + 1, i, d, hk, h => by
    have hi : i < n := by omega
    have h1 : StI n i d := ⟨h.size, fun p hp => by
      by_cases e : p = i
      · subst e; rw [h.high p (Nat.le_refl _) hi]; exact Nat.le_refl _
      · have := h.low p (by omega); omega, fun p hp hpn => h.high p (by omega) hpn⟩
    obtain ⟨e, h2⟩ := ins_inner hi i d h1 (Nat.le_refl _) (h.high i (Nat.le_refl _) hi) (fun p hp => h.low p hp)
    rw [insOuter, if_pos hi, e]
    conv => rhs; rw [insOuter, if_pos hi]
    refine ins_outer k (i + 1) _ (by omega) ⟨h2.size, fun p hp => ?_, fun p hp hpn => h2.high p (by omega) hpn⟩
    have := h2.low p (by omega); omega
/-- the registers with their votes, in the order of the alphabet -/
def cds (v : Nat → Nat) : Array Cd := ((List.range 6).map fun k => (k, v k)).toArray
theorem cds_size (v : Nat → Nat) : (cds v).size = 6 := by simp [cds]
theorem cds_at (v : Nat → Nat) (k : Nat) (hk : k < 6) : (cds v)[k]! = (k, v k) := by
  have h : k < (cds v).size := by rw [cds_size]; exact hk
  rw [getElem!_pos (cds v) k h]
  simp [cds]
def srtV (v : Nat → Nat) : Array Cd := insertionSort ltV (cds v) 0 6
theorem srtV_eq (v : Nat → Nat) : srtV v = insertionSort ltW (cds v) 0 6 := by
  unfold srtV insertionSort
  refine ins_outer 5 1 (cds v) rfl ⟨cds_size v, fun p hp => ?_, fun p hp hpn => ?_⟩
  · have : p = 0 := by omega
    subst this; rw [cds_at v 0 (by decide)]; exact Nat.zero_lt_one
  · rw [cds_at v p hpn]
theorem srtV_spec (v : Nat → Nat) : (srtV v).size = 6 ∧ (srtV v).toList.Perm (cds v).toList ∧ ∀ p q, p < q → q < 6 → ltW (srtV v)[q]! (srtV v)[p]! = false := by
  rw [srtV_eq]
  obtain ⟨⟨h1, _, h2⟩, h3⟩ := insertionSort_holds (lt := ltW) swo_W (cds v) 0 6 (by omega) (by rw [cds_size]; omega)
  rw [cds_size] at h1
  refine ⟨h1, ?_, fun p q hp hq => h3 p q (by omega) hp hq⟩
  have e1 : (insertionSort ltW (cds v) 0 6).extract 0 6 = insertionSort ltW (cds v) 0 6 := by
    have := @Array.extract_size _ (insertionSort ltW (cds v) 0 6)
    rw [h1] at this; exact this
  have e2 : (cds v).extract 0 6 = cds v := by
    have := @Array.extract_size _ (cds v)
    rw [cds_size] at this; exact this
  rw [e1, e2] at h2
  exact h2
theorem srtV_mem (v : Nat → Nat) : (∀ p, p < 6 → (srtV v)[p]!.1 < 6 ∧ (srtV v)[p]!.2 = v (srtV v)[p]!.1) ∧ ∀ k, k < 6 → ∃ p, p < 6 ∧ (srtV v)[p]! = (k, v k) := by
  obtain ⟨h1, h2, _⟩ := srtV_spec v
  constructor
  · intro p hp
    have hp' : p < (srtV v).size := by omega
    have hm : (srtV v)[p] ∈ (cds v).toList := h2.mem_iff.1 (Array.getElem_mem_toList hp')
    rw [getElem!_pos (srtV v) p hp']
    unfold cds at hm
    rw [List.mem_map] at hm
    obtain ⟨k, hk, e⟩ := hm
    rw [← e]; exact ⟨List.mem_range.1 hk, rfl⟩
  · intro k hk
    have hm : (k, v k) ∈ (srtV v).toList := h2.mem_iff.2 (by
      unfold cds; exact List.mem_map.2 ⟨k, List.mem_range.2 hk, rfl⟩)
    obtain ⟨p, hp, e⟩ := List.getElem_of_mem hm
    have hp' : p < (srtV v).size := by simpa using hp
    refine ⟨p, by omega, ?_⟩
    rw [getElem!_pos (srtV v) p hp', ← e, Array.getElem_toList]
/-- k is the first one of those with t that have the most votes -/
def Fst (v : Nat → Nat) (t : Nat → Bool) (n k : Nat) : Prop := k < n ∧ t k = true ∧ ∀ j, j < n → t j = true → v j < v k ∨ (v j = v k ∧ k ≤ j)
theorem Fst.uniq {v : Nat → Nat} {t : Nat → Bool} {n k k' : Nat} (h : Fst v t n k) (h' : Fst v t n k') : k = k' := by
  have h1 := h.2.2 k' h'.1 h'.2.1
  have h2 := h'.2.2 k h.1 h.2.1
  omega
theorem srtV_first (v : Nat → Nat) (t : Nat → Bool) {p : Nat} (hp : p < 6) (ht : t (srtV v)[p]!.1 = true) (hlow : ∀ q, q < p → t (srtV v)[q]!.1 = false) : Fst v t 6 (srtV v)[p]!.1 := by
  obtain ⟨_, _, h3⟩ := srtV_spec v
  obtain ⟨h4, h5⟩ := srtV_mem v
  refine ⟨(h4 p hp).1, ht, fun j hj hjt => ?_⟩
  obtain ⟨q, hq, e⟩ := h5 j hj
  have e1 : (srtV v)[q]!.1 = j := by rw [e]
  have e2 : (srtV v)[q]!.2 = v j := by rw [e]
  have e3 := (h4 p hp).2
  rcases Nat.lt_trichotomy q p with h | h | h
  · have := hlow q h
    rw [e1, hjt] at this; cases this
  · subst h
    rw [e1]; exact .inr ⟨rfl, Nat.le_refl _⟩
  · have hl := h3 p q h hq
    unfold ltW at hl
    rw [decide_eq_false_iff_not, e1, e2, e3] at hl
    omega
end Go.PF
namespace Go.Proofs.YthgcoocgeekdnaaDoor
open Go.PM Go.PD Go.PF Go.RowKit Go.Lib Go.Sort
/-- votes of the k-th register -/
def vtR (cs : List ByteArray) (i : Nat) (k : Nat) : Nat := votN cs i (regsL.getD k 0)
def frR (ps : List UInt8) (k : Nat) : Bool := decide (regsL.getD k 0 ∉ ps)
theorem reg_inj {j k : Nat} (hj : j < 6) (hk : k < 6) (e : regsL.getD j 0 = regsL.getD k 0) : j = k := by
  have h : ∀ j : Fin 6, ∀ k : Fin 6, regsL.getD j.val 0 = regsL.getD k.val 0 → j = k := by decide
  exact congrArg Fin.val (h ⟨j, hj⟩ ⟨k, hk⟩ e)
theorem grK_first (cs : List ByteArray) (i : Nat) (ps : List UInt8) : ∀ K, K ≤ 6 → (grK cs i ps K = [] ∧ ∀ j, j < K → frR ps j = false) ∨ ∃ k, grK cs i ps K = [regsL.getD k 0] ∧ Fst (vtR cs i) (frR ps) K k
  | 0, _ => .inl ⟨rfl, fun j hj => absurd hj (Nat.not_lt_zero j)⟩
  | K + 1, hK => by
    have ih := grK_first cs i ps K (by omega)
    show (grS cs i ps (grK cs i ps K) K = [] ∧ _) ∨ ∃ k, grS cs i ps (grK cs i ps K) K = _ ∧ _
    unfold grS
    by_cases hin : regsL.getD K 0 ∈ ps
    · rw [if_pos hin]
      have hf : frR ps K = false := by unfold frR; rw [decide_eq_false_iff_not]; exact fun h => h hin
      rcases ih with ⟨e, h⟩ | ⟨k, e, h1, h2, h3⟩
      · exact .inl ⟨e, fun j hj => by
          by_cases ej : j = K
          · rw [ej]; exact hf
          · exact h j (by omega)⟩
      · exact .inr ⟨k, e, by omega, h2, fun j hj hjt => by
          by_cases ej : j = K
          · rw [ej, hf] at hjt; cases hjt
          · exact h3 j (by omega) hjt⟩
    · rw [if_neg hin]
      have hf : frR ps K = true := by unfold frR; exact decide_eq_true hin
      rcases ih with ⟨e, h⟩ | ⟨k, e, h1, h2, h3⟩
      · rw [e]
        refine .inr ⟨K, rfl, by omega, hf, fun j hj hjt => ?_⟩
        by_cases ej : j = K
        · subst ej; exact .inr ⟨rfl, Nat.le_refl _⟩
        · rw [h j (by omega)] at hjt; cases hjt
      · rw [e]
        show (_ ∧ _) ∨ ∃ k', (if vtR cs i K > vtR cs i k then [regsL.getD K 0] else [regsL.getD k 0]) = _ ∧ _
        by_cases hg : vtR cs i K > vtR cs i k
        · rw [if_pos hg]
          refine .inr ⟨K, rfl, by omega, hf, fun j hj hjt => ?_⟩
          by_cases ej : j = K
          · subst ej; exact .inr ⟨rfl, Nat.le_refl _⟩
          · have := h3 j (by omega) hjt; omega
        · rw [if_neg hg]
          refine .inr ⟨k, rfl, by omega, h2, fun j hj hjt => ?_⟩
          by_cases ej : j = K
          · subst ej; omega
          · exact h3 j (by omega) hjt
/-- the first one of the sorted registers that is not taken is the one that is elected -/
theorem elect_is (cs : List ByteArray) (i : Nat) (ps : List UInt8) {p : Nat} (hp : p < 6) (ht : frR ps (srtV (vtR cs i))[p]!.1 = true) (hlow : ∀ q, q < p → frR ps (srtV (vtR cs i))[q]!.1 = false) :
    grK cs i ps 6 = [regsL.getD (srtV (vtR cs i))[p]!.1 0] := by
  have h1 := srtV_first (vtR cs i) (frR ps) hp ht hlow
  rcases grK_first cs i ps 6 (Nat.le_refl _) with ⟨_, h⟩ | ⟨k, e, h⟩
  · have := h _ h1.1
    rw [ht] at this; cases this
  · rw [e, h.uniq h1]
theorem elect_some (v : Nat → Nat) (ps : List UInt8) (hl : ps.length ≤ 5) : ∃ p, p < 6 ∧ frR ps (srtV v)[p]!.1 = true ∧ ∀ q, q < p → frR ps (srtV v)[q]!.1 = false := by
  obtain ⟨j, hj, hf⟩ : ∃ j, j < 6 ∧ regsL.getD j 0 ∉ ps := by
    by_cases h : ∃ j, j < 6 ∧ regsL.getD j 0 ∉ ps
    · exact h
    · have h2 : ∀ a ∈ regsL, a ∈ ps := fun a ha => by
        obtain ⟨j, hj, rfl⟩ := List.getElem_of_mem ha
        by_cases hm : regsL[j] ∈ ps
        · exact hm
        · exact absurd ⟨j, hj, by rw [List.getD_eq_getElem?_getD, List.getElem?_eq_getElem hj]; exact hm⟩ h
      have := nodup_le regsL ps (by decide) h2
      have e : regsL.length = 6 := rfl
      omega
  obtain ⟨p, hp, e⟩ := (srtV_mem v).2 j hj
  have hex : ∃ p, p < 6 ∧ frR ps (srtV v)[p]!.1 = true := ⟨p, hp, by rw [e]; exact decide_eq_true hf⟩
  have key : ∀ n, (∃ p, p < n ∧ p < 6 ∧ frR ps (srtV v)[p]!.1 = true) → ∃ p, p < 6 ∧ frR ps (srtV v)[p]!.1 = true ∧ ∀ q, q < p → frR ps (srtV v)[q]!.1 = false := by
    intro n
    induction n with
    | zero => rintro ⟨p, h, _⟩; exact absurd h (Nat.not_lt_zero p)
    | succ n ih =>
      rintro ⟨p, h1, h2, h3⟩
      by_cases hc : ∃ q, q < n ∧ q < 6 ∧ frR ps (srtV v)[q]!.1 = true
      · exact ih hc
      · refine ⟨p, h2, h3, fun q hq => ?_⟩
        rw [Bool.eq_false_iff]
        exact fun hx => hc ⟨q, by omega, by omega, hx⟩
  obtain ⟨p, hp, ht⟩ := hex
  exact key 6 ⟨p, hp, hp, ht⟩
end Go.Proofs.YthgcoocgeekdnaaDoor
namespace Go.PM
open Go.RowKit
variable {F : Fence} {n : Nat} {P : Program}
theorem KeepsNew.alloc {B : Nat} (W : World) (o : Obj) : KeepsNew B W (W.alloc o) := KeepsNew.below ((Below.refl _ _).alloc (Nat.le_refl _) _)
theorem KeepsNew.block {B : Nat} {W W' : World} (h : KeepsNew B W W') {k : Nat} {o : Obj} (hB : B ≤ k) (hk : W.heap[k]? = some o) : W'.heap[k]? = some o := (h.same k hB (Array.getElem?_eq_some_iff.1 hk).1).trans hk
/-- The function gf, called with mk of a yield, hands the elements of xs to it one behind the other, and stops where a round says no. What the caller keeps (Pr) may be read; a round leaves all blocks that were laid since the call as they were. -/
def IterK {α : Type} (Pr : World → Prop) (F : Fence) (n : Nat) (P : Program) (gf : Nat) (mk : Value → Array Value) (encs : α → Array Value) (xs : List α) : Prop :=
  ∀ (l : Nat) (J Jx : List α → World → Prop) (W : World),
    OwnFrom W.heap.size J → OwnFrom W.heap.size Jx → (∀ pre A, J pre A → Pr A) →
    (∀ pre x A, J pre A → W.heap.size ≤ A.heap.size → pre ++ [x] <+: xs → YieldAt F (n - 1) P l (encs x) A fun e A' =>
      (e = .returned (.bool true) ∧ J (pre ++ [x]) A' ∧ KeepsNew W.heap.size A A') ∨ (e = .returned (.bool false) ∧ Jx (pre ++ [x]) A' ∧ KeepsNew W.heap.size A A')) →
    J [] W →
    CallsIn F n P gf (mk (.func (.yield l) #[] #[])) W fun e W' => (∃ v, e = .returned v) ∧ (J xs W' ∨ ∃ pre, pre <+: xs ∧ Jx pre W')
def postK {α : Type} (B : Nat) (I : List α → World → Prop) (Ix : Code → List α → World → Prop) (xs : List α) (W : World) : Exit → Act → World → Prop
  | .normal, _, W' => I xs W' ∧ KeepsNew B W W'
  | .ret, _, W' => Ix .ret xs W' ∧ KeepsNew B W W'
  | .exit id, _, W' => Ix (.exit id) xs W' ∧ KeepsNew B W W'
  | .goto t, _, W' => Ix (.goto t) xs W' ∧ KeepsNew B W W'
  | .panic _, _, _ => False
  | .outgrown, _, _ => False
theorem range_lawK {α : Type} {Pr : World → Prop} {g : Operand} {ps : Array Tmp} {assign body : Code} {Q : Exit → Act → World → Prop} {a : Act} {w : World} (hro : F.round = none) (h1 : 1 ≤ n)
    {gf : Nat} {lf lb : Array Value} (hg : a.eval g = .func (.func gf) lf lb) (hFg : F.fn gf) (eg : ∀ args w, (callFunc gf args).run P w = .ok (.enter gf args) w)
    {encs : α → Array Value} {xs : List α} (hit : IterK Pr F (n - 1) P gf (fun y => lf ++ #[y] ++ lb) encs xs) (hps : ∀ x, (encs x).size = ps.size)
    (I : List α → World → Prop) (Ix : Code → List α → World → Prop) (hPr : ∀ pre A, I pre A → Pr A) (hI : OwnFrom w.heap.size I) (hIx : ∀ c, OwnFrom w.heap.size (Ix c)) (h0 : I [] w) (Ax : α → Act → World → Prop) (hAx : ∀ x a', OwnFrom w.heap.size (fun (_ : Unit) W => Ax x a' W))
    (hassign : ∀ (l : Nat) (pre : List α) (x : α) (W : World) (K : Act → World → Prop), I pre W → pre ++ [x] <+: xs → w.heap.size + 2 ≤ W.heap.size → (∀ a' W', KeepsNew w.heap.size W W' → I pre W' → Ax x a' W' → K a' W') →
      assign.wpIn (F.inRound l) (n - 1 - 1) P (Exit.then K (fun _ _ _ => False)) { tmps := (ps.zip (encs x)).foldl (fun t (p, v) => t.setIfInBounds p v) a.tmps, defers := [] } W)
    (hbody : ∀ (l : Nat) (pre : List α) (x : α) (a' : Act) (W : World), I pre W → Ax x a' W → pre ++ [x] <+: xs → w.heap.size + 2 ≤ W.heap.size → body.wpIn (F.inRound l) (n - 1 - 1) P (postK w.heap.size I Ix (pre ++ [x]) W) a' W)
    (hdone : ∀ (D : Nat) (W : World), w.heap.size ≤ D → I xs W → W.heap[D]? = some (.deferred (some [])) → Q .normal { a with defers := { target := .collected D, args := #[] } :: a.defers } W)
    (hstop : ∀ (D : Nat) (c : Code) (pre : List α) (W : World), w.heap.size ≤ D → pre <+: xs → Ix c pre W → W.heap[D]? = some (.deferred (some [])) → c.wpIn F n P Q { a with defers := { target := .collected D, args := #[] } :: a.defers } W) :
    (Code.rangeFunc g ps assign body).wpIn F n P Q a w := by
  refine wpIn_rangeFunc fun fn hfn => ?_
  rw [hro]
  have key : ∃ rc : LoopState → Option Code → Loop, rc = fun s j => { state := s, pending := j, fn, tmps := a.tmps, params := ps, assign, body, defers := w.heap.size } := ⟨_, rfl⟩
  obtain ⟨rc, hrc⟩ := key
  let V := (w.alloc (.deferred (some []))).alloc (.loop (rc .ready none))
  let Bk : LoopState → Option Code → World → Prop := fun s j A => A.heap[w.heap.size + 1]? = some (.loop (rc s j)) ∧ A.heap[w.heap.size]? = some (.deferred (some []))
  have bkput : ∀ {s j s' j' A}, Bk s j A → Bk s' j' (A.putObj (w.heap.size + 1) (.loop (rc s' j'))) := fun h =>
    ⟨World.putObj_heap_same (Array.getElem?_eq_some_iff.1 h.1).1, (World.putObj_heap_other (by omega)).trans h.2⟩
  have hVs : V.heap.size = w.heap.size + 2 := by simp [V, World.size_alloc]
  have bknew : ∀ {s j A A' row}, Bk s j A → A.grownBy A' row → (∀ r, row = some r → V.heap.size ≤ r ∧ ∃ o : Obj, A.heap[r]? = some o ∧ o.isCells = false) → Bk s j A' := fun h hg' hr =>
    ⟨(hg'.block _ (Array.getElem?_eq_some_iff.1 h.1).1 (fun e => by have := (hr _ e.symm).1; omega)).trans h.1, (hg'.block _ (Array.getElem?_eq_some_iff.1 h.2).1 (fun e => by have := (hr _ e.symm).1; omega)).trans h.2⟩
  have hV : Bk .ready none V := by
    refine ⟨?_, ?_⟩
    · have := World.alloc_heap_new (w.alloc (.deferred (some []))) (.loop (rc .ready none)); rwa [World.size_alloc] at this
    · exact (Below.heap_alloc _ _ _ (by simp)).trans (World.alloc_heap_new w _)
  have hIV : I [] V := hI.alloc _ (hI.alloc _ h0)
  refine ⟨w.heap.size + 1, [{ target := .collected w.heap.size, args := #[] }], V, { target := .fn (.func gf) lb, args := lf ++ #[.func (.yield (w.heap.size + 1)) #[] #[]] }, V, gf,
    lf ++ #[.func (.yield (w.heap.size + 1)) #[] #[]] ++ lb, V, ?_, ?_, ?_, ?_, fun _ => h1, ?_⟩
  · have := run_enterLoop_outer (P := P) (w := w) fn a.tmps ps assign body
    rw [this]; simp only [V, hrc]
  · simp only [resolve, hg]
    simp [go_sem]
  · intro f' hf'
    simp [Target.leads] at hf'
    subst hf'; exact hFg
  · simp [invoke, go_sem, eg]
  refine (hit (w.heap.size + 1) (fun pre A => I pre A ∧ Bk .ready none A) (fun pre A => ∃ c, Ix c pre A ∧ Bk .done (some c) A) V
    (fun pre A A' row h hg' hr => ⟨hI pre A A' row h.1 hg' (fun r e => ⟨by have := (hr r e).1; omega, (hr r e).2⟩), bknew h.2 hg' hr⟩)
    (fun pre A A' row ⟨c, h, hb⟩ hg' hr => ⟨c, hIx c pre A A' row h hg' (fun r e => ⟨by have := (hr r e).1; omega, (hr r e).2⟩), bknew hb hg' hr⟩) (fun pre A h => hPr pre A h.1) ?_ ⟨hIV, hV⟩).mono ?_
  · rintro pre x A ⟨hi, hb⟩ hsz hpx
    have hy := run_yield (P := P) (args := encs x) hb.1 (by rw [hrc]; exact hps x)
    rw [hrc] at hy
    refine ⟨fn, _, assign, body, hy, roundIn_of_wpIn hfn (hassign _ pre x A _ hi hpx (by omega) ?_)⟩
    intro a' Wa hkn hia hax
    have hlt := (Array.getElem?_eq_some_iff.1 hb.1).1
    replace hb : Bk .ready none Wa := ⟨(hkn.same _ (by omega) hlt).trans hb.1, (hkn.same _ (Nat.le_refl _) (by omega)).trans hb.2⟩
    clear hy hi
    refine ⟨_, run_beginRound hb.1 (by rw [hrc]), ?_⟩
    have hszA : A.heap.size ≤ Wa.heap.size := hkn.size
    have hb2 : Bk .busy none (Wa.putObj (w.heap.size + 1) (.loop (rc .busy none))) := bkput hb
    have e2 : ({ rc .ready none with state := .busy } : Loop) = rc .busy none := by rw [hrc]
    rw [e2]
    have hsP : (Wa.putObj (w.heap.size + 1) (.loop (rc .busy none))).heap.size = Wa.heap.size := by simp [World.putObj]
    refine wpIn_mono (hbody _ pre x a' _ (hI.putObj _ hia (by omega) hb.1 rfl) ((hAx x a').putObj (s := ()) _ hax (by omega) hb.1 rfl) hpx (by omega)) ?_
    have fin : ∀ (j : Option Code) (C : World), KeepsNew w.heap.size (Wa.putObj (w.heap.size + 1) (.loop (rc .busy none))) C →
        (Instr.endRound (w.heap.size + 1) j).run P C = .ok (.bool j.isNone) (C.putObj (w.heap.size + 1) (.loop (rc (if j.isNone then .ready else .done) j))) ∧ Bk .busy none C := fun j C hk => by
      have h1 := hk.block (by omega) hb2.1
      have h2 := hk.block (Nat.le_refl _) hb2.2
      have h3 := run_endRound (P := P) j h1
      refine ⟨?_, h1, h2⟩
      rw [h3]; rw [hrc]
    have kfin : ∀ (o : Obj) (C : World), KeepsNew w.heap.size (Wa.putObj (w.heap.size + 1) (.loop (rc .busy none))) C → KeepsNew V.heap.size A (C.putObj (w.heap.size + 1) o) := fun o C hk => by
      refine ⟨by have := hk.size; rw [hsP] at this; simp [World.putObj] at this ⊢; omega, fun k hk1 hk2 => ?_⟩
      rw [World.putObj_heap_other (by omega), hk.same k (by omega) (by omega), World.putObj_heap_other (by omega)]
      exact hkn.same k (by omega) hk2
    rintro e a3 C hp
    cases e with
    | normal =>
      obtain ⟨hi3, hk⟩ := hp
      obtain ⟨hr, hb3⟩ := fin none C hk
      exact ⟨_, _, hr, .inl ⟨rfl, ⟨hI.putObj _ hi3 (by omega) hb3.1 rfl, bkput hb3⟩, kfin _ C hk⟩⟩
    | ret =>
      obtain ⟨hi3, hk⟩ := hp
      obtain ⟨hr, hb3⟩ := fin (some .ret) C hk
      exact ⟨_, _, hr, .inr ⟨rfl, ⟨.ret, (hIx _).putObj _ hi3 (by omega) hb3.1 rfl, bkput hb3⟩, kfin _ C hk⟩⟩
    | exit id =>
      obtain ⟨hi3, hk⟩ := hp
      obtain ⟨hr, hb3⟩ := fin (some (.exit id)) C hk
      exact ⟨_, _, hr, .inr ⟨rfl, ⟨.exit id, (hIx _).putObj _ hi3 (by omega) hb3.1 rfl, bkput hb3⟩, kfin _ C hk⟩⟩
    | goto t =>
      obtain ⟨hi3, hk⟩ := hp
      obtain ⟨hr, hb3⟩ := fin (some (.goto t)) C hk
      exact ⟨_, _, hr, .inr ⟨rfl, ⟨.goto t, (hIx _).putObj _ hi3 (by omega) hb3.1 rfl, bkput hb3⟩, kfin _ C hk⟩⟩
    | panic ch => exact hp.elim
    | outgrown => exact hp.elim
  · rintro e C ⟨⟨v, rfl⟩, (⟨hi, hb⟩ | ⟨pre, hp, c, hi, hb⟩)⟩
    · have h3 := run_endLoop (P := P) hb.1 (by rw [hrc]; simp)
      refine ⟨none, _, by rw [h3, hrc], hdone _ _ (Nat.le_refl _) (hI.putObj _ hi (by omega) hb.1 rfl) ((World.putObj_heap_other (by omega)).trans hb.2)⟩
    · have h3 := run_endLoop (P := P) hb.1 (by rw [hrc]; simp)
      refine ⟨some c, _, by rw [h3, hrc], hstop _ c pre _ (Nat.le_refl _) hp ((hIx c).putObj _ hi (by omega) hb.1 rfl) ((World.putObj_heap_other (by omega)).trans hb.2)⟩
/-- The same where the assignment lays nothing. -/
theorem range_lawK1 {α : Type} {Pr : World → Prop} {g : Operand} {ps : Array Tmp} {assign body : Code} {Q : Exit → Act → World → Prop} {a : Act} {w : World} (hro : F.round = none) (h1 : 1 ≤ n)
    {gf : Nat} {lf lb : Array Value} (hg : a.eval g = .func (.func gf) lf lb) (hFg : F.fn gf) (eg : ∀ args w, (callFunc gf args).run P w = .ok (.enter gf args) w)
    {encs : α → Array Value} {xs : List α} (hit : IterK Pr F (n - 1) P gf (fun y => lf ++ #[y] ++ lb) encs xs) (hps : ∀ x, (encs x).size = ps.size)
    (I : List α → World → Prop) (Ix : Code → List α → World → Prop) (hPr : ∀ pre A, I pre A → Pr A) (hI : OwnFrom w.heap.size I) (hIx : ∀ c, OwnFrom w.heap.size (Ix c)) (h0 : I [] w) (a₁ : α → Act)
    (hassign : ∀ (l : Nat) (x : α) (W : World) (K : Act → World → Prop), K (a₁ x) W →
      assign.wpIn (F.inRound l) (n - 1 - 1) P (Exit.then K (fun _ _ _ => False)) { tmps := (ps.zip (encs x)).foldl (fun t (p, v) => t.setIfInBounds p v) a.tmps, defers := [] } W)
    (hbody : ∀ (l : Nat) (pre : List α) (x : α) (W : World), I pre W → pre ++ [x] <+: xs → w.heap.size + 2 ≤ W.heap.size → body.wpIn (F.inRound l) (n - 1 - 1) P (postK w.heap.size I Ix (pre ++ [x]) W) (a₁ x) W)
    (hdone : ∀ (D : Nat) (W : World), w.heap.size ≤ D → I xs W → W.heap[D]? = some (.deferred (some [])) → Q .normal { a with defers := { target := .collected D, args := #[] } :: a.defers } W)
    (hstop : ∀ (D : Nat) (c : Code) (pre : List α) (W : World), w.heap.size ≤ D → pre <+: xs → Ix c pre W → W.heap[D]? = some (.deferred (some [])) → c.wpIn F n P Q { a with defers := { target := .collected D, args := #[] } :: a.defers } W) :
    (Code.rangeFunc g ps assign body).wpIn F n P Q a w :=
  range_lawK hro h1 hg hFg eg hit hps I Ix hPr hI hIx h0 (fun x a' _ => a' = a₁ x) (fun _ _ _ _ _ _ h _ _ => h)
    (fun l _ x W K hi _ _ hK => hassign l x W K (hK _ _ (KeepsNew.refl _ _) hi rfl)) (fun l pre x a' W hi ha hp hs => by subst ha; exact hbody l pre x W hi hp hs) hdone hstop
end Go.PM
namespace Go.PF
open Go.PM Go.PD Go.RowKit Go.Lib
/-- a row of texts of which some are there already -/
def rowS (done : List ByteArray) (n : Nat) : List Value := tcells done ++ List.replicate (n - done.length) (.string ⟨#[]⟩)
theorem rowS_zero (n : Nat) : rowS [] n = (List.replicate n [Value.string ⟨#[]⟩]).flatten := by
  unfold rowS tcells
  simp only [List.map_nil, List.nil_append, List.length_nil, Nat.sub_zero]
  induction n with
  | zero => rfl
  | succ n ih => rw [List.replicate_succ, List.replicate_succ, List.flatten_cons, ← ih]; rfl
theorem rowS_at {done : List ByteArray} {n : Nat} (h : done.length < n) : (rowS done n)[done.length]? = some (.string ⟨#[]⟩) := by
  unfold rowS
  have hl : (tcells done).length = done.length := tcells_length done
  rw [List.getElem?_append_right (by omega), hl, Nat.sub_self, List.getElem?_replicate, if_pos (by omega)]
theorem rowS_set {done : List ByteArray} {n : Nat} (h : done.length < n) (q : ByteArray) : (rowS done n).set done.length (.string q) = rowS (done ++ [q]) n := by
  unfold rowS
  have hl : (tcells done).length = done.length := tcells_length done
  rw [List.set_append_right _ _ (by omega), hl, Nat.sub_self, tcells_append, show n - done.length = (n - (done ++ [q]).length) + 1 by rw [List.length_append, List.length_singleton]; omega, List.replicate_succ, List.set_cons_zero]
  simp [tcells]
theorem rowS_full {done : List ByteArray} {n : Nat} (h : done.length = n) : rowS done n = tcells done := by
  unfold rowS
  rw [h, Nat.sub_self]; simp
/-- pieces and what is left of a text -/
def PcI (l : List UInt8) (done : List ByteArray) (r : ByteArray) : Prop := done.flatMap (·.data.toList) ++ r.data.toList = l
theorem PcI_start (s : ByteArray) : PcI s.data.toList [] s := rfl
theorem PcI_step {l : List UInt8} {done : List ByteArray} {r : ByteArray} (h : PcI l done r) (k : Nat) (_hk : k ≤ r.size) : PcI l (done ++ [r.extract 0 k]) (r.extract k r.size) := by
  unfold PcI at h ⊢
  rw [← h, List.flatMap_append, List.append_assoc]
  congr 1
  rw [List.flatMap_singleton, extract_data, extract_data, List.drop_zero, Nat.sub_zero]
  have : (r.data.toList.drop k).take (r.size - k) = r.data.toList.drop k := List.take_of_length_le (by rw [List.length_drop, size_data]; exact Nat.le_refl _)
  rw [this, List.take_append_drop]
theorem PcI_end {l : List UInt8} {done : List ByteArray} {r : ByteArray} (h : PcI l done r) : (done ++ [r]).flatMap (·.data.toList) = l := by
  unfold PcI at h
  rw [List.flatMap_append, List.flatMap_singleton]
  exact h
theorem dec_le (s : ByteArray) : (Lib.decodeGo s).2 ≤ s.size := by
  by_cases h : s.size = 0
  · simp [Lib.decodeGo, h]
  · have e : Lib.decodeGo s = Utf8.decode s 0 := if_neg h
    rw [e, Lib.decode_at]
    unfold Lib.decodeN
    repeat' split
    all_goals (first | (show (1 : Nat) ≤ _; omega) | (show (2 : Nat) ≤ _; omega) | (show (3 : Nat) ≤ _; omega) | (show (4 : Nat) ≤ _; omega))
theorem chars_ch (s : ByteArray) : Lib.charsB s = s.data.toList.map ch := by
  apply List.ext_getElem
  · rw [List.length_map, size_data]
    exact Lib.charsUpTo_length s s.size
  · intro k h1 h2
    have hk : k < s.size := by rw [List.length_map, size_data] at h2; exact h2
    simp only [Lib.charsB, Lib.charsUpTo, List.getElem_map, List.getElem_range]
    rw [extract_one s k hk, List.getD_eq_getElem?_getD, List.getElem?_eq_getElem (by rw [size_data]; exact hk)]
    rfl
end Go.PF
namespace Go.Proofs.YthgcoocgeekdnaaDoor
open Go.RowKit Go.PM Go.PD Go.PF
/-- the library's tables of UTF-8 lie in memory as its text has them -/
def U8w (w : World) : Prop := Lib.Utf8Tabs 1 2 w
theorem U8w.below {w w' : World} (h : U8w w) (hb : Below w.heap.size w w') : U8w w' := Utf8Tabs_below h hb
abbrev u8ren : Go.Shelf.Ren := Tryd.lays260_ren
theorem u8lays : Go.Proofs.Lays.n260 Tryd.prog u8ren := Tryd.lays260
theorem infoU8 : (Tryd.prog.info? 9).map (fun i => (i.zero, i.size, i.bytes)) = some (some (.string ⟨#[]⟩), 1, 16) := by kernel_rfl
theorem iter_below (w : World) (s : ByteArray) (p : Nat) : Below w.heap.size w (w.iter s p) := (Below.refl _ _).alloc (Nat.le_refl _) _
set_option maxRecDepth 100000 in
set_option maxHeartbeats 2000000 in
theorem explode_any (s : ByteArray) (hs : s.size ≤ 1048576) (w : World) (hT : U8w w) :
    Calls Tryd.prog 93 #[.string s, .int .i64 (-1)] w fun e w' => ∃ (A : Option Addr) (qs : List ByteArray), e = .returned (.slice A qs.length qs.length) ∧ RdT w' (.slice A qs.length qs.length) qs ∧ qs.length ≤ 1048576 ∧ (qs = [] ∨ qs.flatMap (·.data.toList) = s.data.toList) ∧ Below w.heap.size w w' := by
  have HC := Lib.hid (Tryd.utf8_RuneCountInString s w (by omega))
  have hle := Lib.runeCount_le s
  have HD := Lib.hid (fun (r : ByteArray) W (hb : Below w.heap.size w W) => Tryd.utf8_DecodeRuneInString r W (hT.below hb))
  have HDL := Lib.hid (fun r => dec_le r)
  have HP0 := Lib.hid (PcI_start s)
  have HPS := Lib.hid (fun done r h k hk => PcI_step (l := s.data.toList) (done := done) (r := r) h k hk)
  have HPE := Lib.hid (fun done r h => PcI_end (l := s.data.toList) (done := done) (r := r) h)
  generalize Lib.runeCount s = N at *
  generalize s.data.toList = l at *
  obtain ⟨i0, hi0, hz0, hz1, hz2⟩ := info_parts infoU8
  have hmk := fun W : World => run_make (P := Tryd.prog) W 23 9 i0 _ Tryd.underlying23 hi0 hz0 .i64 .i64 N N (by omega) (Int.le_refl _) (by rw [hz2]; omega) (by omega)
  simp only [Int.toNat_natCast, hz1] at hmk
  go_enter Tryd.func93, Tryd.ntmps93
  go_wp2_with fail
  refine HC.out.mono ?_
  rintro e w1 ⟨rfl, pos, rfl⟩
  have hb1 := iter_below w s pos
  have hs1 := hb1.size
  generalize w.iter s pos = w1 at *
  have hO := own_made w1 w.heap.size 9 #[Value.string ⟨#[]⟩] 1 N rfl (by omega) (by omega) hs1
  have hB : Below w.heap.size w (w1.alloc (Obj.cells (madeCells #[Value.string ⟨#[]⟩] (N * 1)) 9)) := hb1.alloc hs1 _
  rw [Nat.mul_one] at hmk hO hB
  go_wp2
  generalize (w1.alloc (Obj.cells (madeCells #[Value.string ⟨#[]⟩] N) 9)) = W1 at *
  go_loopw [0, 7, 8, 9] (fun r i _ _ wr => ∃ (done : List ByteArray) (q : ByteArray), (done = [] ∨ done.length + 1 ≤ N) ∧ i = .int .i64 done.length ∧ r = .string q ∧ q.size ≤ 1048576 ∧ Hid (PcI l done q) ∧ wr.ownsRow w.heap.size 9 1 (.slice (some ⟨w1.heap.size, 0, none⟩) N N) N (rowS done N) ∧ Below w.heap.size w wr) (fun _ i _ _ _ => N - (RowKit.intOf i).toNat)
  case atStart => exact ⟨[], s, .inl rfl, rfl, rfl, hs, HP0.out, by rw [rowS_zero]; exact hO, hB⟩
  case round =>
    clear hO hB
    obtain ⟨done, q, hdn, rfl, rfl, hqs, hp, ho, hb⟩ := hrel
    have hbs := hb.size
    by_cases hlt : done.length + 1 < N
    · have t0 : ((done.length : Nat) : Int) < (N : Int) - 1 := by omega
      have hdl := HDL.out q
      have HDC := Lib.hid (HD.out q wr hb)
      have HS := Lib.hid (fun k hk => HPS.out done q hp.out k hk)
      generalize (Lib.decodeGo q).1 = R at *
      generalize (Lib.decodeGo q).2 = K at *
      go_wp2_with fail
      refine HDC.out.mono ?_
      rintro e w2 ⟨rfl, hb2⟩
      have hbw := hb.trans (hb2.mono hbs)
      have ho2 := own_keep ho hb2
      have hf1 := ho2.frozenAt done.length
      have hq1 := (ho2.cellAt done.length (by omega)).trans (rowS_at (by omega))
      have i0 : (0 : Int) ≤ (K : Int) := by omega
      have i1 : (K : Int) ≤ (q.size : Int) := by omega
      have i2 : ((done.length : Nat) : Int) < (N : Int) := by omega
      have hlg := (own_lt ho2).1
      clear hb hb2 ho
      go_wp2
      go_roundw
      case rel =>
        refine ⟨done ++ [q.extract 0 K], q.extract K q.size, .inr (by rw [List.length_append, List.length_singleton]; omega), by rw [List.length_append, List.length_singleton]; go_num, rfl, by rw [ByteArray.size_extract]; omega, HS.out K hdl, ?_, ?_⟩
        · rw [← rowS_set (by omega)]
          exact (ho2.stored done.length _).1
        · exact hbw.setCell (by simp; omega) _
      case measure => simp [RowKit.intOf]; omega
    · have t0 : ¬ ((done.length : Nat) : Int) < (N : Int) - 1 := by omega
      by_cases hN : N = 0
      · subst hN
        have hd : done = [] := by
          rcases hdn with h | h
          · exact h
          · omega
        subst hd
        have hR := Rd.of_own ho
        rw [rowS_full (by rfl)] at hR
        go_wp2
        go_ret
        exact ⟨_, [], rfl, hR, by simp, .inl rfl, hb⟩
      · have hdl : done.length + 1 = N := by
          rcases hdn with h | h
          · subst h; simp at hlt ⊢; omega
          · omega
        have t1 : (0 : Int) < (N : Int) := by omega
        have t2 : (N : Int) - 1 = ((done.length : Nat) : Int) := by omega
        have i2 : ((done.length : Nat) : Int) < (N : Int) := by omega
        have hf1 := ho.frozenAt done.length
        have hq1 := (ho.cellAt done.length (by omega)).trans (rowS_at (by omega))
        have hlg := (own_lt ho).1
        have ho3 := (ho.stored done.length (.string q)).1
        rw [rowS_set (by omega), rowS_full (by rw [List.length_append, List.length_singleton]; omega)] at ho3
        have hR := Rd.of_own ho3
        have HE := Lib.hid (HPE.out done q hp.out)
        have hbw := hb.setCell (p := ⟨w1.heap.size, done.length, none⟩) hs1 (.string q)
        have hql : (done ++ [q]).length = N := by rw [List.length_append, List.length_singleton]; omega
        have HL := Lib.hid hql
        clear ho ho3 hlt hdn hql
        go_wp2
        go_ret
        exact ⟨_, done ++ [q], by rw [HL.out]; rfl, by rw [HL.out]; unfold RdT; rw [HL.out]; exact hR, by rw [HL.out]; omega, .inr HE.out, hbw⟩
theorem split_any (s : ByteArray) (hs : s.size ≤ 1048576) (w : World) (hT : U8w w) :
    Calls Tryd.prog 55 #[.string s, .string ⟨#[]⟩] w fun e w' => ∃ (A : Option Addr) (qs : List ByteArray), e = .returned (.slice A qs.length qs.length) ∧ RdT w' (.slice A qs.length qs.length) qs ∧ qs.length ≤ 1048576 ∧ (qs = [] ∨ qs.flatMap (·.data.toList) = s.data.toList) ∧ Below w.heap.size w w' := by
  have HX := Lib.hid (explode_any s hs w hT)
  have HG : Hid (Calls Tryd.prog 76 #[.string s, .string ⟨#[]⟩, .int .i64 0, .int .i64 (-1)] w fun e w' => ∃ (A : Option Addr) (qs : List ByteArray), e = .returned (.slice A qs.length qs.length) ∧ RdT w' (.slice A qs.length qs.length) qs ∧ qs.length ≤ 1048576 ∧ (qs = [] ∨ qs.flatMap (·.data.toList) = s.data.toList) ∧ Below w.heap.size w w') := by
    show Calls _ _ _ _ _
    go_enter Tryd.func76, Tryd.ntmps76
    go_wp2_with fail
    refine HX.out.mono ?_
    rintro e w1 ⟨A, qs, rfl, h1, h2, h3, h4⟩
    go_wp2
    go_ret
    exact ⟨A, qs, rfl, h1, h2, h3, h4⟩
  clear HX
  go_enter Tryd.func55, Tryd.ntmps55
  go_wp2_with fail
  refine HG.out.mono ?_
  rintro e w1 ⟨A, qs, rfl, h1, h2, h3, h4⟩
  go_wp2
  go_ret
  exact ⟨A, qs, rfl, h1, h2, h3, h4⟩
theorem rdT_new (w : World) (ts : List ByteArray) (t : TypeId) (h : ts.length ≤ 1048576) : RdT (w.alloc (.cells (ts.map Value.string).toArray t)) (.slice (some ⟨w.heap.size, 0, none⟩) ts.length ts.length) ts := by
  refine ⟨_, _, rfl, Nat.le_refl _, by omega, by rw [tcells_length]; omega, fun _ => ⟨w.heap.size, 0, rfl, by simp, fun j u hj => ?_⟩⟩
  have hA : At (w.alloc (.cells (ts.map Value.string).toArray t)) w.heap.size t (ts.map Value.string).toArray := At.new _ _ _
  rw [Nat.zero_add, hA.cell j, List.getElem?_toArray]
  exact hj
theorem split_c (s : ByteArray) (hs : s.size ≤ 1048576) (w : World) (hT : U8w w) :
    Calls Tryd.prog 55 #[.string s, .string ⟨#[]⟩] w fun e w' => ∃ (A : Option Addr) (qs : List ByteArray), e = .returned (.slice A qs.length qs.length) ∧ RdT w' (.slice A qs.length qs.length) qs ∧ qs.length ≤ 1048576 ∧ Pcs s.data.toList qs ∧ Below w.heap.size w w' := by
  by_cases hc : ∃ c ∈ s.data.toList, ¬ c.toNat < 128
  · refine (split_any s hs w hT).mono ?_
    rintro e w1 ⟨A, qs, h0, h1, h2, h3, h4⟩
    exact ⟨A, qs, h0, h1, h2, .inr ⟨hc, h3⟩, h4⟩
  · refine (Tryd.strings_Split_chars s ⟨#[]⟩ w rfl (by omega) (fun j b hj => ?_)).mono ?_
    · refine Classical.byContradiction fun hn => hc ⟨b, List.mem_of_getElem? hj, hn⟩
    · rintro e w1 ⟨rfl, rfl⟩
      have hl : (s.data.toList.map ch).length = s.size := by rw [List.length_map, size_data]
      refine ⟨some ⟨(w.iter s s.size).heap.size, 0, none⟩, s.data.toList.map ch, by rw [hl], ?_, by rw [hl]; exact hs, .inl rfl, ?_⟩
      · have := rdT_new (w.iter s s.size) (s.data.toList.map ch) 9 (by rw [hl]; exact hs)
        rw [chars_ch]
        exact this
      · exact (iter_below w s s.size).alloc (iter_below w s s.size).size _
end Go.Proofs.YthgcoocgeekdnaaDoor
namespace Go.Proofs.YthgcoocgeekdnaaDoor
open Go.RowKit Go.PM Go.PD Go.Lib
theorem areReg_c (s : ByteArray) (w : World) :
    Calls Tryd.prog 50 #[.string s] w fun e w' => e = .returned (.bool (decide (s.data.toList.Nodup ∧ ∀ c ∈ s.data.toList, c ∈ regsL))) ∧ w = w' := by
  have HPL : Hid (∀ W, Calls Tryd.prog 70 #[.string ⟨#[97, 98, 99, 100, 101, 102]⟩, .string s] W fun e w' => e = .returned (.string (rgB s.data.toList)) ∧ W = w') := fun W => namesIn_c ⟨#[97, 98, 99, 100, 101, 102]⟩ s (by decide) W
  have HD : Hid (decide (s.data.toList.Nodup ∧ ∀ c ∈ s.data.toList, c ∈ regsL) = decide ((rgB s.data.toList).size = s.size)) := by
    show _ = _
    rw [decide_eq_decide, ← rg_full, size_data]
  rw [HD.out]
  generalize rgB s.data.toList = rg at *
  by_cases h1 : rg.size = s.size
  · have t1 : ((rg.size : Int) == (s.size : Int)) = true := by simp [h1]
    rw [decide_eq_true h1]
    clear h1 HD
    go_enter Tryd.func50, Tryd.ntmps50
    go_wp2_with (go_at_call 70; refine (HPL.out _).mono ?_; rintro e w' ⟨rfl, rfl⟩)
    go_ret
    exact ⟨rfl, rfl⟩
  · have t1 : ((rg.size : Int) == (s.size : Int)) = false := by simp; omega
    rw [decide_eq_false h1]
    clear h1 HD
    go_enter Tryd.func50, Tryd.ntmps50
    go_wp2_with (go_at_call 70; refine (HPL.out _).mono ?_; rintro e w' ⟨rfl, rfl⟩)
    go_ret
    exact ⟨rfl, rfl⟩
end Go.Proofs.YthgcoocgeekdnaaDoor
namespace Go.PM
open Go.RowKit
/-- the table with the sources of the first k places in it -/
def mix (f : Nat → ByteArray) (k : Nat) : Nat → ByteArray := fun q => if q < k then srcT f q else f q
theorem mix_zero (f : Nat → ByteArray) : mix f 0 = f := by funext q; simp [mix]
theorem mix_at (f : Nat → ByteArray) (k : Nat) : srcT (mix f k) k = srcT f k := by simp [srcT, mix]
theorem mix_set (f : Nat → ByteArray) (k : Nat) (hk : k < 9) : (tabA (mix f k)).setIfInBounds k (.string (srcT f k)) = tabA (mix f (k + 1)) := by
  have h := tabC_set (mix f k) k hk (srcT f k)
  have e : (fun q => if q = k then srcT f k else mix f k q) = mix f (k + 1) := by
    funext q
    by_cases hq : q = k
    · subst hq; simp [mix]
    · by_cases h2 : q < k
      · simp [mix, hq, h2, Nat.lt_succ_of_lt h2]
      · have : ¬ q < k + 1 := by omega
        simp [mix, hq, h2, this]
  rw [e] at h
  exact h
end Go.PM
namespace Go.Proofs.YthgcoocgeekdnaaDoor
open Go.RowKit Go.PM
attribute [local go_sem] Oper.semAt_some

end Go.Proofs.YthgcoocgeekdnaaDoor
namespace Go.PM
open Go.RowKit
/-- a table of which the first k places have turned -/
def mixG (h f : Nat → ByteArray) (k : Nat) : Nat → ByteArray := fun q => if q < k then h q else f q
theorem mixG_zero (h f : Nat → ByteArray) : mixG h f 0 = f := by funext q; simp [mixG]
theorem mixG_at (h f : Nat → ByteArray) (k : Nat) : mixG h f k k = f k := by simp [mixG]
theorem mixG_src (h f : Nat → ByteArray) (k : Nat) : srcT (mixG h f k) k = srcT f k := by simp [srcT, mixG]
theorem mixG_set (h f : Nat → ByteArray) (k : Nat) (hk : k < 9) : (tabA (mixG h f k)).setIfInBounds k (.string (h k)) = tabA (mixG h f (k + 1)) := by
  have h1 := tabC_set (mixG h f k) k hk (h k)
  have e : (fun q => if q = k then h k else mixG h f k q) = mixG h f (k + 1) := by
    funext q
    by_cases hq : q = k
    · subst hq; simp [mixG]
    · by_cases h2 : q < k
      · simp [mixG, hq, h2, Nat.lt_succ_of_lt h2]
      · have : ¬ q < k + 1 := by omega
        simp [mixG, hq, h2, this]
  rw [e] at h1
  exact h1
theorem mixG_same (h f : Nat → ByteArray) (k : Nat) (e : h k = f k) : mixG h f (k + 1) = mixG h f k := by
  funext q
  by_cases hq : q = k
  · subst hq; simp [mixG, e]
  · by_cases h2 : q < k
    · simp [mixG, h2, Nat.lt_succ_of_lt h2]
    · have : ¬ q < k + 1 := by omega
      simp [mixG, h2, this]
theorem tabC_all (f : Nat → ByteArray) : (tabC f).all (·.oneCell') = true := by simp [tabC, Value.oneCell']
theorem tabX_mixG (h f : Nat → ByteArray) : tabX (mixG h f 9) = tabX h := rfl
end Go.PM
namespace Go.Proofs.YthgcoocgeekdnaaDoor
open Go.RowKit Go.PM Go.Lib
attribute [local go_sem] Oper.semAt_some

end Go.Proofs.YthgcoocgeekdnaaDoor
namespace Go.Proofs.YthgcoocgeekdnaaDoor
open Go.RowKit Go.PM Go.Lib
attribute [local go_sem] Oper.semAt_some

end Go.Proofs.YthgcoocgeekdnaaDoor
namespace Go.PM
open Go.RowKit
theorem SVal_then {f g : Nat → ByteArray} (h1 : SVal (srcT f)) (h2 : SVal (srcT g)) : SVal (srcT (thenF f g)) := by
  intro p hp
  rw [srcT_then]
  exact SVal_cmp h1 h2 p hp
theorem SVal_tab {xs : List Mv} (h : MV xs) : SVal (srcT (tabOf xs)) := by
  intro p hp
  rw [srcT_M h hp]
  exact SVal_M h p hp
theorem SVal_zero : SVal (srcT fun _ => emp) := fun _ h => isS_nm h
/-- what the loop of power holds: what is done, what is left -/
structure PwR (f : Nat → ByteArray) (N : Nat) (d x : Nat → ByteArray) (k : Nat) : Prop where
  inv : PwInv f N d x k
  dv : SVal (srcT d)
  xv : SVal (srcT x)
theorem PwR.start {f : Nat → ByteArray} (h : SVal (srcT f)) (N : Nat) : PwR f N (fun _ => emp) f N := ⟨PwInv_start f N, SVal_zero, h⟩
theorem PwR.odd {f d x : Nat → ByteArray} {N n : Nat} (h : PwR f N d x n) (h1 : n % 2 = 1) : PwR f N (thenF d x) (thenF x x) (n / 2) := ⟨PwInv_odd h.inv h1, SVal_then h.dv h.xv, SVal_then h.xv h.xv⟩
theorem PwR.even {f d x : Nat → ByteArray} {N n : Nat} (h : PwR f N d x n) (h1 : n % 2 = 0) : PwR f N d (thenF x x) (n / 2) := ⟨PwInv_even h.inv h1, h.dv, SVal_then h.xv h.xv⟩
theorem PwR.done {f d x : Nat → ByteArray} {N : Nat} (h : PwR f N d x 0) : ∀ p, p < 9 → srcT d p = pwF (srcT f) N p := fun _ hp => PwInv_end h.inv hp
end Go.PM
namespace Go.Proofs.YthgcoocgeekdnaaDoor
open Go.RowKit Go.PM

end Go.Proofs.YthgcoocgeekdnaaDoor
