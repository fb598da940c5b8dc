import Derived.Test.YtnhncbhhlbcieaaGreatRangeR
namespace Go.PM
open Go.RowKit
variable {F : Fence} {n : Nat} {P : Program}
/-- the same contract, of a function that also writes to blocks that it has made since it was called -/
def IterQ {α : Type} (Pr : World → Prop) (F : Fence) (n : Nat) (P : Program) (gf : Nat) (mk : Value → Array Value) (encs : α → Array Value) (xs : List α) : Prop :=
  ∀ (l : Nat) (J : Option Nat → List α → World → Prop) (r0 : Option Nat) (W : World),
    (∀ r, OwnFrom W.heap.size (J r)) → (∀ r pre A, J r pre A → Pr A ∧ ∀ g, r = some g → g < A.heap.size) →
    (∀ r pre A A' b, J r pre A → W.heap.size ≤ b → some b ≠ r → A.grownBy A' (some b) → J r pre A') →
    (∀ r pre x A, J r pre A → W.heap.size ≤ A.heap.size → pre ++ [x] <+: xs → YieldAt F (n - 1) P l (encs x) A fun e A' =>
      e = .returned (.bool true) ∧ ∃ r', J r' (pre ++ [x]) A' ∧ RowStep W.heap.size r r' A A') →
    J r0 [] W →
    CallsIn F n P gf (mk (.func (.yield l) #[] #[])) W fun e W' => (∃ v, e = .returned v) ∧ ∃ r, J r xs W'
theorem range_lawQ {α : Type} {Pr : World → Prop} {g : Operand} {ps : Array Tmp} {assign body : Code} {Q : Exit → Act → World → Prop} {a : Act} {w : World} (hro : F.round = none) (h1 : 1 ≤ n)
    {gf : Nat} {lf lb : Array Value} (hg : a.eval g = .func (.func gf) lf lb) (hFg : F.fn gf) (eg : ∀ args w, (callFunc gf args).run P w = .ok (.enter gf args) w)
    {encs : α → Array Value} {xs : List α} (hit : IterQ Pr F (n - 1) P gf (fun y => lf ++ #[y] ++ lb) encs xs) (hps : ∀ x, (encs x).size = ps.size)
    (I : Option Nat → List α → World → Prop) (r0 : Option Nat) (hPr : ∀ r pre A, I r pre A → Pr A ∧ ∀ g, r = some g → ∃ o : Obj, A.heap[g]? = some o ∧ o.isCells = true)
    (hIW : ∀ r pre A A' b, I r pre A → w.heap.size + 2 ≤ b → some b ≠ r → A.grownBy A' (some b) → I r pre A') (hI : ∀ r, OwnFrom w.heap.size (I r)) (h0 : I r0 [] w) (Ax : α → Act → World → Prop) (hAx : ∀ x a', OwnFrom w.heap.size (fun (_ : Unit) W => Ax x a' W))
    (hassign : ∀ (l : Nat) (r : Option Nat) (pre : List α) (x : α) (W : World) (K : Act → World → Prop), I r pre W → pre ++ [x] <+: xs → w.heap.size + 2 ≤ W.heap.size → (∀ a' W', Below W.heap.size W W' → I r pre W' → Ax x a' W' → K a' W') →
      assign.wpIn (F.inRound l) (n - 1 - 1) P (Exit.then K (fun _ _ _ => False)) { tmps := (ps.zip (encs x)).foldl (fun t (p, v) => t.setIfInBounds p v) a.tmps, defers := [] } W)
    (hbody : ∀ (l : Nat) (r : Option Nat) (pre : List α) (x : α) (a' : Act) (W : World), I r pre W → Ax x a' W → pre ++ [x] <+: xs → w.heap.size + 2 ≤ W.heap.size → body.wpIn (F.inRound l) (n - 1 - 1) P (postR w.heap.size I (pre ++ [x]) r W) a' W)
    (hdone : ∀ (D : Nat) (r : Option Nat) (W : World), w.heap.size ≤ D → I r xs W → W.heap[D]? = some (.deferred (some [])) → Q .normal { a with defers := { target := .collected D, args := #[] } :: a.defers } W) :
    (Code.rangeFunc g ps assign body).wpIn F n P Q a w := by
  refine wpIn_rangeFunc fun fn hfn => ?_
  rw [hro]
  have key : ∃ rc : LoopState → Option Code → Loop, rc = fun s j => { state := s, pending := j, fn, tmps := a.tmps, params := ps, assign, body, defers := w.heap.size } := ⟨_, rfl⟩
  obtain ⟨rc, hrc⟩ := key
  let V := (w.alloc (.deferred (some []))).alloc (.loop (rc .ready none))
  let Bk : LoopState → Option Code → World → Prop := fun s j A => A.heap[w.heap.size + 1]? = some (.loop (rc s j)) ∧ A.heap[w.heap.size]? = some (.deferred (some []))
  have bkput : ∀ {s j s' j' A}, Bk s j A → Bk s' j' (A.putObj (w.heap.size + 1) (.loop (rc s' j'))) := fun h =>
    ⟨World.putObj_heap_same (Array.getElem?_eq_some_iff.1 h.1).1, (World.putObj_heap_other (by omega)).trans h.2⟩
  have hVs : V.heap.size = w.heap.size + 2 := by simp [V, World.size_alloc]
  have bknew : ∀ {s j A A' row}, Bk s j A → A.grownBy A' row → (∀ r, row = some r → V.heap.size ≤ r ∧ ∃ o : Obj, A.heap[r]? = some o ∧ o.isCells = false) → Bk s j A' := fun h hg' hr =>
    ⟨(hg'.block _ (Array.getElem?_eq_some_iff.1 h.1).1 (fun e => by have := (hr _ e.symm).1; omega)).trans h.1, (hg'.block _ (Array.getElem?_eq_some_iff.1 h.2).1 (fun e => by have := (hr _ e.symm).1; omega)).trans h.2⟩
  have hV : Bk .ready none V := by
    refine ⟨?_, ?_⟩
    · have := World.alloc_heap_new (w.alloc (.deferred (some []))) (.loop (rc .ready none)); rwa [World.size_alloc] at this
    · exact (Below.heap_alloc _ _ _ (by simp)).trans (World.alloc_heap_new w _)
  have hIV : I r0 [] V := (hI r0).alloc _ ((hI r0).alloc _ h0)
  refine ⟨w.heap.size + 1, [{ target := .collected w.heap.size, args := #[] }], V, { target := .fn (.func gf) lb, args := lf ++ #[.func (.yield (w.heap.size + 1)) #[] #[]] }, V, gf,
    lf ++ #[.func (.yield (w.heap.size + 1)) #[] #[]] ++ lb, V, ?_, ?_, ?_, ?_, fun _ => h1, ?_⟩
  · have := run_enterLoop_outer (P := P) (w := w) fn a.tmps ps assign body
    rw [this]; simp only [V, hrc]
  · simp only [resolve, hg]
    simp [go_sem]
  · intro f' hf'
    simp [Target.leads] at hf'
    subst hf'; exact hFg
  · simp [invoke, go_sem, eg]
  refine (hit (w.heap.size + 1) (fun r pre A => I r pre A ∧ Bk .ready none A) r0 V
    (fun r pre A A' row h hg' hr => ⟨hI r pre A A' row h.1 hg' (fun q e => ⟨by have := (hr q e).1; omega, (hr q e).2⟩), bknew h.2 hg' hr⟩)
    (fun r pre A h => ⟨(hPr r pre A h.1).1, fun g e => by obtain ⟨o, ho, _⟩ := (hPr r pre A h.1).2 g e; exact (Array.getElem?_eq_some_iff.1 ho).1⟩)
    (fun r pre A A' b h hb hne hg' => ⟨hIW r pre A A' b h.1 (by omega) hne hg', (hg'.block _ (Array.getElem?_eq_some_iff.1 h.2.1).1 (fun e => by cases e; omega)).trans h.2.1, (hg'.block _ (Array.getElem?_eq_some_iff.1 h.2.2).1 (fun e => by cases e; omega)).trans h.2.2⟩) ?_ ⟨hIV, hV⟩).mono ?_
  · rintro r pre x A ⟨hi, hb⟩ hsz hpx
    have hy := run_yield (P := P) (args := encs x) hb.1 (by rw [hrc]; exact hps x)
    rw [hrc] at hy
    refine ⟨fn, _, assign, body, hy, roundIn_of_wpIn hfn (hassign _ r pre x A _ hi hpx (by omega) ?_)⟩
    intro a' Wa hbl hia hax
    have hlt := (Array.getElem?_eq_some_iff.1 hb.1).1
    replace hb : Bk .ready none Wa := ⟨(hbl.block _ hlt).trans hb.1, (hbl.block _ (by omega)).trans hb.2⟩
    clear hy hi
    refine ⟨_, run_beginRound hb.1 (by rw [hrc]), ?_⟩
    have hszA : A.heap.size ≤ Wa.heap.size := hbl.size
    have hb2 : Bk .busy none (Wa.putObj (w.heap.size + 1) (.loop (rc .busy none))) := bkput hb
    have e2 : ({ rc .ready none with state := .busy } : Loop) = rc .busy none := by rw [hrc]
    rw [e2]
    have hib := (hI r).putObj (.loop (rc .busy none)) hia (by omega) hb.1 rfl
    have hrr := (hPr r pre _ hib).2
    refine wpIn_mono (hbody _ r pre x a' _ hib ((hAx x a').putObj (s := ()) _ hax (by omega) hb.1 rfl) hpx (by simp [World.putObj]; omega)) ?_
    rintro e a3 C hp
    cases e with
    | normal =>
      obtain ⟨r', hi3, hst⟩ := hp
      have hne : ∀ k, w.heap.size ≤ k → k < w.heap.size + 2 → some k ≠ r := fun k hk1 hk2 e => by
        obtain ⟨o, ho, hoc⟩ := hrr k e.symm
        have : k = w.heap.size ∨ k = w.heap.size + 1 := by omega
        rcases this with rfl | rfl
        · rw [hb2.2] at ho; cases ho; cases hoc
        · rw [hb2.1] at ho; cases ho; cases hoc
      have s0 : (Wa.putObj (w.heap.size + 1) (.loop (rc .busy none))).heap.size = Wa.heap.size := by simp [World.putObj]
      have hb3 : Bk .busy none C := ⟨(hst.same _ (by omega) (by omega) (hne _ (by omega) (by omega))).trans hb2.1, (hst.same _ (by omega) (by omega) (hne _ (by omega) (by omega))).trans hb2.2⟩
      have h3 : (Instr.endRound (w.heap.size + 1) none).run P C = .ok (.bool true) (C.putObj (w.heap.size + 1) (.loop (rc .ready none))) := by
        rw [run_endRound (P := P) none hb3.1]; rw [hrc]; rfl
      refine ⟨_, _, h3, rfl, r', ⟨(hI r').putObj _ hi3 (by omega) hb3.1 rfl, bkput hb3⟩, ?_, ?_, ?_⟩
      · have := hst.size; simp [World.putObj] at this ⊢; omega
      · intro k hk1 hk2 hk3
        rw [World.putObj_heap_other (by omega), hst.same k (by omega) (by omega) hk3, World.putObj_heap_other (by omega)]
        exact hbl.block k hk2
      · rcases hst.row with h | h
        · exact .inl h
        · exact .inr fun g e => by have := h g e; omega
    | ret => exact hp.elim
    | exit id => exact hp.elim
    | goto t => exact hp.elim
    | panic ch => exact hp.elim
    | outgrown => exact hp.elim
  · rintro e C ⟨⟨v, rfl⟩, r, hi, hb⟩
    have h3 := run_endLoop (P := P) hb.1 (by rw [hrc]; simp)
    exact ⟨none, _, by rw [h3, hrc], hdone _ r _ (Nat.le_refl _) ((hI r).putObj _ hi (by omega) hb.1 rfl) ((World.putObj_heap_other (by omega)).trans hb.2)⟩
end Go.PM
