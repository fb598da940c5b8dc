import Derived.Test.YtplapaojgcloaaaDoorWaJA
import Derived.Test.YtplapaojgcloaaaDoorHar
import Derived.Test.YtplapaojgcloaaaDoorP2
import Derived.Test.YtplapaojgcloaaaDoorApp
import Derived.Test.YtplapaojgcloaaaDoorLate
import Derived.Test.YtplapaojgcloaaaDoorIm3
import Derived.Test.YtplapaojgcloaaaDoorWaJC
import Derived.Test.YtplapaojgcloaaaDoorTail
import Derived.Test.YtplapaojgcloaaaDoorDraw3
import Derived.Test.YtplapaojgcloaaaDoorTurn
namespace Go.PM
open Go.RowKit
variable {F : Fence} {n : Nat} {P : Program}
/-- the same contract, whose loop's row lies in memory -/
def IterN {α : Type} (Pr : World → Prop) (F : Fence) (n : Nat) (P : Program) (gf : Nat) (mk : Value → Array Value) (encs : α → Array Value) (xs : List α) : Prop :=
  ∀ (l : Nat) (J : Option Nat → List α → World → Prop) (r0 : Option Nat) (W : World),
    (∀ r, OwnFrom W.heap.size (J r)) → (∀ r pre A, J r pre A → Pr A ∧ ∀ g, r = some g → ∃ o : Obj, A.heap[g]? = some o ∧ o.isCells = true) →
    (∀ r pre A A' b, J r pre A → W.heap.size ≤ b → some b ≠ r → A.grownBy A' (some b) → J r pre A') →
    (∀ r pre x A, J r pre A → W.heap.size ≤ A.heap.size → pre ++ [x] <+: xs → YieldAt F (n - 1) P l (encs x) A fun e A' =>
      e = .returned (.bool true) ∧ ∃ r', J r' (pre ++ [x]) A' ∧ RowStep W.heap.size r r' A A') →
    J r0 [] W →
    CallsIn F n P gf (mk (.func (.yield l) #[] #[])) W fun e W' => (∃ v, e = .returned v) ∧ ∃ r, J r xs W'
theorem range_lawN {α : Type} {Pr : World → Prop} {g : Operand} {ps : Array Tmp} {assign body : Code} {Q : Exit → Act → World → Prop} {a : Act} {w : World} (hro : F.round = none) (h1 : 1 ≤ n)
    {gf : Nat} {lf lb : Array Value} (hg : a.eval g = .func (.func gf) lf lb) (hFg : F.fn gf) (eg : ∀ args w, (callFunc gf args).run P w = .ok (.enter gf args) w)
    {encs : α → Array Value} {xs : List α} (hit : IterN Pr F (n - 1) P gf (fun y => lf ++ #[y] ++ lb) encs xs) (hps : ∀ x, (encs x).size = ps.size)
    (I : Option Nat → List α → World → Prop) (r0 : Option Nat) (hPr : ∀ r pre A, I r pre A → Pr A ∧ ∀ g, r = some g → ∃ o : Obj, A.heap[g]? = some o ∧ o.isCells = true)
    (hIW : ∀ r pre A A' b, I r pre A → w.heap.size + 2 ≤ b → some b ≠ r → A.grownBy A' (some b) → I r pre A') (hI : ∀ r, OwnFrom w.heap.size (I r)) (h0 : I r0 [] w) (Ax : α → Act → World → Prop) (hAx : ∀ x a', OwnFrom w.heap.size (fun (_ : Unit) W => Ax x a' W))
    (hassign : ∀ (l : Nat) (r : Option Nat) (pre : List α) (x : α) (W : World) (K : Act → World → Prop), I r pre W → pre ++ [x] <+: xs → w.heap.size + 2 ≤ W.heap.size → (∀ a' W', Below W.heap.size W W' → I r pre W' → Ax x a' W' → K a' W') →
      assign.wpIn (F.inRound l) (n - 1 - 1) P (Exit.then K (fun _ _ _ => False)) { tmps := (ps.zip (encs x)).foldl (fun t (p, v) => t.setIfInBounds p v) a.tmps, defers := [] } W)
    (hbody : ∀ (l : Nat) (r : Option Nat) (pre : List α) (x : α) (a' : Act) (W : World), I r pre W → Ax x a' W → pre ++ [x] <+: xs → w.heap.size + 2 ≤ W.heap.size → body.wpIn (F.inRound l) (n - 1 - 1) P (postR w.heap.size I (pre ++ [x]) r W) a' W)
    (hdone : ∀ (D : Nat) (r : Option Nat) (W : World), w.heap.size ≤ D → I r xs W → W.heap[D]? = some (.deferred (some [])) → Q .normal { a with defers := { target := .collected D, args := #[] } :: a.defers } W) :
    (Code.rangeFunc g ps assign body).wpIn F n P Q a w := by
  refine wpIn_rangeFunc fun fn hfn => ?_
  rw [hro]
  have key : ∃ rc : LoopState → Option Code → Loop, rc = fun s j => { state := s, pending := j, fn, tmps := a.tmps, params := ps, assign, body, defers := w.heap.size } := ⟨_, rfl⟩
  obtain ⟨rc, hrc⟩ := key
  let V := (w.alloc (.deferred (some []))).alloc (.loop (rc .ready none))
  let Bk : LoopState → Option Code → World → Prop := fun s j A => A.heap[w.heap.size + 1]? = some (.loop (rc s j)) ∧ A.heap[w.heap.size]? = some (.deferred (some []))
  have bkput : ∀ {s j s' j' A}, Bk s j A → Bk s' j' (A.putObj (w.heap.size + 1) (.loop (rc s' j'))) := fun h =>
    ⟨World.putObj_heap_same (Array.getElem?_eq_some_iff.1 h.1).1, (World.putObj_heap_other (by omega)).trans h.2⟩
  have hVs : V.heap.size = w.heap.size + 2 := by simp [V, World.size_alloc]
  have bknew : ∀ {s j A A' row}, Bk s j A → A.grownBy A' row → (∀ r, row = some r → V.heap.size ≤ r ∧ ∃ o : Obj, A.heap[r]? = some o ∧ o.isCells = false) → Bk s j A' := fun h hg' hr =>
    ⟨(hg'.block _ (Array.getElem?_eq_some_iff.1 h.1).1 (fun e => by have := (hr _ e.symm).1; omega)).trans h.1, (hg'.block _ (Array.getElem?_eq_some_iff.1 h.2).1 (fun e => by have := (hr _ e.symm).1; omega)).trans h.2⟩
  have hV : Bk .ready none V := by
    refine ⟨?_, ?_⟩
    · have := World.alloc_heap_new (w.alloc (.deferred (some []))) (.loop (rc .ready none)); rwa [World.size_alloc] at this
    · exact (Below.heap_alloc _ _ _ (by simp)).trans (World.alloc_heap_new w _)
  have hIV : I r0 [] V := (hI r0).alloc _ ((hI r0).alloc _ h0)
  refine ⟨w.heap.size + 1, [{ target := .collected w.heap.size, args := #[] }], V, { target := .fn (.func gf) lb, args := lf ++ #[.func (.yield (w.heap.size + 1)) #[] #[]] }, V, gf,
    lf ++ #[.func (.yield (w.heap.size + 1)) #[] #[]] ++ lb, V, ?_, ?_, ?_, ?_, fun _ => h1, ?_⟩
  · have := run_enterLoop_outer (P := P) (w := w) fn a.tmps ps assign body
    rw [this]; simp only [V, hrc]
  · simp only [resolve, hg]
    simp [go_sem]
  · intro f' hf'
    simp [Target.leads] at hf'
    subst hf'; exact hFg
  · simp [invoke, go_sem, eg]
  refine (hit (w.heap.size + 1) (fun r pre A => I r pre A ∧ Bk .ready none A) r0 V
    (fun r pre A A' row h hg' hr => ⟨hI r pre A A' row h.1 hg' (fun q e => ⟨by have := (hr q e).1; omega, (hr q e).2⟩), bknew h.2 hg' hr⟩)
    (fun r pre A h => hPr r pre A h.1)
    (fun r pre A A' b h hb hne hg' => ⟨hIW r pre A A' b h.1 (by omega) hne hg', (hg'.block _ (Array.getElem?_eq_some_iff.1 h.2.1).1 (fun e => by cases e; omega)).trans h.2.1, (hg'.block _ (Array.getElem?_eq_some_iff.1 h.2.2).1 (fun e => by cases e; omega)).trans h.2.2⟩) ?_ ⟨hIV, hV⟩).mono ?_
  · rintro r pre x A ⟨hi, hb⟩ hsz hpx
    have hy := run_yield (P := P) (args := encs x) hb.1 (by rw [hrc]; exact hps x)
    rw [hrc] at hy
    refine ⟨fn, _, assign, body, hy, roundIn_of_wpIn hfn (hassign _ r pre x A _ hi hpx (by omega) ?_)⟩
    intro a' Wa hbl hia hax
    have hlt := (Array.getElem?_eq_some_iff.1 hb.1).1
    replace hb : Bk .ready none Wa := ⟨(hbl.block _ hlt).trans hb.1, (hbl.block _ (by omega)).trans hb.2⟩
    clear hy hi
    refine ⟨_, run_beginRound hb.1 (by rw [hrc]), ?_⟩
    have hszA : A.heap.size ≤ Wa.heap.size := hbl.size
    have hb2 : Bk .busy none (Wa.putObj (w.heap.size + 1) (.loop (rc .busy none))) := bkput hb
    have e2 : ({ rc .ready none with state := .busy } : Loop) = rc .busy none := by rw [hrc]
    rw [e2]
    have hib := (hI r).putObj (.loop (rc .busy none)) hia (by omega) hb.1 rfl
    have hrr := (hPr r pre _ hib).2
    refine wpIn_mono (hbody _ r pre x a' _ hib ((hAx x a').putObj (s := ()) _ hax (by omega) hb.1 rfl) hpx (by simp [World.putObj]; omega)) ?_
    rintro e a3 C hp
    cases e with
    | normal =>
      obtain ⟨r', hi3, hst⟩ := hp
      have hne : ∀ k, w.heap.size ≤ k → k < w.heap.size + 2 → some k ≠ r := fun k hk1 hk2 e => by
        obtain ⟨o, ho, hoc⟩ := hrr k e.symm
        have : k = w.heap.size ∨ k = w.heap.size + 1 := by omega
        rcases this with rfl | rfl
        · rw [hb2.2] at ho; cases ho; cases hoc
        · rw [hb2.1] at ho; cases ho; cases hoc
      have s0 : (Wa.putObj (w.heap.size + 1) (.loop (rc .busy none))).heap.size = Wa.heap.size := by simp [World.putObj]
      have hb3 : Bk .busy none C := ⟨(hst.same _ (by omega) (by omega) (hne _ (by omega) (by omega))).trans hb2.1, (hst.same _ (by omega) (by omega) (hne _ (by omega) (by omega))).trans hb2.2⟩
      have h3 : (Instr.endRound (w.heap.size + 1) none).run P C = .ok (.bool true) (C.putObj (w.heap.size + 1) (.loop (rc .ready none))) := by
        rw [run_endRound (P := P) none hb3.1]; rw [hrc]; rfl
      refine ⟨_, _, h3, rfl, r', ⟨(hI r').putObj _ hi3 (by omega) hb3.1 rfl, bkput hb3⟩, ?_, ?_, ?_⟩
      · have := hst.size; simp [World.putObj] at this ⊢; omega
      · intro k hk1 hk2 hk3
        rw [World.putObj_heap_other (by omega), hst.same k (by omega) (by omega) hk3, World.putObj_heap_other (by omega)]
        exact hbl.block k hk2
      · rcases hst.row with h | h
        · exact .inl h
        · exact .inr fun g e => by have := h g e; omega
    | ret => exact hp.elim
    | exit id => exact hp.elim
    | goto t => exact hp.elim
    | panic ch => exact hp.elim
    | outgrown => exact hp.elim
  · rintro e C ⟨⟨v, rfl⟩, r, hi, hb⟩
    have h3 := run_endLoop (P := P) hb.1 (by rw [hrc]; simp)
    exact ⟨none, _, by rw [h3, hrc], hdone _ r _ (Nat.le_refl _) ((hI r).putObj _ hi (by omega) hb.1 rfl) ((World.putObj_heap_other (by omega)).trans hb.2)⟩
end Go.PM
namespace Go.PM
open Go.RowKit
def mdig : Nat → Nat → List UInt8
  | 0, _ => []
  | f + 1, n => if n = 0 then [] else mdig f (n / 10) ++ [UInt8.ofNat (48 + n % 10)]
def mT (k : Nat) : ByteArray := if k = 0 then ⟨#[109, 48]⟩ else ⟨(109 :: mdig k k).toArray⟩
theorem mdig_zero (f : Nat) : mdig f 0 = [] := by cases f <;> simp [mdig]
theorem mdig_step (f n : Nat) (h : n ≤ f) (h0 : 0 < n) : ∃ f', f = f' + 1 ∧ n / 10 ≤ f' ∧ mdig f n = mdig f' (n / 10) ++ [UInt8.ofNat (48 + n % 10)] := by
  cases f with
  | zero => omega
  | succ f => exact ⟨f, rfl, by omega, by simp [mdig]; omega⟩
end Go.PM
namespace Go.Proofs.YtplapaojgcloaaaDoor
open Go.RowKit Go.PM

theorem conv_one (W : World) (c : Int) : (convert 22 9 (.slice (some ⟨W.heap.size, 0, none⟩) 1 1)).run Tryd.prog (W.alloc (.cells #[.int .u8 c] 5)) =
    .ok (.string ⟨#[UInt8.ofNat c.toNat]⟩) (W.alloc (.cells #[.int .u8 c] 5)) := by
  rw [run_convert_bytes_string _ _ _ _ _ _ _ Tryd.underlying22 Tryd.underlying5 Tryd.underlying9]
  have hl : (loadCells ⟨W.heap.size, 0, none⟩ 1).run Tryd.prog (W.alloc (.cells #[.int .u8 c] 5)) = .ok ([c].map (Value.int .u8)).toArray (W.alloc (.cells #[.int .u8 c] 5)) :=
    run_loadCells_list (P := Tryd.prog) (W.alloc (.cells #[.int .u8 c] 5)) ⟨W.heap.size, 0, none⟩ [Value.int .u8 c] (fun j v hj => by
      cases j with
      | zero =>
        simp [Addr.add] at hj ⊢
        exact hj
      | succ j => simp at hj)
  rw [run_bytesToString (ns := [c]) _ _ _ _ hl]
  rfl

set_option maxRecDepth 100000 in
set_option maxHeartbeats 800000 in
theorem markText_c (k : Nat) (w : World) (h1 : 1 ≤ k) (h2 : k ≤ 8388608) :
    Calls Tryd.prog 82 #[.int .i64 k] w fun e w' => e = .returned (.string (mT k)) ∧ Below w.heap.size w w' := by
  have hp : ¬ (k : Int) ≤ 0 := by omega
  go_enter Tryd.func82, Tryd.ntmps82
  go_wp2
  go_loopw [0, 3] (fun i o wr => ∃ (n f : Nat) (t : ByteArray), i = .int .i64 n ∧ o = .string t ∧ t.size + n ≤ k ∧ n ≤ f ∧ Hid (mdig k k = mdig f n ++ t.data.toList) ∧ Below w.heap.size w wr) (fun i _ _ => (intOf i).toNat)
  case atStart => exact ⟨k, k, ⟨#[]⟩, rfl, rfl, Nat.le_of_eq (Nat.zero_add _), by omega, (List.append_nil _).symm, Below.refl _ _⟩
  case round =>
    obtain ⟨n, f, t, rfl, rfl, hs, hf, hd, hb⟩ := hrel
    have hbs := hb.size
    by_cases h0 : 0 < n
    · obtain ⟨f', hff, hf', hstep⟩ := mdig_step f n hf h0
      have hcv := conv_one wr (48 + (n : Int) % 10)
      have hcn : UInt8.ofNat (48 + (n : Int) % 10).toNat = UInt8.ofNat (48 + n % 10) := by
        rw [show (48 + (n : Int) % 10).toNat = 48 + n % 10 by omega]
      rw [hcn] at hcv
      have HST := Lib.hid hstep
      have HFF := Lib.hid hff
      generalize UInt8.ofNat (48 + n % 10) = c at *
      have hc1 : (⟨#[c]⟩ : ByteArray).size ≤ 1 := Nat.le_refl _
      clear hstep hff hcn
      go_wp2
      go_roundw
      case rel =>
        refine ⟨n / 10, f', _, by go_num, rfl, ?_, hf', ?_, by (repeat' (first | (with_reducible exact Below.refl _ _) | (with_reducible assumption) | (with_reducible refine Below.alloc ?_ ?_ _) | (with_reducible refine Below.drew ?_) | (with_reducible refine Below.setCell ?_ ?_ _) | (with_reducible exact Nat.le_refl _) | omega | ((repeat (first | rewrite [World.size_alloc] | rewrite [World.size_setCell] | rewrite [World.size_drew])); omega) | (simp; omega) | (simp; done)))⟩
        · simp only [ByteArray.size_append]; omega
        · show _ = _
          rw [hd.out, HST.out]; simp
      case measure => simp [intOf]; omega
    · have hn0 : n = 0 := by omega
      have h3 := hd.out
      rw [hn0, mdig_zero, List.nil_append] at h3
      have HT : Hid ((⟨#[109]⟩ : ByteArray) ++ t = mT k) := by
        show _ = _
        unfold mT
        rw [if_neg (by omega), h3]
        exact Go.WideShapes.bytes_inj (by simp)
      clear h3 hn0
      go_wp2
      go_ret
      exact ⟨by rw [← HT.out]; rfl, hb⟩
theorem markText_i (k : Int) (w : World) (h1 : 1 ≤ k) (h2 : k ≤ 8388608) :
    Calls Tryd.prog 82 #[.int .i64 k] w fun e w' => e = .returned (.string (mT k.toNat)) ∧ Below w.heap.size w w' := by
  obtain ⟨n, rfl⟩ := Int.eq_ofNat_of_zero_le (show 0 ≤ k by omega)
  exact markText_c n w (by omega) (by omega)
/-- the cells behind n marked moves, the first mark being number k -/
def marks : Nat → Nat → List Mv
  | 0, _ => []
  | n + 1, k => (mT k, mT (k + 1)) :: marks n (k + 2)
theorem marks_length (n k : Nat) : (marks n k).length = n := by
  induction n generalizing k with
  | zero => rfl
  | succ n ih => simp [marks, ih]
theorem marks_at (n k i : Nat) (h : i < (marks n k).length) : (marks n k)[i] = (mT (k + 2 * i), mT (k + 2 * i + 1)) := by
  induction n generalizing k i with
  | zero => simp [marks] at h
  | succ n ih =>
    cases i with
    | zero => rfl
    | succ i =>
      simp only [marks, List.getElem_cons_succ]
      rw [ih]
      congr 2 <;> omega
/-- the first i of the moves are marked -/
def mmix (xs : List Mv) (i k : Nat) : List Mv := marks i k ++ xs.drop i
theorem marks_snoc (i k : Nat) : marks (i + 1) k = marks i k ++ [(mT (k + 2 * i), mT (k + 2 * i + 1))] := by
  induction i generalizing k with
  | zero => rfl
  | succ i ih =>
    rw [marks, ih (k + 2)]
    simp only [marks, List.cons_append]
    rw [show k + 2 + 2 * i = k + 2 * (i + 1) by omega]
theorem mmix_length (xs : List Mv) (i k : Nat) (h : i ≤ xs.length) : (mmix xs i k).length = xs.length := by
  simp [mmix, marks_length]; omega
theorem mmix_set (xs : List Mv) (i k : Nat) (h : i < xs.length) : ((mcells (mmix xs i k)).set (i * 2) (.string (mT (k + 2 * i)))).set (i * 2 + 1) (.string (mT (k + 2 * i + 1))) = mcells (mmix xs (i + 1) k) := by
  have hl : (mcells (marks i k)).length = i * 2 := by rw [mcells_length, marks_length]
  unfold mmix
  rw [marks_snoc, List.drop_eq_getElem_cons h, mcells_append, mcells_append, mcells_append, mcells_cons]
  rw [List.set_append_right _ _ (by omega), List.set_append_right _ _ (by omega), hl, Nat.sub_self, show i * 2 + 1 - i * 2 = 1 by omega]
  simp [mcells]

set_option maxRecDepth 100000 in
set_option maxHeartbeats 800000 in
theorem markMoveS_c (xs : List Mv) (v : Value) (base : Nat) (k : Int) (w : World) (ho : w.ownsRow base 70 2 v xs.length (mcells xs)) (hn : xs.length ≤ 1048576) (h1 : 1 ≤ k) (hk : k ≤ 4194304) :
    Calls Tryd.prog 33 #[v, .int .i64 k] w fun e w' => e = .returned (.int .i64 (k + 2 * (xs.length : Int))) ∧ w'.ownsRow base 70 2 v xs.length (mcells (marks xs.length k.toNat)) ∧ w.grownBy w' v.ownBlock := by
  by_cases h0 : xs.length = 0
  · have hx : xs = [] := List.length_eq_zero_iff.1 h0
    subst hx
    have ho2 := ho
    obtain ⟨A, cap, rfl, _⟩ := Rd.of_own ho
    have ho3 := Lib.hid ho2
    clear ho ho2
    simp only [List.length_nil]
    go_enter Tryd.func33, Tryd.ntmps33
    go_wp2
    refine wp_loop_rounds 1 ?_
    rw [rounds_succ]
    go_wp2
    go_ret
    exact ⟨by simp, by simpa [marks] using ho3.out, grown_refl _ _⟩
  · obtain ⟨g, cap, rfl, _⟩ := ho.form (by omega)
    have hA0 : (0 : Int) < xs.length := by omega
    clear h0
    go_enter Tryd.func33, Tryd.ntmps33
    go_wp2
    go_loopw [1, 5] (fun m i wr => ∃ (j : Nat), j ≤ xs.length ∧ i = .int .i64 j ∧ m = .int .i64 (k + 2 * (j : Int)) ∧ wr.ownsRow base 70 2 (.slice (some ⟨g, 0, none⟩) xs.length cap) xs.length (mcells (mmix xs j k.toNat)) ∧ w.grownBy wr (some g)) (fun _ i _ => xs.length - (intOf i).toNat)
    case atStart => exact ⟨0, by omega, rfl, by simp, by simpa [mmix, marks] using ho, grown_refl _ _⟩
    case round =>
      obtain ⟨j, hj, rfl, rfl, hr, hg⟩ := hrel
      by_cases hlt : j < xs.length
      · have hms := mmix_set xs j k.toNat hlt
        have hml := mmix_length xs j k.toNat hj
        have HMS := Lib.hid hms
        have hcl : ∀ i, i < xs.length * 2 → ∃ u, (mcells (mmix xs j k.toNat))[i]? = some u := fun i hi => by
          have : i < (mcells (mmix xs j k.toNat)).length := by rw [mcells_length, hml]; exact hi
          exact ⟨_, List.getElem?_eq_getElem this⟩
        obtain ⟨c1, hc1⟩ := hcl (j * 2) (by omega)
        obtain ⟨c2, hc2⟩ := hcl (j * 2 + 1) (by omega)
        have HC := Lib.hid (And.intro hc1 hc2)
        have hlg := (own_lt hr).1
        clear hms hml hcl hc1 hc2
        go_wp2_with fail
        refine (markText_i _ _ (by omega) (by omega)).mono ?_
        rintro e w1 ⟨rfl, hb1⟩
        have hr1 := own_keep hr hb1
        have hf1 := hr1.frozenAt (j * 2)
        have hq1 := (hr1.cellAt (j * 2) (by omega)).trans HC.out.1
        have hg1 := grown_trans hg (grown_below hb1 (some g))
        clear hr hg
        go_wp2_with fail
        have hr2 := (hr1.stored (j * 2) (.string (mT (k + 2 * (j : Int)).toNat))).1
        have hg2 := grown_trans hg1 (hr1.stored (j * 2) (.string (mT (k + 2 * (j : Int)).toNat))).2
        clear hr1 hf1 hq1 hg1
        generalize w1.setCell ⟨g, j * 2, none⟩ (.string (mT (k + 2 * (j : Int)).toNat)) = w2 at *
        refine (markText_i _ _ (by omega) (by omega)).mono ?_
        rintro e w3 ⟨rfl, hb3⟩
        have hr3 := own_keep hr2 hb3
        have hf3 := hr3.frozenAt (j * 2 + 1)
        have hq3 : w3.cell? ⟨g, j * 2 + 1, none⟩ = some c2 := (hr3.cellAt (j * 2 + 1) (by omega)).trans (by rw [List.getElem?_set_ne (by omega)]; exact HC.out.2)
        have hg3 := grown_trans hg2 (grown_below hb3 (some g))
        clear hr2 hg2
        go_wp2
        go_roundw
        case rel =>
          refine ⟨j + 1, by omega, by go_num, by go_num, ?_, ?_⟩
          · rw [← HMS.out]
            have e1 : (k + 2 * (j : Int)).toNat = k.toNat + 2 * j := by omega
            have e2 : (k + 2 * (j : Int) + 1).toNat = k.toNat + 2 * j + 1 := by omega
            have h := (hr3.stored (j * 2 + 1) (.string (mT (k + 2 * (j : Int) + 1).toNat))).1
            rw [e1, e2] at h
            rw [e2]
            exact h
          · exact grown_trans hg3 (hr3.stored (j * 2 + 1) _).2
        case measure => simp [intOf]; omega
      · have hj' : j = xs.length := by omega
        have h3 := hr
        rw [hj'] at h3
        have e3 : mmix xs xs.length k.toNat = marks xs.length k.toNat := by simp [mmix]
        rw [e3] at h3
        have HJ : Hid ((j : Int) = xs.length) := by show _ = _; rw [hj']
        clear hj' e3
        go_wp2
        go_ret
        exact ⟨by rw [← HJ.out]; rfl, h3, hg⟩
set_option maxRecDepth 100000 in
set_option maxHeartbeats 800000 in
theorem heldMoveS_c (n : Nat) (v : Value) (k : Int) (w : World) (hx : RdM w v (marks n k.toNat)) (hn : n ≤ 1048576) (h1 : 1 ≤ k) (hk : k ≤ 4194304) :
    Calls Tryd.prog 34 #[v, .int .i64 k] w fun e w' => e = .returned (.int .i64 (k + 2 * (n : Int))) ∧ Below w.heap.size w w' := by
  obtain ⟨A, cap, hv, hnn, hc, hcell⟩ := hx.open
  rw [marks_length] at hv hnn hc
  subst hv
  go_enter Tryd.func34, Tryd.ntmps34
  go_wp2
  go_loopw [1, 5] (fun m i wr => ∃ (j : Nat), j ≤ n ∧ i = .int .i64 j ∧ m = .int .i64 (k + 2 * (j : Int)) ∧ Below w.heap.size w wr) (fun _ i _ => n - (intOf i).toNat)
  case atStart => exact ⟨0, by omega, rfl, by simp, Below.refl _ _⟩
  case round =>
    obtain ⟨j, hj, rfl, rfl, hb⟩ := hrel
    have hbs := hb.size
    by_cases hlt : j < n
    · obtain ⟨b, off, rfl, hbl, hc1, hc2⟩ := hcell j (by rw [marks_length]; exact hlt)
      rw [marks_at] at hc1 hc2
      have e1 : (k + 2 * (j : Int)).toNat = k.toNat + 2 * j := by omega
      have e2 : (k + 2 * (j : Int) + 1).toNat = k.toNat + 2 * j + 1 := by omega
      rw [← e1] at hc1
      rw [← e2] at hc2
      have hx1 : ∀ x : Ext w.heap.size wr, x.val.cell? ⟨b, off + j * 2, none⟩ = some (.string (mT (k + 2 * (j : Int)).toNat)) := fun x => ((x.property.cell (p := ⟨b, _, none⟩) hbl).trans (hb.cell (p := ⟨b, _, none⟩) hbl)).trans hc1
      clear e1 e2 hcell
      have i0 : (0 : Int) ≤ (j : Int) := by omega
      have i1 : (j : Int) < n := by omega
      go_wp2
      refine wp_region_ext w.heap.size (by kernel_rfl) (by kernel_rfl) ?_
      repeat (go_big_quiet_step ((go_at_call 82; exact ext_call _ hb.size (markText_i _ _ (by omega) (by omega)))))
      refine wpQuiet_nil ?_
      intro w2 hw'
      obtain ⟨xw, hxw⟩ := hw'
      have hb2 := xw.property
      rw [← hxw] at hb2
      clear hxw xw
      have e1 : (k + 2 * (j : Int)).toNat = k.toNat + 2 * j := by omega
      have hbw2 := hb.trans hb2
      have hd2 : w2.cell? ⟨b, off + j * 2 + 1, none⟩ = some (.string (mT (k + 2 * (j : Int) + 1).toNat)) := (hbw2.cell (p := ⟨b, _, none⟩) hbl).trans hc2
      have hx2 : ∀ x : Ext w.heap.size w2, x.val.cell? ⟨b, off + j * 2 + 1, none⟩ = some (.string (mT (k + 2 * (j : Int) + 1).toNat)) := fun x => (x.property.cell (p := ⟨b, _, none⟩) hbl).trans hd2
      clear hx1 hd2 e1 hb2 hc1 hc2
      have hbs2 := hbw2.size
      go_wp2
      refine wp_region_ext w.heap.size (by kernel_rfl) (by kernel_rfl) ?_
      repeat (go_big_quiet_step ((go_at_call 82; exact ext_call _ hbw2.size (markText_i _ _ (by omega) (by omega)))))
      refine wpQuiet_nil ?_
      intro w3 hw'
      obtain ⟨xw, hxw⟩ := hw'
      have hb3 := xw.property
      rw [← hxw] at hb3
      clear hxw xw
      clear hx2
      go_wp2
      go_roundw
      case rel => exact ⟨j + 1, by omega, by go_num, by go_num, hbw2.trans hb3⟩
      case measure => simp [intOf]; omega
    · have HJ : Hid ((j : Int) = n) := by show _ = _; omega
      go_wp2
      go_ret
      exact ⟨by rw [← HJ.out]; rfl, hb⟩
end Go.Proofs.YtplapaojgcloaaaDoor
namespace Go.PM
open Go.RowKit
def ssize : List St → Nat
  | [] => 0
  | x :: xs => x.2.1.size + x.2.2.size + 1 + ssize xs
theorem ssize_len (xs : List St) : xs.length ≤ ssize xs := by
  induction xs with
  | nil => simp [ssize]
  | cons x xs ih => simp only [ssize, List.length_cons]; omega
theorem ssize_append (xs ys : List St) : ssize (xs ++ ys) = ssize xs + ssize ys := by
  induction xs with
  | nil => simp [ssize]
  | cons x xs ih => simp only [List.cons_append, ssize, ih]; omega
theorem ssize_take_succ (xs : List St) (k : Nat) (hk : k < xs.length) : ssize (xs.take (k+1)) = ssize (xs.take k) + xs[k].2.1.size + xs[k].2.2.size + 1 := by
  rw [take_snoc xs k hk, ssize_append]; simp only [ssize]; omega
def zSt : List Value := [.int .i64 0, .string ⟨#[]⟩, .string ⟨#[]⟩]
def shalf (xs : List St) (k : Nat) : List Value := scells (xs.take k) ++ (List.replicate (xs.length - k) zSt).flatten
theorem shalf_at (xs : List St) (k : Nat) (hk : k < xs.length) : (shalf xs k)[k*3]? = some (Value.int .i64 0) ∧ (shalf xs k)[k*3+1]? = some (Value.string ⟨#[]⟩) ∧ (shalf xs k)[k*3+2]? = some (Value.string ⟨#[]⟩) := by
  have hl : (scells (xs.take k)).length = k * 3 := by rw [scells_length, List.length_take]; omega
  obtain ⟨d, hd⟩ : ∃ d, xs.length - k = d + 1 := ⟨xs.length - k - 1, by omega⟩
  unfold shalf
  rw [hd, List.replicate_succ, List.flatten_cons]
  refine ⟨?_, ?_, ?_⟩
  · rw [List.getElem?_append_right (by omega), hl]; simp [zSt]
  · rw [List.getElem?_append_right (by omega), hl, show k * 3 + 1 - k * 3 = 1 by omega]; simp [zSt]
  · rw [List.getElem?_append_right (by omega), hl, show k * 3 + 2 - k * 3 = 2 by omega]; simp [zSt]
theorem shalf_set (xs : List St) (k : Nat) (hk : k < xs.length) : (((shalf xs k).set (k*3) (.int .i64 xs[k].1)).set (k*3+1) (.string xs[k].2.1)).set (k*3+2) (.string xs[k].2.2) = shalf xs (k+1) := by
  have hl : (scells (xs.take k)).length = k * 3 := by rw [scells_length, List.length_take]; omega
  obtain ⟨d, hd⟩ : ∃ d, xs.length - k = d + 1 := ⟨xs.length - k - 1, by omega⟩
  unfold shalf
  rw [hd, List.replicate_succ, List.flatten_cons, show xs.length - (k+1) = d by omega, take_snoc xs k hk, scells_append]
  rw [List.set_append_right _ _ (by omega), List.set_append_right _ _ (by omega), List.set_append_right _ _ (by omega), hl]
  rw [show k * 3 - k * 3 = 0 by omega, show k * 3 + 1 - k * 3 = 1 by omega, show k * 3 + 2 - k * 3 = 2 by omega]
  simp [scells, zSt]
theorem shalf_zero (xs : List St) : shalf xs 0 = (List.replicate xs.length zSt).flatten := by simp [shalf, scells]
theorem shalf_full (xs : List St) : shalf xs xs.length = scells xs := by simp [shalf]
def stEq (k : Int) (a b : ByteArray) (k' : Int) (a' b' : ByteArray) : Bool := decide (k = k' ∧ a = a' ∧ b = b')
end Go.PM
namespace Go.Proofs.YtplapaojgcloaaaDoor
open Go.RowKit Go.PM

set_option maxHeartbeats 400000 in
theorem szStep_c (k : Int) (a b : ByteArray) (left : Int) (w : World) (h0 : 0 ≤ left) (h1 : left ≤ 1048576) (ha : a.size ≤ 9223372036854775807) (hb : b.size ≤ 9223372036854775807) :
    Calls Tryd.prog 89 #[.agg #[.int .i64 k, .string a, .string b], .int .i64 left] w fun e w' => (∃ r : Int, e = .returned (.int .i64 r) ∧ (0 ≤ r → r + a.size + b.size = left) ∧ r ≤ left) ∧ Below w.heap.size w w' := by
  go_enter Tryd.func89, Tryd.ntmps89
  go_wp2_with fail
  refine (szMove_c a b left _ h0 h1 ha hb).mono ?_
  rintro e w1 ⟨⟨r, rfl, hr, hq⟩, hb1⟩
  have HR := Lib.hid hr
  clear hr
  have hb2 : Below w.heap.size w w1 := ((Below.refl _ _).alloc (Nat.le_refl _) _).trans (hb1.mono (by simp))
  by_cases hn : r < 0
  · go_wp2
    go_ret
    exact ⟨⟨-1, rfl, by omega, by omega⟩, hb2⟩
  · go_wp2
    go_ret
    exact ⟨⟨r, rfl, HR.out, hq⟩, hb2⟩
set_option maxHeartbeats 400000 in
theorem szStepS_c (xs : List St) (v : Value) (left : Int) (w : World) (h0 : 0 ≤ left) (h1 : left ≤ 1048576) (hx : RdS w v xs) (hz : ∀ m ∈ xs, m.2.1.size ≤ 9223372036854775807 ∧ m.2.2.size ≤ 9223372036854775807) :
    Calls Tryd.prog 44 #[v, .int .i64 left] w fun e w' => (∃ r : Int, e = .returned (.int .i64 r) ∧ (0 ≤ r → r + ssize xs = left) ∧ r ≤ left) ∧ Below w.heap.size w w' := by
  obtain ⟨A, cap, rfl, hn, hc, hcell⟩ := hx.open
  by_cases c1 : left - (xs.length : Int) < 0
  · go_enter Tryd.func44, Tryd.ntmps44
    go_wp2
    go_ret
    exact ⟨⟨-1, rfl, by omega, by omega⟩, Below.refl _ _⟩
  go_enter Tryd.func44, Tryd.ntmps44
  go_wp2
  go_loopw [1, 5] (fun l i wr => ∃ (k : Nat) (r : Int), k ≤ xs.length ∧ i = .int .i64 k ∧ l = .int .i64 r ∧ 0 ≤ r ∧ r ≤ 1048576 ∧ r ≤ left ∧ Hid (r + ssize (xs.take k) + (xs.length - k) = left) ∧ Below w.heap.size w wr) (fun _ i _ => xs.length - (intOf i).toNat)
  case atStart => exact ⟨0, _, by omega, rfl, rfl, by omega, by omega, by omega, by show _ = _; simp [ssize], Below.refl _ _⟩
  case round =>
    obtain ⟨k, r, hk, rfl, rfl, hr0, hr1, hr2, hr3, hb⟩ := hrel
    by_cases hlt : k < xs.length
    · obtain ⟨b, off, rfl, hbl, hc1, hc2, hc3⟩ := hcell k hlt
      have hd1 := (hb.cell (p := ⟨b, off + k * 3, none⟩) hbl).trans hc1
      have hd2 := (hb.cell (p := ⟨b, off + k * 3 + 1, none⟩) hbl).trans hc2
      have hd3 := (hb.cell (p := ⟨b, off + k * 3 + 2, none⟩) hbl).trans hc3
      have hzz := hz xs[k] (List.getElem_mem hlt)
      clear hc1 hc2 hc3
      have hts := ssize_take_succ xs k hlt
      have HR : Hid (∀ r' : Int, r' + (xs[k].2.1.size : Int) + xs[k].2.2.size = r → r' + ssize (xs.take (k+1)) + (xs.length - ((k + 1 : Nat) : Int)) = left) := by
        intro r' h'; have := hr3; unfold Hid at this; rw [hts]; push_cast; omega
      clear hts hcell
      go_wp2_with fail
      refine (szStep_c _ _ _ r _ hr0 hr1 hzz.1 hzz.2).mono ?_
      rintro e w' ⟨⟨r', rfl, hr4, hr5⟩, hb'⟩
      have hr6 := Lib.hid hr4; clear hr4
      by_cases hneg : r' < 0
      · go_wp2
        go_ret
        exact ⟨⟨-1, rfl, by omega, by omega⟩, hb.trans (hb'.mono hb.size)⟩
      · go_wp2
        go_roundw
        case rel => exact ⟨k + 1, r', by omega, by go_num, rfl, by omega, by omega, by omega, HR.out _ (hr6.out (by omega)), hb.trans (hb'.mono hb.size)⟩
        case measure => simp [intOf]; omega
    · have hk' : k = xs.length := by omega
      have hr3' := hr3.out
      rw [hk', List.take_of_length_le (Nat.le_refl _)] at hr3'
      have HR : Hid (r + (ssize xs : Int) = left) := by show _ = _; omega
      clear hr3' hk'
      go_wp2
      go_ret
      exact ⟨⟨r, rfl, fun _ => HR.out, hr2⟩, hb⟩
theorem toStep_c (k : Int) (a b : ByteArray) (w : World) :
    Calls Tryd.prog 90 #[.agg #[.int .i64 k, .string a, .string b]] w fun e w' => e = .returned (.agg #[.int .i64 k, .string a, .string b]) ∧ Below w.heap.size w w' := by
  have hA1 : At (((w.alloc (.cells #[.int .i64 k, .string a, .string b] 119)).alloc (.cells #[.int .i64 0, .string ⟨#[]⟩, .string ⟨#[]⟩] 72)).alloc (.cells #[.int .i64 k, .string ⟨#[]⟩, .string ⟨#[]⟩] 72)) (w.heap.size + 1) 72 #[.int .i64 0, .string ⟨#[]⟩, .string ⟨#[]⟩] := by
    have := At.new (w.alloc (.cells #[.int .i64 k, .string a, .string b] 119)) 72 #[.int .i64 0, .string ⟨#[]⟩, .string ⟨#[]⟩]
    rw [World.size_alloc] at this; exact this.alloc _
  have hA2 : At (((w.alloc (.cells #[.int .i64 k, .string a, .string b] 119)).alloc (.cells #[.int .i64 0, .string ⟨#[]⟩, .string ⟨#[]⟩] 72)).alloc (.cells #[.int .i64 k, .string ⟨#[]⟩, .string ⟨#[]⟩] 72)) (w.heap.size + 1 + 1) 72 #[.int .i64 k, .string ⟨#[]⟩, .string ⟨#[]⟩] := by
    have := At.new ((w.alloc (.cells #[.int .i64 k, .string a, .string b] 119)).alloc (.cells #[.int .i64 0, .string ⟨#[]⟩, .string ⟨#[]⟩] 72)) 72 #[.int .i64 k, .string ⟨#[]⟩, .string ⟨#[]⟩]
    rwa [World.size_alloc, World.size_alloc] at this
  go_enter Tryd.func90, Tryd.ntmps90
  go_wp2_with fail
  refine (toMove_c a b _).mono ?_
  rintro e w1 ⟨rfl, hb1⟩
  have k1 := hA1.keep hb1
  have k2 := hA2.keep hb1
  have hB : Below w.heap.size w w1 := Below.trans (by (repeat' (first | (with_reducible exact Below.refl _ _) | (with_reducible assumption) | (with_reducible refine Below.alloc ?_ ?_ _) | (with_reducible refine Below.drew ?_) | (with_reducible refine Below.setCell ?_ ?_ _) | (with_reducible exact Nat.le_refl _) | omega | ((repeat (first | rewrite [World.size_alloc] | rewrite [World.size_setCell] | rewrite [World.size_drew])); omega) | (simp; omega) | (simp; done)))) (hb1.mono (by simp; omega))
  have hl1 := k1.lt
  have hl2 := k2.lt
  clear hA1 hA2
  have q1 : w1.cell? ⟨w.heap.size + 1, 0, none⟩ = some (.int .i64 0) := k1.cell 0
  have q2 : w1.cell? ⟨w.heap.size + 1, 1, none⟩ = some (.string ⟨#[]⟩) := k1.cell 1
  have q3 : w1.cell? ⟨w.heap.size + 1, 2, none⟩ = some (.string ⟨#[]⟩) := k1.cell 2
  have q4 : w1.cell? ⟨w.heap.size + 1 + 1, 0, none⟩ = some (.int .i64 k) := k2.cell 0
  have q5 : w1.cell? ⟨w.heap.size + 1 + 1, 1, none⟩ = some (.string ⟨#[]⟩) := k2.cell 1
  have q6 : w1.cell? ⟨w.heap.size + 1 + 1, 2, none⟩ = some (.string ⟨#[]⟩) := k2.cell 2
  have z1 := k1.frozen 0
  have z2 := k1.frozen 1
  have z3 := k1.frozen 2
  have z4 := k2.frozen 0
  have z5 := k2.frozen 1
  have z6 := k2.frozen 2
  clear k1 k2
  go_wp2
  refine bodyPost_ret (v := .agg #[.int .i64 k, .string a, .string b]) (by simp [results, Tryd.results90, go_sem, q1, q2, q3]) rfl ⟨rfl, ?_⟩
  (repeat' (first | (with_reducible exact Below.refl _ _) | (with_reducible assumption) | (with_reducible refine Below.alloc ?_ ?_ _) | (with_reducible refine Below.drew ?_) | (with_reducible refine Below.setCell ?_ ?_ _) | (with_reducible exact Nat.le_refl _) | omega | ((repeat (first | rewrite [World.size_alloc] | rewrite [World.size_setCell] | rewrite [World.size_drew])); omega) | (simp; omega) | (simp; done)))
theorem infoSt : (Tryd.prog.info? 72).map (fun i => (i.zero, i.size, i.bytes)) = some (some (.agg #[.int .i64 0, .string ⟨#[]⟩, .string ⟨#[]⟩]), 3, 40) := by kernel_rfl

set_option maxHeartbeats 400000 in
theorem toStepS_c (xs : List St) (v : Value) (w : World) (hx : RdS w v xs) (hn' : xs.length ≤ 1048576) :
    Calls Tryd.prog 45 #[v] w fun e w' => ∃ v', e = .returned v' ∧ w'.ownsRow w.heap.size 72 3 v' xs.length (scells xs) ∧ Below w.heap.size w w' := by
  obtain ⟨A, cap, rfl, hn, hc, hcell⟩ := hx.open
  obtain ⟨i0, hi0, hz0, hz1, hz2⟩ := info_parts infoSt
  have hmk := fun W : World => run_make (P := Tryd.prog) W 23 72 i0 _ Tryd.underlying23 hi0 hz0 .i64 .i64 xs.length xs.length (by omega) (Int.le_refl _) (by rw [hz2]; omega) (by omega)
  simp only [Int.toNat_natCast, hz1] at hmk
  have hO := own_made w w.heap.size 72 #[Value.int .i64 0, Value.string ⟨#[]⟩, Value.string ⟨#[]⟩] 3 xs.length rfl (by omega) (by omega) (Nat.le_refl _)
  have hB : Below w.heap.size w (w.alloc (Obj.cells (madeCells #[Value.int .i64 0, Value.string ⟨#[]⟩, Value.string ⟨#[]⟩] (xs.length * 3)) 72)) := (Below.refl _ _).alloc (Nat.le_refl _) _
  go_enter Tryd.func45, Tryd.ntmps45
  go_wp2
  generalize (w.alloc (Obj.cells (madeCells #[Value.int .i64 0, Value.string ⟨#[]⟩, Value.string ⟨#[]⟩] (xs.length * 3)) 72)) = W1 at *
  go_loopw [4] (fun i wr => ∃ (k : Nat), k ≤ xs.length ∧ i = .int .i64 k ∧ wr.ownsRow w.heap.size 72 3 (.slice (some ⟨w.heap.size, 0, none⟩) xs.length xs.length) xs.length (shalf xs k) ∧ Below w.heap.size w wr) (fun i _ => xs.length - (intOf i).toNat)
  case atStart => exact ⟨0, by omega, rfl, by rw [shalf_zero]; exact hO, hB⟩
  case round =>
    obtain ⟨k, hk, rfl, ho, hb⟩ := hrel
    by_cases hlt : k < xs.length
    · obtain ⟨b, off, rfl, hbl, hc1, hc2, hc3⟩ := hcell k hlt
      have hd1 := (hb.cell (p := ⟨b, off + k * 3, none⟩) hbl).trans hc1
      have hd2 := (hb.cell (p := ⟨b, off + k * 3 + 1, none⟩) hbl).trans hc2
      have hd3 := (hb.cell (p := ⟨b, off + k * 3 + 2, none⟩) hbl).trans hc3
      clear hc1 hc2 hc3 hcell
      go_wp2_with fail
      refine (toStep_c _ _ _ _).mono ?_
      rintro e w' ⟨rfl, hb'⟩
      have ho' := own_keep ho hb'
      have hf1 := ho'.frozenAt (k * 3)
      have hf2 := ho'.frozenAt (k * 3 + 1)
      have hf3 := ho'.frozenAt (k * 3 + 2)
      have hg1 := (ho'.cellAt (k * 3) (by omega)).trans (shalf_at xs k hlt).1
      have hg2 := (ho'.cellAt (k * 3 + 1) (by omega)).trans (shalf_at xs k hlt).2.1
      have hg3 := (ho'.cellAt (k * 3 + 2) (by omega)).trans (shalf_at xs k hlt).2.2
      go_wp2
      go_roundw
      case rel =>
        refine ⟨k + 1, by omega, by go_num, ?_, ?_⟩
        · rw [← shalf_set xs k hlt]
          exact (((ho'.stored (k * 3) _).1.stored (k * 3 + 1) _).1.stored (k * 3 + 2) _).1
        · exact ((((hb.trans (hb'.mono hb.size)).setCell (Nat.le_refl _) _).setCell (Nat.le_refl _) _).setCell (Nat.le_refl _) _)
      case measure => simp [intOf]; omega
    · have hk' : k = xs.length := by omega
      have ho2 := ho
      rw [hk', shalf_full] at ho2
      go_wp2
      go_ret
      exact ⟨_, rfl, ho2, hb⟩
set_option maxHeartbeats 400000 in
theorem eqStep_c (k : Int) (a b : ByteArray) (k' : Int) (c d : ByteArray) (w : World) :
    Calls Tryd.prog 88 #[.agg #[.int .i64 k, .string a, .string b], .agg #[.int .i64 k', .string c, .string d]] w fun e w' => e = .returned (.bool (stEq k a b k' c d)) ∧ Below w.heap.size w w' := by
  have HS : Hid (stEq k a b k' c d = (decide (k = k') && mvEq a b c d)) := by show _ = _; simp [stEq, mvEq]
  by_cases hk : k = k'
  · have e1 : (k != k') = false := by simp [hk]
    have HK := Lib.hid hk
    clear hk
    rcases Bool.eq_false_or_eq_true (mvEq a b c d) with hm | hm
    all_goals
      go_enter Tryd.func88, Tryd.ntmps88
      go_wp2_with fail
      refine (eqMove_c a b c d _).mono ?_
      rintro e w1 ⟨rfl, hb1⟩
      rw [hm]
      have hB : Below w.heap.size w w1 := Below.trans (by (repeat' (first | (with_reducible exact Below.refl _ _) | (with_reducible assumption) | (with_reducible refine Below.alloc ?_ ?_ _) | (with_reducible refine Below.drew ?_) | (with_reducible refine Below.setCell ?_ ?_ _) | (with_reducible exact Nat.le_refl _) | omega | ((repeat (first | rewrite [World.size_alloc] | rewrite [World.size_setCell] | rewrite [World.size_drew])); omega) | (simp; omega) | (simp; done)))) (hb1.mono (by simp; omega))
      go_wp2
      go_ret
      exact ⟨by rw [HS.out, hm, decide_eq_true HK.out]; rfl, hB⟩
  · have e1 : (k != k') = true := by simp [hk]
    have HK := Lib.hid hk
    clear hk
    go_enter Tryd.func88, Tryd.ntmps88
    go_wp2
    go_ret
    exact ⟨by rw [HS.out, decide_eq_false HK.out]; rfl, by (repeat' (first | (with_reducible exact Below.refl _ _) | (with_reducible assumption) | (with_reducible refine Below.alloc ?_ ?_ _) | (with_reducible refine Below.drew ?_) | (with_reducible refine Below.setCell ?_ ?_ _) | (with_reducible exact Nat.le_refl _) | omega | ((repeat (first | rewrite [World.size_alloc] | rewrite [World.size_setCell] | rewrite [World.size_drew])); omega) | (simp; omega) | (simp; done)))⟩
end Go.Proofs.YtplapaojgcloaaaDoor
namespace Go.PE
open Go.PM Go.RowKit
def tlB (tb : ByteArray → Bool) (tt : ByteArray → ByteArray) (a : ByteArray) : ByteArray := if tb a then tt a else a
def tlX (tb : ByteArray → Bool) (tt : ByteArray → ByteArray) (x : St) : St := (x.1, tlB tb tt x.2.1, tlB tb tt x.2.2)
theorem tlX_len (tb : ByteArray → Bool) (tt : ByteArray → ByteArray) (xs : List St) : (xs.map (tlX tb tt)).length = xs.length := by simp
theorem grown_cellR (W : World) (b i : Nat) (v : Value) : W.grownBy (W.setCell ⟨b, i, none⟩ v) (some b) :=
  ⟨rfl, rfl, rfl, by simp [World.size_setCell], fun k _ hne => heap_setCell_other W _ k v (fun e => hne (by rw [e]))⟩
end Go.PE
namespace Go.Proofs.YtplapaojgcloaaaDoor
open Go.RowKit Go.PM Go.PE

set_option maxRecDepth 100000 in
set_option maxHeartbeats 1600000 in
theorem renameW_c (tb : ByteArray → Bool) (tt : ByteArray → ByteArray) (c1 c2 : Value) (xs : List St) (v : Value) (w : World) (hlen : xs.length ≤ 1048576) (hx : RdS w v xs)
    (htl : ∀ a W, Below w.heap.size w W → Calls Tryd.prog 87 #[.string a, c1, c2] W fun e w' => e = .returned (.tuple #[.string (tt a), .bool (tb a)]) ∧ Below W.heap.size W w') :
    Calls Tryd.prog 86 #[v, .func (.func 87) #[] #[c1, c2]] w fun e w' => ∃ v', e = .returned v' ∧ w'.ownsRow w.heap.size 72 3 v' (xs.map (tlX tb tt)).length (scells (xs.map (tlX tb tt))) ∧ Below w.heap.size w w' := by
  have HTL := Lib.hid htl
  clear htl
  have HXA : Hid (∀ k (hk : k < (xs.map (tlX tb tt)).length) (hk2 : k < xs.length), (xs.map (tlX tb tt))[k] = (xs[k].1, tlB tb tt xs[k].2.1, tlB tb tt xs[k].2.2)) := fun k hk hk2 => by rw [List.getElem_map]; rfl
  have HXL := Lib.hid (tlX_len tb tt xs)
  generalize xs.map (tlX tb tt) = ys at *
  obtain ⟨i0, hi0, hz0, hz1, hz2⟩ := info_parts infoSt
  have hmk := fun W : World => run_make (P := Tryd.prog) W 23 72 i0 _ Tryd.underlying23 hi0 hz0 .i64 .i64 xs.length xs.length (by omega) (Int.le_refl _) (by rw [hz2]; omega) (by omega)
  simp only [Int.toNat_natCast, hz1] at hmk
  obtain ⟨A, cap, rfl, hn, hc, hcell⟩ := hx.open
  clear hx
  have hO := own_made w w.heap.size 72 #[Value.int .i64 0, Value.string ⟨#[]⟩, Value.string ⟨#[]⟩] 3 xs.length rfl (by omega) (by omega) (Nat.le_refl _)
  have hB : Below w.heap.size w (w.alloc (Obj.cells (madeCells #[Value.int .i64 0, Value.string ⟨#[]⟩, Value.string ⟨#[]⟩] (xs.length * 3)) 72)) := (Below.refl _ _).alloc (Nat.le_refl _) _
  go_enter Tryd.func86, Tryd.ntmps86
  go_wp2
  generalize (w.alloc (Obj.cells (madeCells #[Value.int .i64 0, Value.string ⟨#[]⟩, Value.string ⟨#[]⟩] (xs.length * 3)) 72)) = W1 at *
  have HZ0 : Hid (shalf ys 0 = (List.replicate xs.length zSt).flatten) := by show _ = _; rw [shalf_zero, HXL.out]
  go_loopw [6, 7, 8, 9, 10, 11, 17] (fun _ _ _ _ _ _ i wr => ∃ (k : Nat), k ≤ xs.length ∧ i = .int .i64 k ∧ wr.ownsRow w.heap.size 72 3 (.slice (some ⟨w.heap.size, 0, none⟩) xs.length xs.length) xs.length (shalf ys k) ∧ Below w.heap.size w wr) (fun _ _ _ _ _ _ i _ => xs.length - (RowKit.intOf i).toNat)
  case atStart => exact ⟨0, by omega, rfl, by rw [HZ0.out]; exact hO, hB⟩
  case round =>
    clear hO hB
    obtain ⟨k, hk, rfl, ho, hb⟩ := hrel
    have hbs := hb.size
    by_cases hlt : k < xs.length
    · obtain ⟨b, off, rfl, hbl, hc1, hc2, hc3⟩ := hcell k hlt
      have hd1 := (hb.cell (p := ⟨b, off + k * 3, none⟩) hbl).trans hc1
      have hd2 := (hb.cell (p := ⟨b, off + k * 3 + 1, none⟩) hbl).trans hc2
      have hd3 := (hb.cell (p := ⟨b, off + k * 3 + 2, none⟩) hbl).trans hc3
      have hky : k < ys.length := by rw [HXL.out]; exact hlt
      have hyk := HXA.out k hky hlt
      have hset := shalf_set ys k hky
      have hat := shalf_at ys k hky
      rw [hyk] at hset
      have HSET := Lib.hid hset
      clear hc1 hc2 hc3 hcell hyk hset
      have HT1 := Lib.hid (fun W hW => HTL.out xs[k].2.1 W hW)
      have HT2 := Lib.hid (fun W hW => HTL.out xs[k].2.2 W hW)
      have hol := (own_lt ho).1
      unfold tlB at HSET
      generalize tb xs[k].2.1 = b2 at *
      generalize tb xs[k].2.2 = b3 at *
      generalize tt xs[k].2.1 = y2 at *
      generalize tt xs[k].2.2 = y3 at *
      generalize xs[k].1 = x1 at *
      generalize xs[k].2.1 = x2 at *
      generalize xs[k].2.2 = x3 at *
      have hA1 : At (wr.alloc (.cells #[.int .i64 x1, .string x2, .string x3] 72)) wr.heap.size 72 #[.int .i64 x1, .string x2, .string x3] := At.new _ _ _
      have hb1 : Below w.heap.size w (wr.alloc (.cells #[.int .i64 x1, .string x2, .string x3] 72)) := hb.alloc hbs _
      have ho1 : (wr.alloc (.cells #[.int .i64 x1, .string x2, .string x3] 72)).ownsRow w.heap.size 72 3 (.slice (some ⟨w.heap.size, 0, none⟩) xs.length xs.length) xs.length (shalf ys k) := own_keep ho ((Below.refl _ _).alloc (Nat.le_refl _) _)
      have hne : (Value.slice (some ⟨w.heap.size, 0, none⟩) xs.length xs.length).ownBlock ≠ some wr.heap.size := fun e => by have : w.heap.size = wr.heap.size := Option.some.inj e; omega
      have i0' : (0 : Int) ≤ (k : Int) := by omega
      have i1' : (k : Int) < (xs.length : Int) := by omega
      clear hb ho
      have hl1 := hA1.lt
      have p1 := hA1.cell 1
      go_wp2_with fail
      refine (HT1.out _ hb1).mono ?_
      rintro e W2 ⟨rfl, hbw⟩
      replace hA1 := hA1.keep hbw
      replace ho1 := own_keep ho1 hbw
      replace hb1 := hb1.trans (hbw.mono hb1.size)
      clear hbw hl1 p1
      have hl1 := hA1.lt
      cases b2 with
      | true =>
        have f1 := hA1.frozen 1
        have p1 := hA1.cell 1
        have hA2 : At (W2.setCell ⟨wr.heap.size, 1, none⟩ (.string y2)) wr.heap.size 72 #[.int .i64 x1, .string y2, .string x3] := by simpa using hA1.set 1 (.string y2)
        have ho2 := own_grown ho1 (grown_cellR W2 wr.heap.size 1 (.string y2)) (.inl hne)
        have hb2 : Below w.heap.size w (W2.setCell ⟨wr.heap.size, 1, none⟩ (.string y2)) := hb1.setCell (by simp; omega) _
        clear hA1 ho1 hb1
        have p2 := hA2.cell 2
        simp only [List.getElem?_toArray, List.getElem?_cons_zero, List.getElem?_cons_succ] at p2
        go_wp2_with fail
        refine (HT2.out _ hb2).mono ?_
        rintro e W3 ⟨rfl, hbw⟩
        replace hA2 := hA2.keep hbw
        replace ho2 := own_keep ho2 hbw
        replace hb2 := hb2.trans (hbw.mono hb2.size)
        clear hbw p2 f1 p1
        have hl3 := hA2.lt
        cases b3 with
        | true =>
          have f2 := hA2.frozen 2
          have p2 := hA2.cell 2
          have hA3 : At (W3.setCell ⟨wr.heap.size, 2, none⟩ (.string y3)) wr.heap.size 72 #[.int .i64 x1, .string y2, .string y3] := by simpa using hA2.set 2 (.string y3)
          have ho3 := own_grown ho2 (grown_cellR W3 wr.heap.size 2 (.string y3)) (.inl hne)
          have hb3 : Below w.heap.size w (W3.setCell ⟨wr.heap.size, 2, none⟩ (.string y3)) := hb2.setCell (by simp; omega) _
          clear hA2 ho2 hb2
          have c0 := hA3.cell 0
          have c1 := hA3.cell 1
          have c2 := hA3.cell 2
          simp only [List.getElem?_toArray, List.getElem?_cons_zero, List.getElem?_cons_succ] at c0 c1 c2
          have hf1 := ho3.frozenAt (k * 3)
          have hf2 := ho3.frozenAt (k * 3 + 1)
          have hf3 := ho3.frozenAt (k * 3 + 2)
          have hg1 := (ho3.cellAt (k * 3) (by omega)).trans hat.1
          have hg2 := (ho3.cellAt (k * 3 + 1) (by omega)).trans hat.2.1
          have hg3 := (ho3.cellAt (k * 3 + 2) (by omega)).trans hat.2.2
          clear hA3 hat hne
          go_wp2_with fail
          go_roundw
          case rel =>
            refine ⟨k + 1, by omega, by go_num, ?_, ?_⟩
            · rw [← HSET.out]
              exact (((ho3.stored (k * 3) _).1.stored (k * 3 + 1) _).1.stored (k * 3 + 2) _).1
            · exact ((hb3.setCell (Nat.le_refl _) _).setCell (Nat.le_refl _) _).setCell (Nat.le_refl _) _
          case measure => simp [RowKit.intOf]; omega
        | false =>
          have hA3 := hA2
          have ho3 := ho2
          have hb3 := hb2
          clear hA2 ho2 hb2
          have c0 := hA3.cell 0
          have c1 := hA3.cell 1
          have c2 := hA3.cell 2
          simp only [List.getElem?_toArray, List.getElem?_cons_zero, List.getElem?_cons_succ] at c0 c1 c2
          have hf1 := ho3.frozenAt (k * 3)
          have hf2 := ho3.frozenAt (k * 3 + 1)
          have hf3 := ho3.frozenAt (k * 3 + 2)
          have hg1 := (ho3.cellAt (k * 3) (by omega)).trans hat.1
          have hg2 := (ho3.cellAt (k * 3 + 1) (by omega)).trans hat.2.1
          have hg3 := (ho3.cellAt (k * 3 + 2) (by omega)).trans hat.2.2
          clear hA3 hat hne
          go_wp2_with fail
          go_roundw
          case rel =>
            refine ⟨k + 1, by omega, by go_num, ?_, ?_⟩
            · rw [← HSET.out]
              exact (((ho3.stored (k * 3) _).1.stored (k * 3 + 1) _).1.stored (k * 3 + 2) _).1
            · exact ((hb3.setCell (Nat.le_refl _) _).setCell (Nat.le_refl _) _).setCell (Nat.le_refl _) _
          case measure => simp [RowKit.intOf]; omega
      | false =>
        have hA2 := hA1
        have ho2 := ho1
        have hb2 := hb1
        clear hA1 ho1 hb1
        have p2 := hA2.cell 2
        simp only [List.getElem?_toArray, List.getElem?_cons_zero, List.getElem?_cons_succ] at p2
        go_wp2_with fail
        refine (HT2.out _ hb2).mono ?_
        rintro e W3 ⟨rfl, hbw⟩
        replace hA2 := hA2.keep hbw
        replace ho2 := own_keep ho2 hbw
        replace hb2 := hb2.trans (hbw.mono hb2.size)
        clear hbw p2
        have hl3 := hA2.lt
        cases b3 with
        | true =>
          have f2 := hA2.frozen 2
          have p2 := hA2.cell 2
          have hA3 : At (W3.setCell ⟨wr.heap.size, 2, none⟩ (.string y3)) wr.heap.size 72 #[.int .i64 x1, .string x2, .string y3] := by simpa using hA2.set 2 (.string y3)
          have ho3 := own_grown ho2 (grown_cellR W3 wr.heap.size 2 (.string y3)) (.inl hne)
          have hb3 : Below w.heap.size w (W3.setCell ⟨wr.heap.size, 2, none⟩ (.string y3)) := hb2.setCell (by simp; omega) _
          clear hA2 ho2 hb2
          have c0 := hA3.cell 0
          have c1 := hA3.cell 1
          have c2 := hA3.cell 2
          simp only [List.getElem?_toArray, List.getElem?_cons_zero, List.getElem?_cons_succ] at c0 c1 c2
          have hf1 := ho3.frozenAt (k * 3)
          have hf2 := ho3.frozenAt (k * 3 + 1)
          have hf3 := ho3.frozenAt (k * 3 + 2)
          have hg1 := (ho3.cellAt (k * 3) (by omega)).trans hat.1
          have hg2 := (ho3.cellAt (k * 3 + 1) (by omega)).trans hat.2.1
          have hg3 := (ho3.cellAt (k * 3 + 2) (by omega)).trans hat.2.2
          clear hA3 hat hne
          go_wp2_with fail
          go_roundw
          case rel =>
            refine ⟨k + 1, by omega, by go_num, ?_, ?_⟩
            · rw [← HSET.out]
              exact (((ho3.stored (k * 3) _).1.stored (k * 3 + 1) _).1.stored (k * 3 + 2) _).1
            · exact ((hb3.setCell (Nat.le_refl _) _).setCell (Nat.le_refl _) _).setCell (Nat.le_refl _) _
          case measure => simp [RowKit.intOf]; omega
        | false =>
          have hA3 := hA2
          have ho3 := ho2
          have hb3 := hb2
          clear hA2 ho2 hb2
          have c0 := hA3.cell 0
          have c1 := hA3.cell 1
          have c2 := hA3.cell 2
          simp only [List.getElem?_toArray, List.getElem?_cons_zero, List.getElem?_cons_succ] at c0 c1 c2
          have hf1 := ho3.frozenAt (k * 3)
          have hf2 := ho3.frozenAt (k * 3 + 1)
          have hf3 := ho3.frozenAt (k * 3 + 2)
          have hg1 := (ho3.cellAt (k * 3) (by omega)).trans hat.1
          have hg2 := (ho3.cellAt (k * 3 + 1) (by omega)).trans hat.2.1
          have hg3 := (ho3.cellAt (k * 3 + 2) (by omega)).trans hat.2.2
          clear hA3 hat hne
          go_wp2_with fail
          go_roundw
          case rel =>
            refine ⟨k + 1, by omega, by go_num, ?_, ?_⟩
            · rw [← HSET.out]
              exact (((ho3.stored (k * 3) _).1.stored (k * 3 + 1) _).1.stored (k * 3 + 2) _).1
            · exact ((hb3.setCell (Nat.le_refl _) _).setCell (Nat.le_refl _) _).setCell (Nat.le_refl _) _
          case measure => simp [RowKit.intOf]; omega
    · have hk' : k = xs.length := by omega
      have ho2 := ho
      rw [hk', ← HXL.out, shalf_full] at ho2
      have HO3 : Hid (wr.ownsRow w.heap.size 72 3 (.slice (some ⟨w.heap.size, 0, none⟩) xs.length xs.length) ys.length (scells ys)) := by
        have := ho2
        rw [show (Value.slice (some ⟨w.heap.size, 0, none⟩) ys.length ys.length) = (Value.slice (some ⟨w.heap.size, 0, none⟩) xs.length xs.length) by rw [HXL.out]] at this
        exact this
      have HK := Lib.hid hk'
      clear hcell ho2 ho hk'
      go_wp2
      go_ret
      exact ⟨_, rfl, HO3.out, hb⟩
end Go.Proofs.YtplapaojgcloaaaDoor
namespace Go.PE
open Go.PM Go.RowKit
/-- the steps from the last one to the first one, each behind its index -/
def bwL (xs : List St) : List (Nat × St) := (xs.zipIdx.map fun p => (p.2, p.1)).reverse
theorem bwL_len (xs : List St) : (bwL xs).length = xs.length := by simp [bwL]
theorem bwL_get (xs : List St) (k j : Nat) (hj : j < (bwL xs).length) (hk : k < xs.length) (h : k + j + 1 = xs.length) : (bwL xs)[j] = (k, xs[k]) := by
  have e : xs.length - 1 - j = k := by omega
  simp only [bwL] at hj ⊢
  rw [List.getElem_reverse]
  simp [e]
theorem bwL_take (xs : List St) (k j : Nat) (hk : k < xs.length) (h : k + j + 1 = xs.length) : (bwL xs).take j ++ [(k, xs[k])] = (bwL xs).take (j + 1) := by
  have hj : j < (bwL xs).length := by rw [bwL_len]; omega
  rw [take_snoc _ j hj, bwL_get xs k j hj hk h]
theorem bwL_pre {xs : List St} {pre : List (Nat × St)} {x : Nat × St} (h : pre ++ [x] <+: bwL xs) : ∃ (k : Nat) (hk : k < xs.length), k + pre.length + 1 = xs.length ∧ x = (k, xs[k]) := by
  have h1 := h.length_le
  rw [List.length_append, bwL_len] at h1
  simp only [List.length_cons, List.length_nil] at h1
  have hj : pre.length < (bwL xs).length := by rw [bwL_len]; omega
  refine ⟨xs.length - 1 - pre.length, by omega, by omega, ?_⟩
  have h2 := bwL_get xs (xs.length - 1 - pre.length) pre.length hj (by omega) (by omega)
  rw [← h2]
  obtain ⟨t, ht⟩ := h
  have h3 : (bwL xs)[pre.length]? = some x := by rw [← ht]; simp
  rw [List.getElem?_eq_getElem hj] at h3
  exact (Option.some.inj h3).symm
/-- what is handed out: the steps that are kept, from the last one on, with what is needed ahead of each -/
def ksL (n : Nat) : List St → List (St × Nat)
  | [] => []
  | x :: xs => if keptN x (bkS xs n).2 then ksL n xs ++ [(x, aheadN x (bkS xs n).2)] else ksL n xs
theorem ksL_drop (xs : List St) (n k : Nat) (hk : k < xs.length) : ksL n (xs.drop k) = if keptN xs[k] (bkS (xs.drop (k + 1)) n).2 then ksL n (xs.drop (k + 1)) ++ [(xs[k], aheadN xs[k] (bkS (xs.drop (k + 1)) n).2)] else ksL n (xs.drop (k + 1)) := by
  rw [List.drop_eq_getElem_cons hk]; rfl
theorem ksL_pre (xs : List St) (n : Nat) : ∀ k, ksL n (xs.drop k) <+: ksL n xs := by
  intro k
  induction k with
  | zero => exact List.prefix_refl _
  | succ k ih =>
    by_cases hk : k < xs.length
    · refine List.IsPrefix.trans ?_ ih
      rw [ksL_drop xs n k hk]
      split
      · exact List.prefix_append _ _
      · exact List.prefix_refl _
    · rw [List.drop_eq_nil_of_le (by omega)] at ih ⊢; exact ih
theorem ksL_fst (n : Nat) : ∀ xs, (ksL n xs).map Prod.fst = (bkS xs n).1.reverse
  | [] => rfl
  | x :: xs => by
    have ih := ksL_fst n xs
    show (if keptN x (bkS xs n).2 then ksL n xs ++ [(x, aheadN x (bkS xs n).2)] else ksL n xs).map Prod.fst = _
    rw [bkS_cons]
    split
    · simp [ih]
    · exact ih
theorem ksL_last (n : Nat) : ∀ xs, ((ksL n xs).getLast?.map Prod.snd).getD n = (bkS xs n).2
  | [] => rfl
  | x :: xs => by
    have ih := ksL_last n xs
    show ((if keptN x (bkS xs n).2 then ksL n xs ++ [(x, aheadN x (bkS xs n).2)] else ksL n xs).getLast?.map Prod.snd).getD n = _
    rw [bkS_cons]
    split
    · simp
    · exact ih
theorem ksL_len (n : Nat) (xs : List St) : (ksL n xs).length ≤ xs.length := by
  have h := congrArg List.length (ksL_fst n xs)
  rw [List.length_map, List.length_reverse] at h
  rw [h]; exact bkS_len n xs
end Go.PE
namespace Go.Proofs.YtplapaojgcloaaaDoor
open Go.RowKit Go.PM Go.PE
attribute [local go_sem] Oper.semAt_some

set_option maxRecDepth 100000 in
set_option maxHeartbeats 1600000 in
theorem backward_iter (xs : List St) (v : Value) (b1 n : Nat) (hn : 1 ≤ n) (hl : xs.length ≤ 60) :
    IterR (fun A => At A b1 23 #[v] ∧ RdS A v xs) Fence.wide n Tryd.prog 126 (fun y => #[] ++ #[y] ++ #[.pointer (some ⟨b1, 0, none⟩)]) (fun m : Nat × St => #[.int .i64 m.1, .agg #[.int .i64 m.2.1, .string m.2.2.1, .string m.2.2.2]]) (bwL xs) := by
  intro l J r0 W hJ hP hY h0
  obtain ⟨⟨hA1, hx0⟩, hr0⟩ := hP _ _ _ h0
  have c1 : W.cell? ⟨b1, 0, none⟩ = some v := hA1.cell 0
  obtain ⟨A, cap, rfl, hn1, hc1, _⟩ := hx0.open
  refine callsIn_of_wp Tryd.func126 rfl trivial ?_ rfl
  simp only [Tryd.ntmps126, List.size_toArray, List.length_cons, List.length_nil, Nat.reduceAdd, Nat.reduceSub, Array.replicate_succ, Array.replicate_zero, List.push_toArray, List.append_toArray, List.nil_append, List.cons_append]
  clear hA1 hx0
  gi_wp2
  gi_loopw [3] (fun iv wr => ∃ (k : Nat) (r : Option Nat), k ≤ xs.length ∧ iv = .int .i64 ((k : Int) - 1) ∧ J r ((bwL xs).take (xs.length - k)) wr ∧ W.heap.size ≤ wr.heap.size) (fun iv _ => (RowKit.intOf iv + 1).toNat)
  case atStart => exact ⟨xs.length, r0, by omega, rfl, by rw [Nat.sub_self]; exact h0, Nat.le_refl _⟩
  case round =>
    clear c1
    obtain ⟨k, r, hk, rfl, hj, hsz⟩ := hrel
    obtain ⟨⟨hAr, hxr⟩, hrr⟩ := hP _ _ _ hj
    by_cases hlt : 0 < k
    · obtain ⟨k, rfl⟩ : ∃ k', k = k' + 1 := ⟨k - 1, by omega⟩
      have ek : ((k + 1 : Nat) : Int) - 1 = (k : Int) := by omega
      rw [ek]
      have hk2 : k < xs.length := by omega
      obtain ⟨A', cap', e, _, _, hcell⟩ := hxr.open
      cases e
      obtain ⟨b, off, rfl, hbl, hd1, hd2, hd3⟩ := hcell k hk2
      have c1 : wr.cell? ⟨b1, 0, none⟩ = some (.slice (some ⟨b, off, none⟩) xs.length cap) := hAr.cell 0
      have htk := bwL_take xs k (xs.length - (k + 1)) hk2 (by omega)
      have hpx : (bwL xs).take (xs.length - (k + 1)) ++ [(k, xs[k])] <+: bwL xs := by rw [htk]; exact List.take_prefix _ _
      have e2 : xs.length - (k + 1) + 1 = xs.length - k := by omega
      rw [e2] at htk
      obtain ⟨fn, tmps, assign, body, hy, hR⟩ := hY r _ (k, xs[k]) wr hj hsz hpx
      rw [htk] at hR
      have i0 : (0 : Int) ≤ (k : Int) := by omega
      have i1 : (k : Int) < (xs.length : Int) := by omega
      clear hcell hxr hAr hj
      generalize xs[k].1 = x1 at *
      generalize xs[k].2.1 = x2 at *
      generalize xs[k].2.2 = x3 at *
      gi_wp2
      refine hR.mono ?_
      rintro e W5 ⟨rfl, r5, hJ5, hst5⟩
      have hs5 := Nat.le_trans hsz hst5.size
      clear hR hy hst5
      gi_wp2
      go_roundw
      case rel => exact ⟨k, r5, by omega, by go_num, hJ5, hs5⟩
      case measure => simp [RowKit.intOf]
    · obtain rfl : k = 0 := by omega
      rw [Nat.sub_zero, List.take_of_length_le (by rw [bwL_len]; omega)] at hj
      have ek : ((0 : Nat) : Int) - 1 = -1 := rfl
      rw [ek]
      clear hxr hAr
      gi_wp2
      go_end0
      exact ⟨⟨_, rfl⟩, r, hj⟩
end Go.Proofs.YtplapaojgcloaaaDoor
namespace Go.PE
open Go.PM Go.RowKit
theorem drop_at (xs : List St) {j k : Nat} (h : k + j + 1 = xs.length) : xs.length - j = k + 1 ∧ xs.length - (j + 1) = k := by omega
end Go.PE
namespace Go.Proofs.YtplapaojgcloaaaDoor
open Go.RowKit Go.PM Go.PE
attribute [local go_sem] Oper.semAt_some

theorem backward_c (A : Option Addr) (n c : Nat) (w : World) :
    Calls Tryd.prog 96 #[.slice A n c] w fun e w' => e = .returned (.func (.func 126) #[] #[.pointer (some ⟨w.heap.size, 0, none⟩)]) ∧ w' = w.alloc (.cells #[.slice A n c] 23) := by
  go_enter Tryd.func96, Tryd.ntmps96
  go_wp2
  go_ret
  exact ⟨rfl, rfl⟩
set_option maxRecDepth 100000 in
set_option maxHeartbeats 1600000 in
theorem kept_iter (xs : List St) (hv : svalid xs = true) (v : Value) (b1 b2 s : Nat) (hs : s < 2048) (n : Nat) (hn : 4 ≤ n) :
    IterN (fun A => At A b1 62 #[.int .u64 s] ∧ At A b2 23 #[v] ∧ RdS A v xs) Fence.wide n Tryd.prog 95 (fun y => #[] ++ #[y] ++ #[.pointer (some ⟨b1, 0, none⟩), .pointer (some ⟨b2, 0, none⟩)]) (fun m : St × Nat => #[.agg #[.int .i64 m.1.1, .string m.1.2.1, .string m.1.2.2], .int .u64 m.2]) (ksL s xs) := by
  intro l J r0 W hJ hP hW hY h0
  obtain ⟨⟨hA1, hA2, hx0⟩, hr0⟩ := hP _ _ _ h0
  obtain ⟨Av, cv, rfl, -⟩ := hx0.open
  have c1 : W.cell? ⟨b1, 0, none⟩ = some (.int .u64 s) := hA1.cell 0
  have hlen := svalid_len hv
  have hl1 := hA1.lt
  have hl2 := hA2.lt
  change CallsIn _ _ _ _ #[.func (.yield l) #[] #[], .pointer (some ⟨b1, 0, none⟩), .pointer (some ⟨b2, 0, none⟩)] W _
  refine callsIn_of_wp_marks Tryd.func95 rfl trivial ?_ rfl
  simp only [Tryd.ntmps95, List.size_toArray, List.length_cons, List.length_nil, Nat.reduceAdd, Nat.reduceSub, Array.replicate_succ, Array.replicate_zero, List.push_toArray, List.append_toArray, List.nil_append, List.cons_append]
  obtain ⟨W0, hW0⟩ : ∃ W0 : World, W0 = (W.alloc (.cells #[.func (.yield l) #[] #[]] 127)).alloc (.cells #[.int .u64 s] 62) := ⟨_, rfl⟩
  have hS0 : W0.heap.size = W.heap.size + 2 := by rw [hW0]; simp only [World.size_alloc]
  have hB0 : Below W.heap.size W W0 := by rw [hW0]; (repeat' (first | (with_reducible exact Below.refl _ _) | (with_reducible assumption) | (with_reducible refine Below.alloc ?_ ?_ _) | (with_reducible refine Below.drew ?_) | (with_reducible refine Below.setCell ?_ ?_ _) | (with_reducible exact Nat.le_refl _) | omega | ((repeat (first | rewrite [World.size_alloc] | rewrite [World.size_setCell] | rewrite [World.size_drew])); omega) | (simp; omega) | (simp; done)))
  have hY0 : At W0 W.heap.size 127 #[.func (.yield l) #[] #[]] := by rw [hW0]; exact (At.new W _ _).alloc _
  have hN0 : At W0 (W.heap.size + 1) 62 #[.int .u64 s] := by
    rw [hW0]; have := At.new (W.alloc (.cells #[.func (.yield l) #[] #[]] 127)) 62 #[.int .u64 s]
    rwa [World.size_alloc] at this
  have c2 : ((W.alloc (.cells #[.func (.yield l) #[] #[]] 127)).alloc (.cells #[.int .u64 s] 62)).cell? ⟨b2, 0, none⟩ = some (.slice Av xs.length cv) := by rw [← hW0]; exact (hA2.keep hB0).cell 0
  gi_wp2_with fail
  rw [← hW0]
  refine ⟨trivial, fun _ => by omega, callsIn_wide.2 ((backward_c _ _ _ _).mono ?_)⟩
  rintro e W1 ⟨rfl, hW1⟩
  have hS1 : W1.heap.size = W.heap.size + 3 := by rw [hW1, World.size_alloc]; omega
  have hB1 : Below W0.heap.size W0 W1 := by rw [hW1]; exact (Below.refl _ _).alloc (Nat.le_refl _) _
  have hQ1 : At W1 W0.heap.size 23 #[.slice Av xs.length cv] := by rw [hW1]; exact At.new _ _ _
  rw [hS0] at hQ1
  have hY1 := hY0.keep hB1
  have hN1 := hN0.keep hB1
  have hJ1 : J r0 [] W1 := hJ _ _ _ _ none h0 (grown_below (hB0.trans (hB1.mono (by omega))) none) (fun r e => by cases e)
  have hr1 : ∀ g, r0 = some g → g < W.heap.size ∨ W.heap.size + 3 ≤ g := fun g e => by
    obtain ⟨o, ho, _⟩ := hr0 g e
    exact .inl (Array.getElem?_eq_some_iff.1 ho).1
  clear hW0 hW1 hB0 hB1 hY0 hN0 c1 c2 hA1 hA2 hx0 hr0
  gi_wp2
  refine range_lawR (F := Fence.wide) (Pr := fun A => At A (W.heap.size + 2) 23 #[.slice Av xs.length cv] ∧ RdS A (.slice Av xs.length cv) xs) (gf := 126) (lf := #[]) (lb := #[.pointer (some ⟨W.heap.size + 2, 0, none⟩)]) rfl (by omega) rfl trivial (fun args w => rfl) (encs := fun m : Nat × St => #[.int .i64 m.1, .agg #[.int .i64 m.2.1, .string m.2.2.1, .string m.2.2.2]]) (xs := bwL xs)
    (backward_iter xs _ _ _ (by omega) hlen) (fun _ => rfl)
    (fun r pre A => J r (ksL s (xs.drop (xs.length - pre.length))) A ∧ At A W.heap.size 127 #[.func (.yield l) #[] #[]] ∧ At A (W.heap.size + 1) 62 #[.int .u64 ((bkS (xs.drop (xs.length - pre.length)) s).2 : Nat)] ∧ At A (W.heap.size + 2) 23 #[.slice Av xs.length cv] ∧ (∀ g, r = some g → g < W.heap.size ∨ W.heap.size + 3 ≤ g) ∧ W.heap.size + 3 ≤ A.heap.size) r0 ?pr ?own ?start
    (fun m a' A => ∃ b, At A b 72 #[.int .i64 m.2.1, .string m.2.2.1, .string m.2.2.2] ∧ W.heap.size + 3 ≤ b ∧ a' = { tmps := #[.func (.yield l) #[] #[], .pointer (some ⟨b1, 0, none⟩), .pointer (some ⟨b2, 0, none⟩), .pointer (some ⟨W.heap.size, 0, none⟩), .pointer (some ⟨W.heap.size + 1, 0, none⟩), undef, .pointer (some ⟨b, 0, none⟩), .int .u64 s, .slice Av xs.length cv, .func (.func 126) #[] #[.pointer (some ⟨W.heap.size + 2, 0, none⟩)], .int .i64 m.1, .agg #[.int .i64 m.2.1, .string m.2.2.1, .string m.2.2.2], undef, undef, undef, undef, undef, undef, undef, undef, undef, undef, undef, undef], defers := [] }) ?ax ?assign ?body ?done
  case pr =>
    rintro r pre A ⟨k1, k2, k3, k4, k5, k6⟩
    obtain ⟨⟨-, -, h3⟩, h4⟩ := hP _ _ _ k1
    exact ⟨⟨k4, h3⟩, h4⟩
  case own =>
    rintro r pre A A' row ⟨k1, k2, k3, k4, k5, k6⟩ hg hr
    have ht := fun q e => (hr q e).2
    exact ⟨hJ _ _ _ _ row k1 hg (fun q e => ⟨by have := (hr q e).1; omega, (hr q e).2⟩), k2.turn hg ht, k3.turn hg ht, k4.turn hg ht, k5, Nat.le_trans k6 hg.size⟩
  case start =>
    refine ⟨?_, hY1, ?_, hQ1, hr1, by omega⟩
    · rw [List.length_nil, Nat.sub_zero, List.drop_length]; exact hJ1
    · rw [List.length_nil, Nat.sub_zero, List.drop_length]; exact hN1
  case ax =>
    rintro m a' u A A' row ⟨b, k1, k2, k3⟩ hg hr
    exact ⟨b, k1.turn hg (fun r e => (hr r e).2), k2, k3⟩
  case assign =>
    intro l2 r pre m A K hI hp hsz hK
    obtain ⟨k1, k2, k3, k4, k5, k6⟩ := hI
    have hbl : Below A.heap.size A (A.alloc (.cells #[.int .i64 m.2.1, .string m.2.2.1, .string m.2.2.2] 72)) := (Below.refl _ _).alloc (Nat.le_refl _) _
    have r2 := At.new A 72 #[.int .i64 m.2.1, .string m.2.2.1, .string m.2.2.2]
    have q1 := hJ _ _ _ _ none k1 (grown_below hbl none) (fun r e => by cases e)
    have q2 := k2.keep hbl
    have q3 := k3.keep hbl
    have q4 := k4.keep hbl
    have q6 := Nat.le_trans k6 hbl.size
    clear k1 k2 k3 k4
    gi_wp2
    exact hK _ _ hbl ⟨q1, q2, q3, q4, k5, q6⟩ ⟨_, r2, k6, rfl⟩
  case body =>
    rintro l2 r pre m a' A ⟨k1, k2, k3, k4, k5, k6⟩ ⟨b, q1, q2, rfl⟩ hp hsz
    obtain ⟨k, hk, hkj, rfl⟩ := bwL_pre hp
    obtain ⟨d1, d2⟩ := drop_at xs hkj
    have hpl : (pre ++ [(k, xs[k])]).length = pre.length + 1 := by simp
    have hok := svalid_at hv k hk
    have hlt : (bkS (xs.drop (k + 1)) s).2 < 2048 := bkS_lt hs _
    have hks := ksL_drop xs s k hk
    have hbk := bkS_drop xs s k hk
    have hpre := ksL_pre xs s k
    rw [d1] at k1 k3
    have hNF := fun Z => neededFor_c xs[k].1 xs[k].2.1 xs[k].2.2 hok _ hlt Z
    have hNA := fun Z => neededAhead_c xs[k].1 xs[k].2.1 xs[k].2.2 hok _ hlt Z
    have HNF := Lib.hid hNF
    have HNA := Lib.hid hNA
    have HE : Hid (xs[k] = (xs[k].1, xs[k].2.1, xs[k].2.2)) := rfl
    rw [HE.out] at hks hbk
    have HGO : Hid (∀ r' A', J r' (ksL s (xs.drop k)) A' → At A' W.heap.size 127 #[.func (.yield l) #[] #[]] → At A' (W.heap.size + 1) 62 #[.int .u64 ((bkS (xs.drop k) s).2 : Nat)] → At A' (W.heap.size + 2) 23 #[.slice Av xs.length cv] → (∀ g, r' = some g → g < W.heap.size ∨ W.heap.size + 3 ≤ g) → W.heap.size + 3 ≤ A'.heap.size → RowStep W1.heap.size r r' A A' →
      ∃ r', (J r' (ksL s (xs.drop (xs.length - (pre ++ [(k, xs[k])]).length))) A' ∧ At A' W.heap.size 127 #[.func (.yield l) #[] #[]] ∧ At A' (W.heap.size + 1) 62 #[.int .u64 ((bkS (xs.drop (xs.length - (pre ++ [(k, xs[k])]).length)) s).2 : Nat)] ∧ At A' (W.heap.size + 2) 23 #[.slice Av xs.length cv] ∧ (∀ g, r' = some g → g < W.heap.size ∨ W.heap.size + 3 ≤ g) ∧ W.heap.size + 3 ≤ A'.heap.size) ∧ RowStep W1.heap.size r r' A A') := by
      intro r' A' g1 g2 g3 g4 g5 g6 g7
      rw [hpl, d2]
      exact ⟨r', ⟨g1, g2, g3, g4, g5, g6⟩, g7⟩
    have c0 : A.cell? ⟨b, 0, none⟩ = some (.int .i64 xs[k].1) := q1.cell 0
    have c1 : A.cell? ⟨b, 1, none⟩ = some (.string xs[k].2.1) := q1.cell 1
    have c2 : A.cell? ⟨b, 2, none⟩ = some (.string xs[k].2.2) := q1.cell 2
    have c3 : A.cell? ⟨W.heap.size + 1, 0, none⟩ = some (.int .u64 ((bkS (xs.drop (k + 1)) s).2 : Nat)) := k3.cell 0
    clear hNF hNA hok hp hpl d1 d2 HE
    have hnd : (bkS (xs.drop k) s).2 = if keptN (xs[k].1, xs[k].2.1, xs[k].2.2) (bkS (xs.drop (k + 1)) s).2 then aheadN (xs[k].1, xs[k].2.1, xs[k].2.2) (bkS (xs.drop (k + 1)) s).2 else (bkS (xs.drop (k + 1)) s).2 := by rw [hbk]; split <;> rfl
    clear hbk
    have hY2 := hY r (ksL s (xs.drop (k + 1))) (xs[k], aheadN xs[k] (bkS (xs.drop (k + 1)) s).2)
    generalize aheadN (xs[k].1, xs[k].2.1, xs[k].2.2) (bkS (xs.drop (k + 1)) s).2 = ah at *
    generalize hkp : keptN (xs[k].1, xs[k].2.1, xs[k].2.2) (bkS (xs.drop (k + 1)) s).2 = kp at *
    generalize (bkS (xs.drop (k + 1)) s).2 = nd at *
    generalize ksL s (xs.drop (k + 1)) = ks0 at *
    cases kp with
    | false =>
      rw [if_neg (by decide)] at hks hnd
      gi_wp2_with fail
      refine ⟨trivial, fun _ => by omega, CallsIn.inRound l2 (callsIn_wide.2 ((HNF.out _).mono ?_))⟩
      rintro e A2 ⟨rfl, hb2⟩
      have hs2 := hb2.size
      have j1 : J r (ksL s (xs.drop k)) A2 := by rw [hks]; exact hJ _ _ _ _ none k1 (grown_below hb2 none) (fun r e => by cases e)
      have j2 := k2.keep hb2
      have j3 := k3.keep hb2
      have j4 := k4.keep hb2
      rw [← hnd] at j3
      have fin := HGO.out r A2 j1 j2 j3 j4 k5 (by omega) ⟨hs2, fun q _ h _ => hb2.block q h, .inl rfl⟩
      clear k1 k2 k3 k4 j1 j2 j3 j4 q1 c0 c1 c2 c3
      gi_wp2
      exact fin
    | true =>
      rw [if_pos rfl] at hks hnd
      gi_wp2_with fail
      refine ⟨trivial, fun _ => by omega, CallsIn.inRound l2 (callsIn_wide.2 ((HNF.out _).mono ?_))⟩
      rintro e A2 ⟨rfl, hb2⟩
      have hs2 := hb2.size
      have j1 : J r ks0 A2 := hJ _ _ _ _ none k1 (grown_below hb2 none) (fun r e => by cases e)
      have j2 := k2.keep hb2
      have j3 := k3.keep hb2
      have j4 := k4.keep hb2
      have p1 := q1.keep hb2
      clear k1 k2 k3 k4 q1 c0 c1 c2 c3
      have c0 : A2.cell? ⟨b, 0, none⟩ = some (.int .i64 xs[k].1) := p1.cell 0
      have c1 : A2.cell? ⟨b, 1, none⟩ = some (.string xs[k].2.1) := p1.cell 1
      have c2 : A2.cell? ⟨b, 2, none⟩ = some (.string xs[k].2.2) := p1.cell 2
      have c3 : A2.cell? ⟨W.heap.size + 1, 0, none⟩ = some (.int .u64 (nd : Nat)) := j3.cell 0
      gi_wp2_with fail
      refine ⟨trivial, fun _ => by omega, CallsIn.inRound l2 (callsIn_wide.2 ((HNA.out _).mono ?_))⟩
      rintro e A3 ⟨rfl, hb3⟩
      have hs3 := hb3.size
      have hB3 := hb2.trans (hb3.mono hs2)
      have i1 : J r ks0 A3 := hJ _ _ _ _ none j1 (grown_below hb3 none) (fun r e => by cases e)
      have i2 := j2.keep hb3
      have i3 := j3.keep hb3
      have i4 := j4.keep hb3
      have p2 := p1.keep hb3
      clear j1 j2 j3 j4 p1 c0 c1 c2 c3 hb2 hb3
      have f3 := i3.frozen 0
      have m3 : A3.cell? ⟨W.heap.size + 1, 0, none⟩ = some (.int .u64 (nd : Nat)) := i3.cell 0
      have l3 := i3.lt
      have hne : some (W.heap.size + 1) ≠ r := fun e => by have := k5 _ e.symm; omega
      have o1 : J r ks0 (A3.setCell ⟨W.heap.size + 1, 0, none⟩ (.int .u64 (ah : Nat))) := hW _ _ _ _ _ i1 (by omega) hne (grown_cellR _ _ _ _)
      have o2 : At (A3.setCell ⟨W.heap.size + 1, 0, none⟩ (.int .u64 (ah : Nat))) W.heap.size 127 #[.func (.yield l) #[] #[]] := i2.far (p := ⟨W.heap.size + 1, 0, none⟩) (by simp) _
      have o3 : At (A3.setCell ⟨W.heap.size + 1, 0, none⟩ (.int .u64 (ah : Nat))) (W.heap.size + 1) 62 #[.int .u64 (ah : Nat)] := i3.set 0 _
      have o4 : At (A3.setCell ⟨W.heap.size + 1, 0, none⟩ (.int .u64 (ah : Nat))) (W.heap.size + 2) 23 #[.slice Av xs.length cv] := i4.far (p := ⟨W.heap.size + 1, 0, none⟩) (by simp) _
      have p3 : At (A3.setCell ⟨W.heap.size + 1, 0, none⟩ (.int .u64 (ah : Nat))) b 72 #[.int .i64 xs[k].1, .string xs[k].2.1, .string xs[k].2.2] := p2.far (p := ⟨W.heap.size + 1, 0, none⟩) (by simp; omega) _
      have c0 : (A3.setCell ⟨W.heap.size + 1, 0, none⟩ (.int .u64 (ah : Nat))).cell? ⟨b, 0, none⟩ = some (.int .i64 xs[k].1) := p3.cell 0
      have c1 : (A3.setCell ⟨W.heap.size + 1, 0, none⟩ (.int .u64 (ah : Nat))).cell? ⟨b, 1, none⟩ = some (.string xs[k].2.1) := p3.cell 1
      have c2 : (A3.setCell ⟨W.heap.size + 1, 0, none⟩ (.int .u64 (ah : Nat))).cell? ⟨b, 2, none⟩ = some (.string xs[k].2.2) := p3.cell 2
      have c3 : (A3.setCell ⟨W.heap.size + 1, 0, none⟩ (.int .u64 (ah : Nat))).cell? ⟨W.heap.size, 0, none⟩ = some (.func (.yield l) #[] #[]) := o2.cell 0
      have hs4 : (A3.setCell ⟨W.heap.size + 1, 0, none⟩ (.int .u64 (ah : Nat))).heap.size = A3.heap.size := by simp [World.size_setCell]
      have hsame : ∀ q, W1.heap.size ≤ q → q < A.heap.size → (A3.setCell ⟨W.heap.size + 1, 0, none⟩ (.int .u64 (ah : Nat))).heap[q]? = A.heap[q]? := fun q h1 h2 => by
        rw [heap_setCell_other _ _ _ _ (by simp; omega)]; exact hB3.block q h2
      clear i1 i2 i3 i4 p2
      have hyA := yieldAt_wide (m := n - 1 - 1 - 1) (hY2 (A3.setCell ⟨W.heap.size + 1, 0, none⟩ (.int .u64 (ah : Nat))) o1 (by omega) (by
        rw [show (xs[k], ah) = ((xs[k].1, xs[k].2.1, xs[k].2.2), ah) from rfl, ← hks]; exact hpre))
      obtain ⟨fn, tmps, assign, body, hy, hR⟩ := hyA
      have hks2 : ks0 ++ [(xs[k], ah)] = ksL s (xs.drop k) := hks.symm
      rw [hks2] at hR
      gi_wp2
      refine ⟨fun _ => by omega, RoundIn.mono hR ?_⟩
      rintro e A5 ⟨rfl, r', g1, hst⟩
      have hs5 := hst.size
      have w2 : At A5 W.heap.size 127 #[.func (.yield l) #[] #[]] := (hst.same _ (by omega) o2.lt (fun e => by have := k5 _ e.symm; omega)).trans o2
      have w3 : At A5 (W.heap.size + 1) 62 #[.int .u64 ((bkS (xs.drop k) s).2 : Nat)] := by
        rw [hnd]; exact (hst.same _ (by omega) o3.lt (fun e => by have := k5 _ e.symm; omega)).trans o3
      have w4 : At A5 (W.heap.size + 2) 23 #[.slice Av xs.length cv] := (hst.same _ (by omega) o4.lt (fun e => by have := k5 _ e.symm; omega)).trans o4
      have w5 : ∀ g, r' = some g → g < W.heap.size ∨ W.heap.size + 3 ≤ g := fun g e => by
        rcases hst.row with h | h
        · exact k5 g (h ▸ e)
        · have := h g e; omega
      have fin := HGO.out r' A5 g1 w2 w3 w4 w5 (by omega) ⟨by omega, fun q h1 h2 h3 => by
        rw [hst.same q (by omega) (by omega) h3]; exact hsame q h1 h2, by
        rcases hst.row with h | h
        · exact .inl h
        · exact .inr fun g e => by have := h g e; omega⟩
      clear g1 w2 w3 w4 w5 hst hR hy o1 o2 o3 o4 p3 c0 c1 c2 c3 hsame
      gi_wp2
      exact fin
  case done =>
    intro D r A hD hI hd
    obtain ⟨k1, -⟩ := hI
    rw [bwL_len, Nat.sub_self, List.drop_zero] at k1
    gi_wp2
    refine ⟨by simp, .inl ⟨D, _, rfl, run_takeDeferred hd, ?_⟩⟩
    refine ⟨_, results_none rfl _ _ _, ⟨_, rfl⟩, r, ?_⟩
    exact (hJ r).putObj _ k1 (by omega) hd rfl
end Go.Proofs.YtplapaojgcloaaaDoor
namespace Go.PE
open Go.PM Go.RowKit
/-- the places that steps need for wanted ones -/
def naB (xs : List St) (t : ByteArray) : ByteArray := if svalid xs && wvB t then nmN (bkS xs (wnN t.data.toList)).2 else ⟨#[]⟩
def dsS (xs : List St) (t : ByteArray) : List St := if svalid xs && wvB t then (bkS xs (wnN t.data.toList)).1 else []
theorem naB_yes {xs : List St} {t : ByteArray} (h : (svalid xs && wvB t) = true) : naB xs t = nmN (bkS xs (wnN t.data.toList)).2 := by unfold naB; rw [h]; rfl
theorem naB_no {xs : List St} {t : ByteArray} (h : (svalid xs && wvB t) = false) : naB xs t = ⟨#[]⟩ := by unfold naB; rw [h]; rfl
theorem dsS_yes {xs : List St} {t : ByteArray} (h : (svalid xs && wvB t) = true) : dsS xs t = (bkS xs (wnN t.data.toList)).1 := by unfold dsS; rw [h]; rfl
theorem dsS_no {xs : List St} {t : ByteArray} (h : (svalid xs && wvB t) = false) : dsS xs t = [] := by unfold dsS; rw [h]; rfl
def lsN (n : Nat) (pre : List (St × Nat)) : Nat := (pre.getLast?.map Prod.snd).getD n
theorem lsN_snoc (n : Nat) (pre : List (St × Nat)) (m : St × Nat) : lsN n (pre ++ [m]) = m.2 := by simp [lsN]
end Go.PE
namespace Go.Proofs.YtplapaojgcloaaaDoor
open Go.RowKit Go.PM Go.PE
attribute [local go_sem] Oper.semAt_some

theorem keptSteps_c (A : Option Addr) (n c s : Nat) (w : World) :
    Calls Tryd.prog 51 #[.slice A n c, .int .u64 s] w fun e w' => e = .returned (.func (.func 95) #[] #[.pointer (some ⟨w.heap.size + 1, 0, none⟩), .pointer (some ⟨w.heap.size, 0, none⟩)]) ∧ w' = (w.alloc (.cells #[.slice A n c] 23)).alloc (.cells #[.int .u64 s] 62) := by
  go_enter Tryd.func51, Tryd.ntmps51
  go_wp2
  go_ret
  exact ⟨rfl, rfl⟩
set_option maxRecDepth 100000 in
set_option maxHeartbeats 1600000 in
theorem imNeededAhead_c (xs : List St) (v : Value) (t : ByteArray) (ht : t.size ≤ 1048576) (w : World) (hx : RdS w v xs) (hT : Tz w) :
    Calls Tryd.prog 16 #[v, .string t] w fun e w' => e = .returned (.tuple #[.string (naB xs t), .bool (svalid xs && wvB t)]) ∧ Below w.heap.size w w' := by
  have HWO := Lib.hid (wantedOf_c t ht w hT)
  have HSV := Lib.hid (fun W hb => imSequenceValid_c xs v W (hx.below (w' := W) hb))
  rcases Bool.eq_false_or_eq_true (wvB t) with h2 | h2
  · rcases Bool.eq_false_or_eq_true (svalid xs) with h1 | h1
    · have HA : Hid ((svalid xs && wvB t) = true) := by show _ = _; rw [h1, h2]; rfl
      have HN := Lib.hid (naB_yes HA.out)
      have hlt := wn_2048 t.data.toList
      have hbl := bkS_lt hlt xs
      have HKI := Lib.hid (fun v b1 b2 => kept_iter xs h1 v b1 b2 (wnN t.data.toList) hlt 5 (by decide))
      have HLA := Lib.hid (ksL_last (wnN t.data.toList) xs)
      have HNM := Lib.hid (fun W hT => nmN_c (bkS xs (wnN t.data.toList)).2 hbl W hT)
      rw [h2] at HWO
      rw [h1] at HSV
      generalize wnN t.data.toList = s at *
      obtain ⟨Av, cv, rfl, -⟩ := hx.open
      refine (callsIn_wide (n := 6)).1 ?_
      refine callsIn_of_wp_marks Tryd.func16 rfl trivial ?_ rfl
      simp only [Tryd.ntmps16, List.size_toArray, List.length_cons, List.length_nil, Nat.reduceAdd, Nat.reduceSub, Array.replicate_succ, Array.replicate_zero, List.push_toArray, List.append_toArray, List.nil_append, List.cons_append]
      gi_wp2_with fail
      refine ⟨trivial, callsIn_wide.2 (HWO.out.mono ?_)⟩
      rintro e w1 ⟨rfl, hb1⟩
      have hs1 := hb1.size
      have bA : Below w1.heap.size w1 (w1.alloc (.cells #[.int .u64 s] 62)) := (Below.refl _ _).alloc (Nat.le_refl _) _
      have kA : At (w1.alloc (.cells #[.int .u64 s] 62)) w1.heap.size 62 #[.int .u64 s] := At.new _ _ _
      have hB1 := hb1.trans (bA.mono hs1)
      gi_wp2_with fail
      refine ⟨trivial, callsIn_wide.2 ((HSV.out _ hB1).mono ?_)⟩
      rintro e w2 ⟨rfl, hb2⟩
      have hB2 := hB1.trans (hb2.mono hB1.size)
      have hs2 := hB2.size
      have kB := kA.keep hb2
      have c1 : w2.cell? ⟨w1.heap.size, 0, none⟩ = some (.int .u64 s) := kB.cell 0
      clear kA bA hb2 hb1
      gi_wp2_with fail
      refine ⟨trivial, callsIn_wide.2 ((keptSteps_c _ _ _ s _).mono ?_)⟩
      rintro e w3 ⟨rfl, hw3⟩
      have hS3 : w3.heap.size = w2.heap.size + 2 := by rw [hw3]; simp
      have bB : Below w2.heap.size w2 w3 := by rw [hw3]; (repeat' (first | (with_reducible exact Below.refl _ _) | (with_reducible assumption) | (with_reducible refine Below.alloc ?_ ?_ _) | (with_reducible refine Below.drew ?_) | (with_reducible refine Below.setCell ?_ ?_ _) | (with_reducible exact Nat.le_refl _) | omega | ((repeat (first | rewrite [World.size_alloc] | rewrite [World.size_setCell] | rewrite [World.size_drew])); omega) | (simp; omega) | (simp; done)))
      have kQ : At w3 w2.heap.size 23 #[.slice Av xs.length cv] := by rw [hw3]; exact (At.new w2 _ _).alloc _
      have kS : At w3 (w2.heap.size + 1) 62 #[.int .u64 s] := by
        rw [hw3]; have := At.new (w2.alloc (.cells #[.slice Av xs.length cv] 23)) 62 #[.int .u64 s]
        rwa [World.size_alloc] at this
      have hB3 := hB2.trans (bB.mono hs2)
      have kC := kB.keep bB
      have hlB := kB.lt
      clear hw3 kB bB c1 hB1 HSV HWO
      gi_wp2
      refine range_lawN (F := Fence.wide) (Pr := fun A => At A (w2.heap.size + 1) 62 #[.int .u64 s] ∧ At A w2.heap.size 23 #[.slice Av xs.length cv] ∧ RdS A (.slice Av xs.length cv) xs) (gf := 95) (lf := #[]) (lb := #[.pointer (some ⟨w2.heap.size + 1, 0, none⟩), .pointer (some ⟨w2.heap.size, 0, none⟩)]) rfl (by decide) rfl trivial (fun args w => rfl) (encs := fun m : St × Nat => #[.agg #[.int .i64 m.1.1, .string m.1.2.1, .string m.1.2.2], .int .u64 m.2]) (xs := ksL s xs)
        (HKI.out _ _ _) (fun _ => rfl)
        (fun r pre A => r = none ∧ At A w1.heap.size 62 #[.int .u64 (lsN s pre : Nat)] ∧ At A (w2.heap.size + 1) 62 #[.int .u64 s] ∧ At A w2.heap.size 23 #[.slice Av xs.length cv] ∧ Below w.heap.size w A) none ?pr ?wr ?own ?start
        (fun m a' A => a' = { tmps := #[.slice Av xs.length cv, .string t, undef, undef, .string ⟨#[]⟩, .bool false, .pointer (some ⟨w1.heap.size, 0, none⟩), .bool true, undef, .int .u64 m.2, .tuple #[.int .u64 s, .bool true], .string t, .tuple #[.int .u64 s, .bool true], .int .u64 s, .bool true, .bool true, .bool false, .bool false, .slice Av xs.length cv, .bool true, .bool false, .bool false, .slice Av xs.length cv, .int .u64 s, .func (.func 95) #[] #[.pointer (some ⟨w2.heap.size + 1, 0, none⟩), .pointer (some ⟨w2.heap.size, 0, none⟩)], .agg #[.int .i64 m.1.1, .string m.1.2.1, .string m.1.2.2], .int .u64 m.2, undef, undef, undef], defers := [] }) ?ax ?assign ?body ?done
      case pr =>
        rintro r pre A ⟨rfl, k1, k2, k3, k4⟩
        exact ⟨⟨k2, k3, hx.below k4⟩, fun g e => by cases e⟩
      case wr =>
        rintro r pre A A' b ⟨rfl, k1, k2, k3, k4⟩ hb hne hg
        exact ⟨rfl, k1.grown hg (fun e => by cases e; omega), k2.grown hg (fun e => by cases e; omega), k3.grown hg (fun e => by cases e; omega), k4.trans (below_grown hg k4.size (fun g e => by cases e; omega))⟩
      case own =>
        rintro r pre A A' row ⟨rfl, k1, k2, k3, k4⟩ hg hr
        have ht := fun q e => (hr q e).2
        exact ⟨rfl, k1.turn hg ht, k2.turn hg ht, k3.turn hg ht, k4.trans (below_grown hg k4.size (fun g e => by have := (hr g e).1; omega))⟩
      case start => exact ⟨rfl, kC, kS, kQ, hB3⟩
      case ax =>
        rintro m a' u A A' row k1 hg hr
        exact k1
      case assign =>
        intro l r pre m A K hI hp hsz hK
        gi_wp2
        exact hK _ _ (Below.refl _ _) hI rfl
      case body =>
        rintro l r pre m a' A ⟨rfl, k1, k2, k3, k4⟩ rfl hp hsz
        have hsn := lsN_snoc s pre m
        have c1 : A.cell? ⟨w1.heap.size, 0, none⟩ = some (.int .u64 (lsN s pre : Nat)) := k1.cell 0
        have f1 := k1.frozen 0
        have l1 := k1.lt
        have n1 : At (A.setCell ⟨w1.heap.size, 0, none⟩ (.int .u64 (m.2 : Nat))) w1.heap.size 62 #[.int .u64 (lsN s (pre ++ [m]) : Nat)] := by
          rw [hsn]; exact k1.set 0 _
        have n2 := k2.far (p := ⟨w1.heap.size, 0, none⟩) (by simp; omega) (.int .u64 (m.2 : Nat))
        have n3 := k3.far (p := ⟨w1.heap.size, 0, none⟩) (by simp; omega) (.int .u64 (m.2 : Nat))
        have n4 := k4.setCell (p := ⟨w1.heap.size, 0, none⟩) hs1 (.int .u64 (m.2 : Nat))
        have hst : RowStep w3.heap.size none none A (A.setCell ⟨w1.heap.size, 0, none⟩ (.int .u64 (m.2 : Nat))) := ⟨by simp [World.size_setCell], fun q h1 _ _ => heap_setCell_other _ _ _ _ (by simp; omega), .inl rfl⟩
        clear k1 k2 k3 k4 hp
        gi_wp2
        exact ⟨none, ⟨rfl, n1, n2, n3, n4⟩, hst⟩
      case done =>
        intro D r A hD hI hd
        obtain ⟨rfl, k1, -, -, k4⟩ := hI
        have hls : lsN s (ksL s xs) = (bkS xs s).2 := HLA.out
        rw [hls] at k1
        have c1 : A.cell? ⟨w1.heap.size, 0, none⟩ = some (.int .u64 ((bkS xs s).2 : Nat)) := k1.cell 0
        have hnm := HNM.out A (hT.below k4)
        have hs4 := k4.size
        clear k1 hls
        gi_wp2_with fail
        refine ⟨trivial, callsIn_wide.2 (hnm.mono ?_)⟩
        rintro e w5 ⟨rfl, hb5⟩
        have hB5 := k4.trans (hb5.mono hs4)
        have hd5 : w5.heap[D]? = some (.deferred (some [])) := (hb5.block D (Array.getElem?_eq_some_iff.1 hd).1).trans hd
        gi_wp2
        refine ⟨by simp, .inl ⟨D, _, rfl, run_takeDeferred hd5, ?_⟩⟩
        exact ⟨_, results_tmp2 rfl _ _ _, by rw [HA.out, HN.out]; rfl, hB5.trans ⟨rfl, rfl, rfl, by simp [World.putObj], fun k hk => World.putObj_heap_other (by omega)⟩⟩
    · have HA : Hid ((svalid xs && wvB t) = false) := by show _ = _; rw [h1]; rfl
      have HN := Lib.hid (naB_no HA.out)
      rw [h2] at HWO
      rw [h1] at HSV
      generalize wnN t.data.toList = s at *
      obtain ⟨Av, cv, rfl, -⟩ := hx.open
      go_enter Tryd.func16, Tryd.ntmps16
      go_wp2_with fail
      refine HWO.out.mono ?_
      rintro e w1 ⟨rfl, hb1⟩
      have hs1 := hb1.size
      have hB1 : Below w.heap.size w (w1.alloc (.cells #[.int .u64 s] 62)) := hb1.alloc hs1 _
      go_wp2_with fail
      refine (HSV.out _ hB1).mono ?_
      rintro e w2 ⟨rfl, hb2⟩
      have hB2 := hB1.trans (hb2.mono hB1.size)
      go_wp2
      go_ret2
      exact ⟨by rw [HA.out, HN.out]; rfl, hB2⟩
  · have HA : Hid ((svalid xs && wvB t) = false) := by show _ = _; rw [h2, Bool.and_false]
    have HN := Lib.hid (naB_no HA.out)
    rw [h2] at HWO
    generalize wnN t.data.toList = s at *
    obtain ⟨Av, cv, rfl, -⟩ := hx.open
    go_enter Tryd.func16, Tryd.ntmps16
    go_wp2_with fail
    refine HWO.out.mono ?_
    rintro e w1 ⟨rfl, hb1⟩
    have hB1 : Below w.heap.size w (w1.alloc (.cells #[.int .u64 s] 62)) := hb1.alloc hb1.size _
    go_wp2
    go_ret2
    exact ⟨by rw [HA.out, HN.out]; rfl, hB1⟩
end Go.Proofs.YtplapaojgcloaaaDoor
namespace Go.PE
open Go.PM Go.RowKit
theorem scells_set (xs : List St) (k : Nat) (hk : k < xs.length) (m : St) : (((scells xs).set (k*3) (.int .i64 m.1)).set (k*3+1) (.string m.2.1)).set (k*3+2) (.string m.2.2) = scells (xs.set k m) := by
  have hl : (scells (xs.take k)).length = k * 3 := by rw [scells_length, List.length_take]; omega
  have e1 : scells xs = scells (xs.take k) ++ scells (xs[k] :: xs.drop (k + 1)) := by rw [← scells_append, ← List.drop_eq_getElem_cons hk, List.take_append_drop]
  have e2 : scells (xs.set k m) = scells (xs.take k) ++ scells (m :: xs.drop (k + 1)) := by rw [← scells_append, List.set_eq_take_append_cons_drop, if_pos hk]
  rw [e1, e2, List.set_append_right _ _ (by omega), List.set_append_right _ _ (by omega), List.set_append_right _ _ (by omega), hl]
  rw [show k * 3 - k * 3 = 0 by omega, show k * 3 + 1 - k * 3 = 1 by omega, show k * 3 + 2 - k * 3 = 2 by omega, scells_cons, scells_cons]
  rfl
def zSt1 : St := (0, ⟨#[]⟩, ⟨#[]⟩)
/-- a list whose first and last i elements have changed places -/
def rvL (xs : List St) (i : Nat) : List St := (List.range xs.length).map fun q => if q < i ∨ xs.length ≤ q + i then xs.getD (xs.length - 1 - q) zSt1 else xs.getD q zSt1
theorem rvL_len (xs : List St) (i : Nat) : (rvL xs i).length = xs.length := by simp [rvL]
theorem rvL_get (xs : List St) (i q : Nat) (hq : q < (rvL xs i).length) : (rvL xs i)[q] = if q < i ∨ xs.length ≤ q + i then xs.getD (xs.length - 1 - q) zSt1 else xs.getD q zSt1 := by simp [rvL]
theorem getD_of (xs : List St) (q : Nat) (hq : q < xs.length) : xs.getD q zSt1 = xs[q] := by simp [hq]
theorem rv_zero (xs : List St) : rvL xs 0 = xs := by
  refine List.ext_getElem (rvL_len _ _) fun q h1 h2 => ?_
  rw [rvL_get, if_neg (by omega), getD_of xs q h2]
theorem rv_full (xs : List St) (i : Nat) (h : xs.length ≤ 2 * i + 1) : rvL xs i = xs.reverse := by
  refine List.ext_getElem (by rw [rvL_len, List.length_reverse]) fun q h1 h2 => ?_
  rw [List.length_reverse] at h2
  rw [rvL_get, List.getElem_reverse]
  split
  · rw [getD_of _ _ (by omega)]
  · rw [getD_of xs q h2]
    have : xs.length - 1 - q = q := by omega
    simp only [this]
theorem rv_mid (xs : List St) (i q : Nat) (h1 : i ≤ q) (h2 : q + i < xs.length) : (rvL xs i)[q]? = some xs[q] := by
  have hq : q < (rvL xs i).length := by rw [rvL_len]; omega
  rw [List.getElem?_eq_getElem hq, rvL_get, if_neg (by omega), getD_of xs q (by omega)]
theorem rv_step (xs : List St) (i j : Nat) (h : i + j + 1 = xs.length) (hij : i < j) : ((rvL xs i).set i xs[j]).set j xs[i] = rvL xs (i + 1) := by
  refine List.ext_getElem (by simp [rvL_len]) fun q h1 h2 => ?_
  rw [rvL_len] at h2
  rw [List.getElem_set, List.getElem_set, rvL_get, rvL_get]
  by_cases e1 : j = q
  · subst e1
    rw [if_pos rfl, if_pos (by omega), getD_of _ _ (by omega)]
    have : xs.length - 1 - j = i := by omega
    simp only [this]
  · rw [if_neg e1]
    by_cases e2 : i = q
    · subst e2
      rw [if_pos rfl, if_pos (by omega), getD_of _ _ (by omega)]
      have : xs.length - 1 - i = j := by omega
      simp only [this]
    · rw [if_neg e2]
      by_cases e3 : q < i ∨ xs.length ≤ q + i
      · rw [if_pos e3, if_pos (by omega)]
      · rw [if_neg e3, if_neg (by omega)]
end Go.PE
namespace Go.Proofs.YtplapaojgcloaaaDoor
open Go.RowKit Go.PM Go.PE
attribute [local go_sem] Oper.semAt_some

set_option maxRecDepth 100000 in
set_option maxHeartbeats 1600000 in
theorem reverse_c (xs : List St) (v : Value) (b : Nat) (hl : xs.length ≤ 1048576) (w : World) (ho : w.ownsRow b 72 3 v xs.length (scells xs)) :
    Calls Tryd.prog 52 #[v] w fun e w' => (∃ v', e = .returned v') ∧ w'.ownsRow b 72 3 v xs.length (scells xs.reverse) ∧ w.grownBy w' v.ownBlock := by
  have hg0 : w.grownBy w v.ownBlock := ⟨rfl, rfl, rfl, Nat.le_refl _, fun _ _ _ => rfl⟩
  by_cases h0 : xs.length = 0
  · have hx : xs = [] := List.eq_nil_of_length_eq_zero h0
    subst hx
    obtain ⟨A, cap, rfl, -⟩ := Rd.of_own ho
    go_enter Tryd.func52, Tryd.ntmps52
    go_wp2
    go_loopw [2, 3] (fun i j wr => i = .int .i64 0 ∧ j = .int .i64 (-1) ∧ wr = w) (fun _ _ _ => 0)
    case atStart => exact ⟨rfl, rfl, rfl⟩
    case round =>
      obtain ⟨rfl, rfl, rfl⟩ := hrel
      go_wp2
      go_end0
      exact ⟨⟨_, rfl⟩, ho, hg0⟩
  · obtain ⟨g, cap, rfl⟩ : ∃ g cap, v = .slice (some ⟨g, 0, none⟩) xs.length cap := by
      rcases ho.2 with ⟨_, h⟩ | ⟨g, cap, cur, e, _⟩
      · exact absurd h h0
      · exact ⟨g, cap, e⟩
    have ho0 : w.ownsRow b 72 3 (.slice (some ⟨g, 0, none⟩) xs.length cap) xs.length (scells (rvL xs 0)) := by rw [rv_zero]; exact ho
    clear ho
    go_enter Tryd.func52, Tryd.ntmps52
    go_wp2
    go_loopw [2, 3] (fun i j wr => ∃ k : Nat, k ≤ xs.length ∧ i = .int .i64 k ∧ j = .int .i64 ((xs.length : Int) - 1 - k) ∧ wr.ownsRow b 72 3 (.slice (some ⟨g, 0, none⟩) xs.length cap) xs.length (scells (rvL xs k)) ∧ w.grownBy wr (some g)) (fun i _ _ => xs.length - (RowKit.intOf i).toNat)
    case atStart => exact ⟨0, by omega, rfl, by simp, ho0, hg0⟩
    case round =>
      clear ho0 hg0
      obtain ⟨k, hk, rfl, rfl, ho, hg⟩ := hrel
      by_cases hlt : (k : Int) < (xs.length : Int) - 1 - k
      · obtain ⟨j, hj⟩ : ∃ j : Nat, k + j + 1 = xs.length := ⟨xs.length - 1 - k, by omega⟩
        have ej : (xs.length : Int) - 1 - (k : Int) = (j : Int) := by omega
        rw [ej] at hlt ⊢
        have hkj : k < j := by omega
        have hrk := rv_mid xs k k (by omega) (by omega)
        have hrj := rv_mid xs k j (by omega) (by omega)
        have a1 := scells_at _ _ _ hrk
        have a2 := scells_at _ _ _ hrj
        have HST := Lib.hid (rv_step xs k j hj hkj)
        have HS1 := Lib.hid (scells_set (rvL xs k) k (by rw [rvL_len]; omega) xs[j])
        have HS2 := Lib.hid (scells_set ((rvL xs k).set k xs[j]) j (by rw [List.length_set, rvL_len]; omega) xs[k])
        generalize xs[k].1 = x1 at *
        generalize xs[k].2.1 = x2 at *
        generalize xs[k].2.2 = x3 at *
        generalize xs[j].1 = y1 at *
        generalize xs[j].2.1 = y2 at *
        generalize xs[j].2.2 = y3 at *
        have m1 := (ho.cellAt (k * 3) (by omega)).trans a1.1
        have m2 := (ho.cellAt (k * 3 + 1) (by omega)).trans a1.2.1
        have m3 := (ho.cellAt (k * 3 + 2) (by omega)).trans a1.2.2
        have n1 := (ho.cellAt (j * 3) (by omega)).trans a2.1
        have n2 := (ho.cellAt (j * 3 + 1) (by omega)).trans a2.2.1
        have n3 := (ho.cellAt (j * 3 + 2) (by omega)).trans a2.2.2
        have i0 : (0 : Int) ≤ (k : Int) := by omega
        have i1 : (k : Int) < (xs.length : Int) := by omega
        have i2 : (0 : Int) ≤ (j : Int) := by omega
        have i3 : (j : Int) < (xs.length : Int) := by omega
        have ex : ∀ (W : World) (cs : List Value) (i : Nat), W.ownsRow b 72 3 (.slice (some ⟨g, 0, none⟩) xs.length cap) xs.length cs → i < xs.length * 3 → ∃ u, W.cell? ⟨g, i, none⟩ = some u := fun W cs i h hi =>
          ⟨_, (h.cellAt i hi).trans (List.getElem?_eq_getElem (by rw [h.1]; exact hi))⟩
        have h1 := (ho.stored (k * 3) (.int .i64 y1)).1
        have h2 := (h1.stored (k * 3 + 1) (.string y2)).1
        have h3 := (h2.stored (k * 3 + 2) (.string y3)).1
        have h4 := (h3.stored (j * 3) (.int .i64 x1)).1
        have h5 := (h4.stored (j * 3 + 1) (.string x2)).1
        have h6 := (h5.stored (j * 3 + 2) (.string x3)).1
        obtain ⟨u1, e1⟩ := ex _ _ (k * 3 + 1) h1 (by omega)
        obtain ⟨u2, e2⟩ := ex _ _ (k * 3 + 2) h2 (by omega)
        obtain ⟨u3, e3⟩ := ex _ _ (j * 3) h3 (by omega)
        obtain ⟨u4, e4⟩ := ex _ _ (j * 3 + 1) h4 (by omega)
        obtain ⟨u5, e5⟩ := ex _ _ (j * 3 + 2) h5 (by omega)
        have z0 := ho.frozenAt (k * 3)
        have z1 := h1.frozenAt (k * 3 + 1)
        have z2 := h2.frozenAt (k * 3 + 2)
        have z3 := h3.frozenAt (j * 3)
        have z4 := h4.frozenAt (j * 3 + 1)
        have z5 := h5.frozenAt (j * 3 + 2)
        have H6 := h6
        rw [HS1.out, HS2.out, HST.out] at H6
        have hgg := grown_trans hg (grown_trans (grown_cellR wr g (k * 3) (.int .i64 y1)) (grown_trans (grown_cellR _ g (k * 3 + 1) (.string y2)) (grown_trans (grown_cellR _ g (k * 3 + 2) (.string y3)) (grown_trans (grown_cellR _ g (j * 3) (.int .i64 x1)) (grown_trans (grown_cellR _ g (j * 3 + 1) (.string x2)) (grown_cellR _ g (j * 3 + 2) (.string x3)))))))
        clear h1 h2 h3 h4 h5 h6 ho hg ex a1 a2 hrk hrj
        go_wp2
        go_region
        obtain ⟨W2, hW2⟩ : ∃ W2, W2 = ((((((wr.setCell ⟨g, k * 3, none⟩ (.int .i64 y1)).setCell ⟨g, k * 3 + 1, none⟩ (.string y2)).setCell ⟨g, k * 3 + 2, none⟩ (.string y3)).setCell ⟨g, j * 3, none⟩ (.int .i64 x1)).setCell ⟨g, j * 3 + 1, none⟩ (.string x2)).setCell ⟨g, j * 3 + 2, none⟩ (.string x3)).drew := ⟨_, rfl⟩
        have hO2 : W2.ownsRow b 72 3 (.slice (some ⟨g, 0, none⟩) xs.length cap) xs.length (scells (rvL xs (k + 1))) := by rw [hW2]; exact own_keep H6 ((Below.refl _ _).drew)
        have hG2 : w.grownBy W2 (some g) := by rw [hW2]; exact grown_trans hgg (grown_below ((Below.refl _ _).drew) (some g))
        rw [← hW2]
        clear hW2 H6 hgg m1 m2 m3 n1 n2 n3 e1 e2 e3 e4 e5 z0 z1 z2 z3 z4 z5
        go_wp2
        go_roundw
        case rel => exact ⟨k + 1, by omega, by go_num, by go_num, hO2, hG2⟩
        case measure => simp [RowKit.intOf]; omega
      · have HR := Lib.hid (rv_full xs k (by omega))
        rw [HR.out] at ho
        go_wp2
        go_end0
        exact ⟨⟨_, rfl⟩, ho, hg⟩
end Go.Proofs.YtplapaojgcloaaaDoor
namespace Go.PE
open Go.PM Go.RowKit
theorem own_not_def {w : World} {base : Nat} {e : TypeId} {size n D : Nat} {v : Value} {cs : List Value} {x : Option (List Deferred)} (h : w.ownsRow base e size v n cs) (hd : w.heap[D]? = some (.deferred x)) : v.ownBlock ≠ some D := by
  intro e'
  rcases h.2 with ⟨rfl, _⟩ | ⟨g, cap, cur, rfl, _, hg, _⟩
  · cases e'
  · cases e'
    rw [hg] at hd; cases hd
theorem fst_snoc (pre : List (St × Nat)) (m : St × Nat) : (pre ++ [m]).map Prod.fst = pre.map Prod.fst ++ [m.1] := by simp
end Go.PE
namespace Go.Proofs.YtplapaojgcloaaaDoor
open Go.RowKit Go.PM Go.PE
attribute [local go_sem] Oper.semAt_some

theorem infoStD : (Tryd.prog.info? 72).map (fun i => (i.zero, i.size, i.bytes)) = some (some (.agg #[.int .i64 0, .string ⟨#[]⟩, .string ⟨#[]⟩]), 3, 40) := by kernel_rfl
set_option maxRecDepth 100000 in
set_option maxHeartbeats 3200000 in
theorem imDropSteps_c (xs : List St) (v : Value) (t : ByteArray) (ht : t.size ≤ 1048576) (w : World) (hx : RdS w v xs) (hT : Tz w) :
    Calls Tryd.prog 14 #[v, .string t] w fun e w' => ∃ v', e = .returned (.tuple #[v', .bool (svalid xs && wvB t)]) ∧ w'.ownsRow w.heap.size 72 3 v' (dsS xs t).length (scells (dsS xs t)) ∧ Below w.heap.size w w' := by
  have HWO := Lib.hid (wantedOf_c t ht w hT)
  have HSV := Lib.hid (fun W hb => imSequenceValid_c xs v W (hx.below (w' := W) hb))
  have hown0 : ∀ W : World, W.ownsRow w.heap.size 72 3 (.slice none 0 0) ([] : List St).length (scells []) := fun W => ⟨rfl, .inl ⟨rfl, rfl⟩⟩
  rcases Bool.eq_false_or_eq_true (wvB t) with h2 | h2
  · rcases Bool.eq_false_or_eq_true (svalid xs) with h1 | h1
    · have HA : Hid ((svalid xs && wvB t) = true) := by show _ = _; rw [h1, h2]; rfl
      have HN := Lib.hid (dsS_yes HA.out)
      have hlt := wn_2048 t.data.toList
      have hlen := svalid_len h1
      have HKI := Lib.hid (fun v b1 b2 => kept_iter xs h1 v b1 b2 (wnN t.data.toList) hlt 5 (by decide))
      have HFS := Lib.hid (ksL_fst (wnN t.data.toList) xs)
      have hkl := ksL_len (wnN t.data.toList) xs
      rw [h2] at HWO
      rw [h1] at HSV
      generalize wnN t.data.toList = s at *
      obtain ⟨Av, cv, rfl, -⟩ := hx.open
      refine (callsIn_wide (n := 6)).1 ?_
      refine callsIn_of_wp_marks Tryd.func14 rfl trivial ?_ rfl
      simp only [Tryd.ntmps14, List.size_toArray, List.length_cons, List.length_nil, Nat.reduceAdd, Nat.reduceSub, Array.replicate_succ, Array.replicate_zero, List.push_toArray, List.append_toArray, List.nil_append, List.cons_append]
      gi_wp2_with fail
      refine ⟨trivial, callsIn_wide.2 (HWO.out.mono ?_)⟩
      rintro e w1 ⟨rfl, hB1⟩
      have hs1 := hB1.size
      gi_wp2_with fail
      refine ⟨trivial, callsIn_wide.2 ((HSV.out _ hB1).mono ?_)⟩
      rintro e w2 ⟨rfl, hb2⟩
      have hB2 := hB1.trans (hb2.mono hB1.size)
      have hs2 := hB2.size
      have bA : Below w2.heap.size w2 (w2.alloc (.cells #[.slice none 0 0] 23)) := (Below.refl _ _).alloc (Nat.le_refl _) _
      have kA : At (w2.alloc (.cells #[.slice none 0 0] 23)) w2.heap.size 23 #[.slice none 0 0] := At.new _ _ _
      have hBA := hB2.trans (bA.mono hs2)
      have hsA : (w2.alloc (.cells #[.slice none 0 0] 23)).heap.size = w2.heap.size + 1 := by simp
      clear hb2 bA
      gi_wp2_with fail
      refine ⟨trivial, callsIn_wide.2 ((keptSteps_c _ _ _ s _).mono ?_)⟩
      rintro e w3 ⟨rfl, hw3⟩
      generalize (w2.alloc (.cells #[.slice none 0 0] 23)) = wA at *
      have hS3 : w3.heap.size = wA.heap.size + 2 := by rw [hw3]; simp
      have bB : Below wA.heap.size wA w3 := by rw [hw3]; (repeat' (first | (with_reducible exact Below.refl _ _) | (with_reducible assumption) | (with_reducible refine Below.alloc ?_ ?_ _) | (with_reducible refine Below.drew ?_) | (with_reducible refine Below.setCell ?_ ?_ _) | (with_reducible exact Nat.le_refl _) | omega | ((repeat (first | rewrite [World.size_alloc] | rewrite [World.size_setCell] | rewrite [World.size_drew])); omega) | (simp; omega) | (simp; done)))
      have kQ : At w3 wA.heap.size 23 #[.slice Av xs.length cv] := by rw [hw3]; exact (At.new wA _ _).alloc _
      have kS : At w3 (wA.heap.size + 1) 62 #[.int .u64 s] := by
        rw [hw3]; have := At.new (wA.alloc (.cells #[.slice Av xs.length cv] 23)) 62 #[.int .u64 s]
        rwa [World.size_alloc] at this
      have hB3 := hBA.trans (bB.mono hBA.size)
      have kC := kA.keep bB
      clear hw3 kA bB hB1 HSV HWO hBA hB2
      gi_wp2
      rw [hsA] at kQ kS
      have hS4 : w3.heap.size = w2.heap.size + 3 := by omega
      refine range_lawN (F := Fence.wide) (Pr := fun A => At A (w2.heap.size + 1 + 1) 62 #[.int .u64 s] ∧ At A (w2.heap.size + 1) 23 #[.slice Av xs.length cv] ∧ RdS A (.slice Av xs.length cv) xs) (gf := 95) (lf := #[]) (lb := #[.pointer (some ⟨w2.heap.size + 1 + 1, 0, none⟩), .pointer (some ⟨w2.heap.size + 1, 0, none⟩)]) rfl (by decide) rfl trivial (fun args w => rfl) (encs := fun m : St × Nat => #[.agg #[.int .i64 m.1.1, .string m.1.2.1, .string m.1.2.2], .int .u64 m.2]) (xs := ksL s xs)
        (HKI.out _ _ _) (fun _ => rfl)
        (fun r pre A => (∃ o, RowAt A w2.heap.size 23 w.heap.size 72 3 r pre.length (scells (pre.map Prod.fst)) o) ∧ At A (w2.heap.size + 1 + 1) 62 #[.int .u64 s] ∧ At A (w2.heap.size + 1) 23 #[.slice Av xs.length cv] ∧ Below w.heap.size w A) none ?pr ?wr ?own ?start
        (fun m a' A => ∃ b, At A b 72 #[.int .i64 m.1.1, .string m.1.2.1, .string m.1.2.2] ∧ a' = { tmps := #[.slice Av xs.length cv, .string t, undef, undef, .slice none 0 0, .bool false, .int .u64 s, .bool true, .pointer (some ⟨w2.heap.size, 0, none⟩), .pointer (some ⟨b, 0, none⟩), .tuple #[.int .u64 s, .bool true], .string t, .tuple #[.int .u64 s, .bool true], .int .u64 s, .bool true, .bool true, .bool false, .bool false, .slice Av xs.length cv, .bool true, .bool false, .bool false, .slice Av xs.length cv, .int .u64 s, .func (.func 95) #[] #[.pointer (some ⟨w2.heap.size + 1 + 1, 0, none⟩), .pointer (some ⟨w2.heap.size + 1, 0, none⟩)], .agg #[.int .i64 m.1.1, .string m.1.2.1, .string m.1.2.2], .int .u64 m.2, undef, undef, undef, undef, undef, undef, undef], defers := [] }) ?ax ?assign ?body ?done
      case pr =>
        rintro r pre A ⟨⟨o, ho⟩, k2, k3, k4⟩
        exact ⟨⟨k2, k3, hx.below k4⟩, ho.lives⟩
      case wr =>
        rintro r pre A A' b ⟨⟨o, h1, h2, h3⟩, k2, k3, k4⟩ hb hne hg
        exact ⟨⟨o, h1.grown hg (fun e => by cases e; omega), own_grown h2 hg (.inl (by rw [h3]; exact fun e => hne e.symm)), h3⟩, k2.grown hg (fun e => by cases e; omega), k3.grown hg (fun e => by cases e; omega), k4.trans (below_grown hg k4.size (fun g e => by cases e; omega))⟩
      case own =>
        rintro r pre A A' row ⟨⟨o, ho⟩, k2, k3, k4⟩ hg hr
        have ht := fun q e => (hr q e).2
        exact ⟨⟨o, ho.turn hg ht⟩, k2.turn hg ht, k3.turn hg ht, k4.trans (below_grown hg k4.size (fun g e => by have := (hr g e).1; omega))⟩
      case start => exact ⟨⟨_, kC, ⟨rfl, .inl ⟨rfl, rfl⟩⟩, rfl⟩, kS, kQ, hB3⟩
      case ax =>
        rintro m a' u A A' row ⟨b, k1, k2⟩ hg hr
        exact ⟨b, k1.turn hg (fun r e => (hr r e).2), k2⟩
      case assign =>
        intro l r pre m A K hI hp hsz hK
        obtain ⟨⟨o, k1, k2, k3⟩, k4, k5, k6⟩ := hI
        have hbl : Below A.heap.size A (A.alloc (.cells #[.int .i64 m.1.1, .string m.1.2.1, .string m.1.2.2] 72)) := (Below.refl _ _).alloc (Nat.le_refl _) _
        have r1 : ∃ o, RowAt (A.alloc (.cells #[.int .i64 m.1.1, .string m.1.2.1, .string m.1.2.2] 72)) w2.heap.size 23 w.heap.size 72 3 r pre.length (scells (pre.map Prod.fst)) o := ⟨o, k1.alloc _, own_keep k2 hbl, k3⟩
        have r2 := At.new A 72 #[.int .i64 m.1.1, .string m.1.2.1, .string m.1.2.2]
        have r4 := k4.keep hbl
        have r5 := k5.keep hbl
        have r6 := k6.trans (hbl.mono k6.size)
        clear k1 k2 k3 k4 k5 k6
        gi_wp2
        exact hK _ _ hbl ⟨r1, r4, r5, r6⟩ ⟨_, r2, rfl⟩
      case body =>
        rintro l r pre m a' W ⟨⟨o, k1, k2, k0⟩, k4, k5, k3⟩ ⟨b, q1, rfl⟩ hp hsz
        have hpl : pre.length + 1 ≤ xs.length := by have := hp.length_le; simp at this; omega
        have hpn : (pre ++ [m]).length = pre.length + 1 := by simp
        have c0 : W.cell? ⟨b, 0, none⟩ = some (.int .i64 m.1.1) := q1.cell 0
        have c1 : W.cell? ⟨b, 1, none⟩ = some (.string m.1.2.1) := q1.cell 1
        have c2 : W.cell? ⟨b, 2, none⟩ = some (.string m.1.2.2) := q1.cell 2
        have c3 : W.cell? ⟨w2.heap.size, 0, none⟩ = some o := k1.cell 0
        have hl1 := k1.lt
        have hnw := three_new W (.int .i64 m.1.1) (.string m.1.2.1) (.string m.1.2.2) 72
        have hbs := k3.size
        gi_wp2_with (gi_at_builtin; refine held ?_)
        unfold Held
        obtain ⟨i0, hi0, hz0, hz1, hz2⟩ := info_parts infoStD
        refine wpListIn_lies rfl (.tmp 27) (.tmp 29) 23 rfl w.heap.size 72 i0 _ 3 40 Tryd.underlying23 hi0 hz0 hz1 hz2 rfl (by omega) o pre.length (scells (pre.map Prod.fst)) (by rfl) (own_keep k2 ((Below.refl _ _).alloc (Nat.le_refl _) _)) ⟨W.heap.size, 0, none⟩ 1 1 [Value.int .i64 m.1.1, Value.string m.1.2.1, Value.string m.1.2.2] (by rfl) rfl hnw
          (by intro u hu; simp at hu; rcases hu with rfl | rfl | rfl <;> rfl) (by omega) (by simp only [maxLen]; omega) (by omega) (by simp; omega) ?_
        intro g cap W3 hown3 hgrow3 hlies hg3
        have bn : Below W.heap.size W (W.alloc (.cells #[.int .i64 m.1.1, .string m.1.2.1, .string m.1.2.2] 72)) := (Below.refl _ _).alloc (Nat.le_refl _) _
        have j1 : At W3 w2.heap.size 23 #[o] := (k1.keep bn).grown hgrow3 (own_box_ne k2 k1 (by decide))
        have j4 : At W3 (w2.heap.size + 1 + 1) 62 #[.int .u64 s] := (k4.keep bn).grown hgrow3 (own_box_ne k2 k4 (by decide))
        have j5 : At W3 (w2.heap.size + 1) 23 #[.slice Av xs.length cv] := (k5.keep bn).grown hgrow3 (own_box_ne k2 k5 (by decide))
        have d1 := j1.cell 0
        have d2 := j1.frozen 0
        have hge := own_block_ge k2
        have hne3 := own_box_ne hown3 j1 (by decide)
        have hcs : scells (pre.map Prod.fst) ++ [Value.int .i64 m.1.1, Value.string m.1.2.1, Value.string m.1.2.2] = scells ((pre ++ [m]).map Prod.fst) := by rw [fst_snoc, scells_append]; simp [scells]
        rw [hcs] at hown3
        have m1 : At (W3.setCell ⟨w2.heap.size, 0, none⟩ (.slice (some ⟨g, 0, none⟩) (pre.length + 1) cap)) w2.heap.size 23 #[.slice (some ⟨g, 0, none⟩) (pre.length + 1) cap] := j1.set 0 _
        have m4 := j4.far (p := ⟨w2.heap.size, 0, none⟩) (by simp; omega) (.slice (some ⟨g, 0, none⟩) (pre.length + 1) cap)
        have m5 := j5.far (p := ⟨w2.heap.size, 0, none⟩) (by simp) (.slice (some ⟨g, 0, none⟩) (pre.length + 1) cap)
        have hown4 := hown3.kept (grownBy_setCell' W3 w2.heap.size _) (.inr hne3.symm) (w' := W3.setCell ⟨w2.heap.size, 0, none⟩ (.slice (some ⟨g, 0, none⟩) (pre.length + 1) cap))
        have hB4 : Below w.heap.size w W3 := (k3.trans (bn.mono hbs)).trans (below_grown hgrow3 (by simp; omega) (fun g e => hge g e))
        have hB5 := hB4.setCell (p := ⟨w2.heap.size, 0, none⟩) hs2 (.slice (some ⟨g, 0, none⟩) (pre.length + 1) cap)
        have hst : RowStep w3.heap.size r (some g) W (W3.setCell ⟨w2.heap.size, 0, none⟩ (.slice (some ⟨g, 0, none⟩) (pre.length + 1) cap)) := by
          have hz3 := hgrow3.size
          simp at hz3
          refine ⟨by simp [World.size_setCell]; omega, fun k h1 h2 h3 => ?_, ?_⟩
          · rw [heap_setCell_other _ _ _ _ (by simp; omega), hgrow3.block k (by simp; omega) (by rw [k0]; exact h3)]
            exact Below.heap_alloc _ _ _ h2
          · rcases hlies with h | h
            · exact .inl (by rw [← h, k0])
            · exact .inr fun q e => by cases e; rw [h]; simp
        have fin : ∃ r', ((∃ o, RowAt (W3.setCell ⟨w2.heap.size, 0, none⟩ (.slice (some ⟨g, 0, none⟩) (pre.length + 1) cap)) w2.heap.size 23 w.heap.size 72 3 r' (pre ++ [m]).length (scells ((pre ++ [m]).map Prod.fst)) o) ∧ At (W3.setCell ⟨w2.heap.size, 0, none⟩ (.slice (some ⟨g, 0, none⟩) (pre.length + 1) cap)) (w2.heap.size + 1 + 1) 62 #[.int .u64 s] ∧ At (W3.setCell ⟨w2.heap.size, 0, none⟩ (.slice (some ⟨g, 0, none⟩) (pre.length + 1) cap)) (w2.heap.size + 1) 23 #[.slice Av xs.length cv] ∧ Below w.heap.size w (W3.setCell ⟨w2.heap.size, 0, none⟩ (.slice (some ⟨g, 0, none⟩) (pre.length + 1) cap))) ∧
            RowStep w3.heap.size r r' W (W3.setCell ⟨w2.heap.size, 0, none⟩ (.slice (some ⟨g, 0, none⟩) (pre.length + 1) cap)) := by
          refine ⟨some g, ⟨⟨_, m1, ?_, rfl⟩, m4, m5, hB5⟩, hst⟩
          rw [hpn]; exact hown4
        clear hnw c0 c1 c2 c3 k1 k2 k3 k4 k5 q1 hgrow3 hge hcs hown3 hown4 m1 m4 m5 hst hB4 hB5 hlies j4 j5
        gi_wp2
        exact fin
      case done =>
        intro D r A hD hI hd
        obtain ⟨⟨o, k1, k2, -⟩, -, -, k4⟩ := hI
        have hfl : (ksL s xs).length = ((bkS xs s).1).length := by
          have := congrArg List.length HFS.out
          rwa [List.length_map, List.length_reverse] at this
        rw [HFS.out, hfl, ← List.length_reverse] at k2
        have hrl : (bkS xs s).1.reverse.length ≤ 1048576 := by rw [List.length_reverse, ← hfl]; omega
        have hrv := reverse_c (bkS xs s).1.reverse o w.heap.size hrl A k2
        rw [List.reverse_reverse, List.length_reverse] at hrv
        obtain ⟨Ao, co, eo, -⟩ := Rd.of_own k2
        rw [List.length_reverse] at eo
        subst eo
        have c1 : A.cell? ⟨w2.heap.size, 0, none⟩ = some (.slice Ao (bkS xs s).1.length co) := k1.cell 0
        have hne := own_box_ne k2 k1 (by decide)
        have hge := own_block_ge k2
        have hs4 := k4.size
        have HRV := Lib.hid hrv
        clear hrv
        have hDne : some D ≠ (Value.slice Ao (bkS xs s).1.length co).ownBlock := fun e => own_not_def k2 hd e.symm
        have hdl := (Array.getElem?_eq_some_iff.1 hd).1
        gi_wp2_with fail
        refine ⟨trivial, callsIn_wide.2 (HRV.out.mono ?_)⟩
        rintro e w5 ⟨⟨v5, rfl⟩, ho5, hg5⟩
        have hB5 : Below w.heap.size w w5 := k4.trans (below_grown hg5 hs4 (fun g e => hge g e))
        have k5 : At w5 w2.heap.size 23 #[.slice Ao (bkS xs s).1.length co] := k1.grown hg5 hne
        have c5 : w5.cell? ⟨w2.heap.size, 0, none⟩ = some (.slice Ao (bkS xs s).1.length co) := k5.cell 0
        have hd5 : w5.heap[D]? = some (.deferred (some [])) := (hg5.block D hdl hDne).trans hd
        clear hg5 k5 c1 k1 k2 hd HRV
        gi_wp2
        refine ⟨by simp, .inl ⟨D, _, rfl, run_takeDeferred hd5, ?_⟩⟩
        refine ⟨_, results_tmp2 rfl _ _ _, _, by rw [HA.out]; rfl, ?_, hB5.trans ⟨rfl, rfl, rfl, by simp [World.putObj], fun k hk => World.putObj_heap_other (by omega)⟩⟩
        rw [HN.out]
        exact own_turn ho5 (grownBy_putObj' w5 D _) (fun r e => by cases e; exact ⟨_, hd5, rfl⟩)
    · have HA : Hid ((svalid xs && wvB t) = false) := by show _ = _; rw [h1]; rfl
      have HN := Lib.hid (dsS_no HA.out)
      rw [h2] at HWO
      rw [h1] at HSV
      generalize wnN t.data.toList = s at *
      obtain ⟨Av, cv, rfl, -⟩ := hx.open
      go_enter Tryd.func14, Tryd.ntmps14
      go_wp2_with fail
      refine HWO.out.mono ?_
      rintro e w1 ⟨rfl, hB1⟩
      go_wp2_with fail
      refine (HSV.out _ hB1).mono ?_
      rintro e w2 ⟨rfl, hb2⟩
      have hB2 := hB1.trans (hb2.mono hB1.size)
      go_wp2
      go_ret2
      exact ⟨_, by rw [HA.out]; rfl, by rw [HN.out]; exact hown0 _, hB2⟩
  · have HA : Hid ((svalid xs && wvB t) = false) := by show _ = _; rw [h2, Bool.and_false]
    have HN := Lib.hid (dsS_no HA.out)
    rw [h2] at HWO
    generalize wnN t.data.toList = s at *
    obtain ⟨Av, cv, rfl, -⟩ := hx.open
    go_enter Tryd.func14, Tryd.ntmps14
    go_wp2_with fail
    refine HWO.out.mono ?_
    rintro e w1 ⟨rfl, hB1⟩
    go_wp2
    go_ret2
    exact ⟨_, by rw [HA.out]; rfl, by rw [HN.out]; exact hown0 _, hB1⟩
end Go.Proofs.YtplapaojgcloaaaDoor
namespace Go.Proofs.YtplapaojgcloaaaDoor
open Go.RowKit Go.PM

set_option maxRecDepth 100000 in
set_option maxHeartbeats 2000000 in
theorem l4Exchange_c (w : World) (B r : Nat) (p : Int) (hr : Rdr w 122 B r p) (p1 : p ≤ 900000) :
    Calls Tryd.prog 131 #[.pointer (some ⟨r, 0, none⟩)] w fun e w' => ∃ v xs p', e = .returned v ∧ w'.ownsRow w.heap.size 70 2 v xs.length (mcells xs) ∧ (xs.length ≤ 65 ∧ ∀ m ∈ xs, m.1.size ≤ 64 ∧ m.2.size ≤ 64) ∧ Rdr w' 122 B r p' ∧ p' ≤ p + 100 ∧ w.grownBy w' (some r) := by
  have hlt : r < w.heap.size := by obtain ⟨_, _, v, n, _, _, h⟩ := hr; exact h.lt
  have HP := Lib.hid (pick_c w B r 3 p hr (by omega) (by omega) (by omega))
  go_enter Tryd.func131, Tryd.ntmps131
  go_wp2_with fail
  refine HP.out.mono ?_
  rintro e w1 ⟨k, rfl, k0, k1, R1, g1⟩
  have hs1 := g1.size
  clear HP
  by_cases h0 : k = 0
  · subst h0
    have HS := Lib.hid (l1Some_c w1 B r (p + 1) R1 (by omega))
    go_wp2_with fail
    refine HS.out.mono ?_
    rintro e w2 ⟨v, xs, p', rfl, ho, hsh, R2, hp', g2⟩
    have HSH := Lib.hid hsh
    have HPP : Hid (p' ≤ p + 100) := by show _ ≤ _; omega
    clear hsh
    go_wp2
    go_ret
    exact ⟨_, xs, p', rfl, own_more ho hs1, HSH.out, R2, HPP.out, grown_trans g1 g2⟩
  · have t0 : (k == 0) = false := by simpa using h0
    go_wp2_with fail
    have L5 := Lits.strs1 w1 9 #[.string ⟨#[97, 98, 99, 100]⟩, .string ⟨#[97, 98, 99]⟩, .string ⟨#[97, 98, 99, 100, 101, 102]⟩, .string ⟨#[97, 66, 99, 65]⟩, .string ⟨#[97, 98, 99, 100, 101, 102, 65, 66, 67]⟩] 40 (by rfl)
    refine (of_c _ B r w1.heap.size 5 (p + 1) (fun s => 1 ≤ s.size ∧ s.size ≤ 40) (R1.keep ((Below.refl _ _).alloc (Nat.le_refl _) _)) (by decide) (by decide) (by omega) L5 (by omega)).mono ?_
    clear L5
    rintro e w2 ⟨from_, rfl, ⟨hf1, hf2⟩, R2, g2⟩
    have G2 := grown_trans g1 (grown_trans (grown_below ((Below.refl _ _).alloc (Nat.le_refl _) (.cells #[.string ⟨#[97, 98, 99, 100]⟩, .string ⟨#[97, 98, 99]⟩, .string ⟨#[97, 98, 99, 100, 101, 102]⟩, .string ⟨#[97, 66, 99, 65]⟩, .string ⟨#[97, 98, 99, 100, 101, 102, 65, 66, 67]⟩] 9)) (some r)) g2)
    have hs2 := G2.size
    clear g1 g2 R1
    go_wp2
    go_loopw [4, 19] (fun o i wr => ∃ (j : Nat) (t : ByteArray) (q : Int), j ≤ from_.size ∧ i = .int .i64 j ∧ o = .string t ∧ t.size = j ∧ Rdr wr 122 B r q ∧ q ≤ p + 2 + (j : Int) ∧ w.grownBy wr (some r)) (fun _ i _ => from_.size - (intOf i).toNat)
    case atStart => exact ⟨0, ⟨#[]⟩, _, by omega, rfl, rfl, rfl, R2, by omega, G2⟩
    case round =>
      obtain ⟨j, t, q, hj, rfl, rfl, ht, R, hq, G⟩ := hrel
      have hsr := G.size
      by_cases hlt2 : j < from_.size
      · have i1 : (j : Int) < (from_.size : Int) := by omega
        have HP4 := Lib.hid (pick_c wr B r ((j : Int) + 1) q R (by omega) (by omega) (by omega))
        go_wp2_with fail
        refine HP4.out.mono ?_
        rintro e w4 ⟨k4, rfl, k40, k41, R4, g4⟩
        obtain ⟨K, rfl⟩ := Int.eq_ofNat_of_zero_le k40
        have G4 := grown_trans G g4
        clear g4 G R HP4
        have q1 : K ≤ t.size := by omega
        have q2 : (K : Int) ≤ (t.size : Int) := by omega
        have z1 : (t.extract 0 K).size = K := by rw [ByteArray.size_extract]; omega
        have z2 : (from_.extract j (j + 1)).size = 1 := by rw [ByteArray.size_extract]; omega
        have z3 : (t.extract K j).size = j - K := by rw [ByteArray.size_extract]; omega
        have z4 : (t.extract 0 K ++ from_.extract j (j + 1)).size = K + 1 := by rw [ByteArray.size_append]; omega
        have ZZ : Hid ((t.extract 0 K ++ from_.extract j (j + 1) ++ t.extract K j).size = j + 1) := by
          show _ = _
          rw [ByteArray.size_append]; omega
        go_wp2
        refine wp_region_quiet (C := fun w' => w' = w4.drew) (by kernel_rfl) (by kernel_rfl) rfl ?_
        simp only
        repeat (go_big_quiet_step (fail))
        refine wpQuiet_nil ?_
        intro w' hw'
        subst hw'
        have Rd4 : Rdr w4.drew 122 B r (q + 1) := R4
        have Gd4 : w.grownBy w4.drew (some r) := ⟨G4.os, G4.tape, G4.output, G4.size, G4.block⟩
        clear R4 G4
        go_wp2
        go_roundw
        case rel => exact ⟨j + 1, t.extract 0 K ++ from_.extract j (j + 1) ++ t.extract K j, q + 1, by omega, by go_num, rfl, ZZ.out, Rd4, by omega, Gd4⟩
        case measure => simp [intOf]; omega
      · have hje : j = from_.size := by omega
        have hE := World.ownsRow_lit (e := 70) (base := w.heap.size) (size := 2) wr #[] 0 hsr (Nat.zero_le _) rfl
        have RE := R.keep ((Below.refl _ _).alloc (Nat.le_refl _) (.cells #[] 70))
        have GE := grown_trans G (grown_below ((Below.refl _ _).alloc (Nat.le_refl _) (.cells #[] 70)) (some r))
        have hto : t.size = from_.size := by omega
        clear R G
        go_wp2
        have HQQ : Hid (q ≤ p + 100) := by show _ ≤ _; omega
        clear ht hj hje hq
        rename World => wo
        go_loopw [7, 43] (fun o i wr => ∃ (j : Nat) (xs : List Mv), j ≤ from_.size ∧ i = .int .i64 j ∧ xs.length = j ∧ Hid (∀ m ∈ xs, m.1.size ≤ 64 ∧ m.2.size ≤ 64) ∧ wr.ownsRow w.heap.size 70 2 o xs.length (mcells xs) ∧ Rdr wr 122 B r q ∧ w.grownBy wr (some r)) (fun _ i _ => from_.size - (intOf i).toNat)
        case atStart => exact ⟨0, [], by omega, rfl, rfl, (fun m hm => by cases hm), hE, RE, GE⟩
        case round =>
          obtain ⟨j, xs, hj, rfl, hxl, hxs, ho, R, G⟩ := hrel
          have hsr2 := G.size
          by_cases hlt2 : j < from_.size
          · have i1 : (j : Int) < (from_.size : Int) := by omega
            have z1 : (from_.extract j (j + 1)).size = 1 := by rw [ByteArray.size_extract]; omega
            have z2 : (t.extract j (j + 1)).size = 1 := by rw [ByteArray.size_extract]; omega
            have HXA : Hid (∀ m ∈ xs ++ [(from_.extract j (j + 1), t.extract j (j + 1))], m.1.size ≤ 64 ∧ m.2.size ≤ 64) := fun m hm => by
              rcases List.mem_append.1 hm with h | h
              · exact hxs.out m h
              · have e : m = (from_.extract j (j + 1), t.extract j (j + 1)) := by simpa using h
                rw [e]
                exact ⟨by show (from_.extract j (j + 1)).size ≤ 64; omega, by show (t.extract j (j + 1)).size ≤ 64; omega⟩
            generalize hx1 : from_.extract j (j + 1) = x1 at *
            generalize hx2 : t.extract j (j + 1) = x2 at *
            have hnw := two_new wr.drew (.string x1) (.string x2) 70
            have hlr : r < wr.heap.size := by have := G.size; omega
            go_wp2
            refine region_late_wide (m := 0) (C := fun w' => w' = wr.drew) (D := fun _ => True) 12 (by kernel_rfl) (by kernel_rfl) _ _ (by rfl) (by rfl) (by rfl) u7 (by intro _ _ _ h; exact h) (yieldsD_move (by rfl) _ (by rfl) u7 (by rfl)) (fun _ _ => trivial) rfl ?_
            simp only [List.take_succ_cons, List.take_zero, List.drop_succ_cons, List.drop_zero, Nat.reduceSub, Nat.reduceAdd]
            simp only [Act.put, List.setIfInBounds_toArray, List.set_cons_succ, List.set_cons_zero]
            repeat (gi_big_quiet_step (fail))
            refine wpQuietIn_nil ?_
            intro w' hw' K hK
            subst hw'
            refine sliceIn_mv (.tmp 57) rfl x1 x2 (by rfl) ?_
            refine hK _ _ trivial ?_
            clear hK K
            simp only [Act.put, List.setIfInBounds_toArray, List.set_cons_succ, List.set_cons_zero]
            have hod : wr.drew.ownsRow w.heap.size 70 2 u7 xs.length (mcells xs) := ho
            have hzd : wr.drew.heap.size = wr.heap.size := rfl
            refine listIn_mv rfl (.tmp 46) (.tmp 58) rfl w.heap.size u7 xs (x1, x2) ⟨wr.drew.heap.size, 0, none⟩ 1 (by rfl) (by rfl) (own_keep hod ((Below.refl _ _).alloc (Nat.le_refl _) _)) hnw (by omega) (by simp; omega) ?_
            intro v' w3 hown3 hgrow3
            have hge := own_block_ge ho
            have Rd3 : Rdr wr.drew 122 B r q := R
            have Gd3 : w.grownBy wr.drew (some r) := ⟨G.os, G.tape, G.output, G.size, G.block⟩
            have R6 := (Rd3.keep ((Below.refl _ _).alloc (Nat.le_refl _) (.cells #[.string x1, .string x2] 70))).grow hgrow3 (fun g e => by have := hge g e; omega)
            have G6 := grown_over (grown_trans Gd3 (grown_below ((Below.refl _ _).alloc (Nat.le_refl _) (.cells #[.string x1, .string x2] 70)) (some r))) hgrow3 hge
            clear ho R G hod Rd3 Gd3 hge hgrow3 hnw hxs
            gi_wp2
            go_wp2
            go_roundw
            case rel => exact ⟨j + 1, xs ++ [(x1, x2)], by omega, by go_num, by simp; omega, HXA, hown3, R6, G6⟩
            case measure => simp [intOf]; omega
          · have hje2 : j = from_.size := by omega
            go_wp2
            go_ret
            exact ⟨_, xs, q, rfl, ho, ⟨by omega, hxs.out⟩, R, HQQ.out, G⟩
end Go.Proofs.YtplapaojgcloaaaDoor
namespace Go.Proofs.YtplapaojgcloaaaDoor
open Go.RowKit Go.PM

end Go.Proofs.YtplapaojgcloaaaDoor
namespace Go.PM
open Go.RowKit
def strOkC (n : Nat) : Value → Bool
  | .string s => decide (1 ≤ s.size) && decide (s.size ≤ n) && (List.range s.size).all fun J => isC (s.extract J (J + 1))
  | _ => false
theorem Lits.strsC (w : World) (t : TypeId) (cs : Array Value) (n : Nat) (h : cs.toList.all (strOkC n) = true) : Lits (w.alloc (.cells cs t)) w.heap.size cs.size (fun u => ∃ s, u = .string s ∧ 1 ≤ s.size ∧ s.size ≤ n ∧ ∀ J, J < s.size → isC (s.extract J (J + 1)) = true) :=
  Lits.new w t cs _ fun u hu => by
    have h2 := List.all_eq_true.1 h u hu
    unfold strOkC at h2
    split at h2
    · rw [Bool.and_eq_true, Bool.and_eq_true, decide_eq_true_eq, decide_eq_true_eq, List.all_eq_true] at h2
      exact ⟨_, rfl, h2.1.1, h2.1.2, fun J hJ => h2.2 J (List.mem_range.2 hJ)⟩
    · cases h2
/-- the digits, and their texts -/
def dg (n : Nat) : ByteArray := ⟨#[UInt8.ofNat (48 + n)]⟩
theorem dg_isD {n : Nat} (h : n < 10) : isD (dg n) = true := by
  match n, h with
  | 0, _ | 1, _ | 2, _ | 3, _ | 4, _ | 5, _ | 6, _ | 7, _ | 8, _ | 9, _ => decide +kernel
theorem own_take {w : World} {base n k : Nat} {e : TypeId} {A : Option Addr} {cap : Nat} {xs : List St} (h : w.ownsRow base e 3 (.slice A n cap) xs.length (scells xs)) (hk : k ≤ xs.length) : w.ownsRow base e 3 (.slice A k cap) k (scells (xs.take k)) := by
  have hs : (scells (xs.take k)).length = k * 3 := by rw [scells_length, List.length_take, Nat.min_eq_left hk]
  refine ⟨hs, ?_⟩
  rcases h.2 with ⟨e1, e2⟩ | ⟨g, cap', cur, e1, h1, h2, h3, h4, h5, h6⟩
  · cases e1
    left
    refine ⟨?_, by omega⟩
    rw [show k = 0 by omega]
  · cases e1
    right
    refine ⟨g, _, cur, rfl, h1, h2, by omega, h4, h5, ?_⟩
    have e3 : scells xs = scells (xs.take k) ++ scells (xs.drop k) := by rw [← scells_append, List.take_append_drop]
    have e2 : scells (xs.take k) = (scells xs).take (k * 3) := by
      rw [e3]; exact (List.take_left' hs).symm
    rw [e2, ← h6, List.take_take, Nat.min_eq_left (by omega)]
def shS (m : Nat) (xs : List St) : Prop := xs.length ≤ m ∧ ∀ x ∈ xs, x.2.1.size ≤ 64 ∧ x.2.2.size ≤ 64
def okL (xs : List St) : Prop := ∀ x ∈ xs, stOk x = true
theorem okL_sh {m : Nat} {xs : List St} (h : okL xs) (hl : xs.length ≤ m) : shS m xs := by
  refine ⟨hl, fun x hx => ?_⟩
  have h1 := h x hx
  unfold stOk at h1
  rw [Bool.or_eq_true] at h1
  rcases h1 with h1 | h1
  · simp only [Bool.and_eq_true, Bool.or_eq_true] at h1
    have a := isC_size h1.2.1
    rcases h1.2.2 with h2 | h2
    · have b := isC_size h2; omega
    · have b := isD_size h2; omega
  · simp only [Bool.and_eq_true] at h1
    have a := isC_size h1.2.1
    have b := isC_size h1.2.2
    omega
theorem three_at {w : World} {g : Nat} {t : TypeId} {x y z : Value} (h : At w g t #[x, y, z]) : w.cell? ⟨g, 0, none⟩ = some x ∧ w.cell? ⟨g, 1, none⟩ = some y ∧ w.cell? ⟨g, 2, none⟩ = some z := ⟨h.cell 0, h.cell 1, h.cell 2⟩
end Go.PM
namespace Go.Proofs.YtplapaojgcloaaaDoor
open Go.RowKit Go.PM
attribute [local go_sem] Oper.semAt_some

set_option maxRecDepth 100000 in
set_option maxHeartbeats 1600000 in
theorem l13Dec_c (n : Nat) (hn : n < 10) (w : World) :
    Calls Tryd.prog 122 #[.int .i64 n] w fun e w' => e = .returned (.string (dg n)) ∧ Below w.heap.size w w' := by
  have HG : Hid (dg n = ⟨#[UInt8.ofNat (48 + n)]⟩) := rfl
  have n1 : ¬ (n : Int) < -9223372036854775807 := by omega
  have n2 : ¬ (n : Int) < 0 := by omega
  have n3 : ¬ (n : Int) > 9 := by omega
  have e1 : decide ((n : Int) < -9223372036854775807) = false := decide_eq_false n1
  have e2 : decide ((n : Int) < 0) = false := decide_eq_false n2
  have e3 : decide ((n : Int) > 9) = false := decide_eq_false n3
  have hcv : ∀ W b, At W b 5 #[.int .u8 (48 + (n : Int))] → (convert 22 9 (.slice (some ⟨b, 0, none⟩) 1 1)).run Tryd.prog W = .ok (.string (dg n)) W := fun W b hW => by
    rw [run_convert_bytes_string _ _ _ _ _ _ _ Tryd.underlying22 Tryd.underlying5 Tryd.underlying9]
    have hl : (loadCells ⟨b, 0, none⟩ 1).run Tryd.prog W = .ok ([48 + (n : Int)].map (Value.int .u8)).toArray W :=
      run_loadCells_list (P := Tryd.prog) W ⟨b, 0, none⟩ [.int .u8 (48 + (n : Int))] (fun j v hj => by
        have hadd : (⟨b, 0, none⟩ : Addr).add j = ⟨b, j, none⟩ := by unfold Addr.add; split <;> simp_all
        rw [hadd, hW.cell]
        simpa using hj)
    rw [run_bytesToString (ns := [48 + (n : Int)]) _ _ _ _ hl]
    have e0 : (48 + (n : Int)).toNat = 48 + n := by omega
    simp [HG.out, e0]
    rfl
  go_enter Tryd.func122, Tryd.ntmps122
  go_wp2
  go_loopw [0, 3] (fun a o wr => a = .int .i64 n ∧ o = .string ⟨#[]⟩ ∧ wr = w) (fun _ _ _ => 0)
  case atStart => exact ⟨rfl, rfl, rfl⟩
  case round =>
    obtain ⟨rfl, rfl, rfl⟩ := hrel
    have hcw := hcv (wr.alloc (.cells #[.int .u8 (48 + (n : Int))] 5)) wr.heap.size (At.new _ _ _)
    have hz : (dg n).size = 1 := rfl
    clear hcv
    have hd : dg n = dg n := rfl
    generalize hdd : dg n = d at hcw hz
    have HDD := Lib.hid hdd
    clear hd hdd HG
    go_wp2
    go_ret
    exact ⟨by rw [HDD.out]; exact congrArg (fun t => Ending.returned (.string t)) (by apply ByteArray.ext; rw [ByteArray.data_append]; simp), by (repeat' (first | (with_reducible exact Below.refl _ _) | (with_reducible assumption) | (with_reducible refine Below.alloc ?_ ?_ _) | (with_reducible refine Below.drew ?_) | (with_reducible refine Below.setCell ?_ ?_ _) | (with_reducible exact Nat.le_refl _) | omega | ((repeat (first | rewrite [World.size_alloc] | rewrite [World.size_setCell] | rewrite [World.size_drew])); omega) | (simp; omega) | (simp; done)))⟩
theorem infoSt2 : (Tryd.prog.info? 72).map (fun i => (i.zero, i.size, i.bytes)) = some (some (.agg #[.int .i64 0, .string ⟨#[]⟩, .string ⟨#[]⟩]), 3, 40) := by kernel_rfl
theorem app_st {ops : Array Oper} {rest : List Oper} {o : Oper} {a : Act} {Q : Exit → Act → World → Prop} {w : World} (hgd : o.guard = none) (s x : Operand)
    (ho : o.op = .call { callee := .builtin .append, args := #[s, x], argTypes := #[23, 23] })
    (base : Nat) (v : Value) (ys : List St) (m : St) (ad : Addr) (c : Nat) (hs : a.eval s = v) (hx : a.eval x = .slice (some ad) 1 c)
    (hown : w.ownsRow base 72 3 v ys.length (scells ys)) (hnew : ∀ j u, [Value.int .i64 m.1, Value.string m.2.1, Value.string m.2.2][j]? = some u → w.cell? (ad.add j) = some u)
    (hlen : ys.length ≤ 1048576) (hbase : base ≤ w.heap.size)
    (h : ∀ v' w', w'.ownsRow base 72 3 v' (ys ++ [m]).length (scells (ys ++ [m])) → w.grownBy w' v.ownBlock → wpList Tryd.prog ops Q rest (a.put o.dst v') w') : wpList Tryd.prog ops Q (o :: rest) a w := by
  obtain ⟨i0, hi0, hz0, hz1, hz2⟩ := info_parts infoSt2
  refine wpList_append_own w hgd s x _ ho base 72 i0 _ 3 40 Tryd.underlying23 hi0 hz0 hz1 hz2 rfl (by omega) v ys.length (scells ys) hs hown ad 1 c [Value.int .i64 m.1, Value.string m.2.1, Value.string m.2.2] hx rfl hnew
    (by intro u hu; simp at hu; rcases hu with rfl | rfl | rfl <;> rfl) (by simp only [maxLen]; omega) (by omega) hbase ?_
  intro v' w' h2 h3 _
  refine h v' w' ?_ h3
  have hcs : scells ys ++ [Value.int .i64 m.1, Value.string m.2.1, Value.string m.2.2] = scells (ys ++ [m]) := by rw [scells_append]; simp [scells]
  rw [← hcs, List.length_append]
  simpa using h2
theorem own_block_lt {w : World} {base n : Nat} {e : TypeId} {s : Nat} {v : Value} {cs : List Value} (h : w.ownsRow base e s v n cs) : ∀ g, v.ownBlock = some g → g < w.heap.size := by
  intro g hg
  rcases h.2 with ⟨rfl, _⟩ | ⟨g', cap, cur, rfl, _, hh, _⟩
  · cases hg
  · cases hg
    exact (Array.getElem?_eq_some_iff.1 hh).1
/-- a step in a block of its own, and what is known of the rest -/
def StepIn (w W : World) (sb B r : Nat) (u3 : Value) (xs : List St) (q : Int) (y : Int) (a b : ByteArray) : Prop :=
  At W sb 72 #[.int .i64 y, .string a, .string b] ∧ Rdr W 122 B r q ∧ W.ownsRow w.heap.size 72 3 u3 xs.length (scells xs) ∧ w.grownBy W (some r) ∧ r < sb ∧ w.heap.size ≤ sb ∧ u3.ownBlock ≠ some sb
theorem stepIn_new {w w6 : World} {B r : Nat} {u3 : Value} {xs : List St} {q : Int} (y : Int) (a b : ByteArray) (h : Rdr w6 122 B r q ∧ w6.ownsRow w.heap.size 72 3 u3 xs.length (scells xs) ∧ w.grownBy w6 (some r)) :
    StepIn w (w6.alloc (.cells #[.int .i64 y, .string a, .string b] 72)) w6.heap.size B r u3 xs q y a b := by
  have hb : Below w6.heap.size w6 (w6.alloc (.cells #[.int .i64 y, .string a, .string b] 72)) := (Below.refl _ _).alloc (Nat.le_refl _) _
  exact ⟨At.new _ _ _, h.1.keep hb, own_keep h.2.1 hb, grown_trans h.2.2 (grown_below hb (some r)), by obtain ⟨_, _, v, n, _, _, h⟩ := h.1; exact h.lt, h.2.2.size, fun e => by have := own_block_lt h.2.1 _ e; omega⟩
theorem stepIn_set {w w6 : World} {sb B r : Nat} {u3 : Value} {xs : List St} {q y0 : Int} {a0 b0 : ByteArray} (y : Int) (a b : ByteArray) (h : StepIn w w6 sb B r u3 xs q y0 a0 b0) :
    StepIn w (((w6.setCell ⟨sb, 0, none⟩ (.int .i64 y)).setCell ⟨sb, 1, none⟩ (.string a)).setCell ⟨sb, 2, none⟩ (.string b)) sb B r u3 xs q y a b := by
  obtain ⟨h1, h2, h3, h4, h5, h6, h7⟩ := h
  have g1 := grown_set w6 sb 0 (.int .i64 y)
  have g2 := grown_set (w6.setCell ⟨sb, 0, none⟩ (.int .i64 y)) sb 1 (.string a)
  have g3 := grown_set ((w6.setCell ⟨sb, 0, none⟩ (.int .i64 y)).setCell ⟨sb, 1, none⟩ (.string a)) sb 2 (.string b)
  have g := grown_trans (grown_trans g1 g2) g3
  refine ⟨?_, h2.grow g (fun g e => by cases e; exact h5), own_grown h3 g (.inl h7), grown_over h4 g (fun g e => by cases e; exact h6), h5, h6, h7⟩
  have := ((h1.set 0 (.int .i64 y)).set 1 (.string a)).set 2 (.string b)
  simpa using this
theorem stepIn_from {w w6 : World} {sb B r : Nat} {u3 : Value} {xs : List St} {q y0 : Int} {a0 b0 : ByteArray} (b : ByteArray) (h : StepIn w w6 sb B r u3 xs q y0 a0 b0) :
    StepIn w (w6.setCell ⟨sb, 2, none⟩ (.string b)) sb B r u3 xs q y0 a0 b := by
  obtain ⟨h1, h2, h3, h4, h5, h6, h7⟩ := h
  have g := grown_set w6 sb 2 (.string b)
  refine ⟨?_, h2.grow g (fun g e => by cases e; exact h5), own_grown h3 g (.inl h7), grown_over h4 g (fun g e => by cases e; exact h6), h5, h6, h7⟩
  have := h1.set 2 (.string b)
  simpa using this
theorem stepIn_pick {w w6 w7 : World} {sb B r : Nat} {u3 : Value} {xs : List St} {q q' y0 : Int} {a0 b0 : ByteArray} (hlt : r < w.heap.size) (h : StepIn w w6 sb B r u3 xs q y0 a0 b0) (hg : w6.grownBy w7 (some r)) (hR : Rdr w7 122 B r q') : StepIn w w7 sb B r u3 xs q' y0 a0 b0 := by
  obtain ⟨h1, h2, h3, h4, h5, h6, h7⟩ := h
  have hne : u3.ownBlock ≠ some r := fun e => by have := own_block_ge h3 r e; omega
  exact ⟨h1.grown hg (fun e => by have := Option.some.inj e; omega), hR, own_grown h3 hg (.inl hne), grown_trans h4 hg, h5, h6, h7⟩
theorem stepIn_below {w w6 w7 : World} {sb B r : Nat} {u3 : Value} {xs : List St} {q y0 : Int} {a0 b0 : ByteArray} (h : StepIn w w6 sb B r u3 xs q y0 a0 b0) (hb : Below w6.heap.size w6 w7) : StepIn w w7 sb B r u3 xs q y0 a0 b0 := by
  obtain ⟨h1, h2, h3, h4, h5, h6, h7⟩ := h
  exact ⟨h1.keep hb, h2.keep hb, own_keep h3 hb, grown_trans h4 (grown_below hb (some r)), h5, h6, h7⟩
theorem okL_snoc {xs : List St} {x : St} (h : okL xs) (hx : stOk x = true) : okL (xs ++ [x]) := by
  intro y hy
  rcases List.mem_append.1 hy with h1 | h1
  · exact h y h1
  · rw [List.mem_singleton] at h1; rw [h1]; exact hx
set_option maxRecDepth 100000 in
set_option maxHeartbeats 1600000 in
theorem l2Draw_c (w : World) (B r : Nat) (p : Int) (hr : Rdr w 122 B r p) (p1 : p ≤ 1000000) :
    Calls Tryd.prog 91 #[.pointer (some ⟨r, 0, none⟩)] w fun e w' => ∃ v xs p', e = .returned v ∧ w'.ownsRow w.heap.size 72 3 v xs.length (scells xs) ∧ xs.length ≤ 6 ∧ okL xs ∧ Rdr w' 122 B r p' ∧ p' ≤ p + 64 ∧ w.grownBy w' (some r) := by
  have hlt : r < w.heap.size := by obtain ⟨_, _, v, n, _, _, h⟩ := hr; exact h.lt
  go_enter Tryd.func91, Tryd.ntmps91
  go_wp2_with fail
  have E0 := World.ownsRow_lit (e := 72) (base := w.heap.size) (size := 3) w #[] 0 (Nat.le_refl _) (Nat.zero_le _) rfl
  have L4 := Lits.strsC (w.alloc (.cells #[] 72)) 9 #[.string ⟨#[97, 98, 99, 116]⟩, .string ⟨#[97, 98, 99, 65, 116, 117]⟩, .string ⟨#[97, 98, 99, 100, 101, 102, 65, 66, 67, 116, 117]⟩, .string ⟨#[97, 98]⟩] 11 (by rfl)
  rw [World.size_alloc] at L4
  refine (of_c _ B r (w.heap.size + 1) 4 p (fun s => 1 ≤ s.size ∧ s.size ≤ 11 ∧ ∀ J, J < s.size → isC (s.extract J (J + 1)) = true) ((hr.keep ((Below.refl _ _).alloc (Nat.le_refl _) _)).keep ((Below.refl _ _).alloc (Nat.le_refl _) _)) (by decide) (by decide) (by omega) L4 (by omega)).mono ?_
  clear L4
  rintro e w2 ⟨from_, rfl, ⟨hf1, hf2, hf3⟩, R2, g2⟩
  have HF3 := Lib.hid hf3
  have E1 := own_grown (own_keep E0 ((Below.refl _ _).alloc (Nat.le_refl _) (.cells #[.string ⟨#[97, 98, 99, 116]⟩, .string ⟨#[97, 98, 99, 65, 116, 117]⟩, .string ⟨#[97, 98, 99, 100, 101, 102, 65, 66, 67, 116, 117]⟩, .string ⟨#[97, 98]⟩] 9))) g2 (.inl (fun e => by have := own_block_ge E0 r e; omega))
  have G2 : w.grownBy w2 (some r) := grown_trans (grown_below (((Below.refl _ _).alloc (Nat.le_refl _) (.cells #[] 72)).alloc (by simp) (.cells #[.string ⟨#[97, 98, 99, 116]⟩, .string ⟨#[97, 98, 99, 65, 116, 117]⟩, .string ⟨#[97, 98, 99, 100, 101, 102, 65, 66, 67, 116, 117]⟩, .string ⟨#[97, 98]⟩] 9)) (some r)) g2
  have hs2 := G2.size
  clear E0 g2 hf3
  go_wp2_with fail
  refine (num_c _ B r w2.heap.size 6 (p + 1) (fun x => 0 ≤ x ∧ x ≤ 6) (R2.keep ((Below.refl _ _).alloc (Nat.le_refl _) _)) (by decide) (by decide) (by omega) (Lits.ints w2 3 #[.int .i64 3, .int .i64 4, .int .i64 2, .int .i64 6, .int .i64 1, .int .i64 0] 6 (by rfl)) (by omega)).mono ?_
  rintro e w3 ⟨x, rfl, ⟨hx1, hx2⟩, R3, g3⟩
  obtain ⟨X, rfl⟩ := Int.eq_ofNat_of_zero_le hx1
  have E3 := own_grown (own_keep E1 ((Below.refl _ _).alloc (Nat.le_refl _) _)) g3 (.inl (fun e => by have := own_block_ge E1 r e; omega))
  have G3 := grown_trans G2 (grown_trans (grown_below ((Below.refl _ _).alloc (Nat.le_refl _) _) (some r)) g3)
  have hs3 := G3.size
  clear E1 G2 R2 g3
  go_wp2
  go_loopw [3, 5, 6, 7, 15] (fun o _ _ _ i wr => ∃ (j : Nat) (xs : List St) (q : Int), j ≤ X ∧ i = .int .i64 j ∧ xs.length = j ∧ Hid (okL xs) ∧ wr.ownsRow w.heap.size 72 3 o xs.length (scells xs) ∧ Rdr wr 122 B r q ∧ q ≤ p + 2 + 5 * (j : Int) ∧ w.grownBy wr (some r)) (fun _ _ _ _ i _ => X - (intOf i).toNat)
  case atStart => exact ⟨0, [], _, by omega, rfl, rfl, (fun m hm => by cases hm), E3, R3, by omega, G3⟩
  case round =>
    obtain ⟨j, xs, q, hj, rfl, hxl, hxs, ho, R, hq, G⟩ := hrel
    have hsr := G.size
    by_cases hlt2 : j < X
    · have i1 : (j : Int) < (X : Int) := by omega
      have HP4 := Lib.hid (pick_c wr B r from_.size q R (by omega) (by omega) (by omega))
      go_wp2_with fail
      refine HP4.out.mono ?_
      rintro e w4 ⟨k4, rfl, k40, k41, R4, g4⟩
      obtain ⟨K, rfl⟩ := Int.eq_ofNat_of_zero_le k40
      have ho4 := own_grown ho g4 (.inl (fun e => by have := own_block_ge ho r e; omega))
      have G4 := grown_trans G g4
      have hs4 := G4.size
      clear ho g4 G R HP4
      have HP5 := Lib.hid (pick_c w4 B r from_.size (q + 1) R4 (by omega) (by omega) (by omega))
      go_wp2_with fail
      refine HP5.out.mono ?_
      rintro e w5 ⟨k5, rfl, k50, k51, R5, g5⟩
      obtain ⟨J, rfl⟩ := Int.eq_ofNat_of_zero_le k50
      have ho5 := own_grown ho4 g5 (.inl (fun e => by have := own_block_ge ho4 r e; omega))
      have G5 := grown_trans G4 g5
      have hs5 := G5.size
      clear ho4 g5 G4 R4 HP5
      have hta := HF3.out K (by omega)
      have htb := HF3.out J (by omega)
      have hza := isC_size hta
      have hzb := isC_size htb
      have HTA := Lib.hid hta
      have HTB := Lib.hid htb
      clear hta htb
      have j1 : (J : Int) < (from_.size : Int) := k51
      have j2 : (K : Int) < (from_.size : Int) := k41
      have hrl5 := R5
      have HN : Hid (∀ (W : World) (L : Nat), Below w5.heap.size w5 W → Lits W L 4 (fun u => ∃ x, u = .int .i64 x ∧ 0 ≤ x ∧ x ≤ 1) → L ≠ r → Calls Tryd.prog 92 #[.pointer (some ⟨r, 0, none⟩), .slice (some ⟨L, 0, none⟩) 4 4] W fun e w' => ∃ x : Int, e = .returned (.int .i64 x) ∧ (0 ≤ x ∧ x ≤ 1) ∧ Rdr w' 122 B r (q + 3) ∧ W.grownBy w' (some r)) := fun W L hb hL hne => by
        have := num_c W B r L 4 (q + 2) (fun x => 0 ≤ x ∧ x ≤ 1) (by have := R5.keep hb; rwa [show q + 1 + 1 = q + 2 by omega] at this) (by decide) (by decide) (by omega) hL hne
        rwa [show q + 2 + 1 = q + 3 by omega] at this
      have LT : Obj := .cells #[.int .i64 0, .int .i64 0, .int .i64 1, .int .i64 0] 3
      clear LT
      have HL1 := Lits.ints w5 3 #[.int .i64 0, .int .i64 0, .int .i64 1, .int .i64 0] 1 (by rfl)
      have HL2 := HL1.keep (grown_below ((Below.refl _ _).alloc (Nat.le_refl _) (.cells #[.int .i64 0, .string ⟨#[]⟩, .string ⟨#[]⟩] 72)) none) (by simp)
      have HL3 := Lits.ints (w5.alloc (.cells #[.int .i64 0, .string ⟨#[]⟩, .string ⟨#[]⟩] 72)) 3 #[.int .i64 0, .int .i64 0, .int .i64 1, .int .i64 0] 1 (by rfl)
      rw [World.size_alloc] at HL3
      have HS2 := At.new (w5.alloc (.cells #[.int .i64 0, .int .i64 0, .int .i64 1, .int .i64 0] 3)) 72 #[.int .i64 0, .string ⟨#[]⟩, .string ⟨#[]⟩]
      rw [World.size_alloc] at HS2
      have HS3 := (At.new w5 72 #[.int .i64 0, .string ⟨#[]⟩, .string ⟨#[]⟩]).alloc (.cells #[.int .i64 0, .int .i64 0, .int .i64 1, .int .i64 0] 3)
      have hr5 : r < w5.heap.size := by obtain ⟨_, _, v, n, _, _, h⟩ := R5; exact h.lt
      have HNX : ∀ (W : World) (L : Nat), Below w5.heap.size w5 W → Lits W L 4 (fun u => ∃ x, u = .int .i64 x ∧ 0 ≤ x ∧ x ≤ 1) → L ≠ r → Calls Tryd.prog 92 #[.pointer (some ⟨r, 0, none⟩), .slice (some ⟨L, 0, none⟩) 4 4] W fun e w' => ∃ x : Int, e = .returned (.int .i64 x) ∧ (0 ≤ x ∧ x ≤ 1) ∧ Hid (Rdr w' 122 B r (q + 3) ∧ w'.ownsRow w.heap.size 72 3 u3 xs.length (scells xs) ∧ w.grownBy w' (some r)) ∧ W.grownBy w' (some r) := fun W L hb hL hne =>
        (HN.out W L hb hL hne).mono fun e w' ⟨x, h1, h2, h3, h4⟩ => ⟨x, h1, h2, ⟨h3, own_grown (own_keep ho5 hb) h4 (.inl (fun e => by have := own_block_ge ho5 r e; omega)), grown_trans (grown_trans G5 (grown_below hb (some r))) h4⟩, h4⟩
      have bl1 : Below w5.heap.size w5 (w5.alloc (.cells #[.int .i64 0, .int .i64 0, .int .i64 1, .int .i64 0] 3)) := (Below.refl _ _).alloc (Nat.le_refl _) _
      have bl2 : Below w5.heap.size w5 ((w5.alloc (.cells #[.int .i64 0, .int .i64 0, .int .i64 1, .int .i64 0] 3)).alloc (.cells #[.int .i64 0, .string ⟨#[]⟩, .string ⟨#[]⟩] 72)) := bl1.alloc (by simp) _
      have bl3 : Below w5.heap.size w5 ((w5.alloc (.cells #[.int .i64 0, .string ⟨#[]⟩, .string ⟨#[]⟩] 72)).alloc (.cells #[.int .i64 0, .int .i64 0, .int .i64 1, .int .i64 0] 3)) := ((Below.refl _ _).alloc (Nat.le_refl _) _).alloc (by simp) _
      have HS2d : At ((w5.alloc (.cells #[.int .i64 0, .int .i64 0, .int .i64 1, .int .i64 0] 3)).alloc (.cells #[.int .i64 0, .string ⟨#[]⟩, .string ⟨#[]⟩] 72)).drew (w5.heap.size + 1) 72 #[.int .i64 0, .string ⟨#[]⟩, .string ⟨#[]⟩] := HS2
      have HS3d : At ((w5.alloc (.cells #[.int .i64 0, .string ⟨#[]⟩, .string ⟨#[]⟩] 72)).alloc (.cells #[.int .i64 0, .int .i64 0, .int .i64 1, .int .i64 0] 3)).drew w5.heap.size 72 #[.int .i64 0, .string ⟨#[]⟩, .string ⟨#[]⟩] := HS3
      have HN1 := Lib.hid ((HNX (w5.alloc (.cells #[.int .i64 0, .int .i64 0, .int .i64 1, .int .i64 0] 3)).drew w5.heap.size bl1.drew HL1 (by omega)).mono fun e w' ⟨x, h1, h2, h3, h4⟩ =>
        (⟨x, h1, h2, h3, by have := h4.size; simp at this; omega⟩ : ∃ x : Int, e = Ending.returned (.int .i64 x) ∧ (0 ≤ x ∧ x ≤ 1) ∧ Hid (Rdr w' 122 B r (q + 3) ∧ w'.ownsRow w.heap.size 72 3 u3 xs.length (scells xs) ∧ w.grownBy w' (some r)) ∧ w5.heap.size < w'.heap.size))
      have HN2 := Lib.hid ((HNX ((w5.alloc (.cells #[.int .i64 0, .int .i64 0, .int .i64 1, .int .i64 0] 3)).alloc (.cells #[.int .i64 0, .string ⟨#[]⟩, .string ⟨#[]⟩] 72)).drew w5.heap.size bl2.drew HL2 (by omega)).mono fun e w' ⟨x, h1, h2, h3, h4⟩ =>
        (⟨x, h1, h2, h3, by have := h4.size; simp at this; omega, HS2d.grown h4 (fun e => by have := Option.some.inj e; omega)⟩ : ∃ x : Int, e = Ending.returned (.int .i64 x) ∧ (0 ≤ x ∧ x ≤ 1) ∧ Hid (Rdr w' 122 B r (q + 3) ∧ w'.ownsRow w.heap.size 72 3 u3 xs.length (scells xs) ∧ w.grownBy w' (some r)) ∧ w5.heap.size + 1 < w'.heap.size ∧ At w' (w5.heap.size + 1) 72 #[.int .i64 0, .string ⟨#[]⟩, .string ⟨#[]⟩]))
      have HN3 := Lib.hid ((HNX ((w5.alloc (.cells #[.int .i64 0, .string ⟨#[]⟩, .string ⟨#[]⟩] 72)).alloc (.cells #[.int .i64 0, .int .i64 0, .int .i64 1, .int .i64 0] 3)).drew (w5.heap.size + 1) bl3.drew HL3 (by omega)).mono fun e w' ⟨x, h1, h2, h3, h4⟩ =>
        (⟨x, h1, h2, h3, by have := h4.size; simp at this; omega, HS3d.grown h4 (fun e => by have := Option.some.inj e; omega)⟩ : ∃ x : Int, e = Ending.returned (.int .i64 x) ∧ (0 ≤ x ∧ x ≤ 1) ∧ Hid (Rdr w' 122 B r (q + 3) ∧ w'.ownsRow w.heap.size 72 3 u3 xs.length (scells xs) ∧ w.grownBy w' (some r)) ∧ w5.heap.size < w'.heap.size ∧ At w' w5.heap.size 72 #[.int .i64 0, .string ⟨#[]⟩, .string ⟨#[]⟩]))
      have a1 : (0 : Int) ≤ (K : Int) := by omega
      have a2 : (K : Int) ≤ (K : Int) + 1 := by omega
      have a3 : (K : Int) + 1 ≤ (from_.size : Int) := by omega
      have a4 : IntKind.i64.wrap ((K : Int) + 1) = (K : Int) + 1 := IntWalk.i64_in _ ⟨by omega, by omega⟩
      have a5 : K + 1 ≤ from_.size := by omega
      have b1 : (0 : Int) ≤ (J : Int) := by omega
      have b2 : (J : Int) ≤ (J : Int) + 1 := by omega
      have b3 : (J : Int) + 1 ≤ (from_.size : Int) := by omega
      have b4 : IntKind.i64.wrap ((J : Int) + 1) = (J : Int) + 1 := IntWalk.i64_in _ ⟨by omega, by omega⟩
      have b5 : J + 1 ≤ from_.size := by omega
      have hub := own_block_lt ho5
      clear HN HNX HL1 HL2 HL3 HS2 HS3 HS2d HS3d bl1 bl2 bl3 ho5 G5 R5 hrl5
      go_wp2
      go_region_with (first | (go_at_call 92; with_reducible refine HN1.out.mono ?_; rintro e w6 ⟨y, rfl, ⟨hy0, hy1⟩, HH, hl6⟩) | (go_at_call 92; with_reducible refine HN2.out.mono ?_; rintro e w6 ⟨y, rfl, ⟨hy0, hy1⟩, HH, hl6, hS⟩; have z0 := hS.frozen 0; have z1 := hS.frozen 1; have z2 := hS.frozen 2; have q0 := (three_at hS).1; have q1 := (three_at hS).2.1; have q2 := (three_at hS).2.2) | (go_at_call 92; with_reducible refine HN3.out.mono ?_; rintro e w6 ⟨y, rfl, ⟨hy0, hy1⟩, HH, hl6, hS⟩; have z0 := hS.frozen 0; have z1 := hS.frozen 1; have z2 := hS.frozen 2; have q0 := (three_at hS).1; have q1 := (three_at hS).2.1; have q2 := (three_at hS).2.2))
      all_goals
        first
          | (have HSI := stepIn_set y (from_.extract K (K + 1)) (from_.extract J (J + 1)) (show StepIn w w6 (w5.heap.size + 1) B r u3 xs (q + 3) 0 ⟨#[]⟩ ⟨#[]⟩ from ⟨hS, HH.out.1, HH.out.2.1, HH.out.2.2, by omega, by omega, fun e => by have := hub _ e; omega⟩); generalize ((w6.setCell ⟨w5.heap.size + 1, 0, none⟩ (.int .i64 y)).setCell ⟨w5.heap.size + 1, 1, none⟩ (.string (from_.extract K (K + 1)))).setCell ⟨w5.heap.size + 1, 2, none⟩ (.string (from_.extract J (J + 1))) = W7 at HSI ⊢; generalize w5.heap.size + 1 = sb at HSI ⊢; clear hS z0 z1 z2 q0 q1 q2)
          | (have HSI := stepIn_set y (from_.extract K (K + 1)) (from_.extract J (J + 1)) (show StepIn w w6 w5.heap.size B r u3 xs (q + 3) 0 ⟨#[]⟩ ⟨#[]⟩ from ⟨hS, HH.out.1, HH.out.2.1, HH.out.2.2, by omega, by omega, fun e => by have := hub _ e; omega⟩); generalize ((w6.setCell ⟨w5.heap.size, 0, none⟩ (.int .i64 y)).setCell ⟨w5.heap.size, 1, none⟩ (.string (from_.extract K (K + 1)))).setCell ⟨w5.heap.size, 2, none⟩ (.string (from_.extract J (J + 1))) = W7 at HSI ⊢; generalize w5.heap.size = sb at HSI ⊢; clear hS z0 z1 z2 q0 q1 q2)
          | (have HSI := stepIn_new (w := w) y (from_.extract K (K + 1)) (from_.extract J (J + 1)) HH.out; generalize w6.alloc (.cells #[.int .i64 y, .string (from_.extract K (K + 1)), .string (from_.extract J (J + 1))] 72) = W7 at HSI ⊢; generalize w6.heap.size = sb at HSI ⊢)
        clear HH hl6 HN1 HN2 HN3 a1 a2 a3 a4 a5 b1 b2 b3 b4 b5
        generalize from_.extract K (K + 1) = s1 at *
        generalize from_.extract J (J + 1) = s2 at *
        obtain ⟨m0, m1, m2⟩ := three_at HSI.1
        have mz := HSI.1.frozen 2
        have ml := HSI.1.lt
        by_cases hy : y = 0
        · subst hy
          have HP8 := Lib.hid (pick_c W7 B r 8 (q + 3) HSI.2.1 (by omega) (by omega) (by omega))
          go_wp2_with fail
          refine HP8.out.mono ?_
          rintro e w8 ⟨k8, rfl, k80, k81, R8, g8⟩
          have HS8 := stepIn_pick hlt HSI g8 R8
          clear HP8 HSI m0 m1 m2 mz ml g8
          obtain ⟨n0, n1, n2⟩ := three_at HS8.1
          have nz := HS8.1.frozen 2
          have nl := HS8.1.lt
          by_cases h8 : k8 = 0
          · subst h8
            have HP9 := Lib.hid (pick_c w8 B r 10 (q + 3 + 1) R8 (by omega) (by omega) (by omega))
            go_wp2_with fail
            refine HP9.out.mono ?_
            rintro e w9 ⟨k9, rfl, k90, k91, R9, g9⟩
            obtain ⟨N, rfl⟩ := Int.eq_ofNat_of_zero_le k90
            have HS9 := stepIn_pick hlt HS8 g9 R9
            clear HP9 HS8 n0 n1 n2 nz nl g9 R8
            go_wp2_with fail
            refine (l13Dec_c N (by omega) w9).mono ?_
            rintro e w10 ⟨rfl, b10⟩
            have HS10 := stepIn_below HS9 b10
            have HSF := stepIn_from (dg N) HS10
            clear HS9 b10 R9
            obtain ⟨o0, o1, o2⟩ := three_at HS10.1
            have oz := HS10.1.frozen 2
            have ol := HS10.1.lt
            have HOK : Hid (okL (xs ++ [((0 : Int), s1, (dg N))])) := okL_snoc hxs.out (by have h1 := HTA.out; have h2 := dg_isD (n := N) (by omega); unfold stOk; simp [h1, h2])
            have HQ : Hid ((q + 3 + 1 + 1) ≤ p + 2 + 5 * ((j + 1 : Nat) : Int)) := by show _ ≤ _; omega
            have hxl2 : xs.length ≤ 1000 := by omega
            go_wp2_with (at_builtin; refine held ?_)
            unfold Held
            obtain ⟨hA, hR, hO, hG, hl1, hl2, hl3⟩ := HSF
            have hsz := hG.size
            have hnw := three_new (w10.setCell ⟨sb, 2, none⟩ (.string (dg N))) (.int .i64 0) (.string s1) (.string (dg N)) 72
            rw [World.size_setCell] at hnw
            refine app_st rfl (.tmp 53) (.tmp 55) rfl w.heap.size u3 xs (0, s1, (dg N)) ⟨w10.heap.size, 0, none⟩ 1 (by rfl) (by rfl) (own_keep hO ((Below.refl _ _).alloc (Nat.le_refl _) _)) hnw (by omega) (by simp [World.size_setCell]; omega) ?_
            intro v' w12 hown12 hg12
            have R12 := (hR.keep ((Below.refl _ _).alloc (Nat.le_refl _) (.cells #[.int .i64 0, .string s1, .string (dg N)] 72))).grow hg12 (fun g e => by have := own_block_ge hO g e; omega)
            have G12 := grown_over (grown_trans hG (grown_below ((Below.refl _ _).alloc (Nat.le_refl _) (.cells #[.int .i64 0, .string s1, .string (dg N)] 72)) (some r))) hg12 (fun g e => own_block_ge hO g e)
            clear hA hR hO hG hnw hg12
            go_wp2
            go_roundw
            case rel => exact ⟨j + 1, xs ++ [(0, s1, (dg N))], _, by omega, by go_num, by simp; omega, HOK.out, hown12, R12, HQ.out, G12⟩
            case measure => simp [intOf] <;> omega
          · have t8 : (k8 == 0) = false := by simpa using h8
            have HOK : Hid (okL (xs ++ [((0 : Int), s1, s2)])) := okL_snoc hxs.out (by have h1 := HTA.out; have h2 := HTB.out; unfold stOk; simp [h1, h2])
            have HQ : Hid ((q + 3 + 1) ≤ p + 2 + 5 * ((j + 1 : Nat) : Int)) := by show _ ≤ _; omega
            have hxl2 : xs.length ≤ 1000 := by omega
            go_wp2_with (at_builtin; refine held ?_)
            unfold Held
            obtain ⟨hA, hR, hO, hG, hl1, hl2, hl3⟩ := HS8
            have hsz := hG.size
            have hnw := three_new (w8) (.int .i64 0) (.string s1) (.string s2) 72
            refine app_st rfl (.tmp 53) (.tmp 55) rfl w.heap.size u3 xs (0, s1, s2) ⟨(w8).heap.size, 0, none⟩ 1 (by rfl) (by first | rfl | simp [World.size_setCell]) (own_keep hO ((Below.refl _ _).alloc (Nat.le_refl _) _)) hnw (by omega) (by simp; omega) ?_
            intro v' w12 hown12 hg12
            have R12 := (hR.keep ((Below.refl _ _).alloc (Nat.le_refl _) (.cells #[.int .i64 0, .string s1, .string s2] 72))).grow hg12 (fun g e => by have := own_block_ge hO g e; omega)
            have G12 := grown_over (grown_trans hG (grown_below ((Below.refl _ _).alloc (Nat.le_refl _) (.cells #[.int .i64 0, .string s1, .string s2] 72)) (some r))) hg12 (fun g e => own_block_ge hO g e)
            clear hA hR hO hG hnw hg12
            go_wp2
            go_roundw
            case rel => exact ⟨j + 1, xs ++ [(0, s1, s2)], _, by omega, by go_num, by simp; omega, HOK.out, hown12, R12, HQ.out, G12⟩
            case measure => simp [intOf] <;> omega
        · obtain rfl : y = 1 := by omega
          have HOK : Hid (okL (xs ++ [((1 : Int), s1, s2)])) := okL_snoc hxs.out (by have h1 := HTA.out; have h2 := HTB.out; unfold stOk; simp [h1, h2])
          have HQ : Hid ((q + 3) ≤ p + 2 + 5 * ((j + 1 : Nat) : Int)) := by show _ ≤ _; omega
          have hxl2 : xs.length ≤ 1000 := by omega
          go_wp2_with (at_builtin; refine held ?_)
          unfold Held
          obtain ⟨hA, hR, hO, hG, hl1, hl2, hl3⟩ := HSI
          have hsz := hG.size
          have hnw := three_new (W7) (.int .i64 1) (.string s1) (.string s2) 72
          refine app_st rfl (.tmp 53) (.tmp 55) rfl w.heap.size u3 xs (1, s1, s2) ⟨(W7).heap.size, 0, none⟩ 1 (by rfl) (by first | rfl | simp [World.size_setCell]) (own_keep hO ((Below.refl _ _).alloc (Nat.le_refl _) _)) hnw (by omega) (by simp; omega) ?_
          intro v' w12 hown12 hg12
          have R12 := (hR.keep ((Below.refl _ _).alloc (Nat.le_refl _) (.cells #[.int .i64 1, .string s1, .string s2] 72))).grow hg12 (fun g e => by have := own_block_ge hO g e; omega)
          have G12 := grown_over (grown_trans hG (grown_below ((Below.refl _ _).alloc (Nat.le_refl _) (.cells #[.int .i64 1, .string s1, .string s2] 72)) (some r))) hg12 (fun g e => own_block_ge hO g e)
          clear hA hR hO hG hnw hg12
          go_wp2
          go_roundw
          case rel => exact ⟨j + 1, xs ++ [(1, s1, s2)], _, by omega, by go_num, by simp; omega, HOK.out, hown12, R12, HQ.out, G12⟩
          case measure => simp [intOf] <;> omega
    · go_wp2
      go_ret
      exact ⟨_, xs, q, rfl, ho, by omega, hxs.out, R, by omega, G⟩
end Go.Proofs.YtplapaojgcloaaaDoor
namespace Go.PM
open Go.RowKit
def vlen : Value → Nat
  | .slice _ n _ => n
  | _ => 0
end Go.PM
namespace Go.Proofs.YtplapaojgcloaaaDoor
open Go.RowKit Go.PM
attribute [local go_sem] Oper.semAt_some

set_option maxRecDepth 100000 in
set_option maxHeartbeats 1600000 in
theorem l2Some_c (w : World) (B r : Nat) (p : Int) (hr : Rdr w 122 B r p) (p1 : p ≤ 900000) :
    Calls Tryd.prog 47 #[.pointer (some ⟨r, 0, none⟩)] w fun e w' => ∃ v xs p', e = .returned v ∧ w'.ownsRow w.heap.size 72 3 v xs.length (scells xs) ∧ shS 70 xs ∧ Rdr w' 122 B r p' ∧ p' ≤ p + 80 ∧ w.grownBy w' (some r) := by
  have hlt : r < w.heap.size := by obtain ⟨_, _, v, n, _, _, h⟩ := hr; exact h.lt
  have HD := Lib.hid (l2Draw_c w B r p hr (by omega))
  go_enter Tryd.func47, Tryd.ntmps47
  go_wp2_with fail
  refine HD.out.mono ?_
  rintro e w1 ⟨v, xs, p', rfl, ho, hl, hok, R1, hp', g1⟩
  have HZ := Lib.hid (okL_sh hok hl)
  have hs1 := g1.size
  clear HD hok
  have HP := Lib.hid (pick_c w1 B r 30 p' R1 (by omega) (by omega) (by omega))
  go_wp2_with fail
  refine HP.out.mono ?_
  rintro e w2 ⟨k, rfl, k0, k1, R2, g2⟩
  have ho2 := own_grown ho g2 (.inl (fun e => by have := own_block_ge ho r e; omega))
  have G2 := grown_trans g1 g2
  have hs2 := G2.size
  clear HP ho g1 g2 R1
  by_cases h0 : k = 0
  · subst h0
    go_wp2_with fail
    have LN : Lits (w2.alloc (.cells #[.int .i64 0, .int .i64 1, .int .i64 2, .int .i64 (-1)] 3)) w2.heap.size 4 (fun u => ∃ x, u = .int .i64 x ∧ True) := Lits.new w2 3 #[.int .i64 0, .int .i64 1, .int .i64 2, .int .i64 (-1)] _ (fun u hu => by simp at hu; rcases hu with rfl | rfl | rfl | rfl <;> exact ⟨_, rfl, trivial⟩)
    refine (num_c _ B r w2.heap.size 4 (p' + 1) (fun x => True) (R2.keep ((Below.refl _ _).alloc (Nat.le_refl _) _)) (by decide) (by decide) (by omega) LN (by omega)).mono ?_
    clear LN
    rintro e wn ⟨y, rfl, _, Rn, gn⟩
    have hon := own_grown (own_keep ho2 ((Below.refl _ _).alloc (Nat.le_refl _) _)) gn (.inl (fun e => by have := own_block_ge ho2 r e; omega))
    have Gn := grown_trans G2 (grown_trans (grown_below ((Below.refl _ _).alloc (Nat.le_refl _) _) (some r)) gn)
    have hsn := Gn.size
    clear ho2 G2 R2 gn
    go_wp2_with fail
    refine (of_c _ B r wn.heap.size 3 (p' + 1 + 1) (fun s => s.size ≤ 40) (Rn.keep ((Below.refl _ _).alloc (Nat.le_refl _) _)) (by decide) (by decide) (by omega) (Lits.strs _ _ _ 40 (by rfl)) (by omega)).mono ?_
    rintro e w3 ⟨s1, rfl, hz1, R3, g3⟩
    have ho3 := own_grown (own_keep hon ((Below.refl _ _).alloc (Nat.le_refl _) _)) g3 (.inl (fun e => by have := own_block_ge hon r e; omega))
    have G3 := grown_trans Gn (grown_trans (grown_below ((Below.refl _ _).alloc (Nat.le_refl _) _) (some r)) g3)
    have hs3 := G3.size
    clear hon Gn Rn g3
    go_wp2_with fail
    refine (of_c _ B r w3.heap.size 3 (p' + 1 + 1 + 1) (fun s => s.size ≤ 40) (R3.keep ((Below.refl _ _).alloc (Nat.le_refl _) _)) (by decide) (by decide) (by omega) (Lits.strs _ _ _ 40 (by rfl)) (by omega)).mono ?_
    rintro e w4 ⟨s2, rfl, hz2, R4, g4⟩
    have ho4 := own_grown (own_keep ho3 ((Below.refl _ _).alloc (Nat.le_refl _) _)) g4 (.inl (fun e => by have := own_block_ge ho3 r e; omega))
    have G4 := grown_trans G3 (grown_trans (grown_below ((Below.refl _ _).alloc (Nat.le_refl _) _) (some r)) g4)
    have hs4 := G4.size
    clear ho3 G3 R3 g4
    have HXA : Hid (shS 70 (xs ++ [(y, s1, s2)])) := by
      refine ⟨by simp; omega, fun x hx => ?_⟩
      rcases List.mem_append.1 hx with h | h
      · exact HZ.out.2 x h
      · rw [List.mem_singleton] at h
        rw [h]
        exact ⟨by show s1.size ≤ 64; omega, by show s2.size ≤ 64; omega⟩
    have hnw := three_new w4 (.int .i64 y) (.string s1) (.string s2) 72
    go_wp2_with (at_builtin; refine held ?_)
    unfold Held
    refine app_st rfl (.tmp 10) (.tmp 22) rfl w.heap.size v xs (y, s1, s2) ⟨w4.heap.size, 0, none⟩ 1 (by rfl) (by rfl) (own_keep ho4 ((Below.refl _ _).alloc (Nat.le_refl _) _)) hnw (by omega) (by simp; omega) ?_
    intro v' w6 hown6 hgrow6
    have R6 := (R4.keep ((Below.refl _ _).alloc (Nat.le_refl _) (.cells #[.int .i64 y, .string s1, .string s2] 72))).grow hgrow6 (fun g e => by have := own_block_ge ho4 g e; omega)
    have G6 := grown_over (grown_trans G4 (grown_below ((Below.refl _ _).alloc (Nat.le_refl _) (.cells #[.int .i64 y, .string s1, .string s2] 72)) (some r))) hgrow6 (fun g e => own_block_ge ho4 g e)
    go_wp2
    go_ret
    exact ⟨_, xs ++ [(y, s1, s2)], _, rfl, hown6, HXA.out, R6, by omega, G6⟩
  · have t0 : (k == 0) = false := by simpa using h0
    by_cases h1 : k = 1
    · subst h1
      have hz6 := HZ.out
      go_wp2
      go_loopw [3] (fun o wr => ∃ ys : List St, Hid (shS 61 ys) ∧ wr.ownsRow w.heap.size 72 3 o ys.length (scells ys) ∧ Rdr wr 122 B r (p' + 1) ∧ w.grownBy wr (some r)) (fun o _ => 61 - vlen o)
      case atStart => exact ⟨xs, ⟨by have := hz6.1; omega, hz6.2⟩, ho2, R2, G2⟩
      case round =>
        obtain ⟨ys, hys, ho, R, G⟩ := hrel
        have hsr := G.size
        have hy1 := hys.out.1
        obtain ⟨A, cap, eo, hn0, hc0, _⟩ := RdS.open (w := wr) (xs := ys) (Rd.of_own ho)
        subst eo
        clear ho2 R2 G2 hz6
        by_cases hlt2 : ys.length < 61
        · have i1 : (ys.length : Int) < 61 := by omega
          have HYA : Hid (shS 61 (ys ++ [((0 : Int), (⟨#[97]⟩ : ByteArray), (⟨#[98]⟩ : ByteArray))])) := by
            refine ⟨by simp; omega, fun x hx => ?_⟩
            rcases List.mem_append.1 hx with h | h
            · exact hys.out.2 x h
            · rw [List.mem_singleton] at h
              rw [h]; exact ⟨by decide, by decide⟩
          have hnw := three_new wr (.int .i64 0) (.string ⟨#[97]⟩) (.string ⟨#[98]⟩) 72
          go_wp2_with (at_builtin; refine held ?_)
          unfold Held
          refine app_st rfl (.tmp 29) (.tmp 32) rfl w.heap.size (.slice A ys.length cap) ys (0, ⟨#[97]⟩, ⟨#[98]⟩) ⟨wr.heap.size, 0, none⟩ 1 (by rfl) (by rfl) (own_keep ho ((Below.refl _ _).alloc (Nat.le_refl _) _)) hnw (by omega) (by simp; omega) ?_
          intro v' w6 hown6 hgrow6
          have R6 := (R.keep ((Below.refl _ _).alloc (Nat.le_refl _) (.cells #[.int .i64 0, .string ⟨#[97]⟩, .string ⟨#[98]⟩] 72))).grow hgrow6 (fun g e => by have := own_block_ge ho g e; omega)
          have G6 := grown_over (grown_trans G (grown_below ((Below.refl _ _).alloc (Nat.le_refl _) (.cells #[.int .i64 0, .string ⟨#[97]⟩, .string ⟨#[98]⟩] 72)) (some r))) hgrow6 (fun g e => own_block_ge ho g e)
          have hln : (ys ++ [((0 : Int), (⟨#[97]⟩ : ByteArray), (⟨#[98]⟩ : ByteArray))]).length = ys.length + 1 := by simp
          generalize ys ++ [((0 : Int), (⟨#[97]⟩ : ByteArray), (⟨#[98]⟩ : ByteArray))] = ys2 at *
          obtain ⟨A', cap', eo', _⟩ := RdS.open (w := w6) (xs := ys2) (Rd.of_own hown6)
          subst eo'
          have HLE : Hid (61 - vlen (Value.slice A' ys2.length cap') < 61 - vlen (Value.slice A ys.length cap)) := by
            show 61 - ys2.length < 61 - ys.length
            omega
          clear hln
          clear hnw hgrow6 R G ho
          go_wp2
          go_roundw
          case rel => exact ⟨_, HYA.out, hown6, R6, G6⟩
          case measure => exact HLE.out
        · have hy61 : ys.length = 61 := by omega
          have HP2 := Lib.hid (pick_c wr B r 2 (p' + 1) R (by omega) (by omega) (by omega))
          have i1 : ¬ (ys.length : Int) < 61 := by omega
          have i2 : decide ((ys.length : Int) < 61) = false := decide_eq_false i1
          have i3 : decide (ys.length < 61) = false := decide_eq_false hlt2
          have HO61 := Lib.hid ho
          have HY61 := Lib.hid hy61
          have hc61 : 61 ≤ cap := by omega
          clear i1 hlt2 hy1 hn0 hc0 ho hy61
          go_wp2_with fail
          refine HP2.out.mono ?_
          rintro e w7 ⟨k2, rfl, k20, k21, R7, g7⟩
          have G7 := grown_trans G g7
          have ho7 := own_grown HO61.out g7 (.inl (fun e => by have := own_block_ge HO61.out r e; omega))
          have HO7 := Lib.hid ho7
          clear ho7 g7 G R HP2
          have c1 : (0 : Int) ≤ 60 + k2 := by omega
          have c2 : 60 + k2 ≤ (cap : Int) := by omega
          have c3 : IntKind.i64.wrap (60 + k2) = 60 + k2 := IntWalk.i64_in _ ⟨by omega, by omega⟩
          obtain ⟨K2, rfl⟩ := Int.eq_ofNat_of_zero_le k20
          have c4 : ((60 : Int) + (K2 : Int)).toNat = 60 + K2 := by omega
          have c5 : 60 + K2 ≤ cap := by omega
          go_wp2
          go_ret
          have hlt : (ys.take (60 + K2)).length = 60 + K2 := by rw [List.length_take, Nat.min_eq_left (by have := HY61.out; omega)]
          refine ⟨_, ys.take (60 + K2), p' + 1 + 1, rfl, ?_, ⟨by omega, fun x hx => hys.out.2 x (List.mem_of_mem_take hx)⟩, R7, by omega, G7⟩
          rw [hlt]
          exact own_take HO7.out (by have := HY61.out; omega)
    · have t1 : (k == 1) = false := by simpa using h1
      go_wp2
      go_ret
      exact ⟨_, xs, _, rfl, ho2, ⟨by have := HZ.out.1; omega, HZ.out.2⟩, R2, by omega, G2⟩
end Go.Proofs.YtplapaojgcloaaaDoor
