import Derived.Test.YteadhnpmmpninaaMoves
import Derived.Test.YteadhnpmmpninaaRange2
import Derived.Test.YteadhnpmmpninaaHold
import Derived.Test.YteadhnpmmpninaaBusyP
import Derived.Test.YteadhnpmmpninaaRingI
import Derived.Test.YteadhnpmmpninaaWheelP
import Derived.Test.YteadhnpmmpninaaNames
import Derived.Test.YteadhnpmmpninaaTail
import Derived.Test.YteadhnpmmpninaaRow
import Derived.Test.YteadhnpmmpninaaRange
import Derived.Test.YteadhnpmmpninaaNamesIn
import Derived.Test.YteadhnpmmpninaaApp
import Derived.Test.YteadhnpmmpninaaLate
import Derived.Test.YteadhnpmmpninaaTurn
import Derived.Test.YteadhnpmmpninaaBelow
import Derived.Scope
import Derived.WalkMore
namespace Go.PM
open Go.RowKit
theorem mvT_len (t : Nat → ByteArray) {pre : List Mv} (h : pre <+: mvT t (List.range 9)) : pre.length ≤ 9 := by
  have h1 := h.length_le
  have h2 : (mvT t (List.range 9)).length ≤ 9 := by
    unfold mvT
    rw [List.length_map]
    have := List.length_filter_le (hasT t) (List.range 9)
    simpa using this
  omega
theorem own_box_ne {w : World} {base : Nat} {e t : TypeId} {size n b : Nat} {v : Value} {cs : List Value} {c : Array Value} (h : w.ownsRow base e size v n cs) (hA : At w b t c) (hne : e ≠ t) : some b ≠ v.ownBlock := by
  rcases h.2 with ⟨rfl, _⟩ | ⟨g, cap, cur, rfl, _, hg, _⟩
  · simp [Value.ownBlock]
  · intro e'
    simp only [Value.ownBlock, Option.some.injEq] at e'
    subst e'
    unfold At at hA
    rw [hA] at hg
    cases hg
    exact hne rfl
/-- a row of one's own outlasts the turn of a block that is no cells -/
theorem own_turn {w w' : World} {base : Nat} {e : TypeId} {size n : Nat} {v : Value} {cs : List Value} {row : Option Nat} (h : w.ownsRow base e size v n cs) (hg : w.grownBy w' row) (hr : ∀ r, row = some r → ∃ o : Obj, w.heap[r]? = some o ∧ o.isCells = false) : w'.ownsRow base e size v n cs := by
  refine h.kept hg ?_
  rcases h.2 with ⟨rfl, _⟩ | ⟨g, cap, cur, rfl, _, hh, _⟩
  · exact .inl rfl
  · refine .inr fun e' => ?_
    obtain ⟨o, ho, hc⟩ := hr g e'.symm
    rw [hh] at ho
    cases ho
    cases hc
theorem At.turn {w w' : World} {b : Nat} {t : TypeId} {c : Array Value} {row : Option Nat} (h : At w b t c) (hg : w.grownBy w' row) (hr : ∀ r, row = some r → ∃ o : Obj, w.heap[r]? = some o ∧ o.isCells = false) : At w' b t c := by
  refine h.grown hg fun e' => ?_
  obtain ⟨o, ho, hc⟩ := hr b e'.symm
  unfold At at h
  rw [h] at ho
  cases ho
  cases hc
end Go.PM
namespace Go.Proofs.Yteadhnpmmpninaa
open Go.RowKit Go.PM
attribute [local go_sem] Oper.semAt_some

theorem appIn_mv {F : Fence} {k : Nat} {ops : Array Oper} {rest : List Oper} {o : Oper} {a : Act} {Q : Exit → Act → World → Prop} {w : World} (hgd : o.guard = none) (s x : Operand)
    (ho : o.op = .call { callee := .builtin .append, args := #[s, x], argTypes := #[23, 23] })
    (base : Nat) (v : Value) (ys : List Mv) (m : Mv) (ad : Addr) (c : Nat) (hs : a.eval s = v) (hx : a.eval x = .slice (some ad) 1 c)
    (hown : w.ownsRow base 31 2 v ys.length (mcells ys)) (hnew : ∀ j u, [Value.string m.1, Value.string m.2][j]? = some u → w.cell? (ad.add j) = some u)
    (hlen : ys.length ≤ 1048576) (hbase : base ≤ w.heap.size)
    (h : ∀ v' w', w'.ownsRow base 31 2 v' (ys ++ [m]).length (mcells (ys ++ [m])) → w.grownBy w' v.ownBlock → wpListIn F k Try.prog ops Q rest (a.put o.dst v') w') : wpListIn F k Try.prog ops Q (o :: rest) a w := by
  obtain ⟨i0, hi0, hz0, hz1, hz2⟩ := info_parts infoMv
  refine wpListIn_append_own w hgd s x _ ho base 31 i0 _ 2 32 Try.underlying23 hi0 hz0 hz1 hz2 rfl (by omega) v ys.length (mcells ys) hs hown ad 1 c [Value.string m.1, Value.string m.2] hx rfl hnew
    (by intro u hu; simp at hu; rcases hu with rfl | rfl <;> rfl) (by simp only [maxLen]; omega) (by omega) hbase ?_
  intro v' w' h2 h3 _
  refine h v' w' ?_ h3
  rw [mcells_append, List.length_append]
  simpa [mcells] using h2

set_option maxRecDepth 100000 in
set_option maxHeartbeats 2000000 in
/-- the moves of a table, in the order of their places -/
theorem list_c (t : Nat → ByteArray) (w : World) :
    Calls Try.prog 72 #[tabX t] w fun e w' => ∃ v', e = .returned v' ∧ w'.ownsRow w.heap.size 31 2 v' (mvT t (List.range 9)).length (mcells (mvT t (List.range 9))) ∧ Below w.heap.size w w' := by
  refine (callsIn_wide (n := 5)).1 ?_
  refine callsIn_of_wp_marks Try.func72 rfl trivial ?_ rfl
  simp only [Try.ntmps72, List.size_toArray, List.length_cons, List.length_nil, Nat.reduceAdd, Nat.reduceSub, Array.replicate_succ, Array.replicate_zero, List.push_toArray, List.append_toArray, List.nil_append, List.cons_append]
  gi_wp2
  obtain ⟨W0, hW0⟩ : ∃ W0 : World, W0 = (w.alloc (.cells (tabA t) 56)).alloc (.cells #[.slice none 0 0] 23) := ⟨_, rfl⟩
  have hS0 : W0.heap.size = w.heap.size + 2 := by rw [hW0]; simp only [World.size_alloc]
  have hB0 : Below w.heap.size w W0 := by rw [hW0]; (repeat' (first | (with_reducible exact Below.refl _ _) | (with_reducible assumption) | (with_reducible refine Below.alloc ?_ ?_ _) | (with_reducible refine Below.drew ?_) | (with_reducible refine Below.setCell ?_ ?_ _) | (with_reducible exact Nat.le_refl _) | omega | ((repeat (first | rewrite [World.size_alloc] | rewrite [World.size_setCell] | rewrite [World.size_drew])); omega) | (simp; omega) | (simp; done)))
  have hA0 : At W0 (w.heap.size + 1) 23 #[.slice none 0 0] := by
    rw [hW0]; have := At.new (w.alloc (.cells (tabA t) 56)) 23 #[.slice none 0 0]
    rwa [World.size_alloc] at this
  rw [← hW0]
  clear hW0
  refine range_law2 (F := Fence.wide) (gf := 114) (lf := #[tabX t]) (lb := #[]) rfl (by decide) rfl trivial (fun args w => rfl) (encs := fun m : Mv => #[.agg #[.string m.1, .string m.2]]) (xs := mvT t (List.range 9)) (κ := 2)
    (moves_iter t) (fun _ => rfl)
    (fun pre W => ∃ o, At W (w.heap.size + 1) 23 #[o] ∧ W.ownsRow (W0.heap.size + 4) 31 2 o pre.length (mcells pre) ∧ Below w.heap.size w W)
    (fun _ _ _ => False) ?_ (fun _ => ownFrom_pure _ _) ?_
    (fun m a' W => ∃ b, At W b 31 #[.string m.1, .string m.2] ∧ a' = { tmps := #[tabX t, .pointer (some ⟨w.heap.size, 0, none⟩), .slice none 0 0, .pointer (some ⟨w.heap.size + 1, 0, none⟩), .pointer (some ⟨b, 0, none⟩), tabX t, .func (.func 114) #[tabX t] #[], .agg #[.string m.1, .string m.2], undef, undef, undef, undef, undef], defers := [] }) ?_ ?_ ?_ ?_ ?_
  · rintro s A A' row ⟨o, k1, k2, k3⟩ hg hr
    exact ⟨o, k1.turn hg (fun r e => (hr r e).2), own_turn k2 hg (fun r e => (hr r e).2), k3.trans (below_grown hg k3.size (fun g e => by have := (hr g e).1; omega))⟩
  · exact ⟨_, hA0, ⟨rfl, .inl ⟨rfl, rfl⟩⟩, hB0⟩
  · rintro m a' s A A' row ⟨b, k1, k2⟩ hg hr
    exact ⟨b, k1.turn hg (fun r e => (hr r e).2), k2⟩
  · intro l pre m W K hI hp hsz hK
    obtain ⟨o, k1, k2, k3⟩ := hI
    have r1 : ∃ o, At (W.alloc (.cells #[.string m.1, .string m.2] 31)) (w.heap.size + 1) 23 #[o] ∧ (W.alloc (.cells #[.string m.1, .string m.2] 31)).ownsRow (W0.heap.size + 4) 31 2 o pre.length (mcells pre) ∧ Below w.heap.size w (W.alloc (.cells #[.string m.1, .string m.2] 31)) :=
      ⟨o, k1.alloc _, own_keep k2 ((Below.refl _ _).alloc (Nat.le_refl _) _), k3.alloc k3.size _⟩
    have r2 := At.new W 31 #[.string m.1, .string m.2]
    have r3 : KeepsNew W0.heap.size W (W.alloc (.cells #[.string m.1, .string m.2] 31)) := KeepsNew.below ((Below.refl _ _).alloc (Nat.le_refl _) _)
    clear k1 k2 k3
    gi_wp2
    exact hK _ _ r3 r1 ⟨_, r2, rfl⟩
  · rintro l pre m a' W ⟨o, k1, k2, k3⟩ ⟨b, q1, rfl⟩ hp hsz
    have hlen := mvT_len t (List.IsPrefix.trans (List.prefix_append pre [m]) hp)
    have hpn : (pre ++ [m]).length = pre.length + 1 := by simp
    have c1 : W.cell? ⟨b, 0, none⟩ = some (.string m.1) := q1.cell 0
    have c2 : W.cell? ⟨b, 1, none⟩ = some (.string m.2) := q1.cell 1
    have c3 : W.cell? ⟨w.heap.size + 1, 0, none⟩ = some o := k1.cell 0
    have hl1 := k1.lt
    have hnw := two_new W (.string m.1) (.string m.2) 31
    gi_wp2_with (gi_at_builtin; refine held ?_)
    unfold Held
    refine appIn_mv rfl (.tmp 8) (.tmp 10) rfl (W0.heap.size + 4) o pre m ⟨W.heap.size, 0, none⟩ 1 (by rfl) (by rfl) (own_keep k2 ((Below.refl _ _).alloc (Nat.le_refl _) _)) hnw (by omega) (by simp; omega) ?_
    intro o' W3 hown3 hgrow3
    have j1 : At W3 (w.heap.size + 1) 23 #[o] := (k1.alloc (.cells #[.string m.1, .string m.2] 31)).grown hgrow3 (own_box_ne k2 k1 (by decide))
    have d1 := j1.cell 0
    have d2 := j1.frozen 0
    have hge := own_block_ge k2
    have hK3 : KeepsFrom W0.heap.size W W3 := by
      refine ⟨Nat.le_trans (by simp) hgrow3.size, fun x ob hx1 hx2 hx3 => ?_⟩
      have hx4 := (Array.getElem?_eq_some_iff.1 hx2).1
      refine (hgrow3.block x (by simp; omega) (fun e => ?_)).trans ((Below.heap_alloc _ _ _ hx4).trans hx2)
      rcases k2.2 with ⟨rfl, _⟩ | ⟨g, cap, cur, rfl, _, hh, _⟩
      · cases e
      · cases e
        rw [hh] at hx2
        cases hx2
        cases hx3
    have hI3 : KeepsIn (W0.heap.size + 2) 2 W W3 := by
      refine ⟨Nat.le_trans (by simp) hgrow3.size, fun x hx1 hx2 => ?_⟩
      refine (hgrow3.block x (by simp; omega) (fun e => ?_)).trans (Below.heap_alloc _ _ _ (by omega))
      have := hge x e.symm
      omega
    have hB3 : Below w.heap.size w W3 := (k3.alloc k3.size _).trans (below_grown hgrow3 (by have := k3.size; simp; omega) (fun g e => by have := hge g e; omega))
    have hne3 := own_box_ne hown3 j1 (by decide)
    rw [hpn] at hown3
    obtain ⟨A3, cap3, rfl, _⟩ := Rd.of_own hown3
    have m1 : At (W3.setCell ⟨w.heap.size + 1, 0, none⟩ (.slice A3 (pre.length + 1) cap3)) (w.heap.size + 1) 23 #[.slice A3 (pre.length + 1) cap3] := j1.set 0 _
    clear hnw c1 c2 c3 k1 k2 k3 q1 hgrow3 hge
    gi_wp2
    refine ⟨hK3.trans ((KeepsOthers.setCell _ _ _).from _), ⟨by simp [World.size_setCell]; exact hI3.size, fun x hx1 hx2 => (heap_setCell_other _ _ _ _ (by simp; omega)).trans (hI3.same x hx1 hx2)⟩, _, m1, ?_, hB3.setCell (by simp) _⟩
    rw [hpn]
    exact hown3.kept (grownBy_setCell' W3 (w.heap.size + 1) _) (.inr hne3.symm)
  · intro D W hD hI hd
    obtain ⟨o, k1, k2, k3⟩ := hI
    have c3 : W.cell? ⟨w.heap.size + 1, 0, none⟩ = some o := k1.cell 0
    have hown := own_more k2 (show w.heap.size ≤ W0.heap.size + 4 by omega)
    clear k1 k2
    gi_wp2
    refine ⟨by simp, .inl ⟨D, _, rfl, run_takeDeferred hd, ?_⟩⟩
    exact ⟨_, results_tmp rfl _ _ _, _, rfl, own_turn hown (grownBy_putObj' W D _) (fun r e => by cases e; exact ⟨_, hd, rfl⟩), k3.trans ⟨rfl, rfl, rfl, by simp [World.putObj], fun k hk => World.putObj_heap_other (by have := k3.size; omega)⟩⟩
  · intro _ _ _ _ _ _ hf
    exact hf.elim
end Go.Proofs.Yteadhnpmmpninaa
namespace Go.PM
open Go.RowKit
/-- the moves that give to place p the value of S p, of the first k places -/
def lsH (S : Nat → ByteArray) (p : Nat) : Bool := decide (S p ≠ nm p)
def lsF (S : Nat → ByteArray) (k : Nat) : List Mv := ((List.range k).filter (lsH S)).map fun p => (nm p, S p)
theorem lsF_yes (S : Nat → ByteArray) (k : Nat) (h : lsH S k = true) : lsF S (k + 1) = lsF S k ++ [(nm k, S k)] := by
  simp [lsF, List.range_succ, h]
theorem lsF_no (S : Nat → ByteArray) (k : Nat) (h : lsH S k = false) : lsF S (k + 1) = lsF S k := by
  simp [lsF, List.range_succ, h]
theorem lsF_len (S : Nat → ByteArray) (k : Nat) : (lsF S k).length ≤ k := by
  unfold lsF
  rw [List.length_map]
  have := List.length_filter_le (lsH S) (List.range k)
  simpa using this
theorem lsF_congr {S T : Nat → ByteArray} {k : Nat} (h : ∀ p, p < k → S p = T p) : lsF S k = lsF T k := by
  have e : (List.range k).filter (lsH S) = (List.range k).filter (lsH T) := List.filter_congr fun p hp => by
    have : p < k := by simpa using hp
    rw [lsH, lsH, h p this]
  unfold lsF
  rw [e]
  refine List.map_congr_left fun p hp => ?_
  have : p < k := by have := (List.mem_filter.1 hp).1; simpa using this
  rw [h p this]
theorem lsF_keys (S : Nat → ByteArray) : ((lsF S 9).map (·.1)).Nodup := by
  have e : (lsF S 9).map (·.1) = ((List.range 9).filter (lsH S)).map nm := by simp [lsF]
  rw [e]
  have : ∀ l : List Nat, l.Nodup → (∀ p ∈ l, p < 9) → (l.map nm).Nodup := by
    intro l
    induction l with
    | nil => intro _ _; simp
    | cons a l ih =>
      intro h1 h2
      rw [List.nodup_cons] at h1
      rw [List.map_cons, List.nodup_cons]
      refine ⟨fun hm => ?_, ih h1.2 fun p hp => h2 p (by simp [hp])⟩
      obtain ⟨b, hb, e⟩ := List.mem_map.1 hm
      have := nm_inj (h2 b (by simp [hb])) (h2 a (by simp)) e
      subst this; exact h1.1 hb
  exact this _ ((List.nodup_range (n := 9)).sublist List.filter_sublist) (fun p hp => by
    have := (List.mem_filter.1 hp).1; simpa using this)
theorem lsF_mem {S : Nat → ByteArray} {m : Mv} (h : m ∈ lsF S 9) : ∃ p, p < 9 ∧ S p ≠ nm p ∧ m = (nm p, S p) := by
  obtain ⟨p, hp, rfl⟩ := List.mem_map.1 h
  obtain ⟨h1, h2⟩ := List.mem_filter.1 hp
  exact ⟨p, by simpa using h1, by simpa [lsH] using h2, rfl⟩
/-- a source function whose values are places or digits -/
def SVal (S : Nat → ByteArray) : Prop := ∀ p, p < 9 → isS (S p) = true
theorem lsF_MV {S : Nat → ByteArray} (h : SVal S) : MV (lsF S 9) := by
  refine ⟨fun m hm => ?_, lsF_keys S⟩
  obtain ⟨p, hp, _, rfl⟩ := lsF_mem hm
  unfold mok
  rw [isP_nm hp, h p hp]; rfl
theorem lsF_src (S : Nat → ByteArray) {p : Nat} (hp : p < 9) : srcM (lsF S 9) (nm p) = S p := by
  unfold srcM
  cases hf : (lsF S 9).find? (fun x => decide (x.1 = nm p)) with
  | none =>
    by_cases hh : S p = nm p
    · exact hh.symm
    · refine absurd (List.find?_eq_none.1 hf (nm p, S p) ?_) (by simp)
      exact List.mem_map.2 ⟨p, List.mem_filter.2 ⟨by simpa using hp, by simpa [lsH] using hh⟩, rfl⟩
  | some x =>
    have e1 : x.1 = nm p := by simpa using List.find?_some hf
    obtain ⟨q, hq, _, rfl⟩ := lsF_mem (List.mem_of_find?_eq_some hf)
    have := nm_inj hq hp e1
    subst this; rfl
theorem nm_ne (p : Nat) : nm p ≠ emp := by
  intro h
  have := congrArg ByteArray.size h
  cases this
theorem srcT_ne (f : Nat → ByteArray) (p : Nat) : srcT f p ≠ emp := by
  unfold srcT
  split
  · exact nm_ne p
  · next h => exact h

/-- the source function of one behind the other -/
def cmpF (S T : Nat → ByteArray) (p : Nat) : ByteArray := if isP (T p) then S (pidx (T p)) else T p
def cmpM (xs ys : List Mv) (p : Nat) : ByteArray := cmpF (fun q => srcM xs (nm q)) (fun q => srcM ys (nm q)) p
theorem cmpM_eq (xs ys : List Mv) (p : Nat) : cmpM xs ys p = if isP (srcM ys (nm p)) then srcM xs (srcM ys (nm p)) else srcM ys (nm p) := by
  unfold cmpM cmpF
  by_cases h : isP (srcM ys (nm p)) = true
  · rw [if_pos h, if_pos h]
    show srcM xs (nm (pidx (srcM ys (nm p)))) = _
    rw [(pidx_spec h).2]
  · rw [if_neg h, if_neg h]
theorem cmpF_assoc (A B C : Nat → ByteArray) (p : Nat) : cmpF (cmpF A B) C p = cmpF A (cmpF B C) p := by
  unfold cmpF
  by_cases h : isP (C p) = true
  · rw [if_pos h, if_pos h]
  · rw [if_neg h, if_neg h, if_neg h]
theorem cmpF_id (T : Nat → ByteArray) (p : Nat) : cmpF nm T p = T p := by
  unfold cmpF
  by_cases h : isP (T p) = true
  · rw [if_pos h, (pidx_spec h).2]
  · rw [if_neg h]
theorem cmpF_nm (S : Nat → ByteArray) {p : Nat} (hp : p < 9) : cmpF S nm p = S p := by
  unfold cmpF
  rw [if_pos (isP_nm hp), pidx_nm hp]
theorem cmpF_congr {A B C D : Nat → ByteArray} (h1 : ∀ p, p < 9 → A p = C p) (h2 : ∀ p, p < 9 → B p = D p) {p : Nat} (hp : p < 9) : cmpF A B p = cmpF C D p := by
  unfold cmpF
  rw [h2 p hp]
  by_cases h : isP (D p) = true
  · rw [if_pos h, if_pos h, h1 _ (pidx_spec h).1]
  · rw [if_neg h, if_neg h]
theorem isS_nm {p : Nat} (h : p < 9) : isS (nm p) = true := by unfold isS; rw [isP_nm h]; rfl
theorem SVal_nm : SVal nm := fun _ h => isS_nm h
theorem SVal_cmp {A B : Nat → ByteArray} (ha : SVal A) (hb : SVal B) : SVal (cmpF A B) := by
  intro p hp
  unfold cmpF
  by_cases h : isP (B p) = true
  · rw [if_pos h]; exact ha _ (pidx_spec h).1
  · rw [if_neg h]; exact hb p hp
theorem SVal_M {xs : List Mv} (h : MV xs) : SVal fun q => srcM xs (nm q) := by
  intro p hp
  show isS (srcM xs (nm p)) = true
  unfold srcM
  cases hf : xs.find? (fun m => decide (m.1 = nm p)) with
  | none => exact isS_nm hp
  | some m =>
    have := h.1 m (List.mem_of_find?_eq_some hf)
    unfold mok at this; rw [Bool.and_eq_true] at this
    exact this.2
/-- n times one behind the other -/
def pwF (S : Nat → ByteArray) : Nat → Nat → ByteArray
  | 0 => nm
  | n + 1 => cmpF (pwF S n) S
theorem pwF_left (S : Nat → ByteArray) : ∀ n p, p < 9 → cmpF S (pwF S n) p = pwF S (n + 1) p
  | 0, p, hp => by
    show cmpF S nm p = cmpF nm S p
    rw [cmpF_nm S hp, cmpF_id]
  | n + 1, p, hp => by
    show cmpF S (cmpF (pwF S n) S) p = cmpF (pwF S (n + 1)) S p
    rw [← cmpF_assoc]
    exact cmpF_congr (fun q hq => pwF_left S n q hq) (fun _ _ => rfl) hp
theorem pwF_congr {S T : Nat → ByteArray} (h : ∀ p, p < 9 → S p = T p) : ∀ n p, p < 9 → pwF S n p = pwF T n p
  | 0, _, _ => rfl
  | n + 1, _, hp => cmpF_congr (fun q hq => pwF_congr h n q hq) h hp
theorem pwF_two (S : Nat → ByteArray) : ∀ n p, p < 9 → pwF (cmpF S S) n p = pwF S (2 * n) p
  | 0, _, _ => rfl
  | n + 1, p, hp => by
    show cmpF (pwF (cmpF S S) n) (cmpF S S) p = _
    rw [show 2 * (n + 1) = 2 * n + 1 + 1 by omega]
    show _ = cmpF (cmpF (pwF S (2 * n)) S) S p
    rw [cmpF_assoc]
    exact cmpF_congr (fun q hq => pwF_two S n q hq) (fun _ _ => rfl) hp
theorem SVal_pw {S : Nat → ByteArray} (h : SVal S) : ∀ n, SVal (pwF S n)
  | 0 => SVal_nm
  | n + 1 => SVal_cmp (SVal_pw h n) h
theorem pwF_add (S : Nat → ByteArray) (m : Nat) : ∀ n p, p < 9 → pwF S (m + n) p = cmpF (pwF S m) (pwF S n) p
  | 0, p, hp => (cmpF_nm _ hp).symm
  | n + 1, p, hp => by
    show cmpF (pwF S (m + n)) S p = cmpF (pwF S m) (cmpF (pwF S n) S) p
    rw [← cmpF_assoc]
    exact cmpF_congr (fun q hq => pwF_add S m n q hq) (fun _ _ => rfl) hp

/-- tables: the ones behind the others, and without idle moves -/
def behF (f : Nat → ByteArray) (s : ByteArray) : ByteArray := if isP s then srcT f (pidx s) else s
def thenF (f g : Nat → ByteArray) (p : Nat) : ByteArray := behF f (srcT g p)
theorem thenF_cmp (f g : Nat → ByteArray) (p : Nat) : thenF f g p = cmpF (srcT f) (srcT g) p := rfl
theorem thenF_ne (f g : Nat → ByteArray) (p : Nat) : thenF f g p ≠ emp := by
  unfold thenF behF
  split
  · exact srcT_ne _ _
  · exact srcT_ne _ _
theorem srcT_then (f g : Nat → ByteArray) (p : Nat) : srcT (thenF f g) p = cmpF (srcT f) (srcT g) p := by
  unfold srcT
  rw [if_neg (thenF_ne f g p)]
  rfl
def noIdle (t : Nat → ByteArray) (p : Nat) : ByteArray := if t p = nm p then emp else t p
theorem mvT_idle (t : Nat → ByteArray) : mvT (noIdle t) (List.range 9) = lsF (srcT t) 9 := by
  unfold mvT lsF
  have e : (List.range 9).filter (hasT (noIdle t)) = (List.range 9).filter (lsH (srcT t)) := List.filter_congr fun p _ => by
    unfold hasT lsH noIdle srcT
    by_cases h1 : t p = emp
    · have : ¬ t p = nm p := fun e => nm_ne p (e ▸ h1)
      simp [h1]
    · by_cases h2 : t p = nm p
      · simp [h2]
      · simp [h1, h2]
  rw [e]
  refine List.map_congr_left fun p hp => ?_
  have h := (List.mem_filter.1 hp).2
  unfold lsH at h
  have h : srcT t p ≠ nm p := by simpa using h
  unfold noIdle srcT at *
  by_cases h1 : t p = emp
  · rw [if_pos h1] at h; exact absurd rfl h
  · rw [if_neg h1] at h ⊢
    rw [if_neg h]
theorem srcT_M {xs : List Mv} (h : MV xs) {p : Nat} (hp : p < 9) : srcT (tabOf xs) p = srcM xs (nm p) := srcM_nm h hp
theorem srcT_zero (p : Nat) : srcT (fun _ => emp) p = nm p := rfl

/-- what the functions answer -/
def compM (xs ys : List Mv) : List Mv := if mvalid xs && mvalid ys then lsF (cmpM xs ys) 9 else []
def powM (xs : List Mv) (n : Int) : List Mv := if mvalid xs && (decide (0 ≤ n) && decide (n ≤ 60)) then lsF (pwF (fun q => srcM xs (nm q)) n.toNat) 9 else []
theorem compM_tab {xs ys : List Mv} (h1 : MV xs) (h2 : MV ys) : mvT (noIdle (thenF (tabOf xs) (tabOf ys))) (List.range 9) = compM xs ys := by
  have m1 : mvalid xs = true := by simpa [mvalid] using h1
  have m2 : mvalid ys = true := by simpa [mvalid] using h2
  rw [mvT_idle, compM, m1, m2]
  refine lsF_congr fun p hp => ?_
  rw [srcT_then]
  exact cmpF_congr (fun q hq => srcT_M h1 hq) (fun q hq => srcT_M h2 hq) hp
/-- spec's way: the moves behind moves that are as moves once more -/
theorem cmpM_pw (xs : List Mv) (n : Nat) : lsF (cmpM (lsF (pwF (fun q => srcM xs (nm q)) n) 9) xs) 9 = lsF (pwF (fun q => srcM xs (nm q)) (n + 1)) 9 :=
  lsF_congr fun _ hp => cmpF_congr (fun _ hq => lsF_src _ hq) (fun _ _ => rfl) hp
theorem lsF_nm : lsF nm 9 = [] := by
  unfold lsF
  rw [List.filter_eq_nil_iff.2]
  · rfl
  · intro p _; simp [lsH]
/-- the loop's own invariant: what is done, and what is done n times more -/
def PwInv (f : Nat → ByteArray) (N : Nat) (d x : Nat → ByteArray) (n : Nat) : Prop := ∀ p, p < 9 → cmpF (srcT d) (pwF (srcT x) n) p = pwF (srcT f) N p
theorem PwInv_start (f : Nat → ByteArray) (N : Nat) : PwInv f N (fun _ => emp) f N := fun p _ => cmpF_id _ p
theorem PwInv_odd {f d x : Nat → ByteArray} {N n : Nat} (h : PwInv f N d x n) (h1 : n % 2 = 1) : PwInv f N (thenF d x) (thenF x x) (n / 2) := by
  intro p hp
  rw [← h p hp]
  have e : n = 2 * (n / 2) + 1 := by omega
  have e1 : ∀ q, q < 9 → pwF (srcT (thenF x x)) (n / 2) q = pwF (srcT x) (2 * (n / 2)) q := fun q hq => by
    rw [pwF_congr (fun r _ => srcT_then x x r) _ q hq]
    exact pwF_two _ _ q hq
  rw [cmpF_congr (fun q _ => srcT_then d x q) e1 hp, cmpF_assoc]
  refine cmpF_congr (fun _ _ => rfl) (fun q hq => ?_) hp
  rw [pwF_left _ _ q hq, ← e]
theorem PwInv_even {f d x : Nat → ByteArray} {N n : Nat} (h : PwInv f N d x n) (h1 : n % 2 = 0) : PwInv f N d (thenF x x) (n / 2) := by
  intro p hp
  rw [← h p hp]
  have e : n = 2 * (n / 2) := by omega
  refine cmpF_congr (fun _ _ => rfl) (fun q hq => ?_) hp
  rw [pwF_congr (fun r _ => srcT_then x x r) _ q hq, pwF_two _ _ q hq, ← e]
theorem PwInv_end {f d x : Nat → ByteArray} {N : Nat} (h : PwInv f N d x 0) {p : Nat} (hp : p < 9) : srcT d p = pwF (srcT f) N p := by
  rw [← h p hp]; exact (cmpF_nm _ hp).symm
end Go.PM
namespace Go.Proofs.Yteadhnpmmpninaa
open Go.RowKit Go.PM

set_option maxRecDepth 100000 in
set_option maxHeartbeats 1000000 in
theorem l1Busy_c (xs : List Mv) (v : Value) (w : World) (hx : RdM w v xs) :
    Calls Try.prog 53 #[v] w fun e w' => ∃ v', e = .returned v' ∧ w'.ownsRow w.heap.size 31 2 v' (busyF xs 9).length (mcells (busyF xs 9)) ∧ Below w.heap.size w w' := by
  have HN : Hid (∀ q, q < 9 → (ByteArray.mk #[97, 98, 99, 100, 101, 102, 65, 66, 67]).extract q (q+1) = nm q) := by
    show ∀ q, _
    intro q hq
    match q, hq with
    | 0, _ | 1, _ | 2, _ | 3, _ | 4, _ | 5, _ | 6, _ | 7, _ | 8, _ => decide +kernel
  have HS := Lib.hid (fun W (hW : RdM W v xs) (p : Nat) => l1Source_c xs v (nm p) W hW)
  have HX := Lib.hid (fun W (hW : Below w.heap.size w W) => hx.below hW)
  have hE := World.ownsRow_lit (e := 31) (base := w.heap.size) (size := 2) w #[] 0 (Nat.le_refl _) (Nat.zero_le _) rfl
  go_enter Try.func53, Try.ntmps53
  go_wp2
  go_loopw [3, 8] (fun o i wr => ∃ (k : Nat), k ≤ 9 ∧ i = .int .i64 k ∧ wr.ownsRow w.heap.size 31 2 o (busyF xs k).length (mcells (busyF xs k)) ∧ Below w.heap.size w wr) (fun _ i _ => 9 - (intOf i).toNat)
  case atStart => exact ⟨0, by omega, rfl, hE, by (repeat' (first | (with_reducible exact Below.refl _ _) | (with_reducible assumption) | (with_reducible refine Below.alloc ?_ ?_ _) | (with_reducible refine Below.drew ?_) | (with_reducible refine Below.setCell ?_ ?_ _) | (with_reducible exact Nat.le_refl _) | omega | ((repeat (first | rewrite [World.size_alloc] | rewrite [World.size_setCell] | rewrite [World.size_drew])); omega) | (simp; omega) | (simp; done)))⟩
  case round =>
    obtain ⟨k, hk, rfl, ho, hb⟩ := hrel
    have hbs := hb.size
    by_cases hlt : k < 9
    · have hex := HN.out k hlt
      have hxr := HX.out wr hb
      have HY := Lib.hid (busyF_yes xs k)
      have HZ := Lib.hid (busyF_no xs k)
      have HH := Lib.hid (show busyH xs k = decide (srcM xs (nm k) ≠ nm k) from rfl)
      have hle := busyF_len xs k
      have hcall := HS.out wr hxr k
      have HC := Lib.hid hcall
      clear hcall
      generalize srcM xs (nm k) = sk at *
      generalize nm k = q at *
      go_wp2_with fail
      refine HC.out.mono ?_
      rintro e w2 ⟨rfl, hb2⟩
      have hb2s := hb2.size
      have ho2 := own_keep ho hb2
      have hbw := hb.trans (hb2.mono hbs)
      have hbws := hbw.size
      have hnw := two_new w2 (.string q) (.string sk) 31
      go_wp2_with (at_builtin; refine app_mv rfl (.tmp 21) (.tmp 25) rfl w.heap.size u3 (busyF xs k) (q, sk) ⟨w2.heap.size, 0, none⟩ 1 (by rfl) (by rfl) ?hown ?hnew ?hlen ?hbase ?_; rotate_left 4; intro v' w3 hown3 hgrow3)
      case hown => exact own_keep ho2 ((Below.refl _ _).alloc (Nat.le_refl _) _)
      try case hnew => exact hnw
      case hlen => omega
      case hbase => simp; omega
      · have h : (!(sk.toList == q.toList)) = true := by assumption
        rw [bne_str] at h
        have hb3 := below_grown hgrow3 (B := w.heap.size) (by simp; omega) (own_block_ge ho)
        go_roundw
        case rel =>
          refine ⟨k + 1, by omega, by go_num, ?_, ?_⟩
          · rw [HY.out (by rw [HH.out]; exact h)]; exact hown3
          · exact Below.trans (by (repeat' (first | (with_reducible exact Below.refl _ _) | (with_reducible assumption) | (with_reducible refine Below.alloc ?_ ?_ _) | (with_reducible refine Below.drew ?_) | (with_reducible refine Below.setCell ?_ ?_ _) | (with_reducible exact Nat.le_refl _) | omega | ((repeat (first | rewrite [World.size_alloc] | rewrite [World.size_setCell] | rewrite [World.size_drew])); omega) | (simp; omega) | (simp; done)))) hb3
        case measure => simp [intOf]; omega
      · have h : (!(sk.toList == q.toList)) = false := by assumption
        rw [bne_str] at h
        go_roundw
        case rel =>
          refine ⟨k + 1, by omega, by go_num, ?_, by (repeat' (first | (with_reducible exact Below.refl _ _) | (with_reducible assumption) | (with_reducible refine Below.alloc ?_ ?_ _) | (with_reducible refine Below.drew ?_) | (with_reducible refine Below.setCell ?_ ?_ _) | (with_reducible exact Nat.le_refl _) | omega | ((repeat (first | rewrite [World.size_alloc] | rewrite [World.size_setCell] | rewrite [World.size_drew])); omega) | (simp; omega) | (simp; done)))⟩
          rw [HZ.out (by rw [HH.out]; exact h)]; exact ho2
        case measure => simp [intOf]; omega
    · have hk9 : k = 9 := by omega
      subst hk9
      go_wp2
      go_ret
      exact ⟨_, rfl, ho, hb⟩

def countI (xs : List Mv) : Int := if mvalid xs then ((busyF xs 9).length : Int) else -1
set_option maxRecDepth 100000 in
theorem imCountBusy_c (xs : List Mv) (v : Value) (w : World) (hx : RdM w v xs) (hn' : xs.length ≤ 1048576) :
    Calls Try.prog 74 #[v] w fun e w' => e = .returned (.int .i64 (countI xs)) ∧ Below w.heap.size w w' := by
  rcases Bool.eq_false_or_eq_true (mvalid xs) with h1 | h1
  · have HO : Hid (((dropM xs).length : Int) = countI xs) := by
      show _ = _
      rw [countI, if_pos h1, dropM, if_pos h1, busy_count (by simpa [mvalid] using h1)]
    go_enter Try.func74, Try.ntmps74
    go_wp2_with fail
    refine (imDropIdle_c xs v _ hx hn').mono ?_
    rintro e w1 ⟨v', he, ho, hb1⟩
    rw [h1] at he
    subst he
    obtain ⟨A, cap, rfl, _⟩ := Rd.of_own ho
    go_wp2
    go_ret
    exact ⟨by rw [← HO.out]; rfl, hb1⟩
  · have HO : Hid (countI xs = -1) := by show _ = _; rw [countI, h1]; rfl
    go_enter Try.func74, Try.ntmps74
    go_wp2_with fail
    refine (imDropIdle_c xs v _ hx hn').mono ?_
    rintro e w1 ⟨v', he, ho, hb1⟩
    rw [h1] at he
    subst he
    go_wp2
    go_ret
    exact ⟨by rw [HO.out]; rfl, hb1⟩
end Go.Proofs.Yteadhnpmmpninaa
namespace Go.PM
open Go.RowKit
def leafH (f : Nat → ByteArray) (p : Nat) : Bool := decide (srcT f p ≠ nm p) && decide (namesW (rdH f (nm p)) = emp)
def leafM (xs : List Mv) (m : Mv) : Bool := decide (namesW (rsH xs m.1) = emp)
def lvB (xs : List Mv) (ms : List Mv) : ByteArray := ⟨((ms.filter (leafM xs)).flatMap fun m => m.1.data.toList).toArray⟩
theorem lvB_yes (xs ms : List Mv) (m : Mv) (h : leafM xs m = true) : lvB xs (ms ++ [m]) = lvB xs ms ++ m.1 := by
  apply ByteArray.ext
  rw [ByteArray.data_append]
  simp [lvB, h]
theorem lvB_no (xs ms : List Mv) (m : Mv) (h : leafM xs m = false) : lvB xs (ms ++ [m]) = lvB xs ms := by
  simp [lvB, h]
def leavesB (xs : List Mv) : ByteArray := namesW (leafH (tabOf xs))
theorem lvB_all {xs : List Mv} (h : MV xs) : lvB xs (busyF xs 9) = leavesB xs := by
  unfold lvB leavesB namesW namesL busyF
  rw [List.filter_map, List.flatMap_map, List.filter_filter]
  have e1 : ((List.range 9).filter fun p => (leafM xs ∘ fun p => (nm p, srcM xs (nm p))) p && busyH xs p) = (List.range 9).filter (leafH (tabOf xs)) := by
    refine List.filter_congr fun p hp => ?_
    have hp9 : p < 9 := by simpa using hp
    show (leafM xs (nm p, srcM xs (nm p)) && busyH xs p) = leafH (tabOf xs) p
    unfold leafM leafH busyH
    rw [rsH_rdH h, srcM_nm h hp9, Bool.and_comm]
  rw [e1]
  have e2 : ∀ l : List Nat, (l.flatMap fun a => (nm a, srcM xs (nm a)).1.data.toList) = l.map (placesL.getD · 0) := by
    intro l
    induction l with
    | nil => rfl
    | cons a l ih => rw [List.flatMap_cons, ih]; rfl
  rw [e2]
theorem emp_iff (s : ByteArray) : s.toList.isEmpty = decide (s = emp) := by
  rw [ByteArray.toList_eq]
  by_cases h : s = emp
  · subst h; simp
  · cases hl : s.data.toList with
    | nil => exact absurd (Go.WideShapes.bytes_inj (by rw [hl])) h
    | cons a l => simp [h]
theorem busyF_one (xs : List Mv) (k : Nat) (hk : k < (busyF xs 9).length) : (busyF xs 9)[k].1.size = 1 := by
  have := List.getElem_mem hk
  unfold busyF at this
  obtain ⟨p, _, e⟩ := List.mem_map.1 this
  have : (busyF xs 9)[k].1 = nm p := by
    have : (busyF xs 9)[k] = (nm p, srcM xs (nm p)) := e.symm
    rw [this]
  rw [this]; rfl
end Go.PM
namespace Go.Proofs.Yteadhnpmmpninaa
open Go.RowKit Go.PM

set_option maxRecDepth 100000 in
set_option maxHeartbeats 1000000 in
theorem leafFn_c (f : Nat → ByteArray) (p : Nat) (hp : p < 9) (b2 : Nat) (w : World) (h2 : At w b2 56 (tabA f)) :
    Calls Try.prog 121 #[.int .i64 p, .pointer (some ⟨b2, 0, none⟩)] w fun e w' => e = .returned (.bool (leafH f p)) ∧ Below w.heap.size w w' := by
  have l2 := h2.lt
  have hc0 : ∀ x : Ext w.heap.size w, x.val.cell? ⟨b2, 0, none⟩ = some (.string (f 0)) := fun x => (x.property.cell (p := ⟨b2, 0, none⟩) l2).trans (h2.cell 0)
  have hc1 : ∀ x : Ext w.heap.size w, x.val.cell? ⟨b2, 1, none⟩ = some (.string (f 1)) := fun x => (x.property.cell (p := ⟨b2, 1, none⟩) l2).trans (h2.cell 1)
  have hc2 : ∀ x : Ext w.heap.size w, x.val.cell? ⟨b2, 2, none⟩ = some (.string (f 2)) := fun x => (x.property.cell (p := ⟨b2, 2, none⟩) l2).trans (h2.cell 2)
  have hc3 : ∀ x : Ext w.heap.size w, x.val.cell? ⟨b2, 3, none⟩ = some (.string (f 3)) := fun x => (x.property.cell (p := ⟨b2, 3, none⟩) l2).trans (h2.cell 3)
  have hc4 : ∀ x : Ext w.heap.size w, x.val.cell? ⟨b2, 4, none⟩ = some (.string (f 4)) := fun x => (x.property.cell (p := ⟨b2, 4, none⟩) l2).trans (h2.cell 4)
  have hc5 : ∀ x : Ext w.heap.size w, x.val.cell? ⟨b2, 5, none⟩ = some (.string (f 5)) := fun x => (x.property.cell (p := ⟨b2, 5, none⟩) l2).trans (h2.cell 5)
  have hc6 : ∀ x : Ext w.heap.size w, x.val.cell? ⟨b2, 6, none⟩ = some (.string (f 6)) := fun x => (x.property.cell (p := ⟨b2, 6, none⟩) l2).trans (h2.cell 6)
  have hc7 : ∀ x : Ext w.heap.size w, x.val.cell? ⟨b2, 7, none⟩ = some (.string (f 7)) := fun x => (x.property.cell (p := ⟨b2, 7, none⟩) l2).trans (h2.cell 7)
  have hc8 : ∀ x : Ext w.heap.size w, x.val.cell? ⟨b2, 8, none⟩ = some (.string (f 8)) := fun x => (x.property.cell (p := ⟨b2, 8, none⟩) l2).trans (h2.cell 8)
  have HN := Lib.hid (fun W => name_c p hp W)
  have HSS := Lib.hid (fun W => source_c f p hp W)
  have HRR := Lib.hid (fun W => readers_c f (nm p) W)
  have HH := Lib.hid (show leafH f p = (decide (srcT f p ≠ nm p) && decide (namesW (rdH f (nm p)) = emp)) from rfl)
  generalize namesW (rdH f (nm p)) = rr at *
  generalize srcT f p = sr at *
  generalize nm p = q at *
  rcases Bool.eq_false_or_eq_true (sr.toList == q.toList) with hd | hd
  all_goals
    go_enter Try.func121, Try.ntmps121
    go_wp2
    refine wp_region_ext w.heap.size (by kernel_rfl) (by kernel_rfl) ?_
    repeat (go_big_quiet_step (first | (go_at_call 99; exact ext_same _ (HN.out _)) | (go_at_call 98; exact ext_call _ (Nat.le_refl _) (HSS.out _)) | (go_at_call 122; exact ext_call _ (Nat.le_refl _) (HRR.out _))))
    refine wpQuiet_nil ?_
    intro w2 hw'
    obtain ⟨xw, hxw⟩ := hw'
    have hb2 := xw.property
    rw [← hxw] at hb2
    clear hxw xw hc0 hc1 hc2 hc3 hc4 hc5 hc6 hc7 hc8
    go_wp2
    go_ret
    refine ⟨?_, hb2⟩
    rw [HH.out]
  · have : sr = q := by rw [beq_str, decide_eq_true_eq] at hd; exact hd
    rw [this]; simp
  · have : ¬ sr = q := by rw [beq_str, decide_eq_false_iff_not] at hd; exact hd
    rw [emp_iff]; simp [this]
set_option maxRecDepth 100000 in
theorem leaves_c (f : Nat → ByteArray) (w : World) :
    Calls Try.prog 87 #[tabX f] w fun e w' => e = .returned (.string (namesW (leafH f))) ∧ Below w.heap.size w w' := by
  go_enter Try.func87, Try.ntmps87
  go_wp2_with fail
  have q2 : At (w.alloc (.cells (tabA f) 56)) w.heap.size 56 (tabA f) := At.new w _ _
  refine (names_c 121 #[.pointer (some ⟨w.heap.size, 0, none⟩)] (leafH f) _ (fun _ _ => rfl) (fun p hp W hW => ?_)).mono ?_
  · exact leafFn_c f p hp _ W (q2.keep hW)
  · rintro e w3 ⟨rfl, hb3⟩
    have b3 := ((Below.refl w.heap.size w).alloc (Nat.le_refl _) (.cells (tabA f) 56)).trans (hb3.mono (by simp [World.size_alloc]))
    clear q2 hb3
    go_wp2
    go_ret
    exact ⟨rfl, b3⟩
end Go.Proofs.Yteadhnpmmpninaa
namespace Go.PM
open Go.RowKit
theorem namesW_emp {h : Nat → Bool} : namesW h = emp ↔ ∀ p, p < 9 → h p = false := by
  have e : namesW h = emp ↔ (List.range 9).filter h = [] := by
    constructor
    · intro e
      have := congrArg (fun s => s.data.toList.length) e
      simp only [namesW, namesL, List.length_map] at this
      exact List.length_eq_zero_iff.1 this
    · intro e
      rw [namesW, namesL, e]; rfl
  rw [e, List.filter_eq_nil_iff]
  constructor
  · intro g p hp; simpa using g p (by simpa using hp)
  · intro g p hp; simpa using g p (by simpa using hp)
theorem namesW_one {p0 : Nat} (h0 : p0 < 9) : namesW (fun p => decide (p = p0)) = nm p0 := by
  match p0, h0 with
  | 0, _ | 1, _ | 2, _ | 3, _ | 4, _ | 5, _ | 6, _ | 7, _ | 8, _ => decide +kernel
/-- each place is the source of one -/
def Exch (S : Nat → ByteArray) : Prop := ∀ q, q < 9 → ∃ p, p < 9 ∧ S p = nm q
theorem leaf_exch (f : Nat → ByteArray) : namesW (leafH f) = emp ↔ Exch (srcT f) := by
  rw [namesW_emp]
  constructor
  · intro h q hq
    have h1 := h q hq
    unfold leafH at h1
    by_cases h2 : srcT f q = nm q
    · exact ⟨q, hq, h2⟩
    · have h3 : ¬ namesW (rdH f (nm q)) = emp := by simpa [h2] using h1
      rw [namesW_emp] at h3
      obtain ⟨p, h4⟩ := Classical.not_forall.1 h3
      obtain ⟨hp, h5⟩ := Classical.not_imp.1 h4
      have h6 : rdH f (nm q) p = true := by simpa using h5
      unfold rdH at h6
      rw [Bool.and_eq_true] at h6
      exact ⟨p, hp, by simpa using h6.2⟩
  · intro h q hq
    obtain ⟨p, hp, e⟩ := h q hq
    unfold leafH
    by_cases h2 : srcT f q = nm q
    · simp [h2]
    · have hne : nm p ≠ nm q := fun e2 => by
        have := nm_inj hp hq e2
        subst this; exact h2 e
      have : namesW (rdH f (nm q)) ≠ emp := fun h3 => by
        have := namesW_emp.1 h3 p hp
        unfold rdH at this
        simp [hne, e] at this
      simp [this]
theorem Exch.congr {S T : Nat → ByteArray} (h : ∀ p, p < 9 → S p = T p) (e : Exch S) : Exch T := fun q hq => by
  obtain ⟨p, hp, e1⟩ := e q hq
  exact ⟨p, hp, (h p hp).symm.trans e1⟩
theorem exch_drop {S : Nat → ByteArray} {p' : Nat} (hp' : p' < 9) (h : ∀ q, q < 9 → ∃ p, p < 9 ∧ p ≠ p' ∧ S p = nm q) : False := by
  have n1 : ((List.range 9).map nm).Nodup := by decide +kernel
  have h1 := nodup_le ((List.range 9).map nm) (((List.range 9).erase p').map S) n1 (fun a ha => by
    obtain ⟨q, hq, rfl⟩ := List.mem_map.1 ha
    obtain ⟨p, hp, hne, e⟩ := h q (by simpa using hq)
    exact List.mem_map.2 ⟨p, (List.mem_erase_of_ne hne).2 (by simpa using hp), e⟩)
  have h2 := List.length_erase_of_mem (show p' ∈ List.range 9 by simpa using hp')
  simp only [List.length_map, List.length_range] at h1 h2
  omega
theorem Exch.inj {S : Nat → ByteArray} (h : Exch S) {p p' : Nat} (hp : p < 9) (hp' : p' < 9) (e : S p = S p') : p = p' := by
  rcases Nat.decEq p p' with hne | he
  · exfalso
    refine exch_drop (S := S) hp' fun q hq => ?_
    obtain ⟨r, hr, e1⟩ := h q hq
    by_cases h1 : r = p'
    · subst h1; exact ⟨p, hp, hne, e.trans e1⟩
    · exact ⟨r, hr, h1, e1⟩
  · exact he
theorem Exch.place {S : Nat → ByteArray} (h : Exch S) {p : Nat} (hp : p < 9) : isP (S p) = true := by
  rcases Bool.eq_false_or_eq_true (isP (S p)) with h1 | h1
  · exact h1
  · exfalso
    refine exch_drop (S := S) hp fun q hq => ?_
    obtain ⟨r, hr, e1⟩ := h q hq
    refine ⟨r, hr, fun e => ?_, e1⟩
    subst e
    rw [e1, isP_nm hq] at h1
    cases h1
/-- the place that has q as its source -/
def invI (S : Nat → ByteArray) (q : Nat) : Nat := ((List.range 9).find? fun p => decide (S p = nm q)).getD 0
def invF (S : Nat → ByteArray) (q : Nat) : ByteArray := nm (invI S q)
theorem Exch.inv {S : Nat → ByteArray} (h : Exch S) {q : Nat} (hq : q < 9) : invI S q < 9 ∧ S (invI S q) = nm q := by
  obtain ⟨p, hp, e⟩ := h q hq
  unfold invI
  cases hf : (List.range 9).find? (fun p => decide (S p = nm q)) with
  | none => exact absurd (List.find?_eq_none.1 hf p (by simpa using hp)) (by simp [e])
  | some r =>
    have h1 := List.find?_some hf
    have h2 := List.mem_of_find?_eq_some hf
    exact ⟨by simpa using h2, by simpa using h1⟩
theorem Exch.inv_iff {S : Nat → ByteArray} (h : Exch S) {q p : Nat} (hq : q < 9) (hp : p < 9) : S p = nm q ↔ p = invI S q := by
  have h1 := h.inv hq
  exact ⟨fun e => h.inj hp h1.1 (e.trans h1.2.symm), fun e => by rw [e]; exact h1.2⟩
theorem invI_congr {S T : Nat → ByteArray} (h : ∀ p, p < 9 → S p = T p) (q : Nat) : invI S q = invI T q := by
  have key : ∀ l : List Nat, (∀ p ∈ l, p < 9) → l.find? (fun p => decide (S p = nm q)) = l.find? (fun p => decide (T p = nm q)) := by
    intro l
    induction l with
    | nil => intro _; rfl
    | cons a l ih =>
      intro hl
      rw [List.find?_cons, List.find?_cons, h a (hl a (by simp)), ih (fun p hp => hl p (by simp [hp]))]
  unfold invI
  rw [key _ (fun p hp => by simpa using hp)]

/-- impl's table of what gives all back, of the first k places -/
def bkF (f : Nat → ByteArray) : Nat → Nat → ByteArray
  | 0 => fun _ => emp
  | k + 1 => upd (bkF f k) (pidx (srcT f k)) (nm k)
theorem bkF_at {f : Nat → ByteArray} (h : Exch (srcT f)) : ∀ k, k ≤ 9 → ∀ p, p < k → bkF f k (pidx (srcT f p)) = nm p := by
  intro k
  induction k with
  | zero => intro _ p hp; omega
  | succ k ih =>
    intro hk p hp
    show upd (bkF f k) (pidx (srcT f k)) (nm k) (pidx (srcT f p)) = nm p
    unfold upd
    by_cases e : pidx (srcT f p) = pidx (srcT f k)
    · rw [if_pos e]
      have h1 := pidx_spec (h.place (p := p) (by omega))
      have h2 := pidx_spec (h.place (p := k) (by omega))
      have : srcT f p = srcT f k := by rw [← h1.2, ← h2.2, e]
      rw [h.inj (by omega) (by omega) this]
    · rw [if_neg e]
      rcases Nat.lt_or_ge p k with h1 | h1
      · exact ih (by omega) p h1
      · have : p = k := by omega
        subst this; exact absurd rfl e
theorem bkF_inv {f : Nat → ByteArray} (h : Exch (srcT f)) {q : Nat} (hq : q < 9) : srcT (bkF f 9) q = invF (srcT f) q := by
  have h1 := h.inv hq
  have h2 := bkF_at h 9 (Nat.le_refl _) _ h1.1
  rw [h1.2, pidx_nm hq] at h2
  show (if bkF f 9 q = emp then nm q else bkF f 9 q) = _
  rw [h2, if_neg (nm_ne _)]; rfl
/-- spec's list of readers, of the first k places -/
def unH (xs : List Mv) (q : Nat) : Bool := decide (namesW (rsH xs (nm q)) ≠ emp)
def unL (xs : List Mv) (k : Nat) : List Mv := ((List.range k).filter (unH xs)).map fun q => (nm q, namesW (rsH xs (nm q)))
theorem unL_yes (xs : List Mv) (k : Nat) (h : unH xs k = true) : unL xs (k + 1) = unL xs k ++ [(nm k, namesW (rsH xs (nm k)))] := by
  simp [unL, List.range_succ, h]
theorem unL_no (xs : List Mv) (k : Nat) (h : unH xs k = false) : unL xs (k + 1) = unL xs k := by
  simp [unL, List.range_succ, h]
theorem unL_len (xs : List Mv) (k : Nat) : (unL xs k).length ≤ k := by
  unfold unL
  rw [List.length_map]
  have := List.length_filter_le (unH xs) (List.range k)
  simpa using this
theorem rs_inv {xs : List Mv} (h : Exch fun p => srcM xs (nm p)) {q : Nat} (hq : q < 9) :
    namesW (rsH xs (nm q)) = if invI (fun p => srcM xs (nm p)) q = q then emp else invF (fun p => srcM xs (nm p)) q := by
  have h1 := h.inv hq
  have e : ∀ p, p < 9 → rsH xs (nm q) p = (decide (p ≠ q) && decide (p = invI (fun p => srcM xs (nm p)) q)) := fun p hp => by
    unfold rsH
    congr 1
    · exact decide_eq_decide.2 ⟨fun hne e => hne (by rw [e]), fun hne e => hne (nm_inj hp hq e)⟩
    · exact decide_eq_decide.2 (h.inv_iff hq hp)
  rw [namesW_congr e]
  by_cases h2 : invI (fun p => srcM xs (nm p)) q = q
  · rw [if_pos h2, h2]
    refine namesW_emp.2 fun p _ => ?_
    by_cases h3 : p = q <;> simp [h3]
  · rw [if_neg h2]
    refine (namesW_congr (g := fun p => decide (p = invI (fun p => srcM xs (nm p)) q)) fun p _ => ?_).trans (namesW_one h1.1)
    by_cases h3 : p = invI (fun p => srcM xs (nm p)) q
    · rw [h3]; simp [h2]
    · simp [h3]
theorem unL_inv {xs : List Mv} (h : Exch fun p => srcM xs (nm p)) : unL xs 9 = lsF (invF fun p => srcM xs (nm p)) 9 := by
  have e : (List.range 9).filter (unH xs) = (List.range 9).filter (lsH (invF fun p => srcM xs (nm p))) := List.filter_congr fun q hq => by
    have hq : q < 9 := by simpa using hq
    unfold unH lsH
    rw [rs_inv h hq]
    by_cases h2 : invI (fun p => srcM xs (nm p)) q = q
    · rw [if_pos h2]; unfold invF; rw [h2]; simp
    · rw [if_neg h2]
      have h3 : invF (fun p => srcM xs (nm p)) q ≠ nm q := fun e => h2 (nm_inj (h.inv hq).1 hq e)
      have h4 : invF (fun p => srcM xs (nm p)) q ≠ emp := nm_ne _
      simp [h3, h4]
  unfold unL lsF
  rw [e]
  refine List.map_congr_left fun q hq => ?_
  obtain ⟨h1, h2⟩ := List.mem_filter.1 hq
  have hq : q < 9 := by simpa using h1
  unfold lsH at h2
  have h2 : invF (fun p => srcM xs (nm p)) q ≠ nm q := by simpa using h2
  rw [rs_inv h hq, if_neg]
  intro e
  exact h2 (by unfold invF; rw [e])
/-- what the functions answer -/
def exchB (xs : List Mv) : Bool := mvalid xs && decide (leavesB xs = emp)
theorem exchB_iff {xs : List Mv} : exchB xs = true ↔ MV xs ∧ Exch (srcT (tabOf xs)) := by
  unfold exchB leavesB
  rw [Bool.and_eq_true, decide_eq_true_eq, leaf_exch]
  simp [mvalid]
theorem exchB_M {xs : List Mv} (h : exchB xs = true) : Exch fun p => srcM xs (nm p) := by
  obtain ⟨h1, h2⟩ := exchB_iff.1 h
  exact h2.congr fun p hp => srcT_M h1 hp
def undoM (xs : List Mv) : List Mv := if exchB xs then lsF (invF fun p => srcM xs (nm p)) 9 else []
theorem undoM_tab {xs : List Mv} (h : exchB xs = true) : mvT (noIdle (bkF (tabOf xs) 9)) (List.range 9) = undoM xs := by
  obtain ⟨h1, h2⟩ := exchB_iff.1 h
  rw [undoM, if_pos h, mvT_idle]
  refine lsF_congr fun q hq => ?_
  rw [bkF_inv h2 hq, invF, invF, invI_congr (fun p hp => srcT_M h1 hp)]
def lostH (xs : List Mv) (p : Nat) : Bool := decide (srcM xs (nm p) ≠ nm p) && decide (namesW (rsH xs (nm p)) = emp)
theorem lost_leaf {xs : List Mv} (h : MV xs) : namesW (lostH xs) = leavesB xs := by
  refine namesW_congr fun p hp => ?_
  unfold lostH leafH
  rw [rsH_rdH h, srcM_nm h hp]
end Go.PM
namespace Go.PO
open Go.PM Go.RowKit Go.PW
section
variable {f : Nat → ByteArray} {s : Nat}
theorem wb_some (hf : SV f) (hs : s < 19) {i : Nat} (hi : i + 1 < (way (nxT f) s).length) : (way (nxT f) s)[i] < 9 ∧ sx f (way (nxT f) s)[i] = (way (nxT f) s)[i + 1] := by
  have hr := way_rho (nice hf) hs
  obtain ⟨a, t, e1, e2, e3⟩ := hr.step (j := i) hi
  rw [hr.some_ (j := i) (by omega)] at e1
  rw [hr.some_ (j := i + 1) hi] at e3
  obtain rfl := Option.some.inj e1
  obtain rfl := Option.some.inj e3
  have h9 := (nice hf).low _ _ e2
  refine ⟨h9, ?_⟩
  by_cases e : sx f (way (nxT f) s)[i] = (way (nxT f) s)[i]
  · rw [nxT_stay h9 e] at e2; cases e2
  · rw [nxT_some h9 e] at e2; exact Option.some.inj e2
theorem wb_zero (hf : SV f) (hs : s < 19) (h0 : 0 < (way (nxT f) s).length) : (way (nxT f) s)[0] = s := by
  have hr := way_rho (nice hf) hs
  have := hr.some_ h0
  exact (Option.some.inj this).symm
end
section
variable {nx : Nat → Option Nat}
theorem ringsF_in (hn : Nice nx) {q : Nat} (hq : q < 9) (hr : onRb nx q = true) : ∀ k, q < k → q ∈ (ringsF nx k).flatten := by
  intro k
  induction k with
  | zero => intro h; omega
  | succ k ih =>
    intro h
    by_cases hc : onRb nx k = true ∧ k ∉ (ringsF nx k).flatten
    · rw [ringsF_yes hc.1 hc.2, List.flatten_append, List.mem_append]
      rcases Nat.lt_or_ge q k with h1 | h1
      · exact .inl (ih h1)
      · right
        have : q = k := by omega
        subst this
        obtain ⟨l, hl⟩ := way_first nx q hn (by omega)
        simp [hl]
    · rw [ringsF_no hc]
      rcases Nat.lt_or_ge q k with h1 | h1
      · exact ih h1
      · have : q = k := by omega
        subst this
        exact Classical.not_not.1 fun hm => hc ⟨hr, hm⟩
theorem ringsF_mem2 : ∀ k, ∀ l ∈ ringsF nx k, ∃ s, s < k ∧ l = way nx s ∧ onRb nx s = true ∧ s ∉ (ringsF nx s).flatten := by
  intro k
  induction k with
  | zero => intro l h; simp [ringsF] at h
  | succ k ih =>
    intro l h
    by_cases hc : onRb nx k = true ∧ k ∉ (ringsF nx k).flatten
    · rw [ringsF_yes hc.1 hc.2, List.mem_append] at h
      rcases h with h | h
      · obtain ⟨s, h1, h2⟩ := ih l h; exact ⟨s, by omega, h2⟩
      · simp at h; exact ⟨k, by omega, h, hc⟩
    · rw [ringsF_no hc] at h
      obtain ⟨s, h1, h2⟩ := ih l h; exact ⟨s, by omega, h2⟩
theorem ring_next (hn : Nice nx) {s : Nat} (hs : s < 19) (hr : onRb nx s = true) {x y : Nat} (hx : x ∈ way nx s) (h : nx x = some y) : y ∈ way nx s := by
  have ho := way_rho hn hs
  have e := ho.onR.1 ((onRb_iff hn hs).1 hr)
  obtain ⟨j, hj⟩ := List.getElem?_of_mem hx
  have hjl := (List.getElem?_eq_some_iff.1 hj).1
  rw [ho.at_ j hjl] at hj
  have h2 : orb nx s (j + 1) = some y := by simp only [orb, hj, Option.bind_some]; exact h
  by_cases hl : j + 1 < (way nx s).length
  · rw [ho.some_ hl] at h2
    rw [← Option.some.inj h2]; exact List.getElem_mem hl
  · rw [show j + 1 = (way nx s).length by omega, e] at h2
    obtain rfl := Option.some.inj h2
    exact List.mem_of_getElem? (ho.at_ 0 ho.pos)
theorem ring_orb (hn : Nice nx) {s : Nat} (hs : s < 19) (hr : onRb nx s = true) {x : Nat} (hx : x ∈ way nx s) : ∀ k y, orb nx x k = some y → y ∈ way nx s := by
  intro k
  induction k with
  | zero => intro y h; simp only [orb, Option.some.injEq] at h; rw [← h]; exact hx
  | succ k ih =>
    intro y h
    simp only [orb, Option.bind_eq_some_iff] at h
    obtain ⟨z, h1, h2⟩ := h
    exact ring_next hn hs hr (ih z h1) h2
theorem ring_back (hn : Nice nx) {s : Nat} (hs : s < 19) (hr : onRb nx s = true) {x : Nat} (hx : x ∈ way nx s) : ∃ k, orb nx x k = some s := by
  have ho := way_rho hn hs
  have e := ho.onR.1 ((onRb_iff hn hs).1 hr)
  obtain ⟨j, hj⟩ := List.getElem?_of_mem hx
  have hjl := (List.getElem?_eq_some_iff.1 hj).1
  rw [ho.at_ j hjl] at hj
  refine ⟨(way nx s).length - j, ?_⟩
  have := orb_add (nx := nx) s j ((way nx s).length - j)
  rw [show j + ((way nx s).length - j) = (way nx s).length by omega, e, hj] at this
  exact this.symm

/-- rings have no place in common -/
theorem ringsF_nodup (hn : Nice nx) : ∀ k, k ≤ 9 → (ringsF nx k).flatten.Nodup := by
  intro k
  induction k with
  | zero => intro _; simp [ringsF]
  | succ k ih =>
    intro hk
    by_cases hc : onRb nx k = true ∧ k ∉ (ringsF nx k).flatten
    · rw [ringsF_yes hc.1 hc.2, List.flatten_append, List.nodup_append]
      have hr := way_rho hn (show k < 19 by omega)
      refine ⟨ih (by omega), by simpa using hr.nodup, fun a ha b hb e => ?_⟩
      subst e
      have hb : a ∈ way nx k := by simpa using hb
      obtain ⟨l, hl, hal⟩ := List.mem_flatten.1 ha
      obtain ⟨s', hs', rfl, hr', _⟩ := ringsF_mem2 k l hl
      obtain ⟨m, hm⟩ := ring_back hn (show k < 19 by omega) hc.1 hb
      have := ring_orb hn (show s' < 19 by omega) hr' hal m k hm
      exact hc.2 (List.mem_flatten.2 ⟨_, hl, this⟩)
    · rw [ringsF_no hc]; exact ih (by omega)
structure RingQ (f : Nat → ByteArray) (r : List Nat) : Prop where
  two : 2 ≤ r.length
  low : ∀ i (h : i < r.length), r[i] < 9
  next : ∀ i (h : i < r.length), sx f r[i] = r[(i + 1) % r.length]'(Nat.mod_lt _ (by omega))
  nodup : r.Nodup
theorem ringQ (f : Nat → ByteArray) (hf : SV f) {r : List Nat} (h : r ∈ ringsF (nxT f) 9) : RingQ f r := by
  obtain ⟨s, hs, rfl, hr, hfr⟩ := ringsF_mem2 9 r h
  have hn := nice hf
  have hs19 : s < 19 := by omega
  have ho := way_rho hn hs19
  obtain ⟨i0, h1, h2, h3⟩ := ring_last hf hs19
  obtain ⟨h4, h5, h6⟩ := h3.1 hr
  have hall := ring_all hn hs19 ((onRb_iff hn hs19).1 hr)
  have h0 := wb_zero hf hs19 ho.pos
  refine ⟨h4, fun i hi => ring_low hn (hall _ (List.getElem_mem hi)), fun i hi => ?_, ho.nodup⟩
  by_cases hl : i + 1 < (way (nxT f) s).length
  · rw [(wb_some hf hs19 hl).2]
    congr 1
    exact (Nat.mod_eq_of_lt hl).symm
  · have he : i + 1 = (way (nxT f) s).length := by omega
    have h7 : (way (nxT f) s)[i] = i0 := by
      rw [show (way (nxT f) s).length - 1 = i by omega, List.getElem?_eq_getElem hi] at h1
      exact Option.some.inj h1
    rw [h7, h6]
    have h8 : (i + 1) % (way (nxT f) s).length = 0 := by rw [he, Nat.mod_self]
    simp only [h8]
    exact h0.symm
theorem ring_pow {f : Nat → ByteArray} (hf : SV f) {r : List Nat} (h : RingQ f r) : ∀ n i (hi : i < r.length), pwF (srcT f) n r[i] = nm (r[(i + n) % r.length]'(Nat.mod_lt _ (by omega)))
  | 0, i, hi => by
    show nm r[i] = _
    congr 2
    exact (Nat.mod_eq_of_lt hi).symm
  | n + 1, i, hi => by
    have hp := h.low i hi
    have hm : (i + n) % r.length < r.length := Nat.mod_lt _ (by omega)
    have hq := h.low _ hm
    rw [← pwF_left _ _ _ hp]
    unfold cmpF
    rw [ring_pow hf h n i hi, if_pos (isP_nm hq), pidx_nm hq, ← (sx_lt hf hq).2, h.next _ hm]
    have e : ((i + n) % r.length + 1) % r.length = (i + (n + 1)) % r.length := by rw [Nat.mod_add_mod, Nat.add_assoc]
    simp only [e]
    exact sn_nm _ (h.low _ (Nat.mod_lt _ (by omega)))
theorem ring_dvd {f : Nat → ByteArray} (hf : SV f) {r : List Nat} (h : RingQ f r) (n i : Nat) (hi : i < r.length) : pwF (srcT f) n r[i] = nm r[i] ↔ r.length ∣ n := by
  rw [ring_pow hf h n i hi]
  have hm : (i + n) % r.length < r.length := Nat.mod_lt _ (by omega)
  have e1 : nm (r[(i + n) % r.length]'hm) = nm r[i] ↔ (i + n) % r.length = i := by
    constructor
    · intro e
      exact (List.getElem_inj h.nodup).1 (nm_inj (h.low _ hm) (h.low i hi) e)
    · intro e; simp only [e]
  rw [e1]
  constructor
  · intro e
    have h1 := Nat.div_add_mod (i + n) r.length
    rw [e] at h1
    exact ⟨(i + n) / r.length, by omega⟩
  · rintro ⟨k, rfl⟩
    rw [Nat.add_mul_mod_self_left, Nat.mod_eq_of_lt hi]
theorem stay_pow {S : Nat → ByteArray} {p : Nat} (hp : p < 9) (h : S p = nm p) : ∀ n, pwF S n p = nm p
  | 0 => rfl
  | n + 1 => by
    show cmpF (pwF S n) S p = nm p
    unfold cmpF
    rw [h, if_pos (isP_nm hp), pidx_nm hp, stay_pow hp h n]
/-- in an exchange each place that changes is on a ring -/
theorem exch_ring {f : Nat → ByteArray} (hf : SV f) (he : Exch (srcT f)) {p : Nat} (hp : p < 9) (h : srcT f p ≠ nm p) : onRb (nxT f) p = true := by
  have hn := nice hf
  have hs : p < 19 := by omega
  rw [onRb_iff hn hs]
  have ho := way_rho hn hs
  rw [ho.onR]
  have hlow : ∀ i, i < 9 → sx f i < 9 := fun i hi => by
    have h1 := he.place hi
    have h2 := isP_sidx (s := srcT f i) (by unfold isS; rw [h1]; rfl)
    rw [h1] at h2
    exact of_decide_eq_true h2.symm
  have hsrc : ∀ i, i < 9 → srcT f i = nm (sx f i) := fun i hi => by rw [← sn_nm _ (hlow i hi)]; exact (sx_lt hf hi).2.symm
  have hinj : ∀ i j, i < 9 → j < 9 → sx f i = sx f j → i = j := fun i j hi hj e => he.inj hi hj (by rw [hsrc i hi, hsrc j hj, e])
  have hgo : ∀ k, ∃ i, orb (nxT f) p k = some i ∧ i < 9 ∧ sx f i ≠ i := by
    intro k
    induction k with
    | zero => exact ⟨p, rfl, hp, fun e => h (by rw [hsrc p hp, e])⟩
    | succ k ih =>
      obtain ⟨i, h1, h2, h3⟩ := ih
      refine ⟨sx f i, ?_, hlow i h2, fun e => h3 (hinj _ _ (hlow i h2) h2 e)⟩
      simp only [orb, h1, Option.bind_some]
      exact nxT_some h2 h3
  rcases ho.last with h1 | ⟨mu, hmu, h1⟩
  · obtain ⟨i, h2, _⟩ := hgo (way (nxT f) p).length
    rw [h1] at h2; cases h2
  · rcases Nat.eq_zero_or_pos mu with h0 | h0
    · rw [h1, h0]; rfl
    · exfalso
      obtain ⟨m, rfl⟩ : ∃ m, mu = m + 1 := ⟨mu - 1, by omega⟩
      obtain ⟨n, hn2⟩ : ∃ n, (way (nxT f) p).length = n + 1 := ⟨(way (nxT f) p).length - 1, by omega⟩
      rw [hn2] at h1
      obtain ⟨i, e1, e2, e3⟩ := hgo m
      obtain ⟨j, e4, e5, e6⟩ := hgo n
      simp only [orb, e1, e4, Option.bind_some] at h1
      rw [nxT_some e2 e3, nxT_some e5 e6] at h1
      have := hinj _ _ e5 e2 (Option.some.inj h1)
      have := ho.inj (i := m) (j := n) (by omega) (by omega) (by rw [e1, e4, this])
      omega
def lcmL (l : List Nat) : Nat := l.foldl Nat.lcm 1
theorem lcm_fold_dvd : ∀ (l : List Nat) (a n : Nat), l.foldl Nat.lcm a ∣ n ↔ a ∣ n ∧ ∀ b ∈ l, b ∣ n
  | [], a, n => by simp
  | b :: l, a, n => by
    rw [List.foldl_cons, lcm_fold_dvd l]
    constructor
    · rintro ⟨h1, h2⟩
      refine ⟨Nat.dvd_trans (Nat.dvd_lcm_left a b) h1, fun c hc => ?_⟩
      rw [List.mem_cons] at hc
      rcases hc with rfl | hc
      · exact Nat.dvd_trans (Nat.dvd_lcm_right a c) h1
      · exact h2 c hc
    · rintro ⟨h1, h2⟩
      exact ⟨Nat.lcm_dvd h1 (h2 b (by simp)), fun c hc => h2 c (by simp [hc])⟩
theorem lcmL_dvd (l : List Nat) (n : Nat) : lcmL l ∣ n ↔ ∀ b ∈ l, b ∣ n := by
  unfold lcmL
  rw [lcm_fold_dvd]
  simp
theorem lcm1 : ∀ a, a < 10 → lcmL [a] ≤ 20 := by decide +kernel
theorem lcm2 : ∀ a, a < 10 → ∀ b, b < 10 → a + b ≤ 9 → lcmL [a, b] ≤ 20 := by decide +kernel
theorem lcm3 : ∀ a, a < 8 → ∀ b, b < 8 → ∀ c, c < 8 → a + b + c ≤ 9 → lcmL [a, b, c] ≤ 20 := by decide +kernel
theorem lcm4 : ∀ a, a < 4 → ∀ b, b < 4 → ∀ c, c < 4 → ∀ d, d < 4 → a + b + c + d ≤ 9 → lcmL [a, b, c, d] ≤ 20 := by decide +kernel
theorem lcmL_le (l : List Nat) (h2 : ∀ a ∈ l, 2 ≤ a) (hs : l.sum ≤ 9) : lcmL l ≤ 20 := by
  match l, h2, hs with
  | [], _, _ => decide
  | [a], _, hs => simp at hs; exact lcm1 a (by omega)
  | [a, b], _, hs => simp at hs; exact lcm2 a (by omega) b (by omega) (by omega)
  | [a, b, c], h2, hs =>
    simp at hs h2
    exact lcm3 a (by omega) b (by omega) c (by omega) (by omega)
  | [a, b, c, d], h2, hs =>
    simp at hs h2
    exact lcm4 a (by omega) b (by omega) c (by omega) d (by omega) (by omega)
  | a :: b :: c :: d :: e :: l, h2, hs =>
    simp at hs h2
    omega
theorem lcmL_pos {l : List Nat} (h : ∀ a ∈ l, 0 < a) : 0 < lcmL l := by
  have : ∀ (l : List Nat) (a : Nat), 0 < a → (∀ b ∈ l, 0 < b) → 0 < l.foldl Nat.lcm a := by
    intro l
    induction l with
    | nil => intro a h _; exact h
    | cons b l ih =>
      intro a h1 h2
      exact ih _ (Nat.lcm_pos h1 (h2 b (by simp))) fun c hc => h2 c (by simp [hc])
  exact this l 1 (by decide) h
/-- the least number of times -/
def ordN (f : Nat → ByteArray) : Nat := lcmL ((ringsF (nxT f) 9).map List.length)
theorem flatten_len : ∀ l : List (List Nat), l.flatten.length = (l.map List.length).sum
  | [] => rfl
  | a :: l => by simp [flatten_len l]
theorem rings_sum {f : Nat → ByteArray} (hf : SV f) {l : List (List Nat)} (h : l <+: ringsF (nxT f) 9) : (∀ a ∈ l.map List.length, 2 ≤ a) ∧ (l.map List.length).sum ≤ 9 := by
  constructor
  · intro a ha
    obtain ⟨r, hr, rfl⟩ := List.mem_map.1 ha
    exact (ringQ f hf (h.mem hr)).two
  · have h1 : l.flatten.length ≤ 9 := by
      have h2 := ringsF_nodup (nice hf) 9 (Nat.le_refl _)
      obtain ⟨t, ht⟩ := h
      rw [← ht, List.flatten_append] at h2
      refine nodup_le _ 9 (List.nodup_append.1 h2).1 fun a ha => ?_
      obtain ⟨r, hr, har⟩ := List.mem_flatten.1 ha
      obtain ⟨i, hi⟩ := List.getElem?_of_mem har
      have hil := (List.getElem?_eq_some_iff.1 hi).1
      have := (ringQ f hf (ht ▸ List.mem_append_left t hr)).low i hil
      rw [List.getElem?_eq_getElem hil] at hi
      rw [← Option.some.inj hi]; exact this
    rwa [flatten_len] at h1
theorem ord_pre {f : Nat → ByteArray} (hf : SV f) {l : List (List Nat)} (h : l <+: ringsF (nxT f) 9) : 1 ≤ lcmL (l.map List.length) ∧ lcmL (l.map List.length) ≤ 20 := by
  have h1 := rings_sum hf h
  exact ⟨lcmL_pos fun a ha => by have := h1.1 a ha; omega, lcmL_le _ h1.1 h1.2⟩
theorem ordN_le {f : Nat → ByteArray} (hf : SV f) : 1 ≤ ordN f ∧ ordN f ≤ 20 := ord_pre hf (List.prefix_refl _)
theorem lcmL_snoc (l : List Nat) (a : Nat) : lcmL (l ++ [a]) = Nat.lcm (lcmL l) a := by simp [lcmL]
theorem pow_id_iff {f : Nat → ByteArray} (hf : SV f) (he : Exch (srcT f)) (n : Nat) : (∀ p, p < 9 → pwF (srcT f) n p = nm p) ↔ ordN f ∣ n := by
  have hn := nice hf
  unfold ordN
  rw [lcmL_dvd]
  constructor
  · intro h b hb
    obtain ⟨r, hr, rfl⟩ := List.mem_map.1 hb
    have hq := ringQ f hf hr
    have h0 : 0 < r.length := by have := hq.two; omega
    exact (ring_dvd hf hq n 0 h0).1 (h _ (hq.low 0 h0))
  · intro h p hp
    by_cases hst : srcT f p = nm p
    · exact stay_pow hp hst n
    · have h1 := ringsF_in hn hp (exch_ring hf he hp hst) 9 hp
      obtain ⟨r, hr, hpr⟩ := List.mem_flatten.1 h1
      have hq := ringQ f hf hr
      obtain ⟨i, hi⟩ := List.getElem?_of_mem hpr
      have hil := (List.getElem?_eq_some_iff.1 hi).1
      rw [List.getElem?_eq_getElem hil] at hi
      have e := Option.some.inj hi
      have := (ring_dvd hf hq n i hil).2 (h _ (List.mem_map.2 ⟨r, hr, rfl⟩))
      rwa [e] at this
theorem lsF_emp {S : Nat → ByteArray} : lsF S 9 = [] ↔ ∀ p, p < 9 → S p = nm p := by
  unfold lsF
  rw [List.map_eq_nil_iff, List.filter_eq_nil_iff]
  constructor
  · intro h p hp
    have := h p (by simpa using hp)
    simpa [lsH] using this
  · intro h p hp
    have := h p (by simpa using hp)
    simp [lsH, this]
def ordI (xs : List Mv) : Int := if exchB xs then (ordN (tabOf xs) : Int) else -1
theorem ord_list {xs : List Mv} (h : exchB xs = true) (n : Nat) : lsF (pwF (fun q => srcM xs (nm q)) n) 9 = [] ↔ ordN (tabOf xs) ∣ n := by
  obtain ⟨h1, h2⟩ := exchB_iff.1 h
  rw [← pow_id_iff (SV_tab h1) h2, lsF_emp]
  constructor
  · intro g p hp; rw [pwF_congr (fun q hq => srcT_M h1 hq) n p hp]; exact g p hp
  · intro g p hp; rw [← pwF_congr (fun q hq => srcT_M h1 hq) n p hp]; exact g p hp
end
end Go.PO
namespace Go.PS
open Go.PM Go.RowKit Go.PW

/-- two numbers change places -/
def tr (p q x : Nat) : Nat := if x = p then q else if x = q then p else x
def swp (g : Nat → Nat) (p q : Nat) : Nat → Nat := fun x => g (tr p q x)
theorem tr_tr (p q x : Nat) : tr p q (tr p q x) = x := by
  unfold tr
  by_cases h1 : x = p
  · subst h1
    by_cases h2 : q = x
    · subst h2; simp
    · simp [h2]
  · by_cases h2 : x = q
    · subst h2; simp [h1]
    · simp [h1, h2]
theorem tr_lt {p q x : Nat} (hp : p < 9) (hq : q < 9) (hx : x < 9) : tr p q x < 9 := by
  unfold tr; split
  · exact hq
  · split
    · exact hp
    · exact hx
theorem tr_left (p q : Nat) : tr p q p = q := by unfold tr; rw [if_pos rfl]
theorem tr_right (p q : Nat) : tr p q q = p := by
  unfold tr; split
  · next h => exact h
  · rw [if_pos rfl]
theorem tr_ne {p q x : Nat} (h1 : x ≠ p) (h2 : x ≠ q) : tr p q x = x := by unfold tr; rw [if_neg h1, if_neg h2]
theorem tr_comm (p q x : Nat) : tr p q x = tr q p x := by
  unfold tr
  by_cases h1 : x = p
  · by_cases h2 : x = q
    · rw [if_pos h1, if_pos h2, ← h1, ← h2]
    · rw [if_pos h1, if_neg h2, if_pos h1]
  · by_cases h2 : x = q
    · rw [if_neg h1, if_pos h2, if_pos h2]
    · rw [if_neg h1, if_neg h2, if_neg h2, if_neg h1]
theorem swp_comm (g : Nat → Nat) (p q : Nat) : swp g p q = swp g q p := by funext x; unfold swp; rw [tr_comm]
/-- a permutation of the places -/
structure Prm (g : Nat → Nat) : Prop where
  lt : ∀ q, q < 9 → g q < 9
  inj : ∀ q r, q < 9 → r < 9 → g q = g r → q = r
  sur : ∀ p, p < 9 → ∃ q, q < 9 ∧ g q = p
theorem Prm.swp {g : Nat → Nat} (h : Prm g) {p q : Nat} (hp : p < 9) (hq : q < 9) : Prm (swp g p q) := by
  refine ⟨fun x hx => h.lt _ (tr_lt hp hq hx), fun x y hx hy e => ?_, fun x hx => ?_⟩
  · have := h.inj _ _ (tr_lt hp hq hx) (tr_lt hp hq hy) e
    rw [← tr_tr p q x, this, tr_tr]
  · obtain ⟨y, hy, e⟩ := h.sur x hx
    exact ⟨tr p q y, tr_lt hp hq hy, by unfold PS.swp; rw [tr_tr]; exact e⟩
/-- the place that has what a place is to get -/
def hold (g : Nat → Nat) (p : Nat) : Nat := ((List.range 9).find? fun q => decide (g q = p)).getD 0
theorem Prm.hold {g : Nat → Nat} (h : Prm g) {p : Nat} (hp : p < 9) : hold g p < 9 ∧ g (hold g p) = p := by
  obtain ⟨q, hq, e⟩ := h.sur p hp
  unfold PS.hold
  cases hf : (List.range 9).find? (fun q => decide (g q = p)) with
  | none => exact absurd (List.find?_eq_none.1 hf q (by simpa using hq)) (by simp [e])
  | some r =>
    have h1 := List.find?_some hf
    have h2 := List.mem_of_find?_eq_some hf
    exact ⟨by simpa using h2, by simpa using h1⟩
theorem Prm.hold_iff {g : Nat → Nat} (h : Prm g) {p q : Nat} (hp : p < 9) (hq : q < 9) : g q = p ↔ PS.hold g p = q := by
  have h1 := h.hold hp
  exact ⟨fun e => h.inj _ _ h1.1 hq (h1.2.trans e.symm), fun e => by rw [← e]; exact h1.2⟩
theorem filter_less {α : Type _} {P Q : α → Bool} : ∀ {l : List α}, (∀ x ∈ l, P x = true → Q x = true) → (∃ x ∈ l, Q x = true ∧ P x = false) → (l.filter P).length + 1 ≤ (l.filter Q).length
  | [], _, ⟨x, hx, _⟩ => by cases hx
  | a :: l, h, ⟨x, hx, h1, h2⟩ => by
    have hle : (l.filter P).length ≤ (l.filter Q).length := by
      clear hx h1 h2
      have h' : ∀ x ∈ l, P x = true → Q x = true := fun x hx => h x (List.mem_cons_of_mem _ hx)
      clear h
      induction l with
      | nil => simp
      | cons b l ih =>
        have ih := ih (fun x hx => h' x (List.mem_cons_of_mem _ hx))
        have hb := h' b (List.mem_cons_self ..)
        rw [List.filter_cons, List.filter_cons]
        rcases Bool.eq_false_or_eq_true (P b) with h3 | h3
        · rw [if_pos h3, if_pos (hb h3)]; simpa using ih
        · rw [if_neg (by rw [h3]; decide)]
          split
          · simp only [List.length_cons]; omega
          · exact ih
    rw [List.filter_cons, List.filter_cons]
    rcases List.mem_cons.1 hx with rfl | hx
    · rw [if_neg (by rw [h2]; decide), if_pos h1]
      simp only [List.length_cons]; omega
    · have ih := filter_less (fun x hx => h x (List.mem_cons_of_mem _ hx)) ⟨x, hx, h1, h2⟩
      have ha := h a (List.mem_cons_self ..)
      rcases Bool.eq_false_or_eq_true (P a) with h3 | h3
      · rw [if_pos h3, if_pos (ha h3)]
        simp only [List.length_cons]; omega
      · rw [if_neg (by rw [h3]; decide)]
        split
        · simp only [List.length_cons]; omega
        · exact ih
/-- how many places do not have what they are to get -/
def muG (g : Nat → Nat) : Nat := ((List.range 9).filter fun x => decide (g x ≠ x)).length
theorem muG_le (g : Nat → Nat) : muG g ≤ 9 := by
  have := List.length_filter_le (fun x => decide (g x ≠ x)) (List.range 9)
  simpa [muG] using this
theorem muG_step {g : Nat → Nat} (h : Prm g) {p : Nat} (hp : p < 9) (hne : hold g p ≠ p) : muG (swp g p (hold g p)) + 1 ≤ muG g := by
  have h1 := h.hold hp
  refine filter_less (fun x hx h2 => ?_) ⟨p, by simpa using hp, ?_, ?_⟩
  · rw [decide_eq_true_eq] at h2 ⊢
    intro e
    by_cases e1 : x = p
    · subst e1
      have := (h.hold_iff hp hp).1 e
      exact hne this
    · by_cases e2 : x = hold g p
      · rw [e2] at e; rw [h1.2] at e; exact hne e.symm
      · apply h2
        show g (tr p (hold g p) x) = x
        rw [tr_ne e1 e2]; exact e
  · rw [decide_eq_true_eq]; exact fun e => hne ((h.hold_iff hp hp).1 e)
  · rw [decide_eq_false_iff_not, Classical.not_not]
    show g (tr p (hold g p) p) = p
    rw [tr_left]; exact h1.2
/-- the swaps along a ring, from a place on -/
def rsW : Nat → (Nat → Nat) → Nat → List (Nat × Nat) × (Nat → Nat)
  | 0, g, _ => ([], g)
  | n + 1, g, p => if hold g p = p then ([], g) else ((p, hold g p) :: (rsW n (swp g p (hold g p)) (hold g p)).1, (rsW n (swp g p (hold g p)) (hold g p)).2)
theorem rsW_stop (n : Nat) {g : Nat → Nat} {p : Nat} (h : hold g p = p) : rsW n g p = ([], g) := by
  cases n with
  | zero => rfl
  | succ n => rw [rsW, if_pos h]
theorem rsW_go (n : Nat) {g : Nat → Nat} {p : Nat} (h : hold g p ≠ p) : rsW (n + 1) g p = ((p, hold g p) :: (rsW n (swp g p (hold g p)) (hold g p)).1, (rsW n (swp g p (hold g p)) (hold g p)).2) := by
  rw [rsW, if_neg h]
/-- the swaps of the first k places' rings -/
def rsA : Nat → (Nat → Nat) → List (Nat × Nat) × (Nat → Nat)
  | 0, g => ([], g)
  | k + 1, g => ((rsA k g).1 ++ (rsW 9 (rsA k g).2 k).1, (rsW 9 (rsA k g).2 k).2)
theorem rsW_prm : ∀ (n : Nat) (g : Nat → Nat) (p : Nat), Prm g → p < 9 → Prm (rsW n g p).2
  | 0, _, _, h, _ => h
  | n + 1, g, p, h, hp => by
    by_cases e : hold g p = p
    · rw [rsW_stop _ e]; exact h
    · rw [rsW_go _ e]
      have h1 := h.hold hp
      exact rsW_prm n _ _ (h.swp hp h1.1) h1.1
theorem rsA_prm {g : Nat → Nat} (h : Prm g) : ∀ k, k ≤ 9 → Prm (rsA k g).2
  | 0, _ => h
  | k + 1, hk => rsW_prm 9 _ k (rsA_prm h k (by omega)) (by omega)
theorem rsW_len : ∀ (n : Nat) (g : Nat → Nat) (p : Nat), Prm g → p < 9 → (rsW n g p).1.length + muG (rsW n g p).2 ≤ muG g
  | 0, g, p, _, _ => by simp [rsW]
  | n + 1, g, p, h, hp => by
    by_cases e : hold g p = p
    · rw [rsW_stop _ e]; simp
    · rw [rsW_go _ e]
      have h1 := h.hold hp
      have h2 := rsW_len n _ _ (h.swp hp h1.1) h1.1
      have h3 := muG_step h hp e
      simp only [List.length_cons]; omega
theorem rsA_len {g : Nat → Nat} (h : Prm g) : ∀ k, k ≤ 9 → (rsA k g).1.length + muG (rsA k g).2 ≤ muG g
  | 0, _ => by simp [rsA]
  | k + 1, hk => by
    have h1 := rsA_len h k (by omega)
    have h2 := rsW_len 9 _ k (rsA_prm h k (by omega)) (by omega)
    simp only [rsA, List.length_append]; omega
theorem rsA_le {g : Nat → Nat} (h : Prm g) (k : Nat) (hk : k ≤ 9) : (rsA k g).1.length ≤ 9 := by
  have := rsA_len h k hk
  have := muG_le g
  omega

/-- the pairs of each one of a list and the next -/
def prs : List Nat → List (Nat × Nat)
  | a :: b :: l => (a, b) :: prs (b :: l)
  | _ => []
/-- each one of a list is where the next one's value goes, and the last one is e -/
def Chn (g : Nat → Nat) (e : Nat) : Nat → List Nat → Prop
  | a, [] => a = e
  | a, b :: l => g b = a ∧ Chn g e b l
theorem Chn.congr {g g' : Nat → Nat} {e : Nat} : ∀ {l : List Nat} {a : Nat}, (∀ x ∈ l, g x = g' x) → Chn g e a l → Chn g' e a l
  | [], _, _, h => h
  | b :: l, a, he, h => ⟨by rw [← he b (by simp)]; exact h.1, h.2.congr fun x hx => he x (by simp [hx])⟩
theorem Chn.last {g : Nat → Nat} {e : Nat} : ∀ {l : List Nat} {a : Nat}, Chn g e a l → e ∈ a :: l
  | [], a, h => by rw [show a = e from h]; simp
  | b :: l, a, h => List.mem_cons_of_mem _ h.2.last
theorem rsW_chain : ∀ (l : List Nat) (n : Nat) (g : Nat → Nat) (a e : Nat), Prm g → (a :: l).Nodup → (∀ x ∈ a :: l, x < 9) → Chn g e a l → g a = e → l.length ≤ n →
    (rsW n g a).1 = prs (a :: l) ∧ ∀ x, x < 9 → (rsW n g a).2 x = if x ∈ a :: l then x else g x
  | [], n, g, a, e, h, _, hlt, hc, he, _ => by
    have ha := hlt a (by simp)
    have hg : g a = a := he.trans (show a = e from hc).symm
    have hh : hold g a = a := (h.hold_iff ha ha).1 hg
    rw [rsW_stop _ hh]
    refine ⟨rfl, fun x _ => ?_⟩
    by_cases hx : x = a
    · subst hx; simp [hg]
    · simp [hx]
  | b :: l, n, g, a, e, h, hn, hlt, hc, he, hl => by
    obtain ⟨n, rfl⟩ : ∃ m, n = m + 1 := ⟨n - 1, by simp only [List.length_cons] at hl; omega⟩
    have ha := hlt a (by simp)
    have hb := hlt b (by simp)
    rw [List.nodup_cons] at hn
    have hab : b ≠ a := fun e => hn.1 (by rw [← e]; simp)
    have hh : hold g a = b := (h.hold_iff ha hb).1 hc.1
    rw [rsW_go n (by rw [hh]; exact hab), hh]
    have hnb := (List.nodup_cons.1 hn.2).1
    have hc2 : Chn (swp g a b) e b l := hc.2.congr fun x hx => by
      show g x = g (tr a b x)
      rw [tr_ne (fun e => hn.1 (by rw [← e]; simp [hx])) (fun e => hnb (by rw [← e]; exact hx))]
    have he2 : swp g a b b = e := by show g (tr a b b) = e; rw [tr_right]; exact he
    obtain ⟨h1, h2⟩ := rsW_chain l n (swp g a b) b e (h.swp ha hb) hn.2 (fun x hx => hlt x (List.mem_cons_of_mem _ hx)) hc2 he2 (by simp only [List.length_cons] at hl; omega)
    refine ⟨by rw [h1]; rfl, fun x hx => ?_⟩
    rw [h2 x hx]
    by_cases hxl : x ∈ b :: l
    · rw [if_pos hxl, if_pos (List.mem_cons_of_mem _ hxl)]
    · rw [if_neg hxl]
      by_cases hxa : x = a
      · subst hxa
        rw [if_pos (by simp)]
        show g (tr x b x) = x
        rw [tr_left]; exact hc.1
      · rw [if_neg (by rw [List.mem_cons]; exact fun h => h.elim hxa hxl)]
        show g (tr a b x) = g x
        rw [tr_ne hxa (fun e => hxl (by rw [e]; simp))]
theorem chn_of {g : Nat → Nat} : ∀ (l : List Nat) (a : Nat), (∀ i (h : i + 1 < (a :: l).length), g (a :: l)[i + 1] = (a :: l)[i]) → ∃ e, Chn g e a l ∧ (a :: l)[l.length]? = some e
  | [], a, _ => ⟨a, rfl, rfl⟩
  | b :: l, a, h => by
    obtain ⟨e, h1, h2⟩ := chn_of l b fun i hi => by
      have := h (i + 1) (by simp only [List.length_cons] at hi ⊢; omega)
      simpa using this
    exact ⟨e, ⟨by have := h 0 (by simp); simpa using this, h1⟩, by simpa using h2⟩

section
variable {f : Nat → ByteArray}
/-- the goals of an exchange -/
theorem inv_prm (he : Exch (srcT f)) : Prm (invI (srcT f)) := by
  refine ⟨fun q hq => (he.inv hq).1, fun q r hq hr e => ?_, fun p hp => ?_⟩
  · have h1 := (he.inv hq).2
    have h2 := (he.inv hr).2
    rw [e, h2] at h1
    exact (nm_inj hr hq h1).symm
  · have h1 := pidx_spec (he.place hp)
    exact ⟨pidx (srcT f p), h1.1, ((he.inv_iff h1.1 hp).1 h1.2.symm).symm⟩
theorem exch_sx (hf : SV f) (he : Exch (srcT f)) {p : Nat} (hp : p < 9) : sx f p < 9 ∧ srcT f p = nm (sx f p) ∧ invI (srcT f) (sx f p) = p := by
  have h1 := he.place hp
  have h2 := isP_sidx (s := srcT f p) (by unfold isS; rw [h1]; rfl)
  rw [h1] at h2
  have h3 : sx f p < 9 := of_decide_eq_true h2.symm
  have h4 : srcT f p = nm (sx f p) := by rw [← sn_nm _ h3]; exact (sx_lt hf hp).2.symm
  exact ⟨h3, h4, ((he.inv_iff h3 hp).1 h4).symm⟩
theorem exch_fix (hf : SV f) (he : Exch (srcT f)) {p : Nat} (hp : p < 9) : invI (srcT f) p = p ↔ sx f p = p := by
  constructor
  · intro e
    have h1 := (he.inv hp).2
    rw [e] at h1
    have h2 := exch_sx hf he hp
    exact nm_inj h2.1 hp (h2.2.1.symm.trans h1)
  · intro e
    have h2 := exch_sx hf he hp
    rw [e] at h2; exact h2.2.2
theorem rsA_rings (hf : SV f) (he : Exch (srcT f)) : ∀ k, k ≤ 9 → (rsA k (invI (srcT f))).1 = (ringsF (nxT f) k).flatMap prs ∧
    ∀ x, x < 9 → (rsA k (invI (srcT f))).2 x = if x ∈ (ringsF (nxT f) k).flatten then x else invI (srcT f) x
  | 0, _ => ⟨rfl, fun x _ => by simp [ringsF, rsA]⟩
  | k + 1, hk => by
    obtain ⟨h1, h2⟩ := rsA_rings hf he k (by omega)
    have hn := nice hf
    have hk9 : k < 9 := by omega
    have hP := inv_prm he
    have hPk := rsA_prm hP k (by omega)
    by_cases hc : onRb (nxT f) k = true ∧ k ∉ (ringsF (nxT f) k).flatten
    · -- a ring begins here
      have hmem : way (nxT f) k ∈ ringsF (nxT f) (k + 1) := by rw [ringsF_yes hc.1 hc.2]; simp
      have hq : PO.RingQ f (way (nxT f) k) := by
        have hsub : ∀ m, k + 1 ≤ m → way (nxT f) k ∈ ringsF (nxT f) m := by
          intro m
          induction m with
          | zero => intro h; omega
          | succ m ih =>
            intro h
            rcases Nat.lt_or_ge m (k + 1) with h3 | h3
            · have : m = k := by omega
              subst this; exact hmem
            · by_cases hc2 : onRb (nxT f) m = true ∧ m ∉ (ringsF (nxT f) m).flatten
              · rw [ringsF_yes hc2.1 hc2.2]; exact List.mem_append_left _ (ih h3)
              · rw [ringsF_no hc2]; exact ih h3
        exact PO.ringQ f hf (hsub 9 hk)
      have hdis : ∀ x ∈ way (nxT f) k, x ∉ (ringsF (nxT f) k).flatten := fun x hx hx2 => by
        have := PO.ringsF_nodup hn (k + 1) hk
        rw [ringsF_yes hc.1 hc.2, List.flatten_append, List.nodup_append] at this
        exact this.2.2 x hx2 x (by simpa using hx) rfl
      obtain ⟨l, hl⟩ := way_first (nxT f) k hn (by omega)
      rw [hl] at hq hdis
      have hlow : ∀ x ∈ k :: l, x < 9 := fun x hx => by
        obtain ⟨i, hi⟩ := List.getElem?_of_mem hx
        have hil := (List.getElem?_eq_some_iff.1 hi).1
        rw [List.getElem?_eq_getElem hil] at hi
        rw [← Option.some.inj hi]; exact hq.low i hil
      have hgo : ∀ x ∈ k :: l, (rsA k (invI (srcT f))).2 x = invI (srcT f) x := fun x hx => by
        rw [h2 x (hlow x hx), if_neg (hdis x hx)]
      obtain ⟨e, hce, hlast⟩ := chn_of (g := (rsA k (invI (srcT f))).2) l k fun i hi => by
        rw [hgo _ (List.getElem_mem hi)]
        have h3 := hq.next i (by omega)
        have h4 : (i + 1) % (k :: l).length = i + 1 := Nat.mod_eq_of_lt hi
        simp only [h4] at h3
        rw [← h3]
        exact (exch_sx hf he (hq.low i (by omega))).2.2
      have hcl : (rsA k (invI (srcT f))).2 k = e := by
        rw [hgo k (by simp)]
        have h3 := hq.next l.length (by simp)
        have h4 : (l.length + 1) % (k :: l).length = 0 := by simp
        simp only [h4, List.getElem_cons_zero] at h3
        have h5 : (k :: l)[l.length]'(by simp) = e := by
          rw [List.getElem?_eq_getElem (by simp)] at hlast
          exact Option.some.inj hlast
        rw [h5] at h3
        rw [← h3]
        exact (exch_sx hf he (by rw [← h5]; exact hlow _ (List.getElem_mem _))).2.2
      have hlen : l.length ≤ 9 := by
        have := PW.nodup_le (k :: l) 9 hq.nodup hlow
        simp only [List.length_cons] at this; omega
      obtain ⟨c1, c2⟩ := rsW_chain l 9 _ k e hPk hq.nodup hlow hce hcl hlen
      rw [ringsF_yes hc.1 hc.2, hl]
      refine ⟨by simp only [rsA]; rw [c1, h1]; simp, fun x hx => ?_⟩
      show (rsW 9 (rsA k (invI (srcT f))).2 k).2 x = _
      rw [c2 x hx, h2 x hx]
      simp only [List.flatten_append, List.mem_append, List.flatten_cons, List.flatten_nil, List.append_nil]
      by_cases hx1 : x ∈ k :: l
      · rw [if_pos hx1, if_pos (.inr hx1)]
      · by_cases hx2 : x ∈ (ringsF (nxT f) k).flatten
        · rw [if_neg hx1, if_pos hx2, if_pos (.inl hx2)]
        · rw [if_neg hx1, if_neg hx2, if_neg (fun h => h.elim hx2 hx1)]
    · have hfix : (rsA k (invI (srcT f))).2 k = k := by
        rw [h2 k hk9]
        split
        · rfl
        · next hno =>
          have hnr : ¬ onRb (nxT f) k = true := fun h => hc ⟨h, hno⟩
          have : srcT f k = nm k := Classical.not_not.1 fun hne => hnr (PO.exch_ring hf he hk9 hne)
          exact (exch_fix hf he hk9).2 ((src_self hf hk9).1 this)
      have hh := (hPk.hold_iff hk9 hk9).1 hfix
      rw [ringsF_no hc]
      refine ⟨by simp only [rsA]; rw [rsW_stop _ hh, h1]; simp, fun x hx => ?_⟩
      show (rsW 9 (rsA k (invI (srcT f))).2 k).2 x = _
      rw [rsW_stop _ hh]; exact h2 x hx
theorem rsA_id (hf : SV f) (he : Exch (srcT f)) : ∀ x, x < 9 → (rsA 9 (invI (srcT f))).2 x = x := fun x hx => by
  rw [(rsA_rings hf he 9 (Nat.le_refl _)).2 x hx]
  split
  · rfl
  · next hno =>
    refine (exch_fix hf he hx).2 ((src_self hf hx).1 (Classical.not_not.1 fun hne => hno ?_))
    exact PO.ringsF_in (nice hf) hx (PO.exch_ring hf he hx hne) 9 hx
end
end Go.PS
namespace Go.PS
open Go.PM Go.RowKit Go.PW

/-- how many of a list are less than a number; how many pairs of a list descend -/
def cntL (a : Nat) (xs : List Nat) : Nat := (xs.filter fun x => decide (x < a)).length
def invL : List Nat → Nat
  | [] => 0
  | a :: xs => cntL a xs + invL xs
theorem cntL_app (a : Nat) (xs ys : List Nat) : cntL a (xs ++ ys) = cntL a xs + cntL a ys := by simp [cntL]
theorem cntL_cons (a b : Nat) (xs : List Nat) : cntL a (b :: xs) = (if b < a then 1 else 0) + cntL a xs := by
  unfold cntL
  rw [List.filter_cons]
  by_cases h : b < a
  · rw [if_pos (by simpa using h), if_pos h]; simp only [List.length_cons]; omega
  · rw [if_neg (by simpa using h), if_neg h]; omega
theorem cntL_turn (c : Nat) (l r : List Nat) (a b : Nat) : cntL c (l ++ a :: b :: r) = cntL c (l ++ b :: a :: r) := by
  rw [cntL_app, cntL_app, cntL_cons, cntL_cons, cntL_cons, cntL_cons]; omega
theorem invL_adj {a b : Nat} (h : b < a) : ∀ (l r : List Nat), invL (l ++ a :: b :: r) = invL (l ++ b :: a :: r) + 1
  | [], r => by
    simp only [List.nil_append, invL, cntL_cons]
    rw [if_pos h, if_neg (by omega)]; omega
  | c :: l, r => by
    have := invL_adj h l r
    simp only [List.cons_append, invL]
    rw [cntL_turn c l r a b, this]; omega
theorem invL_par {a b : Nat} (h : a ≠ b) (l r : List Nat) : invL (l ++ a :: b :: r) % 2 = (invL (l ++ b :: a :: r) + 1) % 2 := by
  rcases Nat.lt_or_ge b a with h1 | h1
  · rw [invL_adj h1]
  · rw [invL_adj (a := b) (b := a) (by omega) l r]; omega
theorem invL_past (a : Nat) (r : List Nat) : ∀ (m l : List Nat), a ∉ m → invL (l ++ a :: (m ++ r)) % 2 = (invL (l ++ (m ++ a :: r)) + m.length) % 2
  | [], l, _ => by simp
  | c :: m, l, h => by
    have hc : a ≠ c := fun e => h (by rw [e]; simp)
    have h1 := invL_par hc l (m ++ r)
    have h2 := invL_past a r m (l ++ [c]) (fun hm => h (by simp [hm]))
    simp only [List.append_assoc, List.cons_append, List.nil_append] at h1 h2 ⊢
    simp only [List.length_cons]
    omega
/-- two numbers of a list that change places -/
theorem invL_tr {a b : Nat} (hab : a ≠ b) (l m r : List Nat) (ha : a ∉ m) (hb : b ∉ m) : invL (l ++ a :: (m ++ b :: r)) % 2 = (invL (l ++ b :: (m ++ a :: r)) + 1) % 2 := by
  have h1 := invL_past a (b :: r) m l ha
  have h2 := invL_past b (a :: r) m l hb
  have h3 := invL_par hab (l ++ m) r
  simp only [List.append_assoc] at h3
  omega
def gl (g : Nat → Nat) : List Nat := [g 0, g 1, g 2, g 3, g 4, g 5, g 6, g 7, g 8]
def invG (g : Nat → Nat) : Nat := invL (gl g)
theorem swp_at (g : Nat → Nat) (p q : Nat) : swp g p q p = g q ∧ swp g p q q = g p ∧ ∀ x, x ≠ p → x ≠ q → swp g p q x = g x :=
  ⟨by show g (tr p q p) = _; rw [tr_left], by show g (tr p q q) = _; rw [tr_right], fun x h1 h2 => by show g (tr p q x) = _; rw [tr_ne h1 h2]⟩
theorem invG_adj (g : Nat → Nat) (k : Nat) (hk : k < 8) (h : g (k + 1) < g k) : invG g = invG (swp g k (k + 1)) + 1 := by
  obtain ⟨e1, e2, e3⟩ := swp_at g k (k + 1)
  unfold invG gl
  match k, hk with
  | 0, _ => rw [e1, e2, e3 2 (by omega) (by omega), e3 3 (by omega) (by omega), e3 4 (by omega) (by omega), e3 5 (by omega) (by omega), e3 6 (by omega) (by omega), e3 7 (by omega) (by omega), e3 8 (by omega) (by omega)]; exact invL_adj h [] [g 2, g 3, g 4, g 5, g 6, g 7, g 8]
  | 1, _ => rw [e1, e2, e3 0 (by omega) (by omega), e3 3 (by omega) (by omega), e3 4 (by omega) (by omega), e3 5 (by omega) (by omega), e3 6 (by omega) (by omega), e3 7 (by omega) (by omega), e3 8 (by omega) (by omega)]; exact invL_adj h [g 0] [g 3, g 4, g 5, g 6, g 7, g 8]
  | 2, _ => rw [e1, e2, e3 0 (by omega) (by omega), e3 1 (by omega) (by omega), e3 4 (by omega) (by omega), e3 5 (by omega) (by omega), e3 6 (by omega) (by omega), e3 7 (by omega) (by omega), e3 8 (by omega) (by omega)]; exact invL_adj h [g 0, g 1] [g 4, g 5, g 6, g 7, g 8]
  | 3, _ => rw [e1, e2, e3 0 (by omega) (by omega), e3 1 (by omega) (by omega), e3 2 (by omega) (by omega), e3 5 (by omega) (by omega), e3 6 (by omega) (by omega), e3 7 (by omega) (by omega), e3 8 (by omega) (by omega)]; exact invL_adj h [g 0, g 1, g 2] [g 5, g 6, g 7, g 8]
  | 4, _ => rw [e1, e2, e3 0 (by omega) (by omega), e3 1 (by omega) (by omega), e3 2 (by omega) (by omega), e3 3 (by omega) (by omega), e3 6 (by omega) (by omega), e3 7 (by omega) (by omega), e3 8 (by omega) (by omega)]; exact invL_adj h [g 0, g 1, g 2, g 3] [g 6, g 7, g 8]
  | 5, _ => rw [e1, e2, e3 0 (by omega) (by omega), e3 1 (by omega) (by omega), e3 2 (by omega) (by omega), e3 3 (by omega) (by omega), e3 4 (by omega) (by omega), e3 7 (by omega) (by omega), e3 8 (by omega) (by omega)]; exact invL_adj h [g 0, g 1, g 2, g 3, g 4] [g 7, g 8]
  | 6, _ => rw [e1, e2, e3 0 (by omega) (by omega), e3 1 (by omega) (by omega), e3 2 (by omega) (by omega), e3 3 (by omega) (by omega), e3 4 (by omega) (by omega), e3 5 (by omega) (by omega), e3 8 (by omega) (by omega)]; exact invL_adj h [g 0, g 1, g 2, g 3, g 4, g 5] [g 8]
  | 7, _ => rw [e1, e2, e3 0 (by omega) (by omega), e3 1 (by omega) (by omega), e3 2 (by omega) (by omega), e3 3 (by omega) (by omega), e3 4 (by omega) (by omega), e3 5 (by omega) (by omega), e3 6 (by omega) (by omega)]; exact invL_adj h [g 0, g 1, g 2, g 3, g 4, g 5, g 6] []
/-- the places from i on, n of them -/
def seg (g : Nat → Nat) (i : Nat) : Nat → List Nat
  | 0 => []
  | n + 1 => g i :: seg g (i + 1) n
theorem seg_app (g : Nat → Nat) : ∀ (n m i : Nat), seg g i (n + m) = seg g i n ++ seg g (i + n) m
  | 0, m, i => by simp [seg]
  | n + 1, m, i => by
    rw [show n + 1 + m = n + m + 1 by omega]
    simp only [seg, List.cons_append]
    rw [seg_app g n m (i + 1), show i + 1 + n = i + (n + 1) by omega]
theorem seg_congr {g g' : Nat → Nat} : ∀ (n i : Nat), (∀ x, i ≤ x → x < i + n → g x = g' x) → seg g i n = seg g' i n
  | 0, _, _ => rfl
  | n + 1, i, h => by
    simp only [seg]
    rw [h i (Nat.le_refl _) (by omega), seg_congr n (i + 1) fun x h1 h2 => h x (by omega) (by omega)]
theorem seg_mem {g : Nat → Nat} {a : Nat} : ∀ (n i : Nat), a ∈ seg g i n → ∃ x, i ≤ x ∧ x < i + n ∧ g x = a
  | 0, _, h => by cases h
  | n + 1, i, h => by
    rcases List.mem_cons.1 h with rfl | h
    · exact ⟨i, Nat.le_refl _, by omega, rfl⟩
    · obtain ⟨x, h1, h2, h3⟩ := seg_mem n (i + 1) h
      exact ⟨x, by omega, by omega, h3⟩
theorem gl_seg (g : Nat → Nat) : gl g = seg g 0 9 := rfl
theorem gl_split (g : Nat → Nat) {i j : Nat} (hij : i < j) (hj : j < 9) : gl g = seg g 0 i ++ g i :: (seg g (i + 1) (j - i - 1) ++ g j :: seg g (j + 1) (8 - j)) := by
  rw [gl_seg, show 9 = i + (1 + ((j - i - 1) + (1 + (8 - j)))) by omega, seg_app, seg_app, seg_app, seg_app]
  simp only [seg, Nat.zero_add, List.cons_append, List.nil_append]
  rw [show i + 1 + (j - i - 1) = j by omega]
theorem invG_tr {g : Nat → Nat} (h : Prm g) {i j : Nat} (hij : i < j) (hj : j < 9) : invG g % 2 = (invG (swp g i j) + 1) % 2 := by
  obtain ⟨e1, e2, e3⟩ := swp_at g i j
  unfold invG
  rw [gl_split g hij hj, gl_split (swp g i j) hij hj, e1, e2]
  rw [seg_congr (g := swp g i j) (g' := g) i 0 fun x _ h2 => e3 x (by omega) (by omega)]
  rw [seg_congr (g := swp g i j) (g' := g) (j - i - 1) (i + 1) fun x h1 h2 => e3 x (by omega) (by omega)]
  rw [seg_congr (g := swp g i j) (g' := g) (8 - j) (j + 1) fun x h1 h2 => e3 x (by omega) (by omega)]
  refine invL_tr (fun e => ?_) _ _ _ (fun hm => ?_) (fun hm => ?_)
  · have := h.inj i j (by omega) hj e; omega
  · obtain ⟨x, h1, h2, h3⟩ := seg_mem _ _ hm
    have := h.inj x i (by omega) (by omega) h3; omega
  · obtain ⟨x, h1, h2, h3⟩ := seg_mem _ _ hm
    have := h.inj x j (by omega) hj h3; omega
/-- swaps one behind the other, seen by the goals -/
def appS (ps : List (Nat × Nat)) (g : Nat → Nat) : Nat → Nat := ps.foldl (fun g p => swp g p.1 p.2) g
theorem appS_app (ps qs : List (Nat × Nat)) (g : Nat → Nat) : appS (ps ++ qs) g = appS qs (appS ps g) := by unfold appS; rw [List.foldl_append]
/-- swaps of two places -/
def okP (ps : List (Nat × Nat)) : Prop := ∀ p ∈ ps, p.1 < 9 ∧ p.2 < 9 ∧ p.1 ≠ p.2
theorem okP_app {ps qs : List (Nat × Nat)} (h1 : okP ps) (h2 : okP qs) : okP (ps ++ qs) := fun p hp => (List.mem_append.1 hp).elim (h1 p) (h2 p)
theorem appS_par : ∀ (ps : List (Nat × Nat)) (g : Nat → Nat), Prm g → okP ps → invG g % 2 = (invG (appS ps g) + ps.length) % 2 ∧ Prm (appS ps g)
  | [], g, h, _ => ⟨by simp [appS], h⟩
  | p :: ps, g, h, ho => by
    obtain ⟨h1, h2, h3⟩ := ho p (by simp)
    have hs := h.swp h1 h2
    obtain ⟨h4, h5⟩ := appS_par ps (swp g p.1 p.2) hs fun q hq => ho q (by simp [hq])
    refine ⟨?_, h5⟩
    show _ = (invG (appS ps (swp g p.1 p.2)) + (ps.length + 1)) % 2
    have h6 : invG g % 2 = (invG (swp g p.1 p.2) + 1) % 2 := by
      rcases Nat.lt_or_ge p.1 p.2 with hlt | hge
      · exact invG_tr h hlt h2
      · rw [swp_comm]; exact invG_tr h (by omega) h1
    omega
theorem invG_id {g : Nat → Nat} (h : ∀ x, x < 9 → g x = x) : invG g = 0 := by
  have : gl g = gl (fun x => x) := by
    rw [gl_seg, gl_seg]; exact seg_congr 9 0 fun x _ h2 => h x (by omega)
  unfold invG; rw [this]; decide
theorem rsW_app : ∀ (n : Nat) (g : Nat → Nat) (p : Nat), Prm g → p < 9 → appS (rsW n g p).1 g = (rsW n g p).2 ∧ okP (rsW n g p).1
  | 0, _, _, _, _ => ⟨rfl, by simp [okP, rsW]⟩
  | n + 1, g, p, h, hp => by
    by_cases e : hold g p = p
    · rw [rsW_stop _ e]; exact ⟨rfl, by simp [okP]⟩
    · rw [rsW_go _ e]
      have h1 := h.hold hp
      obtain ⟨h2, h3⟩ := rsW_app n _ _ (h.swp hp h1.1) h1.1
      refine ⟨h2, fun q hq => ?_⟩
      rcases List.mem_cons.1 hq with rfl | hq
      · exact ⟨hp, h1.1, fun e2 => e e2.symm⟩
      · exact h3 q hq
theorem rsA_app {g : Nat → Nat} (h : Prm g) : ∀ k, k ≤ 9 → appS (rsA k g).1 g = (rsA k g).2 ∧ okP (rsA k g).1
  | 0, _ => ⟨rfl, by simp [okP, rsA]⟩
  | k + 1, hk => by
    obtain ⟨h1, h2⟩ := rsA_app h k (by omega)
    obtain ⟨h3, h4⟩ := rsW_app 9 _ k (rsA_prm h k (by omega)) (by omega)
    refine ⟨?_, okP_app h2 h4⟩
    show appS ((rsA k g).1 ++ _) g = _
    rw [appS_app, h1, h3]; rfl

/-- going through the first k pairs of neighbours once -/
def pas : Nat → (Nat → Nat) → List (Nat × Nat) × (Nat → Nat)
  | 0, g => ([], g)
  | k + 1, g => if (pas k g).2 (k + 1) < (pas k g).2 k then ((pas k g).1 ++ [(k, k + 1)], swp (pas k g).2 k (k + 1)) else pas k g
theorem pas_yes {k : Nat} {g : Nat → Nat} (h : (pas k g).2 (k + 1) < (pas k g).2 k) : pas (k + 1) g = ((pas k g).1 ++ [(k, k + 1)], swp (pas k g).2 k (k + 1)) := by rw [pas, if_pos h]
theorem pas_no {k : Nat} {g : Nat → Nat} (h : ¬ (pas k g).2 (k + 1) < (pas k g).2 k) : pas (k + 1) g = pas k g := by rw [pas, if_neg h]
theorem pas_facts {g : Nat → Nat} (h : Prm g) : ∀ k, k ≤ 8 → Prm (pas k g).2 ∧ invG g = invG (pas k g).2 + (pas k g).1.length ∧ appS (pas k g).1 g = (pas k g).2 ∧ (∀ p ∈ (pas k g).1, p.1 < 8 ∧ p.2 = p.1 + 1) ∧ (pas k g).1.length ≤ k
  | 0, _ => ⟨h, rfl, rfl, by simp [pas], by simp [pas]⟩
  | k + 1, hk => by
    obtain ⟨h1, h2, h3, h4, h5⟩ := pas_facts h k (by omega)
    by_cases hc : (pas k g).2 (k + 1) < (pas k g).2 k
    · rw [pas_yes hc]
      refine ⟨h1.swp (by omega) (by omega), ?_, ?_, fun p hp => ?_, by simp; omega⟩
      · rw [h2, invG_adj _ k (by omega) hc]; simp; omega
      · show appS (_ ++ _) g = _
        rw [appS_app, h3]; rfl
      · rcases List.mem_append.1 hp with hp | hp
        · exact h4 p hp
        · simp at hp; subst hp; exact ⟨by show k < 8; omega, rfl⟩
    · rw [pas_no hc]; exact ⟨h1, h2, h3, h4, by omega⟩
def dsc (g : Nat → Nat) (k : Nat) : Bool := decide (g (k + 1) < g k)
/-- the first k pairs do not descend -/
def upTo (g : Nat → Nat) (k : Nat) : Prop := ∀ j, j < k → ¬ g (j + 1) < g j
theorem pas_up {g : Nat → Nat} : ∀ k, upTo g k → pas k g = ([], g)
  | 0, _ => rfl
  | k + 1, h => by
    have h1 := pas_up k fun j hj => h j (by omega)
    rw [pas_no (by rw [h1]; exact h k (by omega)), h1]
theorem pas_grows (g : Nat → Nat) : ∀ k j, k ≤ j → (pas k g).1.length ≤ (pas j g).1.length
  | k, 0, h => by have : k = 0 := by omega
                  subst this; exact Nat.le_refl _
  | k, j + 1, h => by
    rcases Nat.lt_or_ge j k with h1 | h1
    · have : k = j + 1 := by omega
      subst this; exact Nat.le_refl _
    · refine Nat.le_trans (pas_grows g k j h1) ?_
      by_cases hc : (pas j g).2 (j + 1) < (pas j g).2 j
      · rw [pas_yes hc]; simp
      · rw [pas_no hc]; exact Nat.le_refl _
/-- where a pair descends, something is swapped -/
theorem pas_some {g : Nat → Nat} {k : Nat} (hk : k < 8) (h : g (k + 1) < g k) : 1 ≤ (pas 8 g).1.length := by
  obtain ⟨m, hm, hup⟩ : ∃ m, (m < 8 ∧ g (m + 1) < g m) ∧ upTo g m := by
    have key : ∀ n, n < 8 → g (n + 1) < g n → ∃ m, (m < 8 ∧ g (m + 1) < g m) ∧ upTo g m := by
      intro n
      induction n using Nat.strongRecOn with
      | ind n ih =>
        intro h8 hn
        by_cases h2 : ∃ j, j < n ∧ g (j + 1) < g j
        · obtain ⟨j, h3, h4⟩ := h2; exact ih j h3 (by omega) h4
        · exact ⟨n, ⟨h8, hn⟩, fun j hj hd => h2 ⟨j, hj, hd⟩⟩
    exact key k hk h
  have h1 := pas_up m hup
  have h2 : (pas (m + 1) g).1.length = 1 := by
    rw [pas_yes (by rw [h1]; exact hm.2), h1]; rfl
  have := pas_grows g (m + 1) 8 (by omega)
  omega
/-- goals in order are those of nothing -/
theorem up_id {g : Nat → Nat} (h : Prm g) (hu : upTo g 8) : ∀ x, x < 9 → g x = x := by
  have hlt : ∀ x, x < 8 → g x < g (x + 1) := fun x hx => by
    have h1 := hu x hx
    have h2 : g x ≠ g (x + 1) := fun e => by have := h.inj _ _ (by omega) (by omega) e; omega
    omega
  have hlo : ∀ x, x < 9 → x ≤ g x := by
    intro x
    induction x with
    | zero => intro _; omega
    | succ x ih => intro hx; have := ih (by omega); have := hlt x (by omega); omega
  have hhi : ∀ d, d < 9 → g (8 - d) + d ≤ 8 := by
    intro d
    induction d with
    | zero => intro _; have := h.lt 8 (by omega); simpa using (by omega : g 8 ≤ 8)
    | succ d ih =>
      intro hd
      have h1 := ih (by omega)
      have h2 := hlt (8 - (d + 1)) (by omega)
      rw [show 8 - (d + 1) + 1 = 8 - d by omega] at h2
      omega
  intro x hx
  have h1 := hlo x hx
  have h2 := hhi (8 - x) (by omega)
  rw [show 8 - (8 - x) = x by omega] at h2
  omega
/-- swaps of neighbours, going through all pairs again and again -/
def nbF : Nat → (Nat → Nat) → List (Nat × Nat)
  | 0, _ => []
  | n + 1, g => if (List.range 8).any (dsc g) then (pas 8 g).1 ++ nbF n (pas 8 g).2 else []
theorem nbF_stop (n : Nat) {g : Nat → Nat} (h : upTo g 8) : nbF n g = [] := by
  cases n with
  | zero => rfl
  | succ n =>
    rw [nbF, if_neg]
    rw [List.any_eq_true]
    rintro ⟨k, hk, hd⟩
    exact h k (by simpa using hk) (by simpa [dsc] using hd)
theorem nbF_go (n : Nat) {g : Nat → Nat} {k : Nat} (hk : k < 8) (h : g (k + 1) < g k) : nbF (n + 1) g = (pas 8 g).1 ++ nbF n (pas 8 g).2 := by
  rw [nbF, if_pos]
  rw [List.any_eq_true]
  exact ⟨k, by simpa using hk, by simpa [dsc] using h⟩
theorem up_or (g : Nat → Nat) : upTo g 8 ∨ ∃ k, k < 8 ∧ g (k + 1) < g k := by
  by_cases h : ∃ k, k < 8 ∧ g (k + 1) < g k
  · exact .inr h
  · exact .inl fun j hj hd => h ⟨j, hj, hd⟩
theorem nbF_facts : ∀ (n : Nat) (g : Nat → Nat), Prm g → invG g ≤ n → (nbF n g).length = invG g ∧ (∀ x, x < 9 → appS (nbF n g) g x = x) ∧ ∀ p ∈ nbF n g, p.1 < 8 ∧ p.2 = p.1 + 1
  | n, g, h, hn => by
    rcases up_or g with hu | ⟨k, hk, hd⟩
    · rw [nbF_stop n hu]
      have hid := up_id h hu
      exact ⟨(invG_id hid).symm, fun x hx => hid x hx, by simp⟩
    · have h1 := pas_some hk hd
      obtain ⟨h2, h3, h4, h5, _⟩ := pas_facts h 8 (Nat.le_refl _)
      match n, hn with
      | 0, hn => omega
      | n + 1, hn =>
        rw [nbF_go n hk hd]
        obtain ⟨h6, h7, h8⟩ := nbF_facts n _ h2 (by omega)
        refine ⟨by rw [List.length_append, h6]; omega, fun x hx => ?_, fun p hp => (List.mem_append.1 hp).elim (h5 p) (h8 p)⟩
        rw [appS_app, h4]; exact h7 x hx
theorem cntL_le (a : Nat) (xs : List Nat) : cntL a xs ≤ xs.length := List.length_filter_le _ _
theorem invG_le (g : Nat → Nat) : invG g ≤ 36 := by
  unfold invG gl
  simp only [invL]
  have h0 := cntL_le (g 0) [g 1, g 2, g 3, g 4, g 5, g 6, g 7, g 8]
  have h1 := cntL_le (g 1) [g 2, g 3, g 4, g 5, g 6, g 7, g 8]
  have h2 := cntL_le (g 2) [g 3, g 4, g 5, g 6, g 7, g 8]
  have h3 := cntL_le (g 3) [g 4, g 5, g 6, g 7, g 8]
  have h4 := cntL_le (g 4) [g 5, g 6, g 7, g 8]
  have h5 := cntL_le (g 5) [g 6, g 7, g 8]
  have h6 := cntL_le (g 6) [g 7, g 8]
  have h7 := cntL_le (g 7) [g 8]
  have h8 := cntL_le (g 8) []
  simp only [List.length_cons, List.length_nil] at h0 h1 h2 h3 h4 h5 h6 h7 h8
  omega
/-- swaps that do the same are of an even number more or less -/
theorem par_same {g : Nat → Nat} (h : Prm g) {ps qs : List (Nat × Nat)} (hp : okP ps) (hq : okP qs) (h1 : ∀ x, x < 9 → appS ps g x = x) (h2 : ∀ x, x < 9 → appS qs g x = x) : ps.length % 2 = qs.length % 2 := by
  have h3 := (appS_par ps g h hp).1
  have h4 := (appS_par qs g h hq).1
  rw [invG_id h1] at h3
  rw [invG_id h2] at h4
  omega
/-- labels that swaps join: as many classes as places less swaps, or more -/
theorem labels : ∀ ps : List (Nat × Nat), ∃ L : Nat → Nat, (∀ p ∈ ps, L p.1 = L p.2) ∧ ∀ R : List Nat, (∀ x, x < 9 → ∃ r ∈ R, L x = L r) → 9 ≤ R.length + ps.length
  | [] => ⟨id, by simp, fun R h => by
      have := PM.nodup_le (List.range 9) R List.nodup_range fun x hx => by
        obtain ⟨r, hr, e⟩ := h x (by simpa using hx)
        have e : x = r := e
        rw [e]; exact hr
      simpa using this⟩
  | p :: ps => by
    obtain ⟨L, h1, h2⟩ := labels ps
    refine ⟨joinH L p.1 p.2, fun q hq => ?_, fun R hR => ?_⟩
    · unfold joinH
      rcases List.mem_cons.1 hq with rfl | hq
      · rw [if_pos rfl]
        split
        · rfl
        · rfl
      · rw [h1 q hq]
    · by_cases hc : ∃ r ∈ R, L r = L p.1
      · have := h2 (p.2 :: R) fun x hx => by
          obtain ⟨r, hr, e⟩ := hR x hx
          unfold joinH at e
          by_cases hx1 : L x = L p.1
          · obtain ⟨r', hr', e'⟩ := hc
            exact ⟨r', by simp [hr'], hx1.trans e'.symm⟩
          · rw [if_neg hx1] at e
            by_cases hr1 : L r = L p.1
            · rw [if_pos hr1] at e; exact ⟨p.2, by simp, e⟩
            · rw [if_neg hr1] at e; exact ⟨r, by simp [hr], e⟩
        simp only [List.length_cons] at this ⊢; omega
      · have := h2 (p.1 :: R) fun x hx => by
          obtain ⟨r, hr, e⟩ := hR x hx
          have hr1 : ¬ L r = L p.1 := fun e => hc ⟨r, hr, e⟩
          unfold joinH at e
          rw [if_neg hr1] at e
          by_cases hx1 : L x = L p.1
          · exact ⟨p.1, by simp, hx1⟩
          · rw [if_neg hx1] at e; exact ⟨r, by simp [hr], e⟩
        simp only [List.length_cons] at this ⊢; omega
theorem labels_goal {L : Nat → Nat} : ∀ (ps : List (Nat × Nat)) (g : Nat → Nat), (∀ p ∈ ps, L p.1 = L p.2) → okP ps → (∀ x, x < 9 → appS ps g x = x) → ∀ x, x < 9 → L (g x) = L x
  | [], g, _, _, h, x, hx => by rw [show g x = x from h x hx]
  | p :: ps, g, hL, ho, h, x, hx => by
    obtain ⟨o1, o2, _⟩ := ho p (by simp)
    have ih := labels_goal ps (swp g p.1 p.2) (fun q hq => hL q (by simp [hq])) (fun q hq => ho q (by simp [hq])) h
    have hp := hL p (by simp)
    have h1 := ih (tr p.1 p.2 x) (tr_lt o1 o2 hx)
    have h2 : swp g p.1 p.2 (tr p.1 p.2 x) = g x := by show g (tr _ _ (tr _ _ x)) = _; rw [tr_tr]
    rw [h2] at h1
    rw [h1]
    unfold tr
    by_cases e1 : x = p.1
    · rw [if_pos e1, e1]; exact hp.symm
    · rw [if_neg e1]
      by_cases e2 : x = p.2
      · rw [if_pos e2, e2]; exact hp
      · rw [if_neg e2]
section
variable {f : Nat → ByteArray}
/-- no fewer swaps are enough -/
theorem swaps_least (hf : SV f) (he : Exch (srcT f)) {ps : List (Nat × Nat)} (ho : okP ps) (h : ∀ x, x < 9 → appS ps (invI (srcT f)) x = x) :
    (ringsF (nxT f) 9).flatten.length ≤ ps.length + (ringsF (nxT f) 9).length := by
  obtain ⟨L, h1, h2⟩ := labels ps
  have hL := labels_goal ps _ h1 ho h
  have hn := nice hf
  have hnd := PO.ringsF_nodup hn 9 (Nat.le_refl _)
  have hlow : ∀ r ∈ ringsF (nxT f) 9, ∀ x ∈ r, x < 9 := fun r hr x hx => by
    have hq := PO.ringQ f hf hr
    obtain ⟨i, hi⟩ := List.getElem?_of_mem hx
    have hil := (List.getElem?_eq_some_iff.1 hi).1
    rw [List.getElem?_eq_getElem hil] at hi
    rw [← Option.some.inj hi]; exact hq.low i hil
  -- all places of a ring have the label of its first one
  have hring : ∀ r (hr : r ∈ ringsF (nxT f) 9), ∀ i (hi : i < r.length), L r[i] = L (r.headD 0) := fun r hr => by
    have hq := PO.ringQ f hf hr
    intro i
    induction i with
    | zero =>
      intro hi
      match r, hi with
      | a :: r, _ => rfl
    | succ i ih =>
      intro hi
      have h3 := ih (by omega)
      have h4 := hq.next i (by omega)
      have h5 : (i + 1) % r.length = i + 1 := Nat.mod_eq_of_lt hi
      simp only [h5] at h4
      have h6 := hL _ (hq.low (i + 1) hi)
      have h7 := (exch_sx hf he (hq.low i (by omega))).2.2
      rw [h4] at h7
      rw [h7] at h6
      rw [← h3]; exact h6.symm
  have := h2 ((ringsF (nxT f) 9).map (fun r => r.headD 0) ++ (List.range 9).filter fun x => decide (x ∉ (ringsF (nxT f) 9).flatten)) fun x hx => by
    by_cases hm : x ∈ (ringsF (nxT f) 9).flatten
    · obtain ⟨r, hr, hxr⟩ := List.mem_flatten.1 hm
      obtain ⟨i, hi⟩ := List.getElem?_of_mem hxr
      have hil := (List.getElem?_eq_some_iff.1 hi).1
      rw [List.getElem?_eq_getElem hil] at hi
      refine ⟨r.headD 0, List.mem_append_left _ (List.mem_map.2 ⟨r, hr, rfl⟩), ?_⟩
      rw [← Option.some.inj hi]; exact hring r hr i hil
    · exact ⟨x, List.mem_append_right _ (List.mem_filter.2 ⟨by simpa using hx, by simpa using hm⟩), rfl⟩
  have hcount : (ringsF (nxT f) 9).flatten.length + ((List.range 9).filter fun x => decide (x ∉ (ringsF (nxT f) 9).flatten)).length ≤ 9 := by
    have h3 : ((ringsF (nxT f) 9).flatten ++ (List.range 9).filter fun x => decide (x ∉ (ringsF (nxT f) 9).flatten)).Nodup := by
      rw [List.nodup_append]
      refine ⟨hnd, List.nodup_range.filter _, fun a ha b hb e => ?_⟩
      subst e
      have := (List.mem_filter.1 hb).2
      simp [ha] at this
    have h4 := PW.nodup_le _ 9 h3 fun a ha => by
      rcases List.mem_append.1 ha with ha | ha
      · obtain ⟨r, hr, har⟩ := List.mem_flatten.1 ha
        exact hlow r hr a har
      · simpa using (List.mem_filter.1 ha).1
    simpa using h4
  simp only [List.length_append, List.length_map] at this
  omega
theorem prs_len : ∀ l : List Nat, (prs l).length = l.length - 1
  | [] => rfl
  | [_] => rfl
  | a :: b :: l => by
    have := prs_len (b :: l)
    simp only [prs, List.length_cons] at this ⊢; omega
theorem prs_count : ∀ rs : List (List Nat), (∀ r ∈ rs, 1 ≤ r.length) → (rs.flatMap prs).length + rs.length = rs.flatten.length
  | [], _ => rfl
  | r :: rs, h => by
    have h1 := prs_count rs fun x hx => h x (by simp [hx])
    have h2 := h r (by simp)
    rw [List.flatMap_cons, List.length_append, prs_len, List.length_cons, List.flatten_cons, List.length_append]
    omega
theorem rings_pos (hf : SV f) : ∀ r ∈ ringsF (nxT f) 9, 1 ≤ r.length := fun r hr => by have := (PO.ringQ f hf hr).two; omega
end
end Go.PS
namespace Go.PM
open Go.RowKit
/-- the table with the sources of the first k places in it -/
def mix (f : Nat → ByteArray) (k : Nat) : Nat → ByteArray := fun q => if q < k then srcT f q else f q
theorem mix_zero (f : Nat → ByteArray) : mix f 0 = f := by funext q; simp [mix]
theorem mix_at (f : Nat → ByteArray) (k : Nat) : srcT (mix f k) k = srcT f k := by simp [srcT, mix]
theorem mix_set (f : Nat → ByteArray) (k : Nat) (hk : k < 9) : (tabA (mix f k)).setIfInBounds k (.string (srcT f k)) = tabA (mix f (k + 1)) := by
  have h := tabC_set (mix f k) k hk (srcT f k)
  have e : (fun q => if q = k then srcT f k else mix f k q) = mix f (k + 1) := by
    funext q
    by_cases hq : q = k
    · subst hq; simp [mix]
    · by_cases h2 : q < k
      · simp [mix, hq, h2, Nat.lt_succ_of_lt h2]
      · have : ¬ q < k + 1 := by omega
        simp [mix, hq, h2, this]
  rw [e] at h
  exact h
end Go.PM
namespace Go.Proofs.Yteadhnpmmpninaa
open Go.RowKit Go.PM
attribute [local go_sem] Oper.semAt_some

end Go.Proofs.Yteadhnpmmpninaa
namespace Go.PM
open Go.RowKit
/-- a table of which the first k places have turned -/
def mixG (h f : Nat → ByteArray) (k : Nat) : Nat → ByteArray := fun q => if q < k then h q else f q
theorem mixG_zero (h f : Nat → ByteArray) : mixG h f 0 = f := by funext q; simp [mixG]
theorem mixG_at (h f : Nat → ByteArray) (k : Nat) : mixG h f k k = f k := by simp [mixG]
theorem mixG_src (h f : Nat → ByteArray) (k : Nat) : srcT (mixG h f k) k = srcT f k := by simp [srcT, mixG]
theorem mixG_set (h f : Nat → ByteArray) (k : Nat) (hk : k < 9) : (tabA (mixG h f k)).setIfInBounds k (.string (h k)) = tabA (mixG h f (k + 1)) := by
  have h1 := tabC_set (mixG h f k) k hk (h k)
  have e : (fun q => if q = k then h k else mixG h f k q) = mixG h f (k + 1) := by
    funext q
    by_cases hq : q = k
    · subst hq; simp [mixG]
    · by_cases h2 : q < k
      · simp [mixG, hq, h2, Nat.lt_succ_of_lt h2]
      · have : ¬ q < k + 1 := by omega
        simp [mixG, hq, h2, this]
  rw [e] at h1
  exact h1
theorem mixG_same (h f : Nat → ByteArray) (k : Nat) (e : h k = f k) : mixG h f (k + 1) = mixG h f k := by
  funext q
  by_cases hq : q = k
  · subst hq; simp [mixG, e]
  · by_cases h2 : q < k
    · simp [mixG, h2, Nat.lt_succ_of_lt h2]
    · have : ¬ q < k + 1 := by omega
      simp [mixG, h2, this]
theorem tabC_all (f : Nat → ByteArray) : (tabC f).all (·.oneCell') = true := by simp [tabC, Value.oneCell']
theorem tabX_mixG (h f : Nat → ByteArray) : tabX (mixG h f 9) = tabX h := rfl
end Go.PM
namespace Go.Proofs.Yteadhnpmmpninaa
open Go.RowKit Go.PM Go.Lib
attribute [local go_sem] Oper.semAt_some

end Go.Proofs.Yteadhnpmmpninaa
namespace Go.Proofs.Yteadhnpmmpninaa
open Go.RowKit Go.PM Go.Lib
attribute [local go_sem] Oper.semAt_some

set_option maxRecDepth 100000 in
set_option maxHeartbeats 4000000 in
theorem idle_c (f : Nat → ByteArray) (w : World) :
    Calls Try.prog 71 #[tabX f] w fun e w' => e = .returned (tabX (mixG (noIdle f) f 9)) ∧ Below w.heap.size w w' := by
  refine (callsIn_wide (n := 5)).1 ?_
  refine callsIn_of_wp_marks Try.func71 rfl trivial ?_ rfl
  simp only [Try.ntmps71, List.size_toArray, List.length_cons, List.length_nil, Nat.reduceAdd, Nat.reduceSub, Array.replicate_succ, Array.replicate_zero, List.push_toArray, List.append_toArray, List.nil_append, List.cons_append]
  gi_wp2
  refine range_law (F := Fence.wide) (gf := 89) (lf := #[.int .i64 9]) (lb := #[]) rfl (by decide) rfl trivial (fun args w => rfl) (encs := fun p : Nat => #[.int .i64 p]) (xs := List.range 9)
    (below_iter _ _ trivial rfl (by decide)) (fun _ => rfl)
    (fun pre W => At W w.heap.size 56 (tabA (mixG (noIdle f) f pre.length)) ∧ At W (w.heap.size + 1) 56 zA ∧ Below w.heap.size w W)
    (fun _ _ _ => False) ?_ (fun _ => ownFrom_pure _ _) ?_ (fun p => { tmps := #[tabX f, .pointer (some ⟨w.heap.size, 0, none⟩), .pointer (some ⟨w.heap.size + 1, 0, none⟩), .int .i64 p, .func (.func 89) #[.int .i64 9] #[], .int .i64 p, undef, undef, undef, undef, undef, undef, undef, undef, undef], defers := [] }) ?_ ?_ ?_ ?_
  · rintro s A A' row ⟨h1, h2, h3⟩ hg hr
    have hr' : ∀ r, row = some r → w.heap.size + 2 ≤ r := fun r e => by have := (hr r e).1; simp only [World.size_alloc] at this; omega
    refine ⟨(hg.block _ h1.lt (fun e => ?_)).trans h1, (hg.block _ h2.lt (fun e => ?_)).trans h2, h3.trans (below_grown hg h3.size (fun g e => ?_))⟩
    · have := hr' _ e.symm; omega
    · have := hr' _ e.symm; omega
    · have := hr' _ e; omega
  · refine ⟨?_, ?_, ?_⟩
    · rw [List.length_nil, mixG_zero]
      exact (At.new w _ _).alloc _
    · have := At.new (w.alloc (.cells (tabA f) 56)) 56 zA
      rwa [World.size_alloc] at this
    · exact ((Below.refl _ _).alloc (Nat.le_refl _) _).alloc (by simp [World.size_alloc]) _
  · intro l p W Kc hK
    gi_wp2
    exact hK
  · rintro l pre p W ⟨h1, h2, h3⟩ hp hsz
    obtain ⟨hl, hp9⟩ := pre_len pre p hp
    rw [hl] at h1
    have HL : Hid ((pre ++ [p]).length = p + 1) := by show _ = _; simp [hl]
    have HMS := Lib.hid (mixG_set (noIdle f) f p hp9)
    have HSM := Lib.hid (mixG_same (noIdle f) f p)
    have HNI : Hid (noIdle f p = if f p = nm p then emp else f p) := rfl
    clear hl
    have hpc : (tabA (mixG (noIdle f) f p))[p]? = some (.string (f p)) := by rw [← mixG_at (noIdle f) f p]; exact tabC_at _ p hp9
    have hnm := fun W' => name_c p hp9 W'
    generalize hgm : mixG (noIdle f) f p = g' at *
    have i0 : (0 : Int) ≤ (p : Int) := by omega
    have i1 : (p : Int) < 9 := by omega
    have kl := h1.lt
    have kf : W.drew.frozen? ⟨w.heap.size, p, none⟩ = false := h1.frozen p
    have kc : W.drew.cell? ⟨w.heap.size, p, none⟩ = some (.string (f p)) := (h1.cell p).trans hpc
    generalize nm p = q at *
    generalize f p = s at *
    rcases Bool.eq_false_or_eq_true (s.toList == q.toList) with hd | hd
    all_goals
      have hd' := hd
      rw [beq_str] at hd'
      have HD := Lib.hid hd'
      clear hd'
      gi_wp2
      refine region_quiet_inRound (F := Fence.wide) (C := fun w' => w' = W.drew) rfl (by kernel_rfl) (by kernel_rfl) (by kernel_rfl) rfl ?_
      simp only
      gi_big_quiet_step (fail)
      gi_big_quiet_step (fail)
      gi_big_quiet_step (fail)
      gi_big_quiet_step (fail)
      refine BigFrame.wpQuietIn_want (fun _ _ _ _ => trivial) rfl (fun K hK => ?_)
      gi_big_quiet_op
      refine ⟨_, callsIn_wide.2 ((hnm _).mono (fun e w' h => ⟨h.1, h.2.symm⟩)), hK _ ?_⟩
      clear hK K
      gi_big_quiet_step (fail)
      refine wpQuietIn_nil ?_
      intro w' hw'
      subst hw'
      gi_wp2
    · have hs : s = q := by have := HD.out; rwa [decide_eq_true_eq] at this
      refine ⟨(KeepsNew.drew W).from.trans ((KeepsOthers.setCell _ _ _).from _), KeepsIn.zero (by simp [World.size_setCell]), ?_, At.far (w := W.drew) h2 (by simp) _, Below.setCell (w := W.drew) h3.drew (by show w.heap.size ≤ w.heap.size; omega) _⟩
      rw [HL.out, ← HMS.out, HNI.out, if_pos hs]
      exact At.set (w := W.drew) h1 p _
    · have hs : ¬ s = q := by have := HD.out; rwa [decide_eq_false_iff_not] at this
      refine ⟨(KeepsNew.drew W).from, KeepsIn.zero (Nat.le_refl _), ?_, h2, h3.drew⟩
      rw [HL.out, HSM.out (by rw [HNI.out, if_neg hs])]
      exact h1
  · intro D W hD hI hd
    obtain ⟨h1, h2, h3⟩ := hI
    replace h1 : At W (w.heap.size) 56 (tabC (mixG (noIdle f) f 9)) := h1
    have hl1 := h1.lt
    have hl2 := h2.lt
    have hDD : w.heap.size + 2 ≤ D := by first | omega | simpa [World.size_alloc, Nat.add_assoc] using hD
    generalize hg9 : mixG (noIdle f) f 9 = g9 at *
    have HG9 := Lib.hid hg9
    clear hg9
    gi_wp2_with (first | (refine ldIn_row rfl 56 (.tmp 1) rfl (w.heap.size) 56 (tabC g9) h1 (by rfl) 9 9 Try.underlying56 (by kernel_rfl) ?_) | (refine stIn_row rfl 56 (.tmp 2) (.tmp 14) rfl rfl (w.heap.size + 1) 56 zA (tabC g9) h2 (by rfl) (by rfl) (by kernel_rfl) rfl (tabC_all _) ?_; intro W6 hA6 hg6))
    have d6 : W6.heap[D]? = some (.deferred (some [])) := (hg6.block D (Array.getElem?_eq_some_iff.1 hd).1 (by simp; omega)).trans hd
    have bel : Below w.heap.size w W6 := h3.trans (below_grown hg6 h3.size (fun g hg => by cases hg; omega))
    simp only [Act.put, List.setIfInBounds_toArray, List.set_cons_succ, List.set_cons_zero]
    have fin : LeavesInM Fence.wide 5 Try.prog Try.f71 #[tabX f, .pointer (some ⟨w.heap.size, 0, none⟩), .pointer (some ⟨w.heap.size + 1, 0, none⟩), undef, .func (.func 89) #[.int .i64 9] #[], undef, undef, undef, undef, undef, undef, undef, undef, undef, .agg (tabC g9)]
        (fun e w' => e = Ending.returned (tabX (mixG (noIdle f) f 9)) ∧ Below w.heap.size w w') [] .returning (W6.putObj D (.deferred none)) := by
      exact ⟨_, results_row1 Try.results71 _ _ (w.heap.size + 1) 56 (tabC g9) (by rfl) ((World.putObj_heap_other (by omega)).trans hA6) 9 9 Try.underlying56 (by kernel_rfl), by rw [HG9.out]; rfl, bel.trans ⟨rfl, rfl, rfl, by simp [World.putObj], fun k hk => World.putObj_heap_other (by omega)⟩⟩
    exact ⟨by simp, .inl ⟨D, _, rfl, run_takeDeferred d6, fin⟩⟩
  · intro _ _ _ _ _ _ hf
    exact hf.elim
end Go.Proofs.Yteadhnpmmpninaa
namespace Go.Proofs.Yteadhnpmmpninaa
open Go.RowKit Go.PM Go.Lib
attribute [local go_sem] Oper.semAt_some

set_option maxRecDepth 100000 in
set_option maxHeartbeats 4000000 in
theorem undone_c (f : Nat → ByteArray) (hE : Exch (srcT f)) (w : World) :
    Calls Try.prog 88 #[tabX f] w fun e w' => e = .returned (tabX (bkF f 9)) ∧ Below w.heap.size w w' := by
  refine (callsIn_wide (n := 5)).1 ?_
  refine callsIn_of_wp_marks Try.func88 rfl trivial ?_ rfl
  simp only [Try.ntmps88, List.size_toArray, List.length_cons, List.length_nil, Nat.reduceAdd, Nat.reduceSub, Array.replicate_succ, Array.replicate_zero, List.push_toArray, List.append_toArray, List.nil_append, List.cons_append]
  gi_wp2
  obtain ⟨W0, hW0⟩ : ∃ W0 : World, W0 = ((w.alloc (.cells (tabA f) 56)).alloc (.cells zA 56)).alloc (.cells zA 56) := ⟨_, rfl⟩
  have hS0 : W0.heap.size = w.heap.size + 3 := by rw [hW0]; simp only [World.size_alloc]
  have hB0 : Below w.heap.size w W0 := by rw [hW0]; (repeat' (first | (with_reducible exact Below.refl _ _) | (with_reducible assumption) | (with_reducible refine Below.alloc ?_ ?_ _) | (with_reducible refine Below.drew ?_) | (with_reducible refine Below.setCell ?_ ?_ _) | (with_reducible exact Nat.le_refl _) | omega | ((repeat (first | rewrite [World.size_alloc] | rewrite [World.size_setCell] | rewrite [World.size_drew])); omega) | (simp; omega) | (simp; done)))
  have hA0 : At W0 w.heap.size 56 (tabA f) := by rw [hW0]; exact ((At.new _ _ _).alloc _).alloc _
  have hA1 : At W0 (w.heap.size + 1) 56 zA := by
    rw [hW0]; have := (At.new (w.alloc (.cells (tabA f) 56)) 56 zA).alloc (.cells zA 56)
    rwa [World.size_alloc] at this
  have hA2 : At W0 (w.heap.size + 1 + 1) 56 zA := by
    rw [hW0]; have := At.new ((w.alloc (.cells (tabA f) 56)).alloc (.cells zA 56)) 56 zA
    rwa [World.size_alloc, World.size_alloc] at this
  rw [← hW0]
  clear hW0
  refine range_law (F := Fence.wide) (gf := 89) (lf := #[.int .i64 9]) (lb := #[]) rfl (by decide) rfl trivial (fun args w => rfl) (encs := fun p : Nat => #[.int .i64 p]) (xs := List.range 9)
    (below_iter _ _ trivial rfl (by decide)) (fun _ => rfl)
    (fun pre W => At W (w.heap.size + 1 + 1) 56 (tabA (bkF f pre.length)) ∧ At W (w.heap.size + 1) 56 zA ∧ Below w.heap.size w W ∧ At W w.heap.size 56 (tabA f))
    (fun _ _ _ => False) ?_ (fun _ => ownFrom_pure _ _) ?_ (fun p => { tmps := #[tabX f, .pointer (some ⟨w.heap.size, 0, none⟩), .pointer (some ⟨w.heap.size + 1, 0, none⟩), .pointer (some ⟨w.heap.size + 1 + 1, 0, none⟩), .int .i64 p, undef, undef, .func (.func 89) #[.int .i64 9] #[], .int .i64 p, undef, undef, undef, undef, undef, undef, undef, undef, undef, undef, undef, undef], defers := [] }) ?_ ?_ ?_ ?_
  · rintro s A A' row ⟨h1, h2, h3, h4⟩ hg hr
    have hr' : ∀ r, row = some r → w.heap.size + 3 ≤ r := fun r e => by have := (hr r e).1; omega
    refine ⟨(hg.block _ h1.lt (fun e => ?_)).trans h1, (hg.block _ h2.lt (fun e => ?_)).trans h2, h3.trans (below_grown hg h3.size (fun g e => ?_)), (hg.block _ h4.lt (fun e => ?_)).trans h4⟩
    · have := hr' _ e.symm; omega
    · have := hr' _ e.symm; omega
    · have := hr' _ e; omega
    · have := hr' _ e.symm; omega
  · exact ⟨hA2, hA1, hB0, hA0⟩
  · intro l p W Kc hK
    gi_wp2
    exact hK
  · clear hA0 hA1 hA2 hB0
    rintro l pre p W ⟨h1, h2, h3, h4⟩ hp hsz
    obtain ⟨hl, hp9⟩ := pre_len pre p hp
    rw [hl] at h1
    have HL : Hid ((pre ++ [p]).length = p + 1) := by show _ = _; simp [hl]
    have HBK : Hid (bkF f (p + 1) = upd (bkF f p) (pidx (srcT f p)) (nm p)) := rfl
    have hip := hE.place hp9
    have hi9 := (pidx_spec hip).1
    have HTS := Lib.hid (tabC_set (bkF f p) (pidx (srcT f p)) hi9 (nm p))
    have hsrc := source_c f p hp9 W
    have HIX := Lib.hid (fun W' => indexOf_yes (srcT f p) hip W')
    have HNM := Lib.hid (fun W' => name_c p hp9 W')
    have hpc : (tabA (bkF f p))[pidx (srcT f p)]? = some (.string (bkF f p (pidx (srcT f p)))) := tabC_at _ _ hi9
    clear hl hip
    generalize hgm : bkF f p = g' at *
    generalize nm p = q at *
    generalize pidx (srcT f p) = j at *
    have HSRC := Lib.hid hsrc
    clear hsrc
    have i0 : (0 : Int) ≤ (j : Int) := by omega
    have i1 : (j : Int) < 9 := by omega
    have l1 := h1.lt
    have l2 := h2.lt
    have l4 := h4.lt
    have q0 : W.cell? ⟨w.heap.size, 0, none⟩ = some (.string (f 0)) := h4.cell 0
    have q1 : W.cell? ⟨w.heap.size, 1, none⟩ = some (.string (f 1)) := h4.cell 1
    have q2 : W.cell? ⟨w.heap.size, 2, none⟩ = some (.string (f 2)) := h4.cell 2
    have q3 : W.cell? ⟨w.heap.size, 3, none⟩ = some (.string (f 3)) := h4.cell 3
    have q4 : W.cell? ⟨w.heap.size, 4, none⟩ = some (.string (f 4)) := h4.cell 4
    have q5 : W.cell? ⟨w.heap.size, 5, none⟩ = some (.string (f 5)) := h4.cell 5
    have q6 : W.cell? ⟨w.heap.size, 6, none⟩ = some (.string (f 6)) := h4.cell 6
    have q7 : W.cell? ⟨w.heap.size, 7, none⟩ = some (.string (f 7)) := h4.cell 7
    have q8 : W.cell? ⟨w.heap.size, 8, none⟩ = some (.string (f 8)) := h4.cell 8
    gi_wp2
    refine ⟨trivial, ?_⟩
    refine CallsIn.inRound l (callsIn_wide.2 (HSRC.out.mono ?_))
    rintro e w2 ⟨rfl, hb2⟩
    clear q0 q1 q2 q3 q4 q5 q6 q7 q8
    gi_wp2
    refine ⟨trivial, ?_⟩
    refine CallsIn.inRound l (callsIn_wide.2 ((HIX.out _).mono ?_))
    rintro e w3 ⟨rfl, rfl⟩
    have k1 : At w2 (w.heap.size + 1 + 1) 56 (tabA g') := h1.keep hb2
    have k2 : At w2 (w.heap.size + 1) 56 zA := h2.keep hb2
    have k3 : Below w.heap.size w w2 := h3.trans (hb2.mono h3.size)
    have k4 : At w2 w.heap.size 56 (tabA f) := h4.keep hb2
    have kf := k1.frozen j
    have kc : w2.cell? ⟨w.heap.size + 1 + 1, j, none⟩ = some (.string (g' j)) := (k1.cell j).trans hpc
    have kl := k1.lt
    have kF : KeepsFrom W0.heap.size W w2 := keepsFrom_below hb2
    have kS : W.heap.size ≤ w2.heap.size := hb2.size
    clear h1 h2 h3 h4 hb2
    gi_wp2
    refine ⟨trivial, ?_⟩
    refine CallsIn.inRound l (callsIn_wide.2 ((HNM.out _).mono ?_))
    rintro e w3 ⟨rfl, rfl⟩
    gi_wp2
    refine ⟨kF.trans ((KeepsOthers.setCell _ _ _).from _), KeepsIn.zero (by simp [World.size_setCell]; exact kS), ?_, k2.far (by first | (simp; done) | (simp; omega)) _, k3.setCell (by show w.heap.size ≤ w.heap.size + 1 + 1; omega) _, k4.far (by first | (simp; done) | (simp; omega)) _⟩
    rw [HL.out, HBK.out]
    have := k1.set j (.string q)
    rw [show (tabA g').setIfInBounds j (.string q) = tabA (upd g' j q) from HTS.out] at this
    exact this
  · intro D W hD hI hd
    obtain ⟨h1, h2, h3, h4⟩ := hI
    clear hA0 hA1 hA2 hB0 h4
    replace h1 : At W (w.heap.size + 1 + 1) 56 (tabC (bkF f 9)) := h1
    have hl1 := h1.lt
    have hl2 := h2.lt
    have hDD : w.heap.size + 3 ≤ D := by first | omega | simpa [World.size_alloc, Nat.add_assoc] using hD
    generalize hg9 : bkF f 9 = g9 at *
    have HG9 := Lib.hid hg9
    clear hg9
    gi_wp2_with (first | (refine ldIn_row rfl 56 (.tmp 3) rfl (w.heap.size + 1 + 1) 56 (tabC g9) h1 (by rfl) 9 9 Try.underlying56 (by kernel_rfl) ?_) | (refine stIn_row rfl 56 (.tmp 2) (.tmp 20) rfl rfl (w.heap.size + 1) 56 zA (tabC g9) h2 (by rfl) (by rfl) (by kernel_rfl) rfl (tabC_all _) ?_; intro W6 hA6 hg6))
    have d6 : W6.heap[D]? = some (.deferred (some [])) := (hg6.block D (Array.getElem?_eq_some_iff.1 hd).1 (by simp; omega)).trans hd
    have bel : Below w.heap.size w W6 := h3.trans (below_grown hg6 h3.size (fun g hg => by cases hg; omega))
    simp only [Act.put, List.setIfInBounds_toArray, List.set_cons_succ, List.set_cons_zero]
    have fin : LeavesInM Fence.wide 5 Try.prog Try.f88 #[tabX f, .pointer (some ⟨w.heap.size, 0, none⟩), .pointer (some ⟨w.heap.size + 1, 0, none⟩), .pointer (some ⟨w.heap.size + 1 + 1, 0, none⟩), undef, undef, undef, .func (.func 89) #[.int .i64 9] #[], undef, undef, undef, undef, undef, undef, undef, undef, undef, undef, undef, undef, .agg (tabC g9)]
        (fun e w' => e = Ending.returned (tabX (bkF f 9)) ∧ Below w.heap.size w w') [] .returning (W6.putObj D (.deferred none)) := by
      exact ⟨_, results_row1 Try.results88 _ _ (w.heap.size + 1) 56 (tabC g9) (by rfl) ((World.putObj_heap_other (by omega)).trans hA6) 9 9 Try.underlying56 (by kernel_rfl), by rw [HG9.out]; rfl, bel.trans ⟨rfl, rfl, rfl, by simp [World.putObj], fun k hk => World.putObj_heap_other (by omega)⟩⟩
    exact ⟨by simp, .inl ⟨D, _, rfl, run_takeDeferred d6, fin⟩⟩
  · intro _ _ _ _ _ _ hf
    exact hf.elim
end Go.Proofs.Yteadhnpmmpninaa
namespace Go.PM
open Go.RowKit
variable {F : Fence} {n : Nat} {P : Program}
/-- one round: blocks from B on lie as they lay, but for the row r, which may go on in a new block -/
structure RowStep (B : Nat) (r r' : Option Nat) (A A' : World) : Prop where
  size : A.heap.size ≤ A'.heap.size
  same : ∀ k, B ≤ k → k < A.heap.size → some k ≠ r → A'.heap[k]? = A.heap[k]?
  row : r' = r ∨ ∀ g, r' = some g → A.heap.size ≤ g
/-- The function gf, called with mk of a yield, hands the elements of xs to it one behind the other, where each round goes on. The loop's facts know the row that the loop fills; the function may read what the caller keeps (Pr), and keeps blocks of its own. -/
def IterR {α : Type} (Pr : World → Prop) (F : Fence) (n : Nat) (P : Program) (gf : Nat) (mk : Value → Array Value) (encs : α → Array Value) (xs : List α) : Prop :=
  ∀ (l : Nat) (J : Option Nat → List α → World → Prop) (r0 : Option Nat) (W : World),
    (∀ r, OwnFrom W.heap.size (J r)) → (∀ r pre A, J r pre A → Pr A ∧ ∀ g, r = some g → g < A.heap.size) →
    (∀ r pre x A, J r pre A → W.heap.size ≤ A.heap.size → pre ++ [x] <+: xs → YieldAt F (n - 1) P l (encs x) A fun e A' =>
      e = .returned (.bool true) ∧ ∃ r', J r' (pre ++ [x]) A' ∧ RowStep W.heap.size r r' A A') →
    J r0 [] W →
    CallsIn F n P gf (mk (.func (.yield l) #[] #[])) W fun e W' => (∃ v, e = .returned v) ∧ ∃ r, J r xs W'
def postR {α : Type} (B : Nat) (I : Option Nat → List α → World → Prop) (xs : List α) (r : Option Nat) (W : World) : Exit → Act → World → Prop
  | .normal, _, W' => ∃ r', I r' xs W' ∧ RowStep B r r' W W'
  | _, _, _ => False
theorem range_lawR {α : Type} {Pr : World → Prop} {g : Operand} {ps : Array Tmp} {assign body : Code} {Q : Exit → Act → World → Prop} {a : Act} {w : World} (hro : F.round = none) (h1 : 1 ≤ n)
    {gf : Nat} {lf lb : Array Value} (hg : a.eval g = .func (.func gf) lf lb) (hFg : F.fn gf) (eg : ∀ args w, (callFunc gf args).run P w = .ok (.enter gf args) w)
    {encs : α → Array Value} {xs : List α} (hit : IterR Pr F (n - 1) P gf (fun y => lf ++ #[y] ++ lb) encs xs) (hps : ∀ x, (encs x).size = ps.size)
    (I : Option Nat → List α → World → Prop) (r0 : Option Nat) (hPr : ∀ r pre A, I r pre A → Pr A ∧ ∀ g, r = some g → ∃ o : Obj, A.heap[g]? = some o ∧ o.isCells = true)
    (hI : ∀ r, OwnFrom w.heap.size (I r)) (h0 : I r0 [] w) (Ax : α → Act → World → Prop) (hAx : ∀ x a', OwnFrom w.heap.size (fun (_ : Unit) W => Ax x a' W))
    (hassign : ∀ (l : Nat) (r : Option Nat) (pre : List α) (x : α) (W : World) (K : Act → World → Prop), I r pre W → pre ++ [x] <+: xs → w.heap.size + 2 ≤ W.heap.size → (∀ a' W', Below W.heap.size W W' → I r pre W' → Ax x a' W' → K a' W') →
      assign.wpIn (F.inRound l) (n - 1 - 1) P (Exit.then K (fun _ _ _ => False)) { tmps := (ps.zip (encs x)).foldl (fun t (p, v) => t.setIfInBounds p v) a.tmps, defers := [] } W)
    (hbody : ∀ (l : Nat) (r : Option Nat) (pre : List α) (x : α) (a' : Act) (W : World), I r pre W → Ax x a' W → pre ++ [x] <+: xs → w.heap.size + 2 ≤ W.heap.size → body.wpIn (F.inRound l) (n - 1 - 1) P (postR w.heap.size I (pre ++ [x]) r W) a' W)
    (hdone : ∀ (D : Nat) (r : Option Nat) (W : World), w.heap.size ≤ D → I r xs W → W.heap[D]? = some (.deferred (some [])) → Q .normal { a with defers := { target := .collected D, args := #[] } :: a.defers } W) :
    (Code.rangeFunc g ps assign body).wpIn F n P Q a w := by
  refine wpIn_rangeFunc fun fn hfn => ?_
  rw [hro]
  have key : ∃ rc : LoopState → Option Code → Loop, rc = fun s j => { state := s, pending := j, fn, tmps := a.tmps, params := ps, assign, body, defers := w.heap.size } := ⟨_, rfl⟩
  obtain ⟨rc, hrc⟩ := key
  let V := (w.alloc (.deferred (some []))).alloc (.loop (rc .ready none))
  let Bk : LoopState → Option Code → World → Prop := fun s j A => A.heap[w.heap.size + 1]? = some (.loop (rc s j)) ∧ A.heap[w.heap.size]? = some (.deferred (some []))
  have bkput : ∀ {s j s' j' A}, Bk s j A → Bk s' j' (A.putObj (w.heap.size + 1) (.loop (rc s' j'))) := fun h =>
    ⟨World.putObj_heap_same (Array.getElem?_eq_some_iff.1 h.1).1, (World.putObj_heap_other (by omega)).trans h.2⟩
  have hVs : V.heap.size = w.heap.size + 2 := by simp [V, World.size_alloc]
  have bknew : ∀ {s j A A' row}, Bk s j A → A.grownBy A' row → (∀ r, row = some r → V.heap.size ≤ r ∧ ∃ o : Obj, A.heap[r]? = some o ∧ o.isCells = false) → Bk s j A' := fun h hg' hr =>
    ⟨(hg'.block _ (Array.getElem?_eq_some_iff.1 h.1).1 (fun e => by have := (hr _ e.symm).1; omega)).trans h.1, (hg'.block _ (Array.getElem?_eq_some_iff.1 h.2).1 (fun e => by have := (hr _ e.symm).1; omega)).trans h.2⟩
  have hV : Bk .ready none V := by
    refine ⟨?_, ?_⟩
    · have := World.alloc_heap_new (w.alloc (.deferred (some []))) (.loop (rc .ready none)); rwa [World.size_alloc] at this
    · exact (Below.heap_alloc _ _ _ (by simp)).trans (World.alloc_heap_new w _)
  have hIV : I r0 [] V := (hI r0).alloc _ ((hI r0).alloc _ h0)
  refine ⟨w.heap.size + 1, [{ target := .collected w.heap.size, args := #[] }], V, { target := .fn (.func gf) lb, args := lf ++ #[.func (.yield (w.heap.size + 1)) #[] #[]] }, V, gf,
    lf ++ #[.func (.yield (w.heap.size + 1)) #[] #[]] ++ lb, V, ?_, ?_, ?_, ?_, fun _ => h1, ?_⟩
  · have := run_enterLoop_outer (P := P) (w := w) fn a.tmps ps assign body
    rw [this]; simp only [V, hrc]
  · simp only [resolve, hg]
    simp [go_sem]
  · intro f' hf'
    simp [Target.leads] at hf'
    subst hf'; exact hFg
  · simp [invoke, go_sem, eg]
  refine (hit (w.heap.size + 1) (fun r pre A => I r pre A ∧ Bk .ready none A) r0 V
    (fun r pre A A' row h hg' hr => ⟨hI r pre A A' row h.1 hg' (fun q e => ⟨by have := (hr q e).1; omega, (hr q e).2⟩), bknew h.2 hg' hr⟩)
    (fun r pre A h => ⟨(hPr r pre A h.1).1, fun g e => by obtain ⟨o, ho, _⟩ := (hPr r pre A h.1).2 g e; exact (Array.getElem?_eq_some_iff.1 ho).1⟩) ?_ ⟨hIV, hV⟩).mono ?_
  · rintro r pre x A ⟨hi, hb⟩ hsz hpx
    have hy := run_yield (P := P) (args := encs x) hb.1 (by rw [hrc]; exact hps x)
    rw [hrc] at hy
    refine ⟨fn, _, assign, body, hy, roundIn_of_wpIn hfn (hassign _ r pre x A _ hi hpx (by omega) ?_)⟩
    intro a' Wa hbl hia hax
    have hlt := (Array.getElem?_eq_some_iff.1 hb.1).1
    replace hb : Bk .ready none Wa := ⟨(hbl.block _ hlt).trans hb.1, (hbl.block _ (by omega)).trans hb.2⟩
    clear hy hi
    refine ⟨_, run_beginRound hb.1 (by rw [hrc]), ?_⟩
    have hszA : A.heap.size ≤ Wa.heap.size := hbl.size
    have hb2 : Bk .busy none (Wa.putObj (w.heap.size + 1) (.loop (rc .busy none))) := bkput hb
    have e2 : ({ rc .ready none with state := .busy } : Loop) = rc .busy none := by rw [hrc]
    rw [e2]
    have hib := (hI r).putObj (.loop (rc .busy none)) hia (by omega) hb.1 rfl
    have hrr := (hPr r pre _ hib).2
    refine wpIn_mono (hbody _ r pre x a' _ hib ((hAx x a').putObj (s := ()) _ hax (by omega) hb.1 rfl) hpx (by simp [World.putObj]; omega)) ?_
    rintro e a3 C hp
    cases e with
    | normal =>
      obtain ⟨r', hi3, hst⟩ := hp
      have hne : ∀ k, w.heap.size ≤ k → k < w.heap.size + 2 → some k ≠ r := fun k hk1 hk2 e => by
        obtain ⟨o, ho, hoc⟩ := hrr k e.symm
        have : k = w.heap.size ∨ k = w.heap.size + 1 := by omega
        rcases this with rfl | rfl
        · rw [hb2.2] at ho; cases ho; cases hoc
        · rw [hb2.1] at ho; cases ho; cases hoc
      have s0 : (Wa.putObj (w.heap.size + 1) (.loop (rc .busy none))).heap.size = Wa.heap.size := by simp [World.putObj]
      have hb3 : Bk .busy none C := ⟨(hst.same _ (by omega) (by omega) (hne _ (by omega) (by omega))).trans hb2.1, (hst.same _ (by omega) (by omega) (hne _ (by omega) (by omega))).trans hb2.2⟩
      have h3 : (Instr.endRound (w.heap.size + 1) none).run P C = .ok (.bool true) (C.putObj (w.heap.size + 1) (.loop (rc .ready none))) := by
        rw [run_endRound (P := P) none hb3.1]; rw [hrc]; rfl
      refine ⟨_, _, h3, rfl, r', ⟨(hI r').putObj _ hi3 (by omega) hb3.1 rfl, bkput hb3⟩, ?_, ?_, ?_⟩
      · have := hst.size; simp [World.putObj] at this ⊢; omega
      · intro k hk1 hk2 hk3
        rw [World.putObj_heap_other (by omega), hst.same k (by omega) (by omega) hk3, World.putObj_heap_other (by omega)]
        exact hbl.block k hk2
      · rcases hst.row with h | h
        · exact .inl h
        · exact .inr fun g e => by have := h g e; omega
    | ret => exact hp.elim
    | exit id => exact hp.elim
    | goto t => exact hp.elim
    | panic ch => exact hp.elim
    | outgrown => exact hp.elim
  · rintro e C ⟨⟨v, rfl⟩, r, hi, hb⟩
    have h3 := run_endLoop (P := P) hb.1 (by rw [hrc]; simp)
    exact ⟨none, _, by rw [h3, hrc], hdone _ r _ (Nat.le_refl _) ((hI r).putObj _ hi (by omega) hb.1 rfl) ((World.putObj_heap_other (by omega)).trans hb.2)⟩
end Go.PM
namespace Go.PM
open Go.RowKit Go.Lib

def cellsL : List UInt8 := [97, 98, 99, 100, 101, 102, 65, 66, 67, 116, 117]
def cellsB : ByteArray := ⟨#[97, 98, 99, 100, 101, 102, 65, 66, 67, 116, 117]⟩
def isC (s : ByteArray) : Bool := match s.data.toList with
  | [c] => decide (c ∈ cellsL)
  | _ => false
theorem isC_size {s : ByteArray} (h : isC s = true) : s.size = 1 := by
  unfold isC at h; split at h
  · next c hc => rw [← size_data, hc]; rfl
  · cases h
def cidx (s : ByteArray) : Nat := (indexByte cellsL (s.data.toList.headD 0)).toNat
theorem cidx_one {c : UInt8} (h : c ∈ cellsL) : indexByte cellsL c = (cidx ⟨#[c]⟩ : Nat) ∧ cidx ⟨#[c]⟩ < 11 ∧ cellsL.getD (cidx ⟨#[c]⟩) 0 = c := by
  simp only [cellsL, List.mem_cons, List.not_mem_nil, or_false] at h
  rcases h with rfl | rfl | rfl | rfl | rfl | rfl | rfl | rfl | rfl | rfl | rfl <;> decide +kernel
theorem cidx_lt {s : ByteArray} (h : isC s = true) : cidx s < 11 := by
  obtain ⟨c, rfl⟩ := one_of_size (isC_size h)
  have h2 : c ∈ cellsL := by simpa [isC] using h
  exact (cidx_one h2).2.1
theorem isP_isC {s : ByteArray} (h : isP s = true) : isC s = true ∧ cidx s = pidx s := by
  obtain ⟨c, rfl⟩ := one_of_size (isP_size h)
  have h2 : c ∈ placesL := by simpa [isP] using h
  simp only [placesL, List.mem_cons, List.not_mem_nil, or_false] at h2
  rcases h2 with rfl | rfl | rfl | rfl | rfl | rfl | rfl | rfl | rfl <;> decide +kernel
theorem isD_notC {s : ByteArray} (h : isD s = true) : isC s = false := by
  obtain ⟨c, rfl⟩ := one_of_size (isD_size h)
  have h2 : 48 ≤ c.toNat ∧ c.toNat ≤ 57 := by simpa [isD] using h
  have : c ∉ cellsL := by
    intro hm
    simp only [cellsL, List.mem_cons, List.not_mem_nil, or_false] at hm
    rcases hm with rfl | rfl | rfl | rfl | rfl | rfl | rfl | rfl | rfl | rfl | rfl <;> revert h2 <;> decide
  simpa [isC] using this

/-- a step: its kind, To and From -/
abbrev St := Int × ByteArray × ByteArray
def stOk (x : St) : Bool := (decide (x.1 = 0) && (isC x.2.1 && (isC x.2.2 || isD x.2.2))) || (decide (x.1 = 1) && (isC x.2.1 && isC x.2.2))
def svalid (s : List St) : Bool := decide (s.length ≤ 60) && s.all stOk
theorem svalid_len {s : List St} (h : svalid s = true) : s.length ≤ 60 := by
  unfold svalid at h; rw [Bool.and_eq_true] at h; simpa using h.1
theorem svalid_at {s : List St} (h : svalid s = true) (k : Nat) (hk : k < s.length) : stOk s[k] = true := by
  unfold svalid at h; rw [Bool.and_eq_true, List.all_eq_true] at h
  exact h.2 _ (List.getElem_mem hk)
theorem svalid_no {s : List St} (k : Nat) (hk : k < s.length) (h : stOk s[k] = false) : svalid s = false := by
  cases hs : svalid s with
  | false => rfl
  | true => rw [svalid_at hs k hk] at h; cases h
theorem svalid_all {s : List St} (h : ∀ k (hk : k < s.length), stOk s[k] = true) : svalid s = decide (s.length ≤ 60) := by
  have : s.all stOk = true := by
    rw [List.all_eq_true]
    intro x hx
    obtain ⟨k, hk, rfl⟩ := List.getElem_of_mem hx
    exact h k hk
  rw [svalid, this, Bool.and_true]

def scells (xs : List St) : List Value := xs.flatMap fun x => [.int .i64 x.1, .string x.2.1, .string x.2.2]
theorem scells_cons (x : St) (xs : List St) : scells (x :: xs) = .int .i64 x.1 :: .string x.2.1 :: .string x.2.2 :: scells xs := by simp [scells]
theorem scells_length (xs : List St) : (scells xs).length = xs.length * 3 := by
  induction xs with
  | nil => rfl
  | cons x xs ih => rw [scells_cons]; simp only [List.length_cons] at *; omega
theorem scells_append (xs ys : List St) : scells (xs ++ ys) = scells xs ++ scells ys := by simp [scells]
theorem scells_at (xs : List St) (k : Nat) (m : St) (h : xs[k]? = some m) : (scells xs)[k*3]? = some (.int .i64 m.1) ∧ (scells xs)[k*3+1]? = some (.string m.2.1) ∧ (scells xs)[k*3+2]? = some (.string m.2.2) := by
  induction xs generalizing k with
  | nil => simp at h
  | cons x xs ih =>
    rw [scells_cons]
    cases k with
    | zero => simp at h; subst h; simp
    | succ k =>
      have := ih k (by simpa using h)
      rw [show (k+1)*3 = k*3+1+1+1 by omega]
      simpa using this
def RdS (w : World) (v : Value) (xs : List St) : Prop := Rd w 3 v xs.length (scells xs)
theorem RdS.below {w w' : World} {v : Value} {xs : List St} (h : RdS w v xs) (hb : Below w.heap.size w w') : RdS w' v xs := Rd.below h hb
theorem RdS.open {w : World} {v : Value} {xs : List St} (h : RdS w v xs) : ∃ A cap, v = .slice A xs.length cap ∧ xs.length ≤ 9223372036854775807 ∧ xs.length ≤ cap ∧
    ∀ k (hk : k < xs.length), ∃ b off, A = some ⟨b, off, none⟩ ∧ b < w.heap.size ∧ w.cell? ⟨b, off + k * 3, none⟩ = some (.int .i64 xs[k].1) ∧ w.cell? ⟨b, off + k * 3 + 1, none⟩ = some (.string xs[k].2.1) ∧ w.cell? ⟨b, off + k * 3 + 2, none⟩ = some (.string xs[k].2.2) := by
  obtain ⟨A, cap, e, hc, hn, hl, hr⟩ := h
  refine ⟨A, cap, e, hn, hc, fun k hk => ?_⟩
  obtain ⟨b, off, eA, hb, hcell⟩ := hr (by omega)
  have := scells_at xs k xs[k] (List.getElem?_eq_getElem hk)
  exact ⟨b, off, eA, hb, hcell _ _ this.1, by rw [Nat.add_assoc]; exact hcell _ _ this.2.1, by rw [Nat.add_assoc]; exact hcell _ _ this.2.2⟩

/-- a state: the value of each cell -/
def stC (f : Nat → UInt8) : Array Value := #[.int .u8 (f 0).toNat, .int .u8 (f 1).toNat, .int .u8 (f 2).toNat, .int .u8 (f 3).toNat, .int .u8 (f 4).toNat, .int .u8 (f 5).toNat, .int .u8 (f 6).toNat, .int .u8 (f 7).toNat, .int .u8 (f 8).toNat, .int .u8 (f 9).toNat, .int .u8 (f 10).toNat]
abbrev stV (f : Nat → UInt8) : Value := .agg (stC f)
theorem stC_size (f : Nat → UInt8) : (stC f).size = 11 := rfl
theorem stC_one (f : Nat → UInt8) : (stC f).all (·.oneCell') = true := by simp [stC, Value.oneCell']
theorem stC_at (f : Nat → UInt8) (p : Nat) (hp : p < 11) : (stC f)[p]? = some (.int .u8 (f p).toNat) := by
  match p, hp with
  | 0, _ | 1, _ | 2, _ | 3, _ | 4, _ | 5, _ | 6, _ | 7, _ | 8, _ | 9, _ | 10, _ => rfl
def updS (f : Nat → UInt8) (p : Nat) (b : UInt8) : Nat → UInt8 := fun q => if q = p then b else f q
theorem stC_set (f : Nat → UInt8) (p : Nat) (hp : p < 11) (b : UInt8) : (stC f).setIfInBounds p (.int .u8 b.toNat) = stC (updS f p b) := by
  match p, hp with
  | 0, _ | 1, _ | 2, _ | 3, _ | 4, _ | 5, _ | 6, _ | 7, _ | 8, _ | 9, _ | 10, _ => simp [stC, updS]
theorem stC_congr {f g : Nat → UInt8} (h : ∀ p, p < 11 → f p = g p) : stC f = stC g := by
  unfold stC
  rw [h 0 (by omega), h 1 (by omega), h 2 (by omega), h 3 (by omega), h 4 (by omega), h 5 (by omega), h 6 (by omega), h 7 (by omega), h 8 (by omega), h 9 (by omega), h 10 (by omega)]
/-- its text -/
def stB (f : Nat → UInt8) : ByteArray := ⟨#[f 0, f 1, f 2, f 3, f 4, f 5, f 6, f 7, f 8, f 9, f 10]⟩
theorem stB_size (f : Nat → UInt8) : (stB f).size = 11 := rfl
theorem stB_congr {f g : Nat → UInt8} (h : ∀ p, p < 11 → f p = g p) : stB f = stB g := by
  unfold stB
  rw [h 0 (by omega), h 1 (by omega), h 2 (by omega), h 3 (by omega), h 4 (by omega), h 5 (by omega), h 6 (by omega), h 7 (by omega), h 8 (by omega), h 9 (by omega), h 10 (by omega)]
theorem stB_at (f : Nat → UInt8) (p : Nat) (hp : p < 11) : (stB f).data.toList.getD p 0 = f p := by
  match p, hp with
  | 0, _ | 1, _ | 2, _ | 3, _ | 4, _ | 5, _ | 6, _ | 7, _ | 8, _ | 9, _ | 10, _ => rfl
/-- the state that a text tells -/
def ofB (s : ByteArray) : Nat → UInt8 := fun p => s.data.toList.getD p 0
theorem ofB_stB {s : ByteArray} (h : s.size = 11) : stB (ofB s) = s := by
  obtain ⟨⟨l⟩⟩ := s
  have hl : l.length = 11 := h
  match l, hl with
  | [a0, a1, a2, a3, a4, a5, a6, a7, a8, a9, a10], _ => rfl
def isV (c : UInt8) : Bool := decide (48 ≤ c.toNat ∧ c.toNat ≤ 57) || (decide (97 ≤ c.toNat ∧ c.toNat ≤ 122) || decide (65 ≤ c.toNat ∧ c.toNat ≤ 90))
def stateV (s : ByteArray) : Bool := s.data.toList.all isV && decide (s.size = 11)
end Go.PM
namespace Go.PM
open Go.RowKit
/-- a move as a step -/
def stpM (m : Mv) : St := (0, m.1, m.2)
def stL (ms : List Mv) : List St := ms.map stpM
theorem three_new (w : World) (a b c : Value) (t : TypeId) : ∀ j u, [a, b, c][j]? = some u → (w.alloc (.cells #[a, b, c] t)).cell? ((⟨w.heap.size, 0, none⟩ : Addr).add j) = some u := by
  intro j u hj
  match j, hj with
  | 0, hj => simp at hj; subst hj; simp [Addr.add]
  | 1, hj => simp at hj; subst hj; simp [Addr.add]
  | 2, hj => simp at hj; subst hj; simp [Addr.add]
theorem wpListIn_lies {F : Fence} {k : Nat} {P : Program} {w : World} {ops : Array Oper} {rest : List Oper} {o : Oper} {a : Act} {Q : Exit → Act → World → Prop} (hgd : o.guard = none) (s x : Operand) (t : TypeId)
    (ho : o.op = .call { callee := .builtin .append, args := #[s, x], argTypes := #[t, t] })
    (base : Nat) (e : TypeId) (i : TypeInfo) (z : Value) (size bytes : Nat) (ht : P.underlying t = some (.slice e)) (hi : P.info? e = some i) (hz : i.zero = some z)
    (hsize : i.size = size) (hby : i.bytes = bytes) (hzs : z.cells.size = size) (hsz : 0 < size)
    (v : Value) (n : Nat) (xs : List Value) (hs : a.eval s = v) (hown : w.ownsRow base e size v n xs)
    (ad : Addr) (m c : Nat) (news : List Value) (hx : a.eval x = .slice (some ad) m c) (hl : news.length = m * size) (hnews : ∀ j u, news[j]? = some u → w.cell? (ad.add j) = some u) (h1 : ∀ u ∈ news, u.oneCell' = true)
    (hm : 0 < m) (h63 : n + m ≤ maxLen) (hbytes : (n + m) * bytes ≤ 140737488355328) (hbase : base ≤ w.heap.size)
    (h : ∀ g cap w', w'.ownsRow base e size (.slice (some ⟨g, 0, none⟩) (n + m) cap) (n + m) (xs ++ news) → w.grownBy w' v.ownBlock → (v.ownBlock = some g ∨ g = w.heap.size) → g < w'.heap.size → wpListIn F k P ops Q rest (a.put o.dst (.slice (some ⟨g, 0, none⟩) (n + m) cap)) w') : wpListIn F k P ops Q (o :: rest) a w := by
  refine wpListIn_plain hgd fun K hK' => ?_
  obtain ⟨g, cap, w', hr, h2, h3, h4, h5⟩ := run_append_lies (P := P) w t o.type base e i z size bytes ht hi hz hsize hby hzs hsz v n xs hown ad m c news hl hnews h1 hm h63 hbytes hbase _ rfl
  unfold Oper.wpIn
  refine ⟨?_, ?_⟩
  · simp [Oper.about, ho, resolve, Target.leads, Sem.run_pure]
  · rw [Oper.semAt_plain F _ _ (by rw [ho]; intro c hc'; cases hc')]
    simp [execOp, ho, resolve, invoke, builtin, hs, hx, hr, Result.andThen]
    exact hK' _ _ (h g cap w' h2 h3 h4 h5)
/-- a row of one's own, and where it lies -/
def RowAt (A : World) (bx : Nat) (bt base : Nat) (e : TypeId) (size : Nat) (r : Option Nat) (n : Nat) (cs : List Value) (o : Value) : Prop :=
  At A bx bt #[o] ∧ A.ownsRow base e size o n cs ∧ o.ownBlock = r
theorem RowAt.turn {A A' : World} {bx bt base : Nat} {e : TypeId} {size : Nat} {r : Option Nat} {n : Nat} {cs : List Value} {o : Value} {row : Option Nat} (h : RowAt A bx bt base e size r n cs o) (hg : A.grownBy A' row) (hr : ∀ q, row = some q → ∃ ob : Obj, A.heap[q]? = some ob ∧ ob.isCells = false) : RowAt A' bx bt base e size r n cs o :=
  ⟨h.1.turn hg hr, own_turn h.2.1 hg hr, h.2.2⟩
theorem RowAt.lives {A : World} {bx bt base : Nat} {e : TypeId} {size : Nat} {r : Option Nat} {n : Nat} {cs : List Value} {o : Value} (h : RowAt A bx bt base e size r n cs o) : ∀ g, r = some g → ∃ ob : Obj, A.heap[g]? = some ob ∧ ob.isCells = true := by
  intro g hg
  obtain ⟨_, h2, h3⟩ := h
  rcases h2.2 with ⟨rfl, _⟩ | ⟨g', cap, cur, rfl, _, hh, _⟩
  · rw [hg] at h3; cases h3
  · rw [hg] at h3
    cases h3
    exact ⟨_, hh, rfl⟩
end Go.PM
namespace Go.Proofs.Yteadhnpmmpninaa
open Go.RowKit Go.PM
attribute [local go_sem] Oper.semAt_some

end Go.Proofs.Yteadhnpmmpninaa
namespace Go.PM
open Go.RowKit
theorem own_box_ne' {w : World} {base : Nat} {e t : TypeId} {size n b : Nat} {v : Value} {cs : List Value} {c : Array Value} (h : w.ownsRow base e size v n cs) (hA : At w b t c) (hne : e ≠ t) : some b ≠ v.ownBlock := by
  rcases h.2 with ⟨rfl, _⟩ | ⟨g, cap, cur, rfl, _, hg, _⟩
  · simp [Value.ownBlock]
  · intro e'
    simp only [Value.ownBlock, Option.some.injEq] at e'
    subst e'
    unfold At at hA
    rw [hA] at hg
    cases hg
    exact hne rfl
theorem own_turn' {w w' : World} {base : Nat} {e : TypeId} {size n : Nat} {v : Value} {cs : List Value} {row : Option Nat} (h : w.ownsRow base e size v n cs) (hg : w.grownBy w' row) (hr : ∀ r, row = some r → ∃ o : Obj, w.heap[r]? = some o ∧ o.isCells = false) : w'.ownsRow base e size v n cs := by
  refine h.kept hg ?_
  rcases h.2 with ⟨rfl, _⟩ | ⟨g, cap, cur, rfl, _, hh, _⟩
  · exact .inl rfl
  · refine .inr fun e' => ?_
    obtain ⟨o, ho, hc⟩ := hr g e'.symm
    rw [hh] at ho
    cases ho
    cases hc
theorem at_turn' {w w' : World} {b : Nat} {t : TypeId} {c : Array Value} {row : Option Nat} (h : At w b t c) (hg : w.grownBy w' row) (hr : ∀ r, row = some r → ∃ o : Obj, w.heap[r]? = some o ∧ o.isCells = false) : At w' b t c := by
  refine (hg.block b h.lt fun e' => ?_).trans h
  obtain ⟨o, ho, hc⟩ := hr b e'.symm
  unfold At at h
  rw [h] at ho
  cases ho
  cases hc
theorem at_grown' {w w' : World} {b : Nat} {t : TypeId} {cs : Array Value} {row : Option Nat} (h : At w b t cs) (hg : w.grownBy w' row) (hne : some b ≠ row) : At w' b t cs := (hg.block b h.lt hne).trans h
end Go.PM
namespace Go.PS
open Go.PM Go.RowKit
/-- goals in cells -/
def gC (g : Nat → Nat) : Array Value := #[.int .i64 (g 0 : Nat), .int .i64 (g 1 : Nat), .int .i64 (g 2 : Nat), .int .i64 (g 3 : Nat), .int .i64 (g 4 : Nat), .int .i64 (g 5 : Nat), .int .i64 (g 6 : Nat), .int .i64 (g 7 : Nat), .int .i64 (g 8 : Nat)]
theorem gC_size (g : Nat → Nat) : (gC g).size = 9 := rfl
theorem gC_at (g : Nat → Nat) (p : Nat) (hp : p < 9) : (gC g)[p]? = some (.int .i64 (g p : Nat)) := by
  match p, hp with
  | 0, _ | 1, _ | 2, _ | 3, _ | 4, _ | 5, _ | 6, _ | 7, _ | 8, _ => rfl
def setN (g : Nat → Nat) (p x : Nat) : Nat → Nat := fun q => if q = p then x else g q
theorem gC_set (g : Nat → Nat) (p : Nat) (hp : p < 9) (x : Nat) : (gC g).setIfInBounds p (.int .i64 (x : Nat)) = gC (setN g p x) := by
  match p, hp with
  | 0, _ | 1, _ | 2, _ | 3, _ | 4, _ | 5, _ | 6, _ | 7, _ | 8, _ => simp [gC, setN]
theorem gC_congr {f g : Nat → Nat} (h : ∀ p, p < 9 → f p = g p) : gC f = gC g := by
  unfold gC
  rw [h 0 (by omega), h 1 (by omega), h 2 (by omega), h 3 (by omega), h 4 (by omega), h 5 (by omega), h 6 (by omega), h 7 (by omega), h 8 (by omega)]
theorem gC_one (g : Nat → Nat) : (gC g).all (·.oneCell') = true := by simp [gC, Value.oneCell']
theorem grown_cellP (W : World) (a : Addr) (v : Value) : W.grownBy (W.setCell a v) (some a.block) :=
  ⟨rfl, rfl, rfl, by simp [World.size_setCell], fun k _ hne => heap_setCell_other W a k v (fun e => hne (by rw [e]))⟩
theorem swp_set (g : Nat → Nat) (p q : Nat) : setN (setN g p (g q)) q (g p) = swp g p q := by
  funext x
  show (if x = q then g p else if x = p then g q else g x) = g (tr p q x)
  unfold tr
  by_cases h1 : x = q
  · rw [if_pos h1]
    by_cases h2 : x = p
    · rw [if_pos h2, ← h1, ← h2]
    · rw [if_neg h2, if_pos h1]
  · rw [if_neg h1]
    by_cases h2 : x = p
    · rw [if_pos h2, if_pos h2]
    · rw [if_neg h2, if_neg h2, if_neg h1]
end Go.PS
namespace Go.Proofs.Yteadhnpmmpninaa
open Go.RowKit Go.PM Go.PS Go.Lib
attribute [local go_sem] Oper.semAt_some

set_option maxRecDepth 100000 in
theorem indexP_c (g : Nat → Nat) (hg : Prm g) (b p : Nat) (hp : p < 9) (w : World) (hA : At w b 106 (gC g)) :
    Calls Try.prog 123 #[.slice (some ⟨b, 0, none⟩) 9 9, .int .i64 p] w fun e w' => e = .returned (.int .i64 (hold g p : Nat)) ∧ w = w' := by
  have h1 := hg.hold hp
  have HI := Lib.hid (fun q hq => hg.hold_iff hp hq (q := q))
  have hcs : ∀ q, q < 9 → w.cell? ⟨b, q, none⟩ = some (.int .i64 (g q : Nat)) := fun q hq => (hA.cell q).trans (gC_at g q hq)
  have hbl := hA.lt
  generalize hold g p = r at *
  go_enter Try.func123, Try.ntmps123
  go_wp2
  go_loopw [5, 8] (fun _ i wr => ∃ (k : Nat), k ≤ r ∧ i = .int .i64 k ∧ Hid (wr = w)) (fun _ i _ => 9 - (RowKit.intOf i).toNat)
  case atStart => exact ⟨0, by omega, rfl, rfl⟩
  case round =>
    obtain ⟨k, hk, rfl, hwr⟩ := hrel
    have hwr' := hwr.out
    subst hwr'
    have hlt : k < 9 := by omega
    have hd := hcs k hlt
    have i0 : (0 : Int) ≤ (k : Int) := by omega
    have i1 : (k : Int) < 9 := by omega
    have hiff := HI.out k hlt
    have HK := Lib.hid hiff
    clear hiff hcs hA
    by_cases e : g k = p
    · have hr : r = k := HK.out.1 e
      have ee : ((p : Int) == (g k : Int)) = true := by rw [beq_iff_eq]; omega
      subst hr
      generalize g r = x at *
      go_wp2
      go_ret
      exact ⟨rfl, rfl⟩
    · have ee : ((p : Int) == (g k : Int)) = false := by rw [beq_eq_false_iff_ne]; omega
      have hkr : k ≠ r := fun e2 => e (HK.out.2 e2.symm)
      have HKR := Lib.hid hkr
      clear hkr
      generalize g k = x at *
      go_wp2
      go_roundw
      case rel => exact ⟨k + 1, by have := HKR.out; omega, by go_num, trivial⟩
      case measure => simp [RowKit.intOf]; omega
theorem holder_c (g : Nat → Nat) (hg : Prm g) (b p : Nat) (hp : p < 9) (w : World) (hA : At w b 106 (gC g)) :
    Calls Try.prog 91 #[.pointer (some ⟨b, 0, none⟩), .int .i64 p] w fun e w' => e = .returned (.int .i64 (hold g p : Nat)) ∧ w = w' := by
  have HC := Lib.hid (indexP_c g hg b p hp w hA)
  have hlt := hA.lt
  go_enter Try.func91, Try.ntmps91
  go_wp2_with (go_at_call 123; refine HC.out.mono ?_; rintro e w' ⟨rfl, rfl⟩)
  go_ret
  exact ⟨rfl, rfl⟩
set_option maxRecDepth 100000 in
theorem descends_c (g : Nat → Nat) (b k : Nat) (hk : k < 8) (w : World) (hA : At w b 106 (gC g)) :
    Calls Try.prog 93 #[.pointer (some ⟨b, 0, none⟩), .int .i64 k] w fun e w' => e = .returned (.bool (dsc g k)) ∧ w.drew = w' := by
  have HD : Hid (dsc g k = decide (g (k + 1) < g k)) := rfl
  have c1 : w.drew.cell? ⟨b, k, none⟩ = some (.int .i64 (g k : Nat)) := (hA.cell k).trans (gC_at g k (by omega))
  have c2 : w.drew.cell? ⟨b, k + 1, none⟩ = some (.int .i64 (g (k + 1) : Nat)) := (hA.cell (k + 1)).trans (gC_at g (k + 1) (by omega))
  have hlt := hA.lt
  have i0 : (0 : Int) ≤ (k : Int) := by omega
  have i1 : (k : Int) < 9 := by omega
  have i2 : (k : Int) + 1 < 9 := by omega
  have i3 : (0 : Int) ≤ (k : Int) + 1 := by omega
  have i4 : IntKind.i64.wrap ((k : Int) + 1) = (k : Int) + 1 := IntWalk.i64_in _ ⟨by omega, by omega⟩
  have i5 : ((k : Int) + 1).toNat = k + 1 := by omega
  clear hA
  generalize g (k + 1) = y at *
  generalize g k = x at *
  go_enter Try.func93, Try.ntmps93
  go_wp2
  refine wp_region_quiet (C := fun w' => w' = w.drew) (by kernel_rfl) (by kernel_rfl) rfl ?_
  simp only
  repeat (go_big_quiet_step (fail))
  refine wpQuiet_nil ?_
  intro w2 hw'
  subst hw'
  go_wp2
  go_ret
  exact ⟨by rw [HD.out]; rfl, rfl⟩
theorem results_stp (fn : Func) (hr : fn.results = #[.cell 6 33]) (W : World) (b : Nat) (k : Int) (a c : ByteArray) (hA : At W b 33 #[.int .i64 k, .string a, .string c]) (tmps : Array Value) (h2 : tmps.getD 6 undef = .pointer (some ⟨b, 0, none⟩)) :
    (results fn tmps).run Try.prog W = .ok (.agg #[.int .i64 k, .string a, .string c]) W := by
  have q0 := hA.cell 0
  have q1 := hA.cell 1
  have q2 := hA.cell 2
  simp at q0 q1 q2
  simp only [Array.getD_eq_getD_getElem?] at h2
  simp [results, hr, go_sem, h2, q0, q1, q2]
set_option maxRecDepth 100000 in
set_option maxHeartbeats 1600000 in
theorem swap_c (g : Nat → Nat) (b p q : Nat) (hp : p < 9) (hq : q < 9) (hpq : p ≠ q) (w : World) (hA : At w b 106 (gC g)) :
    Calls Try.prog 90 #[.pointer (some ⟨b, 0, none⟩), .int .i64 p, .int .i64 q] w fun e w' => e = .returned (.agg #[.int .i64 1, .string (nm p), .string (nm q)]) ∧ At w' b 106 (gC (swp g p q)) ∧ w.grownBy w' (some b) := by
  have hn1 := fun W' => name_c p hp W'
  have hn2 := fun W' => name_c q hq W'
  have hlt := hA.lt
  obtain ⟨W1, hW1e⟩ : ∃ W1, W1 = w.alloc (.cells #[.int .i64 0, .string ⟨#[]⟩, .string ⟨#[]⟩] 33) := ⟨_, rfl⟩
  have hb1 : Below w.heap.size w W1 := by rw [hW1e]; exact (Below.refl _ _).alloc (Nat.le_refl _) _
  have hz1 : W1.heap.size = w.heap.size + 1 := by rw [hW1e]; simp
  have hA1 : At W1 b 106 (gC g) := hA.keep hb1
  have hN1 : At W1 w.heap.size 33 #[.int .i64 0, .string ⟨#[]⟩, .string ⟨#[]⟩] := by rw [hW1e]; exact At.new _ _ _
  have hA2 := (hA1.set p (.int .i64 (g q : Nat))).set q (.int .i64 (g p : Nat))
  rw [gC_set g p hp, gC_set _ q hq, swp_set] at hA2
  have hg1 := (grown_cellP W1 ⟨b, p, none⟩ (.int .i64 (g q : Nat)))
  have hg2 := (grown_cellP (W1.setCell ⟨b, p, none⟩ (.int .i64 (g q : Nat))) ⟨b, q, none⟩ (.int .i64 (g p : Nat)))
  have hgg := grown_trans (grown_below hb1 (some b)) (grown_trans hg1 hg2)
  have hN2 := (hN1.far (show w.heap.size ≠ (⟨b, p, none⟩ : Addr).block by show w.heap.size ≠ b; omega) (.int .i64 (g q : Nat))).far (show w.heap.size ≠ (⟨b, q, none⟩ : Addr).block by show w.heap.size ≠ b; omega) (.int .i64 (g p : Nat))
  have c1 : W1.cell? ⟨b, p, none⟩ = some (.int .i64 (g p : Nat)) := (hA1.cell p).trans (gC_at g p hp)
  have c2 : W1.cell? ⟨b, q, none⟩ = some (.int .i64 (g q : Nat)) := (hA1.cell q).trans (gC_at g q hq)
  have f1 := hA1.frozen p
  have f2 := hA1.frozen q
  have i0 : (0 : Int) ≤ (p : Int) := by omega
  have i1 : (p : Int) < 9 := by omega
  have i2 : (0 : Int) ≤ (q : Int) := by omega
  have i3 : (q : Int) < 9 := by omega
  have hbz : b < W1.heap.size := by omega
  clear hA hA1 hN1 hg1 hg2 hb1
  generalize g p = x at *
  generalize g q = y at *
  generalize swp g p q = g2 at *
  generalize nm p = np at *
  generalize nm q = nq at *
  go_enter Try.func90, Try.ntmps90
  go_wp2
  rw [← hW1e]
  clear hW1e
  go_region
  obtain ⟨W2, hW2⟩ : ∃ W2, W2 = ((W1.setCell ⟨b, p, none⟩ (.int .i64 (y : Nat))).setCell ⟨b, q, none⟩ (.int .i64 (x : Nat))).drew := ⟨_, rfl⟩
  have hA3 : At W2 b 106 (gC g2) := by rw [hW2]; exact hA2
  have hN3 : At W2 w.heap.size 33 #[.int .i64 0, .string ⟨#[]⟩, .string ⟨#[]⟩] := by rw [hW2]; exact hN2
  have hG3 : w.grownBy W2 (some b) := by rw [hW2]; exact ⟨hgg.os, hgg.tape, hgg.output, hgg.size, hgg.block⟩
  rw [← hW2]
  clear hW2 hA2 hN2 hgg c1 c2 f1 f2
  have z0 := hN3.frozen 0
  have z1 := hN3.frozen 1
  have z2 := hN3.frozen 2
  have hNl := hN3.lt
  have k0 : W2.cell? ⟨w.heap.size, 0, none⟩ = some (.int .i64 0) := hN3.cell 0
  have k1 : W2.cell? ⟨w.heap.size, 1, none⟩ = some (.string ⟨#[]⟩) := hN3.cell 1
  have k2 : W2.cell? ⟨w.heap.size, 2, none⟩ = some (.string ⟨#[]⟩) := hN3.cell 2
  have hA4 := ((hA3.far (show b ≠ (⟨w.heap.size, 0, none⟩ : Addr).block by show b ≠ w.heap.size; omega) (.int .i64 1)).far (show b ≠ (⟨w.heap.size, 1, none⟩ : Addr).block by show b ≠ w.heap.size; omega) (.string np)).far (show b ≠ (⟨w.heap.size, 2, none⟩ : Addr).block by show b ≠ w.heap.size; omega) (.string nq)
  have hG4 : w.grownBy (((W2.setCell ⟨w.heap.size, 0, none⟩ (.int .i64 1)).setCell ⟨w.heap.size, 1, none⟩ (.string np)).setCell ⟨w.heap.size, 2, none⟩ (.string nq)) (some b) :=
    ⟨hG3.os, hG3.tape, hG3.output, by simp [World.size_setCell]; exact hG3.size, fun k hk hne => by
      rw [heap_setCell_other _ _ _ _ (by show k ≠ w.heap.size; omega), heap_setCell_other _ _ _ _ (by show k ≠ w.heap.size; omega), heap_setCell_other _ _ _ _ (by show k ≠ w.heap.size; omega)]
      exact hG3.block k hk hne⟩
  have hN4 := ((hN3.set 0 (.int .i64 1)).set 1 (.string np)).set 2 (.string nq)
  have HN4 := Lib.hid hN4
  clear hN4
  have HA4 := Lib.hid hA4
  have HG4 := Lib.hid hG4
  clear hA4 hG4 hA3 hG3 hN3
  go_wp2_with (go_at_call 99; first | (refine (hn1 _).mono ?_; rintro e w' ⟨rfl, rfl⟩) | (refine (hn2 _).mono ?_; rintro e w' ⟨rfl, rfl⟩))
  refine bodyPost_ret (v := .agg #[.int .i64 1, .string np, .string nq]) (results_stp _ Try.results90 _ w.heap.size _ _ _ (by simpa using HN4.out) _ rfl) rfl ⟨rfl, HA4.out, HG4.out⟩
end Go.Proofs.Yteadhnpmmpninaa
namespace Go.PM
open Go.RowKit
section
variable {F : Fence} {m : Nat} {P : Program} {ops : Array Oper} {md : Region.Mode} {C D : World → Prop} {Q : Exit → Act → World → Prop}
/-- operations one behind the other, a fact kept till the first of the last ones -/
def wpListT (F : Fence) (m : Nat) (P : Program) (ops : Array Oper) (D : World → Prop) (Q : Exit → Act → World → Prop) (rest : List Oper) : List Oper → Act → World → Prop
  | [], a, w => D w ∧ wpListIn F m P ops Q rest a w
  | o :: l, a, w => D w ∧ Oper.wpIn F m P o a w (wpListT F m P ops D Q rest l) Q
theorem wpAnyT_of_list {rest : List Oper} (hne : rest ≠ []) : ∀ (l : List Oper) (k : Nat) (listed : Array Bool) (a : Act) (w : World), (∀ j, (l ++ rest)[j]? = ops[k + j]?) →
    Region.waitsFor md ops (k + l.length) 0 = true → (∀ o ∈ l, o.guard = none) → Region.seqB md ops (l.length + rest.length) k listed = true → wpListT F m P ops D Q rest l a w → wpAnyT F m P md ops D Q (l.length + rest.length) listed a w
  | [], k, listed, a, w, hl, hw0, _, hB, h => by
    obtain ⟨hD, hlist⟩ := h
    cases rest with
    | nil => exact absurd rfl hne
    | cons o r =>
      have hl' : ∀ j, (o :: r)[j]? = ops[k + j]? := fun j => by simpa using hl j
      have hB' : Region.seqB md ops (o :: r).length k listed = true := by simpa using hB
      have hany := wpAnyIn_of_seq' (md := md) (Q' := Q) (o :: r) k listed a w hl' hB' hlist
      simp only [List.length_cons, Region.seqB, Bool.and_eq_true, decide_eq_true_eq] at hB'
      simp only [List.length_nil, Nat.zero_add, List.length_cons] at hany ⊢
      refine ⟨hD, hany.1, fun j hj => ?_⟩
      rw [hB'.1] at hj
      have hjn : j = k := by simpa using hj
      subst hjn
      have hw0' : Region.waitsFor md ops j 0 = true := by simpa using hw0
      simp only [hw0', if_true]
      exact hany.2 _ (by rw [hB'.1]; simp)
  | o :: l, k, listed, a, w, hl, hw0, hg, hB, h => by
    obtain ⟨hD, hop⟩ := h
    have h0 : ops[k]? = some o := by simpa using (hl 0).symm
    have e : (o :: l).length + rest.length = (l.length + rest.length) + 1 := by simp only [List.length_cons]; omega
    rw [e] at hB ⊢
    simp only [Region.seqB, Bool.and_eq_true, decide_eq_true_eq] at hB
    refine ⟨hD, fun h1 => (by rw [hB.1] at h1; cases h1), fun j hj => ?_⟩
    rw [hB.1] at hj
    have hjk : j = k := by simpa using hj
    subst hjk
    have hwn : Region.wanted o (yielded ops a.tmps) = true := by simp [Region.wanted, hg o (by simp)]
    have hw : wpOpIn F m P ops Q j (wpListT F m P ops D Q rest l) a w := by
      unfold wpOpIn
      simp only [h0]
      rw [if_pos hwn]; exact hop
    refine wpOpIn_mono (fun a' w' h' => ?_) hw
    have hT := wpAnyT_of_list hne l (j + 1) (listed.setIfInBounds j true) a' w' (fun i => by have := hl (i + 1); simpa [Nat.add_assoc, Nat.add_comm 1 i] using this) (by
      have : j + 1 + l.length = j + (o :: l).length := by simp only [List.length_cons]; omega
      rw [this]; exact hw0) (fun o' ho' => hg o' (by simp [ho'])) hB.2 h'
    split
    · exact wpAnyT_any _ _ _ _ hT
    · exact hT
/-- what is asked of the region's form -/
def lateB2 (ops : Array Oper) (n k : Nat) : Bool :=
  Region.noSelect ops && decide (0 < n) && decide (n + k < ops.size) && sinkB1 .any ops n && Region.chainB .any ops n && Region.lexHead .any ops (ops.size - n) (n - 1) 1 ((Array.replicate ops.size false).setIfInBounds 0 true) &&
    Region.waitsFor .any ops (n + k) 0 && Region.free .any ops (Array.replicate ops.size false) 0 && (Region.ready .any ops (Array.replicate ops.size false)).contains 0
/-- A region that draws its order, whose first operation reads what only the last ones turn: it first, n - 1 quiet ones, k that turn something else, the others one behind the other. -/
theorem any_late2 {a : Act} {w : World} {l : List Oper} (n k : Nat) (hro : F.round = none) (hB : lateB2 l.toArray n k = true) (o0 : Oper) (h0 : l[0]? = some o0) (hgn : ∀ o ∈ (l.drop n).take k, o.guard = none) (v0 : Value)
    (hQ : ∀ c a w, Q (.panic c) (a.put o0.dst v0) w → Q (.panic c) a w) (hy : YieldsD P l.toArray D o0 v0 a) (hCD : ∀ w, C w → D w) (hC : C w)
    (h : wpQuietIn F m P l.toArray C (fun a' => ∀ w', C w' → wpListT F m P l.toArray D Q (l.drop (n + k)) ((l.drop n).take k) a' w') ((l.drop 1).take (n - 1)) (a.put o0.dst v0)) :
    wpAnyIn F m P .any l.toArray Q l.toArray.size (Array.replicate l.toArray.size false) a w := by
  simp only [lateB2, Bool.and_eq_true, decide_eq_true_eq] at hB
  obtain ⟨⟨⟨⟨⟨⟨⟨⟨hsel, hn0⟩, hn⟩, hs⟩, hc⟩, hlex⟩, hw0⟩, hf0⟩, hr0⟩ := hB
  have hn' : n + k < l.length := by simpa using hn
  have hr0' : 0 ∈ Region.ready .any l.toArray (Array.replicate l.toArray.size false) := by simpa using hr0
  have h0a : l.toArray[0]? = some o0 := by simpa using h0
  have inv0 : HeadInv .any l.toArray n (Array.replicate l.toArray.size false) :=
    ⟨by simp, fun j oj _ hl => (by rw [getD_replicate_false] at hl; cases hl), fun t _ ht => getD_in (by simpa using ht) (getD_replicate_false _ _)⟩
  have inv1 := inv0.set hr0' hn0
  have htl : ((l.drop 1).take (n - 1)).length = n - 1 := by simp; omega
  have H := wpAnyLQ1_lex (md := .any) (g := l.toArray.size - n) hsel hs hc (by omega) ((l.drop 1).take (n - 1)) 1 _ (a.put o0.dst v0) (by decide) (fun j hj => by
    have hj' : j < n - 1 := by rw [htl] at hj; exact hj
    simp [hj', Nat.add_comm]) (by rw [htl]; omega) inv1 (by rw [htl]; exact hlex) h
  have hlm : ((l.drop n).take k).length = k := by simp; omega
  have hlr : (l.drop (n + k)).length = l.length - (n + k) := by simp
  have hsz : ((l.drop n).take k).length + (l.drop (n + k)).length = l.toArray.size - n := by rw [hlm, hlr]; simp; omega
  have happ : (l.drop n).take k ++ l.drop (n + k) = l.drop n := by rw [← List.drop_drop]; exact List.take_append_drop _ _
  have T := wpAnyT_of_headQ (D := D) (Q := Q) (g := l.toArray.size - n) hro hCD (fun listed a' w' hw' hL => by
    obtain ⟨hseq, hLq⟩ := hL
    rw [← hsz] at hseq ⊢
    exact wpAnyT_of_list (fun e => by rw [e] at hlr; simp at hlr; omega) _ n listed a' w' (fun j => by rw [happ]; simp [List.getElem?_drop]) (by rw [hlm]; exact hw0) hgn hseq (hLq w' hw')) _ _ _ _ hC H
  rw [htl, show n - 1 + (l.toArray.size - n) = l.toArray.size - 1 by omega] at T
  have := late_first (md := .any) hro h0a (Region.noSelect_spec hsel) hQ (l.toArray.size - 1) _ a w (Region.free_spec h0a hf0) hr0' hy T
  rw [show l.toArray.size - 1 + 1 = l.toArray.size by omega] at this
  exact this
theorem region_late2_inRound {id r : Nat} {a : Act} {w : World} {l : List Oper} (n k : Nat) (hro : F.round = none) (hd : noDefer l.toArray = true) (hm : P.follows .mixedOrders = true) (hB : lateB2 l.toArray n k = true) (o0 : Oper) (h0 : l[0]? = some o0) (hgn : ∀ o ∈ (l.drop n).take k, o.guard = none) (v0 : Value)
    (hQ : ∀ c a w, Q (.panic c) (a.put o0.dst v0) w → Q (.panic c) a w) (hy : YieldsD P l.toArray D o0 v0 a) (hCD : ∀ w, C w → D w) (hC : C w.drew)
    (h : wpQuietIn F m P l.toArray C (fun a' => ∀ w', C w' → wpListT F m P l.toArray D Q (l.drop (n + k)) ((l.drop n).take k) a' w') ((l.drop 1).take (n - 1)) (a.put o0.dst v0)) :
    (Code.region id l.toArray true).wpIn (F.inRound r) m P Q a w :=
  region_inRound hro hd hm (any_late2 n k hro hB o0 h0 hgn v0 hQ hy hCD hC h)
theorem region_late2 {id : Nat} {a : Act} {w : World} {l : List Oper} (n k : Nat) (hro : F.round = none) (hm : P.follows .mixedOrders = true) (hB : lateB2 l.toArray n k = true) (o0 : Oper) (h0 : l[0]? = some o0) (hgn : ∀ o ∈ (l.drop n).take k, o.guard = none) (v0 : Value)
    (hQ : ∀ c a w, Q (.panic c) (a.put o0.dst v0) w → Q (.panic c) a w) (hy : YieldsD P l.toArray D o0 v0 a) (hCD : ∀ w, C w → D w) (hC : C w.drew)
    (h : wpQuietIn F m P l.toArray C (fun a' => ∀ w', C w' → wpListT F m P l.toArray D Q (l.drop (n + k)) ((l.drop n).take k) a' w') ((l.drop 1).take (n - 1)) (a.put o0.dst v0)) :
    (Code.region id l.toArray true).wpIn F m P Q a w :=
  wpIn_region_any hm (any_late2 n k hro hB o0 h0 hgn v0 hQ hy hCD hC h)
end
end Go.PM
namespace Go.PS
open Go.PM Go.RowKit
/-- swaps as steps -/
def swS (p : Nat × Nat) : St := (1, nm p.1, nm p.2)
def swL (ps : List (Nat × Nat)) : List St := ps.map swS
theorem swL_app (ps qs : List (Nat × Nat)) : swL (ps ++ qs) = swL ps ++ swL qs := by simp [swL]
theorem swL_len (ps : List (Nat × Nat)) : (swL ps).length = ps.length := by simp [swL]
theorem scells_one (xs : List St) : ∀ u ∈ scells xs, u.oneCell' = true := by
  intro u hu
  unfold scells at hu
  obtain ⟨x, _, hx⟩ := List.mem_flatMap.1 hu
  simp at hx
  rcases hx with rfl | rfl | rfl <;> rfl
theorem op_k {F : Fence} {n : Nat} {P : Program} {o : Oper} {a : Act} {w : World} {X : Act → World → Prop} {Q : Exit → Act → World → Prop} (h : ∀ K : Act → World → Prop, (∀ a w, X a w → K a w) → Oper.wpIn F n P o a w K Q) : Oper.wpIn F n P o a w X Q := h X fun _ _ h => h
/-- the cells of a row of one's own, at its address -/
theorem own_cellsAt {w : World} {base : Nat} {e : TypeId} {n b cap : Nat} {xs : List Value} {size : Nat} (h : w.ownsRow base e size (.slice (some ⟨b, 0, none⟩) n cap) n xs) : ∀ j u, xs[j]? = some u → w.cell? ((⟨b, 0, none⟩ : Addr).add j) = some u := by
  intro j u hu
  have hj : j < n * size := by have := (List.getElem?_eq_some_iff.1 hu).1; rw [h.1] at this; exact this
  rw [show (⟨b, 0, none⟩ : Addr).add j = ⟨b, j, none⟩ by unfold Addr.add; split <;> simp_all]
  rw [h.cellAt j hj]; exact hu
end Go.PS
namespace Go.Proofs.Yteadhnpmmpninaa
open Go.RowKit Go.PM Go.PS
theorem infoSt3 : (Try.prog.info? 33).map (fun i => (i.zero, i.size, i.bytes)) = some (some (.agg #[.int .i64 0, .string ⟨#[]⟩, .string ⟨#[]⟩]), 3, 40) := by kernel_rfl
theorem sliceIn_st {F : Fence} {n : Nat} {o : Oper} {a : Act} {w : World} {K : Act → World → Prop} {Q : Exit → Act → World → Prop} (x : Operand) (ho : o.op = .buildSlice 25 1 #[(0, x)]) (k : Int) (s t : ByteArray) (hx : a.eval x = .agg #[.int .i64 k, .string s, .string t])
    (h : K (a.put o.dst (.slice (some ⟨w.heap.size, 0, none⟩) 1 1)) (w.alloc (.cells #[.int .i64 k, .string s, .string t] 33))) : o.wpIn F n Try.prog a w K Q := by
  obtain ⟨i0, hi0, hz0, hz1, hz2⟩ := info_parts infoSt3
  refine sliceIn 25 33 1 #[(0, x)] ho #[.int .i64 k, .string s, .string t] i0 _ Try.underlying25 hi0 hz0 (by rw [hz1]; decide) (by rw [hz1]; decide) ?_ h
  have hr : Array.range 3 = #[0, 1, 2] := by decide
  simp [hx, hz1, Instr.fill, Value.cells, hr]
theorem listIn_st {F : Fence} {k : Nat} {ops : Array Oper} {rest : List Oper} {o : Oper} {a : Act} {Q : Exit → Act → World → Prop} {w : World} (hgd : o.guard = none) (s x : Operand)
    (ho : o.op = .call { callee := .builtin .append, args := #[s, x], argTypes := #[25, 25] })
    (base : Nat) (v : Value) (ys : List St) (m : St) (ad : Addr) (c : Nat) (hs : a.eval s = v) (hx : a.eval x = .slice (some ad) 1 c)
    (hown : w.ownsRow base 33 3 v ys.length (scells ys)) (hnew : ∀ j u, [Value.int .i64 m.1, Value.string m.2.1, Value.string m.2.2][j]? = some u → w.cell? (ad.add j) = some u)
    (hlen : ys.length ≤ 1048576) (hbase : base ≤ w.heap.size)
    (h : ∀ v' w', w'.ownsRow base 33 3 v' (ys ++ [m]).length (scells (ys ++ [m])) → w.grownBy w' v.ownBlock → wpListIn F k Try.prog ops Q rest (a.put o.dst v') w') : wpListIn F k Try.prog ops Q (o :: rest) a w := by
  obtain ⟨i0, hi0, hz0, hz1, hz2⟩ := info_parts infoSt3
  refine wpListIn_append_own w hgd s x _ ho base 33 i0 _ 3 40 Try.underlying25 hi0 hz0 hz1 hz2 rfl (by omega) v ys.length (scells ys) hs hown ad 1 c [Value.int .i64 m.1, Value.string m.2.1, Value.string m.2.2] hx rfl hnew
    (by intro u hu; simp at hu; rcases hu with rfl | rfl | rfl <;> rfl) (by simp only [maxLen]; omega) (by omega) hbase ?_
  intro v' w' h2 h3 _
  refine h v' w' ?_ h3
  have hcs : scells ys ++ [Value.int .i64 m.1, Value.string m.2.1, Value.string m.2.2] = scells (ys ++ [m]) := by rw [scells_append]; simp [scells]
  rw [← hcs, List.length_append]
  simpa using h2
/-- append of a whole row of steps -/
theorem run_app_rows (w : World) (ty : TypeId) (base base2 : Nat) (v v2 : Value) (ys zs : List St) (hown : w.ownsRow base 33 3 v ys.length (scells ys)) (hown2 : w.ownsRow base2 33 3 v2 zs.length (scells zs))
    (hlen : ys.length + zs.length ≤ 1048576) (hbase : base ≤ w.heap.size) :
    ∃ v' w', (Builtin.append_ #[25, 25] ty #[v, v2]).run Try.prog w = .ok v' w' ∧ w'.ownsRow base 33 3 v' (ys ++ zs).length (scells (ys ++ zs)) ∧ w.grownBy w' v.ownBlock := by
  obtain ⟨i0, hi0, hz0, hz1, hz2⟩ := info_parts infoSt3
  have hc2 := hown2.2
  rcases hc2 with ⟨rfl, hn⟩ | ⟨g, cap, cur, rfl, _, _, _⟩
  · have hz : zs = [] := List.length_eq_zero_iff.1 hn
    subst hz
    refine ⟨v, w, run_append_owned_none w base 25 ty 33 i0 3 Try.underlying25 hi0 v ys.length (scells ys) hown, by simpa using hown, grown_refl _ _⟩
  · obtain ⟨v', w', hr, r1, r2, _⟩ := run_append_own (P := Try.prog) w base 25 ty 33 i0 _ 3 40 Try.underlying25 hi0 hz0 hz1 hz2 rfl (by omega) v ys.length (scells ys) hown ⟨g, 0, none⟩ zs.length cap (scells zs) (scells_length zs) (own_cellsAt hown2) (scells_one zs) (by simp only [maxLen]; omega) (by omega) hbase
    refine ⟨v', w', hr, ?_, r2⟩
    rw [List.length_append, scells_append]; exact r1
theorem listIn_rows {F : Fence} {k : Nat} {ops : Array Oper} {rest : List Oper} {o : Oper} {a : Act} {Q : Exit → Act → World → Prop} {w : World} (hgd : o.guard = none) (s x : Operand)
    (ho : o.op = .call { callee := .builtin .append, args := #[s, x], argTypes := #[25, 25] })
    (base base2 : Nat) (v v2 : Value) (ys zs : List St) (hs : a.eval s = v) (hx : a.eval x = v2)
    (hown : w.ownsRow base 33 3 v ys.length (scells ys)) (hown2 : w.ownsRow base2 33 3 v2 zs.length (scells zs))
    (hlen : ys.length + zs.length ≤ 1048576) (hbase : base ≤ w.heap.size)
    (h : ∀ v' w', w'.ownsRow base 33 3 v' (ys ++ zs).length (scells (ys ++ zs)) → w.grownBy w' v.ownBlock → wpListIn F k Try.prog ops Q rest (a.put o.dst v') w') : wpListIn F k Try.prog ops Q (o :: rest) a w := by
  refine wpListIn_plain hgd fun K hK' => ?_
  obtain ⟨v', w', hrun, r1, r2⟩ := run_app_rows w o.type base base2 v v2 ys zs hown hown2 hlen hbase
  unfold Oper.wpIn
  refine ⟨?_, ?_⟩
  · simp [Oper.about, ho, resolve, Target.leads, Sem.run_pure]
  · rw [Oper.semAt_plain F _ _ (by rw [ho]; intro c hc'; cases hc')]
    simp [execOp, ho, resolve, invoke, builtin, hs, hx, hrun, Result.andThen]
    exact hK' _ _ (h v' w' r1 r2)
end Go.Proofs.Yteadhnpmmpninaa
namespace Go.Proofs.Yteadhnpmmpninaa
open Go.RowKit Go.PM
attribute [local go_sem] Oper.semAt_some

set_option maxRecDepth 100000 in
set_option maxHeartbeats 1000000 in
theorem below_iterN (N : Nat) (hN : N ≤ 1000) (F : Fence) (n : Nat) (hF : F.fn 89) (hro : F.round = none) (hn : 1 ≤ n) :
    Iter 0 F n Try.prog 89 (fun y => #[.int .i64 N] ++ #[y] ++ #[]) (fun p : Nat => #[.int .i64 p]) (List.range N) := by
  intro l J Jx W hJ hJx hY h0
  refine callsIn_of_wp Try.func89 rfl hF ?_ hro
  simp only [Try.ntmps89, List.size_toArray, List.length_cons, List.length_nil, Nat.reduceAdd, Nat.reduceSub, Array.replicate_succ, Array.replicate_zero, List.push_toArray, List.append_toArray, List.nil_append, List.cons_append]
  gi_wp2
  gi_loopw [4, 6] (fun _ i wr => ∃ k : Nat, k ≤ N ∧ i = .int .i64 k ∧ J (List.range k) wr ∧ W.heap.size ≤ wr.heap.size) (fun _ i _ => N - (intOf i).toNat)
  case atStart => exact ⟨0, by omega, rfl, h0, Nat.le_refl _⟩
  case round =>
    obtain ⟨k, hk, rfl, hj, hsz⟩ := hrel
    by_cases hlt : k < N
    · obtain ⟨fn, tmps, assign, body, hy, hR⟩ := hY (List.range k) k wr hj hsz (range_step k N hlt)
      gi_wp2
      refine hR.mono ?_
      rintro e W3 (⟨rfl, hJ3, hK3, _⟩ | ⟨rfl, hJx3, _⟩)
      · have hsz3 := Nat.le_trans hsz hK3.size
        gi_wp2
        go_roundw
        case rel => exact ⟨k + 1, by omega, by go_num, by rw [List.range_succ]; exact hJ3, hsz3⟩
        case measure => simp [intOf]; omega
      · gi_wp2
        refine bodyPost_ret (results_none rfl _ _ _) rfl ?_
        exact ⟨⟨_, rfl⟩, .inr ⟨_, range_step k N hlt, hJx3⟩⟩
    · have hk' : k = N := by omega
      have hj' := hj
      rw [hk'] at hj'
      clear hk'
      gi_wp2
      go_end0
      exact ⟨⟨_, rfl⟩, .inl hj'⟩
end Go.Proofs.Yteadhnpmmpninaa
namespace Go.PS
open Go.PM Go.RowKit
/-- what the swapping holds: goals, swaps, and its own blocks -/
def SwW (t1 t2 t3 t4 e : TypeId) (fv : Value) (w : World) (B b : Nat) (A : World) (ps : List (Nat × Nat)) (g : Nat → Nat) (o : Value) : Prop :=
  At A w.heap.size t1 #[.pointer (some ⟨b, 0, none⟩)] ∧ At A (w.heap.size + 1) t2 #[o] ∧ At A (w.heap.size + 1 + 1) t3 #[fv] ∧ A.ownsRow B e 3 o (swL ps).length (scells (swL ps)) ∧ At A b t4 (gC g) ∧ w.grownBy A (some b)
theorem SwW.turn {t1 t2 t3 t4 e : TypeId} {fv : Value} {w : World} {B b : Nat} {A A' : World} {ps : List (Nat × Nat)} {g : Nat → Nat} {o : Value} {row : Option Nat} (h : SwW t1 t2 t3 t4 e fv w B b A ps g o) (hg : A.grownBy A' row) (hr : ∀ r, row = some r → w.heap.size ≤ r ∧ ∃ ob : Obj, A.heap[r]? = some ob ∧ ob.isCells = false) : SwW t1 t2 t3 t4 e fv w B b A' ps g o := by
  obtain ⟨h1, h2, h3, h4, h5, h6⟩ := h
  refine ⟨at_turn h1 hg (fun r e => (hr r e).2), at_turn h2 hg (fun r e => (hr r e).2), at_turn h3 hg (fun r e => (hr r e).2), row_turn h4 hg (fun r e => (hr r e).2), at_turn h5 hg (fun r e => (hr r e).2), ?_⟩
  refine ⟨hg.os.trans h6.os, hg.tape.trans h6.tape, hg.output.trans h6.output, Nat.le_trans h6.size hg.size, fun i hi hne => ?_⟩
  rw [hg.block i (by have := h6.size; omega) (fun e => by have := (hr i e.symm).1; omega)]
  exact h6.block i hi hne
theorem at_cells {w : World} {b : Nat} {t : TypeId} {cs : Array Value} (h : At w b t cs) : ∀ (j : Nat) (ob : Obj), some b = some j → w.heap[j]? = some ob → ob.isCells = true := by
  intro j ob e hh
  cases e
  unfold At at h
  rw [h] at hh
  cases hh; rfl
theorem own_cells {w : World} {base : Nat} {e : TypeId} {size n : Nat} {v : Value} {cs : List Value} (h : w.ownsRow base e size v n cs) : ∀ (j : Nat) (ob : Obj), v.ownBlock = some j → w.heap[j]? = some ob → ob.isCells = true := by
  intro j ob e1 hh
  rcases h.2 with ⟨rfl, _⟩ | ⟨g, cap, cur, rfl, _, hg, _⟩
  · cases e1
  · cases e1
    rw [hg] at hh
    cases hh; rfl
theorem SwW.step {t1 t2 t3 t4 e : TypeId} (he1 : e ≠ t1) (he2 : e ≠ t2) (he3 : e ≠ t3) (he4 : e ≠ t4) {fv : Value} {w : World} {B b : Nat} {A A3 W5 : World} {ps qs : List (Nat × Nat)} {g g2 : Nat → Nat} {o o' : Value} {cs : Array Value}
    (h : SwW t1 t2 t3 t4 e fv w B b A ps g o) (hb : b < w.heap.size) (hB : w.heap.size + 3 ≤ B) (hA3 : At A3 b t4 (gC g2)) (hg3 : A.drew.grownBy A3 (some b))
    (hown5 : W5.ownsRow B e 3 o' (swL (ps ++ qs)).length (scells (swL (ps ++ qs)))) (hgrow5 : (A3.alloc (.cells cs e)).grownBy W5 o.ownBlock) :
    At W5 (w.heap.size + 1) t2 #[o] ∧ SwW t1 t2 t3 t4 e fv w B b (W5.setCell ⟨w.heap.size + 1, 0, none⟩ o') (ps ++ qs) g2 o' ∧ KeepsOthers A (W5.setCell ⟨w.heap.size + 1, 0, none⟩ o') := by
  obtain ⟨h1, h2, h3, h4, h5, h6⟩ := h
  have hsz := h6.size
  have g1 : At A.drew w.heap.size t1 #[.pointer (some ⟨b, 0, none⟩)] := h1
  have g2' : At A.drew (w.heap.size + 1) t2 #[o] := h2
  have g3 : At A.drew (w.heap.size + 1 + 1) t3 #[fv] := h3
  have g4 : A.drew.ownsRow B e 3 o (swL ps).length (scells (swL ps)) := h4
  have k1 := (at_grown' g1 hg3 (fun e => by cases e; omega)).alloc (.cells cs e)
  have k2 := (at_grown' g2' hg3 (fun e => by cases e; omega)).alloc (.cells cs e)
  have k3 := (at_grown' g3 hg3 (fun e => by cases e; omega)).alloc (.cells cs e)
  have hbe := own_block_ge h4
  have k4 := own_keep (own_grown g4 hg3 (.inl fun e => by have := hbe b e; omega)) ((Below.refl A3.heap.size A3).alloc (Nat.le_refl _) (.cells cs e))
  have k5 := hA3.alloc (.cells cs e)
  have m1 := at_grown' k1 hgrow5 (box_apart k4 k1 he1)
  have m2 := at_grown' k2 hgrow5 (box_apart k4 k2 he2)
  have m3 := at_grown' k3 hgrow5 (box_apart k4 k3 he3)
  have m5 := at_grown' k5 hgrow5 (box_apart k4 k5 he4)
  have hs5 := grownBy_setCell' W5 (w.heap.size + 1) o'
  have hne5 := box_apart hown5 m2 he2
  refine ⟨m2, ⟨at_grown' m1 hs5 (by simp), m2.set 0 _, at_grown' m3 hs5 (by simp), hown5.kept hs5 (.inr hne5.symm), at_grown' m5 hs5 (fun e => by cases e; omega), ?_⟩, ?_⟩
  · have hz3 := hg3.size
    have hz5 := hgrow5.size
    simp only [World.size_alloc] at hz5
    have hzd : A.drew.heap.size = A.heap.size := rfl
    refine ⟨hs5.os.trans (hgrow5.os.trans (hg3.os.trans h6.os)), hs5.tape.trans (hgrow5.tape.trans (hg3.tape.trans h6.tape)), hs5.output.trans (hgrow5.output.trans (hg3.output.trans h6.output)), by have := hs5.size; omega, fun i hi hne => ?_⟩
    rw [hs5.block i (by omega) (fun e => by cases e; omega), hgrow5.block i (by simp only [World.size_alloc]; omega) (fun e => by have := hbe i e.symm; omega)]
    rw [Below.heap_alloc A3 _ _ (by omega), hg3.block i (by omega) hne]
    exact h6.block i hi hne
  · have q1 : KeepsOthers A A3 := (KeepsOthers.drew A).trans (KeepsOthers.of_grownBy hg3 (at_cells (w := A.drew) h5))
    exact ((q1.trans (KeepsOthers.alloc A3 _)).trans (KeepsOthers.of_grownBy hgrow5 (own_cells k4))).trans (KeepsOthers.setCell _ _ _)
/-- one round of the walk along a ring -/
def RsR (t1 t2 t3 t4 e : TypeId) (fv : Value) (w : World) (B b : Nat) (W : World) (tot : List (Nat × Nat)) (ge : Nat → Nat) (k : Nat) (pv nv : Value) (A : World) : Prop :=
  ∃ (q : Nat) (ps : List (Nat × Nat)) (g : Nat → Nat) (o : Value), pv = .int .i64 q ∧ nv = .int .i64 (hold g q : Nat) ∧ q < 9 ∧ Prm g ∧ muG g ≤ k ∧ ps ++ (rsW k g q).1 = tot ∧ (rsW k g q).2 = ge ∧ SwW t1 t2 t3 t4 e fv w B b A ps g o ∧ KeepsOthers W A
end Go.PS
namespace Go.Proofs.Yteadhnpmmpninaa
open Go.RowKit Go.PM Go.PS Go.Lib
attribute [local go_sem] Oper.semAt_some

set_option maxRecDepth 100000 in
set_option maxHeartbeats 4000000 in
theorem ringSwaps_c (g : Nat → Nat) (hg : Prm g) (b : Nat) (w : World) (hA : At w b 106 (gC g)) :
    Calls Try.prog 46 #[.pointer (some ⟨b, 0, none⟩)] w fun e w' => ∃ v', e = .returned v' ∧ w'.ownsRow w.heap.size 33 3 v' (swL (rsA 9 g).1).length (scells (swL (rsA 9 g).1)) ∧ w.grownBy w' (some b) := by
  have hbl := hA.lt
  have HP := Lib.hid (fun k hk => rsA_prm hg k hk)
  have HLE := Lib.hid (fun k hk => rsA_le hg k hk)
  refine (callsIn_wide (n := 5)).1 ?_
  refine callsIn_of_wp_marks Try.func46 rfl trivial ?_ rfl
  simp only [Try.ntmps46, List.size_toArray, List.length_cons, List.length_nil, Nat.reduceAdd, Nat.reduceSub, Array.replicate_succ, Array.replicate_zero, List.push_toArray, List.append_toArray, List.nil_append, List.cons_append]
  gi_wp2
  obtain ⟨W0, hW0⟩ : ∃ W0 : World, W0 = (((w.alloc (.cells #[.pointer (some ⟨b, 0, none⟩)] 59)).alloc (.cells #[.slice none 0 0] 25)).alloc (.cells #[.func (.func 90) #[.pointer (some ⟨b, 0, none⟩)] #[]] 108)) := ⟨_, rfl⟩
  have hS0 : W0.heap.size = w.heap.size + 3 := by rw [hW0]; simp only [World.size_alloc]
  have hB0 : Below w.heap.size w W0 := by rw [hW0]; (repeat' (first | (with_reducible exact Below.refl _ _) | (with_reducible assumption) | (with_reducible refine Below.alloc ?_ ?_ _) | (with_reducible refine Below.drew ?_) | (with_reducible refine Below.setCell ?_ ?_ _) | (with_reducible exact Nat.le_refl _) | omega | ((repeat (first | rewrite [World.size_alloc] | rewrite [World.size_setCell] | rewrite [World.size_drew])); omega) | (simp; omega) | (simp; done)))
  have hI0 : SwW 59 25 108 106 33 (.func (.func 90) #[.pointer (some ⟨b, 0, none⟩)] #[]) w (W0.heap.size + 2) b W0 (rsA 0 g).1 (rsA 0 g).2 (.slice none 0 0) := by
    rw [hW0]
    refine ⟨((At.new _ _ _).alloc _).alloc _, ?_, ?_, ⟨rfl, .inl ⟨rfl, rfl⟩⟩, ((hA.alloc _).alloc _).alloc _, ?_⟩
    · have := (At.new (w.alloc (.cells #[.pointer (some ⟨b, 0, none⟩)] 59)) 25 #[.slice none 0 0]).alloc (.cells #[.func (.func 90) #[.pointer (some ⟨b, 0, none⟩)] #[]] 108)
      rwa [World.size_alloc] at this
    · have := At.new ((w.alloc (.cells #[.pointer (some ⟨b, 0, none⟩)] 59)).alloc (.cells #[.slice none 0 0] 25)) 108 #[.func (.func 90) #[.pointer (some ⟨b, 0, none⟩)] #[]]
      rwa [World.size_alloc, World.size_alloc] at this
    · rw [← hW0]; exact grown_below hB0 _
  rw [← hW0]
  clear hW0
  refine range_law (F := Fence.wide) (gf := 89) (lf := #[.int .i64 9]) (lb := #[]) rfl (by decide) rfl trivial (fun args w => rfl) (encs := fun p : Nat => #[.int .i64 p]) (xs := List.range 9)
    (below_iter _ _ trivial rfl (by decide)) (fun _ => rfl)
    (fun pre W => ∃ o, SwW 59 25 108 106 33 (.func (.func 90) #[.pointer (some ⟨b, 0, none⟩)] #[]) w (W0.heap.size + 2) b W (rsA pre.length g).1 (rsA pre.length g).2 o)
    (fun _ _ _ => False) ?_ (fun _ => ownFrom_pure _ _) ?_ (fun p => { tmps := #[.pointer (some ⟨b, 0, none⟩), .pointer (some ⟨w.heap.size, 0, none⟩), .slice none 0 0, .pointer (some ⟨w.heap.size + 1, 0, none⟩), .pointer (some ⟨w.heap.size + 1 + 1, 0, none⟩), .int .i64 p, undef, undef, .pointer (some ⟨b, 0, none⟩), .func (.func 90) #[.pointer (some ⟨b, 0, none⟩)] #[], .func (.func 89) #[.int .i64 9] #[], .int .i64 p, undef, undef, undef, undef, undef, undef, undef, undef, undef, undef, undef, undef, undef, undef, undef, undef, undef, undef, undef], defers := [] }) ?_ ?_ ?_ ?_
  · rintro s A A' row ⟨o, h⟩ hg hr
    exact ⟨o, h.turn hg (fun r e => ⟨by have := (hr r e).1; omega, (hr r e).2⟩)⟩
  · exact ⟨_, hI0⟩
  · intro l p W Kc hK
    gi_wp2
    exact hK
  · clear hI0
    rintro l pre p W ⟨o, hI⟩ hp hsz
    obtain ⟨hl, hp9⟩ := pre_len pre p hp
    rw [hl] at hI
    have HL : Hid ((pre ++ [p]).length = p + 1) := by show _ = _; simp [hl]
    have hP := HP.out p (by omega)
    have HT1 : Hid ((rsA p g).1 ++ (rsW 9 (rsA p g).2 p).1 = (rsA (p + 1) g).1) := rfl
    have HT2 : Hid ((rsW 9 (rsA p g).2 p).2 = (rsA (p + 1) g).2) := rfl
    have HLN := Lib.hid (HLE.out (p + 1) (by omega))
    obtain ⟨tot, htot0⟩ : ∃ tot, tot = (rsA (p + 1) g).1 := ⟨_, rfl⟩
    obtain ⟨ge, hge0⟩ : ∃ ge, ge = (rsA (p + 1) g).2 := ⟨_, rfl⟩
    have HA1 : Hid ((rsA (p + 1) g).1 = tot) := htot0.symm
    have HA2 : Hid ((rsA (p + 1) g).2 = ge) := hge0.symm
    rw [← htot0] at HT1 HLN
    rw [← hge0] at HT2
    clear htot0 hge0
    generalize (rsA p g).1 = ps0 at *
    generalize (rsA p g).2 = g0 at *
    have hII := hI
    obtain ⟨h1, h2, h3, h4, h5, h6⟩ := hI
    have c1 : W.cell? ⟨w.heap.size, 0, none⟩ = some (.pointer (some ⟨b, 0, none⟩)) := h1.cell 0
    have hbl1 := h1.lt
    have HH := Lib.hid (holder_c g0 hP b p hp9 W h5)
    clear h1 h2 h3 h4 h5 h6
    gi_wp2_with fail
    refine ⟨trivial, ?_⟩
    refine CallsIn.inRound l (callsIn_wide.2 (HH.out.mono ?_))
    rintro e wq ⟨rfl, rfl⟩
    gi_wp2

    gi_loopw [6, 7] (fun pv nv wr => ∃ k, RsR 59 25 108 106 33 (.func (.func 90) #[.pointer (some ⟨b, 0, none⟩)] #[]) w (W0.heap.size + 2) b W tot ge k pv nv wr)
      (fun pv nv wr => PW.least (fun k => RsR 59 25 108 106 33 (.func (.func 90) #[.pointer (some ⟨b, 0, none⟩)] #[]) w (W0.heap.size + 2) b W tot ge k pv nv wr))
    case atStart => exact ⟨9, p, ps0, g0, o, rfl, rfl, hp9, hP, muG_le g0, HT1.out, HT2.out, hII, KeepsOthers.refl W⟩
    case round =>
      obtain ⟨hru, _⟩ := PW.least_spec hrel
      generalize hkk : PW.least (fun k => RsR 59 25 108 106 33 (.func (.func 90) #[.pointer (some ⟨b, 0, none⟩)] #[]) w (W0.heap.size + 2) b W tot ge k u6 u7 wr) = kk at *
      have HKK := Lib.hid hkk
      clear hrel hkk
      obtain ⟨q, ps, g1, o1, rfl, rfl, hq9, hP1, hmu, htot, hge, hS, hKO⟩ := hru
      have hh := hP1.hold hq9
      by_cases hst : hold g1 q = q
      · rw [rsW_stop _ hst] at htot hge
        have htot' : ps = tot := by simpa using htot
        have hge' : g1 = ge := hge
        have FIN : Hid (∃ o, SwW 59 25 108 106 33 (.func (.func 90) #[.pointer (some ⟨b, 0, none⟩)] #[]) w (W0.heap.size + 2) b wr tot ge o) := ⟨o1, by rw [← htot', ← hge']; exact hS⟩
        have t1 : (((hold g1 q : Nat) : Int) != ((q : Nat) : Int)) = false := by rw [hst]; simp
        clear htot hge htot' hge' hS hst
        generalize hold g1 q = n1 at *
        gi_wp2
        refine ⟨hKO.from _, KeepsIn.zero hKO.size, ?_⟩
        have FIN2 := FIN.out
        rw [← HA1.out, ← HA2.out, ← HL.out] at FIN2
        exact FIN2
      · obtain ⟨k, rfl⟩ : ∃ k', kk = k' + 1 := ⟨kk - 1, by have := muG_step hP1 hq9 hst; omega⟩
        rw [rsW_go _ hst] at htot hge
        have hmu2 := muG_step hP1 hq9 hst
        have hpl : ps.length ≤ 9 := by
          have h1 := congrArg List.length htot
          rw [List.length_append] at h1
          have := HLN.out; omega
        have hP2 := hP1.swp hq9 hh.1
        have hSS := hS
        obtain ⟨h1, h2, h3, h4, h5, h6⟩ := hS
        have t1 : (((hold g1 q : Nat) : Int) != ((q : Nat) : Int)) = true := by rw [bne_iff_ne]; omega
        have hst' : q ≠ hold g1 q := fun e => hst e.symm
        have HSWAP := Lib.hid (swap_c g1 b q (hold g1 q) hq9 hh.1 hst' wr.drew h5)
        have c2 : wr.drew.cell? ⟨w.heap.size + 1, 0, none⟩ = some o1 := h2.cell 0
        have c3 : wr.drew.cell? ⟨w.heap.size + 1 + 1, 0, none⟩ = some (.func (.func 90) #[.pointer (some ⟨b, 0, none⟩)] #[]) := h3.cell 0
        have hz6 := h6.size
        have l2 := h2.lt
        have l3 := h3.lt
        have HNX : Hid (∀ A o, SwW 59 25 108 106 33 (.func (.func 90) #[.pointer (some ⟨b, 0, none⟩)] #[]) w (W0.heap.size + 2) b A (ps ++ [(q, hold g1 q)]) (swp g1 q (hold g1 q)) o → KeepsOthers W A → RsR 59 25 108 106 33 (.func (.func 90) #[.pointer (some ⟨b, 0, none⟩)] #[]) w (W0.heap.size + 2) b W tot ge k (.int .i64 (hold g1 q : Nat)) (.int .i64 (hold (swp g1 q (hold g1 q)) (hold g1 q) : Nat)) A) := fun A o hA hK =>
          ⟨hold g1 q, _, _, o, rfl, rfl, hh.1, hP2, by omega, by rw [← htot]; simp, hge, hA, hK⟩
        have hn9 := hh.1
        have HP2 := Lib.hid hP2
        clear htot hge hst hst' h1 h2 h3 h5 hh hP1 hP2 hmu2 hmu
        generalize swp g1 q (hold g1 q) = g2 at *
        generalize hold g1 q = n1 at *
        gi_wp2
        refine region_late2_inRound (F := Fence.wide) (C := fun w' => w' = wr.drew) (D := fun w' => w'.cell? ⟨w.heap.size + 1, 0, none⟩ = some o1) 4 2 rfl (by kernel_rfl) (by kernel_rfl) (by kernel_rfl) _ (by rfl) (by simp) o1 (fun _ _ _ h => h) (yieldsD_load (by rfl) _ _ (by rfl) _ Try.underlying25 _ (by rfl) o1) (fun w' hw => by subst hw; exact c2) rfl ?_
        simp only [List.take_succ_cons, List.take_zero, List.drop_succ_cons, List.drop_zero, Nat.reduceSub, Nat.reduceAdd]
        simp only [Act.put, List.setIfInBounds_toArray, List.set_cons_succ, List.set_cons_zero]
        gi_big_quiet_step (fail)
        gi_big_quiet_step (fail)
        gi_big_quiet_step (fail)
        refine wpQuietIn_nil ?_
        intro w' hw'
        subst hw'
        refine ⟨c2, op_k (fun K hK => ?_)⟩
        go_simp
        refine ⟨trivial, callsIn_wide.2 (HSWAP.out.mono ?_)⟩
        rintro e w3 ⟨rfl, hA3, hg3⟩
        refine hK _ _ ?_
        clear hK K
        have d2 : w3.cell? ⟨w.heap.size + 1, 0, none⟩ = some o1 := hg3.cell c2 (by show some (w.heap.size + 1) ≠ some b; intro e; cases e; omega)
        have hz3 := hg3.size
        refine ⟨d2, ?_⟩
        refine sliceIn_st (.tmp 26) rfl 1 (nm q) (nm n1) (by rfl) ?_
        have hal : Below w3.heap.size w3 (w3.alloc (.cells #[.int .i64 1, .string (nm q), .string (nm n1)] 33)) := (Below.refl _ _).alloc (Nat.le_refl _) _
        have l2d : w.heap.size + 1 < w3.heap.size := by have : wr.drew.heap.size = wr.heap.size := rfl; omega
        refine ⟨(hal.cell (p := ⟨w.heap.size + 1, 0, none⟩) l2d).trans d2, ?_⟩
        have hbe := own_block_ge h4
        have h4d : wr.drew.ownsRow (W0.heap.size + 2) 33 3 o1 (swL ps).length (scells (swL ps)) := h4
        have h4a := own_keep (own_grown h4d hg3 (.inl fun e => by have := hbe b e; omega)) hal
        refine listIn_st rfl (.tmp 22) (.tmp 27) rfl (W0.heap.size + 2) o1 (swL ps) (1, nm q, nm n1) ⟨w3.heap.size, 0, none⟩ 1 (by rfl) (by rfl) h4a (three_new w3 _ _ _ _) (by rw [swL_len]; omega) (by have := hKO.size; have : wr.drew.heap.size = wr.heap.size := rfl; simp; omega) ?_
        intro o' W5 hown5 hgrow5
        have hown5' : W5.ownsRow (W0.heap.size + 2) 33 3 o' (swL (ps ++ [(q, n1)])).length (scells (swL (ps ++ [(q, n1)]))) := by rw [swL_app]; exact hown5
        obtain ⟨k2, hS5, hKO5⟩ := SwW.step (by decide) (by decide) (by decide) (by decide) hSS hbl (by omega) hA3 hg3 hown5' hgrow5
        have d3 := k2.cell 0
        have d4 := k2.frozen 0
        have l5 := k2.lt
        have hS5' := hS5
        obtain ⟨e1, e2, e3, e4, e5, e6⟩ := hS5'
        have e1' : At W5 w.heap.size 59 #[.pointer (some ⟨b, 0, none⟩)] := (heap_setCell_other W5 ⟨w.heap.size + 1, 0, none⟩ w.heap.size o' (by show w.heap.size ≠ w.heap.size + 1; omega)).symm.trans e1
        have f1 : W5.cell? ⟨w.heap.size, 0, none⟩ = some (.pointer (some ⟨b, 0, none⟩)) := e1'.cell 0
        have f1l := e1'.lt
        have hR := HNX.out _ _ hS5 (hKO.trans hKO5)
        have HHN := Lib.hid (holder_c g2 HP2.out b n1 hn9 _ e5)
        rw [show (swL ps ++ [((1, nm q, nm n1) : St)]).length = (swL ps).length + 1 by simp] at hown5
        obtain ⟨A5, cap5, rfl, _⟩ := Rd.of_own hown5
        clear e1' e1 e2 e3 e4 e5 e6 hS5 hKO5 hown5 hown5' hgrow5 h4d h4a hal d2 c2 c3 hA3 hg3 h4 h6 hSS HNX HSWAP hz3 k2
        gi_wp2_with fail
        refine ⟨trivial, ?_⟩
        refine CallsIn.inRound l (callsIn_wide.2 (HHN.out.mono ?_))
        rintro e wq ⟨rfl, rfl⟩
        gi_wp2
        go_roundw
        case rel => exact ⟨k, hR⟩
        case measure =>
          rw [HKK.out]
          have := (PW.least_spec (P := fun k => RsR 59 25 108 106 33 (.func (.func 90) #[.pointer (some ⟨b, 0, none⟩)] #[]) w (W0.heap.size + 2) b W tot ge k _ _ _) ⟨k, hR⟩).2 _ hR
          omega
  · intro D W hD hI hd
    obtain ⟨o, h1, h2, h3, h4, h5, h6⟩ := hI
    have c3 : W.cell? ⟨w.heap.size + 1, 0, none⟩ = some o := h2.cell 0
    have hDD : w.heap.size + 3 ≤ D := by omega
    clear h1 h2 h3 h5 hI0
    gi_wp2
    refine ⟨by simp, .inl ⟨D, _, rfl, run_takeDeferred hd, ?_⟩⟩
    refine ⟨_, results_tmp rfl _ _ _, _, rfl, own_more (row_turn h4 (grownBy_putObj' W D _) (fun r e => by cases e; exact ⟨_, hd, rfl⟩)) (by omega), ?_⟩
    refine ⟨h6.os, h6.tape, h6.output, by simp [World.putObj]; exact h6.size, fun i hi hne => ?_⟩
    rw [World.putObj_heap_other (by omega)]
    exact h6.block i hi hne
  · intro _ _ _ _ _ _ hf
    exact hf.elim
end Go.Proofs.Yteadhnpmmpninaa
namespace Go.PS
open Go.PM Go.RowKit
theorem SwW.drew {t1 t2 t3 t4 e : TypeId} {fv : Value} {w : World} {B b : Nat} {A : World} {ps : List (Nat × Nat)} {g : Nat → Nat} {o : Value} (h : SwW t1 t2 t3 t4 e fv w B b A ps g o) : SwW t1 t2 t3 t4 e fv w B b A.drew ps g o :=
  ⟨h.1, h.2.1, h.2.2.1, h.2.2.2.1, h.2.2.2.2.1, ⟨h.2.2.2.2.2.os, h.2.2.2.2.2.tape, h.2.2.2.2.2.output, h.2.2.2.2.2.size, h.2.2.2.2.2.block⟩⟩
end Go.PS
namespace Go.Proofs.Yteadhnpmmpninaa
open Go.RowKit Go.PM Go.PS Go.Lib
attribute [local go_sem] Oper.semAt_some

set_option maxRecDepth 100000 in
set_option maxHeartbeats 4000000 in
theorem pass_c (g : Nat → Nat) (hg : Prm g) (b : Nat) (w : World) (hA : At w b 106 (gC g)) :
    Calls Try.prog 94 #[.pointer (some ⟨b, 0, none⟩)] w fun e w' => ∃ v', e = .returned v' ∧ w'.ownsRow w.heap.size 33 3 v' (swL (pas 8 g).1).length (scells (swL (pas 8 g).1)) ∧ At w' b 106 (gC (pas 8 g).2) ∧ w.grownBy w' (some b) := by
  have hbl := hA.lt
  have HP := Lib.hid (fun k hk => (pas_facts hg k hk).1)
  have HLE := Lib.hid (fun k hk => (pas_facts hg k hk).2.2.2.2)
  refine (callsIn_wide (n := 5)).1 ?_
  refine callsIn_of_wp_marks Try.func94 rfl trivial ?_ rfl
  simp only [Try.ntmps94, List.size_toArray, List.length_cons, List.length_nil, Nat.reduceAdd, Nat.reduceSub, Array.replicate_succ, Array.replicate_zero, List.push_toArray, List.append_toArray, List.nil_append, List.cons_append]
  gi_wp2
  obtain ⟨W0, hW0⟩ : ∃ W0 : World, W0 = (((w.alloc (.cells #[.pointer (some ⟨b, 0, none⟩)] 59)).alloc (.cells #[.slice none 0 0] 25)).alloc (.cells #[.func (.func 90) #[.pointer (some ⟨b, 0, none⟩)] #[]] 108)) := ⟨_, rfl⟩
  have hS0 : W0.heap.size = w.heap.size + 3 := by rw [hW0]; simp only [World.size_alloc]
  have hB0 : Below w.heap.size w W0 := by rw [hW0]; (repeat' (first | (with_reducible exact Below.refl _ _) | (with_reducible assumption) | (with_reducible refine Below.alloc ?_ ?_ _) | (with_reducible refine Below.drew ?_) | (with_reducible refine Below.setCell ?_ ?_ _) | (with_reducible exact Nat.le_refl _) | omega | ((repeat (first | rewrite [World.size_alloc] | rewrite [World.size_setCell] | rewrite [World.size_drew])); omega) | (simp; omega) | (simp; done)))
  have hI0 : SwW 59 25 108 106 33 (.func (.func 90) #[.pointer (some ⟨b, 0, none⟩)] #[]) w (W0.heap.size + 2) b W0 (pas 0 g).1 (pas 0 g).2 (.slice none 0 0) := by
    rw [hW0]
    refine ⟨((At.new _ _ _).alloc _).alloc _, ?_, ?_, ⟨rfl, .inl ⟨rfl, rfl⟩⟩, ((hA.alloc _).alloc _).alloc _, ?_⟩
    · have := (At.new (w.alloc (.cells #[.pointer (some ⟨b, 0, none⟩)] 59)) 25 #[.slice none 0 0]).alloc (.cells #[.func (.func 90) #[.pointer (some ⟨b, 0, none⟩)] #[]] 108)
      rwa [World.size_alloc] at this
    · have := At.new ((w.alloc (.cells #[.pointer (some ⟨b, 0, none⟩)] 59)).alloc (.cells #[.slice none 0 0] 25)) 108 #[.func (.func 90) #[.pointer (some ⟨b, 0, none⟩)] #[]]
      rwa [World.size_alloc, World.size_alloc] at this
    · rw [← hW0]; exact grown_below hB0 _
  rw [← hW0]
  clear hW0
  refine range_law (F := Fence.wide) (gf := 89) (lf := #[.int .i64 8]) (lb := #[]) rfl (by decide) rfl trivial (fun args w => rfl) (encs := fun p : Nat => #[.int .i64 p]) (xs := List.range 8)
    (below_iterN 8 (by decide) _ _ trivial rfl (by decide)) (fun _ => rfl)
    (fun pre W => ∃ o, SwW 59 25 108 106 33 (.func (.func 90) #[.pointer (some ⟨b, 0, none⟩)] #[]) w (W0.heap.size + 2) b W (pas pre.length g).1 (pas pre.length g).2 o)
    (fun _ _ _ => False) ?_ (fun _ => ownFrom_pure _ _) ?_ (fun p => { tmps := #[.pointer (some ⟨b, 0, none⟩), .pointer (some ⟨w.heap.size, 0, none⟩), .slice none 0 0, .pointer (some ⟨w.heap.size + 1, 0, none⟩), .pointer (some ⟨w.heap.size + 1 + 1, 0, none⟩), .int .i64 p, .pointer (some ⟨b, 0, none⟩), .func (.func 90) #[.pointer (some ⟨b, 0, none⟩)] #[], .func (.func 89) #[.int .i64 8] #[], .int .i64 p, undef, undef, undef, undef, undef, undef, undef, undef, undef, undef, undef, undef], defers := [] }) ?_ ?_ ?_ ?_
  · rintro s A A' row ⟨o, h⟩ hg hr
    exact ⟨o, h.turn hg (fun r e => ⟨by have := (hr r e).1; omega, (hr r e).2⟩)⟩
  · exact ⟨_, hI0⟩
  · intro l p W Kc hK
    gi_wp2
    exact hK
  · clear hI0
    rintro l pre p W ⟨o, hI⟩ hp hsz
    have hpx : p < 8 ∧ pre.length = p := by
      obtain ⟨t, ht⟩ := hp
      have h1 := congrArg List.length ht
      simp at h1
      have h2 : (List.range 8)[pre.length]? = some p := by rw [← ht]; simp
      have h3 : pre.length < 8 := by omega
      rw [List.getElem?_range h3] at h2
      have := Option.some.inj h2
      omega
    obtain ⟨hp8, hl⟩ := hpx
    rw [hl] at hI
    have HL : Hid ((pre ++ [p]).length = p + 1) := by show _ = _; simp [hl]
    have hPy := Lib.hid (pas_yes (k := p) (g := g))
    have hPn := Lib.hid (pas_no (k := p) (g := g))
    have HLN := HLE.out p (by omega)
    obtain ⟨nx, hnx⟩ : ∃ nx, nx = pas (p + 1) g := ⟨_, rfl⟩
    have HA1 : Hid (pas (p + 1) g = nx) := hnx.symm
    rw [← hnx] at hPy hPn
    clear hnx
    generalize hps0 : (pas p g).1 = ps0 at *
    generalize hg00 : (pas p g).2 = g0 at *
    have hII := hI
    obtain ⟨h1, h2, h3, h4, h5, h6⟩ := hI
    have c1 : W.cell? ⟨w.heap.size, 0, none⟩ = some (.pointer (some ⟨b, 0, none⟩)) := h1.cell 0
    have hbl1 := h1.lt
    have HH := Lib.hid (descends_c g0 b p hp8 W h5)
    have hdd : dsc g0 p = decide (g0 (p + 1) < g0 p) := rfl
    by_cases hd : g0 (p + 1) < g0 p
    · have hdt : dsc g0 p = true := by rw [hdd]; simpa using hd
      rw [hdt] at HH
      have hnxe := hPy.out hd
      have hSS := hII.drew
      have HSWAP := Lib.hid (swap_c g0 b p (p + 1) (by omega) (by omega) (by omega) W.drew.drew h5)
      have c2 : W.drew.drew.cell? ⟨w.heap.size + 1, 0, none⟩ = some o := h2.cell 0
      have c3 : W.drew.drew.cell? ⟨w.heap.size + 1 + 1, 0, none⟩ = some (.func (.func 90) #[.pointer (some ⟨b, 0, none⟩)] #[]) := h3.cell 0
      have hz6 := h6.size
      have l2 := h2.lt
      have l3 := h3.lt
      have HN1 : Hid (nx.1 = ps0 ++ [(p, p + 1)]) := by show _ = _; rw [hnxe]
      have HN2 : Hid (nx.2 = swp g0 p (p + 1)) := by show _ = _; rw [hnxe]
      have i4 : IntKind.i64.wrap ((p : Int) + 1) = ((p + 1 : Nat) : Int) := by rw [IntWalk.i64_in _ ⟨by omega, by omega⟩]; omega
      clear hnxe hdt hdd hd h1 h2 h3 h5 hPy hPn hps0 hg00
      generalize hn1 : p + 1 = n1 at *
      have HNN := Lib.hid hn1
      clear hn1
      generalize swp g0 p n1 = g2 at *
      gi_wp2_with fail
      refine ⟨trivial, ?_⟩
      refine CallsIn.inRound l (callsIn_wide.2 (HH.out.mono ?_))
      rintro e wq ⟨rfl, rfl⟩
      gi_wp2
      refine region_late2_inRound (F := Fence.wide) (C := fun w' => w' = W.drew.drew) (D := fun w' => w'.cell? ⟨w.heap.size + 1, 0, none⟩ = some o) 5 2 rfl (by kernel_rfl) (by kernel_rfl) (by kernel_rfl) _ (by rfl) (by simp) o (fun _ _ _ h => h) (yieldsD_load (by rfl) _ _ (by rfl) _ Try.underlying25 _ (by rfl) o) (fun w' hw => by subst hw; exact c2) rfl ?_
      simp only [List.take_succ_cons, List.take_zero, List.drop_succ_cons, List.drop_zero, Nat.reduceSub, Nat.reduceAdd]
      simp only [Act.put, List.setIfInBounds_toArray, List.set_cons_succ, List.set_cons_zero]
      gi_big_quiet_step (fail)
      gi_big_quiet_step (fail)
      gi_big_quiet_step (fail)
      gi_big_quiet_step (fail)
      refine wpQuietIn_nil ?_
      intro w' hw'
      subst hw'
      refine ⟨c2, op_k (fun K hK => ?_)⟩
      go_simp
      refine ⟨trivial, callsIn_wide.2 (HSWAP.out.mono ?_)⟩
      rintro e w3 ⟨rfl, hA3, hg3⟩
      refine hK _ _ ?_
      clear hK K
      have d2 : w3.cell? ⟨w.heap.size + 1, 0, none⟩ = some o := hg3.cell c2 (by show some (w.heap.size + 1) ≠ some b; intro e; cases e; omega)
      have hz3 := hg3.size
      refine ⟨d2, ?_⟩
      refine sliceIn_st (.tmp 18) rfl 1 (nm p) (nm n1) (by rfl) ?_
      have hal : Below w3.heap.size w3 (w3.alloc (.cells #[.int .i64 1, .string (nm p), .string (nm n1)] 33)) := (Below.refl _ _).alloc (Nat.le_refl _) _
      have hzd : W.drew.drew.heap.size = W.heap.size := rfl
      have l2d : w.heap.size + 1 < w3.heap.size := by omega
      refine ⟨(hal.cell (p := ⟨w.heap.size + 1, 0, none⟩) l2d).trans d2, ?_⟩
      have hbe := own_block_ge h4
      have h4d : W.drew.drew.ownsRow (W0.heap.size + 2) 33 3 o (swL ps0).length (scells (swL ps0)) := h4
      have h4a := own_keep (own_grown h4d hg3 (.inl fun e => by have := hbe b e; omega)) hal
      refine listIn_st rfl (.tmp 13) (.tmp 19) rfl (W0.heap.size + 2) o (swL ps0) (1, nm p, nm n1) ⟨w3.heap.size, 0, none⟩ 1 (by rfl) (by rfl) h4a (three_new w3 _ _ _ _) (by rw [swL_len]; omega) (by simp; omega) ?_
      intro o' W5 hown5 hgrow5
      have hown5' : W5.ownsRow (W0.heap.size + 2) 33 3 o' (swL (ps0 ++ [(p, n1)])).length (scells (swL (ps0 ++ [(p, n1)]))) := by rw [swL_app]; exact hown5
      obtain ⟨k2, hS5, hKO5⟩ := SwW.step (by decide) (by decide) (by decide) (by decide) hSS hbl (by omega) hA3 hg3 hown5' hgrow5
      have d3 := k2.cell 0
      have d4 := k2.frozen 0
      have l5 := k2.lt
      have hKF := ((KeepsOthers.drew W).trans hKO5)
      have FIN : Hid (∃ o, SwW 59 25 108 106 33 (.func (.func 90) #[.pointer (some ⟨b, 0, none⟩)] #[]) w (W0.heap.size + 2) b (W5.setCell ⟨w.heap.size + 1, 0, none⟩ o') (pas (pre ++ [p]).length g).1 (pas (pre ++ [p]).length g).2 o) := by
        show ∃ o, _
        rw [HL.out, HA1.out, HN1.out, HN2.out]
        exact ⟨_, hS5⟩
      rw [show (swL ps0 ++ [((1, nm p, nm n1) : St)]).length = (swL ps0).length + 1 by simp] at hown5
      obtain ⟨A5, cap5, rfl, _⟩ := Rd.of_own hown5
      clear hS5 hKO5 hown5 hown5' hgrow5 h4d h4a hal d2 c2 c3 hA3 hg3 h4 h6 hSS HSWAP hz3 k2 hII
      gi_wp2
      exact ⟨hKF.from _, KeepsIn.zero hKF.size, FIN.out⟩
    · have hdt : dsc g0 p = false := by rw [hdd]; simpa using hd
      rw [hdt] at HH
      have hnxe := hPn.out hd
      have hSS := hII.drew
      have FIN : Hid (∃ o, SwW 59 25 108 106 33 (.func (.func 90) #[.pointer (some ⟨b, 0, none⟩)] #[]) w (W0.heap.size + 2) b W.drew (pas (pre ++ [p]).length g).1 (pas (pre ++ [p]).length g).2 o) := by
        show ∃ o, _
        rw [HL.out, HA1.out, hnxe, hps0, hg00]
        exact ⟨_, hSS⟩
      clear hnxe hdt hdd hd h1 h2 h3 h4 h5 h6 hSS hII
      gi_wp2_with fail
      refine ⟨trivial, ?_⟩
      refine CallsIn.inRound l (callsIn_wide.2 (HH.out.mono ?_))
      rintro e wq ⟨rfl, rfl⟩
      gi_wp2
      exact ⟨(KeepsOthers.drew W).from _, KeepsIn.zero (Nat.le_refl _), FIN.out⟩
  · intro D W hD hI hd
    obtain ⟨o, h1, h2, h3, h4, h5, h6⟩ := hI
    have c3 : W.cell? ⟨w.heap.size + 1, 0, none⟩ = some o := h2.cell 0
    have hDD : w.heap.size + 3 ≤ D := by omega
    clear h1 h2 h3 hI0
    gi_wp2
    refine ⟨by simp, .inl ⟨D, _, rfl, run_takeDeferred hd, ?_⟩⟩
    refine ⟨_, results_tmp rfl _ _ _, _, rfl, own_more (row_turn h4 (grownBy_putObj' W D _) (fun r e => by cases e; exact ⟨_, hd, rfl⟩)) (by omega), (World.putObj_heap_other (by omega)).trans h5, ?_⟩
    refine ⟨h6.os, h6.tape, h6.output, by simp [World.putObj]; exact h6.size, fun i hi hne => ?_⟩
    rw [World.putObj_heap_other (by omega)]
    exact h6.block i hi hne
  · intro _ _ _ _ _ _ hf
    exact hf.elim
end Go.Proofs.Yteadhnpmmpninaa
namespace Go.PM
section
variable {F : Fence} {n : Nat} {P : Program} {b : Frame} {a : Act} {k : List Item} {cs : List Frame} {w : World} {Q : Exit → Act → World → Prop}
theorem stepR_scope {c : Code} : step P (lone (b.atR a (.code (.scope c) :: k)) cs w) = .next (lone (b.atR a (.code c :: .inScope c :: k)) cs w) :=
  step_lone_go (by simp [stepG, stepG.exec, Frame.atR])
theorem stepR_inScope {c : Code} : step P (lone (b.atR a (.inScope c :: k)) cs w) = .next (lone (b.atR a k) cs w) :=
  step_lone_go (by simp [stepG, stepG.exec, Frame.atR])
/-- a scope through which the run goes without a goto, inside a fence -/
theorem wpIn_scope {c : Code} (h : c.wpIn F n P (Exit.noGoto Q) a w) : (Code.scope c).wpIn F n P Q a w := by
  intro b k cs hro hb hr
  have h0 : (lone (b.atR a (.code (.scope c) :: k)) cs w).fenced P F := fenced_calm hb hr rfl
  obtain ⟨e, a₁, w₁, hq, harr⟩ := h b (.inScope c :: k) cs hro hb hr
  cases e with
  | normal => exact ⟨.normal, a₁, w₁, hq, .head h0 stepR_scope (StepsIn.trans harr (.one (fenced_calm hb hr rfl) stepR_inScope))⟩
  | exit id' =>
    have hx : exitTo id' (.inScope c :: k) = exitTo id' k := by simp [exitTo]
    exact ⟨.exit id', a₁, w₁, hq, fun k' hk => .head h0 stepR_scope (harr.1 k' (by rw [hx]; exact hk)),
      fun hr' hk => let ⟨k₁, h1, h2⟩ := harr.2 hr' (by rw [hx]; exact hk); ⟨k₁, h1, .head h0 stepR_scope h2⟩⟩
  | goto l => exact hq.elim
  | ret => exact ⟨_, a₁, w₁, hq, .of_steps (.one h0 stepR_scope) harr⟩
  | panic ch => exact ⟨_, a₁, w₁, hq, .of_steps (.one h0 stepR_scope) harr⟩
  | outgrown => exact ⟨_, a₁, w₁, hq, .of_steps (.one h0 stepR_scope) harr⟩
end
end Go.PM
namespace Go.PS
open Go.PM Go.RowKit
/-- what going through neighbours holds -/
def NbW (t1 t2 t4 e : TypeId) (w : World) (B b : Nat) (A : World) (ps : List (Nat × Nat)) (g : Nat → Nat) (o : Value) : Prop :=
  At A w.heap.size t1 #[.pointer (some ⟨b, 0, none⟩)] ∧ At A (w.heap.size + 1) t2 #[o] ∧ A.ownsRow B e 3 o (swL ps).length (scells (swL ps)) ∧ At A b t4 (gC g) ∧ w.grownBy A (some b)
theorem NbW.turn {t1 t2 t4 e : TypeId} {w : World} {B b : Nat} {A A' : World} {ps : List (Nat × Nat)} {g : Nat → Nat} {o : Value} {row : Option Nat} (h : NbW t1 t2 t4 e w B b A ps g o) (hg : A.grownBy A' row) (hr : ∀ r, row = some r → w.heap.size ≤ r ∧ ∃ ob : Obj, A.heap[r]? = some ob ∧ ob.isCells = false) : NbW t1 t2 t4 e w B b A' ps g o := by
  obtain ⟨h1, h2, h4, h5, h6⟩ := h
  refine ⟨at_turn h1 hg (fun r e => (hr r e).2), at_turn h2 hg (fun r e => (hr r e).2), row_turn h4 hg (fun r e => (hr r e).2), at_turn h5 hg (fun r e => (hr r e).2), ?_⟩
  refine ⟨hg.os.trans h6.os, hg.tape.trans h6.tape, hg.output.trans h6.output, Nat.le_trans h6.size hg.size, fun i hi hne => ?_⟩
  rw [hg.block i (by have := h6.size; omega) (fun e => by have := (hr i e.symm).1; omega)]
  exact h6.block i hi hne
theorem NbW.drew {t1 t2 t4 e : TypeId} {w : World} {B b : Nat} {A : World} {ps : List (Nat × Nat)} {g : Nat → Nat} {o : Value} (h : NbW t1 t2 t4 e w B b A ps g o) : NbW t1 t2 t4 e w B b A.drew ps g o :=
  ⟨h.1, h.2.1, h.2.2.1, h.2.2.2.1, ⟨h.2.2.2.2.os, h.2.2.2.2.tape, h.2.2.2.2.output, h.2.2.2.2.size, h.2.2.2.2.block⟩⟩
theorem NbW.step {t1 t2 t4 e : TypeId} (he1 : e ≠ t1) (he2 : e ≠ t2) (he4 : e ≠ t4) {w : World} {B b : Nat} {A A3 W5 : World} {ps qs : List (Nat × Nat)} {g g2 : Nat → Nat} {o o' : Value}
    (h : NbW t1 t2 t4 e w B b A ps g o) (hb : b < w.heap.size) (hB : w.heap.size ≤ B) (hs0 : w.heap.size + 2 ≤ A.heap.size) (hA3 : At A3 b t4 (gC g2)) (hg3 : A.drew.grownBy A3 (some b))
    (hown5 : W5.ownsRow B e 3 o' (swL (ps ++ qs)).length (scells (swL (ps ++ qs)))) (hgrow5 : A3.grownBy W5 o.ownBlock) :
    At W5 (w.heap.size + 1) t2 #[o] ∧ NbW t1 t2 t4 e w B b (W5.setCell ⟨w.heap.size + 1, 0, none⟩ o') (ps ++ qs) g2 o' ∧ KeepsOthers A (W5.setCell ⟨w.heap.size + 1, 0, none⟩ o') := by
  obtain ⟨h1, h2, h4, h5, h6⟩ := h
  have hsz := h6.size
  have g1 : At A.drew w.heap.size t1 #[.pointer (some ⟨b, 0, none⟩)] := h1
  have g2' : At A.drew (w.heap.size + 1) t2 #[o] := h2
  have g4 : A.drew.ownsRow B e 3 o (swL ps).length (scells (swL ps)) := h4
  have k1 := at_grown' g1 hg3 (fun e => by cases e; omega)
  have k2 := at_grown' g2' hg3 (fun e => by cases e; omega)
  have hbe := own_block_ge h4
  have k4 := own_grown g4 hg3 (.inl fun e => by have := hbe b e; omega)
  have m1 := at_grown' k1 hgrow5 (box_apart k4 k1 he1)
  have m2 := at_grown' k2 hgrow5 (box_apart k4 k2 he2)
  have m5 := at_grown' hA3 hgrow5 (box_apart k4 hA3 he4)
  have hs5 := grownBy_setCell' W5 (w.heap.size + 1) o'
  have hne5 := box_apart hown5 m2 he2
  refine ⟨m2, ⟨at_grown' m1 hs5 (by simp), m2.set 0 _, hown5.kept hs5 (.inr hne5.symm), at_grown' m5 hs5 (fun e => by cases e; omega), ?_⟩, ?_⟩
  · have hz3 := hg3.size
    have hz5 := hgrow5.size
    have hzd : A.drew.heap.size = A.heap.size := rfl
    refine ⟨hs5.os.trans (hgrow5.os.trans (hg3.os.trans h6.os)), hs5.tape.trans (hgrow5.tape.trans (hg3.tape.trans h6.tape)), hs5.output.trans (hgrow5.output.trans (hg3.output.trans h6.output)), by have := hs5.size; omega, fun i hi hne => ?_⟩
    rw [hs5.block i (by omega) (fun e => by cases e; omega), hgrow5.block i (by omega) (fun e => by have := hbe i e.symm; omega), hg3.block i (by omega) hne]
    exact h6.block i hi hne
  · have q1 : KeepsOthers A A3 := (KeepsOthers.drew A).trans (KeepsOthers.of_grownBy hg3 (at_cells (w := A.drew) h5))
    exact (q1.trans (KeepsOthers.of_grownBy hgrow5 (own_cells k4))).trans (KeepsOthers.setCell _ _ _)
/-- the marks that loops over functions leave -/
def dfr (D : Nat) : Deferred := { target := .collected D, args := #[] }
def Marks (w : World) (ds : List Nat) (A : World) : Prop := ds.Nodup ∧ ∀ D ∈ ds, w.heap.size + 2 ≤ D ∧ A.heap[D]? = some (.deferred (some []))
theorem Marks.keep {w : World} {ds : List Nat} {A A' : World} (h : Marks w ds A) (hk : KeepsOthers A A') : Marks w ds A' :=
  ⟨h.1, fun D hD => ⟨(h.2 D hD).1, hk.same D _ (h.2 D hD).2 rfl⟩⟩
theorem Marks.turn {w : World} {ds : List Nat} {A A' : World} {row : Option Nat} {N : Nat} (h : Marks w ds A) (hlt : ∀ D ∈ ds, D < N) (hg : A.grownBy A' row) (hr : ∀ r, row = some r → N ≤ r) : Marks w ds A' :=
  ⟨h.1, fun D hD => ⟨(h.2 D hD).1, (hg.block D (Array.getElem?_eq_some_iff.1 (h.2 D hD).2).1 (fun e => by have := hr D e.symm; have := hlt D hD; omega)).trans (h.2 D hD).2⟩⟩
theorem Marks.lt {w : World} {ds : List Nat} {A : World} (h : Marks w ds A) : ∀ D ∈ ds, D < A.heap.size := fun D hD => (Array.getElem?_eq_some_iff.1 (h.2 D hD).2).1
theorem leaves_all {F : Fence} {n : Nat} {P : Program} {fn : Func} {tmps : Array Value} {R : Ending → World → Prop} : ∀ (ds : List Nat) (A : World), ds.Nodup → (∀ D ∈ ds, A.heap[D]? = some (.deferred (some []))) →
    (∀ A' : World, A'.os = A.os → A'.tape = A.tape → A'.output = A.output → A'.heap.size = A.heap.size → (∀ k, k ∉ ds → A'.heap[k]? = A.heap[k]?) → LeavesInM F n P fn tmps R [] .returning A') → LeavesInM F n P fn tmps R (ds.map dfr) .returning A
  | [], A, _, _, h => h A rfl rfl rfl rfl (fun _ _ => rfl)
  | D :: ds, A, hn, hD, h => by
    rw [List.nodup_cons] at hn
    refine ⟨by simp, .inl ⟨D, _, rfl, run_takeDeferred (hD D (by simp)), ?_⟩⟩
    refine leaves_all ds _ hn.2 (fun E hE => ?_) (fun A' h1 h2 h3 h4 h5 => h A' h1 h2 h3 (by rw [h4]; simp [World.putObj]) fun k hk => ?_)
    · rw [World.putObj_heap_other (fun e => hn.1 (by rw [← e]; exact hE))]
      exact hD E (by simp [hE])
    · rw [List.mem_cons] at hk
      rw [h5 k (fun hk2 => hk (.inr hk2)), World.putObj_heap_other (fun e => hk (.inl e))]
theorem own_same {w w' : World} {base : Nat} {e : TypeId} {size n : Nat} {v : Value} {cs : List Value} (h : w.ownsRow base e size v n cs) (hs : ∀ (k : Nat) (ob : Obj), w.heap[k]? = some ob → ob.isCells = true → w'.heap[k]? = some ob) : w'.ownsRow base e size v n cs := by
  refine ⟨h.1, ?_⟩
  rcases h.2 with h' | ⟨g, cap, cur, rfl, hbg, hg, hr⟩
  · exact .inl h'
  · exact .inr ⟨g, cap, cur, rfl, hbg, hs g _ hg rfl, hr⟩
/-- a round of going through neighbours: k swaps or fewer are left -/
def NbR (t1 t2 t4 e : TypeId) (w : World) (B b : Nat) (tot : List (Nat × Nat)) (k : Nat) (a : Act) (A : World) : Prop :=
  ∃ (ps : List (Nat × Nat)) (g : Nat → Nat) (o u : Value) (ds : List Nat), a = { tmps := #[.pointer (some ⟨b, 0, none⟩), .pointer (some ⟨w.heap.size, 0, none⟩), .slice none 0 0, .pointer (some ⟨w.heap.size + 1, 0, none⟩), undef, u, undef, undef, undef, undef, undef, undef, undef, undef, undef], defers := ds.map dfr } ∧
    ps ++ nbF k g = tot ∧ Prm g ∧ invG g ≤ k ∧ NbW t1 t2 t4 e w B b A ps g o ∧ Marks w ds A ∧ w.heap.size + 2 ≤ A.heap.size
end Go.PS
namespace Go.Proofs.Yteadhnpmmpninaa
open Go.RowKit Go.PM Go.PS Go.Lib
attribute [local go_sem] Oper.semAt_some

set_option maxRecDepth 100000 in
set_option maxHeartbeats 4000000 in
theorem neighbourSwaps_c (g : Nat → Nat) (hg : Prm g) (b : Nat) (w : World) (hA : At w b 106 (gC g)) :
    Calls Try.prog 49 #[.pointer (some ⟨b, 0, none⟩)] w fun e w' => ∃ v', e = .returned v' ∧ w'.ownsRow w.heap.size 33 3 v' (swL (nbF 36 g)).length (scells (swL (nbF 36 g))) ∧ w.grownBy w' (some b) := by
  have hbl := hA.lt
  have HLT := Lib.hid (show (nbF 36 g).length ≤ 36 by have := (nbF_facts 36 g hg (invG_le g)).1; have := invG_le g; omega)
  refine (callsIn_wide (n := 5)).1 ?_
  refine callsIn_of_wp_marks Try.func49 rfl trivial ?_ rfl
  simp only [Try.ntmps49, List.size_toArray, List.length_cons, List.length_nil, Nat.reduceAdd, Nat.reduceSub, Array.replicate_succ, Array.replicate_zero, List.push_toArray, List.append_toArray, List.nil_append, List.cons_append]
  gi_wp2
  refine wpIn_scope ?_
  gi_wp2
  have hI0 : NbR 59 25 106 33 w (w.heap.size + 2) b (nbF 36 g) 36 { tmps := #[.pointer (some ⟨b, 0, none⟩), .pointer (some ⟨w.heap.size, 0, none⟩), .slice none 0 0, .pointer (some ⟨w.heap.size + 1, 0, none⟩), undef, undef, undef, undef, undef, undef, undef, undef, undef, undef, undef], defers := [] } ((w.alloc (.cells #[.pointer (some ⟨b, 0, none⟩)] 59)).alloc (.cells #[.slice none 0 0] 25)) := by
    refine ⟨[], g, .slice none 0 0, undef, [], rfl, rfl, hg, invG_le g, ⟨(At.new _ _ _).alloc _, ?_, ⟨rfl, .inl ⟨rfl, rfl⟩⟩, (hA.alloc _).alloc _, ?_⟩, ⟨by simp, by simp⟩, by simp⟩
    · have := At.new (w.alloc (.cells #[.pointer (some ⟨b, 0, none⟩)] 59)) 25 #[.slice none 0 0]
      rwa [World.size_alloc] at this
    · exact grown_below (((Below.refl w.heap.size w).alloc (Nat.le_refl _) _).alloc (by simp) _) _
  obtain ⟨tot, htt⟩ : ∃ tot, tot = nbF 36 g := ⟨_, rfl⟩
  have HTT : Hid (nbF 36 g = tot) := htt.symm
  rw [← htt] at hI0 HLT
  clear hA hg htt
  refine wpIn_label ?_
  gi_wp2
  refine wpIn_loop (fun a A => ∃ k, NbR 59 25 106 33 w (w.heap.size + 2) b tot k a A) (fun a A => PW.least (fun k => NbR 59 25 106 33 w (w.heap.size + 2) b tot k a A)) ⟨36, hI0⟩ ?_
  clear hI0
  rintro a A hrel
  obtain ⟨hru, _⟩ := PW.least_spec hrel
  generalize hkk : PW.least (fun k => NbR 59 25 106 33 w (w.heap.size + 2) b tot k a A) = kk at *
  have HKK := Lib.hid hkk
  clear hrel hkk
  obtain ⟨ps, g1, o1, u1, ds, rfl, htot, hP1, hinv, hW, hM, hs2⟩ := hru
  gi_wp2
  have hps : ps.length ≤ 36 := by
    have h1 := congrArg List.length htot
    rw [List.length_append] at h1
    have := HLT.out; omega
  have hpl8 : (pas 8 g1).1.length ≤ 8 := (pas_facts hP1 8 (Nat.le_refl _)).2.2.2.2
  refine range_law (F := Fence.wide) (gf := 89) (lf := #[.int .i64 8]) (lb := #[]) rfl (by decide) rfl trivial (fun args w => rfl) (encs := fun p : Nat => #[.int .i64 p]) (xs := List.range 8)
    (below_iterN 8 (by decide) _ _ trivial rfl (by decide)) (fun _ => rfl)
    (fun pre W => NbW 59 25 106 33 w (w.heap.size + 2) b W ps g1 o1 ∧ upTo g1 pre.length ∧ Marks w ds W ∧ w.heap.size + 2 ≤ W.heap.size)
    (fun c pre W => c = .exit 1 ∧ (∃ p, p < 8 ∧ g1 (p + 1) < g1 p) ∧ (∃ o', NbW 59 25 106 33 w (w.heap.size + 2) b W (ps ++ (pas 8 g1).1) (pas 8 g1).2 o') ∧ Marks w ds W ∧ w.heap.size + 2 ≤ W.heap.size) ?_ ?_ ?_ (fun p => { tmps := #[.pointer (some ⟨b, 0, none⟩), .pointer (some ⟨w.heap.size, 0, none⟩), .slice none 0 0, .pointer (some ⟨w.heap.size + 1, 0, none⟩), .int .i64 p, .func (.func 89) #[.int .i64 8] #[], .int .i64 p, undef, undef, undef, undef, undef, undef, undef, undef], defers := [] }) ?_ ?_ ?_ ?_
  · rintro s A1 A2 row ⟨h1, h2, h3, h4⟩ hg hr
    exact ⟨h1.turn hg (fun r e => ⟨by have := (hr r e).1; omega, (hr r e).2⟩), h2, h3.turn hM.lt hg (fun r e => (hr r e).1), by have := hg.size; omega⟩
  · rintro c s A1 A2 row ⟨h0, hp, ⟨o', h1⟩, h3, h4⟩ hg hr
    exact ⟨h0, hp, ⟨o', h1.turn hg (fun r e => ⟨by have := (hr r e).1; omega, (hr r e).2⟩)⟩, h3.turn hM.lt hg (fun r e => (hr r e).1), by have := hg.size; omega⟩
  · exact ⟨hW, fun j hj => by simp at hj, hM, hs2⟩
  · intro l p W Kc hK
    gi_wp2
    exact hK
  · rintro l pre p W ⟨hI, hup, hMW, hsW⟩ hp hsz
    have hpx : p < 8 ∧ pre.length = p := by
      obtain ⟨t, ht⟩ := hp
      have h1 := congrArg List.length ht
      simp at h1
      have h2 : (List.range 8)[pre.length]? = some p := by rw [← ht]; simp
      have h3 : pre.length < 8 := by omega
      rw [List.getElem?_range h3] at h2
      have := Option.some.inj h2
      omega
    obtain ⟨hp8, hl⟩ := hpx
    have HL : Hid ((pre ++ [p]).length = p + 1) := by show _ = _; simp [hl]
    have hII := hI
    obtain ⟨h1, h2, h4, h5, h6⟩ := hI
    have c1 : W.cell? ⟨w.heap.size, 0, none⟩ = some (.pointer (some ⟨b, 0, none⟩)) := h1.cell 0
    have hbl1 := h1.lt
    have HH := Lib.hid (descends_c g1 b p hp8 W h5)
    have hdd : dsc g1 p = decide (g1 (p + 1) < g1 p) := rfl
    by_cases hd : g1 (p + 1) < g1 p
    · have hdt : dsc g1 p = true := by rw [hdd]; simpa using hd
      rw [hdt] at HH
      have hSS := hII.drew
      have HPASS := Lib.hid (pass_c g1 hP1 b W.drew.drew h5)
      have c2 : W.drew.drew.cell? ⟨w.heap.size + 1, 0, none⟩ = some o1 := h2.cell 0
      have c3 : W.drew.drew.cell? ⟨w.heap.size, 0, none⟩ = some (.pointer (some ⟨b, 0, none⟩)) := h1.cell 0
      have l2 := h2.lt
      have hdes : ∃ p, p < 8 ∧ g1 (p + 1) < g1 p := ⟨p, hp8, hd⟩
      have HDES := Lib.hid hdes
      clear hdes hdt hdd hd h1 h2 h5 hup
      gi_wp2_with fail
      refine ⟨trivial, ?_⟩
      refine CallsIn.inRound l (callsIn_wide.2 (HH.out.mono ?_))
      rintro e wq ⟨rfl, rfl⟩
      gi_wp2
      refine region_late2_inRound (F := Fence.wide) (C := fun w' => w' = W.drew.drew) (D := fun w' => w'.cell? ⟨w.heap.size + 1, 0, none⟩ = some o1) 2 1 rfl (by kernel_rfl) (by kernel_rfl) (by kernel_rfl) _ (by rfl) (by simp) o1 (fun _ _ _ h => h) (yieldsD_load (by rfl) _ _ (by rfl) _ Try.underlying25 _ (by rfl) o1) (fun w' hw => by subst hw; exact c2) rfl ?_
      simp only [List.take_succ_cons, List.take_zero, List.drop_succ_cons, List.drop_zero, Nat.reduceSub, Nat.reduceAdd]
      simp only [Act.put, List.setIfInBounds_toArray, List.set_cons_succ, List.set_cons_zero]
      gi_big_quiet_step (fail)
      refine wpQuietIn_nil ?_
      intro w' hw'
      subst hw'
      refine ⟨c2, op_k (fun K hK => ?_)⟩
      go_simp
      refine ⟨trivial, callsIn_wide.2 (HPASS.out.mono ?_)⟩
      rintro e w3 ⟨v3, rfl, hown3, hA3, hg3⟩
      refine hK _ _ ?_
      clear hK K
      have d2 : w3.cell? ⟨w.heap.size + 1, 0, none⟩ = some o1 := hg3.cell c2 (by show some (w.heap.size + 1) ≠ some b; intro e; cases e; omega)
      have hz3 := hg3.size
      refine ⟨d2, ?_⟩
      have hzd : W.drew.drew.heap.size = W.heap.size := rfl
      have l2d : w.heap.size + 1 < w3.heap.size := by omega
      have hbe := own_block_ge h4
      have h4d : W.drew.drew.ownsRow (w.heap.size + 2) 33 3 o1 (swL ps).length (scells (swL ps)) := h4
      have h4a := own_grown h4d hg3 (.inl fun e => by have := hbe b e; omega)
      refine listIn_rows rfl (.tmp 10) (.tmp 12) rfl (w.heap.size + 2) W.drew.drew.heap.size o1 v3 (swL ps) (swL (pas 8 g1).1) (by rfl) (by rfl) h4a hown3 (by rw [swL_len, swL_len]; omega) (by omega) ?_
      intro o' W5 hown5 hgrow5
      have hown5' : W5.ownsRow (w.heap.size + 2) 33 3 o' (swL (ps ++ (pas 8 g1).1)).length (scells (swL (ps ++ (pas 8 g1).1))) := by rw [swL_app]; exact hown5
      obtain ⟨k2, hS5, hKO5⟩ := NbW.step (by decide) (by decide) (by decide) hSS hbl (by omega) hsW hA3 hg3 hown5' hgrow5
      have d3 := k2.cell 0
      have d4 := k2.frozen 0
      have l5 := k2.lt
      have hKF := ((KeepsOthers.drew W).trans hKO5)
      have FIN : Hid ((∃ o2, NbW 59 25 106 33 w (w.heap.size + 2) b (W5.setCell ⟨w.heap.size + 1, 0, none⟩ o') (ps ++ (pas 8 g1).1) (pas 8 g1).2 o2) ∧ Marks w ds (W5.setCell ⟨w.heap.size + 1, 0, none⟩ o') ∧ w.heap.size + 2 ≤ (W5.setCell ⟨w.heap.size + 1, 0, none⟩ o').heap.size) :=
        ⟨⟨o', hS5⟩, hMW.keep hKF, Nat.le_trans hsW hKF.size⟩
      obtain ⟨LN, hLN⟩ : ∃ LN, LN = (swL ps ++ swL (pas 8 g1).1).length := ⟨_, rfl⟩
      rw [← hLN] at hown5
      obtain ⟨A5, cap5, rfl, _⟩ := Rd.of_own hown5
      clear hS5 hKO5 hown5 hown5' hgrow5 h4d h4a d2 c2 c3 hA3 hg3 h4 h6 hSS HPASS hz3 k2 hII hMW hM hW hLN hown3
      gi_wp2
      exact ⟨hKF.from _, rfl, HDES.out, FIN.out⟩
    · have hdt : dsc g1 p = false := by rw [hdd]; simpa using hd
      rw [hdt] at HH
      have FIN : Hid (NbW 59 25 106 33 w (w.heap.size + 2) b W.drew ps g1 o1 ∧ upTo g1 (pre ++ [p]).length ∧ Marks w ds W.drew ∧ w.heap.size + 2 ≤ W.drew.heap.size) := by
        refine ⟨hII.drew, ?_, hMW.keep (KeepsOthers.drew W), hsW⟩
        rw [HL.out]
        intro j hj
        by_cases e : j = p
        · subst e; exact hd
        · exact hup j (by omega)
      clear hdt hdd hd h1 h2 h4 h5 h6 hII hW hM hMW hup
      gi_wp2_with fail
      refine ⟨trivial, ?_⟩
      refine CallsIn.inRound l (callsIn_wide.2 (HH.out.mono ?_))
      rintro e wq ⟨rfl, rfl⟩
      gi_wp2
      exact ⟨(KeepsOthers.drew W).from _, KeepsIn.zero (Nat.le_refl _), FIN.out⟩
  · intro D W hD hI hd
    obtain ⟨hI, hup, hMW, hsW⟩ := hI
    obtain ⟨k1, k2, k3, k4, k5⟩ := hI
    have c3 : W.cell? ⟨w.heap.size + 1, 0, none⟩ = some o1 := k2.cell 0
    have hpt : ps = tot := by rw [nbF_stop kk hup] at htot; simpa using htot
    have hlt := hM.lt
    have hDn : D ∉ ds := fun h => by have := hlt D h; omega
    have HD : Hid ((D :: ds).Nodup ∧ ∀ E ∈ D :: ds, w.heap.size + 2 ≤ E ∧ W.heap[E]? = some (.deferred (some []))) := ⟨List.nodup_cons.2 ⟨hDn, hMW.1⟩, fun E hE => by
      rcases List.mem_cons.1 hE with rfl | hE
      · exact ⟨by omega, hd⟩
      · exact hMW.2 E hE⟩
    clear k1 k2 k4 hW hM htot hd hMW hlt hDn
    gi_wp2
    rw [Exit.noGoto_ret]
    refine leaves_all (D :: ds) W HD.out.1 (fun E hE => (HD.out.2 E hE).2) ?_
    intro A' e1 e2 e3 e4 e5
    refine ⟨_, results_tmp rfl _ _ _, o1, rfl, ?_, ?_⟩
    · rw [HTT.out, ← hpt]
      refine own_more (own_same k3 fun k ob hk hc => ?_) (by omega)
      rw [e5 k (fun hm => by have := (HD.out.2 k hm).2; rw [hk] at this; cases this; cases hc)]
      exact hk
    · refine ⟨e1.trans k5.os, e2.trans k5.tape, e3.trans k5.output, by rw [e4]; exact k5.size, fun i hi hne => ?_⟩
      rw [e5 i (fun hm => by have := (HD.out.2 i hm).1; omega)]
      exact k5.block i hi hne
  · rintro D c pre W hD hp ⟨rfl, hdes, ⟨o', hW'⟩, hMW, hsW⟩ hd
    obtain ⟨p, hp8, hdp⟩ := hdes
    obtain ⟨f1, f2, f3, f4, f5⟩ := pas_facts hP1 8 (Nat.le_refl _)
    have f6 := pas_some hp8 hdp
    obtain ⟨k, rfl⟩ : ∃ k, kk = k + 1 := ⟨kk - 1, by omega⟩
    have hlt := hM.lt
    have hDn : D ∉ ds := fun h => by have := hlt D h; omega
    have hR : NbR 59 25 106 33 w (w.heap.size + 2) b tot k { tmps := #[.pointer (some ⟨b, 0, none⟩), .pointer (some ⟨w.heap.size, 0, none⟩), .slice none 0 0, .pointer (some ⟨w.heap.size + 1, 0, none⟩), undef, .func (.func 89) #[.int .i64 8] #[], undef, undef, undef, undef, undef, undef, undef, undef, undef], defers := { target := .collected D, args := #[] } :: List.map dfr ds } W := by
      refine ⟨ps ++ (pas 8 g1).1, (pas 8 g1).2, o', _, D :: ds, rfl, by rw [← htot, nbF_go k hp8 hdp]; simp, f1, by omega, hW', ⟨List.nodup_cons.2 ⟨hDn, hMW.1⟩, fun E hE => ?_⟩, hsW⟩
      rcases List.mem_cons.1 hE with rfl | hE
      · exact ⟨by omega, hd⟩
      · exact hMW.2 E hE
    clear f1 f2 f3 f4 f5 f6 hDn hlt hMW hW' hW hM htot hd
    gi_wp2
    refine ⟨⟨k, hR⟩, ?_⟩
    have := (PW.least_spec (P := fun k => NbR 59 25 106 33 w (w.heap.size + 2) b tot k _ W) ⟨k, hR⟩).2 _ hR
    omega
end Go.Proofs.Yteadhnpmmpninaa
