import Derived.Test.YthgcoocgeekdnaaDoorJxE
import Derived.Test.YthgcoocgeekdnaaDoorJxC
import Derived.Test.YthgcoocgeekdnaaDoorJxB
import Derived.Shelf.SlGeneric
import Derived.Shelf.SlSortCmp.InsertionK
import Derived.Test.YthgcoocgeekdnaaDoorTie
import Derived.Test.YthgcoocgeekdnaaDoorCards
import Derived.ChangeSame
import Derived.ChangeVars
import Derived.JoinedOf
import Derived.LaidLaws
import Derived.LaidHandle
import Derived.SevenTiedAt
import Derived.Lib.LaidU8T
import Derived.Test.YthgcoocgeekdnaaDoorHar
import Derived.Test.YthgcoocgeekdnaaDoorMarkT
import Derived.SliceStrings
import Derived.Test.YthgcoocgeekdnaaDoorCut
namespace Go.Proofs.YthgcoocgeekdnaaDoor
open Go.RowKit Go.PM Go.PD Go.PF Go.Lib
/-- what a search has seen -/
def bF (cs qs : List ByteArray) : Cho := (qs.map fun q => q.data.toList).foldl (vis cs) cho0
def beB (cs qs : List ByteArray) : ByteArray := ⟨(bF cs qs).best.toArray⟩
def leI (cs qs : List ByteArray) : Int := if (bF cs qs).least < 0 then 0 else (bF cs qs).least
theorem bF_nil (cs : List ByteArray) : bF cs [] = cho0 := rfl
theorem bF_snoc (cs qs : List ByteArray) (q : ByteArray) : bF cs (qs ++ [q]) = vis cs (bF cs qs) q.data.toList := by
  unfold bF; rw [List.map_append, List.foldl_append]; rfl
def SInv (x : Cho) : Prop := (x.least < 0 ∧ x.best = []) ∨ (0 ≤ x.least ∧ x.best ≠ [])
theorem SInv.vis {cs : List ByteArray} {x : Cho} (h : SInv x) {p : List UInt8} (hp : p ≠ []) (ht : 0 ≤ totI p cs) : SInv (vis cs x p) := by
  unfold Go.Proofs.YthgcoocgeekdnaaDoor.vis
  split
  · exact .inr ⟨ht, hp⟩
  · split
    · rename_i h1 h2
      rcases h with h | h
      · exact absurd (.inl h.1) h1
      · exact .inr h
    · exact h
theorem sinv_all {cs : List ByteArray} : ∀ (l : List (List UInt8)) (x : Cho), SInv x → (∀ p ∈ l, p ≠ [] ∧ 0 ≤ totI p cs) → SInv (l.foldl (vis cs) x)
  | [], _, h, _ => h
  | p :: l, _x, h, hl => sinv_all l _ (h.vis (hl p (List.mem_cons_self ..)).1 (hl p (List.mem_cons_self ..)).2) fun q hq => hl q (List.mem_cons_of_mem _ hq)
theorem sinv_0 : SInv cho0 := .inl ⟨by decide, rfl⟩
/-- each of the texts is no empty one, and costs no less than nothing -/
def Okq (cs qs : List ByteArray) : Prop := ∀ q ∈ qs, q.data.toList ≠ [] ∧ 0 ≤ totI q.data.toList cs
theorem bF_inv {cs qs : List ByteArray} (h : Okq cs qs) : SInv (bF cs qs) := sinv_all _ _ sinv_0 fun p hp => by
  obtain ⟨q, hq, rfl⟩ := List.mem_map.1 hp
  exact h q hq
theorem beB_empty {cs qs : List ByteArray} : beB cs qs = ⟨#[]⟩ ↔ (bF cs qs).best = [] := by
  unfold beB
  constructor
  · intro h
    have := congrArg (fun s : ByteArray => s.data.toList) h
    simpa using this
  · intro h; rw [h]
theorem bF_round {cs qs : List ByteArray} {q : ByteArray} (h : Okq cs (qs ++ [q])) :
    ((beB cs qs = ⟨#[]⟩ ∨ totI q.data.toList cs < leI cs qs) → beB cs (qs ++ [q]) = q ∧ leI cs (qs ++ [q]) = totI q.data.toList cs) ∧
    (¬ (beB cs qs = ⟨#[]⟩ ∨ totI q.data.toList cs < leI cs qs) → beB cs (qs ++ [q]) = beB cs qs ∧ leI cs (qs ++ [q]) = leI cs qs) := by
  have hi := bF_inv (fun p hp => h p (List.mem_append_left _ hp))
  obtain ⟨hq1, hq2⟩ := h q (by simp)
  rw [beB_empty]
  unfold beB leI
  rw [bF_snoc]
  generalize bF cs qs = x at *
  constructor
  · intro hc
    have hv : x.least < 0 ∨ totI q.data.toList cs < x.least := by
      rcases hi with ⟨a, b⟩ | ⟨a, b⟩
      · exact .inl a
      · rcases hc with hc | hc
        · exact absurd hc b
        · rw [if_neg (by omega)] at hc; exact .inr hc
    have e : vis cs x q.data.toList = ⟨q.data.toList, totI q.data.toList cs, 1⟩ := if_pos hv
    rw [e]
    refine ⟨by show (⟨q.data.toList.toArray⟩ : ByteArray) = q; rw [Array.toArray_toList], if_neg (by show ¬ totI q.data.toList cs < 0; omega)⟩
  · intro hc
    rcases hi with ⟨a, b⟩ | ⟨a, b⟩
    · exact absurd (.inl b) hc
    · rw [if_neg (by omega)] at hc
      have hv : ¬ (x.least < 0 ∨ totI q.data.toList cs < x.least) := by
        rintro (h1 | h1)
        · omega
        · exact hc (.inr h1)
      unfold vis
      rw [if_neg hv]
      split <;> exact ⟨rfl, rfl⟩
theorem vis_zero {cs : List ByteArray} : ∀ (l : List (List UInt8)) (x : Cho), x.least = 0 → (∀ p ∈ l, 0 ≤ totI p cs) → (l.foldl (vis cs) x).best = x.best ∧ (l.foldl (vis cs) x).least = 0
  | [], _, h, _ => ⟨rfl, h⟩
  | p :: l, x, h, hl => by
    have hp := hl p (List.mem_cons_self ..)
    have hv : ¬ (x.least < 0 ∨ totI p cs < x.least) := by omega
    have e : (vis cs x p).best = x.best ∧ (vis cs x p).least = 0 := by
      unfold vis; rw [if_neg hv]; split <;> exact ⟨rfl, h⟩
    obtain ⟨h1, h2⟩ := vis_zero l (vis cs x p) e.2 fun q hq => hl q (List.mem_cons_of_mem _ hq)
    exact ⟨h1.trans e.1, h2⟩
/-- a search that has come to nothing may stop -/
theorem bF_stop {cs pre qs : List ByteArray} (hp : pre <+: qs) (h : Okq cs qs) (hne : beB cs pre ≠ ⟨#[]⟩) (h0 : leI cs pre = 0) : beB cs qs = beB cs pre ∧ leI cs qs = 0 := by
  obtain ⟨t, rfl⟩ := hp
  have hi := bF_inv (fun p hp => h p (List.mem_append_left _ hp))
  have hl : (bF cs pre).least = 0 := by
    rcases hi with ⟨a, b⟩ | ⟨a, b⟩
    · exact absurd (beB_empty.2 b) hne
    · unfold leI at h0; rw [if_neg (by omega)] at h0; exact h0
  have e : bF cs (pre ++ t) = (t.map fun q => q.data.toList).foldl (vis cs) (bF cs pre) := by unfold bF; rw [List.map_append, List.foldl_append]
  obtain ⟨h1, h2⟩ := vis_zero (cs := cs) (t.map fun q => q.data.toList) (bF cs pre) hl fun p hp => by
    obtain ⟨q, hq, rfl⟩ := List.mem_map.1 hp
    exact (h q (List.mem_append_right _ hq)).2
  unfold beB leI
  rw [e, h1, h2]
  exact ⟨rfl, rfl⟩
theorem arr_ok {n : Nat} {cs : List ByteArray} (hcs : csOk (n : Int) cs = true) : Okq cs (arrB n ⟨#[]⟩) := fun q hq => by
  obtain ⟨h1, h4, _, _⟩ := cs_at hcs
  obtain ⟨k1, k2⟩ := arrB_mem (n := n) (by omega) (by omega) q hq
  refine ⟨fun e => ?_, (tot_must _ cs (cs_cl hcs k1 (by omega))).1⟩
  rw [e] at k2
  simp at k2
  omega
theorem bF_all {n : Nat} {cs : List ByteArray} (hcs : csOk (n : Int) cs = true) : bF cs (arrB n ⟨#[]⟩) = choF (n : Int) cs := by
  unfold bF choF
  rw [if_pos hcs, arrB_map]; rfl
theorem best_all {n : Nat} {cs : List ByteArray} (hcs : csOk (n : Int) cs = true) : beB cs (arrB n ⟨#[]⟩) = bpB (n : Int) cs ∧ leI cs (arrB n ⟨#[]⟩) = lcI (n : Int) cs ∧ 0 ≤ lcI (n : Int) cs := by
  have h := bF_all hcs
  have hg := (best_good hcs).2.2.2.1
  unfold beB leI bpB lcI
  rw [h]
  exact ⟨rfl, if_neg (by omega), hg⟩
/-- how many of the texts cost so much -/
def cnQ (cs : List ByteArray) (t : Int) (qs : List ByteArray) : Nat := qs.countP fun q => decide (totI q.data.toList cs = t)
theorem cnQ_snoc (cs : List ByteArray) (t : Int) (qs : List ByteArray) (q : ByteArray) : cnQ cs t (qs ++ [q]) = cnQ cs t qs + if totI q.data.toList cs = t then 1 else 0 := by
  unfold cnQ
  rw [List.countP_append, List.countP_singleton]
  simp only [decide_eq_true_eq]
theorem cnQ_le (cs : List ByteArray) (t : Int) (qs : List ByteArray) : cnQ cs t qs ≤ qs.length := List.countP_le_length
def CInv (cs : List ByteArray) (s : List (List UInt8)) (x : Cho) : Prop := x.count = s.countP (fun p => decide (totI p cs = x.least)) ∧ ∀ p ∈ s, x.least ≤ totI p cs
theorem CInv.vis {cs : List ByteArray} {s : List (List UInt8)} {x : Cho} (h : CInv cs s x) (h0 : 0 ≤ x.least) (p : List UInt8) (hp : 0 ≤ totI p cs) : CInv cs (s ++ [p]) (vis cs x p) ∧ 0 ≤ (vis cs x p).least := by
  unfold Go.Proofs.YthgcoocgeekdnaaDoor.vis CInv
  rw [List.countP_append, List.countP_singleton]
  split
  · rename_i h1
    have h2 : totI p cs < x.least := by omega
    refine ⟨⟨?_, fun q hq => ?_⟩, hp⟩
    · show 1 = s.countP _ + if decide (totI p cs = totI p cs) = true then 1 else 0
      have : s.countP (fun q => decide (totI q cs = totI p cs)) = 0 := by
        rw [List.countP_eq_zero]
        intro q hq
        have := h.2 q hq
        rw [decide_eq_true_eq]; omega
      rw [this, if_pos (by simp)]
    · show totI p cs ≤ totI q cs
      rcases List.mem_append.1 hq with hq | hq
      · have := h.2 q hq; omega
      · have : q = p := by simpa using hq
        rw [this]; exact Int.le_refl _
  · rename_i h1
    split
    · rename_i h2
      refine ⟨⟨?_, fun q hq => ?_⟩, h0⟩
      · show x.count + 1 = s.countP (fun q => decide (totI q cs = x.least)) + if decide (totI p cs = x.least) = true then 1 else 0
        rw [if_pos (by simpa using h2), h.1]
      · show x.least ≤ totI q cs
        rcases List.mem_append.1 hq with hq | hq
        · exact h.2 q hq
        · have : q = p := by simpa using hq
          rw [this]; omega
    · rename_i h2
      refine ⟨⟨?_, fun q hq => ?_⟩, h0⟩
      · rw [if_neg (by simpa using h2), h.1, Nat.add_zero]
      · rcases List.mem_append.1 hq with hq | hq
        · exact h.2 q hq
        · have : q = p := by simpa using hq
          rw [this]; omega
theorem cinv_fold {cs : List ByteArray} : ∀ (l s : List (List UInt8)) (x : Cho), CInv cs s x → 0 ≤ x.least → (∀ p ∈ l, 0 ≤ totI p cs) → CInv cs (s ++ l) (l.foldl (vis cs) x)
  | [], s, x, h, _, _ => by rw [List.append_nil]; exact h
  | p :: l, s, x, h, h0, hl => by
    obtain ⟨h1, h2⟩ := h.vis h0 p (hl p (List.mem_cons_self ..))
    have := cinv_fold l (s ++ [p]) _ h1 h2 fun q hq => hl q (List.mem_cons_of_mem _ hq)
    rw [List.append_assoc] at this
    exact this
theorem cinv_all {cs : List ByteArray} {l : List (List UInt8)} (hl : l ≠ []) (hq : ∀ p ∈ l, 0 ≤ totI p cs) : CInv cs l (l.foldl (vis cs) cho0) := by
  cases l with
  | nil => exact absurd rfl hl
  | cons a l =>
    have e : vis cs cho0 a = ⟨a, totI a cs, 1⟩ := if_pos (.inl (by decide))
    show CInv cs (a :: l) (l.foldl (vis cs) (vis cs cho0 a))
    rw [e]
    refine cinv_fold l [a] _ ⟨?_, fun p hp => ?_⟩ (hq a (List.mem_cons_self ..)) fun p hp => hq p (List.mem_cons_of_mem _ hp)
    · show 1 = List.countP (fun p => decide (totI p cs = totI a cs)) [a]
      rw [List.countP_singleton, if_pos (by simp)]
    · have : p = a := by simpa using hp
      rw [this]; exact Int.le_refl _
theorem count_all {n : Nat} {cs : List ByteArray} (hcs : csOk (n : Int) cs = true) : (cnQ cs (lcI (n : Int) cs) (arrB n ⟨#[]⟩) : Int) = cbI (n : Int) cs := by
  have hok := arr_ok hcs
  obtain ⟨h1, h4, _, _⟩ := cs_at hcs
  have hm := arrB_map n ⟨#[]⟩
  have hne : arrs n [] ≠ [] := fun e => by
    have h2 := abc_par (n := n) (by omega) (by omega)
    have := (arrs_par (n := n) (by omega) (by omega) (abc n)).2 h2
    rw [e] at this; cases this
  have hc := cinv_all (cs := cs) hne (fun p hp => by
    rw [show ([] : List UInt8) = (⟨#[]⟩ : ByteArray).data.toList from rfl, ← hm] at hp
    obtain ⟨q, hq, rfl⟩ := List.mem_map.1 hp
    exact (hok q hq).2)
  have e : choF (n : Int) cs = (arrs n []).foldl (vis cs) cho0 := by unfold choF; rw [if_pos hcs]; rfl
  rw [← e] at hc
  have hg := (best_good hcs).2.2.2.1
  unfold cbI
  rw [if_neg (by omega), hc.1]
  unfold cnQ lcI
  rw [show arrs n [] = (arrB n ⟨#[]⟩).map (fun q => q.data.toList) from hm.symm, List.countP_map]
  rfl
end Go.Proofs.YthgcoocgeekdnaaDoor
namespace Go.Proofs.YthgcoocgeekdnaaDoor
open Go.RowKit Go.PM Go.PD Go.PF Go.Lib
attribute [local go_sem] Oper.semAt_some
theorem at_below {A A' : World} {b B : Nat} {t : TypeId} {c : Array Value} (h : At A b t c) (hk : KeepsNew B A A') (hB : B ≤ b) : At A' b t c := hk.block hB h
set_option maxRecDepth 100000 in
set_option maxHeartbeats 6400000 in
theorem bestChoice_c (n : Nat) (cs : List ByteArray) (hcs : csOk (n : Int) cs = true) (v : Value) (w : World) (hT : U8w w) (hx : RdT w v cs) :
    Calls Tryd.prog 39 #[.int .i64 n, v] w fun e w' => e = .returned (.tuple #[.string (bpB (n : Int) cs), .int .i64 (lcI (n : Int) cs)]) ∧ Below w.heap.size w w' := by
  obtain ⟨Av, cap, rfl, _, _, _⟩ := id hx.open
  obtain ⟨hb1, hb2, _⟩ := best_all hcs
  have HOK := Lib.hid (arr_ok hcs)
  have HR := Lib.hid (fun (pre : List ByteArray) (q : ByteArray) (h : Okq cs (pre ++ [q])) => bF_round h)
  have HSTOP := Lib.hid (fun (pre : List ByteArray) (hp : pre <+: arrB n ⟨#[]⟩) h1 h2 => bF_stop hp (arr_ok hcs) h1 h2)
  have HIT := Lib.hid (fun b1 b2 m => cho_iter n cs hcs (.slice Av cs.length cap) b1 b2 m)
  have HXT : Hid (∀ A, Below w.heap.size w A → U8w A ∧ RdT A (.slice Av cs.length cap) cs) := fun A hA => ⟨hT.below hA, hx.below hA⟩
  have HTR := Lib.hid (fun q => totI_range q cs)
  have hcl5 := (cs_at hcs).2.2.1
  rw [← hb1, ← hb2]
  clear hx hT hcs hb1 hb2
  refine (callsIn_wide (n := 10)).1 ?_
  obtain ⟨N, hN, hNe⟩ : ∃ N : Nat, 10 ≤ N ∧ N = 10 := ⟨10, by omega, rfl⟩
  rw [← hNe]
  clear hNe
  refine callsIn_of_wp_marks Tryd.func39 rfl trivial ?_ rfl
  simp only [Tryd.ntmps39, List.size_toArray, List.length_cons, List.length_nil, Nat.reduceAdd, Nat.reduceSub, Array.replicate_succ, Array.replicate_zero, List.push_toArray, List.append_toArray, List.nil_append, List.cons_append]
  obtain ⟨W0, hW0⟩ : ∃ W0 : World, W0 = (w.alloc (.cells #[.string ⟨#[]⟩] 41)).alloc (.cells #[.int .i64 0] 3) := ⟨_, rfl⟩
  have hB0 : Below w.heap.size w W0 := by rw [hW0]; (repeat' (first | (with_reducible exact Below.refl _ _) | (with_reducible assumption) | (with_reducible refine Below.alloc ?_ ?_ _) | (with_reducible refine Below.drew ?_) | (with_reducible refine Below.setCell ?_ ?_ _) | (with_reducible exact Nat.le_refl _) | omega | ((repeat (first | rewrite [World.size_alloc] | rewrite [World.size_setCell] | rewrite [World.size_drew])); omega) | (simp; omega) | (simp; done)))
  have p0 : At W0 w.heap.size 41 #[.string ⟨#[]⟩] := by rw [hW0]; exact (At.new _ _ _).alloc _
  have l0 : At W0 (w.heap.size + 1) 3 #[.int .i64 0] := by
    rw [hW0]
    have := At.new (w.alloc (.cells #[.string ⟨#[]⟩] 41)) 3 #[.int .i64 0]
    rwa [World.size_alloc] at this
  have hT0 : w.heap.size + 2 ≤ W0.heap.size := by rw [hW0]; simp only [World.size_alloc]; omega
  gi_wp2_with fail
  rw [← hW0]
  refine ⟨trivial, fun _ => by omega, callsIn_wide.2 ((choices_c _ _ _ _ _).mono ?_)⟩
  rintro e W1 ⟨rfl, hW1⟩
  have hB1 : Below W0.heap.size W0 W1 := by rw [hW1]; (repeat' (first | (with_reducible exact Below.refl _ _) | (with_reducible assumption) | (with_reducible refine Below.alloc ?_ ?_ _) | (with_reducible refine Below.drew ?_) | (with_reducible refine Below.setCell ?_ ?_ _) | (with_reducible exact Nat.le_refl _) | omega | ((repeat (first | rewrite [World.size_alloc] | rewrite [World.size_setCell] | rewrite [World.size_drew])); omega) | (simp; omega) | (simp; done)))
  have hT1 : W0.heap.size + 2 ≤ W1.heap.size := by rw [hW1]; simp only [World.size_alloc]; omega
  have x1 : At W1 W0.heap.size 3 #[.int .i64 n] := by rw [hW1]; exact (At.new _ _ _).alloc _
  have x2 : At W1 (W0.heap.size + 1) 23 #[.slice Av cs.length cap] := by
    rw [hW1]
    have := At.new (W0.alloc (.cells #[.int .i64 n] 3)) 23 #[.slice Av cs.length cap]
    rwa [World.size_alloc] at this
  have p1 := p0.keep hB1
  have l1 := l0.keep hB1
  have hBB := hB0.trans (hB1.mono hB0.size)
  clear hW0 hW1 hB0 hB1 p0 l0
  gi_wp2
  refine range_lawK1 (F := Fence.wide) (gf := 67) (lf := #[]) (lb := #[.pointer (some ⟨W0.heap.size, 0, none⟩), .pointer (some ⟨W0.heap.size + 1, 0, none⟩)]) rfl (by omega) rfl trivial (fun args w => rfl) (encs := fun q : ByteArray => #[.string q, .int .i64 (totI q.data.toList cs)]) (xs := arrB n ⟨#[]⟩)
    (HIT.out W0.heap.size (W0.heap.size + 1) _) (fun _ => rfl)
    (fun pre Z => At Z w.heap.size 41 #[.string (beB cs pre)] ∧ At Z (w.heap.size + 1) 3 #[.int .i64 (leI cs pre)] ∧ At Z W0.heap.size 3 #[.int .i64 n] ∧ At Z (W0.heap.size + 1) 23 #[.slice Av cs.length cap] ∧ Below w.heap.size w Z ∧ W1.heap.size ≤ Z.heap.size)
    (fun cc pre Z => cc = .exit 0 ∧ Hid (beB cs pre ≠ ⟨#[]⟩ ∧ leI cs pre = 0) ∧ At Z w.heap.size 41 #[.string (beB cs pre)] ∧ At Z (w.heap.size + 1) 3 #[.int .i64 (leI cs pre)] ∧ Below w.heap.size w Z) ?pr ?own ?ownx ?start ?a1 ?assign ?body ?done ?stop
  case pr => exact fun pre Z h => ⟨(HXT.out Z h.2.2.2.2.1).1, (HXT.out Z h.2.2.2.2.1).2, h.2.2.1, h.2.2.2.1⟩
  case own =>
    rintro pre Z Z' row ⟨g1, g2, g3, g4, g5, g6⟩ hg hr
    exact ⟨at_turn g1 hg (fun r e => (hr r e).2), at_turn g2 hg (fun r e => (hr r e).2), at_turn g3 hg (fun r e => (hr r e).2), at_turn g4 hg (fun r e => (hr r e).2), g5.trans (below_grown hg g5.size (fun g e => by have := (hr g e).1; omega)), Nat.le_trans g6 hg.size⟩
  case ownx =>
    rintro cc pre Z Z' row ⟨g0, g00, g1, g2, g5⟩ hg hr
    exact ⟨g0, g00, at_turn g1 hg (fun r e => (hr r e).2), at_turn g2 hg (fun r e => (hr r e).2), g5.trans (below_grown hg g5.size (fun g e => by have := (hr g e).1; omega))⟩
  case start => exact ⟨p1, l1, x1, x2, hBB, Nat.le_refl _⟩
  case assign =>
    intro l2 q Z K hK
    gi_wp2
    exact hK
  case body =>
    rintro l2 pre q Z ⟨g1, g2, g3, g4, g5, g6⟩ hp hsz
    have hok : Okq cs (pre ++ [q]) := fun x hx => HOK.out x (by obtain ⟨t, ht⟩ := hp; rw [← ht]; exact List.mem_append_left _ hx)
    obtain ⟨r1, r2⟩ := HR.out pre q hok
    have hqn : q ≠ ⟨#[]⟩ := fun e => (hok q (by simp)).1 (by rw [e])
    have htr := HTR.out q.data.toList
    have ht5 : totI q.data.toList cs ≤ 6000 := by omega
    have ht6 : -5 ≤ totI q.data.toList cs := by omega
    have fB := g1.frozen 0
    have fL := g2.frozen 0
    have cB : Z.cell? ⟨w.heap.size, 0, none⟩ = some (.string (beB cs pre)) := g1.cell 0
    have cL : Z.cell? ⟨w.heap.size + 1, 0, none⟩ = some (.int .i64 (leI cs pre)) := g2.cell 0
    have lB := g1.lt
    have lL := g2.lt
    have a1 := (g1.set 0 (.string q)).far (p := ⟨w.heap.size + 1, 0, none⟩) (by simp) (.int .i64 (totI q.data.toList cs))
    have a2 := (g2.far (p := ⟨w.heap.size, 0, none⟩) (by simp) (.string q)).set 0 (.int .i64 (totI q.data.toList cs))
    have a3 := (g3.far (p := ⟨w.heap.size, 0, none⟩) (by simp; omega) (.string q)).far (p := ⟨w.heap.size + 1, 0, none⟩) (by simp; omega) (.int .i64 (totI q.data.toList cs))
    have a4 := (g4.far (p := ⟨w.heap.size, 0, none⟩) (by simp; omega) (.string q)).far (p := ⟨w.heap.size + 1, 0, none⟩) (by simp; omega) (.int .i64 (totI q.data.toList cs))
    have a5 : Below w.heap.size w ((Z.setCell ⟨w.heap.size, 0, none⟩ (.string q)).setCell ⟨w.heap.size + 1, 0, none⟩ (.int .i64 (totI q.data.toList cs))) := Below.setCell (Below.setCell g5 (Nat.le_refl _) _) (by simp) _
    have a6 : W1.heap.size ≤ ((Z.setCell ⟨w.heap.size, 0, none⟩ (.string q)).setCell ⟨w.heap.size + 1, 0, none⟩ (.int .i64 (totI q.data.toList cs))).heap.size := by simp only [World.size_setCell]; exact g6
    have a7 : KeepsNew W1.heap.size Z ((Z.setCell ⟨w.heap.size, 0, none⟩ (.string q)).setCell ⟨w.heap.size + 1, 0, none⟩ (.int .i64 (totI q.data.toList cs))) := (KeepsNew.set Z _ _ (by simp; omega)).trans (KeepsNew.set _ _ _ (by simp; omega))
    have c2 : ((Z.setCell ⟨w.heap.size, 0, none⟩ (.string q)).setCell ⟨w.heap.size + 1, 0, none⟩ (.int .i64 (totI q.data.toList cs))).cell? ⟨w.heap.size + 1, 0, none⟩ = some (.int .i64 (totI q.data.toList cs)) := a2.cell 0
    obtain ⟨nb, HNB⟩ : ∃ nb, Hid (beB cs (pre ++ [q]) = nb) := ⟨_, rfl⟩
    obtain ⟨nl, HNL⟩ : ∃ nl, Hid (leI cs (pre ++ [q]) = nl) := ⟨_, rfl⟩
    rw [HNB.out, HNL.out] at r1 r2
    have HS := Lib.hid (show At Z w.heap.size 41 #[.string (beB cs pre)] ∧ At Z (w.heap.size + 1) 3 #[.int .i64 (leI cs pre)] ∧ At Z W0.heap.size 3 #[.int .i64 n] ∧ At Z (W0.heap.size + 1) 23 #[.slice Av cs.length cap] ∧ Below w.heap.size w Z ∧ W1.heap.size ≤ Z.heap.size from ⟨g1, g2, g3, g4, g5, g6⟩)
    have HU := Lib.hid (And.intro a1 (And.intro a2 (And.intro a3 (And.intro a4 (And.intro a5 (And.intro a6 a7))))))
    clear a1 a2 a3 a4 a5 a6 a7 g1 g2 g3 g4 g5 g6 p1 l1 x1 x2 hBB hp hok htr
    generalize totI q.data.toList cs = t at *
    generalize beB cs pre = be at *
    generalize leI cs pre = le at *
    by_cases hup : be = ⟨#[]⟩ ∨ t < le
    · obtain ⟨e1, e2⟩ := r1 hup
      have E1 := Lib.hid e1
      have E2 := Lib.hid e2
      clear r1 r2 e1 e2
      by_cases hbe : be = ⟨#[]⟩
      · subst hbe
        by_cases ht0 : t = 0
        · subst ht0
          gi_wp2
          exact ⟨⟨rfl, ⟨by rw [HNB.out, E1.out]; exact hqn, by rw [HNL.out, E2.out]⟩, by rw [HNB.out, E1.out]; exact HU.out.1, by rw [HNL.out, E2.out]; exact HU.out.2.1, HU.out.2.2.2.2.1⟩, HU.out.2.2.2.2.2.2⟩
        · have ht0' : (t == 0) = false := by simpa using ht0
          gi_wp2
          exact ⟨⟨by rw [HNB.out, E1.out]; exact HU.out.1, by rw [HNL.out, E2.out]; exact HU.out.2.1, HU.out.2.2.1, HU.out.2.2.2.1, HU.out.2.2.2.2.1, HU.out.2.2.2.2.2.1⟩, HU.out.2.2.2.2.2.2⟩
      · have hlt : t < le := hup.resolve_left hbe
        have q1 : ¬ be.toList = [] := fun e => by
          rw [ByteArray.toList_eq] at e
          exact hbe (ByteArray.ext (Array.toList_inj.1 e))
        have q2 : be.toList.isEmpty = false := by
          cases hl : be.toList with
          | nil => exact absurd hl q1
          | cons a l => rfl
        by_cases ht0 : t = 0
        · subst ht0
          gi_wp2
          exact ⟨⟨rfl, ⟨by rw [HNB.out, E1.out]; exact hqn, by rw [HNL.out, E2.out]⟩, by rw [HNB.out, E1.out]; exact HU.out.1, by rw [HNL.out, E2.out]; exact HU.out.2.1, HU.out.2.2.2.2.1⟩, HU.out.2.2.2.2.2.2⟩
        · have ht0' : (t == 0) = false := by simpa using ht0
          gi_wp2
          exact ⟨⟨by rw [HNB.out, E1.out]; exact HU.out.1, by rw [HNL.out, E2.out]; exact HU.out.2.1, HU.out.2.2.1, HU.out.2.2.2.1, HU.out.2.2.2.2.1, HU.out.2.2.2.2.2.1⟩, HU.out.2.2.2.2.2.2⟩
    · obtain ⟨e1, e2⟩ := r2 hup
      have E1 := Lib.hid e1
      have E2 := Lib.hid e2
      clear r1 r2 e1 e2 HU c2
      have hbe : ¬ be = ⟨#[]⟩ := fun h => hup (.inl h)
      have hlt : ¬ t < le := fun h => hup (.inr h)
      have q1 : ¬ be.toList = [] := fun e => by
        rw [ByteArray.toList_eq] at e
        exact hbe (ByteArray.ext (Array.toList_inj.1 e))
      have q2 : be.toList.isEmpty = false := by
        cases hl : be.toList with
        | nil => exact absurd hl q1
        | cons a l => rfl
      by_cases ht0 : le = 0
      · subst ht0
        gi_wp2
        exact ⟨⟨rfl, ⟨by rw [HNB.out, E1.out]; exact hbe, by rw [HNL.out, E2.out]⟩, by rw [HNB.out, E1.out]; exact HS.out.1, by rw [HNL.out, E2.out]; exact HS.out.2.1, HS.out.2.2.2.2.1⟩, KeepsNew.refl _ _⟩
      · have ht0' : (le == 0) = false := by simpa using ht0
        gi_wp2
        exact ⟨⟨by rw [HNB.out, E1.out]; exact HS.out.1, by rw [HNL.out, E2.out]; exact HS.out.2.1, HS.out.2.2.1, HS.out.2.2.2.1, HS.out.2.2.2.2.1, HS.out.2.2.2.2.2⟩, KeepsNew.refl _ _⟩
  case done =>
    rintro D Z hD ⟨g1, g2, -, -, g5, -⟩ hd
    have cB : Z.cell? ⟨w.heap.size, 0, none⟩ = some (.string (beB cs (arrB n ⟨#[]⟩))) := g1.cell 0
    have cL : Z.cell? ⟨w.heap.size + 1, 0, none⟩ = some (.int .i64 (leI cs (arrB n ⟨#[]⟩))) := g2.cell 0
    have lB := g1.lt
    have lL := g2.lt
    have hBB2 : Hid (w.heap.size ≤ D) := by show _ ≤ _; omega
    clear g1 g2 p1 l1 x1 x2 hBB
    generalize hbe : beB cs (arrB n ⟨#[]⟩) = be at *
    generalize hle : leI cs (arrB n ⟨#[]⟩) = le at *
    have HBE := Lib.hid hbe
    have HLE := Lib.hid hle
    clear hbe hle
    gi_wp2
    gi_region
    gi_wp2
    refine leaves_J (J := fun (_ : Unit) A => Below w.heap.size w A) (B := w.heap.size) (fun _ A A' row h hg hr => h.trans (below_grown hg h.size (fun g e => (hr g e).1))) () [D] Z.drew ⟨by simp, fun E hE => ?_⟩ g5.drew ?_
    · obtain rfl : E = D := by simpa using hE
      exact ⟨hBB2.out, hd⟩
    · intro A' hA'
      exact ⟨_, results_tmp2 rfl _ _ _, by rw [HBE.out, HLE.out]; rfl, hA'⟩
  case stop =>
    rintro D cc pre Z hD hp ⟨rfl, hz, g1, g2, g5⟩ hd
    obtain ⟨e1, e2⟩ := HSTOP.out pre hp hz.out.1 hz.out.2
    rw [hz.out.2] at g2
    have cB : Z.cell? ⟨w.heap.size, 0, none⟩ = some (.string (beB cs pre)) := g1.cell 0
    have cL : Z.cell? ⟨w.heap.size + 1, 0, none⟩ = some (.int .i64 0) := g2.cell 0
    have lB := g1.lt
    have lL := g2.lt
    have hBB2 : Hid (w.heap.size ≤ D) := by show _ ≤ _; omega
    clear g1 g2 p1 l1 x1 x2 hBB hz
    generalize hbe : beB cs pre = be at *
    have HE1 := Lib.hid e1
    have HE2 := Lib.hid e2
    clear e1 e2 hbe
    gi_wp2
    gi_region
    gi_wp2
    refine leaves_J (J := fun (_ : Unit) A => Below w.heap.size w A) (B := w.heap.size) (fun _ A A' row h hg hr => h.trans (below_grown hg h.size (fun g e => (hr g e).1))) () [D] Z.drew ⟨by simp, fun E hE => ?_⟩ g5.drew ?_
    · obtain rfl : E = D := by simpa using hE
      exact ⟨hBB2.out, hd⟩
    · intro A' hA'
      exact ⟨_, results_tmp2 rfl _ _ _, by rw [HE1.out, HE2.out]; rfl, hA'⟩
end Go.Proofs.YthgcoocgeekdnaaDoor
namespace Go.Proofs.YthgcoocgeekdnaaDoor
open Go.RowKit Go.PM Go.PD Go.PF Go.Lib
attribute [local go_sem] Oper.semAt_some
theorem cs_not {n : Int} {cs : List ByteArray} (h : ¬ (1 ≤ n ∧ n ≤ 4 ∧ cs.length ≤ 5)) : csOk n cs = false := by
  unfold csOk; rw [decide_eq_false h]; rfl
set_option maxRecDepth 100000 in
set_option maxHeartbeats 1600000 in
theorem imCallsValid_c (n : Int) (cs : List ByteArray) (v : Value) (w : World) (hT : U8w w) (hx : RdT w v cs) (hz : ∀ c ∈ cs, c.size ≤ 1048576) (hn' : cs.length ≤ 1048576) :
    Calls Tryd.prog 16 #[.int .i64 n, v] w fun e w' => e = .returned (.bool (csOk n cs)) ∧ Below w.heap.size w w' := by
  obtain ⟨A, cap, rfl, hn, hc, hcell⟩ := hx.open
  clear hx
  by_cases h1 : n < 1
  · have HN := Lib.hid (cs_not (n := n) (cs := cs) (by omega))
    have d1 : decide (n < 1) = true := decide_eq_true h1
    generalize csOk n cs = r at *
    clear hz hcell hT
    go_enter Tryd.func16, Tryd.ntmps16
    go_wp2
    go_ret
    exact ⟨by rw [HN.out]; rfl, Below.refl _ _⟩
  by_cases h2 : n > 4
  · have HN := Lib.hid (cs_not (n := n) (cs := cs) (by omega))
    have d1 : decide (n < 1) = false := decide_eq_false h1
    have d2 : decide (n > 4) = true := decide_eq_true h2
    generalize csOk n cs = r at *
    clear hz hcell hT
    go_enter Tryd.func16, Tryd.ntmps16
    go_wp2
    go_ret
    exact ⟨by rw [HN.out]; rfl, Below.refl _ _⟩
  obtain ⟨m, rfl⟩ := Int.eq_ofNat_of_zero_le (show (0 : Int) ≤ n by omega)
  have d1 : decide ((m : Int) < 1) = false := decide_eq_false h1
  have d2 : decide ((m : Int) > 4) = false := decide_eq_false h2
  by_cases h3 : cs.length ≤ 5
  · have HV : Hid (∀ k (hk : k < cs.length) W, U8w W → Calls Tryd.prog 17 #[.string ((⟨#[97, 98, 99, 100, 101, 102]⟩ : ByteArray).extract 0 m), .string cs[k]] W fun e w' => e = .returned (.bool (clOk (abc m) cs[k].data.toList)) ∧ Below W.heap.size W w') := fun k hk W hW => by
      have := imCallValid_c ((⟨#[97, 98, 99, 100, 101, 102]⟩ : ByteArray).extract 0 m) cs[k] (by rw [ByteArray.size_extract]; omega) (hz _ (List.getElem_mem hk)) W hW
      have e : ((⟨#[97, 98, 99, 100, 101, 102]⟩ : ByteArray).extract 0 m).data.toList = abc m := by
        have : ∀ m, m ≤ 4 → ((⟨#[97, 98, 99, 100, 101, 102]⟩ : ByteArray).extract 0 m).data.toList = abc m := fun m hm => by
          match m, hm with
          | 0, _ | 1, _ | 2, _ | 3, _ | 4, _ => decide +kernel
        exact this m (by omega)
      rw [e] at this
      exact this
    have HNO := Lib.hid (fun k (hk : k < cs.length) h => cs_no (n := (m : Int)) hk h)
    have HYES := Lib.hid (fun h => cs_yes (n := (m : Int)) (cs := cs) ⟨by omega, by omega, h3⟩ h)
    rw [show ((m : Int)).toNat = m from rfl] at HNO HYES
    have t1 : ¬ (cs.length : Int) > 5 := by omega
    have t2 : decide ((cs.length : Int) > 5) = false := decide_eq_false t1
    have i3 : (m : Int) ≤ 6 := by omega
    have i4 : (0 : Int) ≤ (m : Int) := by omega
    have HT := Lib.hid (fun W (hW : Below w.heap.size w W) => hT.below hW)
    clear hz h1 h2 hT
    generalize csOk (m : Int) cs = r at *
    go_enter Tryd.func16, Tryd.ntmps16
    go_wp2
    go_loopw [6, 20] (fun _ i wr => ∃ (k : Nat), k ≤ cs.length ∧ i = .int .i64 k ∧ Hid (∀ j (hj : j < cs.length), j < k → clOk (abc m) cs[j].data.toList = true) ∧ Below w.heap.size w wr) (fun _ i _ => cs.length - (RowKit.intOf i).toNat)
    case atStart => exact ⟨0, by omega, rfl, fun j _ hj => absurd hj (Nat.not_lt_zero j), Below.refl _ _⟩
    case round =>
      obtain ⟨k, hk, rfl, hall, hb⟩ := hrel
      have hbs := hb.size
      by_cases hlt : k < cs.length
      · obtain ⟨b, off, rfl, hbl, hc1⟩ := hcell k hlt
        have hd1 := (hb.cell (p := ⟨b, off + k, none⟩) hbl).trans hc1
        have HVK := Lib.hid (HV.out k hlt wr (HT.out _ hb))
        have HNK := Lib.hid (HNO.out k hlt)
        have HNX : Hid (clOk (abc m) cs[k].data.toList = true → ∀ j (hj : j < cs.length), j < k + 1 → clOk (abc m) cs[j].data.toList = true) := fun h j hj hjk => by
          by_cases e : j = k
          · subst e; exact h
          · exact hall.out j hj (by omega)
        have i0 : (0 : Int) ≤ (k : Int) := by omega
        have i1 : (k : Int) < (cs.length : Int) := by omega
        clear hc1 hcell
        generalize clOk (abc m) cs[k].data.toList = ok at *
        generalize cs[k] = q at *
        cases ok with
        | true =>
          have HK := Lib.hid (HNX.out rfl)
          go_wp2_with fail
          refine HVK.out.mono ?_
          rintro e w2 ⟨rfl, hb2⟩
          have hbw := hb.trans (hb2.mono hbs)
          go_wp2
          go_roundw
          case rel => exact ⟨k + 1, by omega, by go_num, HK, hbw⟩
          case measure => simp [RowKit.intOf]; omega
        | false =>
          have HK := Lib.hid (HNK.out rfl)
          go_wp2_with fail
          refine HVK.out.mono ?_
          rintro e w2 ⟨rfl, hb2⟩
          have hbw := hb.trans (hb2.mono hbs)
          go_wp2
          go_ret
          exact ⟨by rw [HK.out]; rfl, hbw⟩
      · have HT2 : Hid (r = true) := HYES.out fun j hj => hall.out j hj (by omega)
        have i1 : ¬ (k : Int) < (cs.length : Int) := by omega
        go_wp2
        go_ret
        exact ⟨by rw [HT2.out]; rfl, hb⟩
  · have HN := Lib.hid (cs_not (n := (m : Int)) (cs := cs) (by omega))
    have t1 : (cs.length : Int) > 5 := by omega
    have t2 : decide ((cs.length : Int) > 5) = true := decide_eq_true t1
    clear hz h1 h2 hcell hT
    generalize csOk (m : Int) cs = r at *
    go_enter Tryd.func16, Tryd.ntmps16
    go_wp2
    go_ret
    exact ⟨by rw [HN.out]; rfl, Below.refl _ _⟩
set_option maxRecDepth 100000 in
set_option maxHeartbeats 1600000 in
theorem imTotalCost_c (ps : ByteArray) (_hp : ps.size ≤ 1048576) (cs : List ByteArray) (v : Value) (w : World) (hT : U8w w) (hx : RdT w v cs) (hz : ∀ c ∈ cs, c.size ≤ 1048576) (hn' : cs.length ≤ 1048576) :
    Calls Tryd.prog 12 #[.string ps, v] w fun e w' => e = .returned (.int .i64 (tcI ps.data.toList cs)) ∧ Below w.heap.size w w' := by
  have HX := Lib.hid (fun W (hW : Below w.heap.size w W) => hx.below hW)
  have HTT := Lib.hid (fun W (hW : Below w.heap.size w W) => hT.below hW)
  have HP := Lib.hid (parValid_c ps w)
  have HV := Lib.hid (fun W (hW : Below w.heap.size w W) => imCallsValid_c (ps.size : Int) cs v W (hT.below hW) (hx.below hW) hz hn')
  have HO : Hid (tcI ps.data.toList cs = if parOk ps.data.toList && csOk (ps.size : Int) cs then totI ps.data.toList cs else -1) := by show _ = _; unfold tcI; rw [size_data]
  obtain ⟨Av, cap, rfl, _, _, _⟩ := id hx.open
  rw [HO.out]
  rcases Bool.eq_false_or_eq_true (parOk ps.data.toList) with h1 | h1
  · rcases Bool.eq_false_or_eq_true (csOk (ps.size : Int) cs) with h2 | h2
    · have HTOT := Lib.hid (fun b W (hW : Below w.heap.size w W) (hK : Kn W b 0) => total_c b 0 ps cs (.slice Av cs.length cap) W (hT.below hW) hK (hx.below hW) (cs_at h2).2.2.1 (cs_cl h2 h1 (by rw [size_data])) (by decide))
      have hmm := @run_makeMap Tryd.prog
      rw [h1, h2, show (if (true && true) = true then totI ps.data.toList cs else -1) = totI ps.data.toList cs from rfl]
      rw [h1] at HP
      rw [h2] at HV
      clear hx hz h1 h2 HO hT
      generalize totI ps.data.toList cs = tt at *
      go_enter Tryd.func12, Tryd.ntmps12
      go_wp2_with fail
      refine HP.out.mono ?_
      rintro e w1 ⟨rfl, rfl⟩
      have b1 := Below.refl w.heap.size w
      go_wp2_with fail
      refine (HV.out _ b1).mono ?_
      rintro e w2 ⟨rfl, b2⟩
      have B2 := b1.trans (b2.mono b1.size)
      have hk3 := Kn.made w2
      have B3 : Below w.heap.size w (w2.alloc (.map #[] 0)) := B2.alloc B2.size _
      go_wp2_with fail
      refine (HTOT.out w2.heap.size _ B3 hk3).mono ?_
      rintro e w3 ⟨rfl, -, -, hg3⟩
      have B4 := B3.trans (below_grown hg3 B3.size (fun g e => by cases e; exact B2.size))
      go_wp2
      go_ret
      exact ⟨rfl, B4⟩
    · rw [h1, h2, show (if (true && false) = true then totI ps.data.toList cs else -1) = -1 from rfl]
      rw [h1] at HP
      rw [h2] at HV
      clear hx hz h1 h2 HX HO
      go_enter Tryd.func12, Tryd.ntmps12
      go_wp2_with fail
      refine HP.out.mono ?_
      rintro e w1 ⟨rfl, rfl⟩
      have b1 := Below.refl w.heap.size w
      go_wp2_with fail
      refine (HV.out _ b1).mono ?_
      rintro e w2 ⟨rfl, b2⟩
      go_wp2
      go_ret
      exact ⟨rfl, b1.trans (b2.mono b1.size)⟩
  · rw [h1, Bool.false_and, show (if false = true then totI ps.data.toList cs else -1) = -1 from rfl]
    rw [h1] at HP
    clear hx hz h1 HX HO
    go_enter Tryd.func12, Tryd.ntmps12
    go_wp2_with fail
    refine HP.out.mono ?_
    rintro e w1 ⟨rfl, rfl⟩
    have b1 := Below.refl w.heap.size w
    go_wp2
    go_ret
    exact ⟨rfl, b1⟩
set_option maxHeartbeats 800000 in
theorem imLeastCost_c (n : Int) (cs : List ByteArray) (v : Value) (w : World) (hT : U8w w) (hx : RdT w v cs) (hz : ∀ c ∈ cs, c.size ≤ 1048576) (hn' : cs.length ≤ 1048576) :
    Calls Tryd.prog 19 #[.int .i64 n, v] w fun e w' => e = .returned (.int .i64 (lcI n cs)) ∧ Below w.heap.size w w' := by
  have HV := Lib.hid (imCallsValid_c n cs v w hT hx hz hn')
  rcases Bool.eq_false_or_eq_true (csOk n cs) with h2 | h2
  · obtain ⟨h1, _, _, _⟩ := cs_at h2
    obtain ⟨m, rfl⟩ := Int.eq_ofNat_of_zero_le (show (0 : Int) ≤ n by omega)
    have HB := Lib.hid (fun W (hW : Below w.heap.size w W) => bestChoice_c m cs h2 v W (hT.below hW) (hx.below hW))
    rw [h2] at HV
    clear hx hz h1 h2 hT
    generalize lcI (m : Int) cs = ll at *
    generalize bpB (m : Int) cs = bb at *
    go_enter Tryd.func19, Tryd.ntmps19
    go_wp2_with fail
    refine HV.out.mono ?_
    rintro e w1 ⟨rfl, b1⟩
    go_wp2_with fail
    refine (HB.out _ b1).mono ?_
    rintro e w2 ⟨rfl, b2⟩
    go_wp2
    go_ret
    exact ⟨rfl, b1.trans (b2.mono b1.size)⟩
  · have HL : Hid (lcI n cs = -1) := by show _ = _; unfold lcI; rw [cho_no h2]; rfl
    rw [h2] at HV
    clear hx hz h2 hT
    generalize lcI n cs = ll at *
    go_enter Tryd.func19, Tryd.ntmps19
    go_wp2_with fail
    refine HV.out.mono ?_
    rintro e w1 ⟨rfl, b1⟩
    go_wp2
    go_ret
    exact ⟨by rw [HL.out]; rfl, b1⟩
set_option maxHeartbeats 800000 in
theorem imBestParams_c (n : Int) (cs : List ByteArray) (v : Value) (w : World) (hT : U8w w) (hx : RdT w v cs) (hz : ∀ c ∈ cs, c.size ≤ 1048576) (hn' : cs.length ≤ 1048576) :
    Calls Tryd.prog 25 #[.int .i64 n, v] w fun e w' => e = .returned (.tuple #[.string (bpB n cs), .bool (decide (0 ≤ lcI n cs))]) ∧ Below w.heap.size w w' := by
  have HV := Lib.hid (imCallsValid_c n cs v w hT hx hz hn')
  rw [lc_ok]
  rcases Bool.eq_false_or_eq_true (csOk n cs) with h2 | h2
  · obtain ⟨h1, _, _, _⟩ := cs_at h2
    obtain ⟨m, rfl⟩ := Int.eq_ofNat_of_zero_le (show (0 : Int) ≤ n by omega)
    have HB := Lib.hid (fun W (hW : Below w.heap.size w W) => bestChoice_c m cs h2 v W (hT.below hW) (hx.below hW))
    rw [h2] at HV ⊢
    clear hx hz h1 h2 hT
    generalize lcI (m : Int) cs = ll at *
    generalize bpB (m : Int) cs = bb at *
    go_enter Tryd.func25, Tryd.ntmps25
    go_wp2_with fail
    refine HV.out.mono ?_
    rintro e w1 ⟨rfl, b1⟩
    go_wp2_with fail
    refine (HB.out _ b1).mono ?_
    rintro e w2 ⟨rfl, b2⟩
    go_wp2
    go_ret2
    exact ⟨rfl, b1.trans (b2.mono b1.size)⟩
  · have HL : Hid (bpB n cs = ⟨#[]⟩) := by show _ = _; unfold bpB; rw [cho_no h2]; rfl
    rw [h2] at HV ⊢
    clear hx hz h2 hT
    generalize bpB n cs = ll at *
    go_enter Tryd.func25, Tryd.ntmps25
    go_wp2_with fail
    refine HV.out.mono ?_
    rintro e w1 ⟨rfl, b1⟩
    go_wp2
    go_ret2
    exact ⟨by rw [HL.out]; rfl, b1⟩
set_option maxHeartbeats 1600000 in
theorem imIsBest_c (ps : ByteArray) (hp : ps.size ≤ 1048576) (cs : List ByteArray) (v : Value) (w : World) (hT : U8w w) (hx : RdT w v cs) (hz : ∀ c ∈ cs, c.size ≤ 1048576) (hn' : cs.length ≤ 1048576) :
    Calls Tryd.prog 13 #[.string ps, v] w fun e w' => e = .returned (.bool (ibB ps cs)) ∧ Below w.heap.size w w' := by
  have HTC := Lib.hid (imTotalCost_c ps hp cs v w hT hx hz hn')
  have HL := Lib.hid (fun W (hW : Below w.heap.size w W) => imLeastCost_c (ps.size : Int) cs v W (hT.below hW) (hx.below hW) hz hn')
  have HO : Hid (ibB ps cs = (decide (0 ≤ tcI ps.data.toList cs) && decide (tcI ps.data.toList cs = lcI (ps.size : Int) cs))) := rfl
  obtain ⟨Av, cap, rfl, _, _, _⟩ := id hx.open
  rw [HO.out]
  clear hx hz HO hT
  generalize tcI ps.data.toList cs = tt at *
  generalize lcI (ps.size : Int) cs = ll at *
  by_cases h0 : 0 ≤ tt
  · rw [decide_eq_true h0, Bool.true_and]
    go_enter Tryd.func13, Tryd.ntmps13
    go_wp2_with fail
    refine HTC.out.mono ?_
    rintro e w1 ⟨rfl, hB⟩
    go_wp2_with fail
    refine (HL.out _ hB).mono ?_
    rintro e w2 ⟨rfl, hB2⟩
    go_wp2
    go_ret
    exact ⟨rfl, hB.trans (hB2.mono hB.size)⟩
  · rw [decide_eq_false h0, Bool.false_and]
    go_enter Tryd.func13, Tryd.ntmps13
    go_wp2_with fail
    refine HTC.out.mono ?_
    rintro e w1 ⟨rfl, hB⟩
    go_wp2
    go_ret
    exact ⟨rfl, hB⟩
end Go.Proofs.YthgcoocgeekdnaaDoor
namespace Go.Proofs.YthgcoocgeekdnaaDoor
open Go.RowKit Go.PM Go.PD Go.PF Go.Lib
attribute [local go_sem] Oper.semAt_some
def nmE (k j : Nat) : Value := .string (if j < k then ⟨#[regsL.getD j 0]⟩ else ⟨#[]⟩)
/-- the registers that are named, with no votes yet -/
def cd1 (k : Nat) : Array Value := #[nmE k 0, .int .i64 0, nmE k 1, .int .i64 0, nmE k 2, .int .i64 0, nmE k 3, .int .i64 0, nmE k 4, .int .i64 0, nmE k 5, .int .i64 0]
/-- the registers with votes -/
def cdC (v : Nat → Nat) : Array Value := #[.string ⟨#[97]⟩, .int .i64 (v 0 : Nat), .string ⟨#[98]⟩, .int .i64 (v 1 : Nat), .string ⟨#[99]⟩, .int .i64 (v 2 : Nat), .string ⟨#[100]⟩, .int .i64 (v 3 : Nat), .string ⟨#[101]⟩, .int .i64 (v 4 : Nat), .string ⟨#[102]⟩, .int .i64 (v 5 : Nat)]
theorem cd1_six (v : Nat → Nat) (h : ∀ j, j < 6 → v j = 0) : cd1 6 = cdC v := by
  unfold cd1 cdC
  rw [h 0 (by decide), h 1 (by decide), h 2 (by decide), h 3 (by decide), h 4 (by decide), h 5 (by decide)]
  rfl
theorem vtR_step (cs : List ByteArray) (i k : Nat) (hk : k < cs.length) (j : Nat) : vtR (cs.take (k + 1)) i j = vtR (cs.take k) i j + if cs[k].extract i (i + 1) = ch (regsL.getD j 0) then 1 else 0 := by
  unfold vtR votN
  rw [take_snoc cs k hk, List.countP_append, List.countP_singleton]
  simp only [decide_eq_true_eq]
theorem vtR_zero (cs : List ByteArray) (i j : Nat) : vtR (cs.take 0) i j = 0 := rfl
theorem vtR_le (cs : List ByteArray) (i j k : Nat) : vtR (cs.take k) i j ≤ cs.length := by
  have h1 : vtR (cs.take k) i j ≤ (cs.take k).length := List.countP_le_length
  rw [List.length_take] at h1
  omega
theorem cdC_congr {v v' : Nat → Nat} (h : ∀ j, j < 6 → v j = v' j) : cdC v = cdC v' := by
  unfold cdC
  rw [h 0 (by decide), h 1 (by decide), h 2 (by decide), h 3 (by decide), h 4 (by decide), h 5 (by decide)]
theorem cdC_all (v : Nat → Nat) : (cdC v).all (·.oneCell') = true := by simp [cdC, Value.oneCell']
/-- one vote more for the r-th register -/
def incV (v : Nat → Nat) (r j : Nat) : Nat := v j + if j = r then 1 else 0
theorem cdC_set (v : Nat → Nat) (r : Nat) (hr : r < 6) : (cdC v).setIfInBounds (r * 2 + 1) (.int .i64 ((v r : Int) + 1)) = cdC (incV v r) := by
  have h : r = 0 ∨ r = 1 ∨ r = 2 ∨ r = 3 ∨ r = 4 ∨ r = 5 := by omega
  rcases h with rfl | rfl | rfl | rfl | rfl | rfl <;> simp [cdC, incV]
theorem cd1_set (k : Nat) (hk : k < 6) : (cd1 k).setIfInBounds (k * 2) (.string ⟨#[regsL.getD k 0]⟩) = cd1 (k + 1) := by
  have h : k = 0 ∨ k = 1 ∨ k = 2 ∨ k = 3 ∨ k = 4 ∨ k = 5 := by omega
  rcases h with rfl | rfl | rfl | rfl | rfl | rfl <;> rfl

set_option maxRecDepth 100000 in
set_option maxHeartbeats 6400000 in
theorem candidatesAt_c (cs : List ByteArray) (i : Nat) (hi : ∀ c ∈ cs, i < c.size) (h5 : cs.length ≤ 5) (hi4 : i ≤ 4) (v : Value) (w : World) (hx : RdT w v cs) :
    Calls Tryd.prog 61 #[v, .int .i64 (i : Int)] w fun e w' => e = .returned (.agg (cdC (vtR cs i))) ∧ Below w.heap.size w w' := by
  obtain ⟨A, cap, rfl, hn, hc, hcell⟩ := hx.open
  clear hx
  have HI : Hid (∀ k (hk : k < cs.length), i < cs[k].size) := fun k hk => hi _ (List.getElem_mem hk)
  have HPY := Lib.hid (fun c n h W => positionIn_yes ⟨#[97, 98, 99, 100, 101, 102]⟩ c n h W)
  have HPN := Lib.hid (fun s h W => positionIn_no ⟨#[97, 98, 99, 100, 101, 102]⟩ s h W)
  have HX := Lib.hid (fun j hj => reg_ext j hj)
  have HS := Lib.hid (fun k hk j => vtR_step cs i k hk j)
  have HLE := Lib.hid (fun j k => vtR_le cs i j k)
  have HF : Hid (cdC (vtR (cs.take cs.length) i) = cdC (vtR cs i)) := by show _ = _; rw [List.take_length]
  have H6 : Hid (cd1 6 = cdC (vtR (cs.take 0) i)) := cd1_six _ (fun j _ => vtR_zero cs i j)
  have k0 : At (w.alloc (.cells (cd1 0) 80)) w.heap.size 80 (cd1 0) := At.new _ _ _
  have q0 : At ((w.alloc (.cells (cd1 0) 80)).alloc (.cells (cd1 0) 80)) (w.heap.size + 1) 80 (cd1 0) := by
    have := At.new (w.alloc (.cells (cd1 0) 80)) 80 (cd1 0)
    rwa [World.size_alloc] at this
  have B0 : Below w.heap.size w ((w.alloc (.cells (cd1 0) 80)).alloc (.cells (cd1 0) 80)) := by (repeat' (first | (with_reducible exact Below.refl _ _) | (with_reducible assumption) | (with_reducible refine Below.alloc ?_ ?_ _) | (with_reducible refine Below.drew ?_) | (with_reducible refine Below.setCell ?_ ?_ _) | (with_reducible exact Nat.le_refl _) | omega | ((repeat (first | rewrite [World.size_alloc] | rewrite [World.size_setCell] | rewrite [World.size_drew])); omega) | (simp; omega) | (simp; done)))
  have k0 := k0.alloc (.cells (cd1 0) 80)
  have HST := Lib.hid (And.intro k0 (And.intro q0 B0))
  clear k0 q0 B0 hi
  go_enter Tryd.func61, Tryd.ntmps61
  go_wp2
  go_loopw [6, 11] (fun _ i' wr => ∃ (k : Nat), k ≤ 6 ∧ i' = .int .i64 k ∧ At wr w.heap.size 80 (cd1 0) ∧ At wr (w.heap.size + 1) 80 (cd1 k) ∧ Below w.heap.size w wr) (fun _ i' _ => 6 - (RowKit.intOf i').toNat)
  case atStart => exact ⟨0, by omega, rfl, HST.out.1, HST.out.2.1, HST.out.2.2⟩
  case round =>
    obtain ⟨k, hk, rfl, g1, g2, hb⟩ := hrel
    by_cases hlt : k < 6
    · have i0 : (0 : Int) ≤ (k : Int) := by omega
      have i1 : (k : Int) < 6 := by omega
      have i2 : (k : Int) + 1 ≤ 6 := by omega
      have hxk := HX.out k hlt
      have hcs : k = 0 ∨ k = 1 ∨ k = 2 ∨ k = 3 ∨ k = 4 ∨ k = 5 := by omega
      have G1 := Lib.hid (g1.far (p := ⟨w.heap.size + 1, k * 2, none⟩) (by simp) (.string ⟨#[regsL.getD k 0]⟩))
      have G2 : Hid (At (wr.setCell ⟨w.heap.size + 1, k * 2, none⟩ (.string ⟨#[regsL.getD k 0]⟩)) (w.heap.size + 1) 80 (cd1 (k + 1))) := by
        show At _ _ _ _
        rw [← cd1_set k hlt]
        exact g2.set (k * 2) _
      have HB : Hid (Below w.heap.size w (wr.setCell ⟨w.heap.size + 1, k * 2, none⟩ (.string ⟨#[regsL.getD k 0]⟩))) := Below.setCell hb (by simp) _
      have f2 := g2.frozen (k * 2)
      have c2 : ∃ z, wr.cell? ⟨w.heap.size + 1, k * 2, none⟩ = some z := ⟨_, (g2.cell (k * 2)).trans (by rcases hcs with rfl | rfl | rfl | rfl | rfl | rfl <;> rfl)⟩
      have l2 := g2.lt
      obtain ⟨z, c2⟩ := c2
      clear g1 g2 hb
      generalize hwn : wr.setCell ⟨w.heap.size + 1, k * 2, none⟩ (.string ⟨#[regsL.getD k 0]⟩) = wn at *
      have HWN := Lib.hid hwn
      clear hwn
      rcases hcs with rfl | rfl | rfl | rfl | rfl | rfl
      all_goals
        go_wp2
        go_roundw
        case rel => exact ⟨_, by decide, rfl, by rw [← HWN.out] at G1; exact G1.out, by rw [← HWN.out] at G2; exact G2.out, by rw [← HWN.out] at HB; exact HB.out⟩
        case measure => simp [RowKit.intOf]
    · have hk6 : k = 6 := by omega
      have g3 : At wr (w.heap.size + 1) 80 (cdC (vtR (cs.take 0) i)) := by rw [← H6.out, ← hk6]; exact g2
      have hkz : (k : Int) = 6 := by omega
      rw [hkz]
      clear g2 hk6 hkz hlt hk
      have HG := Lib.hid (And.intro g1 (And.intro g3 hb))
      clear g1 g3 hb HST HX
      go_wp2
      rename World => wo
      go_loopw [8, 9, 10, 24] (fun _ _ _ i' wr => ∃ (k : Nat), k ≤ cs.length ∧ i' = .int .i64 k ∧ At wr w.heap.size 80 (cd1 0) ∧ At wr (w.heap.size + 1) 80 (cdC (vtR (cs.take k) i)) ∧ Below w.heap.size w wr) (fun _ _ _ i' _ => cs.length - (RowKit.intOf i').toNat)
      case atStart => exact ⟨0, by omega, rfl, HG.out.1, HG.out.2.1, HG.out.2.2⟩
      case round =>
        obtain ⟨k, hk, rfl, g1, g2, hb⟩ := hrel
        by_cases hlt : k < cs.length
        · obtain ⟨b, off, rfl, hbl, hc1⟩ := hcell k hlt
          have hd1 := (hb.cell (p := ⟨b, off + k, none⟩) hbl).trans hc1
          have hiq := HI.out k hlt
          have hst := fun j => HS.out k hlt j
          have hle := fun j => HLE.out j k
          have j0 : (0 : Int) ≤ (k : Int) := by omega
          have j1 : (k : Int) < (cs.length : Int) := by omega
          have m0 : (0 : Int) ≤ (i : Int) := by omega
          have m1 : (i : Int) + 1 ≤ (cs[k].size : Int) := by omega
          have m2 : (i : Int) < (cs[k].size : Int) := by omega
          have hlw : b < wr.heap.size := Nat.lt_of_lt_of_le hbl hb.size
          clear hc1 hcell HG
          generalize cs[k] = q at *
          have hex : q.extract i (i + 1) = ⟨#[q[i]]⟩ := extract_at q i hiq
          generalize q[i] = c at *
          by_cases hm : c ∈ regsL
          · have hr6 : regsL.idxOf c < 6 := List.idxOf_lt_length_of_mem hm
            have hget : regsL.getD (regsL.idxOf c) 0 = c := by
              rw [getD_lt hr6]; exact List.getElem_idxOf hr6
            have HP : Hid (∀ W, Calls Tryd.prog 82 #[.string ⟨#[97, 98, 99, 100, 101, 102]⟩, .string (q.extract i (i + 1))] W fun e w' => e = .returned (.tuple #[.int .i64 (regsL.idxOf c : Nat), .bool true]) ∧ W = w') := fun W => by
              rw [hex]
              exact HPY.out c (regsL.idxOf c) (by rw [indexByte_idx]; exact if_pos hm) W
            have HNX : Hid (cdC (incV (vtR (cs.take k) i) (regsL.idxOf c)) = cdC (vtR (cs.take (k + 1)) i)) := cdC_congr fun j hj => by
              rw [hst j, hex]
              unfold incV
              congr 1
              by_cases e : j = regsL.idxOf c
              · rw [if_pos e, if_pos (by rw [e, hget])]
              · rw [if_neg e, if_neg (fun e2 => e (reg_inj hj hr6 ((ch_inj e2).symm.trans hget.symm)))]
            have hcs : regsL.idxOf c = 0 ∨ regsL.idxOf c = 1 ∨ regsL.idxOf c = 2 ∨ regsL.idxOf c = 3 ∨ regsL.idxOf c = 4 ∨ regsL.idxOf c = 5 := by omega
            have hv5 := hle (regsL.idxOf c)
            generalize vtR (cs.take k) i = vf at *
            have hce : (cdC vf)[regsL.idxOf c * 2 + 1]? = some (.int .i64 (vf (regsL.idxOf c) : Nat)) := by rcases hcs with e | e | e | e | e | e <;> rw [e] <;> rfl
            generalize regsL.idxOf c = r at *
            have cc := (g2.cell (r * 2 + 1)).trans hce
            have fc := g2.frozen (r * 2 + 1)
            have lc := g2.lt
            have hv0 : (0 : Int) ≤ (vf r : Int) := by omega
            have hv1 : (vf r : Int) + 1 ≤ 6 := by omega
            have G1 := Lib.hid (g1.far (p := ⟨w.heap.size + 1, r * 2 + 1, none⟩) (by simp) (.int .i64 ((vf r : Int) + 1)))
            have G2 : Hid (At (wr.setCell ⟨w.heap.size + 1, r * 2 + 1, none⟩ (.int .i64 ((vf r : Int) + 1))) (w.heap.size + 1) 80 (cdC (vtR (cs.take (k + 1)) i))) := by
              show At _ _ _ _
              rw [← HNX.out, ← cdC_set vf r hr6]
              exact g2.set (r * 2 + 1) _
            have HB : Hid (Below w.heap.size w (wr.setCell ⟨w.heap.size + 1, r * 2 + 1, none⟩ (.int .i64 ((vf r : Int) + 1)))) := Below.setCell hb (by simp) _
            clear g1 g2 hb hst hle hce hex hget hm
            obtain ⟨wn, HWN⟩ : ∃ wn, Hid (wr.setCell ⟨w.heap.size + 1, r * 2 + 1, none⟩ (.int .i64 ((vf r : Int) + 1)) = wn) := ⟨_, rfl⟩
            rw [HWN.out] at G1 G2 HB
            obtain ⟨vr, hvr⟩ : ∃ vr : Nat, vr = vf r := ⟨_, rfl⟩
            rw [← hvr] at cc hv0 hv1 hv5 HWN
            clear hvr
            rcases hcs with rfl | rfl | rfl | rfl | rfl | rfl
            all_goals
              go_wp2_with (go_at_call 82; refine (HP.out _).mono ?_; rintro e w' ⟨rfl, rfl⟩)
              go_roundw
              case rel => exact ⟨k + 1, by omega, by go_num, by have h := G1.out; rw [← HWN.out] at h; exact h, by have h := G2.out; rw [← HWN.out] at h; exact h, by have h := HB.out; rw [← HWN.out] at h; exact h⟩
              case measure => simp [RowKit.intOf]; omega
          · have HP : Hid (∀ W, Calls Tryd.prog 82 #[.string ⟨#[97, 98, 99, 100, 101, 102]⟩, .string (q.extract i (i + 1))] W fun e w' => e = .returned (.tuple #[.int .i64 0, .bool false]) ∧ W = w') := fun W => by
              rw [hex]
              exact HPN.out ⟨#[c]⟩ (fun d hd hmm => hm (by have := ch_inj (c := c) (d := d) hd; rw [this]; exact hmm)) W
            have HNX : Hid (cdC (vtR (cs.take k) i) = cdC (vtR (cs.take (k + 1)) i)) := cdC_congr fun j hj => by
              rw [hst j, hex, if_neg (fun e2 => hm (by rw [ch_inj e2]; exact reg_mem j hj)), Nat.add_zero]
            rw [HNX.out] at g2
            have HG := Lib.hid (And.intro g1 (And.intro g2 hb))
            clear g1 g2 hst hle hex hm
            go_wp2_with (go_at_call 82; refine (HP.out _).mono ?_; rintro e w' ⟨rfl, rfl⟩)
            go_roundw
            case rel => exact ⟨k + 1, by omega, by go_num, HG.out.1, HG.out.2.1, HG.out.2.2⟩
            case measure => simp [RowKit.intOf]; omega
        · have hk' : k = cs.length := by omega
          subst hk'
          rw [HF.out] at g2
          have j1 : ¬ (cs.length : Int) < (cs.length : Int) := by omega
          clear hcell HG
          generalize hvf : vtR cs i = vf at *
          have HVF := Lib.hid hvf
          clear hvf
          go_wp2_with (first | (refine ld_row rfl 80 (.tmp 5) rfl (w.heap.size + 1) 80 (cdC vf) g2 (by rfl) 6 78 Tryd.underlying80 (by kernel_rfl) ?_) | (refine st_row rfl 80 (.tmp 4) (.tmp 46) rfl rfl w.heap.size 80 (cd1 0) (cdC vf) g1 (by rfl) (by rfl) (by kernel_rfl) rfl (cdC_all vf) ?_; intro W5 k5 g5; refine held ?_))
          unfold Held
          have hB5 := hb.trans (below_grown g5 (B := w.heap.size) hb.size (fun g e => by cases e; omega))
          go_wp2
          refine bodyPost_ret (v := .agg (cdC vf)) (results_row1 Tryd.results61 _ _ w.heap.size 80 (cdC vf) (by rfl) k5 6 78 Tryd.underlying80 (by kernel_rfl)) rfl ⟨by rw [HVF.out], hB5⟩
end Go.Proofs.YthgcoocgeekdnaaDoor
namespace Go.Proofs.YthgcoocgeekdnaaDoor
open Go.RowKit Go.PM Go.PD Go.PF Go.Lib Go.Sort
attribute [local go_sem] Oper.semAt_some
def ins_ren : Go.Shelf.Ren := ⟨fun | 20 => 104 | n => n, fun | 24 => 78 | 22 => 83 | 3 => 3 | 25 => 84 | 4 => 4 | 0 => 0 | n => n, fun | n => n⟩
theorem ins20 : Go.Proofs.SlLaysF0.n20 Tryd.prog ins_ren := {
  mixed := by kernel_rfl
  f20 := ⟨Tryd.f104.name, by decide, Tryd.func104.trans (congrArg some (by kernel_rfl))⟩
  t0 := Tryd.underlying0
  a0 := Tryd.isAgg0
  z0 := Tryd.sizeOf0
  v0 := Tryd.zeroValue0
  t3 := Tryd.underlying3
  a3 := Tryd.isAgg3
  z3 := Tryd.sizeOf3
  v3 := Tryd.zeroValue3
  t4 := Tryd.underlying4
  a4 := Tryd.isAgg4
  z4 := Tryd.sizeOf4
  v4 := Tryd.zeroValue4
  t22 := Tryd.underlying83
  a22 := Tryd.isAgg83
  z22 := Tryd.sizeOf83
  v22 := Tryd.zeroValue83
  t25 := Tryd.underlying84
  a25 := Tryd.isAgg84
  z25 := Tryd.sizeOf84
  v25 := Tryd.zeroValue84 }
/-- a candidate's cells -/
def encV (x : Cd) : List Value := [.string ⟨#[regsL.getD x.1 0]⟩, .int .i64 (x.2 : Nat)]
theorem cfV_cmp (x y : Cd) : compareInt (y.2 : Nat) (x.2 : Nat) = cfV x y := by
  unfold compareInt cfV
  by_cases h : y.2 < x.2
  · rw [if_pos (by omega), if_pos h]
  · rw [if_neg (by omega), if_neg h]
    by_cases h2 : x.2 < y.2
    · rw [if_pos (by omega), if_pos h2]
    · rw [if_neg (by omega), if_neg h2]
set_option maxHeartbeats 1000000 in
theorem byMost_c (x y : Cd) (W : World) : Calls Tryd.prog 63 #[.agg (encV x).toArray, .agg (encV y).toArray] W fun e w' => e = .returned (.int .i64 (cfV x y)) ∧ ∃ q os', w' = grow (W.drewN q) os' := by
  have hcon := fun W' => Tryd.cmp_Compare_int (y.2 : Nat) (x.2 : Nat) W'
  rw [cfV_cmp] at hcon
  generalize cfV x y = r at hcon ⊢
  change Calls Tryd.prog _ #[.agg #[.string ⟨#[regsL.getD x.1 0]⟩, .int .i64 (x.2 : Nat)], .agg #[.string ⟨#[regsL.getD y.1 0]⟩, .int .i64 (y.2 : Nat)]] W _
  generalize (⟨#[regsL.getD x.1 0]⟩ : ByteArray) = s1
  generalize (⟨#[regsL.getD y.1 0]⟩ : ByteArray) = s2
  go_enter Tryd.func63, Tryd.ntmps63
  go_wp2_with (go_at_call 84; refine (hcon _).mono ?_; rintro e w' ⟨rfl, rfl⟩)
  go_ret
  exact ⟨rfl, 0, _, by rw [alloc_eq_grow, alloc_eq_grow, grow_grow]; rfl⟩
theorem cmpLays (blk off size : Nat) (w : World) : CmpLays Tryd.prog 63 #[] encV 2 cfV blk off size w := fun _ _ _ _ x y => byMost_c x y _
theorem insert_c (blk cap : Nat) (d : Array Cd) (hd : d.size = 6) (w : World) (hH : HoldsK encV 2 w blk 0 d) (hb : blk < w.heap.size) :
    Calls Tryd.prog 104 #[.slice (some ⟨blk, 0, none⟩) 6 cap, .int .i64 0, .int .i64 6, .func (.func 63) #[] #[]] w fun e w' => e = .returned (.tuple #[]) ∧ ∃ n os, w' = sortWorldK encV 2 w blk 0 n (insertionSort ltV d 0 6) os := by
  have h := AnyQ.insertionSortCmpFunc ins20 2 Tryd.isAgg78 Tryd.sizeOf78 encV (fun _ => rfl) (fun x v hv => by simp [encV] at hv; rcases hv with rfl | rfl <;> rfl) cfV 63 #[] blk 0 cap 0 6 d w (enters_of Tryd.func63 (by kernel_rfl) rfl) (cmpLays blk 0 d.size w) hH hb (by omega) (by omega) (by omega)
  rw [hd] at h
  exact h
set_option maxHeartbeats 1000000 in
theorem stable_c (blk cap : Nat) (d : Array Cd) (hd : d.size = 6) (w : World) (hH : HoldsK encV 2 w blk 0 d) (hb : blk < w.heap.size) :
    Calls Tryd.prog 83 #[.slice (some ⟨blk, 0, none⟩) 6 cap, .int .i64 6, .func (.func 63) #[] #[]] w fun e w' => e = .returned (.tuple #[]) ∧ ∃ n os, w' = sortWorldK encV 2 w blk 0 n (insertionSort ltV d 0 6) os := by
  have hi := Lib.hid (insert_c blk cap d hd w hH hb)
  clear hH
  generalize insertionSort ltV d 0 6 = r at *
  go_enter Tryd.func83, Tryd.ntmps83
  go_wp2
  refine wp_loop_rounds 1 ?_
  rw [rounds_succ]
  go_wp2_with (go_at_call 104; refine hi.out.mono ?_; rintro e w' ⟨rfl, n, os, rfl⟩)
  refine wp_loop_rounds 1 ?_
  rw [rounds_succ]
  go_wp2
  go_end0
  exact ⟨rfl, n, os, rfl⟩
set_option maxHeartbeats 1000000 in
theorem sort_c (blk cap : Nat) (d : Array Cd) (hd : d.size = 6) (w : World) (hH : HoldsK encV 2 w blk 0 d) (hb : blk < w.heap.size) :
    Calls Tryd.prog 62 #[.slice (some ⟨blk, 0, none⟩) 6 cap, .func (.func 63) #[] #[]] w fun e w' => e = .returned (.tuple #[]) ∧ ∃ n os, w' = sortWorldK encV 2 w blk 0 n (insertionSort ltV d 0 6) os := by
  have hi := Lib.hid (stable_c blk cap d hd w hH hb)
  clear hH
  generalize insertionSort ltV d 0 6 = r at *
  go_enter Tryd.func62, Tryd.ntmps62
  go_wp2_with (go_at_call 83; refine hi.out.mono ?_; rintro e w' ⟨rfl, n, os, rfl⟩)
  go_end0
  exact ⟨rfl, n, os, rfl⟩
/-- what a row of candidates holds, cell by cell -/
theorem flat_at (d : Array Cd) (hd : d.size = 6) (k : Nat) (hk : k < 6) : (flatK encV 2 d)[k * 2]? = some (.string ⟨#[regsL.getD d[k]!.1 0]⟩) ∧ (flatK encV 2 d)[k * 2 + 1]? = some (.int .i64 (d[k]!.2 : Nat)) := by
  have hs : (flatK encV 2 d).size = 12 := by rw [size_flatK, hd]
  have g := get_flatK encV 2 d
  rw [hd] at g
  constructor
  · have := g (k * 2) (by omega)
    rw [getElem!_pos _ _ (by rw [hs]; omega)] at this
    rw [Array.getElem?_eq_getElem (by rw [hs]; omega), this, Nat.mul_div_cancel k (by decide), Nat.mul_mod_left]
    rfl
  · have := g (k * 2 + 1) (by omega)
    rw [getElem!_pos _ _ (by rw [hs]; omega)] at this
    rw [Array.getElem?_eq_getElem (by rw [hs]; omega), this, show (k * 2 + 1) / 2 = k by omega, show (k * 2 + 1) % 2 = 1 by omega]
    rfl
theorem flat_cds (v : Nat → Nat) : flatK encV 2 (cds v) = cdC v := by
  have hs := cds_size v
  have h : ∀ k, k < 6 → _ := fun k hk => flat_at (cds v) hs k hk
  have e : ∀ k, k < 6 → (cds v)[k]! = (k, v k) := fun k hk => cds_at v k hk
  apply Array.ext_getElem?
  intro i
  by_cases hi : i < 12
  · have h0 := h 0 (by decide); have h1 := h 1 (by decide); have h2 := h 2 (by decide); have h3 := h 3 (by decide); have h4 := h 4 (by decide); have h5 := h 5 (by decide)
    rw [e 0 (by decide)] at h0; rw [e 1 (by decide)] at h1; rw [e 2 (by decide)] at h2; rw [e 3 (by decide)] at h3; rw [e 4 (by decide)] at h4; rw [e 5 (by decide)] at h5
    have hcs : i = 0 ∨ i = 1 ∨ i = 2 ∨ i = 3 ∨ i = 4 ∨ i = 5 ∨ i = 6 ∨ i = 7 ∨ i = 8 ∨ i = 9 ∨ i = 10 ∨ i = 11 := by omega
    rcases hcs with rfl | rfl | rfl | rfl | rfl | rfl | rfl | rfl | rfl | rfl | rfl | rfl
    · exact h0.1
    · exact h0.2
    · exact h1.1
    · exact h1.2
    · exact h2.1
    · exact h2.2
    · exact h3.1
    · exact h3.2
    · exact h4.1
    · exact h4.2
    · exact h5.1
    · exact h5.2
  · rw [Array.getElem?_eq_none (by rw [size_flatK, hs]; omega), Array.getElem?_eq_none (by show 12 ≤ i; omega)]
theorem holds_of_at {w : World} {b : Nat} {t : TypeId} (d : Array Cd) (h : At w b t (flatK encV 2 d)) : HoldsK encV 2 w b 0 d := fun j hj => by
  rw [Nat.zero_add]
  refine ⟨?_, h.frozen j⟩
  rw [h.cell j, Array.getElem?_eq_getElem hj, getElem!_pos _ j hj]; rfl
theorem sorted_at {w : World} {b n : Nat} {t : TypeId} {cs : Array Value} {d : Array Cd} {os : Array Obj} (h : At w b t cs) (hs : d.size * 2 = cs.size) :
    At (sortWorldK encV 2 w b 0 n d os) b t (flatK encV 2 d) ∧ w.grownBy (sortWorldK encV 2 w b 0 n d os) (some b) := by
  have hlt := h.lt
  have hp : (putRowK encV 2 (Sort.ahead w n) b 0 d).heap = w.heap.modify b (onCells (putCells id 0 (flatK encV 2 d))) := rfl
  have hz : (putRowK encV 2 (Sort.ahead w n) b 0 d).heap.size = w.heap.size := by rw [hp, Array.size_modify]
  constructor
  · unfold At at h ⊢
    unfold sortWorldK
    rw [heap_grow_old _ _ (by rw [hz]; exact hlt), hp, Array.getElem?_modify, if_pos rfl, h]
    show some (Obj.cells (putCells id 0 (flatK encV 2 d) cs) t (0, 0)) = _
    congr 2
    unfold putCells
    apply Array.ext
    · rw [Array.size_mapIdx, size_flatK]; exact hs.symm
    · intro i h1 h2
      rw [Array.getElem_mapIdx, if_pos ⟨Nat.zero_le _, by rw [Nat.zero_add]; exact h2⟩, Nat.sub_zero, getElem!_pos _ i h2]
      rfl
  · refine ⟨rfl, rfl, rfl, ?_, fun k hk hne => ?_⟩
    · unfold sortWorldK; rw [size_grow, hz]; omega
    · unfold sortWorldK
      rw [heap_grow_old _ _ (by rw [hz]; exact hk), hp, Array.getElem?_modify, if_neg (fun e => hne (by rw [e]))]
end Go.Proofs.YthgcoocgeekdnaaDoor
namespace Go.Proofs.YthgcoocgeekdnaaDoor
open Go.RowKit Go.PM Go.PD Go.PF Go.Lib
attribute [local go_sem] Oper.semAt_some
set_option maxHeartbeats 1000000 in
theorem elected1_c (taken : ByteArray) (c : UInt8) (z : Int) (b : Nat) (W : World) (hc : W.cell? ⟨b, 0, none⟩ = some (.string taken)) (hb : b < W.heap.size) :
    Calls Tryd.prog 65 #[.agg #[.string ⟨#[c]⟩, .int .i64 z], .pointer (some ⟨b, 0, none⟩)] W fun e w' => e = .returned (.bool (decide (c ∉ taken.data.toList))) ∧ Below W.heap.size W w' := by
  have HC : Hid (∀ V : World, Calls Tryd.prog 66 #[.string taken, .string ⟨#[c]⟩] V fun e w' => e = .returned (.bool (decide (c ∈ taken.data.toList))) ∧ V = w') := fun V =>
    (Tryd.strings_Contains_one taken c V).mono fun _ _ ⟨e1, e2⟩ => ⟨by rw [e1]; congr 2; simp only [indexByte_mem], e2.symm⟩
  have HO : Hid (decide (c ∉ taken.data.toList) = !decide (c ∈ taken.data.toList)) := by show _ = _; simp
  rw [HO.out]
  generalize decide (c ∈ taken.data.toList) = r at *
  clear HO
  generalize (⟨#[c]⟩ : ByteArray) = s at *
  go_enter Tryd.func65, Tryd.ntmps65
  go_wp2_with (go_at_call 66; refine (HC.out _).mono ?_; rintro e w' ⟨rfl, rfl⟩)
  go_ret
  exact ⟨rfl, (Below.refl _ _).alloc (Nat.le_refl _) _⟩
set_option maxRecDepth 100000 in
set_option maxHeartbeats 3200000 in
theorem candIndex_c (taken : ByteArray) (bt blk cap : Nat) (d : Array Cd) (hd : d.size = 6) (p : Nat) (hp : p < 6) (hfp : frR taken.data.toList d[p]!.1 = true) (hlow : ∀ q, q < p → frR taken.data.toList d[q]!.1 = false)
    (w : World) (hA : At w blk 80 (Sort.flatK encV 2 d)) (hT : At w bt 9 #[.string taken]) :
    Calls Tryd.prog 64 #[.slice (some ⟨blk, 0, none⟩) 6 cap, .func (.func 65) #[] #[.pointer (some ⟨bt, 0, none⟩)]] w fun e w' => e = .returned (.int .i64 (p : Nat)) ∧ Below w.heap.size w w' := by
  have HF := Lib.hid (fun k hk => flat_at d hd k hk)
  have HE := Lib.hid (fun c z W hc hb => elected1_c taken c z bt W hc hb)
  have HFR : Hid (∀ k, frR taken.data.toList k = decide (regsL.getD k 0 ∉ taken.data.toList)) := fun k => rfl
  have hbl := hA.lt
  have hbt := hT.lt
  have HL := Lib.hid hlow
  have HP := Lib.hid hfp
  clear hlow hfp
  go_enter Tryd.func64, Tryd.ntmps64
  go_wp2
  go_loopw [5, 8] (fun _ i wr => ∃ (k : Nat), k ≤ p ∧ i = .int .i64 k ∧ Below w.heap.size w wr) (fun _ i _ => 6 - (RowKit.intOf i).toNat)
  case atStart => exact ⟨0, by omega, rfl, Below.refl _ _⟩
  case round =>
    obtain ⟨k, hk, rfl, hb⟩ := hrel
    have hk6 : k < 6 := by omega
    have hbs := hb.size
    have hA2 := hA.keep hb
    have hT2 := hT.keep hb
    have d1 := (hA2.cell (k * 2)).trans (HF.out k hk6).1
    have d2 := (hA2.cell (k * 2 + 1)).trans (HF.out k hk6).2
    have d3 : wr.cell? ⟨bt, 0, none⟩ = some (.string taken) := hT2.cell 0
    have l1 := hA2.lt
    have l2 := hT2.lt
    have i0 : (0 : Int) ≤ (k : Int) := by omega
    have i1 : (k : Int) < 6 := by omega
    have HEK := Lib.hid (HE.out (regsL.getD d[k]!.1 0) (d[k]!.2 : Nat) wr d3 l2)
    rw [← HFR.out] at HEK
    have HLK := Lib.hid (HL.out k)
    have HPK : Hid (k = p → frR taken.data.toList d[k]!.1 = true) := fun e => by rw [e]; exact HP.out
    clear hA2 hT2 d3
    generalize frR taken.data.toList d[k]!.1 = fr at *
    generalize (d[k]!.2 : Nat) = z at *
    generalize regsL.getD d[k]!.1 0 = c at *
    cases fr with
    | true =>
      have hkp : Hid (k = p) := by
        show k = p
        by_cases e : k = p
        · exact e
        · have := HLK.out (by omega); cases this
      go_wp2_with fail
      refine HEK.out.mono ?_
      rintro e w2 ⟨rfl, hb2⟩
      have hbw := hb.trans (hb2.mono hbs)
      go_wp2
      go_ret
      exact ⟨by rw [hkp.out]; rfl, hbw⟩
    | false =>
      have hkp : k ≠ p := fun e => by have := HPK.out e; cases this
      go_wp2_with fail
      refine HEK.out.mono ?_
      rintro e w2 ⟨rfl, hb2⟩
      have hbw := hb.trans (hb2.mono hbs)
      go_wp2
      go_roundw
      case rel => exact ⟨k + 1, by omega, by go_num, hbw⟩
      case measure => simp [RowKit.intOf]; omega
set_option maxRecDepth 100000 in
set_option maxHeartbeats 3200000 in
theorem elected_c (cs : List ByteArray) (i : Nat) (hi : ∀ c ∈ cs, i < c.size) (h5 : cs.length ≤ 5) (hi4 : i ≤ 4) (taken : ByteArray) (ht : taken.size ≤ 5) (v : Value) (w : World) (hx : RdT w v cs) :
    Calls Tryd.prog 45 #[v, .int .i64 (i : Int), .string taken] w fun e w' => e = .returned (.string ⟨(grK cs i taken.data.toList 6).toArray⟩) ∧ Below w.heap.size w w' := by
  obtain ⟨A, cap, rfl, _, _, _⟩ := id hx.open
  obtain ⟨p, hp, hfp, hlow⟩ := elect_some (vtR cs i) taken.data.toList (by rw [size_data]; exact ht)
  have HEL := Lib.hid (elect_is cs i taken.data.toList hp hfp hlow)
  obtain ⟨hs6, _, _⟩ := srtV_spec (vtR cs i)
  have B0 : Below w.heap.size w (w.alloc (.cells #[.string taken] 9)) := (Below.refl _ _).alloc (Nat.le_refl _) _
  have t0 : At (w.alloc (.cells #[.string taken] 9)) w.heap.size 9 #[.string taken] := At.new _ _ _
  have HCA := Lib.hid (candidatesAt_c cs i hi h5 hi4 (.slice A cs.length cap) _ (hx.below B0))
  have HSC := Lib.hid (fun b W hH hb => sort_c b 6 (cds (vtR cs i)) (cds_size _) W hH hb)
  have HIX := Lib.hid (fun b W hA hT => candIndex_c taken w.heap.size b 6 (srtV (vtR cs i)) hs6 p hp hfp hlow W hA hT)
  rw [show Sort.insertionSort ltV (cds (vtR cs i)) 0 6 = srtV (vtR cs i) from rfl] at HSC
  have HFC : Hid (Sort.flatK encV 2 (cds (vtR cs i)) = cdC (vtR cs i)) := flat_cds _
  have HFL := Lib.hid (flat_at (srtV (vtR cs i)) hs6 p hp)
  have HSZ : Hid ((srtV (vtR cs i)).size * 2 = (cdC (vtR cs i)).size) := by show _ = _; rw [hs6]; rfl
  have HALL := Lib.hid (cdC_all (vtR cs i))
  have HZS : Hid ((cdC (vtR cs i)).size = 12) := rfl
  rw [HEL.out]
  clear hx hi hfp hlow HEL hs6
  go_enter Tryd.func45, Tryd.ntmps45
  go_wp2_with fail
  refine HCA.out.mono ?_
  rintro e w1 ⟨rfl, hb1⟩
  have t1 := t0.keep hb1
  have B1 := B0.trans (hb1.mono B0.size)
  have s1 := B1.size
  have q1 : At (w1.alloc (.cells (cd1 0) 80)) w1.heap.size 80 (cd1 0) := At.new _ _ _
  have B2 : Below w.heap.size w (w1.alloc (.cells (cd1 0) 80)) := B1.alloc s1 _
  have t2 := t1.alloc (.cells (cd1 0) 80)
  have lt2 := t2.lt
  have hz2 : (w1.alloc (.cells (cd1 0) 80)).heap.size = w1.heap.size + 1 := World.size_alloc _ _
  have lw1 := t1.lt
  clear t0 t1 B0 B1 hb1 HCA
  generalize hvf : vtR cs i = vf at *
  have HVF := Lib.hid hvf
  clear hvf
  have HZ2 := Lib.hid hz2
  clear hz2
  go_wp2_with (refine st_row rfl 80 (.tmp 7) (.tmp 11) rfl rfl w1.heap.size 80 (cd1 0) (cdC vf) q1 (by rfl) (by rfl) (by kernel_rfl) rfl HALL.out ?_; intro W5 k5 g5; refine held ?_)
  unfold Held
  have B5 := B2.trans (below_grown g5 (B := w.heap.size) B2.size (fun g e => by cases e; exact s1))
  have t5 : At W5 w.heap.size 9 #[.string taken] := t2.grown g5 (fun e => by have := Option.some.inj e; omega)
  have HHK := Lib.hid (HSC.out w1.heap.size W5 (holds_of_at _ (by rw [HFC.out]; exact k5)) k5.lt)
  have HK5 := Lib.hid k5
  have HT5 := Lib.hid t5
  have HB5 := Lib.hid B5
  have HG5 := Lib.hid g5
  have l5 := k5.lt
  clear q1 B2 t2 lt2 HSC k5 t5 B5 g5
  go_wp2_with fail
  refine HHK.out.mono ?_
  rintro e w6 ⟨rfl, n6, os6, hw6⟩
  obtain ⟨k6, g6⟩ := sorted_at (n := n6) (os := os6) (d := srtV vf) HK5.out HSZ.out
  rw [← hw6] at k6 g6
  clear hw6
  have B6 := HB5.out.trans (below_grown g6 (B := w.heap.size) HB5.out.size (fun g e => by cases e; exact s1))
  have t6 : At w6 w.heap.size 9 #[.string taken] := HT5.out.grown g6 (fun e => by have := Option.some.inj e; omega)
  have HXX := Lib.hid (HIX.out w1.heap.size w6 k6 t6)
  have HK6 := Lib.hid k6
  have HB6 := Lib.hid B6
  have l6 := k6.lt
  clear k6 g6 B6 t6 HIX HHK HK5 HT5
  go_wp2_with fail
  refine HXX.out.mono ?_
  rintro e w7 ⟨rfl, hb7⟩
  have k7 := HK6.out.keep hb7
  have B7 := HB6.out.trans (hb7.mono HB6.out.size)
  have l7 := k7.lt
  have c7 := (k7.cell (p * 2)).trans HFL.out.1
  have p0 : (0 : Int) ≤ (p : Int) := by omega
  have p1 : (p : Int) < 6 := by omega
  have HB7 := Lib.hid B7
  clear k7 B7 hb7 HK6 HB6 HXX
  generalize hcc : regsL.getD (srtV vf)[p]!.1 0 = c at *
  have HCC := Lib.hid hcc
  clear hcc
  go_wp2
  go_ret
  exact ⟨by rw [HVF.out, HCC.out]; rfl, HB7.out⟩
set_option maxRecDepth 100000 in
set_option maxHeartbeats 3200000 in
theorem imGreedyParams_c (n : Int) (cs : List ByteArray) (v : Value) (w : World) (hT : U8w w) (hx : RdT w v cs) (hz : ∀ c ∈ cs, c.size ≤ 1048576) (hn' : cs.length ≤ 1048576) :
    Calls Tryd.prog 28 #[.int .i64 n, v] w fun e w' => e = .returned (.tuple #[.string (gpB n cs), .bool (csOk n cs)]) ∧ Below w.heap.size w w' := by
  have HV := Lib.hid (imCallsValid_c n cs v w hT hx hz hn')
  obtain ⟨A, cap, rfl, _, _, _⟩ := id hx.open
  rcases Bool.eq_false_or_eq_true (csOk n cs) with h2 | h2
  · obtain ⟨h1, h4, h5, _⟩ := cs_at h2
    have hs := cs_size h2
    obtain ⟨m, rfl⟩ := Int.eq_ofNat_of_zero_le (show (0 : Int) ≤ n by omega)
    have HE := Lib.hid (fun i (hi : i < m) tk htk W (hW : Below w.heap.size w W) => elected_c cs i (fun c hc => by have := hs c hc; omega) h5 (by omega) tk htk (.slice A cs.length cap) W (hx.below hW))
    have HO : Hid (gpB (m : Int) cs = gB cs m) := by show _ = _; unfold gpB; rw [h2]; rfl
    have HG : Hid (∀ i, gB cs (i + 1) = gB cs i ++ ⟨(grK cs i (grF cs i) 6).toArray⟩) := fun i => by
      unfold gB
      show (⟨(grF cs i ++ grK cs i (grF cs i) 6).toArray⟩ : ByteArray) = _
      apply ByteArray.ext
      rw [ByteArray.data_append]; simp
    have HL : Hid (∀ i, (gB cs i).data.toList = grF cs i) := fun i => by simp [gB]
    have HZ : Hid (∀ i, (gB cs i).size ≤ i) := fun i => by
      have := grF_len cs i
      show (grF cs i).toArray.size ≤ i
      rw [List.size_toArray]; exact this
    have HZK : Hid (∀ i, (⟨(grK cs i (grF cs i) 6).toArray⟩ : ByteArray).size ≤ 1) := fun i => by
      have := grK_len cs i (grF cs i) 6
      show (grK cs i (grF cs i) 6).toArray.size ≤ 1
      rw [List.size_toArray]; exact this
    have H0 : Hid (gB cs 0 = ⟨#[]⟩) := rfl
    rw [h2] at HV ⊢
    have hm4 : m ≤ 4 := by omega
    clear hx hz h1 h2 hs hT h4
    go_enter Tryd.func28, Tryd.ntmps28
    go_wp2_with fail
    refine HV.out.mono ?_
    rintro e w1 ⟨rfl, b1⟩
    go_wp2
    go_loopw [6, 7, 13] (fun o _ i' wr => ∃ (i : Nat), i ≤ m ∧ i' = .int .i64 i ∧ o = .string (gB cs i) ∧ Below w.heap.size w wr) (fun _ _ i' _ => m - (RowKit.intOf i').toNat)
    case atStart => exact ⟨0, by omega, rfl, by rw [H0.out], b1⟩
    case round =>
      obtain ⟨i, hi, rfl, rfl, hb⟩ := hrel
      have hbs := hb.size
      by_cases hlt : i < m
      · have i0 : (0 : Int) ≤ (i : Int) := by omega
        have i1 : (i : Int) < (m : Int) := by omega
        have hzi := HZ.out i
        have hzk := HZK.out i
        have HEI := Lib.hid (HE.out i hlt (gB cs i) (by omega) wr hb)
        rw [HL.out i] at HEI
        have hg := HG.out i
        obtain ⟨nx, HNX⟩ : ∃ nx, Hid (gB cs (i + 1) = nx) := ⟨_, rfl⟩
        rw [HNX.out] at hg
        generalize (⟨(grK cs i (grF cs i) 6).toArray⟩ : ByteArray) = kk at *
        generalize gB cs i = gg at *
        have HGG := Lib.hid hg
        clear hg
        go_wp2_with fail
        refine HEI.out.mono ?_
        rintro e w2 ⟨rfl, hb2⟩
        have hbw := hb.trans (hb2.mono hbs)
        go_wp2
        go_roundw
        case rel => exact ⟨i + 1, by omega, by go_num, by rw [HNX.out, HGG.out], hbw⟩
        case measure => simp [RowKit.intOf]; omega
      · have HIM : Hid (i = m) := by show _ = _; omega
        have i1 : ¬ (i : Int) < (m : Int) := by omega
        go_wp2
        go_ret2
        exact ⟨by rw [HO.out, HIM.out]; rfl, hb⟩
  · have HO : Hid (gpB n cs = ⟨#[]⟩) := by show _ = _; unfold gpB; rw [h2]; rfl
    rw [h2] at HV ⊢
    clear hx hz h2 hT
    generalize gpB n cs = g at *
    go_enter Tryd.func28, Tryd.ntmps28
    go_wp2_with fail
    refine HV.out.mono ?_
    rintro e w1 ⟨rfl, b1⟩
    go_wp2
    go_ret2
    exact ⟨by rw [HO.out]; rfl, b1⟩
end Go.Proofs.YthgcoocgeekdnaaDoor
namespace Go.Proofs.YthgcoocgeekdnaaDoor
open Go.RowKit Go.PM Go.ChangeShapes Go.WideShapes
abbrev laidL : List (String × DataW Unit) := [("unicode/utf8.acceptRanges", Rows.laid_unicode_utf8_acceptRanges), ("unicode/utf8.first", Rows.laid_unicode_utf8_first)]
set_option maxRecDepth 100000 in
theorem accept_eq : (Rows.laid_unicode_utf8_acceptRanges : DataW Unit) = Lib.acceptData := by kernel_rfl
set_option maxRecDepth 100000 in
theorem first_eq : Rows.laid_unicode_utf8_first = Lib.firstData := by kernel_rfl
theorem u8_types : Go.Proofs.U8Types Tryd.prog u8ren := U8Types.of260 u8lays
set_option maxRecDepth 100000 in
theorem u8_extra : Go.Proofs.U8Extra Tryd.prog u8ren := ⟨by kernel_rfl, by kernel_rfl, by kernel_rfl, by kernel_rfl, by kernel_rfl, by kernel_rfl, by kernel_rfl⟩
theorem u8_of_laid {W : World} (h : laidMetH Tryd.prog laidL W) : U8w W := by
  have h' : laidMet Tryd.prog [("unicode/utf8.acceptRanges", Rows.laid_unicode_utf8_acceptRanges), ("unicode/utf8.first", Rows.laid_unicode_utf8_first)] W := h
  rw [accept_eq, first_eq] at h'
  exact utf8Tabs_of_readsT u8_types u8_extra (Lib.laidMet.reads h' (.tail _ (.head _))) (Lib.laidMet.reads h' (.head _))
noncomputable def laidWorld (os : Os) : World :=
  let w0 := World.holding Tryd.prog os ⟨#[], #[], []⟩
  { w0 with heap := (w0.heap.modify 1 fun
      | .cells _ t frozen => .cells (Lib.firstTab.map fun z => Value.int .u8 z).toArray t frozen
      | o => o).modify 2 fun
      | .cells _ t frozen => .cells ((List.range 16).flatMap fun i => [Value.int .u8 (Lib.accLo i), Value.int .u8 (Lib.accHi i)]).toArray t frozen
      | o => o }
set_option maxRecDepth 100000 in
theorem laidWorld_met (os : Os) (args : Array Value) : laidMetH Tryd.prog laidL ((laidWorld os).forCall (fun _ _ => 0) ⟨#[], args, []⟩).memory := by
  show laidMet Tryd.prog laidL _
  exact laidMet_of_run' 8 (by kernel_rfl) (by kernel_rfl)
end Go.Proofs.YthgcoocgeekdnaaDoor
namespace Go.PM
open Go.RowKit
def tsize : List ByteArray → Nat
  | [] => 0
  | x :: xs => x.size + 1 + tsize xs
theorem tsize_len (xs : List ByteArray) : xs.length ≤ tsize xs := by
  induction xs with
  | nil => simp [tsize]
  | cons x xs ih => simp only [tsize, List.length_cons]; omega
theorem tsize_append (xs ys : List ByteArray) : tsize (xs ++ ys) = tsize xs + tsize ys := by
  induction xs with
  | nil => simp [tsize]
  | cons x xs ih => simp only [List.cons_append, tsize, ih]; omega
theorem tsize_mem {xs : List ByteArray} {n : Nat} (h : tsize xs ≤ n) : ∀ c ∈ xs, c.size ≤ n := by
  induction xs with
  | nil => simp
  | cons x xs ih =>
    simp only [tsize] at h
    intro c hc
    rcases List.mem_cons.1 hc with rfl | hc
    · omega
    · exact ih (by omega) c hc
theorem tsize_take_succ (xs : List ByteArray) (k : Nat) (hk : k < xs.length) : tsize (xs.take (k+1)) = tsize (xs.take k) + xs[k].size + 1 := by
  rw [take_snoc xs k hk, tsize_append]; simp only [tsize]; omega
def thalf (xs : List ByteArray) (k : Nat) : List Value := tcells (xs.take k) ++ List.replicate (xs.length - k) (Value.string ⟨#[]⟩)
theorem thalf_at (xs : List ByteArray) (k : Nat) (hk : k < xs.length) : (thalf xs k)[k]? = some (Value.string ⟨#[]⟩) := by
  have hl : (tcells (xs.take k)).length = k := by rw [tcells_length, List.length_take]; omega
  obtain ⟨d, hd⟩ : ∃ d, xs.length - k = d + 1 := ⟨xs.length - k - 1, by omega⟩
  unfold thalf
  rw [hd, List.replicate_succ, List.getElem?_append_right (by omega), hl]; simp
theorem thalf_set (xs : List ByteArray) (k : Nat) (hk : k < xs.length) : (thalf xs k).set k (.string xs[k]) = thalf xs (k+1) := by
  have hl : (tcells (xs.take k)).length = k := by rw [tcells_length, List.length_take]; omega
  obtain ⟨d, hd⟩ : ∃ d, xs.length - k = d + 1 := ⟨xs.length - k - 1, by omega⟩
  unfold thalf
  rw [hd, List.replicate_succ, show xs.length - (k+1) = d by omega, take_snoc xs k hk, tcells_append, List.set_append_right _ _ (by omega), hl, Nat.sub_self]
  simp [tcells]
theorem thalf_zero (xs : List ByteArray) : thalf xs 0 = (List.replicate xs.length [Value.string ⟨#[]⟩]).flatten := by
  unfold thalf
  rw [List.take_zero, Nat.sub_zero]
  induction xs.length with
  | zero => rfl
  | succ n ih => rw [List.replicate_succ, List.replicate_succ, List.flatten_cons, ← ih]; rfl
theorem thalf_full (xs : List ByteArray) : thalf xs xs.length = tcells xs := by simp [thalf]
end Go.PM
namespace Go.Proofs.YthgcoocgeekdnaaDoor
open Go.RowKit Go.PM Go.ChangeShapes Go.WideShapes Go.Deep

set_option maxHeartbeats 400000 in
theorem szStringS_c (xs : List ByteArray) (v : Value) (left : Int) (w : World) (h0 : 0 ≤ left) (h1 : left ≤ 1048576) (hx : RdT w v xs) (hz : ∀ m ∈ xs, m.size ≤ 9223372036854775807) :
    Calls Tryd.prog 20 #[v, .int .i64 left] w fun e w' => (∃ r : Int, e = .returned (.int .i64 r) ∧ (0 ≤ r → r + tsize xs = left) ∧ r ≤ left) ∧ Below w.heap.size w w' := by
  obtain ⟨A, cap, rfl, hn, hc, hcell⟩ := hx.open
  by_cases c1 : left - (xs.length : Int) < 0
  · go_enter Tryd.func20, Tryd.ntmps20
    go_wp2
    go_ret
    exact ⟨⟨-1, rfl, by omega, by omega⟩, Below.refl _ _⟩
  go_enter Tryd.func20, Tryd.ntmps20
  go_wp2
  go_loopw [1, 5] (fun l i wr => ∃ (k : Nat) (r : Int), k ≤ xs.length ∧ i = .int .i64 k ∧ l = .int .i64 r ∧ 0 ≤ r ∧ r ≤ 1048576 ∧ r ≤ left ∧ Hid (r + tsize (xs.take k) + (xs.length - k) = left) ∧ Below w.heap.size w wr) (fun _ i _ => xs.length - (intOf i).toNat)
  case atStart => exact ⟨0, _, by omega, rfl, rfl, by omega, by omega, by omega, by show _ = _; simp [tsize], Below.refl _ _⟩
  case round =>
    obtain ⟨k, r, hk, rfl, rfl, hr0, hr1, hr2, hr3, hb⟩ := hrel
    by_cases hlt : k < xs.length
    · obtain ⟨b, off, rfl, hbl, hc1⟩ := hcell k hlt
      have hd1 := (hb.cell (p := ⟨b, off + k, none⟩) hbl).trans hc1
      have hzz := hz xs[k] (List.getElem_mem hlt)
      clear hc1
      have hts := tsize_take_succ xs k hlt
      have HR : Hid (∀ r' : Int, r' + (xs[k].size : Int) = r → r' + tsize (xs.take (k+1)) + (xs.length - ((k + 1 : Nat) : Int)) = left) := by
        intro r' h'; have := hr3; unfold Hid at this; rw [hts]; push_cast; omega
      clear hts hcell
      generalize xs[k] = q at *
      by_cases hneg : r - (q.size : Int) < 0
      · go_wp2
        go_ret
        exact ⟨⟨-1, rfl, by omega, by omega⟩, hb⟩
      · go_wp2
        go_roundw
        case rel => exact ⟨k + 1, _, by omega, by go_num, rfl, by omega, by omega, by omega, HR.out _ (by omega), hb⟩
        case measure => simp [intOf]; omega
    · have hk' : k = xs.length := by omega
      have hr3' := hr3.out
      rw [hk', List.take_of_length_le (Nat.le_refl _)] at hr3'
      have HR : Hid (r + (tsize xs : Int) = left) := by show _ = _; omega
      clear hr3' hk'
      go_wp2
      go_ret
      exact ⟨⟨r, rfl, fun _ => HR.out, hr2⟩, hb⟩
theorem infoTx : (Tryd.prog.info? 9).map (fun i => (i.zero, i.size, i.bytes)) = some (some (.string ⟨#[]⟩), 1, 16) := by kernel_rfl
set_option maxHeartbeats 400000 in
theorem toStringS_c (xs : List ByteArray) (v : Value) (w : World) (hx : RdT w v xs) (hn' : xs.length ≤ 1048576) :
    Calls Tryd.prog 22 #[v] w fun e w' => ∃ v', e = .returned v' ∧ w'.ownsRow w.heap.size 9 1 v' xs.length (tcells xs) ∧ Below w.heap.size w w' := by
  obtain ⟨A, cap, rfl, hn, hc, hcell⟩ := hx.open
  obtain ⟨i0, hi0, hz0, hz1, hz2⟩ := info_parts infoTx
  have hmk := fun W : World => run_make (P := Tryd.prog) W 23 9 i0 _ Tryd.underlying23 hi0 hz0 .i64 .i64 xs.length xs.length (by omega) (Int.le_refl _) (by rw [hz2]; omega) (by omega)
  simp only [Int.toNat_natCast, hz1] at hmk
  have hO := own_made w w.heap.size 9 #[Value.string ⟨#[]⟩] 1 xs.length rfl (by omega) (by omega) (Nat.le_refl _)
  have hB : Below w.heap.size w (w.alloc (Obj.cells (madeCells #[Value.string ⟨#[]⟩] (xs.length * 1)) 9)) := (Below.refl _ _).alloc (Nat.le_refl _) _
  rw [Nat.mul_one] at hO hB
  simp only [Nat.mul_one] at hmk
  go_enter Tryd.func22, Tryd.ntmps22
  go_wp2
  generalize (w.alloc (Obj.cells (madeCells #[Value.string ⟨#[]⟩] xs.length) 9)) = W1 at *
  go_loopw [4] (fun i wr => ∃ (k : Nat), k ≤ xs.length ∧ i = .int .i64 k ∧ wr.ownsRow w.heap.size 9 1 (.slice (some ⟨w.heap.size, 0, none⟩) xs.length xs.length) xs.length (thalf xs k) ∧ Below w.heap.size w wr) (fun i _ => xs.length - (intOf i).toNat)
  case atStart => exact ⟨0, by omega, rfl, by rw [thalf_zero]; exact hO, hB⟩
  case round =>
    obtain ⟨k, hk, rfl, ho, hb⟩ := hrel
    by_cases hlt : k < xs.length
    · obtain ⟨b, off, rfl, hbl, hc1⟩ := hcell k hlt
      have hd1 := (hb.cell (p := ⟨b, off + k, none⟩) hbl).trans hc1
      clear hc1 hcell
      have hf1 := ho.frozenAt k
      have hg1 := (ho.cellAt k (by omega)).trans (thalf_at xs k hlt)
      have HS := Lib.hid (thalf_set xs k hlt)
      have HN := Lib.hid ((ho.stored k (.string xs[k])).1)
      have HB : Hid (Below w.heap.size w (wr.setCell ⟨w.heap.size, k, none⟩ (.string xs[k]))) := hb.setCell (Nat.le_refl _) _
      generalize xs[k] = q at *
      go_wp2
      go_roundw
      case rel =>
        refine ⟨k + 1, by omega, by go_num, ?_, ?_⟩
        · rw [← HS.out]; exact HN.out
        · exact HB.out
      case measure => simp [intOf]; omega
    · have hk' : k = xs.length := by omega
      have ho2 := ho
      rw [hk', thalf_full] at ho2
      go_wp2
      go_ret
      exact ⟨_, rfl, ho2, hb⟩
set_option maxRecDepth 100000 in
theorem open_texts {H : Type} {enc : TypeId × Value → H} {W : World} {base fuel : Nat} {spare : Nat → Bool} {held : Bool} {a : Option Addr} {n c : Nat} {x : DataW H × List MemPlace}
    (h : DataW.trod enc Tryd.prog W base spare held fuel 23 [.slice a n c] = some x) :
    ∃ xs : List ByteArray, RdT W (.slice a n c) xs ∧ ∀ m ∈ xs, m.size ≤ 9223372036854775807 := by
  rcases open_strings Tryd.underlying23 Tryd.underlying9 (by kernel_rfl) h with ⟨hcs, _⟩ | ⟨ad, len, cap, ss, hcs, hb, hl, hm, hmm, hx, hi, hsz⟩
  · simp at hcs
    obtain ⟨rfl, rfl, rfl⟩ := hcs
    exact ⟨[], ⟨none, 0, rfl, by simp, by simp, rfl, by simp⟩, by simp⟩
  · simp at hcs
    obtain ⟨rfl, rfl, rfl⟩ := hcs
    have hM : maxLen = 9223372036854775807 := rfl
    have hml : n ≤ ss.length := by rw [hmm]; split <;> omega
    have htl : (ss.take n).length = n := by rw [List.length_take]; omega
    refine ⟨ss.take n, ?_, fun m hm2 => hM ▸ hsz m (List.mem_of_mem_take hm2)⟩
    refine ⟨some ad, c, by rw [htl], by omega, by omega, by rw [tcells_length]; omega, fun h0 => ?_⟩
    have h1 := hi 0 (by omega)
    obtain ⟨b, off, spot⟩ := ad
    have hs : spot = none := by
      have := World.cell?_spot h1
      simpa [Addr.add] using this
    subst hs
    have hadd : ∀ o i, (Addr.mk b o none).add i = ⟨b, o + i, none⟩ := fun o i => by
      unfold Addr.add; split
      · next h => subst h; rfl
      · rfl
    refine ⟨b, off, rfl, ?_, fun j u hu => ?_⟩
    · rcases Nat.lt_or_ge b W.heap.size with hlt | hge
      · exact hlt
      · rw [hadd] at h1
        simp [World.cell?, Array.getElem?_eq_none hge] at h1
    · have hj : j < (ss.take n).length := by have := (List.getElem?_eq_some_iff.1 hu).1; rwa [tcells_length] at this
      have hc := hi j (by omega)
      rw [hadd] at hc
      rw [hc]
      unfold tcells at hu
      rw [List.getElem?_map, List.getElem?_take_of_lt (by omega)] at hu
      rw [← hu, List.getD_eq_getElem?_getD, List.getElem?_eq_getElem (by omega)]
      rfl
end Go.Proofs.YthgcoocgeekdnaaDoor
namespace Go.Proofs.YthgcoocgeekdnaaDoor
open Go.RowKit Go.PM Go.PD Go.PF Go.Lib
attribute [local go_sem] Oper.semAt_some
set_option maxRecDepth 100000 in
set_option maxHeartbeats 6400000 in
theorem imCountBest_c (n : Int) (cs : List ByteArray) (v : Value) (w : World) (hT : U8w w) (hx : RdT w v cs) (hz : ∀ c ∈ cs, c.size ≤ 1048576) (hn' : cs.length ≤ 1048576) :
    Calls Tryd.prog 30 #[.int .i64 n, v] w fun e w' => e = .returned (.int .i64 (cbI n cs)) ∧ Below w.heap.size w w' := by
  have HV := Lib.hid (imCallsValid_c n cs v w hT hx hz hn')
  obtain ⟨Av, cap, rfl, _, _, _⟩ := id hx.open
  rcases Bool.eq_false_or_eq_true (csOk n cs) with h2 | h2
  · obtain ⟨h1, h4, hcl5, _⟩ := cs_at h2
    obtain ⟨m, rfl⟩ := Int.eq_ofNat_of_zero_le (show (0 : Int) ≤ n by omega)
    have hok := arr_ok h2
    have HB := Lib.hid (fun W (hW : Below w.heap.size w W) => bestChoice_c m cs h2 (.slice Av cs.length cap) W (hT.below hW) (hx.below hW))
    have HIT := Lib.hid (fun b1 b2 k => cho_iter m cs h2 (.slice Av cs.length cap) b1 b2 k)
    have HXT : Hid (∀ A, Below w.heap.size w A → U8w A ∧ RdT A (.slice Av cs.length cap) cs) := fun A hA => ⟨hT.below hA, hx.below hA⟩
    have HCN := Lib.hid (count_all h2)
    have HLEN := Lib.hid (arrB_len m (by omega))
    have HS := Lib.hid (fun pre q => cnQ_snoc cs (lcI (m : Int) cs) pre q)
    have HLE := Lib.hid (fun pre => cnQ_le cs (lcI (m : Int) cs) pre)
    have HC0 : Hid (cnQ cs (lcI (m : Int) cs) [] = 0) := rfl
    rw [h2] at HV
    rw [← HCN.out]
    clear hx hz h1 h2 hT hok HCN
    generalize lcI (m : Int) cs = ll at *
    generalize bpB (m : Int) cs = bb at *
    refine (callsIn_wide (n := 10)).1 ?_
    obtain ⟨N, hN, hNe⟩ : ∃ N : Nat, 10 ≤ N ∧ N = 10 := ⟨10, by omega, rfl⟩
    rw [← hNe]
    clear hNe
    refine callsIn_of_wp_marks Tryd.func30 rfl trivial ?_ rfl
    simp only [Tryd.ntmps30, List.size_toArray, List.length_cons, List.length_nil, Nat.reduceAdd, Nat.reduceSub, Array.replicate_succ, Array.replicate_zero, List.push_toArray, List.append_toArray, List.nil_append, List.cons_append]
    gi_wp2_with fail
    refine ⟨trivial, fun _ => by omega, callsIn_wide.2 (HV.out.mono ?_)⟩
    rintro e w1 ⟨rfl, b1⟩
    gi_wp2_with fail
    refine ⟨trivial, fun _ => by omega, callsIn_wide.2 ((HB.out _ b1).mono ?_)⟩
    rintro e w2 ⟨rfl, b2⟩
    have B2 := b1.trans (b2.mono b1.size)
    have hs2 := B2.size
    obtain ⟨W0, hW0⟩ : ∃ W0 : World, W0 = (w2.alloc (.cells #[.int .i64 ll] 3)).alloc (.cells #[.int .i64 0] 3) := ⟨_, rfl⟩
    have hB0 : Below w2.heap.size w2 W0 := by rw [hW0]; (repeat' (first | (with_reducible exact Below.refl _ _) | (with_reducible assumption) | (with_reducible refine Below.alloc ?_ ?_ _) | (with_reducible refine Below.drew ?_) | (with_reducible refine Below.setCell ?_ ?_ _) | (with_reducible exact Nat.le_refl _) | omega | ((repeat (first | rewrite [World.size_alloc] | rewrite [World.size_setCell] | rewrite [World.size_drew])); omega) | (simp; omega) | (simp; done)))
    have p0 : At W0 w2.heap.size 3 #[.int .i64 ll] := by rw [hW0]; exact (At.new _ _ _).alloc _
    have l0 : At W0 (w2.heap.size + 1) 3 #[.int .i64 0] := by
      rw [hW0]
      have := At.new (w2.alloc (.cells #[.int .i64 ll] 3)) 3 #[.int .i64 0]
      rwa [World.size_alloc] at this
    have hT0 : w2.heap.size + 2 ≤ W0.heap.size := by rw [hW0]; simp only [World.size_alloc]; omega
    gi_wp2_with fail
    rw [← hW0]
    refine ⟨trivial, fun _ => by omega, callsIn_wide.2 ((choices_c _ _ _ _ _).mono ?_)⟩
    rintro e W1 ⟨rfl, hW1⟩
    have hB1 : Below W0.heap.size W0 W1 := by rw [hW1]; (repeat' (first | (with_reducible exact Below.refl _ _) | (with_reducible assumption) | (with_reducible refine Below.alloc ?_ ?_ _) | (with_reducible refine Below.drew ?_) | (with_reducible refine Below.setCell ?_ ?_ _) | (with_reducible exact Nat.le_refl _) | omega | ((repeat (first | rewrite [World.size_alloc] | rewrite [World.size_setCell] | rewrite [World.size_drew])); omega) | (simp; omega) | (simp; done)))
    have hT1 : W0.heap.size + 2 ≤ W1.heap.size := by rw [hW1]; simp only [World.size_alloc]; omega
    have x1 : At W1 W0.heap.size 3 #[.int .i64 m] := by rw [hW1]; exact (At.new _ _ _).alloc _
    have x2 : At W1 (W0.heap.size + 1) 23 #[.slice Av cs.length cap] := by
      rw [hW1]
      have := At.new (W0.alloc (.cells #[.int .i64 m] 3)) 23 #[.slice Av cs.length cap]
      rwa [World.size_alloc] at this
    have p1 := p0.keep hB1
    have l1 := l0.keep hB1
    have hBB := B2.trans ((hB0.trans (hB1.mono hB0.size)).mono hs2)
    clear hW0 hW1 hB0 hB1 p0 l0 b1 b2 B2
    gi_wp2
    refine range_lawK1 (F := Fence.wide) (gf := 67) (lf := #[]) (lb := #[.pointer (some ⟨W0.heap.size, 0, none⟩), .pointer (some ⟨W0.heap.size + 1, 0, none⟩)]) rfl (by omega) rfl trivial (fun args w => rfl) (encs := fun q : ByteArray => #[.string q, .int .i64 (totI q.data.toList cs)]) (xs := arrB m ⟨#[]⟩)
      (HIT.out W0.heap.size (W0.heap.size + 1) _) (fun _ => rfl)
      (fun pre Z => At Z w2.heap.size 3 #[.int .i64 ll] ∧ At Z (w2.heap.size + 1) 3 #[.int .i64 (cnQ cs ll pre : Int)] ∧ At Z W0.heap.size 3 #[.int .i64 m] ∧ At Z (W0.heap.size + 1) 23 #[.slice Av cs.length cap] ∧ Below w.heap.size w Z ∧ W1.heap.size ≤ Z.heap.size)
      (fun cc pre Z => False) ?pr ?own ?ownx ?start ?a1 ?assign ?body ?done ?stop
    case pr => exact fun pre Z h => ⟨(HXT.out Z h.2.2.2.2.1).1, (HXT.out Z h.2.2.2.2.1).2, h.2.2.1, h.2.2.2.1⟩
    case own =>
      rintro pre Z Z' row ⟨g1, g2, g3, g4, g5, g6⟩ hg hr
      exact ⟨at_turn g1 hg (fun r e => (hr r e).2), at_turn g2 hg (fun r e => (hr r e).2), at_turn g3 hg (fun r e => (hr r e).2), at_turn g4 hg (fun r e => (hr r e).2), g5.trans (below_grown hg g5.size (fun g e => by have := (hr g e).1; omega)), Nat.le_trans g6 hg.size⟩
    case ownx =>
      rintro cc pre Z Z' row h hg hr
      exact h
    case start => exact ⟨p1, by rw [HC0.out]; exact l1, x1, x2, hBB, Nat.le_refl _⟩
    case assign =>
      intro l2 q Z K hK
      gi_wp2
      exact hK
    case stop =>
      rintro D cc pre Z hD hp h hd
      exact h.elim
    case body =>
      rintro l2 pre q Z ⟨g1, g2, g3, g4, g5, g6⟩ hp hsz
      have hpl : pre.length + 1 ≤ 1296 := by
        have e1 := hp.length_le
        have e2 := HLEN.out
        rw [List.length_append, List.length_singleton] at e1
        omega
      have hcl := HLE.out pre
      have hst := HS.out pre q
      have fL := g2.frozen 0
      have cB : Z.cell? ⟨w2.heap.size, 0, none⟩ = some (.int .i64 ll) := g1.cell 0
      have cL : Z.cell? ⟨w2.heap.size + 1, 0, none⟩ = some (.int .i64 (cnQ cs ll pre : Int)) := g2.cell 0
      have lB := g1.lt
      have lL := g2.lt
      have a1 := g1.far (p := ⟨w2.heap.size + 1, 0, none⟩) (by simp) (.int .i64 ((cnQ cs ll pre : Int) + 1))
      have a2 := g2.set 0 (.int .i64 ((cnQ cs ll pre : Int) + 1))
      have a3 := g3.far (p := ⟨w2.heap.size + 1, 0, none⟩) (by simp; omega) (.int .i64 ((cnQ cs ll pre : Int) + 1))
      have a4 := g4.far (p := ⟨w2.heap.size + 1, 0, none⟩) (by simp; omega) (.int .i64 ((cnQ cs ll pre : Int) + 1))
      have a5 : Below w.heap.size w (Z.setCell ⟨w2.heap.size + 1, 0, none⟩ (.int .i64 ((cnQ cs ll pre : Int) + 1))) := Below.setCell g5 (by simp; omega) _
      have a6 : W1.heap.size ≤ (Z.setCell ⟨w2.heap.size + 1, 0, none⟩ (.int .i64 ((cnQ cs ll pre : Int) + 1))).heap.size := by simp only [World.size_setCell]; exact g6
      have a7 : KeepsNew W1.heap.size Z (Z.setCell ⟨w2.heap.size + 1, 0, none⟩ (.int .i64 ((cnQ cs ll pre : Int) + 1))) := KeepsNew.set Z _ _ (by simp; omega)
      obtain ⟨nc, HNC⟩ : ∃ nc, Hid (cnQ cs ll (pre ++ [q]) = nc) := ⟨_, rfl⟩
      rw [HNC.out] at hst
      have HSS := Lib.hid (show At Z w2.heap.size 3 #[.int .i64 ll] ∧ At Z (w2.heap.size + 1) 3 #[.int .i64 (cnQ cs ll pre : Int)] ∧ At Z W0.heap.size 3 #[.int .i64 m] ∧ At Z (W0.heap.size + 1) 23 #[.slice Av cs.length cap] ∧ Below w.heap.size w Z ∧ W1.heap.size ≤ Z.heap.size from ⟨g1, g2, g3, g4, g5, g6⟩)
      have HU := Lib.hid (And.intro a1 (And.intro a2 (And.intro a3 (And.intro a4 (And.intro a5 (And.intro a6 a7))))))
      clear a1 a2 a3 a4 a5 a6 a7 g1 g2 g3 g4 g5 g6 p1 l1 x1 x2 hBB hp
      generalize totI q.data.toList cs = t at *
      generalize cnQ cs ll pre = c0 at *
      by_cases hup : t = ll
      · rw [if_pos hup] at hst
        have E1 := Lib.hid hst
        clear hst
        have d1 : (t == ll) = true := by simpa using hup
        subst hup
        gi_wp2
        exact ⟨⟨HU.out.1, by rw [HNC.out, E1.out]; exact HU.out.2.1, HU.out.2.2.1, HU.out.2.2.2.1, HU.out.2.2.2.2.1, HU.out.2.2.2.2.2.1⟩, HU.out.2.2.2.2.2.2⟩
      · rw [if_neg hup] at hst
        have E1 := Lib.hid hst
        clear hst HU
        have d1 : (t == ll) = false := by simpa using hup
        gi_wp2
        exact ⟨⟨HSS.out.1, by rw [HNC.out, E1.out]; exact HSS.out.2.1, HSS.out.2.2.1, HSS.out.2.2.2.1, HSS.out.2.2.2.2.1, HSS.out.2.2.2.2.2⟩, KeepsNew.refl _ _⟩
    case done =>
      rintro D Z hD ⟨g1, g2, -, -, g5, -⟩ hd
      have cL : Z.cell? ⟨w2.heap.size + 1, 0, none⟩ = some (.int .i64 (cnQ cs ll (arrB m ⟨#[]⟩) : Int)) := g2.cell 0
      have lL := g2.lt
      have hBB2 : Hid (w.heap.size ≤ D) := by show _ ≤ _; omega
      clear g1 g2 p1 l1 x1 x2 hBB
      generalize hbe : cnQ cs ll (arrB m ⟨#[]⟩) = be at *
      have HBE := Lib.hid hbe
      clear hbe
      gi_wp2
      refine leaves_J (J := fun (_ : Unit) A => Below w.heap.size w A) (B := w.heap.size) (fun _ A A' row h hg hr => h.trans (below_grown hg h.size (fun g e => (hr g e).1))) () [D] Z ⟨by simp, fun E hE => ?_⟩ g5 ?_
      · obtain rfl : E = D := by simpa using hE
        exact ⟨hBB2.out, hd⟩
      · intro A' hA'
        exact ⟨_, results_tmp rfl _ _ _, by rw [HBE.out]; rfl, hA'⟩
  · have HL : Hid (cbI n cs = -1) := by show _ = _; unfold cbI; rw [cho_no h2]; rfl
    rw [h2] at HV
    clear hx hz h2 hT
    generalize cbI n cs = ll at *
    go_enter Tryd.func30, Tryd.ntmps30
    go_wp2_with fail
    refine HV.out.mono ?_
    rintro e w1 ⟨rfl, b1⟩
    go_wp2
    go_ret
    exact ⟨by rw [HL.out]; rfl, b1⟩
end Go.Proofs.YthgcoocgeekdnaaDoor
namespace Go.Proofs.YthgcoocgeekdnaaDoor
open Go.RowKit Go.PM Go.PD Go.PF
theorem litsR (w : World) (t : TypeId) (cs : Array Value) (lo hi : Int) (h : cs.toList.all (fun u => match u with | .int .i64 x => decide (lo ≤ x) && decide (x ≤ hi) | _ => false) = true) : Lits (w.alloc (.cells cs t)) w.heap.size cs.size (fun u => ∃ x, u = .int .i64 x ∧ lo ≤ x ∧ x ≤ hi) :=
  Lits.new w t cs _ fun u hu => by
    have := List.all_eq_true.1 h u hu
    split at this
    · next x =>
      rw [Bool.and_eq_true, decide_eq_true_eq, decide_eq_true_eq] at this
      exact ⟨x, rfl, this.1, this.2⟩
    · cases this

end Go.Proofs.YthgcoocgeekdnaaDoor
namespace Go.Proofs.YthgcoocgeekdnaaDoor
open Go.RowKit Go.PM Go.PD Go.PF
attribute [local go_sem] Oper.semAt_some
theorem own_litT (w : World) (base : Nat) (hb : base ≤ w.heap.size) : (w.alloc (.cells #[] 9)).ownsRow base 9 1 (.slice (some ⟨w.heap.size, 0, none⟩) 0 0) ([] : List ByteArray).length (([] : List ByteArray).map Value.string) :=
  World.ownsRow_lit (e := 9) (base := base) (size := 1) w #[] 0 hb (Nat.zero_le _) rfl
/-- what a draw of a number and of calls keeps -/
def drS (n : Int) (ts : List ByteArray) : Prop := -1 ≤ n ∧ n ≤ 5 ∧ ts.length ≤ 6 ∧ ∀ c ∈ ts, c.size ≤ 4

set_option maxRecDepth 100000 in
set_option maxHeartbeats 3200000 in
theorem l11Draw_c (w : World) (B r : Nat) (p : Int) (hr : Rdr w 69 B r p) (p1 : p ≤ 500000) :
    Calls Tryd.prog 47 #[.pointer (some ⟨r, 0, none⟩)] w fun e w' => ∃ n v ts p', e = .returned (.tuple #[.int .i64 n, v]) ∧ w'.ownsRow w.heap.size 9 1 v ts.length (ts.map Value.string) ∧ Hid (drS n ts) ∧ Rdr w' 69 B r p' ∧ p' ≤ p + 60 ∧ w.grownBy w' (some r) := by
  have hlt : r < w.heap.size := by obtain ⟨_, _, v, n, _, _, h⟩ := hr; exact h.lt
  go_enter Tryd.func47, Tryd.ntmps47
  go_wp2_with fail
  refine (num_c _ B r w.heap.size 5 p (fun x => 1 ≤ x ∧ x ≤ 3) (hr.keep ((Below.refl _ _).alloc (Nat.le_refl _) _)) (by decide) (by decide) (by omega) (litsR _ _ _ 1 3 (by rfl)) (by omega)).mono ?_
  rintro e w1 ⟨n, rfl, ⟨n0, n1⟩, R1, g1⟩
  obtain ⟨N, rfl⟩ := Int.eq_ofNat_of_zero_le (show (0 : Int) ≤ n by omega)
  have G1 := grown_trans (grown_below ((Below.refl w.heap.size w).alloc (Nat.le_refl _) _) (some r)) g1
  have hs1 := G1.size
  clear g1 hr
  go_wp2_with fail
  have E0 := own_litT w1 w.heap.size hs1
  have L6 := litsR (w1.alloc (.cells #[] 9)) 3 #[.int .i64 2, .int .i64 3, .int .i64 1, .int .i64 4, .int .i64 0, .int .i64 5] 0 5 (by rfl)
  rw [World.size_alloc] at L6
  refine (num_c _ B r (w1.heap.size + 1) 6 (p + 1) (fun x => 0 ≤ x ∧ x ≤ 5) ((R1.keep ((Below.refl _ _).alloc (Nat.le_refl _) _)).keep ((Below.refl _ _).alloc (Nat.le_refl _) _)) (by decide) (by decide) (by omega) L6 (by omega)).mono ?_
  clear L6
  rintro e w2 ⟨x, rfl, ⟨hx1, hx2⟩, R2, g2⟩
  obtain ⟨M, rfl⟩ := Int.eq_ofNat_of_zero_le hx1
  have E2 := own_grown (own_keep E0 ((Below.refl _ _).alloc (Nat.le_refl _) (.cells #[.int .i64 2, .int .i64 3, .int .i64 1, .int .i64 4, .int .i64 0, .int .i64 5] 3))) g2 (.inl (fun e => by have := own_block_ge E0 r e; omega))
  have G2 := grown_trans G1 (grown_trans (grown_below (((Below.refl _ _).alloc (Nat.le_refl _) (.cells #[] 9)).alloc (by simp) (.cells #[.int .i64 2, .int .i64 3, .int .i64 1, .int .i64 4, .int .i64 0, .int .i64 5] 3)) (some r)) g2)
  have hs2 := G2.size
  clear E0 g2 R1 G1
  go_wp2
  go_loopw [5, 6, 14] (fun o _ i wr => ∃ (j : Nat) (ts : List ByteArray) (q : Int), j ≤ M ∧ i = .int .i64 j ∧ ts.length ≤ j ∧ Hid (∀ c ∈ ts, c.size ≤ 4) ∧ wr.ownsRow w.heap.size 9 1 o ts.length (ts.map Value.string) ∧ Rdr wr 69 B r q ∧ q ≤ p + 2 + 4 * (j : Int) ∧ w.grownBy wr (some r)) (fun _ _ i _ => M - (RowKit.intOf i).toNat)
  case atStart => exact ⟨0, [], _, by omega, rfl, Nat.zero_le _, (fun c hc => by cases hc), E2, R2, by omega, G2⟩
  case round =>
    clear E2 R2 G2 hs2
    obtain ⟨j, ts, q, hj, rfl, htl, hts, ho, R, hq, G⟩ := hrel
    have hsr := G.size
    by_cases hlt2 : j < M
    · have i1 : (j : Int) < (M : Int) := by omega
      have hn3 : N ≤ 3 := by omega
      have i2 : (0 : Int) ≤ (N : Int) := by omega
      go_wp2
      go_loopw [6, 17] (fun s i wr => ∃ (k : Nat) (t : ByteArray), k ≤ N ∧ i = .int .i64 k ∧ s = .string t ∧ t.size ≤ k ∧ wr.ownsRow w.heap.size 9 1 u5 ts.length (ts.map Value.string) ∧ Rdr wr 69 B r (q + k) ∧ w.grownBy wr (some r)) (fun _ i _ => N - (RowKit.intOf i).toNat)
      case atStart => exact ⟨0, ⟨#[]⟩, by omega, rfl, rfl, Nat.le_refl _, ho, by simpa using R, G⟩
      case round =>
        clear ho R G hsr
        obtain ⟨k, t, hk, rfl, rfl, ht, ho, R, G⟩ := hrel
        have hsr := G.size
        by_cases hlt3 : k < N
        · have i3 : (k : Int) < (N : Int) := by omega
          go_wp2_with fail
          refine (of_c _ B r wr.heap.size 10 (q + k) (fun s => s.size ≤ 1) (R.keep ((Below.refl _ _).alloc (Nat.le_refl _) _)) (by decide) (by decide) (by omega) (Lits.strs _ _ _ 1 (by rfl)) (by omega)).mono ?_
          rintro e w3 ⟨x, rfl, hx, R3, g3⟩
          have E3 := own_grown (own_keep ho ((Below.refl _ _).alloc (Nat.le_refl _) _)) g3 (.inl (fun e => by have := own_block_ge ho r e; omega))
          have G3 := grown_trans G (grown_trans (grown_below ((Below.refl _ _).alloc (Nat.le_refl _) _) (some r)) g3)
          have hpp : q + ((k + 1 : Nat) : Int) = q + (k : Int) + 1 := by omega
          rw [← hpp] at R3
          have ht2 : (t ++ x).size ≤ k + 1 := by rw [ByteArray.size_append]; omega
          clear g3 R G hpp ho
          go_wp2
          go_roundw
          case rel => exact ⟨k + 1, t ++ x, by omega, by go_num, rfl, ht2, E3, R3, G3⟩
          case measure => simp [RowKit.intOf]; omega
        · have i3 : ¬ (k : Int) < (N : Int) := by omega
          have ht4 : t.size ≤ 4 := by omega
          have HXA : Hid (∀ c ∈ ts ++ [t], c.size ≤ 4) := fun c hc => by
            rcases List.mem_append.1 hc with h | h
            · exact hts.out c h
            · have e : c = t := by simpa using h
              rw [e]; exact ht4
          have hnw := one_new wr (.string t) 9
          go_wp2_with (at_builtin; refine held ?_)
          unfold Held
          refine app_str rfl (.tmp 25) (.tmp 27) rfl w.heap.size u5 ts t ⟨wr.heap.size, 0, none⟩ 1 (by rfl) (by rfl) (own_keep ho ((Below.refl _ _).alloc (Nat.le_refl _) _)) hnw (by omega) (by simp; omega) ?_
          intro v' w6 hown6 hgrow6
          have R6 := (R.keep ((Below.refl _ _).alloc (Nat.le_refl _) (.cells #[.string t] 9))).grow hgrow6 (fun g e => by have := own_block_ge ho g e; omega)
          have G6 := grown_over (grown_trans G (grown_below ((Below.refl _ _).alloc (Nat.le_refl _) (.cells #[.string t] 9)) (some r))) hgrow6 (fun g e => own_block_ge ho g e)
          have hlen : (ts ++ [t]).length ≤ j + 1 := by rw [List.length_append, List.length_singleton]; omega
          go_wp2
          go_roundw
          case rel => exact ⟨j + 1, ts ++ [t], _, by omega, by go_num, hlen, HXA, hown6, R6, by omega, G6⟩
          case measure => simp [RowKit.intOf]; omega
    · have i1 : ¬ (j : Int) < (M : Int) := by omega
      have hl5 : ts.length ≤ 5 := by omega
      have HP := Lib.hid (pick_c wr B r 20 q R (by omega) (by omega) (by omega))
      have hq2 : q ≤ p + 22 := by omega
      have HN : Hid (∀ n : Int, -1 ≤ n → n ≤ 5 → Hid (drS n ts)) := fun n h1 h2 => ⟨h1, h2, by omega, hts.out⟩
      have HNN := Lib.hid (HN.out (N : Int) (by omega) (by omega))
      clear hts hq
      go_wp2_with fail
      refine HP.out.mono ?_
      rintro e w3 ⟨y, rfl, y0, y1, R3, g3⟩
      have E3 := own_grown ho g3 (.inl (fun e => by have := own_block_ge ho r e; omega))
      have G3 := grown_trans G g3
      have hs3 := G3.size
      clear HP ho R G g3
      by_cases h0 : y = 0
      · subst h0
        go_wp2_with fail
        refine (num_c _ B r w3.heap.size 4 (q + 1) (fun x => -1 ≤ x ∧ x ≤ 5) (R3.keep ((Below.refl _ _).alloc (Nat.le_refl _) _)) (by decide) (by decide) (by omega) (litsR _ _ _ (-1) 5 (by rfl)) (by omega)).mono ?_
        rintro e w4 ⟨x, rfl, ⟨x0, x1⟩, R4, g4⟩
        have E4 := own_grown (own_keep E3 ((Below.refl _ _).alloc (Nat.le_refl _) _)) g4 (.inl (fun e => by have := own_block_ge E3 r e; omega))
        have G4 := grown_trans G3 (grown_trans (grown_below ((Below.refl _ _).alloc (Nat.le_refl _) _) (some r)) g4)
        clear E3 R3 G3 g4
        go_wp2
        go_ret2
        exact ⟨_, _, ts, _, rfl, E4, HN.out _ x0 x1, R4, by omega, G4⟩
      · have t0 : (y == 0) = false := by simpa using h0
        by_cases h1 : y = 1
        · subst h1
          go_wp2_with fail
          refine (of_c _ B r w3.heap.size 4 (q + 1) (fun s => s.size ≤ 4) (R3.keep ((Below.refl _ _).alloc (Nat.le_refl _) _)) (by decide) (by decide) (by omega) (Lits.strs _ _ _ 4 (by rfl)) (by omega)).mono ?_
          rintro e w4 ⟨x, rfl, hx, R4, g4⟩
          have E4 := own_grown (own_keep E3 ((Below.refl _ _).alloc (Nat.le_refl _) _)) g4 (.inl (fun e => by have := own_block_ge E3 r e; omega))
          have G4 := grown_trans G3 (grown_trans (grown_below ((Below.refl _ _).alloc (Nat.le_refl _) _) (some r)) g4)
          have hs4 := G4.size
          have HXA : Hid (drS (N : Int) (ts ++ [x])) := by
            obtain ⟨q1, q2, q3, q4⟩ := HNN.out.out
            refine ⟨q1, q2, by rw [List.length_append, List.length_singleton]; omega, fun c hc => ?_⟩
            rcases List.mem_append.1 hc with h | h
            · exact q4 c h
            · have e : c = x := by simpa using h
              rw [e]; exact hx
          have hnw := one_new w4 (.string x) 9
          clear E3 R3 G3 g4
          go_wp2_with (at_builtin; refine held ?_)
          unfold Held
          refine app_str rfl (.tmp 41) (.tmp 45) rfl w.heap.size u5 ts x ⟨w4.heap.size, 0, none⟩ 1 (by rfl) (by rfl) (own_keep E4 ((Below.refl _ _).alloc (Nat.le_refl _) _)) hnw (by omega) (by simp; omega) ?_
          intro v' w6 hown6 hgrow6
          have R6 := (R4.keep ((Below.refl _ _).alloc (Nat.le_refl _) (.cells #[.string x] 9))).grow hgrow6 (fun g e => by have := own_block_ge E4 g e; omega)
          have G6 := grown_over (grown_trans G4 (grown_below ((Below.refl _ _).alloc (Nat.le_refl _) (.cells #[.string x] 9)) (some r))) hgrow6 (fun g e => own_block_ge E4 g e)
          go_wp2
          go_ret2
          exact ⟨_, _, ts ++ [x], _, rfl, hown6, HXA.out, R6, by omega, G6⟩
        · have t1 : (y == 1) = false := by simpa using h1
          go_wp2
          go_ret2
          exact ⟨_, _, ts, _, rfl, E3, HNN.out, R3, by omega, G3⟩
theorem vis_best (cs : List ByteArray) (L : Nat) (x : Cho) (ps : List UInt8) (h1 : x.best.length ≤ L) (h2 : ps.length ≤ L) : (vis cs x ps).best.length ≤ L := by
  unfold vis
  split
  · exact h2
  · split <;> exact h1
theorem fold_best (cs : List ByteArray) (L : Nat) : ∀ (l : List (List UInt8)) (x : Cho), x.best.length ≤ L → (∀ ps ∈ l, ps.length ≤ L) → (l.foldl (vis cs) x).best.length ≤ L
  | [], _, h, _ => h
  | a :: l, x, h, h2 => fold_best cs L l (vis cs x a) (vis_best cs L x a h (h2 a (List.mem_cons_self ..))) (fun ps hp => h2 ps (List.mem_cons_of_mem _ hp))
theorem bpB_size (n : Int) (cs : List ByteArray) : (bpB n cs).size ≤ 4 := by
  show (choF n cs).best.toArray.size ≤ 4
  rw [List.size_toArray]
  unfold choF
  split
  · rename_i h
    obtain ⟨h1, h4, _, _⟩ := cs_at h
    refine fold_best cs 4 _ cho0 (by show (0 : Nat) ≤ 4; decide) (fun ps hp => ?_)
    have := ((arrs_mem n.toNat [] List.nodup_nil (by simp) ps).1 hp).1
    simp at this
    omega
  · decide
def prS (s : ByteArray) (ts : List ByteArray) : Prop := s.size ≤ 4 ∧ ts.length ≤ 6 ∧ ∀ c ∈ ts, c.size ≤ 4

set_option maxRecDepth 100000 in
set_option maxHeartbeats 3200000 in
theorem l11Params_c (w : World) (B r : Nat) (p : Int) (hr : Rdr w 69 B r p) (p1 : p ≤ 400000) :
    Calls Tryd.prog 31 #[.pointer (some ⟨r, 0, none⟩)] w fun e w' => ∃ s v ts p', e = .returned (.tuple #[.string s, v]) ∧ w'.ownsRow w.heap.size 9 1 v ts.length (ts.map Value.string) ∧ Hid (prS s ts) ∧ Rdr w' 69 B r p' ∧ p' ≤ p + 70 ∧ w.grownBy w' (some r) := by
  have hlt : r < w.heap.size := by obtain ⟨_, _, v, n, _, _, h⟩ := hr; exact h.lt
  have HD := Lib.hid (l11Draw_c w B r p hr (by omega))
  clear hr
  go_enter Tryd.func31, Tryd.ntmps31
  go_wp2_with fail
  refine HD.out.mono ?_
  rintro e w1 ⟨n, v, ts, q, rfl, ho1, hd, R1, hq, g1⟩
  have hs1 := g1.size
  have HB := Lib.hid (spBestParams_c n ts v w1 (show RdT w1 v ts from Rd.of_own ho1) (fun c hc => by have := hd.out.2.2.2 c hc; omega) (by have := hd.out.2.2.1; omega))
  have HZ := Lib.hid (bpB_size n ts)
  clear HD
  have hd3 := hd.out.2.2
  have HP1 : Hid (prS (bpB n ts) ts) := ⟨HZ.out, hd3⟩
  generalize bpB n ts = bs at *
  generalize decide (0 ≤ lcI n ts) = ok at *
  go_wp2_with fail
  refine HB.out.mono ?_
  rintro e w2 ⟨rfl, b2⟩
  have R2 := R1.keep b2
  have E2 := own_keep ho1 b2
  have G2 := grown_trans g1 (grown_below b2 (some r))
  have hs2 := G2.size
  clear HB R1 ho1 g1 b2
  cases ok
  case false =>
    go_wp2_with fail
    refine (of_c _ B r w2.heap.size 9 q (fun s => s.size ≤ 4) (R2.keep ((Below.refl _ _).alloc (Nat.le_refl _) _)) (by decide) (by decide) (by omega) (Lits.strs _ _ _ 4 (by rfl)) (by omega)).mono ?_
    rintro e w3 ⟨s, rfl, hs, R3, g3⟩
    have E3 := own_grown (own_keep E2 ((Below.refl _ _).alloc (Nat.le_refl _) _)) g3 (.inl (fun e => by have := own_block_ge E2 r e; omega))
    have G3 := grown_trans G2 (grown_trans (grown_below ((Below.refl _ _).alloc (Nat.le_refl _) _) (some r)) g3)
    clear E2 R2 G2 g3
    go_wp2
    go_ret2
    exact ⟨_, _, ts, _, rfl, E3, ⟨hs, hd3⟩, R3, by omega, G3⟩
  case true =>
    have HP := Lib.hid (pick_c w2 B r 3 q R2 (by omega) (by omega) (by omega))
    go_wp2_with fail
    refine HP.out.mono ?_
    rintro e w3 ⟨y, rfl, y0, y1, R3, g3⟩
    have E3 := own_grown E2 g3 (.inl (fun e => by have := own_block_ge E2 r e; omega))
    have G3 := grown_trans G2 g3
    have hs3 := G3.size
    clear HP E2 R2 G2 g3
    by_cases h0 : y = 0
    · subst h0
      go_wp2
      go_ret2
      exact ⟨_, _, ts, _, rfl, E3, HP1.out, R3, by omega, G3⟩
    · have t0 : (y == 0) = false := by simpa using h0
      go_wp2_with fail
      refine (of_c _ B r w3.heap.size 9 (q + 1) (fun s => s.size ≤ 4) (R3.keep ((Below.refl _ _).alloc (Nat.le_refl _) _)) (by decide) (by decide) (by omega) (Lits.strs _ _ _ 4 (by rfl)) (by omega)).mono ?_
      rintro e w4 ⟨s, rfl, hs, R4, g4⟩
      have E4 := own_grown (own_keep E3 ((Below.refl _ _).alloc (Nat.le_refl _) _)) g4 (.inl (fun e => by have := own_block_ge E3 r e; omega))
      have G4 := grown_trans G3 (grown_trans (grown_below ((Below.refl _ _).alloc (Nat.le_refl _) _) (some r)) g4)
      clear E3 R3 G3 g4
      go_wp2
      go_ret2
      exact ⟨_, _, ts, _, rfl, E4, ⟨hs, hd3⟩, R4, by omega, G4⟩
set_option maxHeartbeats 800000 in
theorem drawTotalCost_c (w : World) (v : Value) (n : Nat) (hv : RdB w w.heap.size v n) :
    Calls Tryd.prog 11 #[v] w fun e w' => ∃ s v ts, e = .returned (.tuple #[.string s, v]) ∧ w'.ownsRow w.heap.size 9 1 v ts.length (ts.map Value.string) ∧ Hid (prS s ts) ∧ Below w.heap.size w w' := by
  have HO := Lib.hid (l13Open_c w v n hv)
  go_enter Tryd.func11, Tryd.ntmps11
  go_wp2_with fail
  refine HO.out.mono ?_
  rintro e w1 ⟨r, rfl, R1, b1⟩
  have hB := R1.1
  have HD := Lib.hid (l11Params_c w1 _ r 0 R1 (by omega))
  go_wp2_with fail
  refine HD.out.mono ?_
  rintro e w2 ⟨m, u, ts, p2, rfl, ho, hz, R2, hp, g2⟩
  have B2 : Below w.heap.size w w2 := b1.trans (below_grown g2 b1.size (fun g e => by cases e; exact hB))
  have ho2 := own_more ho b1.size
  go_wp2
  go_ret2
  exact ⟨_, _, ts, rfl, ho2, hz, B2⟩
end Go.Proofs.YthgcoocgeekdnaaDoor
namespace Go.Proofs.YthgcoocgeekdnaaDoor
open Go.RowKit Go.PM Go.PD Go.PF Go.PW
attribute [local go_sem] Oper.semAt_some
theorem cho0_parts : (⟨cho0.best.toArray⟩ : ByteArray) = ⟨#[]⟩ ∧ cho0.least = -1 := ⟨rfl, rfl⟩
theorem no_parts {n : Int} {cs : List ByteArray} (h : csOk n cs = false) : bpB n cs = ⟨#[]⟩ ∧ lcI n cs = -1 ∧ cbI n cs = -1 ∧ gpB n cs = ⟨#[]⟩ := by
  have e := cho_no h
  refine ⟨?_, ?_, ?_, ?_⟩
  · unfold bpB; rw [e]; rfl
  · unfold lcI; rw [e]; rfl
  · unfold cbI; rw [e]; rfl
  · unfold gpB; rw [h]; rfl
theorem yes_parts {n : Int} {cs : List ByteArray} (h : csOk n cs = true) : 0 ≤ lcI n cs ∧ 1 ≤ cbI n cs ∧ (mustN cs : Int) ≤ lcI n cs := by
  obtain ⟨_, _, _, k4, _, k6, k7⟩ := best_good h
  refine ⟨k4, ?_, k7⟩
  unfold cbI
  rw [if_neg (by omega)]
  omega
/-- the arguments of calls that are no register, up to a call and a place in it -/
def muN (cs : List ByteArray) (k : Nat) : Nat := mustN (cs.take k)
def mwN (c : ByteArray) (i : Nat) : Nat := (c.data.toList.take i).countP noReg
theorem muN_succ (cs : List ByteArray) (k : Nat) (hk : k < cs.length) : muN cs (k + 1) = muN cs k + mwN cs[k] cs[k].size := by
  have e : cs[k].data.toList.take cs[k].size = cs[k].data.toList := List.take_of_length_le (by rw [size_data]; exact Nat.le_refl _)
  unfold muN mwN mustN
  rw [take_snoc cs k hk, List.map_append, List.sum_append, e]
  simp
theorem mwN_succ (c : ByteArray) (i : Nat) (hi : i < c.size) : mwN c (i + 1) = mwN c i + if pmH ⟨#[97, 98, 99, 100, 101, 102]⟩ (c.extract i (i + 1)) then 0 else 1 := by
  have h1 : i < c.data.toList.length := by rw [size_data]; exact hi
  unfold mwN
  rw [take_snoc _ i h1, List.countP_append, List.countP_singleton, extract_at c i hi, pmH_one]
  have e : (c.data.toList[i]) = c[i] := rfl
  rw [e]
  unfold noReg
  have e2 : ((⟨#[97, 98, 99, 100, 101, 102]⟩ : ByteArray).data.toList) = regsL := rfl
  rw [e2]
  by_cases hm : c[i] ∈ regsL
  · rw [decide_eq_true hm]; rfl
  · rw [decide_eq_false hm]; rfl
theorem mwN_le (c : ByteArray) (i : Nat) : mwN c i ≤ i := by
  have h1 := List.countP_le_length (l := c.data.toList.take i) (p := noReg)
  have h2 : (c.data.toList.take i).length ≤ i := by rw [List.length_take]; omega
  exact Nat.le_trans h1 h2

theorem muN_le {cs : List ByteArray} (h : ∀ c ∈ cs, c.size ≤ 4) : ∀ k, k ≤ cs.length → muN cs k ≤ 4 * k
  | 0, _ => by show mustN (cs.take 0) ≤ 0; simp [mustN]
  | k + 1, hk => by
    have h1 := muN_le h k (by omega)
    have h2 := muN_succ cs k (by omega)
    have h3 := mwN_le cs[k] cs[k].size
    have h4 := h _ (List.getElem_mem (show k < cs.length by omega))
    omega
theorem gpB_size (n : Int) (cs : List ByteArray) : (gpB n cs).size ≤ 4 := by
  cases h : csOk n cs with
  | false => rw [(no_parts h).2.2.2]; decide
  | true =>
    obtain ⟨_, k2⟩ := gre_good h
    obtain ⟨_, h4, _, _⟩ := cs_at h
    have e : gpB n cs = ⟨(grF cs n.toNat).toArray⟩ := by unfold gpB; rw [h]; rfl
    rw [e]
    show (grF cs n.toNat).toArray.size ≤ 4
    rw [List.size_toArray]; omega
set_option maxRecDepth 100000 in
set_option maxHeartbeats 12800000 in
theorem exTotalCost_g (K : World → Prop) (hK : ∀ w w', K w → Below w.heap.size w w' → K w')
    (iT : ∀ ps cs v W, K W → RdT W v cs → prS ps cs → Calls Tryd.prog 12 #[.string ps, v] W fun e w' => e = .returned (.int .i64 (tcI ps.data.toList cs)) ∧ Below W.heap.size W w')
    (iI : ∀ ps cs v W, K W → RdT W v cs → prS ps cs → Calls Tryd.prog 13 #[.string ps, v] W fun e w' => e = .returned (.bool (ibB ps cs)) ∧ Below W.heap.size W w')
    (iV : ∀ n cs v W, K W → RdT W v cs → drS n cs → Calls Tryd.prog 16 #[.int .i64 n, v] W fun e w' => e = .returned (.bool (csOk n cs)) ∧ Below W.heap.size W w')
    (iL : ∀ n cs v W, K W → RdT W v cs → drS n cs → Calls Tryd.prog 19 #[.int .i64 n, v] W fun e w' => e = .returned (.int .i64 (lcI n cs)) ∧ Below W.heap.size W w')
    (iCV : ∀ ps az W, K W → ps.size ≤ 4 → az.size ≤ 4 → Calls Tryd.prog 17 #[.string ps, .string az] W fun e w' => e = .returned (.bool (clOk ps.data.toList az.data.toList)) ∧ Below W.heap.size W w')
    (iCC : ∀ ps az W, K W → ps.size ≤ 4 → az.size ≤ 4 → clOk ps.data.toList az.data.toList = true → Calls Tryd.prog 18 #[.string ps, .string az] W fun e w' => e = .returned (.int .i64 (cioI (clM ps.data.toList az.data.toList))) ∧ Below W.heap.size W w')
    (w : World) (v0 : Value) (n0 : Nat) (hv : RdB w w.heap.size v0 n0) (hT : K w) :
    Calls Tryd.prog 3 #[v0] w fun e w' => e = .returned (.bool true) ∧ Below w.heap.size w w' := by
  have hv0 := hv
  obtain ⟨A, cap, rfl, hc, hn, _⟩ := hv
  by_cases hbig : 1048576 < n0
  · have t : decide ((n0 : Int) > 1048576) = true := by simp; omega
    go_enter Tryd.func3, Tryd.ntmps3
    go_wp2
    go_ret
    exact ⟨rfl, Below.refl _ _⟩
  have t : decide ((n0 : Int) > 1048576) = false := by simp; omega
  have HD := Lib.hid (drawTotalCost_c w _ n0 hv0)
  clear hv0
  go_enter Tryd.func3, Tryd.ntmps3
  go_wp2_with fail
  refine HD.out.mono ?_
  rintro e w1 ⟨ps, v, cs, rfl, ho, hsh, b1⟩
  have hs1 := b1.size
  have hT1 := hK _ _ hT b1
  have hx : RdT w1 v cs := Rd.of_own ho
  have hp4 : ps.size ≤ 4 := hsh.out.1
  have hc4 : ∀ c ∈ cs, c.size ≤ 4 := hsh.out.2.2
  have hz : ∀ c ∈ cs, c.size ≤ 1048576 := fun c hc => by have := hc4 c hc; omega
  have hl6 : cs.length ≤ 6 := hsh.out.2.1
  have hdr : drS (ps.size : Int) cs := ⟨by omega, by omega, hl6, hc4⟩
  have HTI := Lib.hid (iT ps cs v w1 hT1 hx hsh.out)
  have HII := Lib.hid (fun W (hb : Below w1.heap.size w1 W) => iI ps cs v W (hK _ _ hT1 hb) (hx.below hb) hsh.out)
  have HTS := Lib.hid (fun W (hb : Below w1.heap.size w1 W) => spTotalCost_c ps (by omega) cs v W (hx.below hb) hz (by omega))
  have HIS := Lib.hid (fun W (hb : Below w1.heap.size w1 W) => spIsBest_c ps (by omega) cs v W (hx.below hb) hz (by omega))
  have HVI := Lib.hid (fun W (hb : Below w1.heap.size w1 W) => iV (ps.size : Int) cs v W (hK _ _ hT1 hb) (hx.below hb) hdr)
  have HLI := Lib.hid (fun W (hb : Below w1.heap.size w1 W) => iL (ps.size : Int) cs v W (hK _ _ hT1 hb) (hx.below hb) hdr)
  have HB : Hid (ibB ps cs = (decide (0 ≤ tcI ps.data.toList cs) && decide (tcI ps.data.toList cs = lcI (ps.size : Int) cs))) := rfl
  rw [HB.out] at HII HIS
  obtain ⟨B, cap2, rfl, _, _, hcell⟩ := hx.open
  by_cases h0 : 0 ≤ tcI ps.data.toList cs
  · obtain ⟨h1, h2, h3, h4⟩ := tc_pos h0
    rw [size_data] at h2 h4
    have hcl := cs_cl h2 h1 (by rw [size_data])
    have HCC := Lib.hid (fun k (hk : k < cs.length) W (hb : Below w1.heap.size w1 W) => iCC ps cs[k] W (hK _ _ hT1 hb) hp4 (hc4 _ (List.getElem_mem hk)) (hcl _ (List.getElem_mem hk)))
    have HTT := Lib.hid (fun k hk => totI_take ps.data.toList cs k hk)
    have HTR := Lib.hid (fun k => totI_range ps.data.toList (cs.take k))
    have HCR := Lib.hid (fun k (hk : k < cs.length) => cio_range (clM ps.data.toList cs[k].data.toList))
    have HT0 : Hid (totI ps.data.toList (cs.take 0) = 0) := rfl
    have HTF : Hid (totI ps.data.toList (cs.take cs.length) = tcI ps.data.toList cs) := by show _ = _; rw [List.take_length, h3]
    rw [decide_eq_true h0, Bool.true_and] at HII HIS
    clear HD hsh hx hz hT hT1 iT iI iV iL iCV iCC ho h1 h2 h3 hcl hdr HB HVI
    generalize tcI ps.data.toList cs = tt at *
    generalize lcI (ps.size : Int) cs = ll at *
    have q3 : (tt == tt) = true := by simp
    have q5 : (tt != tt) = false := by simp
    have q6 : decide (tt < 0) = false := decide_eq_false (by omega)
    have HQ : Hid (∀ b : Bool, (b != b) = false) := by show ∀ b : Bool, _; decide
    generalize hst : decide (tt = ll) = st at *
    have HST := Lib.hid hst
    clear hst HQ
    cases st with
    | true =>
      go_wp2_with fail
      refine HTI.out.mono ?_
      rintro e w2 ⟨rfl, B2⟩
      go_wp2_with fail
      refine (HII.out _ B2).mono ?_
      rintro e w3 ⟨rfl, b3⟩
      have B3 : Below w1.heap.size w1 w3 := B2.trans (b3.mono B2.size)
      clear B2 b3
      go_wp2_with fail
      refine (HTS.out _ B3).mono ?_
      rintro e w4 ⟨rfl, b4⟩
      have B4 : Below w1.heap.size w1 w4 := B3.trans (b4.mono B3.size)
      clear B3 b4
      go_wp2_with fail
      refine (HIS.out _ B4).mono ?_
      rintro e w5 ⟨rfl, b5⟩
      have B5 : Below w1.heap.size w1 w5 := B4.trans (b5.mono B4.size)
      clear B4 b5
      clear HTI HII HTS HIS
      go_wp2
      go_loopw [7, 9, 61] (fun o _ i wr => ∃ (k : Nat), k ≤ cs.length ∧ i = .int .i64 k ∧ o = .int .i64 (totI ps.data.toList (cs.take k)) ∧ Below w1.heap.size w1 wr) (fun _ _ i _ => cs.length - (RowKit.intOf i).toNat)
      case atStart => exact ⟨0, by omega, rfl, by rw [HT0.out], B5⟩
      case round =>
        clear B5
        obtain ⟨k, hk, rfl, rfl, hb⟩ := hrel
        have hbs := hb.size
        by_cases hlt : k < cs.length
        · obtain ⟨b, off, rfl, hbl, hc1⟩ := hcell k hlt
          have hd1 := (hb.cell (p := ⟨b, off + k, none⟩) hbl).trans hc1
          have HTK := Lib.hid (HTT.out k hlt)
          have HCK := Lib.hid (fun W hb => HCC.out k hlt W hb)
          have hr := HTR.out k
          have hcr := HCR.out k hlt
          have htl : (cs.take k).length ≤ 6 := by rw [List.length_take]; omega
          have i0 : (0 : Int) ≤ (k : Int) := by omega
          have i1 : (k : Int) < (cs.length : Int) := by omega
          clear hc1 hcell HTT HCC HTR HCR HT0 HTF HLI
          generalize totI ps.data.toList (cs.take k) = cur at *
          generalize cioI (clM ps.data.toList cs[k].data.toList) = ci at *
          generalize cs[k] = q at *
          have i2 : -7 ≤ cur + ci := by omega
          have i3 : cur + ci ≤ 10000 := by omega
          clear hr hcr
          go_wp2_with fail
          refine (HCK.out _ hb).mono ?_
          rintro e w20 ⟨rfl, b20⟩
          have B20 : Below w1.heap.size w1 w20 := hb.trans (b20.mono hbs)
          go_wp2
          go_roundw
          case rel => exact ⟨k + 1, by omega, by go_num, by rw [HTK.out], B20⟩
          case measure => simp [RowKit.intOf]; omega
        · have HKE : Hid (k = cs.length) := by show _ = _; omega
          have i1 : ¬ (k : Int) < (cs.length : Int) := by omega
          have hmu : totI ps.data.toList (cs.take k) = tt := by rw [HKE.out]; exact HTF.out
          rw [hmu]
          clear hmu hlt hk HTT HCC HTR HCR HT0 HTF hcell
          have f1 : decide (tt ≥ ll) = true := decide_eq_true h4
          have r1 : (tt == ll) = true := by have := of_decide_eq_true HST.out; simp [this]
          clear HST
          go_wp2_with fail
          refine (HLI.out _ hb).mono ?_
          rintro e w21 ⟨rfl, b21⟩
          have B21 : Below w1.heap.size w1 w21 := hb.trans (b21.mono hbs)
          go_wp2_with fail
          refine (HLI.out _ B21).mono ?_
          rintro e w22 ⟨rfl, b22⟩
          have B22 : Below w1.heap.size w1 w22 := B21.trans (b22.mono B21.size)
          go_wp2
          go_ret
          exact ⟨rfl, b1.trans (B22.mono hs1)⟩
    | false =>
      go_wp2_with fail
      refine HTI.out.mono ?_
      rintro e w2 ⟨rfl, B2⟩
      go_wp2_with fail
      refine (HII.out _ B2).mono ?_
      rintro e w3 ⟨rfl, b3⟩
      have B3 : Below w1.heap.size w1 w3 := B2.trans (b3.mono B2.size)
      clear B2 b3
      go_wp2_with fail
      refine (HTS.out _ B3).mono ?_
      rintro e w4 ⟨rfl, b4⟩
      have B4 : Below w1.heap.size w1 w4 := B3.trans (b4.mono B3.size)
      clear B3 b4
      go_wp2_with fail
      refine (HIS.out _ B4).mono ?_
      rintro e w5 ⟨rfl, b5⟩
      have B5 : Below w1.heap.size w1 w5 := B4.trans (b5.mono B4.size)
      clear B4 b5
      clear HTI HII HTS HIS
      go_wp2
      go_loopw [7, 9, 61] (fun o _ i wr => ∃ (k : Nat), k ≤ cs.length ∧ i = .int .i64 k ∧ o = .int .i64 (totI ps.data.toList (cs.take k)) ∧ Below w1.heap.size w1 wr) (fun _ _ i _ => cs.length - (RowKit.intOf i).toNat)
      case atStart => exact ⟨0, by omega, rfl, by rw [HT0.out], B5⟩
      case round =>
        clear B5
        obtain ⟨k, hk, rfl, rfl, hb⟩ := hrel
        have hbs := hb.size
        by_cases hlt : k < cs.length
        · obtain ⟨b, off, rfl, hbl, hc1⟩ := hcell k hlt
          have hd1 := (hb.cell (p := ⟨b, off + k, none⟩) hbl).trans hc1
          have HTK := Lib.hid (HTT.out k hlt)
          have HCK := Lib.hid (fun W hb => HCC.out k hlt W hb)
          have hr := HTR.out k
          have hcr := HCR.out k hlt
          have htl : (cs.take k).length ≤ 6 := by rw [List.length_take]; omega
          have i0 : (0 : Int) ≤ (k : Int) := by omega
          have i1 : (k : Int) < (cs.length : Int) := by omega
          clear hc1 hcell HTT HCC HTR HCR HT0 HTF HLI
          generalize totI ps.data.toList (cs.take k) = cur at *
          generalize cioI (clM ps.data.toList cs[k].data.toList) = ci at *
          generalize cs[k] = q at *
          have i2 : -7 ≤ cur + ci := by omega
          have i3 : cur + ci ≤ 10000 := by omega
          clear hr hcr
          go_wp2_with fail
          refine (HCK.out _ hb).mono ?_
          rintro e w20 ⟨rfl, b20⟩
          have B20 : Below w1.heap.size w1 w20 := hb.trans (b20.mono hbs)
          go_wp2
          go_roundw
          case rel => exact ⟨k + 1, by omega, by go_num, by rw [HTK.out], B20⟩
          case measure => simp [RowKit.intOf]; omega
        · have HKE : Hid (k = cs.length) := by show _ = _; omega
          have i1 : ¬ (k : Int) < (cs.length : Int) := by omega
          have hmu : totI ps.data.toList (cs.take k) = tt := by rw [HKE.out]; exact HTF.out
          rw [hmu]
          clear hmu hlt hk HTT HCC HTR HCR HT0 HTF hcell
          have f1 : decide (tt ≥ ll) = true := decide_eq_true h4
          have r1 : (tt == ll) = false := by have := of_decide_eq_false HST.out; simpa using this
          clear HST
          go_wp2_with fail
          refine (HLI.out _ hb).mono ?_
          rintro e w21 ⟨rfl, b21⟩
          have B21 : Below w1.heap.size w1 w21 := hb.trans (b21.mono hbs)
          go_wp2_with fail
          refine (HLI.out _ B21).mono ?_
          rintro e w22 ⟨rfl, b22⟩
          have B22 : Below w1.heap.size w1 w22 := B21.trans (b22.mono B21.size)
          go_wp2
          go_ret
          exact ⟨rfl, b1.trans (B22.mono hs1)⟩
  · have HN := Lib.hid (tc_neg (ps := ps.data.toList) (cs := cs) (by omega))
    rw [size_data] at HN
    have HCV := Lib.hid (fun az (ha : az.size ≤ 4) W (hb : Below w1.heap.size w1 W) => iCV ps az W (hK _ _ hT1 hb) hp4 ha)
    have HNP := Lib.hid (fun az h => cl_no_par (ps := ps.data.toList) (az := az) h)
    rw [decide_eq_false h0, Bool.false_and] at HII HIS
    clear HD hsh hx hz hT hT1 iT iI iV iL iCV iCC ho hdr HB HLI hcell hc4
    generalize tcI ps.data.toList cs = tt at *
    have q3 : (tt == tt) = true := by simp
    have q5 : (tt != tt) = false := by simp
    have q6 : decide (tt < 0) = true := decide_eq_true (by omega)
    have q7 : tt < 0 := by omega
    clear h0
    rcases HN.out with h1 | h1
    · rw [h1] at HVI
      clear h1 HN HNP HCV
      go_wp2_with fail
      refine HTI.out.mono ?_
      rintro e w2 ⟨rfl, B2⟩
      go_wp2_with fail
      refine (HII.out _ B2).mono ?_
      rintro e w3 ⟨rfl, b3⟩
      have B3 : Below w1.heap.size w1 w3 := B2.trans (b3.mono B2.size)
      clear B2 b3
      go_wp2_with fail
      refine (HTS.out _ B3).mono ?_
      rintro e w4 ⟨rfl, b4⟩
      have B4 : Below w1.heap.size w1 w4 := B3.trans (b4.mono B3.size)
      clear B3 b4
      go_wp2_with fail
      refine (HIS.out _ B4).mono ?_
      rintro e w5 ⟨rfl, b5⟩
      have B5 : Below w1.heap.size w1 w5 := B4.trans (b5.mono B4.size)
      clear B4 b5
      go_wp2_with fail
      refine (HVI.out _ B5).mono ?_
      rintro e w6 ⟨rfl, b6⟩
      have B6 : Below w1.heap.size w1 w6 := B5.trans (b6.mono B5.size)
      clear B5 b6
      go_wp2
      go_ret
      exact ⟨rfl, b1.trans (B6.mono hs1)⟩
    · have HCF : Hid (∀ az (ha : az.size ≤ 4) W (hb : Below w1.heap.size w1 W), Calls Tryd.prog 17 #[.string ps, .string az] W fun e w' => e = .returned (.bool false) ∧ Below W.heap.size W w') := fun az ha W hb => by
        have := HCV.out az ha W hb
        rw [HNP.out az.data.toList h1] at this
        exact this
      clear h1 HN HNP HCV
      generalize csOk (ps.size : Int) cs = ok at *
      have hmin : min (ps.size : Int) 4 = (ps.size : Int) := by omega
      go_wp2_with fail
      refine HTI.out.mono ?_
      rintro e w2 ⟨rfl, B2⟩
      go_wp2_with fail
      refine (HII.out _ B2).mono ?_
      rintro e w3 ⟨rfl, b3⟩
      have B3 : Below w1.heap.size w1 w3 := B2.trans (b3.mono B2.size)
      clear B2 b3
      go_wp2_with fail
      refine (HTS.out _ B3).mono ?_
      rintro e w4 ⟨rfl, b4⟩
      have B4 : Below w1.heap.size w1 w4 := B3.trans (b4.mono B3.size)
      clear B3 b4
      go_wp2_with fail
      refine (HIS.out _ B4).mono ?_
      rintro e w5 ⟨rfl, b5⟩
      have B5 : Below w1.heap.size w1 w5 := B4.trans (b5.mono B4.size)
      clear B4 b5
      go_wp2_with fail
      refine (HVI.out _ B5).mono ?_
      rintro e w6 ⟨rfl, b6⟩
      have B6 : Below w1.heap.size w1 w6 := B5.trans (b6.mono B5.size)
      clear B5 b6
      cases ok with
      | false =>
        go_wp2
        go_ret
        exact ⟨rfl, b1.trans (B6.mono hs1)⟩
      | true =>
        go_wp2_with fail
        refine (HCF.out _ (by rw [ByteArray.size_extract]; omega) _ B6).mono ?_
        rintro e w7 ⟨rfl, b7⟩
        have B7 : Below w1.heap.size w1 w7 := B6.trans (b7.mono B6.size)
        go_wp2
        go_ret
        exact ⟨rfl, b1.trans (B7.mono hs1)⟩
end Go.Proofs.YthgcoocgeekdnaaDoor
