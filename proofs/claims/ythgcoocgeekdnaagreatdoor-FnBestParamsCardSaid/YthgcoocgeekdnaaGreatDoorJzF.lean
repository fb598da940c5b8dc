import Derived.Test.YthgcoocgeekdnaaGreatDoorJzC
import Derived.Test.YthgcoocgeekdnaaGreatDoorJzB
import Derived.Test.YthgcoocgeekdnaaGreatDoorTurn
import Derived.Test.YthgcoocgeekdnaaGreatDoorJzE
import Derived.Test.YthgcoocgeekdnaaGreatDoorLate
import Derived.Sort.LotA
import Derived.Shelf.SlGeneric
import Derived.Shelf.SlSortCmp.InsertionK
import Derived.Test.YthgcoocgeekdnaaGreatDoorTie
import Derived.Test.YthgcoocgeekdnaaGreatDoorCards
import Derived.ChangeSame
import Derived.ChangeVars
import Derived.JoinedOf
import Derived.LaidLaws
import Derived.LaidHandle
import Derived.SevenTiedAt
import Derived.Lib.LaidU8T
namespace Go.PF
open Go.PM Go.RowKit Go.PD
theorem IterK.wide {α : Type} {Pr : World → Prop} {n m : Nat} {P : Program} {gf : Nat} {mk : Value → Array Value} {encs : α → Array Value} {xs : List α} (h : IterK Pr Fence.wide n P gf mk encs xs) : IterK Pr Fence.wide m P gf mk encs xs := by
  intro l J Jx W hJ hJx hP hY h0
  exact callsIn_wide.2 (callsIn_wide.1 (h l J Jx W hJ hJx hP (fun pre x A a b c => yieldAt_wide (hY pre x A a b c)) h0))
def dfK (D : Nat) : Deferred := { target := .collected D, args := #[] }
/-- marks that loops over functions have left, from block B on -/
def MarksK (B : Nat) (ds : List Nat) (A : World) : Prop := ds.Nodup ∧ ∀ D ∈ ds, B ≤ D ∧ A.heap[D]? = some (.deferred (some []))
theorem MarksK.nil (B : Nat) (A : World) : MarksK B [] A := ⟨List.nodup_nil, fun D hD => by cases hD⟩
theorem MarksK.lt {B : Nat} {ds : List Nat} {A : World} (h : MarksK B ds A) : ∀ D ∈ ds, D < A.heap.size := fun D hD => (Array.getElem?_eq_some_iff.1 (h.2 D hD).2).1
theorem MarksK.keep {B : Nat} {ds : List Nat} {A A' : World} (h : MarksK B ds A) (hk : KeepsNew B A A') : MarksK B ds A' :=
  ⟨h.1, fun D hD => ⟨(h.2 D hD).1, hk.block (h.2 D hD).1 (h.2 D hD).2⟩⟩
theorem MarksK.turn {B N : Nat} {ds : List Nat} {A A' : World} {row : Option Nat} (h : MarksK B ds A) (hlt : ∀ D ∈ ds, D < N) (hg : A.grownBy A' row) (hr : ∀ r, row = some r → N ≤ r) : MarksK B ds A' :=
  ⟨h.1, fun D hD => ⟨(h.2 D hD).1, (hg.block D (Array.getElem?_eq_some_iff.1 (h.2 D hD).2).1 (fun e => by have := hr D e.symm; have := hlt D hD; omega)).trans (h.2 D hD).2⟩⟩
theorem MarksK.add {B D : Nat} {ds : List Nat} {A : World} (h : MarksK B ds A) (hB : B ≤ D) (hn : D ∉ ds) (hd : A.heap[D]? = some (.deferred (some []))) : MarksK B (D :: ds) A :=
  ⟨List.nodup_cons.2 ⟨hn, h.1⟩, fun E hE => by
    rcases List.mem_cons.1 hE with rfl | hE
    · exact ⟨hB, hd⟩
    · exact h.2 E hE⟩
/-- at the end the marks are taken up one by one -/
theorem leaves_J {β : Type} {F : Fence} {n : Nat} {P : Program} {fn : Func} {tmps : Array Value} {R : Ending → World → Prop} {B : Nat} {J : β → World → Prop} (hJ : OwnFrom B J) (s : β) : ∀ (ds : List Nat) (A : World), MarksK B ds A → J s A →
    (∀ A' : World, J s A' → LeavesInM F n P fn tmps R [] .returning A') → LeavesInM F n P fn tmps R (ds.map dfK) .returning A
  | [], A, _, hs, h => h A hs
  | D :: ds, A, hM, hs, h => by
    have hn := List.nodup_cons.1 hM.1
    have hD := hM.2 D (List.mem_cons_self ..)
    refine ⟨by simp, .inl ⟨D, _, rfl, run_takeDeferred hD.2, ?_⟩⟩
    refine leaves_J hJ s ds _ ⟨hn.2, fun E hE => ⟨(hM.2 E (List.mem_cons_of_mem _ hE)).1, ?_⟩⟩ (hJ.putObj _ hs hD.1 hD.2 rfl) h
    rw [World.putObj_heap_other (fun e => hn.1 (by rw [← e]; exact hE))]
    exact (hM.2 E (List.mem_cons_of_mem _ hE)).2
/-- parameters of so many registers behind some, as texts -/
def arrB : Nat → ByteArray → List ByteArray
  | 0, ps => [ps]
  | d + 1, ps => regsL.flatMap fun c => if c ∈ ps.data.toList then [] else arrB d (ps ++ ⟨#[c]⟩)
def arrKB (d : Nat) (ps : ByteArray) (k : Nat) : List ByteArray := (regsL.take k).flatMap fun c => if c ∈ ps.data.toList then [] else arrB d (ps ++ ⟨#[c]⟩)
theorem arrKB_zero (d : Nat) (ps : ByteArray) : arrKB d ps 0 = [] := rfl
theorem arrKB_full (d : Nat) (ps : ByteArray) : arrKB d ps 6 = arrB (d + 1) ps := rfl
theorem arrKB_step (d : Nat) (ps : ByteArray) (k : Nat) (hk : k < 6) : arrKB d ps (k + 1) = arrKB d ps k ++ if regsL.getD k 0 ∈ ps.data.toList then [] else arrB d (ps ++ ⟨#[regsL.getD k 0]⟩) := by
  have hl : k < regsL.length := hk
  unfold arrKB
  rw [take_snoc _ k hl, List.flatMap_append, List.flatMap_singleton, List.getD_eq_getElem?_getD, List.getElem?_eq_getElem hl]
  rfl
theorem arrKB_pre (d : Nat) (ps : ByteArray) (k : Nat) : arrKB d ps k <+: arrB (d + 1) ps := by
  refine ⟨(regsL.drop k).flatMap fun c => if c ∈ ps.data.toList then [] else arrB d (ps ++ ⟨#[c]⟩), ?_⟩
  unfold arrKB
  rw [← List.flatMap_append, List.take_append_drop]; rfl
theorem arrB_map : ∀ (d : Nat) (ps : ByteArray), (arrB d ps).map (fun q => q.data.toList) = arrs d ps.data.toList
  | 0, ps => rfl
  | d + 1, ps => by
    show (regsL.flatMap _).map _ = regsL.flatMap _
    rw [List.map_flatMap]
    congr 1
    funext c
    by_cases h : c ∈ ps.data.toList
    · rw [if_pos h, if_pos h]; rfl
    · rw [if_neg h, if_neg h, arrB_map d]
      rw [ByteArray.data_append]; simp
end Go.PF
namespace Go.Proofs.YthgcoocgeekdnaaGreatDoor
open Go.RowKit Go.PM Go.PD Go.PF Go.Lib
attribute [local go_sem] Oper.semAt_some

theorem arrangements_c (ps : ByteArray) (n : Int) (w : World) :
    Calls Tryz.prog 36 #[.string ps, .int .i64 n] w fun e w' => e = .returned (.func (.func 50) #[] #[.pointer (some ⟨w.heap.size, 0, none⟩), .pointer (some ⟨w.heap.size + 1, 0, none⟩)]) ∧ w' = (w.alloc (.cells #[.string ps] 37)).alloc (.cells #[.int .i64 n] 3) := by
  go_enter Tryz.func36, Tryz.ntmps36
  go_wp2
  go_ret
  exact ⟨by simp, rfl⟩
/-- the loop over the registers: k of them are behind it -/
def ArrR (b1 b2 l d : Nat) (ps : ByteArray) (J : List ByteArray → World → Prop) (W : World) (a : Act) (A : World) : Prop :=
  ∃ (k : Nat) (ds : List Nat) (n : Int) (u4 u5 u15 u16 u17 u18 u19 u20 u21 u22 u23 u24 u25 u26 u27 u28 u34 : Value),
    a = { tmps := #[.func (.yield l) #[] #[], .pointer (some ⟨b1, 0, none⟩), .pointer (some ⟨b2, 0, none⟩), .pointer (some ⟨W.heap.size, 0, none⟩), u4, u5, undef, .string ps, .int .i64 ps.size, .int .i64 n, .bool false, undef, undef, undef, .int .i64 k, u15, u16, u17, u18, u19, u20, u21, u22, u23, u24, u25, u26, u27, u28, undef, undef, undef, undef, undef, u34], defers := ds.map dfK } ∧
    k ≤ 6 ∧ J (arrKB d ps k) A ∧ At A W.heap.size 81 #[.func (.yield l) #[] #[]] ∧ MarksK W.heap.size ds A ∧ W.heap.size + 1 ≤ A.heap.size
set_option maxRecDepth 100000 in
set_option maxHeartbeats 3200000 in
theorem arr_iter0 (ps : ByteArray) (n : Nat) (hn : ps.size = n) (b1 b2 m : Nat) :
    IterK (fun A => At A b1 37 #[.string ps] ∧ At A b2 3 #[.int .i64 n]) Fence.wide m Tryz.prog 50 (fun y => #[] ++ #[y] ++ #[.pointer (some ⟨b1, 0, none⟩), .pointer (some ⟨b2, 0, none⟩)]) (fun q : ByteArray => #[.string q]) (arrB 0 ps) := by
  refine IterK.wide (n := 10) ?_
  intro l J Jx W hJ hJx hP hY h0
  obtain ⟨hA1, hA2⟩ := hP _ _ h0
  have c1 : W.cell? ⟨b1, 0, none⟩ = some (.string ps) := hA1.cell 0
  have c2 : W.cell? ⟨b2, 0, none⟩ = some (.int .i64 n) := hA2.cell 0
  have hl1 := hA1.lt
  have hl2 := hA2.lt
  have t1 : ((ps.size : Int) == (n : Int)) = true := by simp; omega
  have hJ0 : J [] (W.alloc (.cells #[.func (.yield l) #[] #[]] 81)) := hJ.alloc _ h0
  have hyl := yieldAt_wide (m := 9) (hY [] ps _ hJ0 (by simp [World.size_alloc]) ⟨[], rfl⟩)
  obtain ⟨fn, tmps, assign, body, hy, hR⟩ := hyl
  change CallsIn _ _ _ _ #[.func (.yield l) #[] #[], .pointer (some ⟨b1, 0, none⟩), .pointer (some ⟨b2, 0, none⟩)] W _
  refine callsIn_of_wp_marks Tryz.func50 rfl trivial ?_ rfl
  simp only [Tryz.ntmps50, List.size_toArray, List.length_cons, List.length_nil, Nat.reduceAdd, Nat.reduceSub, Array.replicate_succ, Array.replicate_zero, List.push_toArray, List.append_toArray, List.nil_append, List.cons_append]
  clear hP hA1 hA2 hY h0 hJ0
  gi_wp2
  refine RoundIn.mono hR ?_
  rintro e A (⟨rfl, h1, _⟩ | ⟨rfl, h1, _⟩)
  · gi_wp2
    exact ⟨_, results_none rfl _ _ _, ⟨_, rfl⟩, .inl h1⟩
  · gi_wp2
    exact ⟨_, results_none rfl _ _ _, ⟨_, rfl⟩, .inr ⟨_, List.prefix_refl _, h1⟩⟩
set_option maxRecDepth 100000 in
set_option maxHeartbeats 6400000 in
theorem arr_iter : ∀ (d : Nat) (ps : ByteArray) (n : Nat), ps.size + d = n → n ≤ 6 → ∀ (b1 b2 m : Nat),
    IterK (fun A => At A b1 37 #[.string ps] ∧ At A b2 3 #[.int .i64 n]) Fence.wide m Tryz.prog 50 (fun y => #[] ++ #[y] ++ #[.pointer (some ⟨b1, 0, none⟩), .pointer (some ⟨b2, 0, none⟩)]) (fun q : ByteArray => #[.string q]) (arrB d ps) := by
  intro d
  induction d with
  | zero => exact fun ps n hn _ b1 b2 m => arr_iter0 ps n hn b1 b2 m
  | succ d ih =>
    intro ps n hn h6 b1 b2 m
    obtain ⟨N, hN⟩ : ∃ N : Nat, 10 ≤ N := ⟨10, Nat.le_refl _⟩
    refine IterK.wide (n := N) ?_
    intro l J Jx W hJ hJx hP hY h0
    obtain ⟨hA1, hA2⟩ := hP _ _ h0
    have c1 : W.cell? ⟨b1, 0, none⟩ = some (.string ps) := hA1.cell 0
    have c2 : W.cell? ⟨b2, 0, none⟩ = some (.int .i64 n) := hA2.cell 0
    have hl1 := hA1.lt
    have hl2 := hA2.lt
    have t1 : ((ps.size : Int) == (n : Int)) = false := by simp; omega
    have HCN : Hid (∀ (c : UInt8) (V : World), Calls Tryz.prog 42 #[.string ps, .string ⟨#[c]⟩] V fun e w' => e = .returned (.bool (decide (c ∈ ps.data.toList))) ∧ V = w') := fun c V =>
      (Tryz.strings_Contains_one ps c V).mono fun _ _ ⟨e1, e2⟩ => ⟨by rw [e1]; congr 2; simp only [indexByte_mem], e2.symm⟩
    change CallsIn _ _ _ _ #[.func (.yield l) #[] #[], .pointer (some ⟨b1, 0, none⟩), .pointer (some ⟨b2, 0, none⟩)] W _
    refine callsIn_of_wp_marks Tryz.func50 rfl trivial ?_ rfl
    simp only [Tryz.ntmps50, List.size_toArray, List.length_cons, List.length_nil, Nat.reduceAdd, Nat.reduceSub, Array.replicate_succ, Array.replicate_zero, List.push_toArray, List.append_toArray, List.nil_append, List.cons_append]
    have hI0 : ArrR b1 b2 l d ps J W { tmps := #[.func (.yield l) #[] #[], .pointer (some ⟨b1, 0, none⟩), .pointer (some ⟨b2, 0, none⟩), .pointer (some ⟨W.heap.size, 0, none⟩), undef, undef, undef, .string ps, .int .i64 ps.size, .int .i64 n, .bool false, undef, undef, undef, .int .i64 (0 : Nat), undef, undef, undef, undef, undef, undef, undef, undef, undef, undef, undef, undef, undef, undef, undef, undef, undef, undef, undef, undef], defers := [] } (W.alloc (.cells #[.func (.yield l) #[] #[]] 81)) :=
      ⟨0, [], n, undef, undef, undef, undef, undef, undef, undef, undef, undef, undef, undef, undef, undef, undef, undef, undef, undef, rfl, by omega, hJ.alloc _ h0, At.new _ _ _, MarksK.nil _ _, by simp [World.size_alloc]⟩
    clear hA1 hA2 h0
    gi_wp2
    refine wpIn_loop (fun a A => ArrR b1 b2 l d ps J W a A) (fun a _ => 6 - (RowKit.intOf (a.tmps.getD 14 undef)).toNat) hI0 ?_
    clear hI0 c1 c2
    rintro a A ⟨k, ds, nz, u4, u5, u15, u16, u17, u18, u19, u20, u21, u22, u23, u24, u25, u26, u27, u28, u34, rfl, hk, hj, hY0, hM, hs⟩
    by_cases hlt : k < 6
    · obtain ⟨hA1, hA2⟩ := hP _ _ hj
      have c1 : A.cell? ⟨b1, 0, none⟩ = some (.string ps) := hA1.cell 0
      have c2 : A.cell? ⟨b2, 0, none⟩ = some (.int .i64 n) := hA2.cell 0
      have i0 : (0 : Int) ≤ (k : Int) := by omega
      have i1 : (k : Int) < 6 := by omega
      have i2 : (k : Int) + 1 ≤ 6 := by omega
      have hx := reg_ext k hlt
      have hst := arrKB_step d ps k hlt
      have hpre := arrKB_pre d ps (k + 1)
      generalize regsL.getD k 0 = c at *
      have HC := Lib.hid (HCN.out c)
      have hone : (⟨#[c]⟩ : ByteArray).size = 1 := rfl
      by_cases hin : c ∈ ps.data.toList
      · rw [if_pos hin, List.append_nil] at hst
        have hj2 : J (arrKB d ps (k + 1)) A := by rw [hst]; exact hj
        rw [decide_eq_true hin] at HC
        clear hst hj hpre
        gi_wp2_with fail
        refine ⟨trivial, fun _ => by omega, callsIn_wide.2 ((HC.out _).mono ?_)⟩
        rintro e w' ⟨rfl, rfl⟩
        gi_wp2
        exact ⟨⟨k + 1, ds, nz, _, _, _, _, _, _, _, _, _, _, _, _, _, _, _, _, _, by rfl, by omega, hj2, hY0, hM, hs⟩, by simp [RowKit.intOf]; omega⟩
      · rw [if_neg hin] at hst
        rw [hst] at hpre
        rw [decide_eq_false hin] at HC
        have hsz : ps.size + (⟨#[c]⟩ : ByteArray).size ≤ 6 := by rw [hone]; omega
        have HIT := Lib.hid (ih (ps ++ ⟨#[c]⟩) n (by rw [ByteArray.size_append]; omega) h6)
        gi_wp2_with fail
        refine ⟨trivial, fun _ => by omega, callsIn_wide.2 ((HC.out _).mono ?_)⟩
        rintro e w' ⟨rfl, rfl⟩
        gi_wp2_with fail
        refine ⟨trivial, fun _ => by omega, callsIn_wide.2 ((arrangements_c _ _ _).mono ?_)⟩
        rintro e W1 ⟨rfl, hW1⟩
        have hS1 : W1.heap.size = A.heap.size + 2 := by rw [hW1]; simp only [World.size_alloc]
        have hB1 : Below A.heap.size A W1 := by rw [hW1]; (repeat' (first | (with_reducible exact Below.refl _ _) | (with_reducible assumption) | (with_reducible refine Below.alloc ?_ ?_ _) | (with_reducible refine Below.drew ?_) | (with_reducible refine Below.setCell ?_ ?_ _) | (with_reducible exact Nat.le_refl _) | omega | ((repeat (first | rewrite [World.size_alloc] | rewrite [World.size_setCell] | rewrite [World.size_drew])); omega) | (simp; omega) | (simp; done)))
        have x1 : At W1 A.heap.size 37 #[.string (ps ++ ⟨#[c]⟩)] := by rw [hW1]; exact (At.new _ _ _).alloc _
        have x2 : At W1 (A.heap.size + 1) 3 #[.int .i64 n] := by
          rw [hW1]
          have := At.new (A.alloc (.cells #[.string (ps ++ ⟨#[c]⟩)] 37)) 3 #[.int .i64 n]
          rwa [World.size_alloc] at this
        have hj1 : J (arrKB d ps k) W1 := by rw [hW1]; exact hJ.alloc _ (hJ.alloc _ hj)
        have y1 := hY0.keep hB1
        have m1 := hM.keep (KeepsNew.below hB1)
        have hlm := hM.lt
        have hml1 : ∀ D ∈ ds, D < W1.heap.size := fun D hD => by have := hlm D hD; omega
        clear hW1 hj hY0 hM hA1 hA2 c1 c2 hlm hB1
        gi_wp2
        refine range_lawK1 (F := Fence.wide) (gf := 50) (lf := #[]) (lb := #[.pointer (some ⟨A.heap.size, 0, none⟩), .pointer (some ⟨A.heap.size + 1, 0, none⟩)]) rfl (by omega) rfl trivial (fun args w => rfl) (encs := fun q : ByteArray => #[.string q]) (xs := arrB d (ps ++ ⟨#[c]⟩))
          (HIT.out A.heap.size (A.heap.size + 1) _) (fun _ => rfl)
          (fun pre Z => J (arrKB d ps k ++ pre) Z ∧ At Z W.heap.size 81 #[.func (.yield l) #[] #[]] ∧ At Z A.heap.size 37 #[.string (ps ++ ⟨#[c]⟩)] ∧ At Z (A.heap.size + 1) 3 #[.int .i64 n] ∧ MarksK W.heap.size ds Z ∧ W1.heap.size ≤ Z.heap.size)
          (fun cc pre Z => cc = .ret ∧ Jx (arrKB d ps k ++ pre) Z ∧ MarksK W.heap.size ds Z) ?pr ?own ?ownx ?start ?a1 ?assign ?body ?done ?stop
        case pr => exact fun pre Z h => ⟨h.2.2.1, h.2.2.2.1⟩
        case own =>
          rintro pre Z Z' row ⟨g1, g2, g3, g4, g5, g6⟩ hg hr
          exact ⟨hJ _ _ _ _ g1 hg (fun r e => ⟨by have := (hr r e).1; omega, (hr r e).2⟩), at_turn g2 hg (fun r e => (hr r e).2), at_turn g3 hg (fun r e => (hr r e).2), at_turn g4 hg (fun r e => (hr r e).2), g5.turn hml1 hg (fun r e => (hr r e).1), Nat.le_trans g6 hg.size⟩
        case ownx =>
          rintro cc pre Z Z' row ⟨g0, g1, g5⟩ hg hr
          exact ⟨g0, hJx _ _ _ _ g1 hg (fun r e => ⟨by have := (hr r e).1; omega, (hr r e).2⟩), g5.turn hml1 hg (fun r e => (hr r e).1)⟩
        case start => exact ⟨by rw [List.append_nil]; exact hj1, y1, x1, x2, m1, Nat.le_refl _⟩
        case assign =>
          intro l2 q Z K hK
          gi_wp2
          exact hK
        case body =>
          rintro l2 pre q Z ⟨g1, g2, g3, g4, g5, g6⟩ hp hsz
          have hpq : (arrKB d ps k ++ pre) ++ [q] <+: arrB (d + 1) ps := by
            rw [List.append_assoc]
            exact ((List.prefix_append_right_inj _).2 hp).trans hpre
          have cY : Z.cell? ⟨W.heap.size, 0, none⟩ = some (.func (.yield l) #[] #[]) := g2.cell 0
          have hlY := g2.lt
          have hyl := yieldAt_wide (m := N - 1 - 1 - 1) (hY _ q Z g1 (by omega) hpq)
          rw [List.append_assoc] at hyl
          obtain ⟨fn, tmps, assign, body, hy, hR⟩ := hyl
          have HCONT : Hid (∀ Z', J (arrKB d ps k ++ (pre ++ [q])) Z' → KeepsNew W.heap.size Z Z' → (J (arrKB d ps k ++ (pre ++ [q])) Z' ∧ At Z' W.heap.size 81 #[.func (.yield l) #[] #[]] ∧ At Z' A.heap.size 37 #[.string (ps ++ ⟨#[c]⟩)] ∧ At Z' (A.heap.size + 1) 3 #[.int .i64 n] ∧ MarksK W.heap.size ds Z' ∧ W1.heap.size ≤ Z'.heap.size) ∧ KeepsNew W1.heap.size Z Z') := fun Z' h1 hk =>
            ⟨⟨h1, hk.block (Nat.le_refl _) g2, hk.block (by omega) g3, hk.block (by omega) g4, g5.keep hk, Nat.le_trans g6 hk.size⟩, hk.mono (by omega)⟩
          have HSTOP : Hid (∀ Z', Jx (arrKB d ps k ++ (pre ++ [q])) Z' → KeepsNew W.heap.size Z Z' → ((Code.ret : Code) = .ret ∧ Jx (arrKB d ps k ++ (pre ++ [q])) Z' ∧ MarksK W.heap.size ds Z') ∧ KeepsNew W1.heap.size Z Z') := fun Z' h1 hk =>
            ⟨⟨rfl, h1, g5.keep hk⟩, hk.mono (by omega)⟩
          clear g1 g2 g3 g4 g5 hp hpq hj1 y1 x1 x2 m1 hpre hst
          gi_wp2
          refine ⟨fun _ => by omega, RoundIn.mono hR ?_⟩
          rintro e Z' (⟨rfl, h1, hk2⟩ | ⟨rfl, h1, hk2⟩)
          · have fin := HCONT.out Z' h1 hk2
            clear hR hy h1 hk2
            gi_wp2
            exact fin
          · have fin := Lib.hid (HSTOP.out Z' h1 hk2)
            clear hR hy h1 hk2
            gi_wp2
            exact ⟨⟨rfl, fin.out.1.2⟩, fin.out.2⟩
        case done =>
          rintro D Z hD ⟨g1, g2, g3, g4, g5, g6⟩ hd
          rw [← hst] at g1
          have hDn : D ∉ ds := fun h => by have := hml1 D h; omega
          have hMD := g5.add (show W.heap.size ≤ D by omega) hDn hd
          clear hst hpre hj1 y1 x1 x2 m1
          gi_wp2
          exact ⟨⟨k + 1, D :: ds, nz, _, _, _, _, _, _, _, _, _, _, _, _, _, _, _, _, _, by rfl, by omega, g1, g2, hMD, by omega⟩, by simp [RowKit.intOf]; omega⟩
        case stop =>
          rintro D cc pre Z hD hp ⟨rfl, g1, g5⟩ hd
          have hDn : D ∉ ds := fun h => by have := hml1 D h; omega
          have hMD := g5.add (show W.heap.size ≤ D by omega) hDn hd
          have hpp : arrKB d ps k ++ pre <+: arrB (d + 1) ps := ((List.prefix_append_right_inj _).2 hp).trans hpre
          clear hst hpre hj1 y1 x1 x2 m1
          gi_wp2
          refine leaves_J hJx _ (D :: ds) Z hMD g1 ?_
          intro A' hA'
          exact ⟨_, results_none rfl _ _ _, ⟨_, rfl⟩, .inr ⟨_, hpp, hA'⟩⟩
    · have hk6 : k = 6 := by omega
      subst hk6
      have hJend : J (arrB (d + 1) ps) A := hj
      clear hj
      gi_wp2
      refine leaves_J hJ _ ds A hM hJend ?_
      intro A' hA'
      exact ⟨_, results_none rfl _ _ _, ⟨_, rfl⟩, .inl hA'⟩
end Go.Proofs.YthgcoocgeekdnaaGreatDoor
namespace Go.PM
open Go.RowKit
section
variable {F : Fence} {m : Nat} {P : Program} {ops : Array Oper} {md : Region.Mode} {C D : World → Prop} {Q : Exit → Act → World → Prop}
/-- operations one behind the other, a fact kept till the first of the last ones -/
def wpListT (F : Fence) (m : Nat) (P : Program) (ops : Array Oper) (D : World → Prop) (Q : Exit → Act → World → Prop) (rest : List Oper) : List Oper → Act → World → Prop
  | [], a, w => D w ∧ wpListIn F m P ops Q rest a w
  | o :: l, a, w => D w ∧ Oper.wpIn F m P o a w (wpListT F m P ops D Q rest l) Q
theorem wpAnyT_of_list {rest : List Oper} (hne : rest ≠ []) : ∀ (l : List Oper) (k : Nat) (listed : Array Bool) (a : Act) (w : World), (∀ j, (l ++ rest)[j]? = ops[k + j]?) →
    Region.waitsFor md ops (k + l.length) 0 = true → (∀ o ∈ l, o.guard = none) → Region.seqB md ops (l.length + rest.length) k listed = true → wpListT F m P ops D Q rest l a w → wpAnyT F m P md ops D Q (l.length + rest.length) listed a w
  | [], k, listed, a, w, hl, hw0, _, hB, h => by
    obtain ⟨hD, hlist⟩ := h
    cases rest with
    | nil => exact absurd rfl hne
    | cons o r =>
      have hl' : ∀ j, (o :: r)[j]? = ops[k + j]? := fun j => by simpa using hl j
      have hB' : Region.seqB md ops (o :: r).length k listed = true := by simpa using hB
      have hany := wpAnyIn_of_seq' (md := md) (Q' := Q) (o :: r) k listed a w hl' hB' hlist
      simp only [List.length_cons, Region.seqB, Bool.and_eq_true, decide_eq_true_eq] at hB'
      simp only [List.length_nil, Nat.zero_add, List.length_cons] at hany ⊢
      refine ⟨hD, hany.1, fun j hj => ?_⟩
      rw [hB'.1] at hj
      have hjn : j = k := by simpa using hj
      subst hjn
      have hw0' : Region.waitsFor md ops j 0 = true := by simpa using hw0
      simp only [hw0', if_true]
      exact hany.2 _ (by rw [hB'.1]; simp)
  | o :: l, k, listed, a, w, hl, hw0, hg, hB, h => by
    obtain ⟨hD, hop⟩ := h
    have h0 : ops[k]? = some o := by simpa using (hl 0).symm
    have e : (o :: l).length + rest.length = (l.length + rest.length) + 1 := by simp only [List.length_cons]; omega
    rw [e] at hB ⊢
    simp only [Region.seqB, Bool.and_eq_true, decide_eq_true_eq] at hB
    refine ⟨hD, fun h1 => (by rw [hB.1] at h1; cases h1), fun j hj => ?_⟩
    rw [hB.1] at hj
    have hjk : j = k := by simpa using hj
    subst hjk
    have hwn : Region.wanted o (yielded ops a.tmps) = true := by simp [Region.wanted, hg o (by simp)]
    have hw : wpOpIn F m P ops Q j (wpListT F m P ops D Q rest l) a w := by
      unfold wpOpIn
      simp only [h0]
      rw [if_pos hwn]; exact hop
    refine wpOpIn_mono (fun a' w' h' => ?_) hw
    have hT := wpAnyT_of_list hne l (j + 1) (listed.setIfInBounds j true) a' w' (fun i => by have := hl (i + 1); simpa [Nat.add_assoc, Nat.add_comm 1 i] using this) (by
      have : j + 1 + l.length = j + (o :: l).length := by simp only [List.length_cons]; omega
      rw [this]; exact hw0) (fun o' ho' => hg o' (by simp [ho'])) hB.2 h'
    split
    · exact wpAnyT_any _ _ _ _ hT
    · exact hT
/-- what is asked of the region's form -/
def lateB2 (ops : Array Oper) (n k : Nat) : Bool :=
  Region.noSelect ops && decide (0 < n) && decide (n + k < ops.size) && sinkB1 .any ops n && Region.chainB .any ops n && Region.lexHead .any ops (ops.size - n) (n - 1) 1 ((Array.replicate ops.size false).setIfInBounds 0 true) &&
    Region.waitsFor .any ops (n + k) 0 && Region.free .any ops (Array.replicate ops.size false) 0 && (Region.ready .any ops (Array.replicate ops.size false)).contains 0
/-- A region that draws its order, whose first operation reads what only the last ones turn: it first, n - 1 quiet ones, k that turn something else, the others one behind the other. -/
theorem any_late2 {a : Act} {w : World} {l : List Oper} (n k : Nat) (hro : F.round = none) (hB : lateB2 l.toArray n k = true) (o0 : Oper) (h0 : l[0]? = some o0) (hgn : ∀ o ∈ (l.drop n).take k, o.guard = none) (v0 : Value)
    (hQ : ∀ c a w, Q (.panic c) (a.put o0.dst v0) w → Q (.panic c) a w) (hy : YieldsD P l.toArray D o0 v0 a) (hCD : ∀ w, C w → D w) (hC : C w)
    (h : wpQuietIn F m P l.toArray C (fun a' => ∀ w', C w' → wpListT F m P l.toArray D Q (l.drop (n + k)) ((l.drop n).take k) a' w') ((l.drop 1).take (n - 1)) (a.put o0.dst v0)) :
    wpAnyIn F m P .any l.toArray Q l.toArray.size (Array.replicate l.toArray.size false) a w := by
  simp only [lateB2, Bool.and_eq_true, decide_eq_true_eq] at hB
  obtain ⟨⟨⟨⟨⟨⟨⟨⟨hsel, hn0⟩, hn⟩, hs⟩, hc⟩, hlex⟩, hw0⟩, hf0⟩, hr0⟩ := hB
  have hn' : n + k < l.length := by simpa using hn
  have hr0' : 0 ∈ Region.ready .any l.toArray (Array.replicate l.toArray.size false) := by simpa using hr0
  have h0a : l.toArray[0]? = some o0 := by simpa using h0
  have inv0 : HeadInv .any l.toArray n (Array.replicate l.toArray.size false) :=
    ⟨by simp, fun j oj _ hl => (by rw [getD_replicate_false] at hl; cases hl), fun t _ ht => getD_in (by simpa using ht) (getD_replicate_false _ _)⟩
  have inv1 := inv0.set hr0' hn0
  have htl : ((l.drop 1).take (n - 1)).length = n - 1 := by simp; omega
  have H := wpAnyLQ1_lex (md := .any) (g := l.toArray.size - n) hsel hs hc (by omega) ((l.drop 1).take (n - 1)) 1 _ (a.put o0.dst v0) (by decide) (fun j hj => by
    have hj' : j < n - 1 := by rw [htl] at hj; exact hj
    simp [hj', Nat.add_comm]) (by rw [htl]; omega) inv1 (by rw [htl]; exact hlex) h
  have hlm : ((l.drop n).take k).length = k := by simp; omega
  have hlr : (l.drop (n + k)).length = l.length - (n + k) := by simp
  have hsz : ((l.drop n).take k).length + (l.drop (n + k)).length = l.toArray.size - n := by rw [hlm, hlr]; simp; omega
  have happ : (l.drop n).take k ++ l.drop (n + k) = l.drop n := by rw [← List.drop_drop]; exact List.take_append_drop _ _
  have T := wpAnyT_of_headQ (D := D) (Q := Q) (g := l.toArray.size - n) hro hCD (fun listed a' w' hw' hL => by
    obtain ⟨hseq, hLq⟩ := hL
    rw [← hsz] at hseq ⊢
    exact wpAnyT_of_list (fun e => by rw [e] at hlr; simp at hlr; omega) _ n listed a' w' (fun j => by rw [happ]; simp [List.getElem?_drop]) (by rw [hlm]; exact hw0) hgn hseq (hLq w' hw')) _ _ _ _ hC H
  rw [htl, show n - 1 + (l.toArray.size - n) = l.toArray.size - 1 by omega] at T
  have := late_first (md := .any) hro h0a (Region.noSelect_spec hsel) hQ (l.toArray.size - 1) _ a w (Region.free_spec h0a hf0) hr0' hy T
  rw [show l.toArray.size - 1 + 1 = l.toArray.size by omega] at this
  exact this
theorem region_late2_inRound {id r : Nat} {a : Act} {w : World} {l : List Oper} (n k : Nat) (hro : F.round = none) (hd : noDefer l.toArray = true) (hm : P.follows .mixedOrders = true) (hB : lateB2 l.toArray n k = true) (o0 : Oper) (h0 : l[0]? = some o0) (hgn : ∀ o ∈ (l.drop n).take k, o.guard = none) (v0 : Value)
    (hQ : ∀ c a w, Q (.panic c) (a.put o0.dst v0) w → Q (.panic c) a w) (hy : YieldsD P l.toArray D o0 v0 a) (hCD : ∀ w, C w → D w) (hC : C w.drew)
    (h : wpQuietIn F m P l.toArray C (fun a' => ∀ w', C w' → wpListT F m P l.toArray D Q (l.drop (n + k)) ((l.drop n).take k) a' w') ((l.drop 1).take (n - 1)) (a.put o0.dst v0)) :
    (Code.region id l.toArray true).wpIn (F.inRound r) m P Q a w :=
  region_inRound hro hd hm (any_late2 n k hro hB o0 h0 hgn v0 hQ hy hCD hC h)
theorem region_late2 {id : Nat} {a : Act} {w : World} {l : List Oper} (n k : Nat) (hro : F.round = none) (hm : P.follows .mixedOrders = true) (hB : lateB2 l.toArray n k = true) (o0 : Oper) (h0 : l[0]? = some o0) (hgn : ∀ o ∈ (l.drop n).take k, o.guard = none) (v0 : Value)
    (hQ : ∀ c a w, Q (.panic c) (a.put o0.dst v0) w → Q (.panic c) a w) (hy : YieldsD P l.toArray D o0 v0 a) (hCD : ∀ w, C w → D w) (hC : C w.drew)
    (h : wpQuietIn F m P l.toArray C (fun a' => ∀ w', C w' → wpListT F m P l.toArray D Q (l.drop (n + k)) ((l.drop n).take k) a' w') ((l.drop 1).take (n - 1)) (a.put o0.dst v0)) :
    (Code.region id l.toArray true).wpIn F m P Q a w :=
  wpIn_region_any hm (any_late2 n k hro hB o0 h0 hgn v0 hQ hy hCD hC h)
end
end Go.PM
namespace Go.PM
open Go.RowKit
def sinkB3 (md : Region.Mode) (ops : Array Oper) (m0 n : Nat) : Bool :=
  (List.range n).all fun i => decide (i < m0) || (List.range (n + 1)).any fun j => decide (i < j) && Region.waitsFor md ops j i
section
variable {P : Program} {ops : Array Oper} {md : Region.Mode}
theorem tail_waits3 {m0 n : Nat} {listed : Array Bool} (hs : sinkB3 md ops m0 n = true) (hc : Region.chainB md ops n = true) (hn : n < ops.size) (inv : HeadInv md ops n listed) :
    ∀ (d i : Nat), n - i = d → m0 ≤ i → i < n → listed.getD i true = false → ∀ t, n ≤ t → t ∉ Region.ready md ops listed := by
  intro d
  induction d using Nat.strongRecOn with
  | _ d ih =>
    intro i hd hi0 hi hun t ht hr
    obtain ⟨_, ot, hot, hall⟩ := mem_ready.1 hr
    have htlt : t < ops.size := (Array.getElem?_eq_some_iff.1 hot).1
    by_cases htn : t = n
    · subst htn
      have h1 := List.all_eq_true.1 hs i (List.mem_range.2 hi)
      rw [Bool.or_eq_true, decide_eq_true_eq] at h1
      have h1 := h1.resolve_left (by omega)
      obtain ⟨j, hj, hj2⟩ := List.any_eq_true.1 h1
      simp only [Bool.and_eq_true, decide_eq_true_eq] at hj2
      obtain ⟨oj, hoj, e, he, hb, hon⟩ := Region.waitsFor_spec hj2.2
      have hjle : j ≤ t := by have := List.mem_range.1 hj; omega
      by_cases hjt : j = t
      · subst hjt
        have : oj = ot := Option.some.inj (hoj.symm.trans hot)
        subst this
        have h2 := hall e he hb
        rw [hon, getD_both hun] at h2
        cases h2
      · cases hl : listed.getD j false with
        | true =>
          have h2 := inv.closed j oj hoj hl e he hb
          rw [hon, getD_both hun] at h2
          cases h2
        | false =>
          have hjs : j < listed.size := by rw [inv.size]; omega
          exact ih (t - j) (by omega) j rfl (by omega) (by omega) (getD_in hjs hl) t (Nat.le_refl _) hr
    · have h1 := List.all_eq_true.1 hc t (List.mem_range.2 htlt)
      simp only [Bool.or_eq_true, decide_eq_true_eq] at h1
      rcases h1 with h1 | h1
      · omega
      · obtain ⟨o', ho', e, he, hb, hon⟩ := Region.waitsFor_spec h1
        have : o' = ot := Option.some.inj (ho'.symm.trans hot)
        subst this
        have h2 := hall e he hb
        rw [hon, getD_both (inv.tail (t - 1) (by omega) (by omega))] at h2
        cases h2
end
section
variable {F : Fence} {m : Nat} {P : Program} {ops : Array Oper} {md : Region.Mode} {C D : World → Prop} {Q : Exit → Act → World → Prop}
theorem wpAnyLQ3_first {m0 n i : Nat} {oi : Oper} {v : Value} {L : Array Bool → Act → Prop} (hi : ops[i]? = some oi) (hsel : ∀ (j : Nat) (o : Oper) cs b, ops[j]? = some o → o.op ≠ .select cs b)
    (hi0 : m0 ≤ i) (hs : sinkB3 md ops m0 n = true) (hc : Region.chainB md ops n = true) (hn : n < ops.size) (hin : i < n)
    (hdone : ∀ listed a, L listed a → ∀ j ∈ Region.ready md ops listed, n ≤ j) :
    ∀ (f : Nat) (listed : Array Bool) (a : Act), HeadInv md ops n listed →
      (∀ j oj, ops[j]? = some oj → j ≠ i → listed.getD j true = false → (∀ e ∈ oj.after, Region.binds md e = true → e.on ≠ i) → oi.apart ops oj = true) →
      i ∈ Region.ready md ops listed → YieldsQuiet F m P ops C oi v a →
      wpAnyLQIn F m P md ops C n L f (listed.setIfInBounds i true) (a.put oi.dst v) → wpAnyLQIn F m P md ops C n L (f + 1) listed a := by
  intro f
  induction f with
  | zero =>
    intro listed a inv _ hr hy H
    have hun := (mem_ready.1 hr).1
    refine ⟨fun h => (by rw [h] at hr; cases hr), fun j hj => ?_⟩
    have hjn : j < n := by
      rcases Nat.lt_or_ge j n with h | h
      · exact h
      · exact absurd hj (tail_waits3 hs hc hn inv _ i rfl hi0 hin hun j h)
    refine ⟨hjn, ?_⟩
    by_cases hji : j = i
    · subst hji; exact hy.qOpIn hi H
    · have := hdone _ _ H j (ready_mono hj hji)
      omega
  | succ f ih =>
    intro listed a inv hfree hr hy H
    have hun := (mem_ready.1 hr).1
    refine ⟨fun h => (by rw [h] at hr; cases hr), fun j hj => ?_⟩
    have hjn : j < n := by
      rcases Nat.lt_or_ge j n with h | h
      · exact h
      · exact absurd hj (tail_waits3 hs hc hn inv _ i rfl hi0 hin hun j h)
    refine ⟨hjn, ?_⟩
    by_cases hji : j = i
    · subst hji; exact hy.qOpIn hi H
    · have h1 := (H.2 j (ready_mono hj hji)).2
      obtain ⟨hjun, oj, hoj, hall⟩ := mem_ready.1 hj
      have hnot : ∀ e ∈ oj.after, Region.binds md e = true → e.on ≠ i := fun e he hb heq => by
        have h1 := hall e he hb
        rw [heq, getD_both hun] at h1
        cases h1
      have h2 := qOpIn_put hoj (hfree j oj hoj hji hjun hnot) (fun cs b => hsel i oi cs b hi) (fun cs b => hsel j oj cs b hoj) hy h1
      have hfree' : ∀ k ok, ops[k]? = some ok → k ≠ i → (listed.setIfInBounds j true).getD k true = false →
          (∀ e ∈ ok.after, Region.binds md e = true → e.on ≠ i) → oi.apart ops ok = true := fun k ok hk hki hun hno => by
        refine hfree k ok hk hki ?_ hno
        by_cases hjk : j = k
        · subst hjk; exact hjun
        · rw [getD_set_ne true hjk] at hun; exact hun
      refine qOpIn_mono (fun a' h3 => ih (listed.setIfInBounds j true) a' (inv.set hj hjn) hfree' (ready_mono hr (Ne.symm hji)) h3.1 ?_) h2
      rw [Array.setIfInBounds_comm _ _ hji]
      exact h3.2

theorem wpAnyLQ3_lex {m0 n g : Nat} {Lq : Act → Prop} (hsel : Region.noSelect ops = true) (hs : sinkB3 md ops m0 n = true) (hc : Region.chainB md ops n = true) (hn : n < ops.size) :
    ∀ (l : List Oper) (k : Nat) (listed : Array Bool) (a : Act), m0 ≤ k → (∀ j, j < l.length → l[j]? = ops[k + j]?) → k + l.length = n → HeadInv md ops n listed →
    Region.lexHead md ops g l.length k listed = true → wpQuietIn F m P ops C Lq l a →
    wpAnyLQIn F m P md ops C n (fun listed' a' => Region.seqB md ops g n listed' = true ∧ Lq a') l.length listed a
  | [], k, listed, a, _, _, hk, _, hB, h => by
    have : k = n := by simpa using hk
    subst this
    exact ⟨by simpa [Region.lexHead] using hB, h⟩
  | o :: l, k, listed, a, hk0, hl, hk, inv, hB, h => by
    have h0 : ops[k]? = some o := by simpa using (hl 0 (by simp)).symm
    simp only [List.length_cons, Region.lexHead, Bool.and_eq_true] at hB
    obtain ⟨⟨hr, hf⟩, hB'⟩ := hB
    have hkn : k < n := by simp only [List.length_cons] at hk; omega
    have hr' : k ∈ Region.ready md ops listed := by simpa using hr
    have hst : qOpIn F m P ops C k (wpQuietIn F m P ops C Lq l) a := by unfold qOpIn; simp only [h0]; exact h
    obtain ⟨v, hy, hK⟩ := yieldsQuiet_of_qOpIn h0 hst
    exact wpAnyLQ3_first h0 (Region.noSelect_spec hsel) hk0 hs hc hn hkn (fun listed' a' hL => seqB_ready hL.1) l.length listed a inv (Region.free_spec h0 hf) hr' hy
      (wpAnyLQ3_lex hsel hs hc hn l (k + 1) _ _ (by omega) (fun j hj => by have := hl (j + 1) (by simp; omega); simpa [Nat.add_assoc, Nat.add_comm 1 j] using this) (by simp only [List.length_cons] at hk; omega) (inv.set hr' hkn) hB' hK)



/-- an operation that reads no memory and is waited for by whatever waits for number 0: it first -/
theorem late_pureT {oi : Oper} {v : Value} (i : Nat) (hro : F.round = none) (hi : ops[i]? = some oi) (hsel : ∀ (j : Nat) (o : Oper) cs b, ops[j]? = some o → o.op ≠ .select cs b)
    (hQ : ∀ c a w, Q (.panic c) (a.put oi.dst v) w → Q (.panic c) a w) (hww : ∀ j, Region.waitsFor md ops j 0 = true → Region.waitsFor md ops j i = true) :
    ∀ (fuel : Nat) (listed : Array Bool) (a : Act) (w : World),
      (∀ j oj, ops[j]? = some oj → j ≠ i → listed.getD j true = false → (∀ e ∈ oj.after, Region.binds md e = true → e.on ≠ i) → oi.apart ops oj = true) →
      i ∈ Region.ready md ops listed → YieldsD P ops (fun _ => True) oi v a →
      wpAnyT F m P md ops D Q fuel (listed.setIfInBounds i true) (a.put oi.dst v) w → wpAnyT F m P md ops D Q (fuel + 1) listed a w := by
  intro fuel
  induction fuel with
  | zero =>
    intro listed a w _ hr hy H
    refine ⟨H.1, fun h => (by rw [h] at hr; cases hr), fun j hj => ?_⟩
    by_cases hji : j = i
    · subst hji
      refine hy.op hro hi trivial ?_
      split
      · exact H.2
      · exact H
    · have := ready_mono hj hji
      rw [H.2.1] at this
      cases this
  | succ fuel ih =>
    intro listed a w hfree hr hy H
    refine ⟨H.1, fun h => (by rw [h] at hr; cases hr), fun j hj => ?_⟩
    by_cases hji : j = i
    · subst hji
      refine hy.op hro hi trivial ?_
      split
      · exact wpAnyT_any _ _ _ _ H
      · exact H
    · have h1 := H.2.2 j (ready_mono hj hji)
      obtain ⟨hjun, oj, hoj, hall⟩ := mem_ready.1 hj
      have hun0 := (mem_ready.1 hr).1
      have hnot : ∀ e ∈ oj.after, Region.binds md e = true → e.on ≠ i := fun e he hb heq => by
        have h1 := hall e he hb
        rw [heq, getD_both hun0] at h1
        cases h1
      have hnwi : Region.waitsFor md ops j i = false := by
        cases hwf : Region.waitsFor md ops j i with
        | false => rfl
        | true =>
          obtain ⟨o', ho', e, he, hb, hon⟩ := Region.waitsFor_spec hwf
          have : o' = oj := Option.some.inj (ho'.symm.trans hoj)
          subst this
          exact absurd hon (hnot e he hb)
      have hnw : Region.waitsFor md ops j 0 = false := by
        cases hwf : Region.waitsFor md ops j 0 with
        | false => rfl
        | true => rw [hww j hwf] at hnwi; cases hnwi
      have h2 := opD_put hro hoj (hfree j oj hoj hji hjun hnot) (fun cs b => hsel i oi cs b hi) (fun cs b => hsel j oj cs b hoj) hQ hy h1
      have hfree' : ∀ k ok, ops[k]? = some ok → k ≠ i → (listed.setIfInBounds j true).getD k true = false →
          (∀ e ∈ ok.after, Region.binds md e = true → e.on ≠ i) → oi.apart ops ok = true := fun k ok hk hki hun hno => by
        refine hfree k ok hk hki ?_ hno
        by_cases hjk : j = k
        · subst hjk; exact hjun
        · rw [getD_set_ne true hjk] at hun; exact hun
      refine wpOpIn_mono (fun a' w' h3 => ?_) h2
      have h4 := h3.2
      rw [hnw, if_neg (by decide)] at h4 ⊢
      refine ih (listed.setIfInBounds j true) a' w' hfree' (ready_mono hr (Ne.symm hji)) h3.1 ?_
      rw [Array.setIfInBounds_comm _ _ hji]
      exact h4
/-- what is asked of the region's form -/
def lateB3 (ops : Array Oper) (n k : Nat) : Bool :=
  Region.noSelect ops && decide (1 < n) && decide (n + k < ops.size) && sinkB3 .any ops 2 n && Region.chainB .any ops n && Region.lexHead .any ops (ops.size - n) (n - 2) 2 (((Array.replicate ops.size false).setIfInBounds 0 true).setIfInBounds 1 true) &&
    Region.waitsFor .any ops (n + k) 0 && Region.free .any ops (Array.replicate ops.size false) 0 && (Region.ready .any ops (Array.replicate ops.size false)).contains 0 &&
    Region.free .any ops ((Array.replicate ops.size false).setIfInBounds 0 true) 1 && (Region.ready .any ops ((Array.replicate ops.size false).setIfInBounds 0 true)).contains 1 &&
    (List.range ops.size).all fun j => !Region.waitsFor .any ops j 0 || Region.waitsFor .any ops j 1
/-- A region that draws its order, whose first two operations are waited for by the last ones alone (the first reads memory, the second does not): they first, n - 2 quiet ones, k that turn something else, the others one behind the other. -/
theorem any_late3 {a : Act} {w : World} {l : List Oper} (n k : Nat) (hro : F.round = none) (hB : lateB3 l.toArray n k = true) (o0 o1 : Oper) (h0 : l[0]? = some o0) (h1 : l[1]? = some o1) (hgn : ∀ o ∈ (l.drop n).take k, o.guard = none) (v0 v1 : Value)
    (hQ : ∀ c a w, Q (.panic c) (a.put o0.dst v0) w → Q (.panic c) a w) (hQ1 : ∀ c a w, Q (.panic c) (a.put o1.dst v1) w → Q (.panic c) a w) (hy : YieldsD P l.toArray D o0 v0 a) (hy1 : YieldsD P l.toArray (fun _ => True) o1 v1 (a.put o0.dst v0)) (hCD : ∀ w, C w → D w) (hC : C w)
    (h : wpQuietIn F m P l.toArray C (fun a' => ∀ w', C w' → wpListT F m P l.toArray D Q (l.drop (n + k)) ((l.drop n).take k) a' w') ((l.drop 2).take (n - 2)) ((a.put o0.dst v0).put o1.dst v1)) :
    wpAnyIn F m P .any l.toArray Q l.toArray.size (Array.replicate l.toArray.size false) a w := by
  simp only [lateB3, Bool.and_eq_true, decide_eq_true_eq] at hB
  obtain ⟨⟨⟨⟨⟨⟨⟨⟨⟨⟨⟨hsel, hn0⟩, hn⟩, hs⟩, hc⟩, hlex⟩, hw0⟩, hf0⟩, hr0⟩, hf1⟩, hr1⟩, hall⟩ := hB
  have hn' : n + k < l.length := by simpa using hn
  have hr0' : 0 ∈ Region.ready .any l.toArray (Array.replicate l.toArray.size false) := by simpa using hr0
  have hr1' : 1 ∈ Region.ready .any l.toArray ((Array.replicate l.toArray.size false).setIfInBounds 0 true) := by simpa using hr1
  have h0a : l.toArray[0]? = some o0 := by simpa using h0
  have h1a : l.toArray[1]? = some o1 := by simpa using h1
  have hww : ∀ j, Region.waitsFor .any l.toArray j 0 = true → Region.waitsFor .any l.toArray j 1 = true := fun j hj => by
    obtain ⟨oj, hoj, _⟩ := Region.waitsFor_spec hj
    have hlt : j < l.toArray.size := (Array.getElem?_eq_some_iff.1 hoj).1
    have := List.all_eq_true.1 hall j (List.mem_range.2 hlt)
    rw [hj] at this
    simpa using this
  have inv0 : HeadInv .any l.toArray n (Array.replicate l.toArray.size false) :=
    ⟨by simp, fun j oj _ hl => (by rw [getD_replicate_false] at hl; cases hl), fun t _ ht => getD_in (by simpa using ht) (getD_replicate_false _ _)⟩
  have inv1 := inv0.set hr0' (by omega)
  have inv2 := inv1.set hr1' hn0
  have htl : ((l.drop 2).take (n - 2)).length = n - 2 := by simp; omega
  have H := wpAnyLQ3_lex (m0 := 2) (md := .any) (g := l.toArray.size - n) hsel hs hc (by omega) ((l.drop 2).take (n - 2)) 2 _ ((a.put o0.dst v0).put o1.dst v1) (Nat.le_refl _) (fun j hj => by
    have hj' : j < n - 2 := by rw [htl] at hj; exact hj
    simp [hj', Nat.add_comm]) (by rw [htl]; omega) inv2 (by rw [htl]; exact hlex) h
  have hlm : ((l.drop n).take k).length = k := by simp; omega
  have hlr : (l.drop (n + k)).length = l.length - (n + k) := by simp
  have hsz : ((l.drop n).take k).length + (l.drop (n + k)).length = l.toArray.size - n := by rw [hlm, hlr]; simp; omega
  have happ : (l.drop n).take k ++ l.drop (n + k) = l.drop n := by rw [← List.drop_drop]; exact List.take_append_drop _ _
  have T := wpAnyT_of_headQ (D := D) (Q := Q) (g := l.toArray.size - n) hro hCD (fun listed a' w' hw' hL => by
    obtain ⟨hseq, hLq⟩ := hL
    rw [← hsz] at hseq ⊢
    exact wpAnyT_of_list (fun e => by rw [e] at hlr; simp at hlr; omega) _ n listed a' w' (fun j => by rw [happ]; simp [List.getElem?_drop]) (by rw [hlm]; exact hw0) hgn hseq (hLq w' hw')) _ _ _ _ hC H
  rw [htl, show n - 2 + (l.toArray.size - n) = l.toArray.size - 2 by omega] at T
  have T1 := late_pureT (md := .any) 1 hro h1a (Region.noSelect_spec hsel) hQ1 hww (l.toArray.size - 2) _ (a.put o0.dst v0) w (Region.free_spec h1a hf1) hr1' hy1 T
  rw [show l.toArray.size - 2 + 1 = l.toArray.size - 1 by omega] at T1
  have := late_first (md := .any) hro h0a (Region.noSelect_spec hsel) hQ (l.toArray.size - 1) _ a w (Region.free_spec h0a hf0) hr0' hy T1
  rw [show l.toArray.size - 1 + 1 = l.toArray.size by omega] at this
  exact this
theorem region_late3_inRound {id r : Nat} {a : Act} {w : World} {l : List Oper} (n k : Nat) (hro : F.round = none) (hd : noDefer l.toArray = true) (hm : P.follows .mixedOrders = true) (hB : lateB3 l.toArray n k = true) (o0 o1 : Oper) (h0 : l[0]? = some o0) (h1 : l[1]? = some o1) (hgn : ∀ o ∈ (l.drop n).take k, o.guard = none) (v0 v1 : Value)
    (hQ : ∀ c a w, Q (.panic c) (a.put o0.dst v0) w → Q (.panic c) a w) (hQ1 : ∀ c a w, Q (.panic c) (a.put o1.dst v1) w → Q (.panic c) a w) (hy : YieldsD P l.toArray D o0 v0 a) (hy1 : YieldsD P l.toArray (fun _ => True) o1 v1 (a.put o0.dst v0)) (hCD : ∀ w, C w → D w) (hC : C w.drew)
    (h : wpQuietIn F m P l.toArray C (fun a' => ∀ w', C w' → wpListT F m P l.toArray D Q (l.drop (n + k)) ((l.drop n).take k) a' w') ((l.drop 2).take (n - 2)) ((a.put o0.dst v0).put o1.dst v1)) :
    (Code.region id l.toArray true).wpIn (F.inRound r) m P Q a w :=
  region_inRound hro hd hm (any_late3 n k hro hB o0 o1 h0 h1 hgn v0 v1 hQ hQ1 hy hy1 hCD hC h)
theorem op_k3 {o : Oper} {a : Act} {w : World} {X : Act → World → Prop} (h : ∀ K : Act → World → Prop, (∀ a w, X a w → K a w) → Oper.wpIn F m P o a w K Q) : Oper.wpIn F m P o a w X Q := h X fun _ _ h => h
end
end Go.PM
namespace Go.PF
open Go.PM Go.RowKit Go.PD
theorem arrB_mem {n : Nat} (h1 : 1 ≤ n) (h4 : n ≤ 4) (q : ByteArray) (hq : q ∈ arrB n ⟨#[]⟩) : parOk q.data.toList = true ∧ q.data.toList.length = n := by
  have h := List.mem_map_of_mem (f := fun q : ByteArray => q.data.toList) hq
  rw [arrB_map] at h
  exact (arrs_par h1 h4 _).1 h
theorem arrB_len (n : Nat) (h4 : n ≤ 4) : (arrB n ⟨#[]⟩).length ≤ 1296 := by
  have h := congrArg List.length (arrB_map n ⟨#[]⟩)
  rw [List.length_map] at h
  rw [h]
  exact Nat.le_trans (arrs_len n _) (Nat.pow_le_pow_right (n := 6) (by omega) h4)
theorem yieldsD_loadF {P : Program} {ops : Array Oper} {o : Oper} {a : Act} (hgd : o.guard = none) (ty : TypeId) (x : Operand) (ho : o.op = .load ty x) (hagg : ∀ w, (isAgg ty).run P w = .ok false w) (b : Nat) (hx : a.eval x = .pointer (some ⟨b, 0, none⟩)) (v : Value) :
    YieldsD P ops (fun w => w.cell? ⟨b, 0, none⟩ = some v) o v a := by
  refine ⟨by simp [Region.wanted, hgd], fun w hw => ?_, fun w => by simp [Oper.about, ho]⟩
  simp [execOp, ho, hx, Instr.loadAt, Instr.sureAddr, loadVar, Sem.run_bind, hagg, run_load, hw]
end Go.PF
namespace Go.Proofs.YthgcoocgeekdnaaGreatDoor
open Go.RowKit Go.PM Go.PD Go.PF Go.Lib
attribute [local go_sem] Oper.semAt_some
theorem Kn.same {W W' : World} {b n : Nat} (h : Kn W b n) (e : W'.heap[b]? = W.heap[b]?) : Kn W' b n := by
  obtain ⟨D, ⟨es, c, hb, hF⟩, k⟩ := h
  exact ⟨D, ⟨es, c, e.trans hb, hF⟩, k⟩

theorem choices_c (n : Int) (A : Option Addr) (len cap : Nat) (w : World) :
    Calls Tryz.prog 22 #[.int .i64 n, .slice A len cap] w fun e w' => e = .returned (.func (.func 35) #[] #[.pointer (some ⟨w.heap.size, 0, none⟩), .pointer (some ⟨w.heap.size + 1, 0, none⟩)]) ∧ w' = (w.alloc (.cells #[.int .i64 n] 3)).alloc (.cells #[.slice A len cap] 23) := by
  go_enter Tryz.func22, Tryz.ntmps22
  go_wp2
  go_ret
  exact ⟨by simp, rfl⟩
set_option maxRecDepth 100000 in
set_option maxHeartbeats 6400000 in
theorem cho_iter (n : Nat) (cs : List ByteArray) (hcs : csOk (n : Int) cs = true) (v : Value) (b1 b2 m : Nat) :
    IterK (fun A => U8w A ∧ RdT A v cs ∧ At A b1 3 #[.int .i64 n] ∧ At A b2 23 #[v]) Fence.wide m Tryz.prog 35 (fun y => #[] ++ #[y] ++ #[.pointer (some ⟨b1, 0, none⟩), .pointer (some ⟨b2, 0, none⟩)]) (fun q : ByteArray => #[.string q, .int .i64 (totI q.data.toList cs)]) (arrB n ⟨#[]⟩) := by
  obtain ⟨N, hN⟩ : ∃ N : Nat, 10 ≤ N := ⟨10, Nat.le_refl _⟩
  refine IterK.wide (n := N) ?_
  intro l J Jx W hJ hJx hP hY h0
  obtain ⟨h1, h4, h5, _⟩ := cs_at hcs
  obtain ⟨hT0, hx0, hA1, hA2⟩ := hP _ _ h0
  obtain ⟨Av, cap, rfl, _, _, _⟩ := id hx0.open
  have c1 : W.cell? ⟨b1, 0, none⟩ = some (.int .i64 n) := hA1.cell 0
  have hl1 := hA1.lt
  have hl2 := hA2.lt
  have HLEN := Lib.hid (arrB_len n (by omega))
  have HMEM := Lib.hid (fun q hq => arrB_mem (n := n) (by omega) (by omega) q hq)
  have HCL := Lib.hid (fun ps (hp : parOk ps = true) (hl : (ps.length : Int) = n) => cs_cl hcs hp hl)
  have HIT := Lib.hid (fun b1 b2 m => arr_iter n ⟨#[]⟩ n (by show 0 + n = n; omega) (by omega) b1 b2 m)
  have hmm := @run_makeMap Tryz.prog
  change CallsIn _ _ _ _ #[.func (.yield l) #[] #[], .pointer (some ⟨b1, 0, none⟩), .pointer (some ⟨b2, 0, none⟩)] W _
  refine callsIn_of_wp_marks Tryz.func35 rfl trivial ?_ rfl
  simp only [Tryz.ntmps35, List.size_toArray, List.length_cons, List.length_nil, Nat.reduceAdd, Nat.reduceSub, Array.replicate_succ, Array.replicate_zero, List.push_toArray, List.append_toArray, List.nil_append, List.cons_append]
  obtain ⟨W0, hW0⟩ : ∃ W0 : World, W0 = ((W.alloc (.cells #[.func (.yield l) #[] #[]] 62)).alloc (.map #[] 0)).alloc (.cells #[.map (some (W.heap.size + 1))] 53) := ⟨_, rfl⟩
  have hS0 : W0.heap.size = W.heap.size + 3 := by rw [hW0]; simp only [World.size_alloc]
  have hB0 : Below W.heap.size W W0 := by rw [hW0]; (repeat' (first | (with_reducible exact Below.refl _ _) | (with_reducible assumption) | (with_reducible refine Below.alloc ?_ ?_ _) | (with_reducible refine Below.drew ?_) | (with_reducible refine Below.setCell ?_ ?_ _) | (with_reducible exact Nat.le_refl _) | omega | ((repeat (first | rewrite [World.size_alloc] | rewrite [World.size_setCell] | rewrite [World.size_drew])); omega) | (simp; omega) | (simp; done)))
  have y0 : At W0 W.heap.size 62 #[.func (.yield l) #[] #[]] := by rw [hW0]; exact ((At.new _ _ _).alloc _).alloc _
  have k0 : Kn W0 (W.heap.size + 1) 0 := by
    rw [hW0]
    have := Kn.made (W.alloc (.cells #[.func (.yield l) #[] #[]] 62))
    rw [World.size_alloc] at this
    exact this.kept (World.grownBy_alloc _ _ none) (by simp)
  have z0 : At W0 (W.heap.size + 1 + 1) 53 #[.map (some (W.heap.size + 1))] := by
    rw [hW0]
    have := At.new ((W.alloc (.cells #[.func (.yield l) #[] #[]] 62)).alloc (.map #[] 0)) 53 #[.map (some (W.heap.size + 1))]
    rwa [World.size_alloc, World.size_alloc] at this
  have j0 : J [] W0 := by rw [hW0]; exact hJ.alloc _ (hJ.alloc _ (hJ.alloc _ h0))
  have c1 : (((W.alloc (.cells #[.func (.yield l) #[] #[]] 62)).alloc (.map #[] 0)).alloc (.cells #[.map (some (W.heap.size + 1))] 53)).cell? ⟨b1, 0, none⟩ = some (.int .i64 n) := by rw [← hW0]; exact (hA1.keep hB0).cell 0
  clear hT0 hx0 hA1 hA2 h1 h4
  gi_wp2_with fail
  rw [← hW0]
  refine ⟨trivial, fun _ => by omega, callsIn_wide.2 ((arrangements_c _ _ _).mono ?_)⟩
  rintro e W1 ⟨rfl, hW1⟩
  have hS1 : W1.heap.size = W.heap.size + 5 := by rw [hW1]; simp only [World.size_alloc]; omega
  have hB1 : Below W0.heap.size W0 W1 := by rw [hW1]; (repeat' (first | (with_reducible exact Below.refl _ _) | (with_reducible assumption) | (with_reducible refine Below.alloc ?_ ?_ _) | (with_reducible refine Below.drew ?_) | (with_reducible refine Below.setCell ?_ ?_ _) | (with_reducible exact Nat.le_refl _) | omega | ((repeat (first | rewrite [World.size_alloc] | rewrite [World.size_setCell] | rewrite [World.size_drew])); omega) | (simp; omega) | (simp; done)))
  have x1 : At W1 W0.heap.size 37 #[.string ⟨#[]⟩] := by rw [hW1]; exact (At.new _ _ _).alloc _
  have x2 : At W1 (W0.heap.size + 1) 3 #[.int .i64 n] := by
    rw [hW1]
    have := At.new (W0.alloc (.cells #[.string ⟨#[]⟩] 37)) 3 #[.int .i64 n]
    rwa [World.size_alloc] at this
  have j1 : J [] W1 := by rw [hW1]; exact hJ.alloc _ (hJ.alloc _ j0)
  have y1 := y0.keep hB1
  have z1 := z0.keep hB1
  have k1 := k0.below hB1
  have hT0 : W.heap.size + 3 ≤ W0.heap.size := by omega
  have hT1 : W0.heap.size + 2 ≤ W1.heap.size := by omega
  clear hW0 hW1 hB0 hB1 y0 z0 k0 j0 h0 c1 hS0 hS1
  gi_wp2
  refine range_lawK1 (F := Fence.wide) (gf := 50) (lf := #[]) (lb := #[.pointer (some ⟨W0.heap.size, 0, none⟩), .pointer (some ⟨W0.heap.size + 1, 0, none⟩)]) rfl (by omega) rfl trivial (fun args w => rfl) (encs := fun q : ByteArray => #[.string q]) (xs := arrB n ⟨#[]⟩)
    (HIT.out W0.heap.size (W0.heap.size + 1) _) (fun _ => rfl)
    (fun pre Z => J pre Z ∧ At Z W.heap.size 62 #[.func (.yield l) #[] #[]] ∧ At Z (W.heap.size + 1 + 1) 53 #[.map (some (W.heap.size + 1))] ∧ Kn Z (W.heap.size + 1) (5 * pre.length) ∧ At Z W0.heap.size 37 #[.string ⟨#[]⟩] ∧ At Z (W0.heap.size + 1) 3 #[.int .i64 n] ∧ W1.heap.size ≤ Z.heap.size)
    (fun cc pre Z => cc = .ret ∧ Jx pre Z) ?pr ?own ?ownx ?start ?a1 ?assign ?body ?done ?stop
  case pr => exact fun pre Z h => ⟨h.2.2.2.2.1, h.2.2.2.2.2.1⟩
  case own =>
    rintro pre Z Z' row ⟨g1, g2, g3, g4, g5, g6, g7⟩ hg hr
    exact ⟨hJ _ _ _ _ g1 hg (fun r e => ⟨by have := (hr r e).1; omega, (hr r e).2⟩), at_turn g2 hg (fun r e => (hr r e).2), at_turn g3 hg (fun r e => (hr r e).2), g4.kept hg (fun e => by have h9 := (hr _ e.symm).1; omega), at_turn g5 hg (fun r e => (hr r e).2), at_turn g6 hg (fun r e => (hr r e).2), Nat.le_trans g7 hg.size⟩
  case ownx =>
    rintro cc pre Z Z' row ⟨g0, g1⟩ hg hr
    exact ⟨g0, hJx _ _ _ _ g1 hg (fun r e => ⟨by have := (hr r e).1; omega, (hr r e).2⟩)⟩
  case start => exact ⟨j1, y1, z1, k1, x1, x2, Nat.le_refl _⟩
  case assign =>
    intro l2 q Z K hK
    gi_wp2
    exact hK
  case done =>
    rintro D Z hD ⟨g1, -⟩ hd
    clear j1 y1 z1 k1 x1 x2
    gi_wp2
    refine leaves_J hJ _ [D] Z ⟨by simp, fun E hE => ?_⟩ g1 ?_
    · obtain rfl : E = D := by simpa using hE
      exact ⟨by omega, hd⟩
    · intro A' hA'
      exact ⟨_, results_none rfl _ _ _, ⟨_, rfl⟩, .inl hA'⟩
  case stop =>
    rintro D cc pre Z hD hp ⟨rfl, g1⟩ hd
    clear j1 y1 z1 k1 x1 x2
    gi_wp2
    refine leaves_J hJx _ [D] Z ⟨by simp, fun E hE => ?_⟩ g1 ?_
    · obtain rfl : E = D := by simpa using hE
      exact ⟨by omega, hd⟩
    · intro A' hA'
      exact ⟨_, results_none rfl _ _ _, ⟨_, rfl⟩, .inr ⟨_, hp, hA'⟩⟩
  case body =>
    rintro l2 pre q Z ⟨g1, g2, g3, g4, g5, g6, g7⟩ hp hsz
    have hqm : q ∈ arrB n ⟨#[]⟩ := by
      obtain ⟨t, ht⟩ := hp
      rw [← ht]; simp
    have hpl : pre.length ≤ 1296 := by
      have e1 := hp.length_le
      have e2 := HLEN.out
      rw [List.length_append] at e1
      omega
    obtain ⟨hq1, hq2⟩ := HMEM.out q hqm
    obtain ⟨hT, hx, hA1, hA2⟩ := hP _ _ g1
    have hbd : Below Z.heap.size Z Z.drew := (Below.refl _ _).drew
    have hTOT := total_c (W.heap.size + 1) (5 * pre.length) q cs _ Z.drew (hT.below hbd) g4.drew (hx.below hbd) h5 (HCL.out _ hq1 (by omega)) (by unfold maxLen; omega)
    have HTOT := Lib.hid hTOT
    have gd1 : J pre Z.drew := hJ _ _ _ none g1 (grown_below hbd none) (fun r e => by cases e)
    have gd2 : At Z.drew W.heap.size 62 #[.func (.yield l) #[] #[]] := g2
    have cY : Z.drew.cell? ⟨W.heap.size, 0, none⟩ = some (.func (.yield l) #[] #[]) := g2.cell 0
    have cK : Z.drew.cell? ⟨W.heap.size + 1 + 1, 0, none⟩ = some (.map (some (W.heap.size + 1))) := g3.cell 0
    have cV : Z.drew.cell? ⟨b2, 0, none⟩ = some (.slice Av cs.length cap) := hA2.cell 0
    have lY := g2.lt
    have lK := g3.lt
    have lV := hA2.lt
    have hob := g4.drew.obj
    clear hTOT hT hx hA1 hA2 hq1 hq2 hqm g1
    gi_wp2
    refine region_late3_inRound (F := Fence.wide) (C := fun w' => w' = Z.drew) (D := fun w' => w'.cell? ⟨W.heap.size, 0, none⟩ = some (.func (.yield l) #[] #[])) 5 1 rfl (by kernel_rfl) (by kernel_rfl) (by kernel_rfl) _ _ (by rfl) (by rfl) (by simp) (.func (.yield l) #[] #[]) (.string q) (fun _ _ _ h => h) (fun _ _ _ h => h) (yieldsD_loadF (by rfl) _ _ (by rfl) (fun w => by kernel_rfl) _ (by rfl) _) (yieldsD_move (by rfl) _ (by rfl) _ (by rfl)) (fun w' hw => by subst hw; exact cY) rfl ?_
    simp only [List.take_succ_cons, List.take_zero, List.drop_succ_cons, List.drop_zero, Nat.reduceSub, Nat.reduceAdd]
    simp only [Act.put, List.setIfInBounds_toArray, List.set_cons_succ, List.set_cons_zero]
    gi_big_quiet_step (fail)
    gi_big_quiet_step (fail)
    gi_big_quiet_step (fail)
    refine wpQuietIn_nil ?_
    intro w' hw'
    subst hw'
    refine ⟨cY, op_k3 (fun K hK => ?_)⟩
    go_simp
    refine ⟨trivial, fun _ => by omega, callsIn_wide.2 (HTOT.out.mono ?_)⟩
    rintro e w3 ⟨rfl, hK3, hT3, hg3⟩
    refine hK _ _ ?_
    clear hK K
    have hzd : Z.drew.heap.size = Z.heap.size := rfl
    have hz3 := hg3.size
    have hto : ∀ r, some (W.heap.size + 1) = some r → ∃ o : Obj, Z.drew.heap[r]? = some o ∧ o.isCells = false := fun r e => by cases e; exact hob
    have d3 : w3.cell? ⟨W.heap.size, 0, none⟩ = some (.func (.yield l) #[] #[]) := (at_turn gd2 hg3 hto).cell 0
    have e1 : J pre w3 := hJ _ _ _ _ gd1 hg3 (fun r e => ⟨by cases e; omega, hto r e⟩)
    have e2 := at_turn gd2 hg3 hto
    have e3 : At w3 (W.heap.size + 1 + 1) 53 #[.map (some (W.heap.size + 1))] := at_turn (w := Z.drew) g3 hg3 hto
    have e5 : At w3 W0.heap.size 37 #[.string ⟨#[]⟩] := at_turn (w := Z.drew) g5 hg3 hto
    have e6 : At w3 (W0.heap.size + 1) 3 #[.int .i64 n] := at_turn (w := Z.drew) g6 hg3 hto
    have hk3 : KeepsNew W1.heap.size Z w3 := (KeepsNew.drew Z).trans (KeepsNew.grown hg3 (fun g e => by cases e; omega))
    have hyl := yieldAt_wide (m := N - 1 - 1 - 1) (hY _ q w3 e1 (by omega) hp)
    obtain ⟨fn, tmps, assign, body, hy, hR⟩ := hyl
    have hpl2 : (pre ++ [q]).length = pre.length + 1 := by simp
    have HCONT : Hid (∀ Z', J (pre ++ [q]) Z' → KeepsNew W.heap.size w3 Z' → (J (pre ++ [q]) Z' ∧ At Z' W.heap.size 62 #[.func (.yield l) #[] #[]] ∧ At Z' (W.heap.size + 1 + 1) 53 #[.map (some (W.heap.size + 1))] ∧ Kn Z' (W.heap.size + 1) (5 * (pre ++ [q]).length) ∧ At Z' W0.heap.size 37 #[.string ⟨#[]⟩] ∧ At Z' (W0.heap.size + 1) 3 #[.int .i64 n] ∧ W1.heap.size ≤ Z'.heap.size) ∧ KeepsNew W1.heap.size Z Z') := fun Z' h1 hk => by
      refine ⟨⟨h1, hk.block (Nat.le_refl _) e2, hk.block (by omega) e3, ?_, hk.block (by omega) e5, hk.block (by omega) e6, by have := hk.size; omega⟩, hk3.trans (hk.mono (by omega))⟩
      rw [hpl2]
      exact (hK3.same (hk.same _ (by omega) hK3.lt)).mono (by omega)
    have HSTOP : Hid (∀ Z', Jx (pre ++ [q]) Z' → KeepsNew W.heap.size w3 Z' → Jx (pre ++ [q]) Z' ∧ KeepsNew W1.heap.size Z Z') := fun Z' h1 hk => ⟨h1, hk3.trans (hk.mono (by omega))⟩
    refine ⟨d3, ?_⟩
    clear g2 g3 g4 g5 g6 gd1 gd2 cY cK cV hob HTOT hK3 hT3 hg3 hto d3 e1 e2 e3 e5 e6 hk3 j1 y1 z1 k1 x1 x2 hp hz3
    gi_wp2
    refine ⟨fun _ => by omega, RoundIn.mono hR ?_⟩
    rintro e Z' (⟨rfl, h1, hk2⟩ | ⟨rfl, h1, hk2⟩)
    · have fin := Lib.hid (HCONT.out Z' h1 hk2)
      clear hR hy h1 hk2
      gi_wp2
      exact fin.out
    · have fin := Lib.hid (HSTOP.out Z' h1 hk2)
      clear hR hy h1 hk2
      gi_wp2
      exact ⟨⟨rfl, fin.out.1⟩, fin.out.2⟩
end Go.Proofs.YthgcoocgeekdnaaGreatDoor
namespace Go.Proofs.YthgcoocgeekdnaaGreatDoor
open Go.RowKit Go.PM Go.PD Go.PF Go.Lib
/-- what a search has seen -/
def bF (cs qs : List ByteArray) : Cho := (qs.map fun q => q.data.toList).foldl (vis cs) cho0
def beB (cs qs : List ByteArray) : ByteArray := ⟨(bF cs qs).best.toArray⟩
def leI (cs qs : List ByteArray) : Int := if (bF cs qs).least < 0 then 0 else (bF cs qs).least
theorem bF_nil (cs : List ByteArray) : bF cs [] = cho0 := rfl
theorem bF_snoc (cs qs : List ByteArray) (q : ByteArray) : bF cs (qs ++ [q]) = vis cs (bF cs qs) q.data.toList := by
  unfold bF; rw [List.map_append, List.foldl_append]; rfl
def SInv (x : Cho) : Prop := (x.least < 0 ∧ x.best = []) ∨ (0 ≤ x.least ∧ x.best ≠ [])
theorem SInv.vis {cs : List ByteArray} {x : Cho} (h : SInv x) {p : List UInt8} (hp : p ≠ []) (ht : 0 ≤ totI p cs) : SInv (vis cs x p) := by
  unfold Go.Proofs.YthgcoocgeekdnaaGreatDoor.vis
  split
  · exact .inr ⟨ht, hp⟩
  · split
    · rename_i h1 h2
      rcases h with h | h
      · exact absurd (.inl h.1) h1
      · exact .inr h
    · exact h
theorem sinv_all {cs : List ByteArray} : ∀ (l : List (List UInt8)) (x : Cho), SInv x → (∀ p ∈ l, p ≠ [] ∧ 0 ≤ totI p cs) → SInv (l.foldl (vis cs) x)
  | [], _, h, _ => h
  | p :: l, _x, h, hl => sinv_all l _ (h.vis (hl p (List.mem_cons_self ..)).1 (hl p (List.mem_cons_self ..)).2) fun q hq => hl q (List.mem_cons_of_mem _ hq)
theorem sinv_0 : SInv cho0 := .inl ⟨by decide, rfl⟩
/-- each of the texts is no empty one, and costs no less than nothing -/
def Okq (cs qs : List ByteArray) : Prop := ∀ q ∈ qs, q.data.toList ≠ [] ∧ 0 ≤ totI q.data.toList cs
theorem bF_inv {cs qs : List ByteArray} (h : Okq cs qs) : SInv (bF cs qs) := sinv_all _ _ sinv_0 fun p hp => by
  obtain ⟨q, hq, rfl⟩ := List.mem_map.1 hp
  exact h q hq
theorem beB_empty {cs qs : List ByteArray} : beB cs qs = ⟨#[]⟩ ↔ (bF cs qs).best = [] := by
  unfold beB
  constructor
  · intro h
    have := congrArg (fun s : ByteArray => s.data.toList) h
    simpa using this
  · intro h; rw [h]
theorem bF_round {cs qs : List ByteArray} {q : ByteArray} (h : Okq cs (qs ++ [q])) :
    ((beB cs qs = ⟨#[]⟩ ∨ totI q.data.toList cs < leI cs qs) → beB cs (qs ++ [q]) = q ∧ leI cs (qs ++ [q]) = totI q.data.toList cs) ∧
    (¬ (beB cs qs = ⟨#[]⟩ ∨ totI q.data.toList cs < leI cs qs) → beB cs (qs ++ [q]) = beB cs qs ∧ leI cs (qs ++ [q]) = leI cs qs) := by
  have hi := bF_inv (fun p hp => h p (List.mem_append_left _ hp))
  obtain ⟨hq1, hq2⟩ := h q (by simp)
  rw [beB_empty]
  unfold beB leI
  rw [bF_snoc]
  generalize bF cs qs = x at *
  constructor
  · intro hc
    have hv : x.least < 0 ∨ totI q.data.toList cs < x.least := by
      rcases hi with ⟨a, b⟩ | ⟨a, b⟩
      · exact .inl a
      · rcases hc with hc | hc
        · exact absurd hc b
        · rw [if_neg (by omega)] at hc; exact .inr hc
    have e : vis cs x q.data.toList = ⟨q.data.toList, totI q.data.toList cs, 1⟩ := if_pos hv
    rw [e]
    refine ⟨by show (⟨q.data.toList.toArray⟩ : ByteArray) = q; rw [Array.toArray_toList], if_neg (by show ¬ totI q.data.toList cs < 0; omega)⟩
  · intro hc
    rcases hi with ⟨a, b⟩ | ⟨a, b⟩
    · exact absurd (.inl b) hc
    · rw [if_neg (by omega)] at hc
      have hv : ¬ (x.least < 0 ∨ totI q.data.toList cs < x.least) := by
        rintro (h1 | h1)
        · omega
        · exact hc (.inr h1)
      unfold vis
      rw [if_neg hv]
      split <;> exact ⟨rfl, rfl⟩
theorem vis_zero {cs : List ByteArray} : ∀ (l : List (List UInt8)) (x : Cho), x.least = 0 → (∀ p ∈ l, 0 ≤ totI p cs) → (l.foldl (vis cs) x).best = x.best ∧ (l.foldl (vis cs) x).least = 0
  | [], _, h, _ => ⟨rfl, h⟩
  | p :: l, x, h, hl => by
    have hp := hl p (List.mem_cons_self ..)
    have hv : ¬ (x.least < 0 ∨ totI p cs < x.least) := by omega
    have e : (vis cs x p).best = x.best ∧ (vis cs x p).least = 0 := by
      unfold vis; rw [if_neg hv]; split <;> exact ⟨rfl, h⟩
    obtain ⟨h1, h2⟩ := vis_zero l (vis cs x p) e.2 fun q hq => hl q (List.mem_cons_of_mem _ hq)
    exact ⟨h1.trans e.1, h2⟩
/-- a search that has come to nothing may stop -/
theorem bF_stop {cs pre qs : List ByteArray} (hp : pre <+: qs) (h : Okq cs qs) (hne : beB cs pre ≠ ⟨#[]⟩) (h0 : leI cs pre = 0) : beB cs qs = beB cs pre ∧ leI cs qs = 0 := by
  obtain ⟨t, rfl⟩ := hp
  have hi := bF_inv (fun p hp => h p (List.mem_append_left _ hp))
  have hl : (bF cs pre).least = 0 := by
    rcases hi with ⟨a, b⟩ | ⟨a, b⟩
    · exact absurd (beB_empty.2 b) hne
    · unfold leI at h0; rw [if_neg (by omega)] at h0; exact h0
  have e : bF cs (pre ++ t) = (t.map fun q => q.data.toList).foldl (vis cs) (bF cs pre) := by unfold bF; rw [List.map_append, List.foldl_append]
  obtain ⟨h1, h2⟩ := vis_zero (cs := cs) (t.map fun q => q.data.toList) (bF cs pre) hl fun p hp => by
    obtain ⟨q, hq, rfl⟩ := List.mem_map.1 hp
    exact (h q (List.mem_append_right _ hq)).2
  unfold beB leI
  rw [e, h1, h2]
  exact ⟨rfl, rfl⟩
theorem arr_ok {n : Nat} {cs : List ByteArray} (hcs : csOk (n : Int) cs = true) : Okq cs (arrB n ⟨#[]⟩) := fun q hq => by
  obtain ⟨h1, h4, _, _⟩ := cs_at hcs
  obtain ⟨k1, k2⟩ := arrB_mem (n := n) (by omega) (by omega) q hq
  refine ⟨fun e => ?_, (tot_must _ cs (cs_cl hcs k1 (by omega))).1⟩
  rw [e] at k2
  simp at k2
  omega
theorem bF_all {n : Nat} {cs : List ByteArray} (hcs : csOk (n : Int) cs = true) : bF cs (arrB n ⟨#[]⟩) = choF (n : Int) cs := by
  unfold bF choF
  rw [if_pos hcs, arrB_map]; rfl
theorem best_all {n : Nat} {cs : List ByteArray} (hcs : csOk (n : Int) cs = true) : beB cs (arrB n ⟨#[]⟩) = bpB (n : Int) cs ∧ leI cs (arrB n ⟨#[]⟩) = lcI (n : Int) cs ∧ 0 ≤ lcI (n : Int) cs := by
  have h := bF_all hcs
  have hg := (best_good hcs).2.2.2.1
  unfold beB leI bpB lcI
  rw [h]
  exact ⟨rfl, if_neg (by omega), hg⟩
/-- how many of the texts cost so much -/
def cnQ (cs : List ByteArray) (t : Int) (qs : List ByteArray) : Nat := qs.countP fun q => decide (totI q.data.toList cs = t)
theorem cnQ_snoc (cs : List ByteArray) (t : Int) (qs : List ByteArray) (q : ByteArray) : cnQ cs t (qs ++ [q]) = cnQ cs t qs + if totI q.data.toList cs = t then 1 else 0 := by
  unfold cnQ
  rw [List.countP_append, List.countP_singleton]
  simp only [decide_eq_true_eq]
theorem cnQ_le (cs : List ByteArray) (t : Int) (qs : List ByteArray) : cnQ cs t qs ≤ qs.length := List.countP_le_length
def CInv (cs : List ByteArray) (s : List (List UInt8)) (x : Cho) : Prop := x.count = s.countP (fun p => decide (totI p cs = x.least)) ∧ ∀ p ∈ s, x.least ≤ totI p cs
theorem CInv.vis {cs : List ByteArray} {s : List (List UInt8)} {x : Cho} (h : CInv cs s x) (h0 : 0 ≤ x.least) (p : List UInt8) (hp : 0 ≤ totI p cs) : CInv cs (s ++ [p]) (vis cs x p) ∧ 0 ≤ (vis cs x p).least := by
  unfold Go.Proofs.YthgcoocgeekdnaaGreatDoor.vis CInv
  rw [List.countP_append, List.countP_singleton]
  split
  · rename_i h1
    have h2 : totI p cs < x.least := by omega
    refine ⟨⟨?_, fun q hq => ?_⟩, hp⟩
    · show 1 = s.countP _ + if decide (totI p cs = totI p cs) = true then 1 else 0
      have : s.countP (fun q => decide (totI q cs = totI p cs)) = 0 := by
        rw [List.countP_eq_zero]
        intro q hq
        have := h.2 q hq
        rw [decide_eq_true_eq]; omega
      rw [this, if_pos (by simp)]
    · show totI p cs ≤ totI q cs
      rcases List.mem_append.1 hq with hq | hq
      · have := h.2 q hq; omega
      · have : q = p := by simpa using hq
        rw [this]; exact Int.le_refl _
  · rename_i h1
    split
    · rename_i h2
      refine ⟨⟨?_, fun q hq => ?_⟩, h0⟩
      · show x.count + 1 = s.countP (fun q => decide (totI q cs = x.least)) + if decide (totI p cs = x.least) = true then 1 else 0
        rw [if_pos (by simpa using h2), h.1]
      · show x.least ≤ totI q cs
        rcases List.mem_append.1 hq with hq | hq
        · exact h.2 q hq
        · have : q = p := by simpa using hq
          rw [this]; omega
    · rename_i h2
      refine ⟨⟨?_, fun q hq => ?_⟩, h0⟩
      · rw [if_neg (by simpa using h2), h.1, Nat.add_zero]
      · rcases List.mem_append.1 hq with hq | hq
        · exact h.2 q hq
        · have : q = p := by simpa using hq
          rw [this]; omega
theorem cinv_fold {cs : List ByteArray} : ∀ (l s : List (List UInt8)) (x : Cho), CInv cs s x → 0 ≤ x.least → (∀ p ∈ l, 0 ≤ totI p cs) → CInv cs (s ++ l) (l.foldl (vis cs) x)
  | [], s, x, h, _, _ => by rw [List.append_nil]; exact h
  | p :: l, s, x, h, h0, hl => by
    obtain ⟨h1, h2⟩ := h.vis h0 p (hl p (List.mem_cons_self ..))
    have := cinv_fold l (s ++ [p]) _ h1 h2 fun q hq => hl q (List.mem_cons_of_mem _ hq)
    rw [List.append_assoc] at this
    exact this
theorem cinv_all {cs : List ByteArray} {l : List (List UInt8)} (hl : l ≠ []) (hq : ∀ p ∈ l, 0 ≤ totI p cs) : CInv cs l (l.foldl (vis cs) cho0) := by
  cases l with
  | nil => exact absurd rfl hl
  | cons a l =>
    have e : vis cs cho0 a = ⟨a, totI a cs, 1⟩ := if_pos (.inl (by decide))
    show CInv cs (a :: l) (l.foldl (vis cs) (vis cs cho0 a))
    rw [e]
    refine cinv_fold l [a] _ ⟨?_, fun p hp => ?_⟩ (hq a (List.mem_cons_self ..)) fun p hp => hq p (List.mem_cons_of_mem _ hp)
    · show 1 = List.countP (fun p => decide (totI p cs = totI a cs)) [a]
      rw [List.countP_singleton, if_pos (by simp)]
    · have : p = a := by simpa using hp
      rw [this]; exact Int.le_refl _
theorem count_all {n : Nat} {cs : List ByteArray} (hcs : csOk (n : Int) cs = true) : (cnQ cs (lcI (n : Int) cs) (arrB n ⟨#[]⟩) : Int) = cbI (n : Int) cs := by
  have hok := arr_ok hcs
  obtain ⟨h1, h4, _, _⟩ := cs_at hcs
  have hm := arrB_map n ⟨#[]⟩
  have hne : arrs n [] ≠ [] := fun e => by
    have h2 := abc_par (n := n) (by omega) (by omega)
    have := (arrs_par (n := n) (by omega) (by omega) (abc n)).2 h2
    rw [e] at this; cases this
  have hc := cinv_all (cs := cs) hne (fun p hp => by
    rw [show ([] : List UInt8) = (⟨#[]⟩ : ByteArray).data.toList from rfl, ← hm] at hp
    obtain ⟨q, hq, rfl⟩ := List.mem_map.1 hp
    exact (hok q hq).2)
  have e : choF (n : Int) cs = (arrs n []).foldl (vis cs) cho0 := by unfold choF; rw [if_pos hcs]; rfl
  rw [← e] at hc
  have hg := (best_good hcs).2.2.2.1
  unfold cbI
  rw [if_neg (by omega), hc.1]
  unfold cnQ lcI
  rw [show arrs n [] = (arrB n ⟨#[]⟩).map (fun q => q.data.toList) from hm.symm, List.countP_map]
  rfl
end Go.Proofs.YthgcoocgeekdnaaGreatDoor
namespace Go.Proofs.YthgcoocgeekdnaaGreatDoor
open Go.RowKit Go.PM Go.PD Go.PF Go.Lib
attribute [local go_sem] Oper.semAt_some
theorem at_below {A A' : World} {b B : Nat} {t : TypeId} {c : Array Value} (h : At A b t c) (hk : KeepsNew B A A') (hB : B ≤ b) : At A' b t c := hk.block hB h
set_option maxRecDepth 100000 in
set_option maxHeartbeats 6400000 in
theorem bestChoice_c (n : Nat) (cs : List ByteArray) (hcs : csOk (n : Int) cs = true) (v : Value) (w : World) (hT : U8w w) (hx : RdT w v cs) :
    Calls Tryz.prog 20 #[.int .i64 n, v] w fun e w' => e = .returned (.tuple #[.string (bpB (n : Int) cs), .int .i64 (lcI (n : Int) cs)]) ∧ Below w.heap.size w w' := by
  obtain ⟨Av, cap, rfl, _, _, _⟩ := id hx.open
  obtain ⟨hb1, hb2, _⟩ := best_all hcs
  have HOK := Lib.hid (arr_ok hcs)
  have HR := Lib.hid (fun (pre : List ByteArray) (q : ByteArray) (h : Okq cs (pre ++ [q])) => bF_round h)
  have HSTOP := Lib.hid (fun (pre : List ByteArray) (hp : pre <+: arrB n ⟨#[]⟩) h1 h2 => bF_stop hp (arr_ok hcs) h1 h2)
  have HIT := Lib.hid (fun b1 b2 m => cho_iter n cs hcs (.slice Av cs.length cap) b1 b2 m)
  have HXT : Hid (∀ A, Below w.heap.size w A → U8w A ∧ RdT A (.slice Av cs.length cap) cs) := fun A hA => ⟨hT.below hA, hx.below hA⟩
  have HTR := Lib.hid (fun q => totI_range q cs)
  have hcl5 := (cs_at hcs).2.2.1
  rw [← hb1, ← hb2]
  clear hx hT hcs hb1 hb2
  refine (callsIn_wide (n := 10)).1 ?_
  obtain ⟨N, hN, hNe⟩ : ∃ N : Nat, 10 ≤ N ∧ N = 10 := ⟨10, by omega, rfl⟩
  rw [← hNe]
  clear hNe
  refine callsIn_of_wp_marks Tryz.func20 rfl trivial ?_ rfl
  simp only [Tryz.ntmps20, List.size_toArray, List.length_cons, List.length_nil, Nat.reduceAdd, Nat.reduceSub, Array.replicate_succ, Array.replicate_zero, List.push_toArray, List.append_toArray, List.nil_append, List.cons_append]
  obtain ⟨W0, hW0⟩ : ∃ W0 : World, W0 = (w.alloc (.cells #[.string ⟨#[]⟩] 37)).alloc (.cells #[.int .i64 0] 3) := ⟨_, rfl⟩
  have hB0 : Below w.heap.size w W0 := by rw [hW0]; (repeat' (first | (with_reducible exact Below.refl _ _) | (with_reducible assumption) | (with_reducible refine Below.alloc ?_ ?_ _) | (with_reducible refine Below.drew ?_) | (with_reducible refine Below.setCell ?_ ?_ _) | (with_reducible exact Nat.le_refl _) | omega | ((repeat (first | rewrite [World.size_alloc] | rewrite [World.size_setCell] | rewrite [World.size_drew])); omega) | (simp; omega) | (simp; done)))
  have p0 : At W0 w.heap.size 37 #[.string ⟨#[]⟩] := by rw [hW0]; exact (At.new _ _ _).alloc _
  have l0 : At W0 (w.heap.size + 1) 3 #[.int .i64 0] := by
    rw [hW0]
    have := At.new (w.alloc (.cells #[.string ⟨#[]⟩] 37)) 3 #[.int .i64 0]
    rwa [World.size_alloc] at this
  have hT0 : w.heap.size + 2 ≤ W0.heap.size := by rw [hW0]; simp only [World.size_alloc]; omega
  gi_wp2_with fail
  rw [← hW0]
  refine ⟨trivial, fun _ => by omega, callsIn_wide.2 ((choices_c _ _ _ _ _).mono ?_)⟩
  rintro e W1 ⟨rfl, hW1⟩
  have hB1 : Below W0.heap.size W0 W1 := by rw [hW1]; (repeat' (first | (with_reducible exact Below.refl _ _) | (with_reducible assumption) | (with_reducible refine Below.alloc ?_ ?_ _) | (with_reducible refine Below.drew ?_) | (with_reducible refine Below.setCell ?_ ?_ _) | (with_reducible exact Nat.le_refl _) | omega | ((repeat (first | rewrite [World.size_alloc] | rewrite [World.size_setCell] | rewrite [World.size_drew])); omega) | (simp; omega) | (simp; done)))
  have hT1 : W0.heap.size + 2 ≤ W1.heap.size := by rw [hW1]; simp only [World.size_alloc]; omega
  have x1 : At W1 W0.heap.size 3 #[.int .i64 n] := by rw [hW1]; exact (At.new _ _ _).alloc _
  have x2 : At W1 (W0.heap.size + 1) 23 #[.slice Av cs.length cap] := by
    rw [hW1]
    have := At.new (W0.alloc (.cells #[.int .i64 n] 3)) 23 #[.slice Av cs.length cap]
    rwa [World.size_alloc] at this
  have p1 := p0.keep hB1
  have l1 := l0.keep hB1
  have hBB := hB0.trans (hB1.mono hB0.size)
  clear hW0 hW1 hB0 hB1 p0 l0
  gi_wp2
  refine range_lawK1 (F := Fence.wide) (gf := 35) (lf := #[]) (lb := #[.pointer (some ⟨W0.heap.size, 0, none⟩), .pointer (some ⟨W0.heap.size + 1, 0, none⟩)]) rfl (by omega) rfl trivial (fun args w => rfl) (encs := fun q : ByteArray => #[.string q, .int .i64 (totI q.data.toList cs)]) (xs := arrB n ⟨#[]⟩)
    (HIT.out W0.heap.size (W0.heap.size + 1) _) (fun _ => rfl)
    (fun pre Z => At Z w.heap.size 37 #[.string (beB cs pre)] ∧ At Z (w.heap.size + 1) 3 #[.int .i64 (leI cs pre)] ∧ At Z W0.heap.size 3 #[.int .i64 n] ∧ At Z (W0.heap.size + 1) 23 #[.slice Av cs.length cap] ∧ Below w.heap.size w Z ∧ W1.heap.size ≤ Z.heap.size)
    (fun cc pre Z => cc = .exit 0 ∧ Hid (beB cs pre ≠ ⟨#[]⟩ ∧ leI cs pre = 0) ∧ At Z w.heap.size 37 #[.string (beB cs pre)] ∧ At Z (w.heap.size + 1) 3 #[.int .i64 (leI cs pre)] ∧ Below w.heap.size w Z) ?pr ?own ?ownx ?start ?a1 ?assign ?body ?done ?stop
  case pr => exact fun pre Z h => ⟨(HXT.out Z h.2.2.2.2.1).1, (HXT.out Z h.2.2.2.2.1).2, h.2.2.1, h.2.2.2.1⟩
  case own =>
    rintro pre Z Z' row ⟨g1, g2, g3, g4, g5, g6⟩ hg hr
    exact ⟨at_turn g1 hg (fun r e => (hr r e).2), at_turn g2 hg (fun r e => (hr r e).2), at_turn g3 hg (fun r e => (hr r e).2), at_turn g4 hg (fun r e => (hr r e).2), g5.trans (below_grown hg g5.size (fun g e => by have := (hr g e).1; omega)), Nat.le_trans g6 hg.size⟩
  case ownx =>
    rintro cc pre Z Z' row ⟨g0, g00, g1, g2, g5⟩ hg hr
    exact ⟨g0, g00, at_turn g1 hg (fun r e => (hr r e).2), at_turn g2 hg (fun r e => (hr r e).2), g5.trans (below_grown hg g5.size (fun g e => by have := (hr g e).1; omega))⟩
  case start => exact ⟨p1, l1, x1, x2, hBB, Nat.le_refl _⟩
  case assign =>
    intro l2 q Z K hK
    gi_wp2
    exact hK
  case body =>
    rintro l2 pre q Z ⟨g1, g2, g3, g4, g5, g6⟩ hp hsz
    have hok : Okq cs (pre ++ [q]) := fun x hx => HOK.out x (by obtain ⟨t, ht⟩ := hp; rw [← ht]; exact List.mem_append_left _ hx)
    obtain ⟨r1, r2⟩ := HR.out pre q hok
    have hqn : q ≠ ⟨#[]⟩ := fun e => (hok q (by simp)).1 (by rw [e])
    have htr := HTR.out q.data.toList
    have ht5 : totI q.data.toList cs ≤ 6000 := by omega
    have ht6 : -5 ≤ totI q.data.toList cs := by omega
    have fB := g1.frozen 0
    have fL := g2.frozen 0
    have cB : Z.cell? ⟨w.heap.size, 0, none⟩ = some (.string (beB cs pre)) := g1.cell 0
    have cL : Z.cell? ⟨w.heap.size + 1, 0, none⟩ = some (.int .i64 (leI cs pre)) := g2.cell 0
    have lB := g1.lt
    have lL := g2.lt
    have a1 := (g1.set 0 (.string q)).far (p := ⟨w.heap.size + 1, 0, none⟩) (by simp) (.int .i64 (totI q.data.toList cs))
    have a2 := (g2.far (p := ⟨w.heap.size, 0, none⟩) (by simp) (.string q)).set 0 (.int .i64 (totI q.data.toList cs))
    have a3 := (g3.far (p := ⟨w.heap.size, 0, none⟩) (by simp; omega) (.string q)).far (p := ⟨w.heap.size + 1, 0, none⟩) (by simp; omega) (.int .i64 (totI q.data.toList cs))
    have a4 := (g4.far (p := ⟨w.heap.size, 0, none⟩) (by simp; omega) (.string q)).far (p := ⟨w.heap.size + 1, 0, none⟩) (by simp; omega) (.int .i64 (totI q.data.toList cs))
    have a5 : Below w.heap.size w ((Z.setCell ⟨w.heap.size, 0, none⟩ (.string q)).setCell ⟨w.heap.size + 1, 0, none⟩ (.int .i64 (totI q.data.toList cs))) := Below.setCell (Below.setCell g5 (Nat.le_refl _) _) (by simp) _
    have a6 : W1.heap.size ≤ ((Z.setCell ⟨w.heap.size, 0, none⟩ (.string q)).setCell ⟨w.heap.size + 1, 0, none⟩ (.int .i64 (totI q.data.toList cs))).heap.size := by simp only [World.size_setCell]; exact g6
    have a7 : KeepsNew W1.heap.size Z ((Z.setCell ⟨w.heap.size, 0, none⟩ (.string q)).setCell ⟨w.heap.size + 1, 0, none⟩ (.int .i64 (totI q.data.toList cs))) := (KeepsNew.set Z _ _ (by simp; omega)).trans (KeepsNew.set _ _ _ (by simp; omega))
    have c2 : ((Z.setCell ⟨w.heap.size, 0, none⟩ (.string q)).setCell ⟨w.heap.size + 1, 0, none⟩ (.int .i64 (totI q.data.toList cs))).cell? ⟨w.heap.size + 1, 0, none⟩ = some (.int .i64 (totI q.data.toList cs)) := a2.cell 0
    obtain ⟨nb, HNB⟩ : ∃ nb, Hid (beB cs (pre ++ [q]) = nb) := ⟨_, rfl⟩
    obtain ⟨nl, HNL⟩ : ∃ nl, Hid (leI cs (pre ++ [q]) = nl) := ⟨_, rfl⟩
    rw [HNB.out, HNL.out] at r1 r2
    have HS := Lib.hid (show At Z w.heap.size 37 #[.string (beB cs pre)] ∧ At Z (w.heap.size + 1) 3 #[.int .i64 (leI cs pre)] ∧ At Z W0.heap.size 3 #[.int .i64 n] ∧ At Z (W0.heap.size + 1) 23 #[.slice Av cs.length cap] ∧ Below w.heap.size w Z ∧ W1.heap.size ≤ Z.heap.size from ⟨g1, g2, g3, g4, g5, g6⟩)
    have HU := Lib.hid (And.intro a1 (And.intro a2 (And.intro a3 (And.intro a4 (And.intro a5 (And.intro a6 a7))))))
    clear a1 a2 a3 a4 a5 a6 a7 g1 g2 g3 g4 g5 g6 p1 l1 x1 x2 hBB hp hok htr
    generalize totI q.data.toList cs = t at *
    generalize beB cs pre = be at *
    generalize leI cs pre = le at *
    by_cases hup : be = ⟨#[]⟩ ∨ t < le
    · obtain ⟨e1, e2⟩ := r1 hup
      have E1 := Lib.hid e1
      have E2 := Lib.hid e2
      clear r1 r2 e1 e2
      by_cases hbe : be = ⟨#[]⟩
      · subst hbe
        by_cases ht0 : t = 0
        · subst ht0
          gi_wp2
          exact ⟨⟨rfl, ⟨by rw [HNB.out, E1.out]; exact hqn, by rw [HNL.out, E2.out]⟩, by rw [HNB.out, E1.out]; exact HU.out.1, by rw [HNL.out, E2.out]; exact HU.out.2.1, HU.out.2.2.2.2.1⟩, HU.out.2.2.2.2.2.2⟩
        · have ht0' : (t == 0) = false := by simpa using ht0
          gi_wp2
          exact ⟨⟨by rw [HNB.out, E1.out]; exact HU.out.1, by rw [HNL.out, E2.out]; exact HU.out.2.1, HU.out.2.2.1, HU.out.2.2.2.1, HU.out.2.2.2.2.1, HU.out.2.2.2.2.2.1⟩, HU.out.2.2.2.2.2.2⟩
      · have hlt : t < le := hup.resolve_left hbe
        have q1 : ¬ be.toList = [] := fun e => by
          rw [ByteArray.toList_eq] at e
          exact hbe (ByteArray.ext (Array.toList_inj.1 e))
        have q2 : be.toList.isEmpty = false := by
          cases hl : be.toList with
          | nil => exact absurd hl q1
          | cons a l => rfl
        by_cases ht0 : t = 0
        · subst ht0
          gi_wp2
          exact ⟨⟨rfl, ⟨by rw [HNB.out, E1.out]; exact hqn, by rw [HNL.out, E2.out]⟩, by rw [HNB.out, E1.out]; exact HU.out.1, by rw [HNL.out, E2.out]; exact HU.out.2.1, HU.out.2.2.2.2.1⟩, HU.out.2.2.2.2.2.2⟩
        · have ht0' : (t == 0) = false := by simpa using ht0
          gi_wp2
          exact ⟨⟨by rw [HNB.out, E1.out]; exact HU.out.1, by rw [HNL.out, E2.out]; exact HU.out.2.1, HU.out.2.2.1, HU.out.2.2.2.1, HU.out.2.2.2.2.1, HU.out.2.2.2.2.2.1⟩, HU.out.2.2.2.2.2.2⟩
    · obtain ⟨e1, e2⟩ := r2 hup
      have E1 := Lib.hid e1
      have E2 := Lib.hid e2
      clear r1 r2 e1 e2 HU c2
      have hbe : ¬ be = ⟨#[]⟩ := fun h => hup (.inl h)
      have hlt : ¬ t < le := fun h => hup (.inr h)
      have q1 : ¬ be.toList = [] := fun e => by
        rw [ByteArray.toList_eq] at e
        exact hbe (ByteArray.ext (Array.toList_inj.1 e))
      have q2 : be.toList.isEmpty = false := by
        cases hl : be.toList with
        | nil => exact absurd hl q1
        | cons a l => rfl
      by_cases ht0 : le = 0
      · subst ht0
        gi_wp2
        exact ⟨⟨rfl, ⟨by rw [HNB.out, E1.out]; exact hbe, by rw [HNL.out, E2.out]⟩, by rw [HNB.out, E1.out]; exact HS.out.1, by rw [HNL.out, E2.out]; exact HS.out.2.1, HS.out.2.2.2.2.1⟩, KeepsNew.refl _ _⟩
      · have ht0' : (le == 0) = false := by simpa using ht0
        gi_wp2
        exact ⟨⟨by rw [HNB.out, E1.out]; exact HS.out.1, by rw [HNL.out, E2.out]; exact HS.out.2.1, HS.out.2.2.1, HS.out.2.2.2.1, HS.out.2.2.2.2.1, HS.out.2.2.2.2.2⟩, KeepsNew.refl _ _⟩
  case done =>
    rintro D Z hD ⟨g1, g2, -, -, g5, -⟩ hd
    have cB : Z.cell? ⟨w.heap.size, 0, none⟩ = some (.string (beB cs (arrB n ⟨#[]⟩))) := g1.cell 0
    have cL : Z.cell? ⟨w.heap.size + 1, 0, none⟩ = some (.int .i64 (leI cs (arrB n ⟨#[]⟩))) := g2.cell 0
    have lB := g1.lt
    have lL := g2.lt
    have hBB2 : Hid (w.heap.size ≤ D) := by show _ ≤ _; omega
    clear g1 g2 p1 l1 x1 x2 hBB
    generalize hbe : beB cs (arrB n ⟨#[]⟩) = be at *
    generalize hle : leI cs (arrB n ⟨#[]⟩) = le at *
    have HBE := Lib.hid hbe
    have HLE := Lib.hid hle
    clear hbe hle
    gi_wp2
    gi_region
    gi_wp2
    refine leaves_J (J := fun (_ : Unit) A => Below w.heap.size w A) (B := w.heap.size) (fun _ A A' row h hg hr => h.trans (below_grown hg h.size (fun g e => (hr g e).1))) () [D] Z.drew ⟨by simp, fun E hE => ?_⟩ g5.drew ?_
    · obtain rfl : E = D := by simpa using hE
      exact ⟨hBB2.out, hd⟩
    · intro A' hA'
      exact ⟨_, results_tmp2 rfl _ _ _, by rw [HBE.out, HLE.out]; rfl, hA'⟩
  case stop =>
    rintro D cc pre Z hD hp ⟨rfl, hz, g1, g2, g5⟩ hd
    obtain ⟨e1, e2⟩ := HSTOP.out pre hp hz.out.1 hz.out.2
    rw [hz.out.2] at g2
    have cB : Z.cell? ⟨w.heap.size, 0, none⟩ = some (.string (beB cs pre)) := g1.cell 0
    have cL : Z.cell? ⟨w.heap.size + 1, 0, none⟩ = some (.int .i64 0) := g2.cell 0
    have lB := g1.lt
    have lL := g2.lt
    have hBB2 : Hid (w.heap.size ≤ D) := by show _ ≤ _; omega
    clear g1 g2 p1 l1 x1 x2 hBB hz
    generalize hbe : beB cs pre = be at *
    have HE1 := Lib.hid e1
    have HE2 := Lib.hid e2
    clear e1 e2 hbe
    gi_wp2
    gi_region
    gi_wp2
    refine leaves_J (J := fun (_ : Unit) A => Below w.heap.size w A) (B := w.heap.size) (fun _ A A' row h hg hr => h.trans (below_grown hg h.size (fun g e => (hr g e).1))) () [D] Z.drew ⟨by simp, fun E hE => ?_⟩ g5.drew ?_
    · obtain rfl : E = D := by simpa using hE
      exact ⟨hBB2.out, hd⟩
    · intro A' hA'
      exact ⟨_, results_tmp2 rfl _ _ _, by rw [HE1.out, HE2.out]; rfl, hA'⟩
end Go.Proofs.YthgcoocgeekdnaaGreatDoor
namespace Go.Proofs.YthgcoocgeekdnaaGreatDoor
open Go.RowKit Go.PM Go.PD Go.PF Go.Lib
attribute [local go_sem] Oper.semAt_some
theorem cs_not {n : Int} {cs : List ByteArray} (h : ¬ (1 ≤ n ∧ n ≤ 4 ∧ cs.length ≤ 5)) : csOk n cs = false := by
  unfold csOk; rw [decide_eq_false h]; rfl
set_option maxRecDepth 100000 in
set_option maxHeartbeats 1600000 in
theorem imCallsValid_c (n : Int) (cs : List ByteArray) (v : Value) (w : World) (hT : U8w w) (hx : RdT w v cs) (hz : ∀ c ∈ cs, c.size ≤ 1048576) (hn' : cs.length ≤ 1048576) :
    Calls Tryz.prog 13 #[.int .i64 n, v] w fun e w' => e = .returned (.bool (csOk n cs)) ∧ Below w.heap.size w w' := by
  obtain ⟨A, cap, rfl, hn, hc, hcell⟩ := hx.open
  clear hx
  by_cases h1 : n < 1
  · have HN := Lib.hid (cs_not (n := n) (cs := cs) (by omega))
    have d1 : decide (n < 1) = true := decide_eq_true h1
    generalize csOk n cs = r at *
    clear hz hcell hT
    go_enter Tryz.func13, Tryz.ntmps13
    go_wp2
    go_ret
    exact ⟨by rw [HN.out]; rfl, Below.refl _ _⟩
  by_cases h2 : n > 4
  · have HN := Lib.hid (cs_not (n := n) (cs := cs) (by omega))
    have d1 : decide (n < 1) = false := decide_eq_false h1
    have d2 : decide (n > 4) = true := decide_eq_true h2
    generalize csOk n cs = r at *
    clear hz hcell hT
    go_enter Tryz.func13, Tryz.ntmps13
    go_wp2
    go_ret
    exact ⟨by rw [HN.out]; rfl, Below.refl _ _⟩
  obtain ⟨m, rfl⟩ := Int.eq_ofNat_of_zero_le (show (0 : Int) ≤ n by omega)
  have d1 : decide ((m : Int) < 1) = false := decide_eq_false h1
  have d2 : decide ((m : Int) > 4) = false := decide_eq_false h2
  by_cases h3 : cs.length ≤ 5
  · have HV : Hid (∀ k (hk : k < cs.length) W, U8w W → Calls Tryz.prog 26 #[.string ((⟨#[97, 98, 99, 100, 101, 102]⟩ : ByteArray).extract 0 m), .string cs[k]] W fun e w' => e = .returned (.bool (clOk (abc m) cs[k].data.toList)) ∧ Below W.heap.size W w') := fun k hk W hW => by
      have := imCallValid_c ((⟨#[97, 98, 99, 100, 101, 102]⟩ : ByteArray).extract 0 m) cs[k] (by rw [ByteArray.size_extract]; omega) (hz _ (List.getElem_mem hk)) W hW
      have e : ((⟨#[97, 98, 99, 100, 101, 102]⟩ : ByteArray).extract 0 m).data.toList = abc m := by
        have : ∀ m, m ≤ 4 → ((⟨#[97, 98, 99, 100, 101, 102]⟩ : ByteArray).extract 0 m).data.toList = abc m := fun m hm => by
          match m, hm with
          | 0, _ | 1, _ | 2, _ | 3, _ | 4, _ => decide +kernel
        exact this m (by omega)
      rw [e] at this
      exact this
    have HNO := Lib.hid (fun k (hk : k < cs.length) h => cs_no (n := (m : Int)) hk h)
    have HYES := Lib.hid (fun h => cs_yes (n := (m : Int)) (cs := cs) ⟨by omega, by omega, h3⟩ h)
    rw [show ((m : Int)).toNat = m from rfl] at HNO HYES
    have t1 : ¬ (cs.length : Int) > 5 := by omega
    have t2 : decide ((cs.length : Int) > 5) = false := decide_eq_false t1
    have i3 : (m : Int) ≤ 6 := by omega
    have i4 : (0 : Int) ≤ (m : Int) := by omega
    have HT := Lib.hid (fun W (hW : Below w.heap.size w W) => hT.below hW)
    clear hz h1 h2 hT
    generalize csOk (m : Int) cs = r at *
    go_enter Tryz.func13, Tryz.ntmps13
    go_wp2
    go_loopw [6, 20] (fun _ i wr => ∃ (k : Nat), k ≤ cs.length ∧ i = .int .i64 k ∧ Hid (∀ j (hj : j < cs.length), j < k → clOk (abc m) cs[j].data.toList = true) ∧ Below w.heap.size w wr) (fun _ i _ => cs.length - (RowKit.intOf i).toNat)
    case atStart => exact ⟨0, by omega, rfl, fun j _ hj => absurd hj (Nat.not_lt_zero j), Below.refl _ _⟩
    case round =>
      obtain ⟨k, hk, rfl, hall, hb⟩ := hrel
      have hbs := hb.size
      by_cases hlt : k < cs.length
      · obtain ⟨b, off, rfl, hbl, hc1⟩ := hcell k hlt
        have hd1 := (hb.cell (p := ⟨b, off + k, none⟩) hbl).trans hc1
        have HVK := Lib.hid (HV.out k hlt wr (HT.out _ hb))
        have HNK := Lib.hid (HNO.out k hlt)
        have HNX : Hid (clOk (abc m) cs[k].data.toList = true → ∀ j (hj : j < cs.length), j < k + 1 → clOk (abc m) cs[j].data.toList = true) := fun h j hj hjk => by
          by_cases e : j = k
          · subst e; exact h
          · exact hall.out j hj (by omega)
        have i0 : (0 : Int) ≤ (k : Int) := by omega
        have i1 : (k : Int) < (cs.length : Int) := by omega
        clear hc1 hcell
        generalize clOk (abc m) cs[k].data.toList = ok at *
        generalize cs[k] = q at *
        cases ok with
        | true =>
          have HK := Lib.hid (HNX.out rfl)
          go_wp2_with fail
          refine HVK.out.mono ?_
          rintro e w2 ⟨rfl, hb2⟩
          have hbw := hb.trans (hb2.mono hbs)
          go_wp2
          go_roundw
          case rel => exact ⟨k + 1, by omega, by go_num, HK, hbw⟩
          case measure => simp [RowKit.intOf]; omega
        | false =>
          have HK := Lib.hid (HNK.out rfl)
          go_wp2_with fail
          refine HVK.out.mono ?_
          rintro e w2 ⟨rfl, hb2⟩
          have hbw := hb.trans (hb2.mono hbs)
          go_wp2
          go_ret
          exact ⟨by rw [HK.out]; rfl, hbw⟩
      · have HT2 : Hid (r = true) := HYES.out fun j hj => hall.out j hj (by omega)
        have i1 : ¬ (k : Int) < (cs.length : Int) := by omega
        go_wp2
        go_ret
        exact ⟨by rw [HT2.out]; rfl, hb⟩
  · have HN := Lib.hid (cs_not (n := (m : Int)) (cs := cs) (by omega))
    have t1 : (cs.length : Int) > 5 := by omega
    have t2 : decide ((cs.length : Int) > 5) = true := decide_eq_true t1
    clear hz h1 h2 hcell hT
    generalize csOk (m : Int) cs = r at *
    go_enter Tryz.func13, Tryz.ntmps13
    go_wp2
    go_ret
    exact ⟨by rw [HN.out]; rfl, Below.refl _ _⟩
set_option maxRecDepth 100000 in
set_option maxHeartbeats 1600000 in
theorem imTotalCost_c (ps : ByteArray) (_hp : ps.size ≤ 1048576) (cs : List ByteArray) (v : Value) (w : World) (hT : U8w w) (hx : RdT w v cs) (hz : ∀ c ∈ cs, c.size ≤ 1048576) (hn' : cs.length ≤ 1048576) :
    Calls Tryz.prog 16 #[.string ps, v] w fun e w' => e = .returned (.int .i64 (tcI ps.data.toList cs)) ∧ Below w.heap.size w w' := by
  have HX := Lib.hid (fun W (hW : Below w.heap.size w W) => hx.below hW)
  have HTT := Lib.hid (fun W (hW : Below w.heap.size w W) => hT.below hW)
  have HP := Lib.hid (parValid_c ps w)
  have HV := Lib.hid (fun W (hW : Below w.heap.size w W) => imCallsValid_c (ps.size : Int) cs v W (hT.below hW) (hx.below hW) hz hn')
  have HO : Hid (tcI ps.data.toList cs = if parOk ps.data.toList && csOk (ps.size : Int) cs then totI ps.data.toList cs else -1) := by show _ = _; unfold tcI; rw [size_data]
  obtain ⟨Av, cap, rfl, _, _, _⟩ := id hx.open
  rw [HO.out]
  rcases Bool.eq_false_or_eq_true (parOk ps.data.toList) with h1 | h1
  · rcases Bool.eq_false_or_eq_true (csOk (ps.size : Int) cs) with h2 | h2
    · have HTOT := Lib.hid (fun b W (hW : Below w.heap.size w W) (hK : Kn W b 0) => total_c b 0 ps cs (.slice Av cs.length cap) W (hT.below hW) hK (hx.below hW) (cs_at h2).2.2.1 (cs_cl h2 h1 (by rw [size_data])) (by decide))
      have hmm := @run_makeMap Tryz.prog
      rw [h1, h2, show (if (true && true) = true then totI ps.data.toList cs else -1) = totI ps.data.toList cs from rfl]
      rw [h1] at HP
      rw [h2] at HV
      clear hx hz h1 h2 HO hT
      generalize totI ps.data.toList cs = tt at *
      go_enter Tryz.func16, Tryz.ntmps16
      go_wp2_with fail
      refine HP.out.mono ?_
      rintro e w1 ⟨rfl, rfl⟩
      have b1 := Below.refl w.heap.size w
      go_wp2_with fail
      refine (HV.out _ b1).mono ?_
      rintro e w2 ⟨rfl, b2⟩
      have B2 := b1.trans (b2.mono b1.size)
      have hk3 := Kn.made w2
      have B3 : Below w.heap.size w (w2.alloc (.map #[] 0)) := B2.alloc B2.size _
      go_wp2_with fail
      refine (HTOT.out w2.heap.size _ B3 hk3).mono ?_
      rintro e w3 ⟨rfl, -, -, hg3⟩
      have B4 := B3.trans (below_grown hg3 B3.size (fun g e => by cases e; exact B2.size))
      go_wp2
      go_ret
      exact ⟨rfl, B4⟩
    · rw [h1, h2, show (if (true && false) = true then totI ps.data.toList cs else -1) = -1 from rfl]
      rw [h1] at HP
      rw [h2] at HV
      clear hx hz h1 h2 HX HO
      go_enter Tryz.func16, Tryz.ntmps16
      go_wp2_with fail
      refine HP.out.mono ?_
      rintro e w1 ⟨rfl, rfl⟩
      have b1 := Below.refl w.heap.size w
      go_wp2_with fail
      refine (HV.out _ b1).mono ?_
      rintro e w2 ⟨rfl, b2⟩
      go_wp2
      go_ret
      exact ⟨rfl, b1.trans (b2.mono b1.size)⟩
  · rw [h1, Bool.false_and, show (if false = true then totI ps.data.toList cs else -1) = -1 from rfl]
    rw [h1] at HP
    clear hx hz h1 HX HO
    go_enter Tryz.func16, Tryz.ntmps16
    go_wp2_with fail
    refine HP.out.mono ?_
    rintro e w1 ⟨rfl, rfl⟩
    have b1 := Below.refl w.heap.size w
    go_wp2
    go_ret
    exact ⟨rfl, b1⟩
set_option maxHeartbeats 800000 in
theorem imLeastCost_c (n : Int) (cs : List ByteArray) (v : Value) (w : World) (hT : U8w w) (hx : RdT w v cs) (hz : ∀ c ∈ cs, c.size ≤ 1048576) (hn' : cs.length ≤ 1048576) :
    Calls Tryz.prog 7 #[.int .i64 n, v] w fun e w' => e = .returned (.int .i64 (lcI n cs)) ∧ Below w.heap.size w w' := by
  have HV := Lib.hid (imCallsValid_c n cs v w hT hx hz hn')
  rcases Bool.eq_false_or_eq_true (csOk n cs) with h2 | h2
  · obtain ⟨h1, _, _, _⟩ := cs_at h2
    obtain ⟨m, rfl⟩ := Int.eq_ofNat_of_zero_le (show (0 : Int) ≤ n by omega)
    have HB := Lib.hid (fun W (hW : Below w.heap.size w W) => bestChoice_c m cs h2 v W (hT.below hW) (hx.below hW))
    rw [h2] at HV
    clear hx hz h1 h2 hT
    generalize lcI (m : Int) cs = ll at *
    generalize bpB (m : Int) cs = bb at *
    go_enter Tryz.func7, Tryz.ntmps7
    go_wp2_with fail
    refine HV.out.mono ?_
    rintro e w1 ⟨rfl, b1⟩
    go_wp2_with fail
    refine (HB.out _ b1).mono ?_
    rintro e w2 ⟨rfl, b2⟩
    go_wp2
    go_ret
    exact ⟨rfl, b1.trans (b2.mono b1.size)⟩
  · have HL : Hid (lcI n cs = -1) := by show _ = _; unfold lcI; rw [cho_no h2]; rfl
    rw [h2] at HV
    clear hx hz h2 hT
    generalize lcI n cs = ll at *
    go_enter Tryz.func7, Tryz.ntmps7
    go_wp2_with fail
    refine HV.out.mono ?_
    rintro e w1 ⟨rfl, b1⟩
    go_wp2
    go_ret
    exact ⟨by rw [HL.out]; rfl, b1⟩
set_option maxHeartbeats 800000 in
theorem imBestParams_c (n : Int) (cs : List ByteArray) (v : Value) (w : World) (hT : U8w w) (hx : RdT w v cs) (hz : ∀ c ∈ cs, c.size ≤ 1048576) (hn' : cs.length ≤ 1048576) :
    Calls Tryz.prog 5 #[.int .i64 n, v] w fun e w' => e = .returned (.tuple #[.string (bpB n cs), .bool (decide (0 ≤ lcI n cs))]) ∧ Below w.heap.size w w' := by
  have HV := Lib.hid (imCallsValid_c n cs v w hT hx hz hn')
  rw [lc_ok]
  rcases Bool.eq_false_or_eq_true (csOk n cs) with h2 | h2
  · obtain ⟨h1, _, _, _⟩ := cs_at h2
    obtain ⟨m, rfl⟩ := Int.eq_ofNat_of_zero_le (show (0 : Int) ≤ n by omega)
    have HB := Lib.hid (fun W (hW : Below w.heap.size w W) => bestChoice_c m cs h2 v W (hT.below hW) (hx.below hW))
    rw [h2] at HV ⊢
    clear hx hz h1 h2 hT
    generalize lcI (m : Int) cs = ll at *
    generalize bpB (m : Int) cs = bb at *
    go_enter Tryz.func5, Tryz.ntmps5
    go_wp2_with fail
    refine HV.out.mono ?_
    rintro e w1 ⟨rfl, b1⟩
    go_wp2_with fail
    refine (HB.out _ b1).mono ?_
    rintro e w2 ⟨rfl, b2⟩
    go_wp2
    go_ret2
    exact ⟨rfl, b1.trans (b2.mono b1.size)⟩
  · have HL : Hid (bpB n cs = ⟨#[]⟩) := by show _ = _; unfold bpB; rw [cho_no h2]; rfl
    rw [h2] at HV ⊢
    clear hx hz h2 hT
    generalize bpB n cs = ll at *
    go_enter Tryz.func5, Tryz.ntmps5
    go_wp2_with fail
    refine HV.out.mono ?_
    rintro e w1 ⟨rfl, b1⟩
    go_wp2
    go_ret2
    exact ⟨by rw [HL.out]; rfl, b1⟩
set_option maxHeartbeats 1600000 in
theorem imIsBest_c (ps : ByteArray) (hp : ps.size ≤ 1048576) (cs : List ByteArray) (v : Value) (w : World) (hT : U8w w) (hx : RdT w v cs) (hz : ∀ c ∈ cs, c.size ≤ 1048576) (hn' : cs.length ≤ 1048576) :
    Calls Tryz.prog 17 #[.string ps, v] w fun e w' => e = .returned (.bool (ibB ps cs)) ∧ Below w.heap.size w w' := by
  have HTC := Lib.hid (imTotalCost_c ps hp cs v w hT hx hz hn')
  have HL := Lib.hid (fun W (hW : Below w.heap.size w W) => imLeastCost_c (ps.size : Int) cs v W (hT.below hW) (hx.below hW) hz hn')
  have HO : Hid (ibB ps cs = (decide (0 ≤ tcI ps.data.toList cs) && decide (tcI ps.data.toList cs = lcI (ps.size : Int) cs))) := rfl
  obtain ⟨Av, cap, rfl, _, _, _⟩ := id hx.open
  rw [HO.out]
  clear hx hz HO hT
  generalize tcI ps.data.toList cs = tt at *
  generalize lcI (ps.size : Int) cs = ll at *
  by_cases h0 : 0 ≤ tt
  · rw [decide_eq_true h0, Bool.true_and]
    go_enter Tryz.func17, Tryz.ntmps17
    go_wp2_with fail
    refine HTC.out.mono ?_
    rintro e w1 ⟨rfl, hB⟩
    go_wp2_with fail
    refine (HL.out _ hB).mono ?_
    rintro e w2 ⟨rfl, hB2⟩
    go_wp2
    go_ret
    exact ⟨rfl, hB.trans (hB2.mono hB.size)⟩
  · rw [decide_eq_false h0, Bool.false_and]
    go_enter Tryz.func17, Tryz.ntmps17
    go_wp2_with fail
    refine HTC.out.mono ?_
    rintro e w1 ⟨rfl, hB⟩
    go_wp2
    go_ret
    exact ⟨rfl, hB⟩
end Go.Proofs.YthgcoocgeekdnaaGreatDoor
namespace Go.Proofs.YthgcoocgeekdnaaGreatDoor
open Go.RowKit Go.PM Go.PD Go.PF Go.Lib
attribute [local go_sem] Oper.semAt_some
set_option maxRecDepth 100000 in
set_option maxHeartbeats 6400000 in
theorem imCountBest_c (n : Int) (cs : List ByteArray) (v : Value) (w : World) (hT : U8w w) (hx : RdT w v cs) (hz : ∀ c ∈ cs, c.size ≤ 1048576) (hn' : cs.length ≤ 1048576) :
    Calls Tryz.prog 8 #[.int .i64 n, v] w fun e w' => e = .returned (.int .i64 (cbI n cs)) ∧ Below w.heap.size w w' := by
  have HV := Lib.hid (imCallsValid_c n cs v w hT hx hz hn')
  obtain ⟨Av, cap, rfl, _, _, _⟩ := id hx.open
  rcases Bool.eq_false_or_eq_true (csOk n cs) with h2 | h2
  · obtain ⟨h1, h4, hcl5, _⟩ := cs_at h2
    obtain ⟨m, rfl⟩ := Int.eq_ofNat_of_zero_le (show (0 : Int) ≤ n by omega)
    have hok := arr_ok h2
    have HB := Lib.hid (fun W (hW : Below w.heap.size w W) => bestChoice_c m cs h2 (.slice Av cs.length cap) W (hT.below hW) (hx.below hW))
    have HIT := Lib.hid (fun b1 b2 k => cho_iter m cs h2 (.slice Av cs.length cap) b1 b2 k)
    have HXT : Hid (∀ A, Below w.heap.size w A → U8w A ∧ RdT A (.slice Av cs.length cap) cs) := fun A hA => ⟨hT.below hA, hx.below hA⟩
    have HCN := Lib.hid (count_all h2)
    have HLEN := Lib.hid (arrB_len m (by omega))
    have HS := Lib.hid (fun pre q => cnQ_snoc cs (lcI (m : Int) cs) pre q)
    have HLE := Lib.hid (fun pre => cnQ_le cs (lcI (m : Int) cs) pre)
    have HC0 : Hid (cnQ cs (lcI (m : Int) cs) [] = 0) := rfl
    rw [h2] at HV
    rw [← HCN.out]
    clear hx hz h1 h2 hT hok HCN
    generalize lcI (m : Int) cs = ll at *
    generalize bpB (m : Int) cs = bb at *
    refine (callsIn_wide (n := 10)).1 ?_
    obtain ⟨N, hN, hNe⟩ : ∃ N : Nat, 10 ≤ N ∧ N = 10 := ⟨10, by omega, rfl⟩
    rw [← hNe]
    clear hNe
    refine callsIn_of_wp_marks Tryz.func8 rfl trivial ?_ rfl
    simp only [Tryz.ntmps8, List.size_toArray, List.length_cons, List.length_nil, Nat.reduceAdd, Nat.reduceSub, Array.replicate_succ, Array.replicate_zero, List.push_toArray, List.append_toArray, List.nil_append, List.cons_append]
    gi_wp2_with fail
    refine ⟨trivial, fun _ => by omega, callsIn_wide.2 (HV.out.mono ?_)⟩
    rintro e w1 ⟨rfl, b1⟩
    gi_wp2_with fail
    refine ⟨trivial, fun _ => by omega, callsIn_wide.2 ((HB.out _ b1).mono ?_)⟩
    rintro e w2 ⟨rfl, b2⟩
    have B2 := b1.trans (b2.mono b1.size)
    have hs2 := B2.size
    obtain ⟨W0, hW0⟩ : ∃ W0 : World, W0 = (w2.alloc (.cells #[.int .i64 ll] 3)).alloc (.cells #[.int .i64 0] 3) := ⟨_, rfl⟩
    have hB0 : Below w2.heap.size w2 W0 := by rw [hW0]; (repeat' (first | (with_reducible exact Below.refl _ _) | (with_reducible assumption) | (with_reducible refine Below.alloc ?_ ?_ _) | (with_reducible refine Below.drew ?_) | (with_reducible refine Below.setCell ?_ ?_ _) | (with_reducible exact Nat.le_refl _) | omega | ((repeat (first | rewrite [World.size_alloc] | rewrite [World.size_setCell] | rewrite [World.size_drew])); omega) | (simp; omega) | (simp; done)))
    have p0 : At W0 w2.heap.size 3 #[.int .i64 ll] := by rw [hW0]; exact (At.new _ _ _).alloc _
    have l0 : At W0 (w2.heap.size + 1) 3 #[.int .i64 0] := by
      rw [hW0]
      have := At.new (w2.alloc (.cells #[.int .i64 ll] 3)) 3 #[.int .i64 0]
      rwa [World.size_alloc] at this
    have hT0 : w2.heap.size + 2 ≤ W0.heap.size := by rw [hW0]; simp only [World.size_alloc]; omega
    gi_wp2_with fail
    rw [← hW0]
    refine ⟨trivial, fun _ => by omega, callsIn_wide.2 ((choices_c _ _ _ _ _).mono ?_)⟩
    rintro e W1 ⟨rfl, hW1⟩
    have hB1 : Below W0.heap.size W0 W1 := by rw [hW1]; (repeat' (first | (with_reducible exact Below.refl _ _) | (with_reducible assumption) | (with_reducible refine Below.alloc ?_ ?_ _) | (with_reducible refine Below.drew ?_) | (with_reducible refine Below.setCell ?_ ?_ _) | (with_reducible exact Nat.le_refl _) | omega | ((repeat (first | rewrite [World.size_alloc] | rewrite [World.size_setCell] | rewrite [World.size_drew])); omega) | (simp; omega) | (simp; done)))
    have hT1 : W0.heap.size + 2 ≤ W1.heap.size := by rw [hW1]; simp only [World.size_alloc]; omega
    have x1 : At W1 W0.heap.size 3 #[.int .i64 m] := by rw [hW1]; exact (At.new _ _ _).alloc _
    have x2 : At W1 (W0.heap.size + 1) 23 #[.slice Av cs.length cap] := by
      rw [hW1]
      have := At.new (W0.alloc (.cells #[.int .i64 m] 3)) 23 #[.slice Av cs.length cap]
      rwa [World.size_alloc] at this
    have p1 := p0.keep hB1
    have l1 := l0.keep hB1
    have hBB := B2.trans ((hB0.trans (hB1.mono hB0.size)).mono hs2)
    clear hW0 hW1 hB0 hB1 p0 l0 b1 b2 B2
    gi_wp2
    refine range_lawK1 (F := Fence.wide) (gf := 35) (lf := #[]) (lb := #[.pointer (some ⟨W0.heap.size, 0, none⟩), .pointer (some ⟨W0.heap.size + 1, 0, none⟩)]) rfl (by omega) rfl trivial (fun args w => rfl) (encs := fun q : ByteArray => #[.string q, .int .i64 (totI q.data.toList cs)]) (xs := arrB m ⟨#[]⟩)
      (HIT.out W0.heap.size (W0.heap.size + 1) _) (fun _ => rfl)
      (fun pre Z => At Z w2.heap.size 3 #[.int .i64 ll] ∧ At Z (w2.heap.size + 1) 3 #[.int .i64 (cnQ cs ll pre : Int)] ∧ At Z W0.heap.size 3 #[.int .i64 m] ∧ At Z (W0.heap.size + 1) 23 #[.slice Av cs.length cap] ∧ Below w.heap.size w Z ∧ W1.heap.size ≤ Z.heap.size)
      (fun cc pre Z => False) ?pr ?own ?ownx ?start ?a1 ?assign ?body ?done ?stop
    case pr => exact fun pre Z h => ⟨(HXT.out Z h.2.2.2.2.1).1, (HXT.out Z h.2.2.2.2.1).2, h.2.2.1, h.2.2.2.1⟩
    case own =>
      rintro pre Z Z' row ⟨g1, g2, g3, g4, g5, g6⟩ hg hr
      exact ⟨at_turn g1 hg (fun r e => (hr r e).2), at_turn g2 hg (fun r e => (hr r e).2), at_turn g3 hg (fun r e => (hr r e).2), at_turn g4 hg (fun r e => (hr r e).2), g5.trans (below_grown hg g5.size (fun g e => by have := (hr g e).1; omega)), Nat.le_trans g6 hg.size⟩
    case ownx =>
      rintro cc pre Z Z' row h hg hr
      exact h
    case start => exact ⟨p1, by rw [HC0.out]; exact l1, x1, x2, hBB, Nat.le_refl _⟩
    case assign =>
      intro l2 q Z K hK
      gi_wp2
      exact hK
    case stop =>
      rintro D cc pre Z hD hp h hd
      exact h.elim
    case body =>
      rintro l2 pre q Z ⟨g1, g2, g3, g4, g5, g6⟩ hp hsz
      have hpl : pre.length + 1 ≤ 1296 := by
        have e1 := hp.length_le
        have e2 := HLEN.out
        rw [List.length_append, List.length_singleton] at e1
        omega
      have hcl := HLE.out pre
      have hst := HS.out pre q
      have fL := g2.frozen 0
      have cB : Z.cell? ⟨w2.heap.size, 0, none⟩ = some (.int .i64 ll) := g1.cell 0
      have cL : Z.cell? ⟨w2.heap.size + 1, 0, none⟩ = some (.int .i64 (cnQ cs ll pre : Int)) := g2.cell 0
      have lB := g1.lt
      have lL := g2.lt
      have a1 := g1.far (p := ⟨w2.heap.size + 1, 0, none⟩) (by simp) (.int .i64 ((cnQ cs ll pre : Int) + 1))
      have a2 := g2.set 0 (.int .i64 ((cnQ cs ll pre : Int) + 1))
      have a3 := g3.far (p := ⟨w2.heap.size + 1, 0, none⟩) (by simp; omega) (.int .i64 ((cnQ cs ll pre : Int) + 1))
      have a4 := g4.far (p := ⟨w2.heap.size + 1, 0, none⟩) (by simp; omega) (.int .i64 ((cnQ cs ll pre : Int) + 1))
      have a5 : Below w.heap.size w (Z.setCell ⟨w2.heap.size + 1, 0, none⟩ (.int .i64 ((cnQ cs ll pre : Int) + 1))) := Below.setCell g5 (by simp; omega) _
      have a6 : W1.heap.size ≤ (Z.setCell ⟨w2.heap.size + 1, 0, none⟩ (.int .i64 ((cnQ cs ll pre : Int) + 1))).heap.size := by simp only [World.size_setCell]; exact g6
      have a7 : KeepsNew W1.heap.size Z (Z.setCell ⟨w2.heap.size + 1, 0, none⟩ (.int .i64 ((cnQ cs ll pre : Int) + 1))) := KeepsNew.set Z _ _ (by simp; omega)
      obtain ⟨nc, HNC⟩ : ∃ nc, Hid (cnQ cs ll (pre ++ [q]) = nc) := ⟨_, rfl⟩
      rw [HNC.out] at hst
      have HSS := Lib.hid (show At Z w2.heap.size 3 #[.int .i64 ll] ∧ At Z (w2.heap.size + 1) 3 #[.int .i64 (cnQ cs ll pre : Int)] ∧ At Z W0.heap.size 3 #[.int .i64 m] ∧ At Z (W0.heap.size + 1) 23 #[.slice Av cs.length cap] ∧ Below w.heap.size w Z ∧ W1.heap.size ≤ Z.heap.size from ⟨g1, g2, g3, g4, g5, g6⟩)
      have HU := Lib.hid (And.intro a1 (And.intro a2 (And.intro a3 (And.intro a4 (And.intro a5 (And.intro a6 a7))))))
      clear a1 a2 a3 a4 a5 a6 a7 g1 g2 g3 g4 g5 g6 p1 l1 x1 x2 hBB hp
      generalize totI q.data.toList cs = t at *
      generalize cnQ cs ll pre = c0 at *
      by_cases hup : t = ll
      · rw [if_pos hup] at hst
        have E1 := Lib.hid hst
        clear hst
        have d1 : (t == ll) = true := by simpa using hup
        subst hup
        gi_wp2
        exact ⟨⟨HU.out.1, by rw [HNC.out, E1.out]; exact HU.out.2.1, HU.out.2.2.1, HU.out.2.2.2.1, HU.out.2.2.2.2.1, HU.out.2.2.2.2.2.1⟩, HU.out.2.2.2.2.2.2⟩
      · rw [if_neg hup] at hst
        have E1 := Lib.hid hst
        clear hst HU
        have d1 : (t == ll) = false := by simpa using hup
        gi_wp2
        exact ⟨⟨HSS.out.1, by rw [HNC.out, E1.out]; exact HSS.out.2.1, HSS.out.2.2.1, HSS.out.2.2.2.1, HSS.out.2.2.2.2.1, HSS.out.2.2.2.2.2⟩, KeepsNew.refl _ _⟩
    case done =>
      rintro D Z hD ⟨g1, g2, -, -, g5, -⟩ hd
      have cL : Z.cell? ⟨w2.heap.size + 1, 0, none⟩ = some (.int .i64 (cnQ cs ll (arrB m ⟨#[]⟩) : Int)) := g2.cell 0
      have lL := g2.lt
      have hBB2 : Hid (w.heap.size ≤ D) := by show _ ≤ _; omega
      clear g1 g2 p1 l1 x1 x2 hBB
      generalize hbe : cnQ cs ll (arrB m ⟨#[]⟩) = be at *
      have HBE := Lib.hid hbe
      clear hbe
      gi_wp2
      refine leaves_J (J := fun (_ : Unit) A => Below w.heap.size w A) (B := w.heap.size) (fun _ A A' row h hg hr => h.trans (below_grown hg h.size (fun g e => (hr g e).1))) () [D] Z ⟨by simp, fun E hE => ?_⟩ g5 ?_
      · obtain rfl : E = D := by simpa using hE
        exact ⟨hBB2.out, hd⟩
      · intro A' hA'
        exact ⟨_, results_tmp rfl _ _ _, by rw [HBE.out]; rfl, hA'⟩
  · have HL : Hid (cbI n cs = -1) := by show _ = _; unfold cbI; rw [cho_no h2]; rfl
    rw [h2] at HV
    clear hx hz h2 hT
    generalize cbI n cs = ll at *
    go_enter Tryz.func8, Tryz.ntmps8
    go_wp2_with fail
    refine HV.out.mono ?_
    rintro e w1 ⟨rfl, b1⟩
    go_wp2
    go_ret
    exact ⟨by rw [HL.out]; rfl, b1⟩
end Go.Proofs.YthgcoocgeekdnaaGreatDoor
namespace Go.PF
open Go.Sort
/-- a register's number with its votes: what is sorted -/
abbrev Cd := Nat × Nat
def cfV (x y : Cd) : Int := if y.2 < x.2 then -1 else if x.2 < y.2 then 1 else 0
def ltV (x y : Cd) : Bool := decide (cfV x y < 0)
def ltW (x y : Cd) : Bool := decide (y.2 < x.2 ∨ (x.2 = y.2 ∧ x.1 < y.1))
theorem ltV_is (x y : Cd) : ltV x y = decide (y.2 < x.2) := by
  unfold ltV cfV
  by_cases h : y.2 < x.2
  · rw [if_pos h, decide_eq_true h]; rfl
  · rw [if_neg h, decide_eq_false h]
    split <;> rfl
theorem ltVW {x y : Cd} (h : ¬ x.1 < y.1) : ltV x y = ltW x y := by
  rw [ltV_is]
  unfold ltW
  rw [decide_eq_decide]
  exact ⟨fun h2 => .inl h2, fun h2 => by rcases h2 with h2 | h2; exact h2; exact absurd h2.2 h⟩
theorem swo_W : SWO ltW := by
  refine ⟨fun x => ?_, fun x y z h1 h2 => ?_, fun x y z h1 h2 => ?_⟩
  · unfold ltW; rw [decide_eq_false_iff_not]; omega
  · unfold ltW at *; rw [decide_eq_true_eq] at *; omega
  · unfold ltW at *; rw [decide_eq_false_iff_not] at *; omega
/-- ahead of the element that is put in there are those of smaller numbers alone -/
structure StI (n i : Nat) (d : Array Cd) : Prop where
  size : d.size = n
  low : ∀ p, p ≤ i → d[p]!.1 ≤ i
  high : ∀ p, i < p → p < n → d[p]!.1 = p
theorem StI.swp {n i : Nat} {d : Array Cd} (h : StI n i d) (hi : i < n) {a b : Nat} (ha : a ≤ i) (hb : b ≤ i) : StI n i (swp d a b) := by
  have g := swp_get d (show a < d.size by rw [h.size]; omega) (show b < d.size by rw [h.size]; omega)
  refine ⟨by rw [swp_size, h.size], fun p hp => ?_, fun p hp hpn => ?_⟩
  · rw [g]
    split
    · exact h.low a ha
    · split
      · exact h.low b hb
      · exact h.low p hp
  · rw [g, if_neg (by omega), if_neg (by omega)]; exact h.high p hp hpn
theorem ins_inner {n i : Nat} (hi : i < n) : ∀ (j : Nat) (d : Array Cd), StI n i d → j ≤ i → d[j]!.1 = i → (∀ p, p < j → d[p]!.1 < i) → insInner ltV 0 j d = insInner ltW 0 j d ∧ StI n i (insInner ltW 0 j d)
  | 0, d, h, _, _, _ => ⟨rfl, h⟩
  | j + 1, d, h, hj, he, hlt => by
    have h1 := hlt j (by omega)
    have e : ltV d[j + 1]! d[j]! = ltW d[j + 1]! d[j]! := ltVW (by omega)
    unfold insInner
    rw [e]
    by_cases hc : (decide (j + 1 > 0) && ltW d[j + 1]! d[j]!) = true
    · rw [if_pos hc, if_pos hc]
      have g := swp_get d (show j + 1 < d.size by rw [h.size]; omega) (show j < d.size by rw [h.size]; omega)
      refine ins_inner hi j (swp d (j + 1) j) (h.swp hi hj (by omega)) (by omega) ?_ fun p hp => ?_
      · rw [g, if_pos rfl]; exact he
      · rw [g, if_neg (by omega), if_neg (by omega)]; exact hlt p (by omega)
    · rw [if_neg hc, if_neg hc]; exact ⟨rfl, h⟩
/-- the same, ahead of the round of the element i -/
structure StO (n i : Nat) (d : Array Cd) : Prop where
  size : d.size = n
  low : ∀ p, p < i → d[p]!.1 < i
  high : ∀ p, i ≤ p → p < n → d[p]!.1 = p
theorem ins_outer {n : Nat} : ∀ (k i : Nat) (d : Array Cd), n - i = k → StO n i d → insOuter ltV 0 n i d = insOuter ltW 0 n i d
  | 0, i, d, hk, h => by
    have hi : ¬ i < n := by omega
    rw [insOuter, if_neg hi]
    conv => rhs; rw [insOuter, if_neg hi]
  | k + 1, i, d, hk, h => by
    have hi : i < n := by omega
    have h1 : StI n i d := ⟨h.size, fun p hp => by
      by_cases e : p = i
      · subst e; rw [h.high p (Nat.le_refl _) hi]; exact Nat.le_refl _
      · have := h.low p (by omega); omega, fun p hp hpn => h.high p (by omega) hpn⟩
    obtain ⟨e, h2⟩ := ins_inner hi i d h1 (Nat.le_refl _) (h.high i (Nat.le_refl _) hi) (fun p hp => h.low p hp)
    rw [insOuter, if_pos hi, e]
    conv => rhs; rw [insOuter, if_pos hi]
    refine ins_outer k (i + 1) _ (by omega) ⟨h2.size, fun p hp => ?_, fun p hp hpn => h2.high p (by omega) hpn⟩
    have := h2.low p (by omega); omega
/-- the registers with their votes, in the order of the alphabet -/
def cds (v : Nat → Nat) : Array Cd := ((List.range 6).map fun k => (k, v k)).toArray
theorem cds_size (v : Nat → Nat) : (cds v).size = 6 := by simp [cds]
theorem cds_at (v : Nat → Nat) (k : Nat) (hk : k < 6) : (cds v)[k]! = (k, v k) := by
  have h : k < (cds v).size := by rw [cds_size]; exact hk
  rw [getElem!_pos (cds v) k h]
  simp [cds]
def srtV (v : Nat → Nat) : Array Cd := insertionSort ltV (cds v) 0 6
theorem srtV_eq (v : Nat → Nat) : srtV v = insertionSort ltW (cds v) 0 6 := by
  unfold srtV insertionSort
  refine ins_outer 5 1 (cds v) rfl ⟨cds_size v, fun p hp => ?_, fun p hp hpn => ?_⟩
  · have : p = 0 := by omega
    subst this; rw [cds_at v 0 (by decide)]; exact Nat.zero_lt_one
  · rw [cds_at v p hpn]
theorem srtV_spec (v : Nat → Nat) : (srtV v).size = 6 ∧ (srtV v).toList.Perm (cds v).toList ∧ ∀ p q, p < q → q < 6 → ltW (srtV v)[q]! (srtV v)[p]! = false := by
  rw [srtV_eq]
  obtain ⟨⟨h1, _, h2⟩, h3⟩ := insertionSort_holds (lt := ltW) swo_W (cds v) 0 6 (by omega) (by rw [cds_size]; omega)
  rw [cds_size] at h1
  refine ⟨h1, ?_, fun p q hp hq => h3 p q (by omega) hp hq⟩
  have e1 : (insertionSort ltW (cds v) 0 6).extract 0 6 = insertionSort ltW (cds v) 0 6 := by
    have := @Array.extract_size _ (insertionSort ltW (cds v) 0 6)
    rw [h1] at this; exact this
  have e2 : (cds v).extract 0 6 = cds v := by
    have := @Array.extract_size _ (cds v)
    rw [cds_size] at this; exact this
  rw [e1, e2] at h2
  exact h2
theorem srtV_mem (v : Nat → Nat) : (∀ p, p < 6 → (srtV v)[p]!.1 < 6 ∧ (srtV v)[p]!.2 = v (srtV v)[p]!.1) ∧ ∀ k, k < 6 → ∃ p, p < 6 ∧ (srtV v)[p]! = (k, v k) := by
  obtain ⟨h1, h2, _⟩ := srtV_spec v
  constructor
  · intro p hp
    have hp' : p < (srtV v).size := by omega
    have hm : (srtV v)[p] ∈ (cds v).toList := h2.mem_iff.1 (Array.getElem_mem_toList hp')
    rw [getElem!_pos (srtV v) p hp']
    unfold cds at hm
    rw [List.mem_map] at hm
    obtain ⟨k, hk, e⟩ := hm
    rw [← e]; exact ⟨List.mem_range.1 hk, rfl⟩
  · intro k hk
    have hm : (k, v k) ∈ (srtV v).toList := h2.mem_iff.2 (by
      unfold cds; exact List.mem_map.2 ⟨k, List.mem_range.2 hk, rfl⟩)
    obtain ⟨p, hp, e⟩ := List.getElem_of_mem hm
    have hp' : p < (srtV v).size := by simpa using hp
    refine ⟨p, by omega, ?_⟩
    rw [getElem!_pos (srtV v) p hp', ← e, Array.getElem_toList]
/-- k is the first one of those with t that have the most votes -/
def Fst (v : Nat → Nat) (t : Nat → Bool) (n k : Nat) : Prop := k < n ∧ t k = true ∧ ∀ j, j < n → t j = true → v j < v k ∨ (v j = v k ∧ k ≤ j)
theorem Fst.uniq {v : Nat → Nat} {t : Nat → Bool} {n k k' : Nat} (h : Fst v t n k) (h' : Fst v t n k') : k = k' := by
  have h1 := h.2.2 k' h'.1 h'.2.1
  have h2 := h'.2.2 k h.1 h.2.1
  omega
theorem srtV_first (v : Nat → Nat) (t : Nat → Bool) {p : Nat} (hp : p < 6) (ht : t (srtV v)[p]!.1 = true) (hlow : ∀ q, q < p → t (srtV v)[q]!.1 = false) : Fst v t 6 (srtV v)[p]!.1 := by
  obtain ⟨_, _, h3⟩ := srtV_spec v
  obtain ⟨h4, h5⟩ := srtV_mem v
  refine ⟨(h4 p hp).1, ht, fun j hj hjt => ?_⟩
  obtain ⟨q, hq, e⟩ := h5 j hj
  have e1 : (srtV v)[q]!.1 = j := by rw [e]
  have e2 : (srtV v)[q]!.2 = v j := by rw [e]
  have e3 := (h4 p hp).2
  rcases Nat.lt_trichotomy q p with h | h | h
  · have := hlow q h
    rw [e1, hjt] at this; cases this
  · subst h
    rw [e1]; exact .inr ⟨rfl, Nat.le_refl _⟩
  · have hl := h3 p q h hq
    unfold ltW at hl
    rw [decide_eq_false_iff_not, e1, e2, e3] at hl
    omega
end Go.PF
namespace Go.Proofs.YthgcoocgeekdnaaGreatDoor
open Go.PM Go.PD Go.PF Go.RowKit Go.Lib Go.Sort
/-- votes of the k-th register -/
def vtR (cs : List ByteArray) (i : Nat) (k : Nat) : Nat := votN cs i (regsL.getD k 0)
def frR (ps : List UInt8) (k : Nat) : Bool := decide (regsL.getD k 0 ∉ ps)
theorem reg_inj {j k : Nat} (hj : j < 6) (hk : k < 6) (e : regsL.getD j 0 = regsL.getD k 0) : j = k := by
  have h : ∀ j : Fin 6, ∀ k : Fin 6, regsL.getD j.val 0 = regsL.getD k.val 0 → j = k := by decide
  exact congrArg Fin.val (h ⟨j, hj⟩ ⟨k, hk⟩ e)
theorem grK_first (cs : List ByteArray) (i : Nat) (ps : List UInt8) : ∀ K, K ≤ 6 → (grK cs i ps K = [] ∧ ∀ j, j < K → frR ps j = false) ∨ ∃ k, grK cs i ps K = [regsL.getD k 0] ∧ Fst (vtR cs i) (frR ps) K k
  | 0, _ => .inl ⟨rfl, fun j hj => absurd hj (Nat.not_lt_zero j)⟩
  | K + 1, hK => by
    have ih := grK_first cs i ps K (by omega)
    show (grS cs i ps (grK cs i ps K) K = [] ∧ _) ∨ ∃ k, grS cs i ps (grK cs i ps K) K = _ ∧ _
    unfold grS
    by_cases hin : regsL.getD K 0 ∈ ps
    · rw [if_pos hin]
      have hf : frR ps K = false := by unfold frR; rw [decide_eq_false_iff_not]; exact fun h => h hin
      rcases ih with ⟨e, h⟩ | ⟨k, e, h1, h2, h3⟩
      · exact .inl ⟨e, fun j hj => by
          by_cases ej : j = K
          · rw [ej]; exact hf
          · exact h j (by omega)⟩
      · exact .inr ⟨k, e, by omega, h2, fun j hj hjt => by
          by_cases ej : j = K
          · rw [ej, hf] at hjt; cases hjt
          · exact h3 j (by omega) hjt⟩
    · rw [if_neg hin]
      have hf : frR ps K = true := by unfold frR; exact decide_eq_true hin
      rcases ih with ⟨e, h⟩ | ⟨k, e, h1, h2, h3⟩
      · rw [e]
        refine .inr ⟨K, rfl, by omega, hf, fun j hj hjt => ?_⟩
        by_cases ej : j = K
        · subst ej; exact .inr ⟨rfl, Nat.le_refl _⟩
        · rw [h j (by omega)] at hjt; cases hjt
      · rw [e]
        show (_ ∧ _) ∨ ∃ k', (if vtR cs i K > vtR cs i k then [regsL.getD K 0] else [regsL.getD k 0]) = _ ∧ _
        by_cases hg : vtR cs i K > vtR cs i k
        · rw [if_pos hg]
          refine .inr ⟨K, rfl, by omega, hf, fun j hj hjt => ?_⟩
          by_cases ej : j = K
          · subst ej; exact .inr ⟨rfl, Nat.le_refl _⟩
          · have := h3 j (by omega) hjt; omega
        · rw [if_neg hg]
          refine .inr ⟨k, rfl, by omega, h2, fun j hj hjt => ?_⟩
          by_cases ej : j = K
          · subst ej; omega
          · exact h3 j (by omega) hjt
/-- the first one of the sorted registers that is not taken is the one that is elected -/
theorem elect_is (cs : List ByteArray) (i : Nat) (ps : List UInt8) {p : Nat} (hp : p < 6) (ht : frR ps (srtV (vtR cs i))[p]!.1 = true) (hlow : ∀ q, q < p → frR ps (srtV (vtR cs i))[q]!.1 = false) :
    grK cs i ps 6 = [regsL.getD (srtV (vtR cs i))[p]!.1 0] := by
  have h1 := srtV_first (vtR cs i) (frR ps) hp ht hlow
  rcases grK_first cs i ps 6 (Nat.le_refl _) with ⟨_, h⟩ | ⟨k, e, h⟩
  · have := h _ h1.1
    rw [ht] at this; cases this
  · rw [e, h.uniq h1]
theorem elect_some (v : Nat → Nat) (ps : List UInt8) (hl : ps.length ≤ 5) : ∃ p, p < 6 ∧ frR ps (srtV v)[p]!.1 = true ∧ ∀ q, q < p → frR ps (srtV v)[q]!.1 = false := by
  obtain ⟨j, hj, hf⟩ : ∃ j, j < 6 ∧ regsL.getD j 0 ∉ ps := by
    by_cases h : ∃ j, j < 6 ∧ regsL.getD j 0 ∉ ps
    · exact h
    · have h2 : ∀ a ∈ regsL, a ∈ ps := fun a ha => by
        obtain ⟨j, hj, rfl⟩ := List.getElem_of_mem ha
        by_cases hm : regsL[j] ∈ ps
        · exact hm
        · exact absurd ⟨j, hj, by rw [List.getD_eq_getElem?_getD, List.getElem?_eq_getElem hj]; exact hm⟩ h
      have := nodup_le regsL ps (by decide) h2
      have e : regsL.length = 6 := rfl
      omega
  obtain ⟨p, hp, e⟩ := (srtV_mem v).2 j hj
  have hex : ∃ p, p < 6 ∧ frR ps (srtV v)[p]!.1 = true := ⟨p, hp, by rw [e]; exact decide_eq_true hf⟩
  have key : ∀ n, (∃ p, p < n ∧ p < 6 ∧ frR ps (srtV v)[p]!.1 = true) → ∃ p, p < 6 ∧ frR ps (srtV v)[p]!.1 = true ∧ ∀ q, q < p → frR ps (srtV v)[q]!.1 = false := by
    intro n
    induction n with
    | zero => rintro ⟨p, h, _⟩; exact absurd h (Nat.not_lt_zero p)
    | succ n ih =>
      rintro ⟨p, h1, h2, h3⟩
      by_cases hc : ∃ q, q < n ∧ q < 6 ∧ frR ps (srtV v)[q]!.1 = true
      · exact ih hc
      · refine ⟨p, h2, h3, fun q hq => ?_⟩
        rw [Bool.eq_false_iff]
        exact fun hx => hc ⟨q, by omega, by omega, hx⟩
  obtain ⟨p, hp, ht⟩ := hex
  exact key 6 ⟨p, hp, hp, ht⟩
end Go.Proofs.YthgcoocgeekdnaaGreatDoor
namespace Go.Proofs.YthgcoocgeekdnaaGreatDoor
open Go.RowKit Go.PM Go.PD Go.PF Go.Lib
attribute [local go_sem] Oper.semAt_some
def nmE (k j : Nat) : Value := .string (if j < k then ⟨#[regsL.getD j 0]⟩ else ⟨#[]⟩)
/-- the registers that are named, with no votes yet -/
def cd1 (k : Nat) : Array Value := #[nmE k 0, .int .i64 0, nmE k 1, .int .i64 0, nmE k 2, .int .i64 0, nmE k 3, .int .i64 0, nmE k 4, .int .i64 0, nmE k 5, .int .i64 0]
/-- the registers with votes -/
def cdC (v : Nat → Nat) : Array Value := #[.string ⟨#[97]⟩, .int .i64 (v 0 : Nat), .string ⟨#[98]⟩, .int .i64 (v 1 : Nat), .string ⟨#[99]⟩, .int .i64 (v 2 : Nat), .string ⟨#[100]⟩, .int .i64 (v 3 : Nat), .string ⟨#[101]⟩, .int .i64 (v 4 : Nat), .string ⟨#[102]⟩, .int .i64 (v 5 : Nat)]
theorem cd1_six (v : Nat → Nat) (h : ∀ j, j < 6 → v j = 0) : cd1 6 = cdC v := by
  unfold cd1 cdC
  rw [h 0 (by decide), h 1 (by decide), h 2 (by decide), h 3 (by decide), h 4 (by decide), h 5 (by decide)]
  rfl
theorem vtR_step (cs : List ByteArray) (i k : Nat) (hk : k < cs.length) (j : Nat) : vtR (cs.take (k + 1)) i j = vtR (cs.take k) i j + if cs[k].extract i (i + 1) = ch (regsL.getD j 0) then 1 else 0 := by
  unfold vtR votN
  rw [take_snoc cs k hk, List.countP_append, List.countP_singleton]
  simp only [decide_eq_true_eq]
theorem vtR_zero (cs : List ByteArray) (i j : Nat) : vtR (cs.take 0) i j = 0 := rfl
theorem vtR_le (cs : List ByteArray) (i j k : Nat) : vtR (cs.take k) i j ≤ cs.length := by
  have h1 : vtR (cs.take k) i j ≤ (cs.take k).length := List.countP_le_length
  rw [List.length_take] at h1
  omega
theorem cdC_congr {v v' : Nat → Nat} (h : ∀ j, j < 6 → v j = v' j) : cdC v = cdC v' := by
  unfold cdC
  rw [h 0 (by decide), h 1 (by decide), h 2 (by decide), h 3 (by decide), h 4 (by decide), h 5 (by decide)]
theorem cdC_all (v : Nat → Nat) : (cdC v).all (·.oneCell') = true := by simp [cdC, Value.oneCell']
/-- one vote more for the r-th register -/
def incV (v : Nat → Nat) (r j : Nat) : Nat := v j + if j = r then 1 else 0
theorem cdC_set (v : Nat → Nat) (r : Nat) (hr : r < 6) : (cdC v).setIfInBounds (r * 2 + 1) (.int .i64 ((v r : Int) + 1)) = cdC (incV v r) := by
  have h : r = 0 ∨ r = 1 ∨ r = 2 ∨ r = 3 ∨ r = 4 ∨ r = 5 := by omega
  rcases h with rfl | rfl | rfl | rfl | rfl | rfl <;> simp [cdC, incV]
theorem cd1_set (k : Nat) (hk : k < 6) : (cd1 k).setIfInBounds (k * 2) (.string ⟨#[regsL.getD k 0]⟩) = cd1 (k + 1) := by
  have h : k = 0 ∨ k = 1 ∨ k = 2 ∨ k = 3 ∨ k = 4 ∨ k = 5 := by omega
  rcases h with rfl | rfl | rfl | rfl | rfl | rfl <;> rfl

set_option maxRecDepth 100000 in
set_option maxHeartbeats 6400000 in
theorem candidatesAt_c (cs : List ByteArray) (i : Nat) (hi : ∀ c ∈ cs, i < c.size) (h5 : cs.length ≤ 5) (hi4 : i ≤ 4) (v : Value) (w : World) (hx : RdT w v cs) :
    Calls Tryz.prog 37 #[v, .int .i64 (i : Int)] w fun e w' => e = .returned (.agg (cdC (vtR cs i))) ∧ Below w.heap.size w w' := by
  obtain ⟨A, cap, rfl, hn, hc, hcell⟩ := hx.open
  clear hx
  have HI : Hid (∀ k (hk : k < cs.length), i < cs[k].size) := fun k hk => hi _ (List.getElem_mem hk)
  have HPY := Lib.hid (fun c n h W => positionIn_yes ⟨#[97, 98, 99, 100, 101, 102]⟩ c n h W)
  have HPN := Lib.hid (fun s h W => positionIn_no ⟨#[97, 98, 99, 100, 101, 102]⟩ s h W)
  have HX := Lib.hid (fun j hj => reg_ext j hj)
  have HS := Lib.hid (fun k hk j => vtR_step cs i k hk j)
  have HLE := Lib.hid (fun j k => vtR_le cs i j k)
  have HF : Hid (cdC (vtR (cs.take cs.length) i) = cdC (vtR cs i)) := by show _ = _; rw [List.take_length]
  have H6 : Hid (cd1 6 = cdC (vtR (cs.take 0) i)) := cd1_six _ (fun j _ => vtR_zero cs i j)
  have k0 : At (w.alloc (.cells (cd1 0) 69)) w.heap.size 69 (cd1 0) := At.new _ _ _
  have q0 : At ((w.alloc (.cells (cd1 0) 69)).alloc (.cells (cd1 0) 69)) (w.heap.size + 1) 69 (cd1 0) := by
    have := At.new (w.alloc (.cells (cd1 0) 69)) 69 (cd1 0)
    rwa [World.size_alloc] at this
  have B0 : Below w.heap.size w ((w.alloc (.cells (cd1 0) 69)).alloc (.cells (cd1 0) 69)) := by (repeat' (first | (with_reducible exact Below.refl _ _) | (with_reducible assumption) | (with_reducible refine Below.alloc ?_ ?_ _) | (with_reducible refine Below.drew ?_) | (with_reducible refine Below.setCell ?_ ?_ _) | (with_reducible exact Nat.le_refl _) | omega | ((repeat (first | rewrite [World.size_alloc] | rewrite [World.size_setCell] | rewrite [World.size_drew])); omega) | (simp; omega) | (simp; done)))
  have k0 := k0.alloc (.cells (cd1 0) 69)
  have HST := Lib.hid (And.intro k0 (And.intro q0 B0))
  clear k0 q0 B0 hi
  go_enter Tryz.func37, Tryz.ntmps37
  go_wp2
  go_loopw [6, 11] (fun _ i' wr => ∃ (k : Nat), k ≤ 6 ∧ i' = .int .i64 k ∧ At wr w.heap.size 69 (cd1 0) ∧ At wr (w.heap.size + 1) 69 (cd1 k) ∧ Below w.heap.size w wr) (fun _ i' _ => 6 - (RowKit.intOf i').toNat)
  case atStart => exact ⟨0, by omega, rfl, HST.out.1, HST.out.2.1, HST.out.2.2⟩
  case round =>
    obtain ⟨k, hk, rfl, g1, g2, hb⟩ := hrel
    by_cases hlt : k < 6
    · have i0 : (0 : Int) ≤ (k : Int) := by omega
      have i1 : (k : Int) < 6 := by omega
      have i2 : (k : Int) + 1 ≤ 6 := by omega
      have hxk := HX.out k hlt
      have hcs : k = 0 ∨ k = 1 ∨ k = 2 ∨ k = 3 ∨ k = 4 ∨ k = 5 := by omega
      have G1 := Lib.hid (g1.far (p := ⟨w.heap.size + 1, k * 2, none⟩) (by simp) (.string ⟨#[regsL.getD k 0]⟩))
      have G2 : Hid (At (wr.setCell ⟨w.heap.size + 1, k * 2, none⟩ (.string ⟨#[regsL.getD k 0]⟩)) (w.heap.size + 1) 69 (cd1 (k + 1))) := by
        show At _ _ _ _
        rw [← cd1_set k hlt]
        exact g2.set (k * 2) _
      have HB : Hid (Below w.heap.size w (wr.setCell ⟨w.heap.size + 1, k * 2, none⟩ (.string ⟨#[regsL.getD k 0]⟩))) := Below.setCell hb (by simp) _
      have f2 := g2.frozen (k * 2)
      have c2 : ∃ z, wr.cell? ⟨w.heap.size + 1, k * 2, none⟩ = some z := ⟨_, (g2.cell (k * 2)).trans (by rcases hcs with rfl | rfl | rfl | rfl | rfl | rfl <;> rfl)⟩
      have l2 := g2.lt
      obtain ⟨z, c2⟩ := c2
      clear g1 g2 hb
      generalize hwn : wr.setCell ⟨w.heap.size + 1, k * 2, none⟩ (.string ⟨#[regsL.getD k 0]⟩) = wn at *
      have HWN := Lib.hid hwn
      clear hwn
      rcases hcs with rfl | rfl | rfl | rfl | rfl | rfl
      all_goals
        go_wp2
        go_roundw
        case rel => exact ⟨_, by decide, rfl, by rw [← HWN.out] at G1; exact G1.out, by rw [← HWN.out] at G2; exact G2.out, by rw [← HWN.out] at HB; exact HB.out⟩
        case measure => simp [RowKit.intOf]
    · have hk6 : k = 6 := by omega
      have g3 : At wr (w.heap.size + 1) 69 (cdC (vtR (cs.take 0) i)) := by rw [← H6.out, ← hk6]; exact g2
      have hkz : (k : Int) = 6 := by omega
      rw [hkz]
      clear g2 hk6 hkz hlt hk
      have HG := Lib.hid (And.intro g1 (And.intro g3 hb))
      clear g1 g3 hb HST HX
      go_wp2
      rename World => wo
      go_loopw [8, 9, 10, 24] (fun _ _ _ i' wr => ∃ (k : Nat), k ≤ cs.length ∧ i' = .int .i64 k ∧ At wr w.heap.size 69 (cd1 0) ∧ At wr (w.heap.size + 1) 69 (cdC (vtR (cs.take k) i)) ∧ Below w.heap.size w wr) (fun _ _ _ i' _ => cs.length - (RowKit.intOf i').toNat)
      case atStart => exact ⟨0, by omega, rfl, HG.out.1, HG.out.2.1, HG.out.2.2⟩
      case round =>
        obtain ⟨k, hk, rfl, g1, g2, hb⟩ := hrel
        by_cases hlt : k < cs.length
        · obtain ⟨b, off, rfl, hbl, hc1⟩ := hcell k hlt
          have hd1 := (hb.cell (p := ⟨b, off + k, none⟩) hbl).trans hc1
          have hiq := HI.out k hlt
          have hst := fun j => HS.out k hlt j
          have hle := fun j => HLE.out j k
          have j0 : (0 : Int) ≤ (k : Int) := by omega
          have j1 : (k : Int) < (cs.length : Int) := by omega
          have m0 : (0 : Int) ≤ (i : Int) := by omega
          have m1 : (i : Int) + 1 ≤ (cs[k].size : Int) := by omega
          have m2 : (i : Int) < (cs[k].size : Int) := by omega
          have hlw : b < wr.heap.size := Nat.lt_of_lt_of_le hbl hb.size
          clear hc1 hcell HG
          generalize cs[k] = q at *
          have hex : q.extract i (i + 1) = ⟨#[q[i]]⟩ := extract_at q i hiq
          generalize q[i] = c at *
          by_cases hm : c ∈ regsL
          · have hr6 : regsL.idxOf c < 6 := List.idxOf_lt_length_of_mem hm
            have hget : regsL.getD (regsL.idxOf c) 0 = c := by
              rw [getD_lt hr6]; exact List.getElem_idxOf hr6
            have HP : Hid (∀ W, Calls Tryz.prog 51 #[.string ⟨#[97, 98, 99, 100, 101, 102]⟩, .string (q.extract i (i + 1))] W fun e w' => e = .returned (.tuple #[.int .i64 (regsL.idxOf c : Nat), .bool true]) ∧ W = w') := fun W => by
              rw [hex]
              exact HPY.out c (regsL.idxOf c) (by rw [indexByte_idx]; exact if_pos hm) W
            have HNX : Hid (cdC (incV (vtR (cs.take k) i) (regsL.idxOf c)) = cdC (vtR (cs.take (k + 1)) i)) := cdC_congr fun j hj => by
              rw [hst j, hex]
              unfold incV
              congr 1
              by_cases e : j = regsL.idxOf c
              · rw [if_pos e, if_pos (by rw [e, hget])]
              · rw [if_neg e, if_neg (fun e2 => e (reg_inj hj hr6 ((ch_inj e2).symm.trans hget.symm)))]
            have hcs : regsL.idxOf c = 0 ∨ regsL.idxOf c = 1 ∨ regsL.idxOf c = 2 ∨ regsL.idxOf c = 3 ∨ regsL.idxOf c = 4 ∨ regsL.idxOf c = 5 := by omega
            have hv5 := hle (regsL.idxOf c)
            generalize vtR (cs.take k) i = vf at *
            have hce : (cdC vf)[regsL.idxOf c * 2 + 1]? = some (.int .i64 (vf (regsL.idxOf c) : Nat)) := by rcases hcs with e | e | e | e | e | e <;> rw [e] <;> rfl
            generalize regsL.idxOf c = r at *
            have cc := (g2.cell (r * 2 + 1)).trans hce
            have fc := g2.frozen (r * 2 + 1)
            have lc := g2.lt
            have hv0 : (0 : Int) ≤ (vf r : Int) := by omega
            have hv1 : (vf r : Int) + 1 ≤ 6 := by omega
            have G1 := Lib.hid (g1.far (p := ⟨w.heap.size + 1, r * 2 + 1, none⟩) (by simp) (.int .i64 ((vf r : Int) + 1)))
            have G2 : Hid (At (wr.setCell ⟨w.heap.size + 1, r * 2 + 1, none⟩ (.int .i64 ((vf r : Int) + 1))) (w.heap.size + 1) 69 (cdC (vtR (cs.take (k + 1)) i))) := by
              show At _ _ _ _
              rw [← HNX.out, ← cdC_set vf r hr6]
              exact g2.set (r * 2 + 1) _
            have HB : Hid (Below w.heap.size w (wr.setCell ⟨w.heap.size + 1, r * 2 + 1, none⟩ (.int .i64 ((vf r : Int) + 1)))) := Below.setCell hb (by simp) _
            clear g1 g2 hb hst hle hce hex hget hm
            obtain ⟨wn, HWN⟩ : ∃ wn, Hid (wr.setCell ⟨w.heap.size + 1, r * 2 + 1, none⟩ (.int .i64 ((vf r : Int) + 1)) = wn) := ⟨_, rfl⟩
            rw [HWN.out] at G1 G2 HB
            obtain ⟨vr, hvr⟩ : ∃ vr : Nat, vr = vf r := ⟨_, rfl⟩
            rw [← hvr] at cc hv0 hv1 hv5 HWN
            clear hvr
            rcases hcs with rfl | rfl | rfl | rfl | rfl | rfl
            all_goals
              go_wp2_with (go_at_call 51; refine (HP.out _).mono ?_; rintro e w' ⟨rfl, rfl⟩)
              go_roundw
              case rel => exact ⟨k + 1, by omega, by go_num, by have h := G1.out; rw [← HWN.out] at h; exact h, by have h := G2.out; rw [← HWN.out] at h; exact h, by have h := HB.out; rw [← HWN.out] at h; exact h⟩
              case measure => simp [RowKit.intOf]; omega
          · have HP : Hid (∀ W, Calls Tryz.prog 51 #[.string ⟨#[97, 98, 99, 100, 101, 102]⟩, .string (q.extract i (i + 1))] W fun e w' => e = .returned (.tuple #[.int .i64 0, .bool false]) ∧ W = w') := fun W => by
              rw [hex]
              exact HPN.out ⟨#[c]⟩ (fun d hd hmm => hm (by have := ch_inj (c := c) (d := d) hd; rw [this]; exact hmm)) W
            have HNX : Hid (cdC (vtR (cs.take k) i) = cdC (vtR (cs.take (k + 1)) i)) := cdC_congr fun j hj => by
              rw [hst j, hex, if_neg (fun e2 => hm (by rw [ch_inj e2]; exact reg_mem j hj)), Nat.add_zero]
            rw [HNX.out] at g2
            have HG := Lib.hid (And.intro g1 (And.intro g2 hb))
            clear g1 g2 hst hle hex hm
            go_wp2_with (go_at_call 51; refine (HP.out _).mono ?_; rintro e w' ⟨rfl, rfl⟩)
            go_roundw
            case rel => exact ⟨k + 1, by omega, by go_num, HG.out.1, HG.out.2.1, HG.out.2.2⟩
            case measure => simp [RowKit.intOf]; omega
        · have hk' : k = cs.length := by omega
          subst hk'
          rw [HF.out] at g2
          have j1 : ¬ (cs.length : Int) < (cs.length : Int) := by omega
          clear hcell HG
          generalize hvf : vtR cs i = vf at *
          have HVF := Lib.hid hvf
          clear hvf
          go_wp2_with (first | (refine ld_row rfl 69 (.tmp 5) rfl (w.heap.size + 1) 69 (cdC vf) g2 (by rfl) 6 67 Tryz.underlying69 (by kernel_rfl) ?_) | (refine st_row rfl 69 (.tmp 4) (.tmp 46) rfl rfl w.heap.size 69 (cd1 0) (cdC vf) g1 (by rfl) (by rfl) (by kernel_rfl) rfl (cdC_all vf) ?_; intro W5 k5 g5; refine held ?_))
          unfold Held
          have hB5 := hb.trans (below_grown g5 (B := w.heap.size) hb.size (fun g e => by cases e; omega))
          go_wp2
          refine bodyPost_ret (v := .agg (cdC vf)) (results_row1 Tryz.results37 _ _ w.heap.size 69 (cdC vf) (by rfl) k5 6 67 Tryz.underlying69 (by kernel_rfl)) rfl ⟨by rw [HVF.out], hB5⟩
end Go.Proofs.YthgcoocgeekdnaaGreatDoor
namespace Go.Proofs.YthgcoocgeekdnaaGreatDoor
open Go.RowKit Go.PM Go.PD Go.PF Go.Lib Go.Sort
attribute [local go_sem] Oper.semAt_some
def ins_ren : Go.Shelf.Ren := ⟨fun | 20 => 62 | n => n, fun | 24 => 67 | 22 => 72 | 3 => 3 | 25 => 73 | 4 => 4 | 0 => 0 | n => n, fun | n => n⟩
theorem ins20 : Go.Proofs.SlLaysF0.n20 Tryz.prog ins_ren := {
  mixed := by kernel_rfl
  f20 := ⟨Tryz.f62.name, by decide, Tryz.func62.trans (congrArg some (by kernel_rfl))⟩
  t0 := Tryz.underlying0
  a0 := Tryz.isAgg0
  z0 := Tryz.sizeOf0
  v0 := Tryz.zeroValue0
  t3 := Tryz.underlying3
  a3 := Tryz.isAgg3
  z3 := Tryz.sizeOf3
  v3 := Tryz.zeroValue3
  t4 := Tryz.underlying4
  a4 := Tryz.isAgg4
  z4 := Tryz.sizeOf4
  v4 := Tryz.zeroValue4
  t22 := Tryz.underlying72
  a22 := Tryz.isAgg72
  z22 := Tryz.sizeOf72
  v22 := Tryz.zeroValue72
  t25 := Tryz.underlying73
  a25 := Tryz.isAgg73
  z25 := Tryz.sizeOf73
  v25 := Tryz.zeroValue73 }
/-- a candidate's cells -/
def encV (x : Cd) : List Value := [.string ⟨#[regsL.getD x.1 0]⟩, .int .i64 (x.2 : Nat)]
theorem cfV_cmp (x y : Cd) : compareInt (y.2 : Nat) (x.2 : Nat) = cfV x y := by
  unfold compareInt cfV
  by_cases h : y.2 < x.2
  · rw [if_pos (by omega), if_pos h]
  · rw [if_neg (by omega), if_neg h]
    by_cases h2 : x.2 < y.2
    · rw [if_pos (by omega), if_pos h2]
    · rw [if_neg (by omega), if_neg h2]
set_option maxHeartbeats 1000000 in
theorem byMost_c (x y : Cd) (W : World) : Calls Tryz.prog 39 #[.agg (encV x).toArray, .agg (encV y).toArray] W fun e w' => e = .returned (.int .i64 (cfV x y)) ∧ ∃ q os', w' = grow (W.drewN q) os' := by
  have hcon := fun W' => Tryz.cmp_Compare_int (y.2 : Nat) (x.2 : Nat) W'
  rw [cfV_cmp] at hcon
  generalize cfV x y = r at hcon ⊢
  change Calls Tryz.prog _ #[.agg #[.string ⟨#[regsL.getD x.1 0]⟩, .int .i64 (x.2 : Nat)], .agg #[.string ⟨#[regsL.getD y.1 0]⟩, .int .i64 (y.2 : Nat)]] W _
  generalize (⟨#[regsL.getD x.1 0]⟩ : ByteArray) = s1
  generalize (⟨#[regsL.getD y.1 0]⟩ : ByteArray) = s2
  go_enter Tryz.func39, Tryz.ntmps39
  go_wp2_with (go_at_call 53; refine (hcon _).mono ?_; rintro e w' ⟨rfl, rfl⟩)
  go_ret
  exact ⟨rfl, 0, _, by rw [alloc_eq_grow, alloc_eq_grow, grow_grow]; rfl⟩
theorem cmpLays (blk off size : Nat) (w : World) : CmpLays Tryz.prog 39 #[] encV 2 cfV blk off size w := fun _ _ _ _ x y => byMost_c x y _
theorem insert_c (blk cap : Nat) (d : Array Cd) (hd : d.size = 6) (w : World) (hH : HoldsK encV 2 w blk 0 d) (hb : blk < w.heap.size) :
    Calls Tryz.prog 62 #[.slice (some ⟨blk, 0, none⟩) 6 cap, .int .i64 0, .int .i64 6, .func (.func 39) #[] #[]] w fun e w' => e = .returned (.tuple #[]) ∧ ∃ n os, w' = sortWorldK encV 2 w blk 0 n (insertionSort ltV d 0 6) os := by
  have h := AnyQ.insertionSortCmpFunc ins20 2 Tryz.isAgg67 Tryz.sizeOf67 encV (fun _ => rfl) (fun x v hv => by simp [encV] at hv; rcases hv with rfl | rfl <;> rfl) cfV 39 #[] blk 0 cap 0 6 d w (enters_of Tryz.func39 (by kernel_rfl) rfl) (cmpLays blk 0 d.size w) hH hb (by omega) (by omega) (by omega)
  rw [hd] at h
  exact h
set_option maxHeartbeats 1000000 in
theorem stable_c (blk cap : Nat) (d : Array Cd) (hd : d.size = 6) (w : World) (hH : HoldsK encV 2 w blk 0 d) (hb : blk < w.heap.size) :
    Calls Tryz.prog 52 #[.slice (some ⟨blk, 0, none⟩) 6 cap, .int .i64 6, .func (.func 39) #[] #[]] w fun e w' => e = .returned (.tuple #[]) ∧ ∃ n os, w' = sortWorldK encV 2 w blk 0 n (insertionSort ltV d 0 6) os := by
  have hi := Lib.hid (insert_c blk cap d hd w hH hb)
  clear hH
  generalize insertionSort ltV d 0 6 = r at *
  go_enter Tryz.func52, Tryz.ntmps52
  go_wp2
  refine wp_loop_rounds 1 ?_
  rw [rounds_succ]
  go_wp2_with (go_at_call 62; refine hi.out.mono ?_; rintro e w' ⟨rfl, n, os, rfl⟩)
  refine wp_loop_rounds 1 ?_
  rw [rounds_succ]
  go_wp2
  go_end0
  exact ⟨rfl, n, os, rfl⟩
set_option maxHeartbeats 1000000 in
theorem sort_c (blk cap : Nat) (d : Array Cd) (hd : d.size = 6) (w : World) (hH : HoldsK encV 2 w blk 0 d) (hb : blk < w.heap.size) :
    Calls Tryz.prog 38 #[.slice (some ⟨blk, 0, none⟩) 6 cap, .func (.func 39) #[] #[]] w fun e w' => e = .returned (.tuple #[]) ∧ ∃ n os, w' = sortWorldK encV 2 w blk 0 n (insertionSort ltV d 0 6) os := by
  have hi := Lib.hid (stable_c blk cap d hd w hH hb)
  clear hH
  generalize insertionSort ltV d 0 6 = r at *
  go_enter Tryz.func38, Tryz.ntmps38
  go_wp2_with (go_at_call 52; refine hi.out.mono ?_; rintro e w' ⟨rfl, n, os, rfl⟩)
  go_end0
  exact ⟨rfl, n, os, rfl⟩
/-- what a row of candidates holds, cell by cell -/
theorem flat_at (d : Array Cd) (hd : d.size = 6) (k : Nat) (hk : k < 6) : (flatK encV 2 d)[k * 2]? = some (.string ⟨#[regsL.getD d[k]!.1 0]⟩) ∧ (flatK encV 2 d)[k * 2 + 1]? = some (.int .i64 (d[k]!.2 : Nat)) := by
  have hs : (flatK encV 2 d).size = 12 := by rw [size_flatK, hd]
  have g := get_flatK encV 2 d
  rw [hd] at g
  constructor
  · have := g (k * 2) (by omega)
    rw [getElem!_pos _ _ (by rw [hs]; omega)] at this
    rw [Array.getElem?_eq_getElem (by rw [hs]; omega), this, Nat.mul_div_cancel k (by decide), Nat.mul_mod_left]
    rfl
  · have := g (k * 2 + 1) (by omega)
    rw [getElem!_pos _ _ (by rw [hs]; omega)] at this
    rw [Array.getElem?_eq_getElem (by rw [hs]; omega), this, show (k * 2 + 1) / 2 = k by omega, show (k * 2 + 1) % 2 = 1 by omega]
    rfl
theorem flat_cds (v : Nat → Nat) : flatK encV 2 (cds v) = cdC v := by
  have hs := cds_size v
  have h : ∀ k, k < 6 → _ := fun k hk => flat_at (cds v) hs k hk
  have e : ∀ k, k < 6 → (cds v)[k]! = (k, v k) := fun k hk => cds_at v k hk
  apply Array.ext_getElem?
  intro i
  by_cases hi : i < 12
  · have h0 := h 0 (by decide); have h1 := h 1 (by decide); have h2 := h 2 (by decide); have h3 := h 3 (by decide); have h4 := h 4 (by decide); have h5 := h 5 (by decide)
    rw [e 0 (by decide)] at h0; rw [e 1 (by decide)] at h1; rw [e 2 (by decide)] at h2; rw [e 3 (by decide)] at h3; rw [e 4 (by decide)] at h4; rw [e 5 (by decide)] at h5
    have hcs : i = 0 ∨ i = 1 ∨ i = 2 ∨ i = 3 ∨ i = 4 ∨ i = 5 ∨ i = 6 ∨ i = 7 ∨ i = 8 ∨ i = 9 ∨ i = 10 ∨ i = 11 := by omega
    rcases hcs with rfl | rfl | rfl | rfl | rfl | rfl | rfl | rfl | rfl | rfl | rfl | rfl
    · exact h0.1
    · exact h0.2
    · exact h1.1
    · exact h1.2
    · exact h2.1
    · exact h2.2
    · exact h3.1
    · exact h3.2
    · exact h4.1
    · exact h4.2
    · exact h5.1
    · exact h5.2
  · rw [Array.getElem?_eq_none (by rw [size_flatK, hs]; omega), Array.getElem?_eq_none (by show 12 ≤ i; omega)]
theorem holds_of_at {w : World} {b : Nat} {t : TypeId} (d : Array Cd) (h : At w b t (flatK encV 2 d)) : HoldsK encV 2 w b 0 d := fun j hj => by
  rw [Nat.zero_add]
  refine ⟨?_, h.frozen j⟩
  rw [h.cell j, Array.getElem?_eq_getElem hj, getElem!_pos _ j hj]; rfl
theorem sorted_at {w : World} {b n : Nat} {t : TypeId} {cs : Array Value} {d : Array Cd} {os : Array Obj} (h : At w b t cs) (hs : d.size * 2 = cs.size) :
    At (sortWorldK encV 2 w b 0 n d os) b t (flatK encV 2 d) ∧ w.grownBy (sortWorldK encV 2 w b 0 n d os) (some b) := by
  have hlt := h.lt
  have hp : (putRowK encV 2 (Sort.ahead w n) b 0 d).heap = w.heap.modify b (onCells (putCells id 0 (flatK encV 2 d))) := rfl
  have hz : (putRowK encV 2 (Sort.ahead w n) b 0 d).heap.size = w.heap.size := by rw [hp, Array.size_modify]
  constructor
  · unfold At at h ⊢
    unfold sortWorldK
    rw [heap_grow_old _ _ (by rw [hz]; exact hlt), hp, Array.getElem?_modify, if_pos rfl, h]
    show some (Obj.cells (putCells id 0 (flatK encV 2 d) cs) t (0, 0)) = _
    congr 2
    unfold putCells
    apply Array.ext
    · rw [Array.size_mapIdx, size_flatK]; exact hs.symm
    · intro i h1 h2
      rw [Array.getElem_mapIdx, if_pos ⟨Nat.zero_le _, by rw [Nat.zero_add]; exact h2⟩, Nat.sub_zero, getElem!_pos _ i h2]
      rfl
  · refine ⟨rfl, rfl, rfl, ?_, fun k hk hne => ?_⟩
    · unfold sortWorldK; rw [size_grow, hz]; omega
    · unfold sortWorldK
      rw [heap_grow_old _ _ (by rw [hz]; exact hk), hp, Array.getElem?_modify, if_neg (fun e => hne (by rw [e]))]
end Go.Proofs.YthgcoocgeekdnaaGreatDoor
namespace Go.Proofs.YthgcoocgeekdnaaGreatDoor
open Go.RowKit Go.PM Go.PD Go.PF Go.Lib
attribute [local go_sem] Oper.semAt_some
set_option maxHeartbeats 1000000 in
theorem elected1_c (taken : ByteArray) (c : UInt8) (z : Int) (b : Nat) (W : World) (hc : W.cell? ⟨b, 0, none⟩ = some (.string taken)) (hb : b < W.heap.size) :
    Calls Tryz.prog 41 #[.agg #[.string ⟨#[c]⟩, .int .i64 z], .pointer (some ⟨b, 0, none⟩)] W fun e w' => e = .returned (.bool (decide (c ∉ taken.data.toList))) ∧ Below W.heap.size W w' := by
  have HC : Hid (∀ V : World, Calls Tryz.prog 42 #[.string taken, .string ⟨#[c]⟩] V fun e w' => e = .returned (.bool (decide (c ∈ taken.data.toList))) ∧ V = w') := fun V =>
    (Tryz.strings_Contains_one taken c V).mono fun _ _ ⟨e1, e2⟩ => ⟨by rw [e1]; congr 2; simp only [indexByte_mem], e2.symm⟩
  have HO : Hid (decide (c ∉ taken.data.toList) = !decide (c ∈ taken.data.toList)) := by show _ = _; simp
  rw [HO.out]
  generalize decide (c ∈ taken.data.toList) = r at *
  clear HO
  generalize (⟨#[c]⟩ : ByteArray) = s at *
  go_enter Tryz.func41, Tryz.ntmps41
  go_wp2_with (go_at_call 42; refine (HC.out _).mono ?_; rintro e w' ⟨rfl, rfl⟩)
  go_ret
  exact ⟨rfl, (Below.refl _ _).alloc (Nat.le_refl _) _⟩
set_option maxRecDepth 100000 in
set_option maxHeartbeats 3200000 in
theorem candIndex_c (taken : ByteArray) (bt blk cap : Nat) (d : Array Cd) (hd : d.size = 6) (p : Nat) (hp : p < 6) (hfp : frR taken.data.toList d[p]!.1 = true) (hlow : ∀ q, q < p → frR taken.data.toList d[q]!.1 = false)
    (w : World) (hA : At w blk 69 (Sort.flatK encV 2 d)) (hT : At w bt 9 #[.string taken]) :
    Calls Tryz.prog 40 #[.slice (some ⟨blk, 0, none⟩) 6 cap, .func (.func 41) #[] #[.pointer (some ⟨bt, 0, none⟩)]] w fun e w' => e = .returned (.int .i64 (p : Nat)) ∧ Below w.heap.size w w' := by
  have HF := Lib.hid (fun k hk => flat_at d hd k hk)
  have HE := Lib.hid (fun c z W hc hb => elected1_c taken c z bt W hc hb)
  have HFR : Hid (∀ k, frR taken.data.toList k = decide (regsL.getD k 0 ∉ taken.data.toList)) := fun k => rfl
  have hbl := hA.lt
  have hbt := hT.lt
  have HL := Lib.hid hlow
  have HP := Lib.hid hfp
  clear hlow hfp
  go_enter Tryz.func40, Tryz.ntmps40
  go_wp2
  go_loopw [5, 8] (fun _ i wr => ∃ (k : Nat), k ≤ p ∧ i = .int .i64 k ∧ Below w.heap.size w wr) (fun _ i _ => 6 - (RowKit.intOf i).toNat)
  case atStart => exact ⟨0, by omega, rfl, Below.refl _ _⟩
  case round =>
    obtain ⟨k, hk, rfl, hb⟩ := hrel
    have hk6 : k < 6 := by omega
    have hbs := hb.size
    have hA2 := hA.keep hb
    have hT2 := hT.keep hb
    have d1 := (hA2.cell (k * 2)).trans (HF.out k hk6).1
    have d2 := (hA2.cell (k * 2 + 1)).trans (HF.out k hk6).2
    have d3 : wr.cell? ⟨bt, 0, none⟩ = some (.string taken) := hT2.cell 0
    have l1 := hA2.lt
    have l2 := hT2.lt
    have i0 : (0 : Int) ≤ (k : Int) := by omega
    have i1 : (k : Int) < 6 := by omega
    have HEK := Lib.hid (HE.out (regsL.getD d[k]!.1 0) (d[k]!.2 : Nat) wr d3 l2)
    rw [← HFR.out] at HEK
    have HLK := Lib.hid (HL.out k)
    have HPK : Hid (k = p → frR taken.data.toList d[k]!.1 = true) := fun e => by rw [e]; exact HP.out
    clear hA2 hT2 d3
    generalize frR taken.data.toList d[k]!.1 = fr at *
    generalize (d[k]!.2 : Nat) = z at *
    generalize regsL.getD d[k]!.1 0 = c at *
    cases fr with
    | true =>
      have hkp : Hid (k = p) := by
        show k = p
        by_cases e : k = p
        · exact e
        · have := HLK.out (by omega); cases this
      go_wp2_with fail
      refine HEK.out.mono ?_
      rintro e w2 ⟨rfl, hb2⟩
      have hbw := hb.trans (hb2.mono hbs)
      go_wp2
      go_ret
      exact ⟨by rw [hkp.out]; rfl, hbw⟩
    | false =>
      have hkp : k ≠ p := fun e => by have := HPK.out e; cases this
      go_wp2_with fail
      refine HEK.out.mono ?_
      rintro e w2 ⟨rfl, hb2⟩
      have hbw := hb.trans (hb2.mono hbs)
      go_wp2
      go_roundw
      case rel => exact ⟨k + 1, by omega, by go_num, hbw⟩
      case measure => simp [RowKit.intOf]; omega
set_option maxRecDepth 100000 in
set_option maxHeartbeats 3200000 in
theorem elected_c (cs : List ByteArray) (i : Nat) (hi : ∀ c ∈ cs, i < c.size) (h5 : cs.length ≤ 5) (hi4 : i ≤ 4) (taken : ByteArray) (ht : taken.size ≤ 5) (v : Value) (w : World) (hx : RdT w v cs) :
    Calls Tryz.prog 23 #[v, .int .i64 (i : Int), .string taken] w fun e w' => e = .returned (.string ⟨(grK cs i taken.data.toList 6).toArray⟩) ∧ Below w.heap.size w w' := by
  obtain ⟨A, cap, rfl, _, _, _⟩ := id hx.open
  obtain ⟨p, hp, hfp, hlow⟩ := elect_some (vtR cs i) taken.data.toList (by rw [size_data]; exact ht)
  have HEL := Lib.hid (elect_is cs i taken.data.toList hp hfp hlow)
  obtain ⟨hs6, _, _⟩ := srtV_spec (vtR cs i)
  have B0 : Below w.heap.size w (w.alloc (.cells #[.string taken] 9)) := (Below.refl _ _).alloc (Nat.le_refl _) _
  have t0 : At (w.alloc (.cells #[.string taken] 9)) w.heap.size 9 #[.string taken] := At.new _ _ _
  have HCA := Lib.hid (candidatesAt_c cs i hi h5 hi4 (.slice A cs.length cap) _ (hx.below B0))
  have HSC := Lib.hid (fun b W hH hb => sort_c b 6 (cds (vtR cs i)) (cds_size _) W hH hb)
  have HIX := Lib.hid (fun b W hA hT => candIndex_c taken w.heap.size b 6 (srtV (vtR cs i)) hs6 p hp hfp hlow W hA hT)
  rw [show Sort.insertionSort ltV (cds (vtR cs i)) 0 6 = srtV (vtR cs i) from rfl] at HSC
  have HFC : Hid (Sort.flatK encV 2 (cds (vtR cs i)) = cdC (vtR cs i)) := flat_cds _
  have HFL := Lib.hid (flat_at (srtV (vtR cs i)) hs6 p hp)
  have HSZ : Hid ((srtV (vtR cs i)).size * 2 = (cdC (vtR cs i)).size) := by show _ = _; rw [hs6]; rfl
  have HALL := Lib.hid (cdC_all (vtR cs i))
  have HZS : Hid ((cdC (vtR cs i)).size = 12) := rfl
  rw [HEL.out]
  clear hx hi hfp hlow HEL hs6
  go_enter Tryz.func23, Tryz.ntmps23
  go_wp2_with fail
  refine HCA.out.mono ?_
  rintro e w1 ⟨rfl, hb1⟩
  have t1 := t0.keep hb1
  have B1 := B0.trans (hb1.mono B0.size)
  have s1 := B1.size
  have q1 : At (w1.alloc (.cells (cd1 0) 69)) w1.heap.size 69 (cd1 0) := At.new _ _ _
  have B2 : Below w.heap.size w (w1.alloc (.cells (cd1 0) 69)) := B1.alloc s1 _
  have t2 := t1.alloc (.cells (cd1 0) 69)
  have lt2 := t2.lt
  have hz2 : (w1.alloc (.cells (cd1 0) 69)).heap.size = w1.heap.size + 1 := World.size_alloc _ _
  have lw1 := t1.lt
  clear t0 t1 B0 B1 hb1 HCA
  generalize hvf : vtR cs i = vf at *
  have HVF := Lib.hid hvf
  clear hvf
  have HZ2 := Lib.hid hz2
  clear hz2
  go_wp2_with (refine st_row rfl 69 (.tmp 7) (.tmp 11) rfl rfl w1.heap.size 69 (cd1 0) (cdC vf) q1 (by rfl) (by rfl) (by kernel_rfl) rfl HALL.out ?_; intro W5 k5 g5; refine held ?_)
  unfold Held
  have B5 := B2.trans (below_grown g5 (B := w.heap.size) B2.size (fun g e => by cases e; exact s1))
  have t5 : At W5 w.heap.size 9 #[.string taken] := t2.grown g5 (fun e => by have := Option.some.inj e; omega)
  have HHK := Lib.hid (HSC.out w1.heap.size W5 (holds_of_at _ (by rw [HFC.out]; exact k5)) k5.lt)
  have HK5 := Lib.hid k5
  have HT5 := Lib.hid t5
  have HB5 := Lib.hid B5
  have HG5 := Lib.hid g5
  have l5 := k5.lt
  clear q1 B2 t2 lt2 HSC k5 t5 B5 g5
  go_wp2_with fail
  refine HHK.out.mono ?_
  rintro e w6 ⟨rfl, n6, os6, hw6⟩
  obtain ⟨k6, g6⟩ := sorted_at (n := n6) (os := os6) (d := srtV vf) HK5.out HSZ.out
  rw [← hw6] at k6 g6
  clear hw6
  have B6 := HB5.out.trans (below_grown g6 (B := w.heap.size) HB5.out.size (fun g e => by cases e; exact s1))
  have t6 : At w6 w.heap.size 9 #[.string taken] := HT5.out.grown g6 (fun e => by have := Option.some.inj e; omega)
  have HXX := Lib.hid (HIX.out w1.heap.size w6 k6 t6)
  have HK6 := Lib.hid k6
  have HB6 := Lib.hid B6
  have l6 := k6.lt
  clear k6 g6 B6 t6 HIX HHK HK5 HT5
  go_wp2_with fail
  refine HXX.out.mono ?_
  rintro e w7 ⟨rfl, hb7⟩
  have k7 := HK6.out.keep hb7
  have B7 := HB6.out.trans (hb7.mono HB6.out.size)
  have l7 := k7.lt
  have c7 := (k7.cell (p * 2)).trans HFL.out.1
  have p0 : (0 : Int) ≤ (p : Int) := by omega
  have p1 : (p : Int) < 6 := by omega
  have HB7 := Lib.hid B7
  clear k7 B7 hb7 HK6 HB6 HXX
  generalize hcc : regsL.getD (srtV vf)[p]!.1 0 = c at *
  have HCC := Lib.hid hcc
  clear hcc
  go_wp2
  go_ret
  exact ⟨by rw [HVF.out, HCC.out]; rfl, HB7.out⟩
set_option maxRecDepth 100000 in
set_option maxHeartbeats 3200000 in
theorem imGreedyParams_c (n : Int) (cs : List ByteArray) (v : Value) (w : World) (hT : U8w w) (hx : RdT w v cs) (hz : ∀ c ∈ cs, c.size ≤ 1048576) (hn' : cs.length ≤ 1048576) :
    Calls Tryz.prog 9 #[.int .i64 n, v] w fun e w' => e = .returned (.tuple #[.string (gpB n cs), .bool (csOk n cs)]) ∧ Below w.heap.size w w' := by
  have HV := Lib.hid (imCallsValid_c n cs v w hT hx hz hn')
  obtain ⟨A, cap, rfl, _, _, _⟩ := id hx.open
  rcases Bool.eq_false_or_eq_true (csOk n cs) with h2 | h2
  · obtain ⟨h1, h4, h5, _⟩ := cs_at h2
    have hs := cs_size h2
    obtain ⟨m, rfl⟩ := Int.eq_ofNat_of_zero_le (show (0 : Int) ≤ n by omega)
    have HE := Lib.hid (fun i (hi : i < m) tk htk W (hW : Below w.heap.size w W) => elected_c cs i (fun c hc => by have := hs c hc; omega) h5 (by omega) tk htk (.slice A cs.length cap) W (hx.below hW))
    have HO : Hid (gpB (m : Int) cs = gB cs m) := by show _ = _; unfold gpB; rw [h2]; rfl
    have HG : Hid (∀ i, gB cs (i + 1) = gB cs i ++ ⟨(grK cs i (grF cs i) 6).toArray⟩) := fun i => by
      unfold gB
      show (⟨(grF cs i ++ grK cs i (grF cs i) 6).toArray⟩ : ByteArray) = _
      apply ByteArray.ext
      rw [ByteArray.data_append]; simp
    have HL : Hid (∀ i, (gB cs i).data.toList = grF cs i) := fun i => by simp [gB]
    have HZ : Hid (∀ i, (gB cs i).size ≤ i) := fun i => by
      have := grF_len cs i
      show (grF cs i).toArray.size ≤ i
      rw [List.size_toArray]; exact this
    have HZK : Hid (∀ i, (⟨(grK cs i (grF cs i) 6).toArray⟩ : ByteArray).size ≤ 1) := fun i => by
      have := grK_len cs i (grF cs i) 6
      show (grK cs i (grF cs i) 6).toArray.size ≤ 1
      rw [List.size_toArray]; exact this
    have H0 : Hid (gB cs 0 = ⟨#[]⟩) := rfl
    rw [h2] at HV ⊢
    have hm4 : m ≤ 4 := by omega
    clear hx hz h1 h2 hs hT h4
    go_enter Tryz.func9, Tryz.ntmps9
    go_wp2_with fail
    refine HV.out.mono ?_
    rintro e w1 ⟨rfl, b1⟩
    go_wp2
    go_loopw [6, 7, 13] (fun o _ i' wr => ∃ (i : Nat), i ≤ m ∧ i' = .int .i64 i ∧ o = .string (gB cs i) ∧ Below w.heap.size w wr) (fun _ _ i' _ => m - (RowKit.intOf i').toNat)
    case atStart => exact ⟨0, by omega, rfl, by rw [H0.out], b1⟩
    case round =>
      obtain ⟨i, hi, rfl, rfl, hb⟩ := hrel
      have hbs := hb.size
      by_cases hlt : i < m
      · have i0 : (0 : Int) ≤ (i : Int) := by omega
        have i1 : (i : Int) < (m : Int) := by omega
        have hzi := HZ.out i
        have hzk := HZK.out i
        have HEI := Lib.hid (HE.out i hlt (gB cs i) (by omega) wr hb)
        rw [HL.out i] at HEI
        have hg := HG.out i
        obtain ⟨nx, HNX⟩ : ∃ nx, Hid (gB cs (i + 1) = nx) := ⟨_, rfl⟩
        rw [HNX.out] at hg
        generalize (⟨(grK cs i (grF cs i) 6).toArray⟩ : ByteArray) = kk at *
        generalize gB cs i = gg at *
        have HGG := Lib.hid hg
        clear hg
        go_wp2_with fail
        refine HEI.out.mono ?_
        rintro e w2 ⟨rfl, hb2⟩
        have hbw := hb.trans (hb2.mono hbs)
        go_wp2
        go_roundw
        case rel => exact ⟨i + 1, by omega, by go_num, by rw [HNX.out, HGG.out], hbw⟩
        case measure => simp [RowKit.intOf]; omega
      · have HIM : Hid (i = m) := by show _ = _; omega
        have i1 : ¬ (i : Int) < (m : Int) := by omega
        go_wp2
        go_ret2
        exact ⟨by rw [HO.out, HIM.out]; rfl, hb⟩
  · have HO : Hid (gpB n cs = ⟨#[]⟩) := by show _ = _; unfold gpB; rw [h2]; rfl
    rw [h2] at HV ⊢
    clear hx hz h2 hT
    generalize gpB n cs = g at *
    go_enter Tryz.func9, Tryz.ntmps9
    go_wp2_with fail
    refine HV.out.mono ?_
    rintro e w1 ⟨rfl, b1⟩
    go_wp2
    go_ret2
    exact ⟨by rw [HO.out]; rfl, b1⟩
end Go.Proofs.YthgcoocgeekdnaaGreatDoor
namespace Go.Proofs.YthgcoocgeekdnaaGreatDoor
open Go.RowKit Go.PM Go.ChangeShapes Go.WideShapes
abbrev laidL : List (String × DataW Unit) := [("unicode/utf8.acceptRanges", Rows.laid_unicode_utf8_acceptRanges), ("unicode/utf8.first", Rows.laid_unicode_utf8_first)]
set_option maxRecDepth 100000 in
theorem accept_eq : (Rows.laid_unicode_utf8_acceptRanges : DataW Unit) = Lib.acceptData := by kernel_rfl
set_option maxRecDepth 100000 in
theorem first_eq : Rows.laid_unicode_utf8_first = Lib.firstData := by kernel_rfl
theorem u8_types : Go.Proofs.U8Types Tryz.prog u8ren := U8Types.of260 u8lays
set_option maxRecDepth 100000 in
theorem u8_extra : Go.Proofs.U8Extra Tryz.prog u8ren := ⟨by kernel_rfl, by kernel_rfl, by kernel_rfl, by kernel_rfl, by kernel_rfl, by kernel_rfl, by kernel_rfl⟩
theorem u8_of_laid {W : World} (h : laidMetH Tryz.prog laidL W) : U8w W := by
  have h' : laidMet Tryz.prog [("unicode/utf8.acceptRanges", Rows.laid_unicode_utf8_acceptRanges), ("unicode/utf8.first", Rows.laid_unicode_utf8_first)] W := h
  rw [accept_eq, first_eq] at h'
  exact utf8Tabs_of_readsT u8_types u8_extra (Lib.laidMet.reads h' (.tail _ (.head _))) (Lib.laidMet.reads h' (.head _))
noncomputable def laidWorld (os : Os) : World :=
  let w0 := World.holding Tryz.prog os ⟨#[], #[], []⟩
  { w0 with heap := (w0.heap.modify 1 fun
      | .cells _ t frozen => .cells (Lib.firstTab.map fun z => Value.int .u8 z).toArray t frozen
      | o => o).modify 2 fun
      | .cells _ t frozen => .cells ((List.range 16).flatMap fun i => [Value.int .u8 (Lib.accLo i), Value.int .u8 (Lib.accHi i)]).toArray t frozen
      | o => o }
set_option maxRecDepth 100000 in
theorem laidWorld_met (os : Os) (args : Array Value) : laidMetH Tryz.prog laidL ((laidWorld os).forCall (fun _ _ => 0) ⟨#[], args, []⟩).memory := by
  show laidMet Tryz.prog laidL _
  exact laidMet_of_run' 8 (by kernel_rfl) (by kernel_rfl)
end Go.Proofs.YthgcoocgeekdnaaGreatDoor
