import Derived.Test.YtogkodjlbdlgjaaGreatLawFDirectJB
import Derived.Test.YtogkodjlbdlgjaaGreatTail
import Derived.Test.YtogkodjlbdlgjaaGreatNames
import Derived.Test.YtogkodjlbdlgjaaGreatNamesIn
import Derived.Test.YtogkodjlbdlgjaaGreatSource
import Derived.Test.YtogkodjlbdlgjaaGreatApp
import Derived.Test.YtogkodjlbdlgjaaGreatRange
import Derived.Test.YtogkodjlbdlgjaaGreatRow
import Derived.Test.YtogkodjlbdlgjaaGreatRows
import Derived.Test.YtogkodjlbdlgjaaGreatLib
import Derived.ProofKit
import Derived.OpenShut
import Derived.ShutString
import Derived.ChangeOld
import Derived.Deep.Slices
import Derived.ChangeSame
import Derived.Carry
import Derived.Test.YtogkodjlbdlgjaaGreatDraw
import Derived.Test.YtogkodjlbdlgjaaGreatLawFDirectJA
import Derived.Test.YtogkodjlbdlgjaaGreatDraw3
import Derived.Test.YtogkodjlbdlgjaaGreatHar
import Derived.Test.YtogkodjlbdlgjaaGreatMark
import Derived.Test.YtogkodjlbdlgjaaGreatCut
import Derived.Test.YtogkodjlbdlgjaaGreatHold
import Derived.Deep.AppendLies
import Derived.Scope
import Derived.WalkMore
namespace Go.Proofs.YtogkodjlbdlgjaaGreat
open Go.RowKit Go.PM Go.PW Go.Lib

set_option maxRecDepth 100000 in
set_option maxHeartbeats 1000000 in
theorem wayBack_c (b : Nat) (nx : Nat → Option Nat) (hn : Nice nx) (s : Nat) (hs : s < 19) (w : World) (hS : Spots w b nx) :
    Calls Tryz.prog 92 #[spotV b (some s)] w fun e w' => e = .returned (.string (txt (way nx s))) ∧ Below w.heap.size w w' := by
  have HZ : Hid (way nx s = wayF nx 20 [] (some s)) := rfl
  have HO := Lib.hid (show ∀ k, orb nx s (k + 1) = (orb nx s k).bind nx from fun _ => rfl)
  have HSN := Lib.hid (fun acc i (h : Acc nx s acc) (hi : orb nx s acc.length = some i) hm => h.snoc hn hs hi hm)
  have HST := Lib.hid (fun n acc i (hm : i ∉ acc) => wayF_step (nx := nx) (n := n) hm)
  have HHT := Lib.hid (fun n acc i (hm : i ∈ acc) => wayF_hit (nx := nx) (n := n) hm)
  have HNO := Lib.hid (fun n acc => wayF_none (nx := nx) (n := n) (acc := acc))
  have HL := Lib.hid (fun k i (h : orb nx s k = some i) => orb_lt hn hs k i h)
  have HAN := Lib.hid (Acc.nil (nx := nx) s)
  have HORB0 : Hid (orb nx s 0 = some s) := rfl
  have hbl := hS.lt
  have hcon : ∀ (t : ByteArray) c (W : World), Calls Tryz.prog 41 #[.string t, .string ⟨#[c]⟩] W fun e w' => e = .returned (.bool (decide (c ∈ t.data.toList))) ∧ W = w' := fun t c W =>
    (Tryz.strings_Contains_one t c W).mono fun _ _ ⟨e1, e2⟩ => ⟨by
      rw [e1]; congr 2; simp only [indexByte_mem], e2.symm⟩
  have HC := Lib.hid hcon
  clear hcon hn
  change Calls Tryz.prog _ #[.pointer (some ⟨b, s * 2, none⟩)] w _
  go_enter Tryz.func92, Tryz.ntmps92
  go_wp2
  go_loopw [3, 4] (fun o x wr => ∃ (acc : List Nat) (n : Nat) (c : Option Nat), o = .string (txt acc) ∧ x = spotV b c ∧ acc.length + n = 20 ∧ Hid (Acc nx s acc ∧ orb nx s acc.length = c ∧ way nx s = wayF nx n acc c) ∧ Below w.heap.size w wr) (fun o _ _ => 20 - strLen o)
  case atStart => exact ⟨[], 20, some s, rfl, rfl, rfl, ⟨HAN.out, HORB0.out, HZ.out⟩, Below.refl _ _⟩
  case round =>
    obtain ⟨acc, n, c, rfl, rfl, hn20, hA, hb⟩ := hrel
    have hbs := hb.size
    have hS2 := hS.below hb
    have hal := hA.out.1.len
    have hz := txt_size acc
    cases c with
    | none =>
      have HF : Hid (way nx s = acc) := by show _ = _; rw [hA.out.2.2]; exact HNO.out n acc
      rw [show spotV b none = .pointer none from rfl]
      clear hA
      go_wp2
      go_ret
      exact ⟨by rw [HF.out]; rfl, hb⟩
    | some i =>
      have hil := HL.out _ _ hA.out.2.1
      have hcn := hS2.name i hil
      have hcs := hS2.src i hil
      have hone : sn i = ⟨#[ch i]⟩ := rfl
      rw [hone] at hcn
      have HM := Lib.hid (txt_mem hA.out.1.lt hil)
      have HTS := Lib.hid (txt_snoc acc i)
      have hcc := fun W => HC.out (txt acc) (ch i) W
      have HONE := Lib.hid hone
      clear hone
      rw [show spotV b (some i) = .pointer (some ⟨b, i * 2, none⟩) from rfl]
      have hc1 : (⟨#[ch i]⟩ : ByteArray).size = 1 := rfl
      by_cases hin : i ∈ acc
      · have HF : Hid (way nx s = acc) := by show _ = _; rw [hA.out.2.2]; exact HHT.out n acc i hin
        have hd : decide (ch i ∈ (txt acc).data.toList) = true := by simpa using HM.out.2 hin
        rw [hd] at hcc
        have HCC := Lib.hid hcc
        clear hcc hd hA HM hin
        generalize ch i = c at *
        go_wp2_with (go_at_call 41; refine (HCC.out _).mono ?_; rintro e w' ⟨rfl, rfl⟩)
        go_ret
        exact ⟨by rw [HF.out]; rfl, hb⟩
      · obtain ⟨n', rfl⟩ : ∃ n', n = n' + 1 := ⟨n - 1, by omega⟩
        have hd : decide (ch i ∈ (txt acc).data.toList) = false := by simpa using fun h => hin (HM.out.1 h)
        rw [hd] at hcc
        have HCC := Lib.hid hcc
        have HN : Hid (Acc nx s (acc ++ [i]) ∧ orb nx s (acc ++ [i]).length = nx i ∧ way nx s = wayF nx n' (acc ++ [i]) (nx i)) := by
          refine ⟨HSN.out acc i hA.out.1 hA.out.2.1 hin, ?_, ?_⟩
          · rw [show (acc ++ [i]).length = acc.length + 1 by simp, HO.out, hA.out.2.1]; rfl
          · rw [hA.out.2.2, HST.out _ _ _ hin]
        clear hcc hd hA HM hin
        generalize ch i = c at *
        generalize nx i = ni at *
        go_wp2_with (go_at_call 41; refine (HCC.out _).mono ?_; rintro e w' ⟨rfl, rfl⟩)
        go_roundw
        case rel => exact ⟨acc ++ [i], n', ni, by rw [HTS.out, HONE.out], rfl, by simp; omega, HN, hb⟩
        case measure => simp [strLen, ByteArray.size_append, hc1, hz]; omega
end Go.Proofs.YtogkodjlbdlgjaaGreat
namespace Go.PW
open Go.RowKit Go.PM
/-- the cells of the spots: names and sources -/
def spA (n : Nat → ByteArray) (s : Nat → Value) : Array Value := Array.ofFn (n := 38) fun j => if j.val % 2 = 0 then .string (n (j.val / 2)) else s (j.val / 2)
theorem spA_size (n : Nat → ByteArray) (s : Nat → Value) : (spA n s).size = 38 := by simp [spA]
theorem spA_name (n : Nat → ByteArray) (s : Nat → Value) (i : Nat) (hi : i < 19) : (spA n s)[i * 2]? = some (.string (n i)) := by
  have h : i * 2 < 38 := by omega
  simp [spA, h]
theorem spA_src (n : Nat → ByteArray) (s : Nat → Value) (i : Nat) (hi : i < 19) : (spA n s)[i * 2 + 1]? = some (s i) := by
  have h : i * 2 + 1 < 38 := by omega
  have h2 : ¬ (i * 2 + 1) % 2 = 0 := by omega
  have h3 : (i * 2 + 1) / 2 = i := by omega
  simp [spA, h, h3]
theorem spA_setName (n : Nat → ByteArray) (s : Nat → Value) (i : Nat) (_hi : i < 19) (x : ByteArray) : (spA n s).setIfInBounds (i * 2) (.string x) = spA (upd n i x) s := by
  apply Array.ext
  · simp [spA]
  · intro j h1 h2
    rw [Array.getElem_setIfInBounds (by simpa [spA] using h2)]
    simp only [spA, Array.getElem_ofFn, upd]
    by_cases e : i * 2 = j
    · subst e
      simp
    · by_cases e2 : j % 2 = 0
      · have : ¬ j / 2 = i := by omega
        simp [e, e2, this]
      · simp [e, e2]
theorem spA_setSrc (n : Nat → ByteArray) (s : Nat → Value) (i : Nat) (_hi : i < 19) (x : Value) : (spA n s).setIfInBounds (i * 2 + 1) x = spA n (fun q => if q = i then x else s q) := by
  apply Array.ext
  · simp [spA]
  · intro j h1 h2
    rw [Array.getElem_setIfInBounds (by simpa [spA] using h2)]
    simp only [spA, Array.getElem_ofFn]
    by_cases e : i * 2 + 1 = j
    · subst e
      have h2 : ¬ (i * 2 + 1) % 2 = 0 := by omega
      have h3 : (i * 2 + 1) / 2 = i := by omega
      simp [h3]
    · by_cases e2 : j % 2 = 0
      · simp [e, e2]
      · have : ¬ j / 2 = i := by omega
        simp [e, e2, this]
abbrev zS : Array Value := #[.string ⟨#[]⟩, .pointer none, .string ⟨#[]⟩, .pointer none, .string ⟨#[]⟩, .pointer none, .string ⟨#[]⟩, .pointer none, .string ⟨#[]⟩, .pointer none, .string ⟨#[]⟩, .pointer none, .string ⟨#[]⟩, .pointer none, .string ⟨#[]⟩, .pointer none, .string ⟨#[]⟩, .pointer none, .string ⟨#[]⟩, .pointer none, .string ⟨#[]⟩, .pointer none, .string ⟨#[]⟩, .pointer none, .string ⟨#[]⟩, .pointer none, .string ⟨#[]⟩, .pointer none, .string ⟨#[]⟩, .pointer none, .string ⟨#[]⟩, .pointer none, .string ⟨#[]⟩, .pointer none, .string ⟨#[]⟩, .pointer none, .string ⟨#[]⟩, .pointer none]
theorem zS_eq : zS = spA (fun _ => emp) (fun _ => .pointer none) := rfl
/-- the first k names are laid -/
def nmK (k : Nat) : Nat → ByteArray := fun i => if i < k then sn i else emp
theorem nmK_zero : nmK 0 = fun _ => emp := by funext i; simp [nmK]
theorem nmK_succ (k : Nat) : upd (nmK k) k (sn k) = nmK (k + 1) := by
  funext i
  unfold upd nmK
  by_cases h : i = k
  · subst h; simp
  · by_cases h2 : i < k
    · simp [h, h2, Nat.lt_succ_of_lt h2]
    · have : ¬ i < k + 1 := by omega
      simp [h, h2, this]
/-- the first k sources are laid -/
def srcK (f : Nat → ByteArray) (b k : Nat) : Nat → Value := fun i => if i < k then spotV b (nxT f i) else .pointer none
theorem srcK_zero (f : Nat → ByteArray) (b : Nat) : srcK f b 0 = fun _ => .pointer none := by funext i; simp [srcK]
theorem srcK_succ (f : Nat → ByteArray) (b k : Nat) : (fun q => if q = k then spotV b (nxT f k) else srcK f b k q) = srcK f b (k + 1) := by
  funext i
  unfold srcK
  by_cases h : i = k
  · subst h; simp
  · by_cases h2 : i < k
    · simp [h, h2, Nat.lt_succ_of_lt h2]
    · have : ¬ i < k + 1 := by omega
      simp [h, h2, this]
theorem srcK_same (f : Nat → ByteArray) (b k : Nat) (h : nxT f k = none) : srcK f b k = srcK f b (k + 1) := by
  rw [← srcK_succ, h]
  funext i
  by_cases h : i = k
  · subst h; simp [srcK, spotV]
  · simp [h]
end Go.PW
namespace Go.Proofs.YtogkodjlbdlgjaaGreat
open Go.RowKit Go.PM Go.PW Go.Lib
attribute [local go_sem] Oper.semAt_some

set_option maxRecDepth 100000 in
set_option maxHeartbeats 800000 in
theorem spotsOf_c (f : Nat → ByteArray) (hf : SV f) (w : World) :
    Calls Tryz.prog 66 #[tabX f] w fun e w' => (∃ b, e = .returned (.pointer (some ⟨b, 0, none⟩)) ∧ w.heap.size ≤ b ∧ Spots w' b (nxT f)) ∧ Below w.heap.size w w' := by
  have HEX : Hid (∀ q, q < 19 → (ByteArray.mk #[97, 98, 99, 100, 101, 102, 65, 66, 67, 48, 49, 50, 51, 52, 53, 54, 55, 56, 57]).extract q (q+1) = sn q) := by
    show ∀ q, _
    intro q hq
    rw [extract_one _ _ (by show q < 19; exact hq)]; rfl
  refine (callsIn_wide (n := 5)).1 ?_
  refine callsIn_of_wp_marks Tryz.func66 rfl trivial ?_ rfl
  simp only [Tryz.ntmps66, List.size_toArray, List.length_cons, List.length_nil, Nat.reduceAdd, Nat.reduceSub, Array.replicate_succ, Array.replicate_zero, List.push_toArray, List.append_toArray, List.nil_append, List.cons_append]
  gi_wp2
  gi_loopw [4, 10] (fun _ i wr => ∃ k : Nat, k ≤ 19 ∧ i = .int .i64 k ∧ At wr w.heap.size 57 (tabA f) ∧ At wr (w.heap.size + 1) 124 (spA (nmK k) (fun _ => .pointer none)) ∧ At wr (w.heap.size + 2) 102 #[.pointer (some ⟨w.heap.size + 1, 0, none⟩)] ∧ Below w.heap.size w wr) (fun _ i _ => 19 - (RowKit.intOf i).toNat)
  case atStart =>
    refine ⟨0, by omega, rfl, ?_, ?_, ?_, by (repeat' (first | (with_reducible exact Below.refl _ _) | (with_reducible assumption) | (with_reducible refine Below.alloc ?_ ?_ _) | (with_reducible refine Below.drew ?_) | (with_reducible refine Below.setCell ?_ ?_ _) | (with_reducible exact Nat.le_refl _) | omega | ((repeat (first | rewrite [World.size_alloc] | rewrite [World.size_setCell] | rewrite [World.size_drew])); omega) | (simp; omega) | (simp; done)))⟩
    · exact ((At.new _ _ _).alloc _).alloc _
    · rw [nmK_zero, ← zS_eq]
      have := At.new (w.alloc (.cells (tabA f) 57)) 124 zS
      rw [World.size_alloc] at this
      exact this.alloc _
    · have := At.new ((w.alloc (.cells (tabA f) 57)).alloc (.cells zS 124)) 102 #[.pointer (some ⟨w.heap.size + 1, 0, none⟩)]
      rw [World.size_alloc, World.size_alloc] at this
      exact this
  case round =>
    obtain ⟨k, hk, rfl, h1, h2, h3, hb⟩ := hrel
    have hbs := hb.size
    by_cases hlt : k < 19
    · have hc3 : wr.drew.cell? ⟨w.heap.size + 2, 0, none⟩ = some (.pointer (some ⟨w.heap.size + 1, 0, none⟩)) := h3.cell 0
      have hl2 := h2.lt
      have hc2 : wr.drew.cell? ⟨w.heap.size + 1, k * 2, none⟩ = some (.string (nmK k k)) := (h2.cell (k * 2)).trans (spA_name _ _ k hlt)
      have hf2 : wr.drew.frozen? ⟨w.heap.size + 1, k * 2, none⟩ = false := h2.frozen (k * 2)
      have hex := HEX.out k hlt
      have HSET := Lib.hid (spA_setName (nmK k) (fun _ => .pointer none) k hlt (sn k))
      have i0 : (0 : Int) ≤ (k : Int) := by omega
      have i1 : (k : Int) < 19 := by omega
      gi_wp2
      refine regionIn_tail (F := Fence.wide) (C := fun w' => w' = wr.drew) 9 rfl (by kernel_rfl) (by kernel_rfl) rfl ?_
      simp only [List.take_succ_cons, List.take_zero, List.drop_succ_cons, List.drop_zero]
      repeat (gi_big_quiet_step (fail))
      refine wpQuietIn_nil ?_
      intro w' hw'
      subst hw'
      have d1 := h1.far (p := ⟨w.heap.size + 1, k * 2, none⟩) (by simp) (.string (sn k))
      have d2 := h2.set (k * 2) (.string (sn k))
      have d3 := h3.far (p := ⟨w.heap.size + 1, k * 2, none⟩) (by simp) (.string (sn k))
      rw [HSET.out, nmK_succ] at d2
      clear h1 h2 h3
      gi_wp2
      go_roundw
      case rel => exact ⟨k + 1, by omega, by go_num, d1, d2, d3, by (repeat' (first | (with_reducible exact Below.refl _ _) | (with_reducible assumption) | (with_reducible refine Below.alloc ?_ ?_ _) | (with_reducible refine Below.drew ?_) | (with_reducible refine Below.setCell ?_ ?_ _) | (with_reducible exact Nat.le_refl _) | omega | ((repeat (first | rewrite [World.size_alloc] | rewrite [World.size_setCell] | rewrite [World.size_drew])); omega) | (simp; omega) | (simp; done)))⟩
      case measure => simp [RowKit.intOf]; omega
    · have hk19 : k = 19 := by omega
      have HNE := Lib.hid (fun p (hp : p < 9) => sx_lt hf hp)
      rw [hk19] at h2
      have HK := Lib.hid hk19
      clear hk19
      have hs1 := h1.lt
      have hs2 := h2.lt
      have hs3 := h3.lt
      gi_wp2
      refine range_law (F := Fence.wide) (gf := 62) (lf := #[.int .i64 9]) (lb := #[]) rfl (by decide) rfl trivial (fun args w => rfl) (encs := fun p : Nat => #[.int .i64 p]) (xs := List.range 9)
        (below_iter _ _ trivial rfl (by decide)) (fun _ => rfl)
        (fun pre W => At W w.heap.size 57 (tabA f) ∧ At W (w.heap.size + 1) 124 (spA (nmK 19) (srcK f (w.heap.size + 1) pre.length)) ∧ At W (w.heap.size + 2) 102 #[.pointer (some ⟨w.heap.size + 1, 0, none⟩)] ∧ Below w.heap.size w W)
        (fun _ _ _ => False) ?own (fun _ => ownFrom_pure _ _) ?start ?a1 ?assign ?body ?done ?stop
      case own =>
        rintro s A A' row ⟨q1, q2, q3, q4⟩ hg hr
        have hr' : ∀ r, row = some r → w.heap.size + 3 ≤ r := fun r e => by have := (hr r e).1; omega
        refine ⟨(hg.block _ q1.lt (fun e => ?_)).trans q1, (hg.block _ q2.lt (fun e => ?_)).trans q2, (hg.block _ q3.lt (fun e => ?_)).trans q3, q4.trans (below_grown hg q4.size (fun g e => ?_))⟩
        · have := hr' _ e.symm; omega
        · have := hr' _ e.symm; omega
        · have := hr' _ e.symm; omega
        · have := hr' _ e; omega
      case start => exact ⟨h1, by rw [List.length_nil, srcK_zero]; exact h2, h3, hb⟩
      case assign =>
        intro l p W Kc hK
        gi_wp2
        exact hK
      case body =>
        rintro l pre p W ⟨q1, q2, q3, q4⟩ hp hsz
        obtain ⟨hl, hp9⟩ := pre_len pre p hp
        rw [hl] at q2
        have HL : Hid ((pre ++ [p]).length = p + 1) := by show _ = _; simp [hl]
        have HSRC := Lib.hid (fun W => source_c f p hp9 W)
        have hsx := (HNE.out p hp9).1
        have HSN : Hid (srcT f p = sn (sx f p)) := (HNE.out p hp9).2.symm
        have HNM : Hid (nm p = sn p) := (sn_nm p hp9).symm
        have HYES := Lib.hid (nxT_some (f := f) hp9)
        have HSTAY := Lib.hid (nxT_stay (f := f) hp9)
        have HS1 := Lib.hid (srcK_succ f (w.heap.size + 1) p)
        have HS2 := Lib.hid (srcK_same f (w.heap.size + 1) p)
        have HSET := Lib.hid (spA_setSrc (nmK 19) (srcK f (w.heap.size + 1) p) p (by omega))
        have hpos := fun W => positionIn_yes ⟨#[97, 98, 99, 100, 101, 102, 65, 66, 67, 48, 49, 50, 51, 52, 53, 54, 55, 56, 57]⟩ (ch (sx f p)) (sx f p) (ch_all _ hsx).1 W
        have HPOS := Lib.hid hpos
        have c0 : W.cell? ⟨w.heap.size, 0, none⟩ = some (.string (f 0)) := q1.cell 0
        have c1 : W.cell? ⟨w.heap.size, 1, none⟩ = some (.string (f 1)) := q1.cell 1
        have c2 : W.cell? ⟨w.heap.size, 2, none⟩ = some (.string (f 2)) := q1.cell 2
        have c3 : W.cell? ⟨w.heap.size, 3, none⟩ = some (.string (f 3)) := q1.cell 3
        have c4 : W.cell? ⟨w.heap.size, 4, none⟩ = some (.string (f 4)) := q1.cell 4
        have c5 : W.cell? ⟨w.heap.size, 5, none⟩ = some (.string (f 5)) := q1.cell 5
        have c6 : W.cell? ⟨w.heap.size, 6, none⟩ = some (.string (f 6)) := q1.cell 6
        have c7 : W.cell? ⟨w.heap.size, 7, none⟩ = some (.string (f 7)) := q1.cell 7
        have c8 : W.cell? ⟨w.heap.size, 8, none⟩ = some (.string (f 8)) := q1.cell 8
        clear hpos hl hf
        gi_wp2
        refine ⟨trivial, ?_⟩
        refine CallsIn.inRound l (callsIn_wide.2 ((HSRC.out W).mono ?_))
        rintro e W2 ⟨rfl, hb2⟩
        rw [HSN.out]
        have hz4 := q4.size
        have k1 := q1.keep hb2
        have k2 := q2.keep hb2
        have k3 := q3.keep hb2
        have k4 : Below w.heap.size w W2 := q4.trans (hb2.mono hz4)
        have kf := keepsFrom_below (B := wr.heap.size) hb2
        have kz := hb2.size
        clear c0 c1 c2 c3 c4 c5 c6 c7 c8 q1 q2 q3 q4 hb2
        have hone : sn (sx f p) = ⟨#[ch (sx f p)]⟩ := rfl
        by_cases hst : sx f p = p
        · have hnx := HSTAY.out hst
          have e1 : srcK f (w.heap.size + 1) p = srcK f (w.heap.size + 1) (p + 1) := HS2.out hnx
          rw [hst]
          rw [e1] at k2
          have HNM2 := Lib.hid (fun W => name_c p hp9 W)
          have hb1 : ((sn p).toList == (sn p).toList) = true := by simp
          gi_wp2
          refine ⟨trivial, CallsIn.inRound l (callsIn_wide.2 ((HNM2.out _).mono ?_))⟩
          rintro e wq ⟨rfl, rfl⟩
          rw [HNM.out]
          gi_wp2
          exact ⟨kf, KeepsIn.zero kz, k1, by rw [HL.out]; exact k2, k3, k4⟩
        · have hnx := HYES.out hst
          have e1 := HSET.out (spotV (w.heap.size + 1) (nxT f p))
          rw [HS1.out, hnx] at e1
          have E1 := Lib.hid e1
          have HNM2 := Lib.hid (fun W => name_c p hp9 W)
          have hb1 : ((sn (sx f p)).toList == (sn p).toList) = false := by
            rw [beq_str, decide_eq_false_iff_not]
            exact fun e => hst (sn_inj hsx (by omega) e)
          clear e1 hone hnx
          have HOLD := Lib.hid ((k2.cell (p * 2 + 1)).trans (spA_src (nmK 19) (srcK f (w.heap.size + 1) p) p (by omega)))
          generalize sx f p = j at *
          gi_wp2
          refine ⟨trivial, CallsIn.inRound l (callsIn_wide.2 ((HNM2.out _).mono ?_))⟩
          rintro e wq ⟨rfl, rfl⟩
          rw [HNM.out]
          gi_wp2
          refine ⟨trivial, CallsIn.inRound l (callsIn_wide.2 ((HPOS.out _).mono ?_))⟩
          rintro e wq ⟨rfl, rfl⟩
          have c3 : W2.drew.cell? ⟨w.heap.size + 2, 0, none⟩ = some (.pointer (some ⟨w.heap.size + 1, 0, none⟩)) := k3.cell 0
          have cq : W2.drew.cell? ⟨w.heap.size + 1, p * 2 + 1, none⟩ = some (srcK f (w.heap.size + 1) p p) := HOLD.out
          have fq : W2.drew.frozen? ⟨w.heap.size + 1, p * 2 + 1, none⟩ = false := k2.frozen _
          have l2 := k2.lt
          have i0 : (0 : Int) ≤ (p : Int) := by omega
          have i1 : (p : Int) < 19 := by omega
          have i2 : (0 : Int) ≤ (j : Int) := by omega
          have i3 : (j : Int) < 19 := by omega
          gi_wp2
          refine region_tail_inRound (F := Fence.wide) (C := fun w' => w' = W2.drew) 9 rfl (by kernel_rfl) (by kernel_rfl) (by kernel_rfl) rfl ?_
          simp only [List.take_succ_cons, List.take_zero, List.drop_succ_cons, List.drop_zero]
          repeat (gi_big_quiet_step (fail))
          refine wpQuietIn_nil ?_
          intro w' hw'
          subst hw'
          clear c3 hb1
          gi_wp2
          have d1 := k1.far (p := ⟨w.heap.size + 1, p * 2 + 1, none⟩) (by simp) (.pointer (some ⟨w.heap.size + 1, j * 2, none⟩))
          have d2 := k2.set (p * 2 + 1) (.pointer (some ⟨w.heap.size + 1, j * 2, none⟩))
          have d3 := k3.far (p := ⟨w.heap.size + 1, p * 2 + 1, none⟩) (by simp) (.pointer (some ⟨w.heap.size + 1, j * 2, none⟩))
          have d4 := k4.setCell (p := ⟨w.heap.size + 1, p * 2 + 1, none⟩) (by simp) (.pointer (some ⟨w.heap.size + 1, j * 2, none⟩))
          have e2 := E1.out
          rw [show spotV (w.heap.size + 1) (some j) = .pointer (some ⟨w.heap.size + 1, j * 2, none⟩) from rfl] at e2
          rw [e2] at d2
          refine ⟨(kf.trans ((KeepsOthers.setCell _ _ _).from _)).trans ((KeepsOthers.drew _).from _), KeepsIn.zero (by simp [World.size_setCell, World.size_drew]; exact kz), d1, by rw [HL.out]; exact d2, d3, d4.drew⟩
      case done =>
        intro D W hD hI hd
        obtain ⟨q1, q2, q3, q4⟩ := hI
        have hDD : w.heap.size + 3 ≤ D := by omega
        have l2 := q2.lt
        have q2' : At W (w.heap.size + 1) 124 (spA (nmK 19) (srcK f (w.heap.size + 1) 9)) := q2
        have c3 : W.cell? ⟨w.heap.size + 2, 0, none⟩ = some (.pointer (some ⟨w.heap.size + 1, 0, none⟩)) := q3.cell 0
        have HSP : Hid (Spots (W.putObj D (.deferred none)) (w.heap.size + 1) (nxT f)) := by
          have hA : At (W.putObj D (.deferred none)) (w.heap.size + 1) 124 (spA (nmK 19) (srcK f (w.heap.size + 1) 9)) := (World.putObj_heap_other (by omega)).trans q2'
          refine ⟨⟨_, _, hA⟩, fun i hi => ?_, fun i hi => ?_⟩
          · rw [hA.cell, spA_name _ _ i hi]; simp [nmK, hi]
          · rw [hA.cell, spA_src _ _ i hi]
            by_cases h9 : i < 9
            · simp [srcK, h9]
            · simp [srcK, h9, nxT_digit h9, spotV]
        clear q2
        gi_wp2
        refine ⟨by simp, .inl ⟨D, _, rfl, run_takeDeferred hd, ?_⟩⟩
        refine ⟨_, results_tmp rfl _ _ _, ⟨_, rfl, by omega, HSP.out⟩, ?_⟩
        exact q4.trans ⟨rfl, rfl, rfl, by simp [World.putObj], fun k hk => World.putObj_heap_other (by omega)⟩
      case stop =>
        intro _ _ _ _ _ _ hff
        exact hff.elim
end Go.Proofs.YtogkodjlbdlgjaaGreat
namespace Go.Proofs.YtogkodjlbdlgjaaGreat
open Go.RowKit Go.PM Go.PW Go.Lib

end Go.Proofs.YtogkodjlbdlgjaaGreat
namespace Go.PW
open Go.PM
/-- where the way ends, and whether a ring goes round there -/
theorem ring_last {f : Nat → ByteArray} (hf : SV f) {s : Nat} (hs : s < 19) : ∃ i, (way (nxT f) s)[(way (nxT f) s).length - 1]? = some i ∧ i < 19 ∧ (onRb (nxT f) s = true ↔ 2 ≤ (way (nxT f) s).length ∧ i < 9 ∧ sx f i = s) := by
  have hn := nice hf
  have hr := way_rho hn hs
  have hp := hr.pos
  have h1 := hr.some_ (j := (way (nxT f) s).length - 1) (by omega)
  have h0 := hr.some_ hp
  refine ⟨_, List.getElem?_eq_getElem (by omega), hr.lt _ (List.getElem_mem _), ?_⟩
  generalize (way (nxT f) s)[(way (nxT f) s).length - 1]'(by omega) = i at *
  have h2 : orb (nxT f) s (way (nxT f) s).length = nxT f i := by
    have : orb (nxT f) s ((way (nxT f) s).length - 1 + 1) = (orb (nxT f) s ((way (nxT f) s).length - 1)).bind (nxT f) := rfl
    rw [show (way (nxT f) s).length - 1 + 1 = (way (nxT f) s).length by omega, h1] at this
    exact this
  unfold onRb
  rw [h2, decide_eq_true_eq]
  constructor
  · intro e
    have h9 := hn.low i s e
    have hi : i ≠ s := fun e2 => hn.irr i (by rw [e, e2])
    have hsx : sx f i = s := by
      by_cases e2 : sx f i = i
      · rw [nxT_stay h9 e2] at e; cases e
      · rw [nxT_some h9 e2] at e; exact Option.some.inj e
    refine ⟨?_, h9, hsx⟩
    rcases Nat.lt_or_ge 1 (way (nxT f) s).length with h | h
    · exact h
    · exfalso
      have h3 : (way (nxT f) s).length - 1 = 0 := by omega
      rw [h3] at h1
      have : orb (nxT f) s 0 = some s := rfl
      rw [this] at h1
      exact hi (Option.some.inj h1).symm
  · rintro ⟨hl, h9, hsx⟩
    have hi : sx f i ≠ i := by
      intro e
      have e2 : s = i := by rw [← hsx, e]
      have h3 : orb (nxT f) s 0 = orb (nxT f) s ((way (nxT f) s).length - 1) := by rw [h1, ← e2]; rfl
      have := hr.inj hp (by omega) h3
      omega
    rw [nxT_some h9 hi, hsx]
end Go.PW
namespace Go.Proofs.YtogkodjlbdlgjaaGreat
open Go.RowKit Go.PM Go.PW Go.Lib

end Go.Proofs.YtogkodjlbdlgjaaGreat
namespace Go.PW
open Go.PM
def wayB (xs : List Mv) (a : ByteArray) : ByteArray := txt (way (nxT (tabOf xs)) (pidx a))
noncomputable def depN (nx : Nat → Option Nat) (s : Nat) : Nat := least (Stops nx s)
theorem depN_stops {nx : Nat → Option Nat} (hn : Nice nx) {s : Nat} (hs : s < 19) : Stops nx s (depN nx s) := by
  obtain ⟨D, hD, _⟩ := (way_rho hn hs).stops
  exact (least_spec ⟨D, hD⟩).1
noncomputable def depthI (xs : List Mv) (a : ByteArray) : Int := if mvalid xs && isP a then (depN (nxT (tabOf xs)) (pidx a) : Int) else -1
theorem isP_sn {a : ByteArray} (h : isP a = true) : a = sn (pidx a) := by
  have := pidx_spec h
  rw [sn_nm _ this.1, this.2]
end Go.PW
namespace Go.Proofs.YtogkodjlbdlgjaaGreat
open Go.RowKit Go.PM Go.PW Go.Lib

end Go.Proofs.YtogkodjlbdlgjaaGreat
namespace Go.Proofs.YtogkodjlbdlgjaaGreat
open Go.RowKit Go.PM Go.PW Go.Lib

end Go.Proofs.YtogkodjlbdlgjaaGreat
namespace Go.PW
open Go.PM

/-- two sets become one -/
def joinH (h : Nat → Nat) (a b : Nat) : Nat → Nat := fun q => if h q = h a then h b else h q
/-- which place stands for a place's wheel, when the first k places are joined with their sources -/
def hdF (f : Nat → ByteArray) : Nat → Nat → Nat
  | 0 => id
  | k + 1 => if sx f k < 9 then joinH (hdF f k) k (sx f k) else hdF f k
variable {f : Nat → ByteArray}
theorem hdF_yes {k : Nat} (h : sx f k < 9) : hdF f (k + 1) = joinH (hdF f k) k (sx f k) := by rw [hdF, if_pos h]
theorem hdF_no {k : Nat} (h : ¬ sx f k < 9) : hdF f (k + 1) = hdF f k := by rw [hdF, if_neg h]
theorem hd_sound (S : Nat → Prop) : ∀ k, (∀ p, p < k → sx f p < 9 → (S p ↔ S (sx f p))) → ∀ q r, hdF f k q = hdF f k r → (S q ↔ S r) := by
  intro k
  induction k with
  | zero => intro _ q r e; have : q = r := e; rw [this]
  | succ k ih =>
    intro hS q r e
    have ih := ih (fun p hp => hS p (by omega))
    by_cases h9 : sx f k < 9
    · rw [hdF_yes h9] at e
      have hk := hS k (by omega) h9
      unfold joinH at e
      by_cases h1 : hdF f k q = hdF f k k
      · by_cases h2 : hdF f k r = hdF f k k
        · rw [ih q k h1, ih r k h2]
        · rw [if_pos h1, if_neg h2] at e
          rw [ih q k h1, hk, ih _ r e]
      · by_cases h2 : hdF f k r = hdF f k k
        · rw [if_neg h1, if_pos h2] at e
          rw [ih q _ e, ← hk, ih r k h2]
        · rw [if_neg h1, if_neg h2] at e
          exact ih q r e
    · rw [hdF_no h9] at e
      exact ih q r e
theorem hd_keep {k q r : Nat} (e : hdF f k q = hdF f k r) : hdF f (k + 1) q = hdF f (k + 1) r := by
  by_cases h9 : sx f k < 9
  · rw [hdF_yes h9]; unfold joinH; rw [e]
  · rw [hdF_no h9]; exact e
theorem hd_edge : ∀ k p, p < k → sx f p < 9 → hdF f k p = hdF f k (sx f p) := by
  intro k
  induction k with
  | zero => intro p h; omega
  | succ k ih =>
    intro p hp h9
    rcases Nat.lt_or_ge p k with h1 | h1
    · exact hd_keep (ih p h1 h9)
    · have : p = k := by omega
      subst this
      rw [hdF_yes h9]
      unfold joinH
      rw [if_pos rfl]
      by_cases h2 : hdF f p (sx f p) = hdF f p p
      · rw [if_pos h2]
      · rw [if_neg h2]
theorem hd_lt (k : Nat) (hk : k ≤ 9) : ∀ q, q < 9 → hdF f k q < 9 := by
  induction k with
  | zero => intro q h; exact h
  | succ k ih =>
    intro q hq
    by_cases h9 : sx f k < 9
    · rw [hdF_yes h9]; unfold joinH
      by_cases h1 : hdF f k q = hdF f k k
      · rw [if_pos h1]; exact ih (by omega) _ h9
      · rw [if_neg h1]; exact ih (by omega) _ hq
    · rw [hdF_no h9]; exact ih (by omega) q hq

/-- an array that leads each place to the one that stands for its set -/
structure Forest (w h dp : Nat → Nat) : Prop where
  lt : ∀ q, q < 9 → w q < 9
  hlt : ∀ q, q < 9 → h q < 9
  root : ∀ q, q < 9 → w q = q → h q = q
  up : ∀ q, q < 9 → w q ≠ q → dp (w q) < dp q ∧ h (w q) = h q
  top : ∀ q, q < 9 → w (h q) = h q
theorem Forest.id : Forest (fun q => q) (fun q => q) (fun _ => 0) := ⟨fun _ h => h, fun _ h => h, fun _ _ _ => rfl, fun _ _ h => absurd rfl h, fun _ _ => rfl⟩
theorem Forest.join {w h dp : Nat → Nat} (F : Forest w h dp) {a b : Nat} (ha : a < 9) (hb : b < 9) :
    ∃ dp', Forest (fun q => if q = h a then h b else w q) (joinH h a b) dp' := by
  have hab := F.hlt a ha
  have hbb := F.hlt b hb
  have ta := F.root _ hab (F.top a ha)
  have tb := F.root _ hbb (F.top b hb)
  by_cases he : h a = h b
  · refine ⟨dp, ⟨fun q hq => ?_, fun q hq => ?_, fun q hq e => ?_, fun q hq e => ?_, fun q hq => ?_⟩⟩
    all_goals
      have e1 : ∀ q, (if q = h a then h b else w q) = w q := by
        intro q
        by_cases h1 : q = h a
        · rw [if_pos h1, h1, ← he, F.top a ha]
        · rw [if_neg h1]
      have e2 : ∀ q, joinH h a b q = h q := by
        intro q; unfold joinH
        by_cases h1 : h q = h a
        · rw [if_pos h1, h1, he]
        · rw [if_neg h1]
      simp only [e1, e2] at *
    · exact F.lt q hq
    · exact F.hlt q hq
    · exact F.root q hq e
    · exact F.up q hq e
    · exact F.top q hq
  · refine ⟨fun q => if h q = h a then dp q + dp (h b) + 1 else dp q, ⟨fun q hq => ?_, fun q hq => ?_, fun q hq e => ?_, fun q hq e => ?_, fun q hq => ?_⟩⟩
    · show (if q = h a then h b else w q) < 9
      by_cases h1 : q = h a
      · rw [if_pos h1]; exact hbb
      · rw [if_neg h1]; exact F.lt q hq
    · unfold joinH
      by_cases h1 : h q = h a
      · rw [if_pos h1]; exact hbb
      · rw [if_neg h1]; exact F.hlt q hq
    · have e : (if q = h a then h b else w q) = q := e
      by_cases h1 : q = h a
      · rw [if_pos h1, h1] at e; exact absurd e.symm he
      · rw [if_neg h1] at e
        have := F.root q hq e
        unfold joinH
        rw [if_neg (by rw [this]; exact h1)]; exact this
    · have e : (if q = h a then h b else w q) ≠ q := e
      show (if h (if q = h a then h b else w q) = h a then dp (if q = h a then h b else w q) + dp (h b) + 1 else dp (if q = h a then h b else w q)) < (if h q = h a then dp q + dp (h b) + 1 else dp q) ∧ joinH h a b (if q = h a then h b else w q) = joinH h a b q
      by_cases h1 : q = h a
      · subst h1
        rw [if_pos rfl, if_neg (by rw [tb]; exact fun h => he h.symm), if_pos ta]
        refine ⟨by omega, ?_⟩
        unfold joinH
        rw [if_neg (by rw [tb]; exact fun h => he h.symm), if_pos ta, tb]
      · rw [if_neg h1] at e ⊢
        have u := F.up q hq e
        rw [u.2]
        refine ⟨?_, by unfold joinH; rw [u.2]⟩
        by_cases h2 : h q = h a
        · rw [if_pos h2, if_pos h2]; omega
        · rw [if_neg h2, if_neg h2]; exact u.1
    · show (if joinH h a b q = h a then h b else w (joinH h a b q)) = joinH h a b q
      unfold joinH
      by_cases h1 : h q = h a
      · rw [if_pos h1, if_neg (fun h => he h.symm)]; exact F.top b hb
      · rw [if_neg h1, if_neg h1]; exact F.top q hq

/-- a list of places that hang together with one and from which nothing leads out -/
structure Comp (f : Nat → ByteArray) (p : Nat) (l : List Nat) (done : Nat) : Prop where
  nodup : l.Nodup
  lt : ∀ q ∈ l, q < 9
  has : p ∈ l
  in_ : ∀ q ∈ l, hdF f 9 q = hdF f 9 p
  out : ∀ k q, k < done → l[k]? = some q → (sx f q < 9 → sx f q ∈ l) ∧ ∀ r, r < 9 → sx f r = q → r ∈ l
theorem Comp.all {p : Nat} {l : List Nat} (h : Comp f p l l.length) : ∀ q, q < 9 → (q ∈ l ↔ hdF f 9 q = hdF f 9 p) := by
  intro q hq
  refine ⟨h.in_ q, fun e => ?_⟩
  refine (hd_sound (f := f) (fun x => x ∈ l) 9 (fun r hr h9 => ?_) q p e).2 h.has
  have hin : ∀ x, x ∈ l → (sx f x < 9 → sx f x ∈ l) ∧ ∀ r, r < 9 → sx f r = x → r ∈ l := by
    intro x hx
    obtain ⟨k, hk⟩ := List.getElem?_of_mem hx
    exact h.out k x (List.getElem?_eq_some_iff.1 hk).1 hk
  exact ⟨fun hm => (hin r hm).1 h9, fun hm => (hin _ hm).2 r hr rfl⟩
end Go.PW
namespace Go.PW
open Go.RowKit Go.PM
/-- the cells of the wheels -/
abbrev whA (g : Nat → Nat) : Array Value := #[.int .i64 (g 0 : Nat), .int .i64 (g 1 : Nat), .int .i64 (g 2 : Nat), .int .i64 (g 3 : Nat), .int .i64 (g 4 : Nat), .int .i64 (g 5 : Nat), .int .i64 (g 6 : Nat), .int .i64 (g 7 : Nat), .int .i64 (g 8 : Nat)]
theorem whA_at (g : Nat → Nat) (q : Nat) (hq : q < 9) : (whA g)[q]? = some (.int .i64 (g q : Nat)) := by
  match q, hq with
  | 0, _ | 1, _ | 2, _ | 3, _ | 4, _ | 5, _ | 6, _ | 7, _ | 8, _ => rfl
theorem whA_set (g : Nat → Nat) (q : Nat) (hq : q < 9) (x : Nat) : (whA g).setIfInBounds q (.int .i64 (x : Nat)) = whA (fun r => if r = q then x else g r) := by
  match q, hq with
  | 0, _ | 1, _ | 2, _ | 3, _ | 4, _ | 5, _ | 6, _ | 7, _ | 8, _ => simp [whA]
theorem grown_set (w : World) (p : Addr) (v : Value) : w.grownBy (w.setCell p v) (some p.block) :=
  ⟨rfl, rfl, rfl, by simp [World.size_setCell], fun i _ hne => heap_setCell_other w p i v (fun e => hne (by rw [e]))⟩
end Go.PW
namespace Go.Proofs.YtogkodjlbdlgjaaGreat
open Go.RowKit Go.PM Go.PW

end Go.Proofs.YtogkodjlbdlgjaaGreat
namespace Go.PM
open Go.RowKit
theorem own_box_ne' {w : World} {base : Nat} {e t : TypeId} {size n b : Nat} {v : Value} {cs : List Value} {c : Array Value} (h : w.ownsRow base e size v n cs) (hA : At w b t c) (hne : e ≠ t) : some b ≠ v.ownBlock := by
  rcases h.2 with ⟨rfl, _⟩ | ⟨g, cap, cur, rfl, _, hg, _⟩
  · simp [Value.ownBlock]
  · intro e'
    simp only [Value.ownBlock, Option.some.injEq] at e'
    subst e'
    unfold At at hA
    rw [hA] at hg
    cases hg
    exact hne rfl
theorem own_turn' {w w' : World} {base : Nat} {e : TypeId} {size n : Nat} {v : Value} {cs : List Value} {row : Option Nat} (h : w.ownsRow base e size v n cs) (hg : w.grownBy w' row) (hr : ∀ r, row = some r → ∃ o : Obj, w.heap[r]? = some o ∧ o.isCells = false) : w'.ownsRow base e size v n cs := by
  refine h.kept hg ?_
  rcases h.2 with ⟨rfl, _⟩ | ⟨g, cap, cur, rfl, _, hh, _⟩
  · exact .inl rfl
  · refine .inr fun e' => ?_
    obtain ⟨o, ho, hc⟩ := hr g e'.symm
    rw [hh] at ho
    cases ho
    cases hc
theorem at_turn' {w w' : World} {b : Nat} {t : TypeId} {c : Array Value} {row : Option Nat} (h : At w b t c) (hg : w.grownBy w' row) (hr : ∀ r, row = some r → ∃ o : Obj, w.heap[r]? = some o ∧ o.isCells = false) : At w' b t c := by
  refine (hg.block b h.lt fun e' => ?_).trans h
  obtain ⟨o, ho, hc⟩ := hr b e'.symm
  unfold At at h
  rw [h] at ho
  cases ho
  cases hc
theorem at_grown' {w w' : World} {b : Nat} {t : TypeId} {cs : Array Value} {row : Option Nat} (h : At w b t cs) (hg : w.grownBy w' row) (hne : some b ≠ row) : At w' b t cs := (hg.block b h.lt hne).trans h
end Go.PM
namespace Go.PW
open Go.PM
variable {f : Nat → ByteArray}
def wheelH (f : Nat → ByteArray) (p q : Nat) : Bool := decide (hdF f 9 q = hdF f 9 p)
/-- the wheel of a place, in order -/
def wheelL (f : Nat → ByteArray) (p : Nat) : List Nat := (List.range 9).filter (wheelH f p)
theorem wheelL_mem {p q : Nat} : q ∈ wheelL f p ↔ q < 9 ∧ hdF f 9 q = hdF f 9 p := by
  simp [wheelL, wheelH]
theorem wheelL_congr {p q : Nat} (e : hdF f 9 q = hdF f 9 p) : wheelL f q = wheelL f p := by
  unfold wheelL wheelH; rw [e]
theorem wheelL_lt {p : Nat} : ∀ a ∈ wheelL f p, a < 9 := fun _a ha => (wheelL_mem.1 ha).1
theorem wheelL_self {p : Nat} (hp : p < 9) : p ∈ wheelL f p := wheelL_mem.2 ⟨hp, rfl⟩
theorem wheelL_len (p : Nat) : (wheelL f p).length ≤ 9 := by
  have := List.length_filter_le (wheelH f p) (List.range 9)
  simpa [wheelL] using this
theorem head_le : ∀ (l : List Nat), l.Pairwise (· < ·) → ∀ a ∈ l, ∃ h, l.head? = some h ∧ h ≤ a ∧ h ∈ l
  | [], _, a, ha => by cases ha
  | x :: l, hp, a, ha => by
    refine ⟨x, rfl, ?_, by simp⟩
    rw [List.mem_cons] at ha
    rcases ha with rfl | ha
    · exact Nat.le_refl _
    · exact Nat.le_of_lt ((List.pairwise_cons.1 hp).1 a ha)
theorem wheelL_sorted (p : Nat) : (wheelL f p).Pairwise (· < ·) := by
  unfold wheelL
  exact (List.pairwise_lt_range (n := 9)).filter _
theorem wheelL_head {p : Nat} (hp : p < 9) : ∃ h, (wheelL f p).head? = some h ∧ h ≤ p ∧ h ∈ wheelL f p := head_le _ (wheelL_sorted p) p (wheelL_self hp)
/-- whether a place is the first one of a wheel of two places or more -/
def firstW (f : Nat → ByteArray) (p : Nat) : Bool := decide (1 < (wheelL f p).length ∧ (wheelL f p).head? = some p)
/-- the wheels of the first k places -/
def wheelsF (f : Nat → ByteArray) (k : Nat) : List (List Nat) := ((List.range k).filter (firstW f)).map (wheelL f)
theorem wheelsF_yes {k : Nat} (h : firstW f k = true) : wheelsF f (k + 1) = wheelsF f k ++ [wheelL f k] := by simp [wheelsF, List.range_succ, h]
theorem wheelsF_no {k : Nat} (h : firstW f k = false) : wheelsF f (k + 1) = wheelsF f k := by simp [wheelsF, List.range_succ, h]
theorem wheelsF_len (k : Nat) : (wheelsF f k).length ≤ k := by
  unfold wheelsF; rw [List.length_map]
  have := List.length_filter_le (firstW f) (List.range k)
  simpa using this
theorem flat_len : ∀ (l : List (List Nat)), (∀ x ∈ l, x.length ≤ 9) → l.flatten.length ≤ 9 * l.length
  | [], _ => by simp
  | x :: l, h => by
    have := flat_len l fun y hy => h y (by simp [hy])
    have := h x (by simp)
    simp only [List.flatten_cons, List.length_append, List.length_cons]; omega
theorem wheelsF_flat (k : Nat) : (∀ a ∈ (wheelsF f k).flatten, a < 9) ∧ (wheelsF f k).flatten.length ≤ 9 * k := by
  have hm : ∀ x ∈ wheelsF f k, ∃ p, x = wheelL f p := fun x hx => by
    obtain ⟨p, _, e⟩ := List.mem_map.1 hx; exact ⟨p, e.symm⟩
  refine ⟨fun a ha => ?_, ?_⟩
  · obtain ⟨x, hx, ha⟩ := List.mem_flatten.1 ha
    obtain ⟨p, rfl⟩ := hm x hx
    exact wheelL_lt a ha
  · have h1 := flat_len (wheelsF f k) fun x hx => by obtain ⟨p, rfl⟩ := hm x hx; exact wheelL_len p
    have h2 := wheelsF_len (f := f) k
    omega
/-- the first place of a wheel is not in an earlier one exactly if it is the place itself -/
theorem seen_iff {p : Nat} (hp : p < 9) (hl : 1 < (wheelL f p).length) {h : Nat} (hh : (wheelL f p).head? = some h) : h ∉ (wheelsF f p).flatten ↔ h = p := by
  obtain ⟨h', e, hle, hm⟩ := wheelL_head (f := f) hp
  rw [hh] at e; cases e
  have hc := (wheelL_mem.1 hm).2
  constructor
  · intro hn
    rcases Nat.lt_or_ge h p with h1 | h1
    · exfalso
      apply hn
      refine List.mem_flatten.2 ⟨wheelL f h, List.mem_map.2 ⟨h, List.mem_filter.2 ⟨by simpa using h1, ?_⟩, rfl⟩, wheelL_self (by omega)⟩
      unfold firstW
      rw [wheelL_congr hc, decide_eq_true_eq]
      exact ⟨hl, hh⟩
    · omega
  · rintro rfl hin
    obtain ⟨x, hx, ha⟩ := List.mem_flatten.1 hin
    obtain ⟨r, hr, rfl⟩ := List.mem_map.1 hx
    obtain ⟨hr1, hr2⟩ := List.mem_filter.1 hr
    unfold firstW at hr2
    rw [decide_eq_true_eq] at hr2
    have e1 := wheelL_congr (wheelL_mem.1 ha).2
    rw [← e1, hh] at hr2
    have := Option.some.inj hr2.2
    have : r < h := by simpa using hr1
    omega

/-- a ring's places have readers -/
theorem ring_pred {nx : Nat → Option Nat} {i : Nat} (h : OnR nx i) : ∃ j, nx j = some i := by
  obtain ⟨k, hk, e⟩ := h
  obtain ⟨k, rfl⟩ : ∃ m, k = m + 1 := ⟨k - 1, by omega⟩
  simp only [orb, Option.bind_eq_some_iff] at e
  obtain ⟨j, _, e⟩ := e
  exact ⟨j, e⟩
theorem ring_all {nx : Nat → Option Nat} (hn : Nice nx) {s : Nat} (hs : s < 19) (h : OnR nx s) : ∀ i ∈ way nx s, OnR nx i := by
  intro i hi
  have hr := way_rho hn hs
  have e := hr.onR.1 h
  obtain ⟨j, hj⟩ := List.getElem?_of_mem hi
  have hlt := (List.getElem?_eq_some_iff.1 hj).1
  rw [hr.at_ j hlt] at hj
  exact (hr.ring_at hr.pos (by rw [e]; rfl) hj).2 (Nat.zero_le _)
theorem ring_low {nx : Nat → Option Nat} (hn : Nice nx) {i : Nat} (h : OnR nx i) : i < 9 := by
  obtain ⟨k, hk, e⟩ := h
  obtain ⟨k, rfl⟩ : ∃ m, k = m + 1 := ⟨k - 1, by omega⟩
  rw [show k + 1 = 1 + k by omega, orb_add] at e
  cases h1 : orb nx i 1 with
  | none => rw [h1] at e; cases e
  | some j => exact hn.low i j (by simpa [orb] using h1)
/-- how many places read a spot -/
def rcount (f : Nat → ByteArray) (i : Nat) : Nat := (namesW (rdH f (sn i))).size
theorem rcount_pos {f : Nat → ByteArray} (hf : SV f) {i j : Nat} (hi : i < 19) (h : nxT f j = some i) : 1 ≤ rcount f i := by
  have hj := (nice hf).low _ _ h
  have hs : sx f j = i ∧ j ≠ i := by
    unfold nxT at h
    rw [if_pos hj] at h
    by_cases e : sx f j = j
    · rw [if_pos e] at h; cases h
    · rw [if_neg e, Option.some.injEq] at h; exact ⟨h, fun e2 => e (by rw [h, e2])⟩
  have hr : rdH f (sn i) j = true := by
    unfold rdH
    rw [← (sx_lt hf hj).2, hs.1, ← sn_nm j hj]
    simp only [decide_true, Bool.and_true, decide_eq_true_eq]
    exact fun e => hs.2 (sn_inj (by omega) hi e)
  unfold rcount namesW
  have : j ∈ (List.range 9).filter (rdH f (sn i)) := List.mem_filter.2 ⟨by simpa using hj, hr⟩
  have h0 := List.length_pos_of_mem this
  have e : (ByteArray.mk (namesL (rdH f (sn i)) (List.range 9)).toArray).size = ((List.range 9).filter (rdH f (sn i))).length := by simp [ByteArray.size, namesL]
  rw [e]; exact h0
/-- a ring that nobody reads from outside -/
def shut (f : Nat → ByteArray) (l : List Nat) : Bool := l.all fun i => decide (rcount f i ≤ 1)
theorem ring_one {f : Nat → ByteArray} (hf : SV f) {s : Nat} (hs : s < 19) (h : onRb (nxT f) s = true) {i : Nat} (hi : i ∈ way (nxT f) s) : (rcount f i ≤ 1 ↔ rcount f i = 1) := by
  have hn := nice hf
  have h1 := ring_all hn hs ((onRb_iff hn hs).1 h) i hi
  obtain ⟨j, hj⟩ := ring_pred h1
  have := rcount_pos hf ((way_rho hn hs).lt i hi) hj
  omega
end Go.PW
namespace Go.PW
open Go.PM
variable {f : Nat → ByteArray}
theorem namesW_txt (h : Nat → Bool) : namesW h = txt ((List.range 9).filter h) := by
  unfold namesW namesL txt
  congr 2
  refine List.map_congr_left fun p hp => ?_
  have hp9 : p < 9 := by simpa using (List.mem_filter.1 hp).1
  match p, hp9 with
  | 0, _ | 1, _ | 2, _ | 3, _ | 4, _ | 5, _ | 6, _ | 7, _ | 8, _ => rfl
/-- the places next to a place -/
def nbL (f : Nat → ByteArray) (q : Nat) : List Nat := (List.range 9).filter (rdH f (sn q)) ++ (if sx f q < 9 then [sx f q] else [])
theorem nbL_lt (q : Nat) : ∀ e ∈ nbL f q, e < 9 := by
  intro e he
  unfold nbL at he
  rw [List.mem_append] at he
  rcases he with he | he
  · simpa using (List.mem_filter.1 he).1
  · by_cases h : sx f q < 9
    · rw [if_pos h] at he; simp at he; omega
    · rw [if_neg h] at he; cases he
theorem nbL_len (q : Nat) : (nbL f q).length ≤ 10 := by
  unfold nbL
  rw [List.length_append]
  have h1 := List.length_filter_le (rdH f (sn q)) (List.range 9)
  by_cases h : sx f q < 9
  · rw [if_pos h]; simp at h1 ⊢; omega
  · rw [if_neg h]; simp at h1 ⊢; omega
theorem rdH_sx (hf : SV f) {q r : Nat} (hq : q < 19) (hr : r < 9) : rdH f (sn q) r = true ↔ r ≠ q ∧ sx f r = q := by
  unfold rdH
  rw [← (sx_lt hf hr).2, ← sn_nm r hr, Bool.and_eq_true, decide_eq_true_eq, decide_eq_true_eq]
  constructor
  · rintro ⟨h1, h2⟩
    exact ⟨fun e => h1 (by rw [e]), sn_inj (sx_lt hf hr).1 hq h2⟩
  · rintro ⟨h1, h2⟩
    exact ⟨fun e => h1 (sn_inj (by omega) hq e), by rw [h2]⟩
theorem nbL_hd (hf : SV f) {q : Nat} (hq : q < 9) : ∀ e ∈ nbL f q, hdF f 9 e = hdF f 9 q := by
  intro e he
  have he9 := nbL_lt q e he
  unfold nbL at he
  rw [List.mem_append] at he
  rcases he with he | he
  · have h := (rdH_sx hf (show q < 19 by omega) he9).1 (List.mem_filter.1 he).2
    have := hd_edge (f := f) 9 e he9 (by rw [h.2]; exact hq)
    rw [this, h.2]
  · by_cases h : sx f q < 9
    · rw [if_pos h] at he
      simp at he
      subst he
      exact (hd_edge (f := f) 9 q hq h).symm
    · rw [if_neg h] at he; cases he
/-- what the inner walk has made of l -/
structure Part (f : Nat → ByteArray) (p : Nat) (l m : List Nat) : Prop where
  pre : l <+: m
  nodup : m.Nodup
  lt : ∀ q ∈ m, q < 9
  in_ : ∀ q ∈ m, hdF f 9 q = hdF f 9 p
theorem Comp.part {p : Nat} {l : List Nat} {i : Nat} (h : Comp f p l i) : Part f p l l := ⟨List.prefix_refl _, h.nodup, h.lt, h.in_⟩
theorem Part.add {p : Nat} {l m : List Nat} {e : Nat} (h : Part f p l m) (he : e < 9) (hh : hdF f 9 e = hdF f 9 p) (hm : e ∉ m) : Part f p l (m ++ [e]) := by
  refine ⟨h.pre.trans (List.prefix_append _ _), ?_, fun q hq => ?_, fun q hq => ?_⟩
  · rw [List.nodup_append]
    exact ⟨h.nodup, by simp, fun a ha b hb e2 => by simp at hb; subst hb; subst e2; exact hm ha⟩
  · rw [List.mem_append] at hq
    rcases hq with hq | hq
    · exact h.lt q hq
    · simp at hq; omega
  · rw [List.mem_append] at hq
    rcases hq with hq | hq
    · exact h.in_ q hq
    · simp at hq; rw [hq]; exact hh
theorem Part.len {p : Nat} {l m : List Nat} (h : Part f p l m) : m.length ≤ 9 := nodup_le m 9 h.nodup h.lt
theorem Comp.start (f : Nat → ByteArray) {p : Nat} (hp : p < 9) : Comp f p [p] 0 :=
  ⟨by simp, fun q hq => by simp at hq; omega, by simp, fun q hq => by simp at hq; rw [hq], fun k q hk _ => by omega⟩
theorem Comp.next (hf : SV f) {p : Nat} {l m : List Nat} {i q : Nat} (h : Comp f p l i) (hq : l[i]? = some q) (hm : Part f p l m) (hn : ∀ e ∈ nbL f q, e ∈ m) : Comp f p m (i + 1) := by
  have hsub : ∀ x ∈ l, x ∈ m := fun x hx => hm.pre.subset hx
  refine ⟨hm.nodup, hm.lt, hsub p h.has, hm.in_, fun k x hk hx => ?_⟩
  obtain ⟨t, ht⟩ := hm.pre
  have hil := (List.getElem?_eq_some_iff.1 hq).1
  have hx2 : l[k]? = some x := by
    rw [← ht, List.getElem?_append_left (by omega)] at hx; exact hx
  by_cases hki : k = i
  · subst hki
    rw [hq] at hx2
    obtain rfl : q = x := Option.some.inj hx2
    have hqm : q ∈ m := hsub q (List.mem_of_getElem? hq)
    refine ⟨fun h9 => hn _ ?_, fun r hr he => ?_⟩
    · unfold nbL; rw [if_pos h9]; simp
    · by_cases e : r = q
      · rw [e]; exact hqm
      · refine hn r ?_
        unfold nbL
        rw [List.mem_append]
        left
        have hx9 := hm.lt q hqm
        exact List.mem_filter.2 ⟨by simpa using hr, (rdH_sx hf (by omega) hr).2 ⟨e, he⟩⟩
  · have := h.out k x (by omega) hx2
    exact ⟨fun h9 => hsub _ (this.1 h9), fun r hr he => hsub _ (this.2 r hr he)⟩
theorem wheel_all {p : Nat} {l : List Nat} (h : Comp f p l l.length) : (List.range 9).filter (fun q => decide (q ∈ l)) = wheelL f p := by
  unfold wheelL
  refine List.filter_congr fun q hq => ?_
  have hq9 : q < 9 := by simpa using hq
  unfold wheelH
  rw [decide_eq_decide]
  exact h.all q hq9
end Go.PW
namespace Go.Proofs.YtogkodjlbdlgjaaGreat
open Go.RowKit Go.PM Go.PW Go.Lib

end Go.Proofs.YtogkodjlbdlgjaaGreat
namespace Go.Proofs.YtogkodjlbdlgjaaGreat
open Go.RowKit Go.PM Go.PW Go.Lib

end Go.Proofs.YtogkodjlbdlgjaaGreat
namespace Go.PW
open Go.RowKit Go.PM
abbrev zW : Array Value := #[.int .i64 0, .int .i64 0, .int .i64 0, .int .i64 0, .int .i64 0, .int .i64 0, .int .i64 0, .int .i64 0, .int .i64 0]
theorem zW_eq : zW = whA (fun _ => 0) := rfl
/-- the first k places lead to themselves -/
def idK (k : Nat) : Nat → Nat := fun q => if q < k then q else 0
theorem idK_zero : whA (idK 0) = zW := by simp [idK, whA, zW]
theorem idK_succ (k : Nat) : (fun r => if r = k then k else idK k r) = idK (k + 1) := by
  funext q
  unfold idK
  by_cases h : q = k
  · subst h; simp
  · by_cases h2 : q < k
    · simp [h, h2, Nat.lt_succ_of_lt h2]
    · have : ¬ q < k + 1 := by omega
      simp [h, h2, this]
theorem idK_nine : whA (idK 9) = whA (fun q => q) := by simp [idK, whA]
theorem isP_sn' {a : ByteArray} (h : isP a = true) : a = sn (pidx a) := by
  have := pidx_spec h
  rw [sn_nm _ this.1, this.2]
end Go.PW
namespace Go.Proofs.YtogkodjlbdlgjaaGreat
open Go.RowKit Go.PM Go.PW
attribute [local go_sem] Oper.semAt_some

def whB (xs : List Mv) (a : ByteArray) : ByteArray := txt (wheelL (tabOf xs) (pidx a))
end Go.Proofs.YtogkodjlbdlgjaaGreat
namespace Go.Proofs.YtogkodjlbdlgjaaGreat
open Go.RowKit Go.PM Go.ChangeShapes Go.WideShapes Go.Deep

theorem own : ownKnob Tryz.prog.godebug = none := by kernel_rfl
theorem laidOut : laidOutB Tryz.prog = true := by kernel_rfl

theorem exists_list {α : Type} (Q : Nat → α → Prop) : ∀ n, (∀ i, i < n → ∃ m, Q i m) → ∃ xs : List α, xs.length = n ∧ ∀ i (h : i < xs.length), Q i xs[i]
  | 0, _ => ⟨[], rfl, fun i h => absurd h (Nat.not_lt_zero _)⟩
  | n + 1, h => by
    obtain ⟨xs, hl, hx⟩ := exists_list Q n fun i hi => h i (by omega)
    obtain ⟨m, hm⟩ := h n (by omega)
    refine ⟨xs ++ [m], by simp [hl], fun i hi => ?_⟩
    by_cases h1 : i < xs.length
    · rw [List.getElem_append_left h1]; exact hx i h1
    · have h2 : i = xs.length := by simp at hi; omega
      subst h2
      rw [List.getElem_append_right (Nat.le_refl _)]
      simpa [hl] using hm

theorem rdM_mk {w : World} {ad : Addr} {cap : Nat} (xs : List Mv) (hc : xs.length ≤ cap) (hn : xs.length ≤ 9223372036854775807)
    (h : ∀ i (hi : i < xs.length), w.cell? (ad.add (i * 2)) = some (.string xs[i].1) ∧ w.cell? ((ad.add (i * 2)).add 1) = some (.string xs[i].2)) : RdM w (.slice (some ad) xs.length cap) xs := by
  refine ⟨some ad, cap, rfl, hc, hn, mcells_length xs, fun h0 => ?_⟩
  have h1 := (h 0 h0).1
  obtain ⟨b, off, spot⟩ := ad
  have hs : spot = none := by
    have := World.cell?_spot h1
    simpa [Addr.add] using this
  subst hs
  have hadd : ∀ o i, (Addr.mk b o none).add i = ⟨b, o + i, none⟩ := fun o i => by
    unfold Addr.add; split
    · next h => subst h; rfl
    · rfl
  refine ⟨b, off, rfl, ?_, fun j u hu => ?_⟩
  · rcases Nat.lt_or_ge b w.heap.size with hlt | hge
    · exact hlt
    · rw [hadd] at h1
      simp [World.cell?, Array.getElem?_eq_none hge] at h1
  · have hj : j < xs.length * 2 := by rw [← mcells_length]; exact (List.getElem?_eq_some_iff.1 hu).1
    have hk : j / 2 < xs.length := by omega
    have hm := mcells_at xs (j / 2) _ (List.getElem?_eq_getElem hk)
    have hh := h (j / 2) hk
    rw [hadd, hadd] at hh
    rcases Nat.mod_two_eq_zero_or_one j with h0 | h0
    · have e : j / 2 * 2 = j := by omega
      rw [e] at hm hh
      rw [hm.1] at hu
      rw [hh.1, hu]
    · have e : j / 2 * 2 + 1 = j := by omega
      rw [e] at hm
      rw [Nat.add_assoc, e] at hh
      rw [hm.2] at hu
      rw [hh.2, hu]

end Go.Proofs.YtogkodjlbdlgjaaGreat
namespace Go.Proofs.YtogkodjlbdlgjaaGreat
open Go.RowKit Go.PM
open Go.ChangeShapes Go.WideShapes Go.Deep in
set_option maxRecDepth 100000 in
theorem open_bytes {H : Type} {enc : TypeId × Value → H} {W : World} {base fuel : Nat} {spare : Nat → Bool} {held : Bool} {a : Option Addr} {n c : Nat} {x : DataW H × List MemPlace}
    (h : DataW.trod enc Tryz.prog W base spare held fuel 22 [.slice a n c] = some x) : RdB W W.heap.size (.slice a n c) n := by
  rcases open_slice Tryz.underlying22 h with ⟨hcs, _⟩ | ⟨ad, len, cap, m, k, D, Pl, hcs, hb, hl, hm, hmm, hx, hi⟩
  · simp at hcs
    obtain ⟨rfl, rfl, rfl⟩ := hcs
    exact ⟨none, 0, rfl, by omega, by omega, fun k hk => absurd hk (Nat.not_lt_zero k)⟩
  · simp at hcs
    obtain ⟨rfl, rfl, rfl⟩ := hcs
    have hC : Tryz.prog.cellsOf 5 = 1 := by kernel_rfl
    have hml : n ≤ m := by rw [hmm]; split <;> omega
    have hM : maxLen = 9223372036854775807 := rfl
    have hcell : ∀ i, i < n → ∃ kk, W.cell? (ad.add i) = some (.int .u8 kk) ∧ 0 ≤ kk ∧ kk ≤ 255 := fun i hin => by
      obtain ⟨cs', hc', ht⟩ := hi i (by omega)
      rw [hC] at hc'
      obtain ⟨kk, hk, _, hwf⟩ := DataW.trod_int Tryz.underlying5 ht
      subst hk
      obtain ⟨_, hcl, hat⟩ := World.cells?_some hc'
      have h1 := hat 0 (by omega)
      refine ⟨kk, by simpa [Addr.add] using h1, ?_⟩
      simpa [Lit.wf, IntKind.min, IntKind.max, IntKind.signed, IntKind.bits] using hwf
    clear hi hx h
    refine ⟨some ad, c, rfl, by omega, by omega, fun i hin => ?_⟩
    obtain ⟨b, off, spot⟩ := ad
    have hs : spot = none := by
      obtain ⟨_, h0, _⟩ := hcell 0 (by omega)
      have := World.cell?_spot h0
      simpa [Addr.add] using this
    subst hs
    obtain ⟨kk, h1, hw1, hw2⟩ := hcell i hin
    have hadd : (Addr.mk b off none).add i = ⟨b, off + i, none⟩ := by
      unfold Addr.add; split
      · next h => subst h; rfl
      · rfl
    rw [hadd] at h1
    have hb : b < W.heap.size := by
      rcases Nat.lt_or_ge b W.heap.size with hlt | hge
      · exact hlt
      · simp [World.cell?, Array.getElem?_eq_none hge] at h1
    exact ⟨b, off, kk, rfl, hb, hb, h1, hw1, by omega⟩
end Go.Proofs.YtogkodjlbdlgjaaGreat
namespace Go.PM
open Go.RowKit
/-- one of a text's letters is the given text -/
def pmH (s c : ByteArray) : Bool := (List.range s.size).any fun i => decide (s.extract i (i + 1) = c)
def pmK (s c : ByteArray) (k : Nat) : Bool := (List.range k).any fun i => decide (s.extract i (i + 1) = c)
theorem pmK_succ (s c : ByteArray) (k : Nat) : pmK s c (k + 1) = (pmK s c k || decide (s.extract k (k + 1) = c)) := by
  simp [pmK, List.range_succ]
theorem pmK_yes {s c : ByteArray} (k : Nat) (hk : k < s.size) (h : s.extract k (k + 1) = c) : pmH s c = true := by
  rw [pmH, List.any_eq_true]
  exact ⟨k, by simpa using hk, decide_eq_true h⟩
theorem extract_at (s : ByteArray) (i : Nat) (h : i < s.size) : s.extract i (i + 1) = ⟨#[s[i]]⟩ := by
  apply ByteArray.ext
  apply Array.ext
  · simp only [ByteArray.data_extract, Array.size_extract]
    have : s.data.size = s.size := rfl
    simp; omega
  · intro j h1 h2
    have hj : j = 0 := by simpa using h2
    subst hj
    simp
    rfl
theorem pmH_one (s : ByteArray) (c : UInt8) : pmH s ⟨#[c]⟩ = decide (c ∈ s.data.toList) := by
  rw [pmH, Bool.eq_iff_iff, List.any_eq_true, decide_eq_true_eq]
  constructor
  · rintro ⟨i, hi, h⟩
    have hi' : i < s.size := by simpa using hi
    have h' := of_decide_eq_true h
    rw [extract_at s i hi'] at h'
    have : s[i] = c := by simpa using h'
    rw [← this]
    exact List.getElem_mem (l := s.data.toList) (n := i) (by simpa using hi')
  · intro h
    obtain ⟨i, hi, e⟩ := List.getElem_of_mem h
    have hi' : i < s.size := by simpa using hi
    refine ⟨i, by simpa using hi', decide_eq_true ?_⟩
    rw [extract_at s i hi', ← e]
    rfl
theorem place_inj : ∀ p < 9, ∀ q < 9, placesL.getD q 0 = placesL.getD p 0 → q = p := by decide +kernel
theorem nm_byte (p : Nat) (hp : p < 9) : nm p = ⟨#[placesL.getD p 0]⟩ := by
  match p, hp with
  | 0, _ | 1, _ | 2, _ | 3, _ | 4, _ | 5, _ | 6, _ | 7, _ | 8, _ => decide +kernel
theorem pmH_names (h : Nat → Bool) (p : Nat) (hp : p < 9) : pmH (namesW h) (nm p) = h p := by
  rw [nm_byte p hp, pmH_one, Bool.eq_iff_iff, decide_eq_true_eq]
  unfold namesW namesL
  simp only [List.mem_map, List.mem_filter, List.mem_range]
  constructor
  · rintro ⟨q, ⟨hq, hh⟩, e⟩
    rw [place_inj p hp q hq e] at hh; exact hh
  · intro hh; exact ⟨p, ⟨hp, hh⟩, rfl⟩
theorem srcM_isS {xs : List Mv} (h : MV xs) {a : ByteArray} (ha : isP a = true) : isS (srcM xs a) = true := by
  unfold srcM
  cases hf : xs.find? (fun m => decide (m.1 = a)) with
  | none => show isS a = true; unfold isS; rw [ha]; rfl
  | some m =>
    have hm := h.1 m (List.mem_of_find?_eq_some hf)
    unfold mok at hm; rw [Bool.and_eq_true] at hm
    exact hm.2
theorem nm_of_isP {a : ByteArray} (h : isP a = true) : ∃ p, p < 9 ∧ a = nm p := by
  obtain ⟨c, rfl⟩ := one_of_size (isP_size h)
  have h2 : c ∈ placesL := by simpa [isP] using h
  simp only [placesL, List.mem_cons, List.not_mem_nil, or_false] at h2
  rcases h2 with rfl | rfl | rfl | rfl | rfl | rfl | rfl | rfl | rfl
  · exact ⟨0, by decide, by decide +kernel⟩
  · exact ⟨1, by decide, by decide +kernel⟩
  · exact ⟨2, by decide, by decide +kernel⟩
  · exact ⟨3, by decide, by decide +kernel⟩
  · exact ⟨4, by decide, by decide +kernel⟩
  · exact ⟨5, by decide, by decide +kernel⟩
  · exact ⟨6, by decide, by decide +kernel⟩
  · exact ⟨7, by decide, by decide +kernel⟩
  · exact ⟨8, by decide, by decide +kernel⟩
end Go.PM
namespace Go.Proofs.YtogkodjlbdlgjaaGreat
open Go.RowKit Go.PM
theorem pmH_rdrs {xs : List Mv} (h : MV xs) (a : ByteArray) (p : Nat) (hp : p < 9) : pmH (rdrs xs a) (nm p) = (decide (nm p ≠ a) && decide (srcM xs (nm p) = a)) := by
  rw [rdrs, ← rsH_rdH h, pmH_names _ p hp]; rfl
theorem pmH_source {xs : List Mv} (h : MV xs) {a : ByteArray} (ha : isP a = true) (hne : ¬ srcM xs a = a) : pmH (rdrs xs (srcM xs a)) a = true := by
  obtain ⟨p, hp, rfl⟩ := nm_of_isP ha
  rw [pmH_rdrs h _ p hp]
  have h1 : nm p ≠ srcM xs (nm p) := fun e => hne e.symm
  simp [h1]
theorem rdrs_size (xs : List Mv) (a : ByteArray) : (rdrs xs a).size ≤ 9 := namesL_size _ 9

set_option maxHeartbeats 800000 in
theorem pmHas_c (s c : ByteArray) (w : World) (hs : s.size ≤ 1000) :
    Calls Tryz.prog 16 #[.string s, .string c] w fun e w' => e = .returned (.bool (pmH s c)) ∧ Below w.heap.size w w' := by
  have HF : Hid (pmK s c s.size = pmH s c) := rfl
  go_enter Tryz.func16, Tryz.ntmps16
  go_wp2
  go_loopw [5, 8] (fun _ i wr => ∃ (k : Nat), k ≤ s.size ∧ i = .int .i64 k ∧ Hid (pmK s c k = false) ∧ Below w.heap.size w wr) (fun _ i _ => s.size - (intOf i).toNat)
  case atStart => exact ⟨0, by omega, rfl, rfl, Below.refl _ _⟩
  case round =>
    obtain ⟨k, hk, rfl, hp, hb⟩ := hrel
    have hbs := hb.size
    by_cases hlt : k < s.size
    · have i1 : (k : Int) < (s.size : Int) := by omega
      have HS := Lib.hid (pmK_succ s c k)
      have HY := Lib.hid (fun h => pmK_yes (s := s) (c := c) k hlt h)
      have hb2 := beq_str (s.extract k (k + 1)) c
      by_cases he : s.extract k (k + 1) = c
      · have H1 := Lib.hid (HY.out he)
        have q : ((s.extract k (k + 1)).toList == c.toList) = true := by rw [hb2, decide_eq_true he]
        clear hb2 he
        go_wp2
        go_ret
        exact ⟨by rw [H1.out]; rfl, hb⟩
      · have H1 : Hid (pmK s c (k + 1) = false) := by show _ = _; rw [HS.out, hp.out, decide_eq_false he]; rfl
        have q : ((s.extract k (k + 1)).toList == c.toList) = false := by rw [hb2, decide_eq_false he]
        clear hb2 he
        go_wp2
        go_roundw
        case rel => exact ⟨k + 1, by omega, by go_num, H1, hb⟩
        case measure => simp [intOf] <;> omega
    · have hk' : k = s.size := by omega
      have H1 : Hid (pmH s c = false) := by show _ = _; rw [← HF.out, ← hk']; exact hp.out
      clear hk'
      go_wp2
      go_ret
      exact ⟨by rw [H1.out]; rfl, hb⟩
end Go.Proofs.YtogkodjlbdlgjaaGreat
namespace Go.PM
open Go.RowKit
theorem place_of {a : ByteArray} (h : isP a = true) : ∃ p, p < 9 ∧ a = nm p := ⟨pidx a, (pidx_spec h).1, (pidx_spec h).2.symm⟩
def pmI (s : ByteArray) : Int := if isP s then (pidx s : Int) else -1
theorem pmI_yes {p : Nat} (hp : p < 9) {s : ByteArray} (h : nm p = s) : pmI s = p := by
  subst h
  rw [pmI, if_pos (isP_nm hp), pidx_nm hp]
theorem pmI_no {s : ByteArray} (h : ∀ p, p < 9 → ¬ nm p = s) : pmI s = -1 := by
  refine if_neg fun hp => ?_
  obtain ⟨p, hp9, e⟩ := place_of hp
  exact h p hp9 e.symm
end Go.PM
namespace Go.Proofs.YtogkodjlbdlgjaaGreat
open Go.RowKit Go.PM
end Go.Proofs.YtogkodjlbdlgjaaGreat
namespace Go.PW
open Go.PM Go.RowKit Go.Lib
variable {f : Nat → ByteArray} {s : Nat}
theorem wb_some (hf : SV f) (hs : s < 19) {i : Nat} (hi : i + 1 < (way (nxT f) s).length) : (way (nxT f) s)[i] < 9 ∧ sx f (way (nxT f) s)[i] = (way (nxT f) s)[i + 1] := by
  have hr := way_rho (nice hf) hs
  obtain ⟨a, t, e1, e2, e3⟩ := hr.step (j := i) hi
  rw [hr.some_ (j := i) (by omega)] at e1
  rw [hr.some_ (j := i + 1) hi] at e3
  obtain rfl := Option.some.inj e1
  obtain rfl := Option.some.inj e3
  have h9 := (nice hf).low _ _ e2
  refine ⟨h9, ?_⟩
  by_cases e : sx f (way (nxT f) s)[i] = (way (nxT f) s)[i]
  · rw [nxT_stay h9 e] at e2; cases e2
  · rw [nxT_some h9 e] at e2; exact Option.some.inj e2
theorem wb_zero (hf : SV f) (hs : s < 19) (h0 : 0 < (way (nxT f) s).length) : (way (nxT f) s)[0] = s := by
  have hr := way_rho (nice hf) hs
  have := hr.some_ h0
  exact (Option.some.inj this).symm
theorem wb_wheel (hf : SV f) (hs : s < 9) : ∀ i (hi : i < (way (nxT f) s).length), (way (nxT f) s)[i] < 9 → (way (nxT f) s)[i] ∈ wheelL f s := by
  intro i
  induction i with
  | zero => intro hi h9; rw [wb_zero hf (by omega) hi]; exact wheelL_self hs
  | succ i ih =>
    intro hi h9
    have h1 := wb_some hf (show s < 19 by omega) hi
    have h2 := ih (by omega) h1.1
    refine wheelL_mem.2 ⟨h9, ?_⟩
    rw [← (wheelL_mem.1 h2).2, ← h1.2]
    exact (hd_edge (f := f) 9 _ h1.1 (by rw [h1.2]; exact h9)).symm
theorem wb_fresh (hf : SV f) (hs : s < 19) {i : Nat} (hi : i < (way (nxT f) s).length) : (way (nxT f) s)[i] ∉ (way (nxT f) s).take i := by
  intro hm
  have hr := way_rho (nice hf) hs
  obtain ⟨j, hj⟩ := List.getElem?_of_mem hm
  have hjl := (List.getElem?_eq_some_iff.1 hj).1
  rw [List.length_take] at hjl
  have h2 : (way (nxT f) s)[j]? = some (way (nxT f) s)[i] := by
    rw [List.getElem?_take] at hj
    rw [if_pos (by omega)] at hj
    exact hj
  obtain ⟨h3, h4⟩ := List.getElem?_eq_some_iff.1 h2
  have := (List.getElem_inj hr.nodup).1 h4
  omega
theorem wb_last (hf : SV f) (hs : s < 19) {i : Nat} (hl : (way (nxT f) s)[(way (nxT f) s).length - 1]? = some i) (hi : i < 9) : sx f i ∈ way (nxT f) s := by
  have hr := way_rho (nice hf) hs
  have hp := hr.pos
  have h1 : orb (nxT f) s ((way (nxT f) s).length - 1) = some i := by rw [← hr.at_ _ (by omega)]; exact hl
  have h2 : orb (nxT f) s (way (nxT f) s).length = nxT f i := by
    have : orb (nxT f) s ((way (nxT f) s).length - 1 + 1) = (orb (nxT f) s ((way (nxT f) s).length - 1)).bind (nxT f) := rfl
    rw [show (way (nxT f) s).length - 1 + 1 = (way (nxT f) s).length by omega, h1] at this
    exact this
  by_cases e : sx f i = i
  · rw [e]; exact List.mem_of_getElem? hl
  · rw [nxT_some hi e] at h2
    rcases hr.last with h3 | ⟨mu, hmu, h3⟩
    · rw [h2] at h3; cases h3
    · rw [h2, hr.some_ hmu] at h3
      rw [Option.some.inj h3]
      exact List.getElem_mem hmu
theorem wb_depth (hf : SV f) (hs : s < 19) : depN (nxT f) s < (way (nxT f) s).length := by
  have hr := way_rho (nice hf) hs
  obtain ⟨D, hD, hc⟩ := hr.stops
  have := (depN_stops (nice hf) hs).unique hD
  rcases hc with ⟨_, h⟩ | ⟨h, _⟩ <;> omega
theorem pmH_txt {l : List Nat} (hl : ∀ a ∈ l, a < 19) {i : Nat} (hi : i < 19) : pmH (txt l) (sn i) = decide (i ∈ l) := by
  show pmH (txt l) ⟨#[ch i]⟩ = _
  rw [pmH_one, decide_eq_decide]
  exact txt_mem hl hi
theorem pmI_sn {i : Nat} (hi : i < 19) : pmI (sn i) = if i < 9 then (i : Int) else -1 := by
  unfold pmI
  rw [(ch_all i hi).2.2.1]
  by_cases h : i < 9
  · rw [if_pos (by simpa using h), if_pos h, sn_nm i h, pidx_nm h]
  · rw [if_neg (by simpa using h), if_neg h]
theorem txt_extract (l : List Nat) (j : Nat) (hj : j < l.length) : (txt l).extract j (j + 1) = sn l[j] := by
  have hz := txt_size l
  rw [extract_one _ _ (by omega), txt_list, List.getD_eq_getElem?_getD, List.getElem?_map, List.getElem?_eq_getElem hj]; rfl
theorem txt_take (l : List Nat) (j : Nat) : (txt l).extract 0 j = txt (l.take j) := by
  apply ByteArray.ext
  rw [ByteArray.data_extract]
  apply Array.ext'
  simp [txt, List.extract_eq_take_drop, List.map_take]
end Go.PW
namespace Go.Proofs.YtogkodjlbdlgjaaGreat
open Go.RowKit Go.PM Go.PW
theorem wb_all {xs : List Mv} (h : MV xs) {a : ByteArray} (ha : isP a = true) : ∃ (wy wh : List Nat) (s0 D : Nat), s0 < 9 ∧ a = sn s0 ∧ wayB xs a = txt wy ∧ whB xs a = txt wh ∧ depthI xs a = (D : Int) ∧ wy.length ≤ 19 ∧ 0 < wy.length ∧ (∀ x ∈ wy, x < 19) ∧
    (∀ i (hi : i + 1 < wy.length), wy[i] < 9 ∧ sx (tabOf xs) wy[i] = wy[i + 1]) ∧ (∀ i (hi : i < wy.length), wy[i] < 9 → wy[i] ∈ wh) ∧ (∀ i (hi : i < wy.length), wy[i] ∉ wy.take i) ∧
    (∀ i, wy[wy.length - 1]? = some i → i < 9 → sx (tabOf xs) i ∈ wy) ∧ (∀ hi : 0 < wy.length, wy[0] = s0) ∧ D < wy.length ∧ (∀ x ∈ wh, x < 19) ∧ wh.length ≤ 9 := by
  have hf := SV_tab h
  have hs9 := (pidx_spec ha).1
  have hs : pidx a < 19 := by omega
  have hm : mvalid xs = true := by simpa [mvalid] using h
  have hr := way_rho (nice hf) hs
  refine ⟨way (nxT (tabOf xs)) (pidx a), wheelL (tabOf xs) (pidx a), pidx a, depN (nxT (tabOf xs)) (pidx a), hs9, isP_sn ha, rfl, rfl, ?_, hr.len, hr.pos, hr.lt, fun i hi => wb_some hf hs hi, wb_wheel hf hs9, fun i hi => wb_fresh hf hs hi, fun i hl hi => wb_last hf hs hl hi, fun hi => wb_zero hf hs hi, wb_depth hf hs, fun x hx => by have := wheelL_lt x hx; omega, wheelL_len _⟩
  unfold depthI
  rw [hm, ha]; rfl
end Go.Proofs.YtogkodjlbdlgjaaGreat
namespace Go.PM
open Go.RowKit
def tcells (ts : List ByteArray) : List Value := ts.map Value.string
theorem tcells_length (ts : List ByteArray) : (tcells ts).length = ts.length := by simp [tcells]
theorem tcells_append (a b : List ByteArray) : tcells (a ++ b) = tcells a ++ tcells b := by simp [tcells]
def RdT (w : World) (v : Value) (ts : List ByteArray) : Prop := Rd w 1 v ts.length (tcells ts)
theorem RdT.below {w w' : World} {v : Value} {ts : List ByteArray} (h : RdT w v ts) (hb : Below w.heap.size w w') : RdT w' v ts := Rd.below h hb
theorem RdT.open {w : World} {v : Value} {ts : List ByteArray} (h : RdT w v ts) : ∃ A cap, v = .slice A ts.length cap ∧ ts.length ≤ 9223372036854775807 ∧ ts.length ≤ cap ∧
    ∀ k (hk : k < ts.length), ∃ b off, A = some ⟨b, off, none⟩ ∧ b < w.heap.size ∧ w.cell? ⟨b, off + k, none⟩ = some (.string ts[k]) := by
  obtain ⟨A, cap, e, hc, hn, hl, hr⟩ := h
  refine ⟨A, cap, e, hn, hc, fun k hk => ?_⟩
  obtain ⟨b, off, eA, hb, hcell⟩ := hr (by omega)
  exact ⟨b, off, eA, hb, hcell _ _ (by unfold tcells; rw [List.getElem?_map, List.getElem?_eq_getElem hk]; rfl)⟩
/-- n marked texts, the first mark being number k -/
def tmarks : Nat → Nat → List ByteArray
  | 0, _ => []
  | n + 1, k => mT k :: tmarks n (k + 1)
theorem tmarks_length (n k : Nat) : (tmarks n k).length = n := by
  induction n generalizing k with
  | zero => rfl
  | succ n ih => simp [tmarks, ih]
theorem tmarks_at (n k i : Nat) (h : i < (tmarks n k).length) : (tmarks n k)[i] = mT (k + i) := by
  induction n generalizing k i with
  | zero => simp [tmarks] at h
  | succ n ih =>
    cases i with
    | zero => rfl
    | succ i =>
      simp only [tmarks, List.getElem_cons_succ]
      rw [ih]
      congr 1; omega
def tmix (ts : List ByteArray) (i k : Nat) : List ByteArray := tmarks i k ++ ts.drop i
theorem tmarks_snoc (i k : Nat) : tmarks (i + 1) k = tmarks i k ++ [mT (k + i)] := by
  induction i generalizing k with
  | zero => rfl
  | succ i ih =>
    rw [tmarks, ih (k + 1)]
    simp only [tmarks, List.cons_append]
    rw [show k + 1 + i = k + (i + 1) by omega]
theorem tmix_length (ts : List ByteArray) (i k : Nat) (h : i ≤ ts.length) : (tmix ts i k).length = ts.length := by
  simp [tmix, tmarks_length]; omega
theorem tmix_set (ts : List ByteArray) (i k : Nat) (h : i < ts.length) : (tcells (tmix ts i k)).set i (.string (mT (k + i))) = tcells (tmix ts (i + 1) k) := by
  have hl : (tcells (tmarks i k)).length = i := by rw [tcells_length, tmarks_length]
  unfold tmix
  rw [tmarks_snoc, List.drop_eq_getElem_cons h, tcells_append, tcells_append, tcells_append]
  rw [List.set_append_right _ _ (by omega), hl, Nat.sub_self]
  simp only [tcells, List.map_cons, List.map_nil, List.set_cons_zero, List.append_assoc, List.cons_append, List.nil_append]
end Go.PM
namespace Go.Proofs.YtogkodjlbdlgjaaGreat
open Go.RowKit Go.PM

end Go.Proofs.YtogkodjlbdlgjaaGreat
namespace Go.PW
open Go.PM
def ringsT (nx : Nat → Option Nat) (k : Nat) : List ByteArray := (ringsF nx k).map txt
def ringsB (xs : List Mv) : List ByteArray := if mvalid xs then ringsT (nxT (tabOf xs)) 9 else []
theorem ringsB_len (xs : List Mv) : (ringsB xs).length ≤ 1000 := by
  unfold ringsB
  by_cases h : mvalid xs = true
  · rw [if_pos h]
    have := (ringsF_lt (nice (SV_tab (by simpa [mvalid] using h))) 9 (by omega)).2.1
    unfold ringsT; rw [List.length_map]; omega
  · rw [if_neg h]; simp
theorem way_first (nx : Nat → Option Nat) (s : Nat) (hn : Nice nx) (hs : s < 19) : ∃ l, way nx s = s :: l := by
  have hr := way_rho hn hs
  have h1 := hr.at_ 0 hr.pos
  cases hw : way nx s with
  | nil => have := hr.pos; rw [hw] at this; simp at this
  | cons a l =>
    rw [hw] at h1
    simp only [List.getElem?_cons_zero, orb, Option.some.injEq] at h1
    subst h1; exact ⟨l, rfl⟩
end Go.PW
namespace Go.Proofs.YtogkodjlbdlgjaaGreat
open Go.RowKit Go.PM Go.PW Go.Lib

end Go.Proofs.YtogkodjlbdlgjaaGreat
namespace Go.PM
open Go.RowKit
variable {F : Fence} {n : Nat} {P : Program}
/-- the same contract, of a function that reads what the caller keeps and writes to blocks of its own -/
def IterW {α : Type} (Pr : World → Prop) (κ : Nat) (F : Fence) (n : Nat) (P : Program) (gf : Nat) (mk : Value → Array Value) (encs : α → Array Value) (xs : List α) : Prop :=
  ∀ (l : Nat) (J Jx : List α → World → Prop) (W : World),
    OwnFrom W.heap.size J → OwnFrom W.heap.size Jx → (∀ pre A, J pre A → Pr A) → (∀ pre A A' r, J pre A → W.heap.size ≤ r → r < W.heap.size + κ → A.grownBy A' (some r) → J pre A') →
    (∀ pre x A, J pre A → W.heap.size + κ ≤ A.heap.size → pre ++ [x] <+: xs → YieldAt F (n - 1) P l (encs x) A fun e A' =>
      (e = .returned (.bool true) ∧ J (pre ++ [x]) A' ∧ KeepsIn W.heap.size κ A A' ∧ KeepsFrom W.heap.size A A') ∨ (e = .returned (.bool false) ∧ Jx (pre ++ [x]) A' ∧ A.heap.size ≤ A'.heap.size ∧ KeepsFrom W.heap.size A A')) →
    J [] W →
    CallsIn F n P gf (mk (.func (.yield l) #[] #[])) W fun e W' => (∃ v, e = .returned v) ∧ (J xs W' ∨ ∃ pre, pre <+: xs ∧ Jx pre W')
theorem range_law4 {α : Type} {Pr : World → Prop} {g : Operand} {ps : Array Tmp} {assign body : Code} {Q : Exit → Act → World → Prop} {a : Act} {w : World} (hro : F.round = none) (h1 : 1 ≤ n)
    {gf : Nat} {lf lb : Array Value} (hg : a.eval g = .func (.func gf) lf lb) (hFg : F.fn gf) (eg : ∀ args w, (callFunc gf args).run P w = .ok (.enter gf args) w)
    {encs : α → Array Value} {xs : List α} {κ : Nat} (hit : IterW Pr κ F (n - 1) P gf (fun y => lf ++ #[y] ++ lb) encs xs) (hps : ∀ x, (encs x).size = ps.size)
    (I : List α → World → Prop) (Ix : Code → List α → World → Prop) (hPr : ∀ pre A, I pre A → Pr A) (hIW : ∀ pre A A' r, I pre A → w.heap.size + 2 ≤ r → r < w.heap.size + 2 + κ → A.grownBy A' (some r) → I pre A') (hI : OwnFrom w.heap.size I) (hIx : ∀ c, OwnFrom w.heap.size (Ix c)) (h0 : I [] w) (Ax : α → Act → World → Prop) (hAx : ∀ x a', OwnFrom w.heap.size (fun (_ : Unit) W => Ax x a' W))
    (hassign : ∀ (l : Nat) (pre : List α) (x : α) (W : World) (K : Act → World → Prop), I pre W → pre ++ [x] <+: xs → w.heap.size + 2 + κ ≤ W.heap.size → (∀ a' W', KeepsNew w.heap.size W W' → I pre W' → Ax x a' W' → K a' W') →
      assign.wpIn (F.inRound l) (n - 1 - 1) P (Exit.then K (fun _ _ _ => False)) { tmps := (ps.zip (encs x)).foldl (fun t (p, v) => t.setIfInBounds p v) a.tmps, defers := [] } W)
    (hbody : ∀ (l : Nat) (pre : List α) (x : α) (a' : Act) (W : World), I pre W → Ax x a' W → pre ++ [x] <+: xs → w.heap.size + 2 + κ ≤ W.heap.size → body.wpIn (F.inRound l) (n - 1 - 1) P (ownPostG w.heap.size (KeepsIn (w.heap.size + 2) κ) I Ix (pre ++ [x]) W) a' W)
    (hdone : ∀ (D : Nat) (W : World), w.heap.size ≤ D → I xs W → W.heap[D]? = some (.deferred (some [])) → Q .normal { a with defers := { target := .collected D, args := #[] } :: a.defers } W)
    (hstop : ∀ (D : Nat) (c : Code) (pre : List α) (W : World), w.heap.size ≤ D → pre <+: xs → Ix c pre W → W.heap[D]? = some (.deferred (some [])) → c.wpIn F n P Q { a with defers := { target := .collected D, args := #[] } :: a.defers } W) :
    (Code.rangeFunc g ps assign body).wpIn F n P Q a w := by
  refine wpIn_rangeFunc fun fn hfn => ?_
  rw [hro]
  have key : ∃ rc : LoopState → Option Code → Loop, rc = fun s j => { state := s, pending := j, fn, tmps := a.tmps, params := ps, assign, body, defers := w.heap.size } := ⟨_, rfl⟩
  obtain ⟨rc, hrc⟩ := key
  let V := (w.alloc (.deferred (some []))).alloc (.loop (rc .ready none))
  -- the two blocks of book-keeping, and that the caller's own facts outlast what is done to them
  let Bk : LoopState → Option Code → World → Prop := fun s j A => A.heap[w.heap.size + 1]? = some (.loop (rc s j)) ∧ A.heap[w.heap.size]? = some (.deferred (some []))
  have bkput : ∀ {s j s' j' A}, Bk s j A → Bk s' j' (A.putObj (w.heap.size + 1) (.loop (rc s' j'))) := fun h =>
    ⟨World.putObj_heap_same (Array.getElem?_eq_some_iff.1 h.1).1, (World.putObj_heap_other (by omega)).trans h.2⟩
  have hVs : V.heap.size = w.heap.size + 2 := by simp [V, World.size_alloc]
  have bknew : ∀ {s j A A' row}, Bk s j A → A.grownBy A' row → (∀ r, row = some r → V.heap.size ≤ r ∧ ∃ o : Obj, A.heap[r]? = some o ∧ o.isCells = false) → Bk s j A' := fun h hg' hr =>
    ⟨(hg'.block _ (Array.getElem?_eq_some_iff.1 h.1).1 (fun e => by have := (hr _ e.symm).1; omega)).trans h.1, (hg'.block _ (Array.getElem?_eq_some_iff.1 h.2).1 (fun e => by have := (hr _ e.symm).1; omega)).trans h.2⟩
  have hV : Bk .ready none V := by
    refine ⟨?_, ?_⟩
    · have := World.alloc_heap_new (w.alloc (.deferred (some []))) (.loop (rc .ready none)); rwa [World.size_alloc] at this
    · exact (Below.heap_alloc _ _ _ (by simp)).trans (World.alloc_heap_new w _)
  have hIV : I [] V := hI.alloc _ (hI.alloc _ h0)
  refine ⟨w.heap.size + 1, [{ target := .collected w.heap.size, args := #[] }], V, { target := .fn (.func gf) lb, args := lf ++ #[.func (.yield (w.heap.size + 1)) #[] #[]] }, V, gf,
    lf ++ #[.func (.yield (w.heap.size + 1)) #[] #[]] ++ lb, V, ?_, ?_, ?_, ?_, fun _ => h1, ?_⟩
  · have := run_enterLoop_outer (P := P) (w := w) fn a.tmps ps assign body
    rw [this]; simp only [V, hrc]
  · simp only [resolve, hg]
    simp [go_sem]
  · intro f' hf'
    simp [Target.leads] at hf'
    subst hf'; exact hFg
  · simp [invoke, go_sem, eg]
  refine (hit (w.heap.size + 1) (fun pre A => I pre A ∧ Bk .ready none A) (fun pre A => ∃ c, Ix c pre A ∧ Bk .done (some c) A) V
    (fun pre A A' row h hg' hr => ⟨hI pre A A' row h.1 hg' (fun r e => ⟨by have := (hr r e).1; omega, (hr r e).2⟩), bknew h.2 hg' hr⟩)
    (fun pre A A' row ⟨c, h, hb⟩ hg' hr => ⟨c, hIx c pre A A' row h hg' (fun r e => ⟨by have := (hr r e).1; omega, (hr r e).2⟩), bknew hb hg' hr⟩) (fun pre A h => hPr pre A h.1) (fun pre A A' r h h1 h2 hg' => ⟨hIW pre A A' r h.1 (by omega) (by omega) hg', (hg'.block _ (Array.getElem?_eq_some_iff.1 h.2.1).1 (fun e => by cases e; omega)).trans h.2.1, (hg'.block _ (Array.getElem?_eq_some_iff.1 h.2.2).1 (fun e => by cases e; omega)).trans h.2.2⟩) ?_ ⟨hIV, hV⟩).mono ?_
  · rintro pre x A ⟨hi, hb⟩ hsz hpx
    have hy := run_yield (P := P) (args := encs x) hb.1 (by rw [hrc]; exact hps x)
    rw [hrc] at hy
    refine ⟨fn, _, assign, body, hy, roundIn_of_wpIn hfn (hassign _ pre x A _ hi hpx (by omega) ?_)⟩
    intro a' Wa hkn hia hax
    have hlt := (Array.getElem?_eq_some_iff.1 hb.1).1
    replace hb : Bk .ready none Wa := ⟨(hkn.same _ (by omega) hlt).trans hb.1, (hkn.same _ (Nat.le_refl _) (by omega)).trans hb.2⟩
    clear hy hi
    refine ⟨_, run_beginRound hb.1 (by rw [hrc]), ?_⟩
    have hknV : KeepsIn V.heap.size κ A Wa := hkn.toIn (by omega) hsz
    have hkfV : KeepsFrom V.heap.size A Wa := (hkn.mono (by omega)).from
    have hszA : A.heap.size ≤ Wa.heap.size := hkn.size
    replace hsz := Nat.le_trans hsz hszA
    clear hkn
    revert hknV hkfV hszA
    generalize A = A0
    intro hknV hkfV hszA
    obtain ⟨A, rfl⟩ : ∃ A, A = Wa := ⟨_, rfl⟩
    have hb2 : Bk .busy none (A.putObj (w.heap.size + 1) (.loop (rc .busy none))) := bkput hb
    have e2 : ({ rc .ready none with state := .busy } : Loop) = rc .busy none := by rw [hrc]
    rw [e2]
    refine wpIn_mono (hbody _ pre x a' _ (hI.putObj _ hia (by omega) hb.1 rfl) ((hAx x a').putObj (s := ()) _ hax (by omega) hb.1 rfl) hpx (by simp [World.putObj]; omega)) ?_
    have fin : ∀ (j : Option Code) (C : World), KeepsFrom w.heap.size (A.putObj (w.heap.size + 1) (.loop (rc .busy none))) C →
        (Instr.endRound (w.heap.size + 1) j).run P C = .ok (.bool j.isNone) (C.putObj (w.heap.size + 1) (.loop (rc (if j.isNone then .ready else .done) j))) ∧ Bk .busy none C := fun j C hk => by
      have h1 := hk.same _ _ (by omega) hb2.1 rfl
      have h2 := hk.same _ _ (Nat.le_refl _) hb2.2 rfl
      have h3 := run_endRound (P := P) j h1
      refine ⟨?_, h1, h2⟩
      rw [h3]; rw [hrc]
    have kfin : ∀ (o : Obj) (C : World), KeepsFrom w.heap.size (A.putObj (w.heap.size + 1) (.loop (rc .busy none))) C → KeepsFrom V.heap.size A0 (C.putObj (w.heap.size + 1) o) := fun o C hk => by
      refine hkfV.trans ?_
      refine ⟨by have := hk.size; simp [World.putObj] at this ⊢; omega, fun k x hk1 hk2 hk3 => ?_⟩
      rw [World.putObj_heap_other (by omega)]
      exact hk.same k x (by omega) (by rw [World.putObj_heap_other (by omega)]; exact hk2) hk3
    rintro e a3 C hp
    cases e with
    | normal =>
      obtain ⟨hk, hkn, hi3⟩ := hp
      obtain ⟨hr, hb3⟩ := fin none C hk
      refine ⟨_, _, hr, .inl ⟨rfl, ⟨hI.putObj _ hi3 (by omega) hb3.1 rfl, bkput hb3⟩, ?_, kfin _ C hk⟩⟩
      refine ⟨by have := hkn.size; simp [World.putObj] at this ⊢; omega, fun k hk1 hk2 => ?_⟩
      rw [World.putObj_heap_other (by omega), hkn.same k (by omega) (by omega), World.putObj_heap_other (by omega)]
      exact hknV.same k hk1 hk2
    | ret =>
      obtain ⟨hk, hi3⟩ := hp
      obtain ⟨hr, hb3⟩ := fin (some .ret) C hk
      exact ⟨_, _, hr, .inr ⟨rfl, ⟨.ret, (hIx _).putObj _ hi3 (by omega) hb3.1 rfl, bkput hb3⟩, by have := hk.size; simp [World.putObj] at this ⊢; omega, kfin _ C hk⟩⟩
    | exit id =>
      obtain ⟨hk, hi3⟩ := hp
      obtain ⟨hr, hb3⟩ := fin (some (.exit id)) C hk
      exact ⟨_, _, hr, .inr ⟨rfl, ⟨.exit id, (hIx _).putObj _ hi3 (by omega) hb3.1 rfl, bkput hb3⟩, by have := hk.size; simp [World.putObj] at this ⊢; omega, kfin _ C hk⟩⟩
    | goto t =>
      obtain ⟨hk, hi3⟩ := hp
      obtain ⟨hr, hb3⟩ := fin (some (.goto t)) C hk
      exact ⟨_, _, hr, .inr ⟨rfl, ⟨.goto t, (hIx _).putObj _ hi3 (by omega) hb3.1 rfl, bkput hb3⟩, by have := hk.size; simp [World.putObj] at this ⊢; omega, kfin _ C hk⟩⟩
    | panic ch => exact hp.elim
    | outgrown => exact hp.elim
  · rintro e C ⟨⟨v, rfl⟩, (⟨hi, hb⟩ | ⟨pre, hp, c, hi, hb⟩)⟩
    · have h3 := run_endLoop (P := P) hb.1 (by rw [hrc]; simp)
      refine ⟨none, _, by rw [h3, hrc], hdone _ _ (Nat.le_refl _) (hI.putObj _ hi (by omega) hb.1 rfl) ((World.putObj_heap_other (by omega)).trans hb.2)⟩
    · have h3 := run_endLoop (P := P) hb.1 (by rw [hrc]; simp)
      refine ⟨some c, _, by rw [h3, hrc], hstop _ c pre _ (Nat.le_refl _) hp ((hIx c).putObj _ hi (by omega) hb.1 rfl) ((World.putObj_heap_other (by omega)).trans hb.2)⟩
/-- The same where the assignment lays nothing. -/
theorem range_law5 {α : Type} {Pr : World → Prop} {g : Operand} {ps : Array Tmp} {assign body : Code} {Q : Exit → Act → World → Prop} {a : Act} {w : World} (hro : F.round = none) (h1 : 1 ≤ n)
    {gf : Nat} {lf lb : Array Value} (hg : a.eval g = .func (.func gf) lf lb) (hFg : F.fn gf) (eg : ∀ args w, (callFunc gf args).run P w = .ok (.enter gf args) w)
    {encs : α → Array Value} {xs : List α} {κ : Nat} (hit : IterW Pr κ F (n - 1) P gf (fun y => lf ++ #[y] ++ lb) encs xs) (hps : ∀ x, (encs x).size = ps.size)
    (I : List α → World → Prop) (Ix : Code → List α → World → Prop) (hPr : ∀ pre A, I pre A → Pr A) (hIW : ∀ pre A A' r, I pre A → w.heap.size + 2 ≤ r → r < w.heap.size + 2 + κ → A.grownBy A' (some r) → I pre A') (hI : OwnFrom w.heap.size I) (hIx : ∀ c, OwnFrom w.heap.size (Ix c)) (h0 : I [] w) (a₁ : α → Act)
    (hassign : ∀ (l : Nat) (x : α) (W : World) (K : Act → World → Prop), K (a₁ x) W →
      assign.wpIn (F.inRound l) (n - 1 - 1) P (Exit.then K (fun _ _ _ => False)) { tmps := (ps.zip (encs x)).foldl (fun t (p, v) => t.setIfInBounds p v) a.tmps, defers := [] } W)
    (hbody : ∀ (l : Nat) (pre : List α) (x : α) (W : World), I pre W → pre ++ [x] <+: xs → w.heap.size + 2 + κ ≤ W.heap.size → body.wpIn (F.inRound l) (n - 1 - 1) P (ownPostG w.heap.size (KeepsIn (w.heap.size + 2) κ) I Ix (pre ++ [x]) W) (a₁ x) W)
    (hdone : ∀ (D : Nat) (W : World), w.heap.size ≤ D → I xs W → W.heap[D]? = some (.deferred (some [])) → Q .normal { a with defers := { target := .collected D, args := #[] } :: a.defers } W)
    (hstop : ∀ (D : Nat) (c : Code) (pre : List α) (W : World), w.heap.size ≤ D → pre <+: xs → Ix c pre W → W.heap[D]? = some (.deferred (some [])) → c.wpIn F n P Q { a with defers := { target := .collected D, args := #[] } :: a.defers } W) :
    (Code.rangeFunc g ps assign body).wpIn F n P Q a w :=
  range_law4 hro h1 hg hFg eg hit hps I Ix hPr hIW hI hIx h0 (fun x a' _ => a' = a₁ x) (fun _ _ _ _ _ _ h _ _ => h)
    (fun l _ x W K hi _ _ hK => hassign l x W K (hK _ _ (KeepsNew.refl _ _) hi rfl)) (fun l pre x a' W hi ha hp hs => by subst ha; exact hbody l pre x W hi hp hs) hdone hstop
end Go.PM
namespace Go.PW
open Go.PM Go.RowKit
theorem Ent.unique {nx : Nat → Option Nat} {s : Nat} {a b : Option Nat} (h : Ent nx s a) (k : Ent nx s b) : a = b := by
  obtain ⟨D, hD, h⟩ := h
  obtain ⟨E, hE, k⟩ := k
  have := hD.unique hE
  subst this
  rcases h with ⟨rfl, j, hj⟩ | ⟨rfl, h⟩
  · rcases k with ⟨rfl, _⟩ | ⟨rfl, k⟩
    · rfl
    · exact absurd hj (k j)
  · rcases k with ⟨rfl, j, hj⟩ | ⟨rfl, k⟩
    · exact absurd hj (h j)
    · rfl
theorem ent_ex {nx : Nat → Option Nat} (hn : Nice nx) {s : Nat} (hs : s < 19) : ∃ m, Ent nx s m := by
  obtain ⟨D, hD, _⟩ := (way_rho hn hs).stops
  by_cases h : ∃ k, orb nx s k = none
  · exact ⟨none, D, hD, .inl ⟨rfl, h⟩⟩
  · exact ⟨orb nx s D, D, hD, .inr ⟨rfl, fun k hk => h ⟨k, hk⟩⟩⟩
theorem ringsF_pre {nx : Nat → Option Nat} {a b : Nat} (h : a ≤ b) : ringsF nx a <+: ringsF nx b := by
  induction b with
  | zero => have : a = 0 := by omega
            subst this; exact List.prefix_refl _
  | succ b ih =>
    by_cases e : a = b + 1
    · subst e; exact List.prefix_refl _
    · have h1 := ih (by omega)
      by_cases hc : onRb nx b = true ∧ b ∉ (ringsF nx b).flatten
      · rw [ringsF_yes hc.1 hc.2]; exact h1.trans (List.prefix_append _ _)
      · rw [ringsF_no hc]; exact h1
section
variable {P : Program} {C : World → Prop}
/-- two pointers held against each other in a quiet region -/
theorem ptr_step {F : Fence} {n : Nat} {ops : Array Oper} {Q : Act → Prop} {a : Act} {o : Oper} {rest : List Oper} (hgd : Region.wanted o (yielded ops a.tmps) = true) (ty ty2 : TypeId) (x y : Operand) (ho : o.op = .binOp .neq ty x y ty2) (p q : Option Addr) (hx : a.eval x = .pointer p) (hy : a.eval y = .pointer q) (v : Value)
    (hC : ∀ W, C W → (binOp .neq ty (.pointer p) (.pointer q)).run P W = .ok v W) (h : wpQuietIn F n P ops C Q rest (a.put o.dst v)) : wpQuietIn F n P ops C Q (o :: rest) a := by
  refine wpQuietIn_step (fun w _ f hf => by simp [Oper.about, ho] at hf) (fun K hK => ?_)
  rw [if_pos hgd]
  refine ⟨v, fun W hW => ?_, hK _ h⟩
  unfold Oper.quietAtIn
  have hg : (eqGuard .neq ty x y (.pointer p) (.pointer q)).run P W = .ok () W := by
    simp [eqGuard]
  simp only [execOp, ho, hx, hy, hg, Sem.run_bind, hC W hW, Result.andThen_ok, Sem.run_pure]
  exact ⟨rfl, rfl⟩
end
end Go.PW
namespace Go.Proofs.YtogkodjlbdlgjaaGreat
open Go.RowKit Go.PM Go.PW Go.Lib
attribute [local go_sem] Oper.semAt_some

theorem neqp_nil (w : World) (a : Addr) : (binOp .neq 120 (.pointer none) (.pointer (some a))).run Tryz.prog w = .ok (.bool true) w := by
  have h : ∀ d : Nat, (Op.equalIn (d + 1) 120 (.pointer none) (.pointer (some a))).run Tryz.prog w = .ok false w := fun d => by
    simp [Op.equalIn, run_underlying Tryz.underlying120]
  simp only [binOp]
  simp [Op.equal, Op.maxDepth, h 9999]
theorem entrance_v (b : Nat) (nx : Nat → Option Nat) (hn : Nice nx) (s : Nat) (hs : s < 19) (m : Option Nat) (hm : Ent nx s m) (w : World) (hS : Spots w b nx) :
    Calls Tryz.prog 91 #[spotV b (some s)] w fun e w' => e = .returned (spotV b m) ∧ Below w.heap.size w w' :=
  (entrance_c b nx hn s hs w hS).mono fun e w' ⟨⟨m', e1, e2⟩, e3⟩ => ⟨by rw [e1, hm.unique e2], e3⟩

set_option maxRecDepth 100000 in
set_option maxHeartbeats 1000000 in
theorem rings_iter (b : Nat) (nx : Nat → Option Nat) (hn : Nice nx) :
    IterW (fun W => Spots W b nx) 3 Fence.wide 4 Tryz.prog 67 (fun y => #[.pointer (some ⟨b, 0, none⟩)] ++ #[y] ++ #[]) (fun r : List Nat => #[.string (txt r)]) (ringsF nx 9) := by
  intro l J Jx W hJ hJx hPr hJW hY h0
  change CallsIn _ _ _ _ #[.pointer (some ⟨b, 0, none⟩), .func (.yield l) #[] #[]] W _
  refine callsIn_of_wp_marks Tryz.func67 rfl trivial ?_ rfl
  simp only [Tryz.ntmps67, List.size_toArray, List.length_cons, List.length_nil, Nat.reduceAdd, Nat.reduceSub, Array.replicate_succ, Array.replicate_zero, List.push_toArray, List.append_toArray, List.nil_append, List.cons_append]
  obtain ⟨W0, hW0⟩ : ∃ W0 : World, W0 = ((W.alloc (.cells #[.pointer (some ⟨b, 0, none⟩)] 102)).alloc (.cells #[.func (.yield l) #[] #[]] 34)).alloc (.cells #[.string ⟨#[]⟩] 9) := ⟨_, rfl⟩
  have hS0 : W0.heap.size = W.heap.size + 3 := by rw [hW0]; simp only [World.size_alloc]
  have hA0 : At W0 W.heap.size 102 #[.pointer (some ⟨b, 0, none⟩)] := by rw [hW0]; exact ((At.new _ _ _).alloc _).alloc _
  have hA1 : At W0 (W.heap.size + 1) 34 #[.func (.yield l) #[] #[]] := by
    rw [hW0]; have := At.new (W.alloc (.cells #[.pointer (some ⟨b, 0, none⟩)] 102)) 34 #[.func (.yield l) #[] #[]]
    rw [World.size_alloc] at this
    exact this.alloc _
  have hA2 : At W0 (W.heap.size + 2) 9 #[.string ⟨#[]⟩] := by
    rw [hW0]; have := At.new ((W.alloc (.cells #[.pointer (some ⟨b, 0, none⟩)] 102)).alloc (.cells #[.func (.yield l) #[] #[]] 34)) 9 #[.string ⟨#[]⟩]
    rw [World.size_alloc, World.size_alloc] at this
    exact this
  have hJ0 : J [] W0 := by rw [hW0]; exact hJ.alloc _ (hJ.alloc _ (hJ.alloc _ h0))
  gi_wp2
  rw [← hW0]
  clear hW0
  refine range_law (F := Fence.wide) (gf := 62) (lf := #[.int .i64 9]) (lb := #[]) rfl (by decide) rfl trivial (fun args w => rfl) (encs := fun p : Nat => #[.int .i64 p]) (xs := List.range 9)
    (below_iter _ _ trivial rfl (by decide)) (fun _ => rfl)
    (fun pre A => J (ringsF nx pre.length) A ∧ At A W.heap.size 102 #[.pointer (some ⟨b, 0, none⟩)] ∧ At A (W.heap.size + 1) 34 #[.func (.yield l) #[] #[]] ∧ At A (W.heap.size + 2) 9 #[.string (txt (ringsF nx pre.length).flatten)])
    (fun c pre A => c = .ret ∧ ∃ pre2, pre2 <+: ringsF nx 9 ∧ Jx pre2 A) ?own ?ownx ?start ?a1 ?assign ?body ?done ?stop
  case own =>
    rintro s A A' row ⟨h1, h2, h3, h4⟩ hg hr
    have hr' : ∀ r, row = some r → W.heap.size + 3 ≤ r := fun r e => by have := (hr r e).1; omega
    have hne : ∀ b, b < W.heap.size + 3 → some b ≠ row := fun b hb e => by have := hr' _ e.symm; omega
    exact ⟨hJ _ A A' row h1 hg (fun r e => ⟨by have := hr' r e; omega, (hr r e).2⟩), h2.grown hg (hne _ (by omega)), h3.grown hg (hne _ (by omega)), h4.grown hg (hne _ (by omega))⟩
  case ownx =>
    rintro c s A A' row ⟨h1, pre2, h2, h3⟩ hg hr
    have hr' : ∀ r, row = some r → W.heap.size + 3 ≤ r := fun r e => by have := (hr r e).1; omega
    exact ⟨h1, pre2, h2, hJx _ A A' row h3 hg (fun r e => ⟨by have := hr' r e; omega, (hr r e).2⟩)⟩
  case start => exact ⟨hJ0, hA0, hA1, hA2⟩
  case assign =>
    intro l p W Kc hK
    gi_wp2
    exact hK
  case body =>
    clear hJ0 hA0 hA1 hA2
    rintro l2 pre p A ⟨h1, h2, h3, h4⟩ hp hsz
    obtain ⟨hpl, hp9⟩ := pre_len pre p hp
    rw [hpl] at h1 h4
    have HPL : Hid ((pre ++ [p]).length = p + 1) := by show _ = _; simp [hpl]
    have hSA := hPr _ A h1
    have i0 : (0 : Int) ≤ (p : Int) := by omega
    have i1 : (p : Int) < 19 := by omega
    obtain ⟨m, hm⟩ := ent_ex hn (show p < 19 by omega)
    have HENT := Lib.hid (fun W' hS => entrance_v b nx hn p (by omega) m hm W' hS)
    have hc2 : A.cell? ⟨W.heap.size, 0, none⟩ = some (.pointer (some ⟨b, 0, none⟩)) := h2.cell 0
    have hbA := hSA.lt
    have hENT : ∀ x : Ext A.heap.size A.drew, Calls Tryz.prog 91 #[.pointer (some ⟨b, p * 2, none⟩)] x.val fun e w' => e = .returned (spotV b m) ∧ Below x.val.heap.size x.val w' := fun x => HENT.out x.val (hSA.below ((Below.refl _ _).drew.trans x.property))
    have hSX : ∀ x : Ext A.heap.size A.drew, Spots x.val b nx := fun x => hSA.below ((Below.refl _ _).drew.trans x.property)
    by_cases hon : m = some p
    · subst hon
      have honR : onRb nx p = true := (onRb_iff hn (by omega)).2 ((hm.onR (way_rho hn (by omega))).1 rfl)
      have hlt9 := ringsF_lt hn p (by omega)
      have hmem := txt_mem hlt9.1 (show p < 19 by omega)
      have hszf := txt_size (ringsF nx p).flatten
      have hneq : ∀ W, (∃ x : Ext A.heap.size A.drew, W = x.val) → (binOp .neq 120 (.pointer (some ⟨b, p * 2, none⟩)) (.pointer (some ⟨b, p * 2, none⟩))).run Tryz.prog W = .ok (.bool false) W := by
        rintro W ⟨x, rfl⟩; exact neqp_yes x.val _
      have hx4 : ∀ x : Ext A.heap.size A.drew, x.val.cell? ⟨W.heap.size + 2, 0, none⟩ = some (.string (txt (ringsF nx p).flatten)) := fun x => (x.property.cell (p := ⟨W.heap.size + 2, 0, none⟩) h4.lt).trans (h4.cell 0)
      have hxn : ∀ x : Ext A.heap.size A.drew, x.val.cell? ⟨b, p * 2, none⟩ = some (.string ⟨#[ch p]⟩) := fun x => (hSX x).name p (by omega)
      have hcon : ∀ x : Ext A.heap.size A.drew, Calls Tryz.prog 41 #[.string (txt (ringsF nx p).flatten), .string ⟨#[ch p]⟩] x.val fun e w' => e = .returned (.bool (decide (ch p ∈ (txt (ringsF nx p).flatten).data.toList))) ∧ x.val = w' := fun x =>
        (Tryz.strings_Contains_one _ _ x.val).mono fun _ _ ⟨e1, e2⟩ => ⟨by
          rw [e1]; congr 2; simp only [indexByte_mem], e2.symm⟩
      have hent : ∀ x : Ext A.heap.size A.drew, Calls Tryz.prog 91 #[.pointer (some ⟨b, p * 2, none⟩)] x.val fun e w' => e = .returned (.pointer (some ⟨b, p * 2, none⟩)) ∧ Below x.val.heap.size x.val w' := hENT
      have HWB := Lib.hid (fun W' (hS : Spots W' b nx) => wayBack_c b nx hn p (by omega) W' hS)
      have hwl := (way_rho hn (show p < 19 by omega)).len
      have hwz := txt_size (way nx p)
      clear hENT
      by_cases hin : p ∈ (ringsF nx p).flatten
      · have hd : decide (ch p ∈ (txt (ringsF nx p).flatten).data.toList) = true := by simpa using hmem.2 hin
        have HNO := Lib.hid (ringsF_no (nx := nx) (k := p) (fun h => h.2 hin))
        rw [hd] at hcon
        clear hd hmem hin
        generalize ch p = c at *
        gi_wp2
        refine region_quiet_inRound (F := Fence.wide) (C := fun w' => ∃ x : Ext A.heap.size A.drew, w' = x.val) rfl (by kernel_rfl) (by kernel_rfl) (by kernel_rfl) ⟨⟨_, Below.refl _ _⟩, rfl⟩ ?_
        simp only
        gi_big_quiet_step (fail)
        (refine BigFrame.wpQuietIn_want (fun _ _ _ _ => trivial) rfl (fun K hK => ?_); gi_big_quiet_op; refine ⟨_, fun _ => callsIn_wide.2 (ext_call _ (Nat.le_refl _) (hent _)), hK _ ?_⟩; clear hK K)
        gi_big_quiet_step (fail)
        refine ptr_step rfl 120 _ (.tmp 15) (.tmp 16) rfl (some ⟨b, p * 2, none⟩) (some ⟨b, p * 2, none⟩) (by rfl) (by rfl) (.bool false) hneq ?_
        simp only [Act.put, List.setIfInBounds_toArray, List.set_cons_succ, List.set_cons_zero]
        gi_big_quiet_step (fail)
        gi_big_quiet_step (fail)
        gi_big_quiet_step (fail)
        gi_big_quiet_step (fail)
        gi_big_quiet_step (fail)
        gi_big_quiet_step (fail)
        (refine BigFrame.wpQuietIn_want (fun _ _ _ _ => trivial) rfl (fun K hK => ?_); gi_big_quiet_op; refine ⟨_, fun _ => callsIn_wide.2 (ext_same _ (hcon _)), hK _ ?_⟩; clear hK K)
        gi_big_quiet_step (fail)
        refine wpQuietIn_nil ?_
        rintro W2 ⟨xw, rfl⟩
        have hb2 : Below A.heap.size A xw.val := ((Below.refl _ _).drew).trans xw.property
        clear hx4 hxn hcon hent hSX hneq
        generalize xw.val = W2 at *
        have j1 := hJ _ A W2 none h1 (grown_below hb2 none) (fun r e => by cases e)
        have k2 := h2.keep hb2
        have k3 := h3.keep hb2
        have k4 := h4.keep hb2
        gi_wp2
        exact ⟨keepsFrom_below hb2, KeepsIn.zero hb2.size, by rw [HPL.out, HNO.out]; exact j1, k2, k3, by rw [HPL.out, HNO.out]; exact k4⟩
      · have hd : decide (ch p ∈ (txt (ringsF nx p).flatten).data.toList) = false := by simpa using fun h => hin (hmem.1 h)
        have hyes := ringsF_yes honR hin
        have HYES := Lib.hid hyes
        have HSX2 : Hid (txt (ringsF nx (p + 1)).flatten = txt (ringsF nx p).flatten ++ txt (way nx p)) := by
          show _ = _
          rw [hyes, List.flatten_append, txt_append]; simp
        have hpre : ringsF nx p ++ [way nx p] <+: ringsF nx 9 := by rw [← hyes]; exact ringsF_pre (by omega)
        rw [hd] at hcon
        clear hd hmem hin hyes
        generalize ch p = c at *
        gi_wp2
        refine region_quiet_inRound (F := Fence.wide) (C := fun w' => ∃ x : Ext A.heap.size A.drew, w' = x.val) rfl (by kernel_rfl) (by kernel_rfl) (by kernel_rfl) ⟨⟨_, Below.refl _ _⟩, rfl⟩ ?_
        simp only
        gi_big_quiet_step (fail)
        (refine BigFrame.wpQuietIn_want (fun _ _ _ _ => trivial) rfl (fun K hK => ?_); gi_big_quiet_op; refine ⟨_, fun _ => callsIn_wide.2 (ext_call _ (Nat.le_refl _) (hent _)), hK _ ?_⟩; clear hK K)
        gi_big_quiet_step (fail)
        refine ptr_step rfl 120 _ (.tmp 15) (.tmp 16) rfl (some ⟨b, p * 2, none⟩) (some ⟨b, p * 2, none⟩) (by rfl) (by rfl) (.bool false) hneq ?_
        simp only [Act.put, List.setIfInBounds_toArray, List.set_cons_succ, List.set_cons_zero]
        gi_big_quiet_step (fail)
        gi_big_quiet_step (fail)
        gi_big_quiet_step (fail)
        gi_big_quiet_step (fail)
        gi_big_quiet_step (fail)
        gi_big_quiet_step (fail)
        (refine BigFrame.wpQuietIn_want (fun _ _ _ _ => trivial) rfl (fun K hK => ?_); gi_big_quiet_op; refine ⟨_, fun _ => callsIn_wide.2 (ext_same _ (hcon _)), hK _ ?_⟩; clear hK K)
        gi_big_quiet_step (fail)
        refine wpQuietIn_nil ?_
        rintro W2 ⟨xw, rfl⟩
        have hb2 : Below A.heap.size A xw.val := ((Below.refl _ _).drew).trans xw.property
        have hSW := hSX xw
        clear hx4 hxn hcon hent hSX hneq
        generalize xw.val = W2 at *
        have j1 := hJ _ A W2 none h1 (grown_below hb2 none) (fun r e => by cases e)
        have k2 := h2.keep hb2
        have k3 := h3.keep hb2
        have k4 := h4.keep hb2
        have hz2 := hb2.size
        gi_wp2
        refine ⟨trivial, CallsIn.inRound l2 (callsIn_wide.2 ((HWB.out W2 hSW).mono ?_))⟩
        rintro e W3 ⟨rfl, hb3⟩
        have j3 := hJ _ W2 W3 none j1 (grown_below hb3 none) (fun r e => by cases e)
        have m2 := k2.keep hb3
        have m3 := k3.keep hb3
        have m4 := k4.keep hb3
        have hz3 := hb3.size
        have kf3 : KeepsFrom W0.heap.size A W3 := (keepsFrom_below hb2).trans (keepsFrom_below hb3)
        obtain ⟨fn, tmps, assign, body, hy, hR⟩ := yieldAt_wide (m := 1) (hY (ringsF nx p) (way nx p) W3 j3 (by omega) hpre)
        have hyc : W3.cell? ⟨W.heap.size + 1, 0, none⟩ = some (.func (.yield l) #[] #[]) := m3.cell 0
        clear h1 h2 h3 h4 k2 k3 k4 j1
        gi_wp2
        refine hR.mono ?_
        rintro e A2 (⟨rfl, hJ3, hKN, hKF⟩ | ⟨rfl, hJ3, _, hKF⟩)
        · have q2 : At A2 W.heap.size 102 #[.pointer (some ⟨b, 0, none⟩)] := (hKN.same _ (Nat.le_refl _) (by omega)).trans m2
          have q3 : At A2 (W.heap.size + 1) 34 #[.func (.yield l) #[] #[]] := (hKN.same _ (by omega) (by omega)).trans m3
          have q4 : At A2 (W.heap.size + 2) 9 #[.string (txt (ringsF nx p).flatten)] := (hKN.same _ (by omega) (by omega)).trans m4
          have kN : W3.heap.size ≤ A2.heap.size := hKN.size
          have kF : KeepsFrom W0.heap.size A A2 := kf3.trans ⟨hKF.size, fun k o hk h4 h5 => hKF.same k o (by omega) h4 h5⟩
          have c4 : A2.cell? ⟨W.heap.size + 2, 0, none⟩ = some (.string (txt (ringsF nx p).flatten)) := q4.cell 0
          have f4 : A2.frozen? ⟨W.heap.size + 2, 0, none⟩ = false := q4.frozen 0
          have l4 := q4.lt
          have hgs : A2.grownBy (A2.setCell ⟨W.heap.size + 2, 0, none⟩ (.string (txt (ringsF nx p).flatten ++ txt (way nx p)))) (some (W.heap.size + 2)) := grownBy_setCell' A2 (W.heap.size + 2) _
          have j5 := hJW _ A2 _ (W.heap.size + 2) hJ3 (by omega) (by omega) hgs
          have s2 := q2.far (p := ⟨W.heap.size + 2, 0, none⟩) (by simp) (.string (txt (ringsF nx p).flatten ++ txt (way nx p)))
          have s3 := q3.far (p := ⟨W.heap.size + 2, 0, none⟩) (by simp) (.string (txt (ringsF nx p).flatten ++ txt (way nx p)))
          have s4 := q4.set 0 (.string (txt (ringsF nx p).flatten ++ txt (way nx p)))
          clear hR hY m2 m3 m4 q2 q3 q4 hgs
          gi_wp2
          refine ⟨kF.trans ((KeepsOthers.setCell _ _ _).from _), KeepsIn.zero (by simp [World.size_setCell]; omega), ?_, s2, s3, ?_⟩
          · rw [HPL.out, HYES.out]; exact j5
          · rw [HPL.out, HSX2.out]; exact s4
        · have kF : KeepsFrom W0.heap.size A A2 := kf3.trans ⟨hKF.size, fun k o hk h4 h5 => hKF.same k o (by omega) h4 h5⟩
          clear hR hY m2 m3 m4
          gi_wp2
          exact ⟨kF, rfl, _, hpre, hJ3⟩
    · have hno := ringsF_no (nx := nx) (k := p) (fun h => hon ((hm.onR (way_rho hn (by omega))).2 ((onRb_iff hn (by omega)).1 h.1)))
      have HNO := Lib.hid hno
      have hneq : ∀ x : Ext A.heap.size A.drew, ∃ q, spotV b m = .pointer q ∧ (binOp .neq 120 (.pointer q) (.pointer (some ⟨b, p * 2, none⟩))).run Tryz.prog x.val = .ok (.bool true) x.val := fun x => by
        cases m with
        | none => exact ⟨none, rfl, neqp_nil _ _⟩
        | some y => exact ⟨_, rfl, neqp_no x.val b nx (hSX x) y p (fun e => hon (by rw [e]))⟩
      clear hno hon hm
      gi_wp2
      refine region_quiet_inRound (F := Fence.wide) (C := fun w' => ∃ x : Ext A.heap.size A.drew, w' = x.val) rfl (by kernel_rfl) (by kernel_rfl) (by kernel_rfl) ⟨⟨_, Below.refl _ _⟩, rfl⟩ ?_
      simp only
      gi_big_quiet_step (fail)
      (refine BigFrame.wpQuietIn_want (fun _ _ _ _ => trivial) rfl (fun K hK => ?_); gi_big_quiet_op; refine ⟨_, fun _ => callsIn_wide.2 (ext_call _ (Nat.le_refl _) (hENT _)), hK _ ?_⟩; clear hK K)
      gi_big_quiet_step (fail)
      obtain ⟨q, hq1, hq2⟩ : ∃ q, spotV b m = .pointer q ∧ ∀ W, (∃ x : Ext A.heap.size A.drew, W = x.val) → (binOp .neq 120 (.pointer q) (.pointer (some ⟨b, p * 2, none⟩))).run Tryz.prog W = .ok (.bool true) W := by
        obtain ⟨q, e1, _⟩ := hneq ⟨_, Below.refl _ _⟩
        refine ⟨q, e1, ?_⟩
        rintro W ⟨x, rfl⟩
        obtain ⟨q', e2, e3⟩ := hneq x
        rw [e1] at e2
        cases e2
        exact e3
      clear hneq
      rw [hq1]
      refine ptr_step rfl 120 _ (.tmp 15) (.tmp 16) rfl q (some ⟨b, p * 2, none⟩) (by rfl) (by rfl) (.bool true) hq2 ?_
      simp only [Act.put, List.setIfInBounds_toArray, List.set_cons_succ, List.set_cons_zero]
      repeat (first | gi_big_quiet_step (fail) | (refine BigFrame.wpQuietIn_skip (fun _ _ _ _ => trivial) rfl ?_; simp only [Act.put, List.setIfInBounds_toArray, List.set_cons_succ, List.set_cons_zero]))
      refine wpQuietIn_nil ?_
      rintro W2 ⟨xw, rfl⟩
      have hb2 : Below A.heap.size A xw.val := ((Below.refl _ _).drew).trans xw.property
      clear hENT hSX hq2
      generalize xw.val = W2 at *
      have j1 := hJ _ A W2 none h1 (grown_below hb2 none) (fun r e => by cases e)
      have k2 := h2.keep hb2
      have k3 := h3.keep hb2
      have k4 := h4.keep hb2
      gi_wp2
      exact ⟨keepsFrom_below hb2, KeepsIn.zero hb2.size, by rw [HPL.out, HNO.out]; exact j1, k2, k3, by rw [HPL.out, HNO.out]; exact k4⟩
  case done =>
    clear hJ0 hA0 hA1 hA2 hY
    intro D A hD hI hd
    obtain ⟨h1, h2, h3, h4⟩ := hI
    gi_wp2
    refine ⟨by simp, .inl ⟨D, _, rfl, run_takeDeferred hd, ?_⟩⟩
    refine ⟨_, results_none rfl _ _ _, ⟨_, rfl⟩, .inl ?_⟩
    exact hJ.putObj _ h1 (by omega) hd rfl
  case stop =>
    clear hJ0 hA0 hA1 hA2 hY
    rintro D c pre A hD hp ⟨rfl, pre2, hp2, h1⟩ hd
    gi_wp2
    refine ⟨by simp, .inl ⟨D, _, rfl, run_takeDeferred hd, ?_⟩⟩
    refine ⟨_, results_none rfl _ _ _, ⟨_, rfl⟩, .inr ⟨pre2, hp2, ?_⟩⟩
    exact hJx.putObj _ h1 (by omega) hd rfl
end Go.Proofs.YtogkodjlbdlgjaaGreat
namespace Go.PW
open Go.RowKit Go.PM
theorem Spots.of_at {w w' : World} {b : Nat} {nx : Nat → Option Nat} (h : Spots w b nx) (hk : ∀ t cs, At w b t cs → At w' b t cs) : Spots w' b nx := by
  obtain ⟨t, cs, hA⟩ := h.row
  have hB := hk t cs hA
  exact ⟨⟨t, cs, hB⟩, fun i hi => by rw [hB.cell, ← hA.cell]; exact h.name i hi, fun i hi => by rw [hB.cell, ← hA.cell]; exact h.src i hi⟩
end Go.PW
namespace Go.Proofs.YtogkodjlbdlgjaaGreat
open Go.RowKit Go.PM Go.PW Go.Lib
attribute [local go_sem] Oper.semAt_some

theorem appIn_str {F : Fence} {k : Nat} {ops : Array Oper} {rest : List Oper} {o : Oper} {a : Act} {Q : Exit → Act → World → Prop} {w : World} (hgd : o.guard = none) (s x : Operand)
    (ho : o.op = .call { callee := .builtin .append, args := #[s, x], argTypes := #[67, 67] })
    (base : Nat) (v : Value) (ys : List ByteArray) (m : ByteArray) (ad : Addr) (c : Nat) (hs : a.eval s = v) (hx : a.eval x = .slice (some ad) 1 c)
    (hown : w.ownsRow base 9 1 v ys.length (tcells ys)) (hnew : ∀ j u, [Value.string m][j]? = some u → w.cell? (ad.add j) = some u)
    (hlen : ys.length ≤ 1048576) (hbase : base ≤ w.heap.size)
    (h : ∀ v' w', w'.ownsRow base 9 1 v' (ys ++ [m]).length (tcells (ys ++ [m])) → w.grownBy w' v.ownBlock → wpListIn F k Tryz.prog ops Q rest (a.put o.dst v') w') : wpListIn F k Tryz.prog ops Q (o :: rest) a w := by
  obtain ⟨i0, hi0, hz0, hz1, hz2⟩ := info_parts infoStr
  refine wpListIn_append_own w hgd s x _ ho base 9 i0 _ 1 16 Tryz.underlying67 hi0 hz0 hz1 hz2 rfl (by omega) v ys.length (tcells ys) hs hown ad 1 c [Value.string m] hx rfl hnew
    (by intro u hu; simp at hu; subst hu; rfl) (by simp only [maxLen]; omega) (by omega) hbase ?_
  intro v' w' h2 h3 _
  refine h v' w' ?_ h3
  rw [tcells_append, List.length_append]
  simpa [tcells] using h2

end Go.Proofs.YtogkodjlbdlgjaaGreat
namespace Go.PW
open Go.PM
def shut1 (f : Nat → ByteArray) (l : List Nat) : Bool := l.all fun i => decide (rcount f i = 1)
theorem ringsF_mem {nx : Nat → Option Nat} : ∀ k, ∀ l ∈ ringsF nx k, ∃ s, s < k ∧ l = way nx s ∧ onRb nx s = true := by
  intro k
  induction k with
  | zero => intro l h; simp [ringsF] at h
  | succ k ih =>
    intro l h
    by_cases hc : onRb nx k = true ∧ k ∉ (ringsF nx k).flatten
    · rw [ringsF_yes hc.1 hc.2, List.mem_append] at h
      rcases h with h | h
      · obtain ⟨s, h1, h2⟩ := ih l h; exact ⟨s, by omega, h2⟩
      · simp at h; exact ⟨k, by omega, h, hc.1⟩
    · rw [ringsF_no hc] at h
      obtain ⟨s, h1, h2⟩ := ih l h; exact ⟨s, by omega, h2⟩
theorem all_eq {α : Type _} {p q : α → Bool} : ∀ (l : List α), (∀ i ∈ l, p i = q i) → l.all p = l.all q
  | [], _ => rfl
  | a :: l, h => by rw [List.all_cons, List.all_cons, h a (by simp), all_eq l fun i hi => h i (by simp [hi])]
theorem shut_iff {f : Nat → ByteArray} (hf : SV f) {l : List Nat} (hl : l ∈ ringsF (nxT f) 9) : shut f l = shut1 f l := by
  obtain ⟨s, hs, rfl, hon⟩ := ringsF_mem 9 l hl
  unfold shut shut1
  have h : ∀ i ∈ way (nxT f) s, decide (rcount f i ≤ 1) = decide (rcount f i = 1) := fun i hi => by
    rw [decide_eq_decide]; exact ring_one hf (by omega) hon hi
  exact all_eq _ h
theorem closed_take {f : Nat → ByteArray} {l : List Nat} {j : Nat} (hj : j < l.length) : shut1 f (l.take (j + 1)) = (shut1 f (l.take j) && decide (rcount f l[j] = 1)) := by
  unfold shut1
  rw [take_snoc l j hj, List.all_append]; simp
def closedT (f : Nat → ByteArray) (rs : List (List Nat)) : List ByteArray := (rs.filter (shut1 f)).map txt
theorem closedT_yes {f : Nat → ByteArray} {rs : List (List Nat)} {l : List Nat} (h : shut1 f l = true) : closedT f (rs ++ [l]) = closedT f rs ++ [txt l] := by simp [closedT, h]
theorem closedT_no {f : Nat → ByteArray} {rs : List (List Nat)} {l : List Nat} (h : shut1 f l = false) : closedT f (rs ++ [l]) = closedT f rs := by simp [closedT, h]
theorem closedT_len {f : Nat → ByteArray} (rs : List (List Nat)) : (closedT f rs).length ≤ rs.length := by
  unfold closedT; rw [List.length_map]; exact List.length_filter_le _ _
def closedB (xs : List Mv) : List ByteArray := if mvalid xs then closedT (tabOf xs) (ringsF (nxT (tabOf xs)) 9) else []
theorem closedB_len (xs : List Mv) : (closedB xs).length ≤ 1000 := by
  unfold closedB
  by_cases h : mvalid xs = true
  · rw [if_pos h]
    have h1 := (ringsF_lt (nice (SV_tab (by simpa [mvalid] using h))) 9 (by omega)).2.1
    have h2 := closedT_len (f := tabOf xs) (ringsF (nxT (tabOf xs)) 9)
    omega
  · rw [if_neg h]; simp
end Go.PW
namespace Go.Proofs.YtogkodjlbdlgjaaGreat
open Go.RowKit Go.PM Go.PW Go.Lib

theorem app_strL {ops : Array Oper} {rest : List Oper} {o : Oper} {a : Act} {Q : Exit → Act → World → Prop} {w : World} (hgd : o.guard = none) (s x : Operand)
    (ho : o.op = .call { callee := .builtin .append, args := #[s, x], argTypes := #[67, 67] })
    (base : Nat) (v : Value) (ys : List ByteArray) (m : ByteArray) (ad : Addr) (c : Nat) (hs : a.eval s = v) (hx : a.eval x = .slice (some ad) 1 c)
    (hown : w.ownsRow base 9 1 v ys.length (tcells ys)) (hnew : ∀ j u, [Value.string m][j]? = some u → w.cell? (ad.add j) = some u)
    (hlen : ys.length ≤ 1048576) (hbase : base ≤ w.heap.size)
    (h : ∀ v' w', w'.ownsRow base 9 1 v' (ys ++ [m]).length (tcells (ys ++ [m])) → w.grownBy w' v.ownBlock → (∀ g, v'.ownBlock = some g → v.ownBlock = some g ∨ g = w.heap.size) → wpList Tryz.prog ops Q rest (a.put o.dst v') w') : wpList Tryz.prog ops Q (o :: rest) a w := by
  obtain ⟨i0, hi0, hz0, hz1, hz2⟩ := info_parts infoStr
  refine wpList_append_lies w hgd s x _ ho base 9 i0 _ 1 16 Tryz.underlying67 hi0 hz0 hz1 hz2 rfl (by omega) v ys.length (tcells ys) hs hown ad 1 c [Value.string m] hx rfl hnew
    (by intro u hu; simp at hu; subst hu; rfl) (by omega) (by simp only [maxLen]; omega) (by omega) hbase _ rfl ?_
  intro g cap w' h2 h3 h4 _
  refine h _ w' ?_ h3 (fun g' e => by cases e; exact h4)
  rw [tcells_append, List.length_append]
  simpa [tcells] using h2
end Go.Proofs.YtogkodjlbdlgjaaGreat
namespace Go.PM
section
variable {F : Fence} {n : Nat} {P : Program} {b : Frame} {a : Act} {k : List Item} {cs : List Frame} {w : World} {Q : Exit → Act → World → Prop}
theorem stepR_scope {c : Code} : step P (lone (b.atR a (.code (.scope c) :: k)) cs w) = .next (lone (b.atR a (.code c :: .inScope c :: k)) cs w) :=
  step_lone_go (by simp [stepG, stepG.exec, Frame.atR])
theorem stepR_inScope {c : Code} : step P (lone (b.atR a (.inScope c :: k)) cs w) = .next (lone (b.atR a k) cs w) :=
  step_lone_go (by simp [stepG, stepG.exec, Frame.atR])
/-- a scope through which the run goes without a goto, inside a fence -/
theorem wpIn_scope {c : Code} (h : c.wpIn F n P (Exit.noGoto Q) a w) : (Code.scope c).wpIn F n P Q a w := by
  intro b k cs hro hb hr
  have h0 : (lone (b.atR a (.code (.scope c) :: k)) cs w).fenced P F := fenced_calm hb hr rfl
  obtain ⟨e, a₁, w₁, hq, harr⟩ := h b (.inScope c :: k) cs hro hb hr
  cases e with
  | normal => exact ⟨.normal, a₁, w₁, hq, .head h0 stepR_scope (StepsIn.trans harr (.one (fenced_calm hb hr rfl) stepR_inScope))⟩
  | exit id' =>
    have hx : exitTo id' (.inScope c :: k) = exitTo id' k := by simp [exitTo]
    exact ⟨.exit id', a₁, w₁, hq, fun k' hk => .head h0 stepR_scope (harr.1 k' (by rw [hx]; exact hk)),
      fun hr' hk => let ⟨k₁, h1, h2⟩ := harr.2 hr' (by rw [hx]; exact hk); ⟨k₁, h1, .head h0 stepR_scope h2⟩⟩
  | goto l => exact hq.elim
  | ret => exact ⟨_, a₁, w₁, hq, .of_steps (.one h0 stepR_scope) harr⟩
  | panic ch => exact ⟨_, a₁, w₁, hq, .of_steps (.one h0 stepR_scope) harr⟩
  | outgrown => exact ⟨_, a₁, w₁, hq, .of_steps (.one h0 stepR_scope) harr⟩
end
end Go.PM
namespace Go.PW
open Go.RowKit Go.PM
def closedS (f : Nat → ByteArray) (rs : List (List Nat)) : List ByteArray := (rs.filter (shut f)).map txt
theorem closedS_yes {f : Nat → ByteArray} {rs : List (List Nat)} {l : List Nat} (h : shut f l = true) : closedS f (rs ++ [l]) = closedS f rs ++ [txt l] := by simp [closedS, h]
theorem closedS_no {f : Nat → ByteArray} {rs : List (List Nat)} {l : List Nat} (h : shut f l = false) : closedS f (rs ++ [l]) = closedS f rs := by simp [closedS, h]
theorem closedS_len {f : Nat → ByteArray} (rs : List (List Nat)) : (closedS f rs).length ≤ rs.length := by
  unfold closedS; rw [List.length_map]; exact List.length_filter_le _ _
theorem closedS_T {f : Nat → ByteArray} (hf : SV f) : closedS f (ringsF (nxT f) 9) = closedT f (ringsF (nxT f) 9) := by
  unfold closedS closedT
  congr 1
  exact List.filter_congr fun l hl => shut_iff hf hl
theorem shut_take {f : Nat → ByteArray} {l : List Nat} {j : Nat} (hj : j < l.length) : shut f (l.take (j + 1)) = (shut f (l.take j) && decide (rcount f l[j] ≤ 1)) := by
  unfold shut
  rw [take_snoc l j hj, List.all_append]; simp
theorem shut_bad {f : Nat → ByteArray} {l : List Nat} {j : Nat} (hj : j < l.length) (h : ¬ rcount f l[j] ≤ 1) : shut f l = false := by
  unfold shut
  rw [List.all_eq_false]
  exact ⟨l[j], List.getElem_mem hj, by simpa using h⟩
end Go.PW
namespace Go.Proofs.YtogkodjlbdlgjaaGreat
open Go.RowKit Go.PM Go.PW Go.Lib
attribute [local go_sem] Oper.semAt_some

set_option maxRecDepth 100000 in
set_option maxHeartbeats 2000000 in
theorem imClosedRings_c (xs : List Mv) (v : Value) (w : World) (hx : RdM w v xs) :
    Calls Tryz.prog 35 #[v] w fun e w' => ∃ v', e = .returned (.tuple #[v', .bool (mvalid xs)]) ∧ w'.ownsRow w.heap.size 9 1 v' (closedB xs).length (tcells (closedB xs)) ∧ Below w.heap.size w w' := by
  by_cases h1 : MV xs
  · have HT := Lib.hid (tableOf_yes xs h1 v w hx)
    have hm1 : mvalid xs = true := by simpa [mvalid] using h1
    have HM := Lib.hid hm1
    have HS := Lib.hid (show closedB xs = closedS (tabOf xs) (ringsF (nxT (tabOf xs)) 9) by rw [closedB, if_pos hm1, closedS_T (SV_tab h1)])
    have hlt9 := ringsF_lt (nice (SV_tab h1)) 9 (by omega)
    have HRC : Hid (∀ i, rcount (tabOf xs) i = (namesW (rdH (tabOf xs) (sn i))).size) := fun _ => rfl
    have hn := nice (SV_tab h1)
    have HSP := Lib.hid (fun W => spotsOf_c (tabOf xs) (SV_tab h1) W)
    have HLE := Lib.hid (fun k (hk : k ≤ 9) => (ringsF_lt hn k hk).2.1)
    clear h1 hx hm1
    generalize nxT (tabOf xs) = nx at *
    generalize tabOf xs = t at *
    refine (callsIn_wide (n := 5)).1 ?_
    refine callsIn_of_wp_marks Tryz.func35 rfl trivial ?_ rfl
    simp only [Tryz.ntmps35, List.size_toArray, List.length_cons, List.length_nil, Nat.reduceAdd, Nat.reduceSub, Array.replicate_succ, Array.replicate_zero, List.push_toArray, List.append_toArray, List.nil_append, List.cons_append]
    gi_wp2_with fail
    refine wpIn_scope ?_
    gi_wp2_with fail
    refine ⟨trivial, callsIn_wide.2 (HT.out.mono ?_)⟩
    rintro e w1 ⟨rfl, hb1⟩
    have hs1 := hb1.size
    gi_wp2
    obtain ⟨W0, hW0⟩ : ∃ W0 : World, W0 = (w1.alloc (.cells (tabA t) 57)).alloc (.cells #[.slice none 0 0] 67) := ⟨_, rfl⟩
    have hS0 : W0.heap.size = w1.heap.size + 2 := by rw [hW0]; simp only [World.size_alloc]
    have hB0 : Below w.heap.size w W0 := by rw [hW0]; (repeat' (first | (with_reducible exact Below.refl _ _) | (with_reducible assumption) | (with_reducible refine Below.alloc ?_ ?_ _) | (with_reducible refine Below.drew ?_) | (with_reducible refine Below.setCell ?_ ?_ _) | (with_reducible exact Nat.le_refl _) | omega | ((repeat (first | rewrite [World.size_alloc] | rewrite [World.size_setCell] | rewrite [World.size_drew])); omega) | (simp; omega) | (simp; done)))
    have hA0 : At W0 (w1.heap.size + 1) 67 #[.slice none 0 0] := by
      rw [hW0]; have := At.new (w1.alloc (.cells (tabA t) 57)) 67 #[.slice none 0 0]
      rwa [World.size_alloc] at this
    have hT0 : At W0 w1.heap.size 57 (tabA t) := by rw [hW0]; exact (At.new _ _ _).alloc _
    refine wpIn_label ?_
    gi_wp2_with fail
    refine ⟨trivial, callsIn_wide.2 ?_⟩
    rw [← hW0]
    clear hW0
    refine (HSP.out W0).mono ?_
    rintro e W1 ⟨⟨bs, rfl, hbs, hSW⟩, hb2⟩
    have hA1 := hA0.keep hb2
    have hT1 := hT0.keep hb2
    have hB1 : Below w.heap.size w W1 := hB0.trans (hb2.mono hB0.size)
    have hS1 := hb2.size
    have hbl := hSW.lt
    clear hA0 hb2 hB0
    gi_wp2
    refine range_law5 (F := Fence.wide) (gf := 67) (lf := #[.pointer (some ⟨bs, 0, none⟩)]) (lb := #[]) rfl (by decide) rfl trivial (fun args w => rfl) (encs := fun r : List Nat => #[.string (txt r)]) (xs := ringsF nx 9) (κ := 3)
      (rings_iter bs nx hn) (fun _ => rfl)
      (fun pre W => ∃ o, At W (w1.heap.size + 1) 67 #[o] ∧ W.ownsRow (W1.heap.size + 5) 9 1 o (closedS t pre).length (tcells (closedS t pre)) ∧ Spots W bs nx ∧ Below w.heap.size w W ∧ At W w1.heap.size 57 (tabA t))
      (fun _ _ _ => False) ?pr ?iw ?own (fun _ => ownFrom_pure _ _) ?start ?a1 ?assign ?body ?done ?stop
    case pr => rintro pre A ⟨o, _, _, h, _, _⟩; exact h
    case iw =>
      rintro pre A A' r ⟨o, k1, k2, k3, k4, k5⟩ hr1 hr2 hg
      have hge := own_block_ge k2
      refine ⟨o, at_grown' k1 hg (fun e => by cases e; omega), own_grown k2 hg (.inl fun e => ?_), k3.of_at fun t' cs h => at_grown' h hg (fun e => by cases e; omega), k4.trans (below_grown hg k4.size (fun g e => by cases e; have := hB1.size; omega)), at_grown' k5 hg (fun e => by cases e; omega)⟩
      have := hge r e; omega
    case own =>
      rintro s A A' row ⟨o, k1, k2, k3, k4, k5⟩ hg hr
      exact ⟨o, at_turn' k1 hg (fun r e => (hr r e).2), own_turn' k2 hg (fun r e => (hr r e).2), k3.of_at fun t' cs h => at_turn' h hg (fun r e => (hr r e).2), k4.trans (below_grown hg k4.size (fun g e => by have := (hr g e).1; have := hB1.size; omega)), at_turn' k5 hg (fun r e => (hr r e).2)⟩
    case start => exact ⟨_, hA1, ⟨rfl, .inl ⟨rfl, rfl⟩⟩, hSW, hB1, hT1⟩
    case assign =>
      intro l p W Kc hK
      gi_wp2
      exact hK
    case body =>
      rintro l pre r W ⟨o, k1, k2, k3, k4, k5⟩ hp hsz
      have hrmem : r ∈ ringsF nx 9 := hp.mem (by simp)
      have hlt19 : ∀ i ∈ r, i < 19 := fun i hi => hlt9.1 i (List.mem_flatten.2 ⟨r, hrmem, hi⟩)
      have hlen : (closedS t pre).length ≤ 9 := by
        have h1 := hp.length_le
        have h2 := hlt9.2.1
        have h3 := closedS_len (f := t) pre
        simp at h1; omega
      have hrl : r.length ≤ 171 := by
        have h2 := hlt9.2.2
        obtain ⟨a, b, hab⟩ := List.append_of_mem hrmem
        rw [hab] at h2
        simp only [List.flatten_append, List.flatten_cons, List.length_append] at h2
        omega
      have HYES := Lib.hid (fun (h : shut t r = true) => closedS_yes (rs := pre) h)
      have HNO := Lib.hid (fun (h : shut t r = false) => closedS_no (rs := pre) h)
      have HST := Lib.hid (fun j (hj : j < r.length) => shut_take (f := t) hj)
      have HBAD := Lib.hid (fun j (hj : j < r.length) => shut_bad (f := t) hj)
      have HALL : Hid (r.take r.length = r) := List.take_length
      have htz := txt_size r
      have HEX : Hid (∀ j (hj : j < r.length), (txt r).extract j (j + 1) = sn r[j]) := fun j hj => by
        rw [extract_one _ _ (by rw [htz]; exact hj), txt_list, List.getD_eq_getElem?_getD, List.getElem?_map, List.getElem?_eq_getElem hj]; rfl
      clear hp hrmem
      generalize txt r = s at *
      gi_wp2
      gi_loopw [8, 22] (fun _ i A => ∃ (j : Nat), j ≤ r.length ∧ i = .int .i64 j ∧ Hid (shut t (r.take j) = true) ∧ Below W.heap.size W A) (fun _ i _ => r.length - (RowKit.intOf i).toNat)
      case atStart => exact ⟨0, by omega, rfl, rfl, Below.refl _ _⟩
      case round =>
        obtain ⟨j, hj, rfl, hsh, hbA⟩ := hrel
        have hbAs := hbA.size
        rename World => A
        have m1 := k1.keep hbA
        have m2 := own_keep k2 hbA
        have m3 := k3.below hbA
        have m4 := k4.trans (hbA.mono k4.size)
        have m5 := k5.keep hbA
        by_cases hjl : j < r.length
        · have hex := HEX.out j hjl
          have hrd := fun W' => readers_c t (sn r[j]) W'
          have hrc := HRC.out r[j]
          have hst := HST.out j hjl
          have hbad := HBAD.out j hjl
          rw [hsh.out, Bool.true_and] at hst
          generalize namesW (rdH t (sn r[j])) = q at *
          generalize sn r[j] = sr at *
          generalize rcount t r[j] = rc at *
          have HRX := Lib.hid hrd
          have hC := At.ext (W := A.drew) (B := A.heap.size) m5 m5.lt
          have hR : ∀ x : Ext A.heap.size A.drew, Calls Tryz.prog 68 #[tabX t, .string sr] x.val fun e w' => e = .returned (.string q) ∧ Below x.val.heap.size x.val w' := fun x => hrd x.val
          have i0 : (0 : Int) ≤ (j : Int) := by omega
          have i1 : (j : Int) < r.length := by omega
          have HST2 := Lib.hid hst
          have HBAD2 := Lib.hid hbad
          have HRC2 := Lib.hid hrc
          clear hst hbad hrc hrd
          gi_wp2
          refine region_quiet_inRound (F := Fence.wide) (C := fun w' => ∃ x : Ext A.heap.size A.drew, w' = x.val) rfl (by kernel_rfl) (by kernel_rfl) (by kernel_rfl) ⟨⟨_, Below.refl _ _⟩, rfl⟩ ?_
          simp only
          refine rowIn_step rfl 57 (.tmp 4) rfl w1.heap.size 57 (tabA t) (by rfl) hC 9 9 Tryz.underlying57 (by kernel_rfl) ?_
          simp only [Act.put, List.setIfInBounds_toArray, List.set_cons_succ, List.set_cons_zero]
          gi_big_quiet_step (fail)
          gi_big_quiet_step (fail)
          gi_big_quiet_step (fail)
          gi_big_quiet_step (fail)
          gi_big_quiet_step (fail)
          (refine BigFrame.wpQuietIn_want (fun _ _ _ _ => trivial) rfl (fun K hK => ?_); gi_big_quiet_op; refine ⟨_, fun _ => callsIn_wide.2 (ext_call _ (Nat.le_refl _) (hR _)), hK _ ?_⟩; clear hK K)
          gi_big_quiet_step (fail)
          gi_big_quiet_step (fail)
          refine wpQuietIn_nil ?_
          rintro A2 ⟨xw, rfl⟩
          have hb2 : Below A.heap.size A xw.val := ((Below.refl _ _).drew).trans xw.property
          clear hC hR
          generalize xw.val = A2 at *
          by_cases hq : q.size ≤ 1
          · have hq2 : ¬ (1 : Int) < (q.size : Int) := by omega
            have hsh2 : Hid (shut t (r.take (j + 1)) = true) := by show _ = _; rw [HST2.out, HRC2.out]; simpa using hq
            have hbA2 := hbA.trans (hb2.mono hbAs)
            clear m1 m2 m3 m4 m5 hq
            gi_wp2
            go_roundw
            case rel => exact ⟨j + 1, by omega, by go_num, hsh2, hbA2⟩
            case measure => simp [RowKit.intOf]; omega
          · have hq2 : (1 : Int) < (q.size : Int) := by omega
            have hbd := HBAD2.out (by rw [HRC2.out]; exact hq)
            have hno := HNO.out hbd
            have HF := Lib.hid hno
            have hbA2 := hbA.trans (hb2.mono hbAs)
            have n1 := m1.keep hb2
            have n2 := own_keep m2 hb2
            have n3 := m3.below hb2
            have n4 := m4.trans (hb2.mono m4.size)
            have n5 := m5.keep hb2
            clear m1 m2 m3 m4 m5 hq hbd hno k1 k2 k3 k4 k5
            gi_wp2
            exact ⟨keepsFrom_below hbA2, (KeepsNew.below (B := W1.heap.size + 2) hbA2).toIn (Nat.le_refl _) (by omega), _, n1, by rw [HF.out]; exact n2, n3, n4, n5⟩
        · have hjr : j = r.length := by omega
          subst hjr
          have hall := hsh.out
          rw [HALL.out] at hall
          have HY := Lib.hid (HYES.out hall)
          clear hall hsh
          have hsA : W1.heap.size + 5 ≤ A.heap.size := by omega
          have c3 : A.cell? ⟨w1.heap.size + 1, 0, none⟩ = some o := m1.cell 0
          have hl1 := m1.lt
          have hnw := one_new A (.string s) 9
          have hzw := hB1.size
          generalize closedS t pre = ys at *
          gi_wp2_with (gi_at_builtin; refine held ?_)
          unfold Held
          refine appIn_str rfl (.tmp 35) (.tmp 37) rfl (W1.heap.size + 5) o ys s ⟨A.heap.size, 0, none⟩ 1 (by rfl) (by rfl) (own_keep m2 ((Below.refl _ _).alloc (Nat.le_refl _) _)) hnw (by omega) (by simp; omega) ?_
          intro o' W3 hown3 hgrow3
          have j1 : At W3 (w1.heap.size + 1) 67 #[o] := at_grown' (m1.alloc (.cells #[.string s] 9)) hgrow3 (own_box_ne' m2 m1 (by decide))
          have d1 := j1.cell 0
          have d2 := j1.frozen 0
          have hge := own_block_ge m2
          have hK3 : KeepsFrom W1.heap.size A W3 := by
            refine ⟨Nat.le_trans (by simp) hgrow3.size, fun x ob hx1 hx2 hx3 => ?_⟩
            have hx4 := (Array.getElem?_eq_some_iff.1 hx2).1
            refine (hgrow3.block x (by simp; omega) (fun e => ?_)).trans ((Below.heap_alloc _ _ _ hx4).trans hx2)
            rcases m2.2 with ⟨rfl, _⟩ | ⟨g, cap, cur, rfl, _, hh, _⟩
            · cases e
            · cases e
              rw [hh] at hx2
              cases hx2
              cases hx3
          have hI3 : KeepsIn (W1.heap.size + 2) 3 A W3 := by
            refine ⟨Nat.le_trans (by simp) hgrow3.size, fun x hx1 hx2 => ?_⟩
            refine (hgrow3.block x (by simp; omega) (fun e => ?_)).trans (Below.heap_alloc _ _ _ (by omega))
            have := hge x e.symm
            omega
          have hKA : KeepsFrom W1.heap.size W W3 := (keepsFrom_below hbA).trans hK3
          have hIA : KeepsIn (W1.heap.size + 2) 3 W W3 := ⟨Nat.le_trans hbAs hI3.size, fun x hx1 hx2 => (hI3.same x hx1 hx2).trans (hbA.block x (by omega))⟩
          have hSP3 : Spots W3 bs nx := m3.of_at fun t' cs h => at_grown' (h.alloc (.cells #[.string s] 9)) hgrow3 (fun e => by have := hge bs e.symm; omega)
          have hT3 : At W3 w1.heap.size 57 (tabA t) := at_grown' (m5.alloc (.cells #[.string s] 9)) hgrow3 (fun e => by have := hge _ e.symm; omega)
          have hB3 : Below w.heap.size w W3 := (m4.alloc m4.size _).trans (below_grown hgrow3 (by have := m4.size; simp; omega) (fun g e => by have := hge g e; omega))
          have hne3 := own_box_ne' hown3 j1 (by decide)
          have hpn : (ys ++ [s]).length = ys.length + 1 := by simp
          rw [hpn] at hown3
          obtain ⟨A3, cap3, rfl, _⟩ := Rd.of_own hown3
          have q1 : At (W3.setCell ⟨w1.heap.size + 1, 0, none⟩ (.slice A3 (ys.length + 1) cap3)) (w1.heap.size + 1) 67 #[.slice A3 (ys.length + 1) cap3] := j1.set 0 _
          have qS : Spots (W3.setCell ⟨w1.heap.size + 1, 0, none⟩ (.slice A3 (ys.length + 1) cap3)) bs nx := hSP3.of_at fun t' cs h => h.far (by show bs ≠ w1.heap.size + 1; omega) _
          have qT := hT3.far (p := ⟨w1.heap.size + 1, 0, none⟩) (by show w1.heap.size ≠ w1.heap.size + 1; omega) (.slice A3 (ys.length + 1) cap3)
          clear hnw c3 k1 k2 k3 k4 k5 m1 m2 m3 m4 m5 hgrow3 hge hSP3 hK3 hI3
          gi_wp2
          refine ⟨hKA.trans ((KeepsOthers.setCell _ _ _).from _), ⟨by simp [World.size_setCell]; exact hIA.size, fun x hx1 hx2 => (heap_setCell_other _ _ _ _ (by simp; omega)).trans (hIA.same x hx1 hx2)⟩, _, q1, ?_, qS, hB3.setCell (by simp; omega) _, qT⟩
          rw [HY.out, hpn]
          exact hown3.kept (grownBy_setCell' W3 (w1.heap.size + 1) _) (.inr hne3.symm)
    case done =>
      intro D W hD hI hd
      obtain ⟨o, k1, k2, k3, k4, k5⟩ := hI
      have c3 : W.cell? ⟨w1.heap.size + 1, 0, none⟩ = some o := k1.cell 0
      have hown := own_more k2 (show w.heap.size ≤ W1.heap.size + 5 by have := hB1.size; omega)
      have hzw := hB1.size
      clear k1 k2 k3 k5
      gi_wp2
      refine ⟨by simp, .inl ⟨D, _, rfl, run_takeDeferred hd, ?_⟩⟩
      have hW2 : (W.putObj D (.deferred none)).ownsRow w.heap.size 9 1 o (closedB xs).length (tcells (closedB xs)) := by
        rw [HS.out]
        exact own_turn' hown (grownBy_putObj' W D _) (fun r e => by cases e; exact ⟨_, hd, rfl⟩)
      have hR : ∀ tmps : Array Value, tmps.getD 2 undef = o → tmps.getD 3 undef = .bool true → (results Tryz.f35 tmps).run Tryz.prog (W.putObj D (.deferred none)) = .ok (.tuple #[o, .bool true]) (W.putObj D (.deferred none)) := fun tmps h2 h3 => by
        have h2' : tmps[2]?.getD undef = o := by simpa using h2
        have h3' : tmps[3]?.getD undef = .bool true := by simpa using h3
        simp [results, Tryz.results35, h2', h3']
      exact ⟨_, hR _ rfl rfl, _, by rw [HM.out], hW2, k4.trans ⟨rfl, rfl, rfl, by simp [World.putObj], fun k hk => World.putObj_heap_other (by have := k4.size; omega)⟩⟩
    case stop =>
      intro _ _ _ _ _ _ hf
      exact hf.elim
  · have hm0 : mvalid xs = false := by simpa [mvalid] using h1
    have HM := Lib.hid hm0
    have HS := Lib.hid (show closedB xs = [] from if_neg (by rw [hm0]; decide))
    have HT := Lib.hid (tableOf_no xs h1 v w hx)
    clear h1 hx hm0
    go_enter Tryz.func35, Tryz.ntmps35
    go_wp2_with fail
    go_step3
    go_wp2_with fail
    refine HT.out.mono ?_
    rintro e w1 ⟨rfl, hb1⟩
    have hs1 := hb1.size
    go_wp2
    rw [Exit.noGoto_ret]
    go_ret2
    exact ⟨_, by rw [HM.out]; rfl, by rw [HS.out]; exact ⟨rfl, .inl ⟨rfl, rfl⟩⟩, by (repeat' (first | (with_reducible exact Below.refl _ _) | (with_reducible assumption) | (with_reducible refine Below.alloc ?_ ?_ _) | (with_reducible refine Below.drew ?_) | (with_reducible refine Below.setCell ?_ ?_ _) | (with_reducible exact Nat.le_refl _) | omega | ((repeat (first | rewrite [World.size_alloc] | rewrite [World.size_setCell] | rewrite [World.size_drew])); omega) | (simp; omega) | (simp; done)))⟩
end Go.Proofs.YtogkodjlbdlgjaaGreat
namespace Go.PW
open Go.PM Go.RowKit
variable {nx : Nat → Option Nat}
theorem ringsF_in (hn : Nice nx) {q : Nat} (hq : q < 9) (hr : onRb nx q = true) : ∀ k, q < k → q ∈ (ringsF nx k).flatten := by
  intro k
  induction k with
  | zero => intro h; omega
  | succ k ih =>
    intro h
    by_cases hc : onRb nx k = true ∧ k ∉ (ringsF nx k).flatten
    · rw [ringsF_yes hc.1 hc.2, List.flatten_append, List.mem_append]
      rcases Nat.lt_or_ge q k with h1 | h1
      · exact .inl (ih h1)
      · right
        have : q = k := by omega
        subst this
        obtain ⟨l, hl⟩ := way_first nx q hn (by omega)
        simp [hl]
    · rw [ringsF_no hc]
      rcases Nat.lt_or_ge q k with h1 | h1
      · exact ih h1
      · have : q = k := by omega
        subst this
        exact Classical.not_not.1 fun hm => hc ⟨hr, hm⟩
theorem ringsF_mem2 : ∀ k, ∀ l ∈ ringsF nx k, ∃ s, s < k ∧ l = way nx s ∧ onRb nx s = true ∧ s ∉ (ringsF nx s).flatten := by
  intro k
  induction k with
  | zero => intro l h; simp [ringsF] at h
  | succ k ih =>
    intro l h
    by_cases hc : onRb nx k = true ∧ k ∉ (ringsF nx k).flatten
    · rw [ringsF_yes hc.1 hc.2, List.mem_append] at h
      rcases h with h | h
      · obtain ⟨s, h1, h2⟩ := ih l h; exact ⟨s, by omega, h2⟩
      · simp at h; exact ⟨k, by omega, h, hc⟩
    · rw [ringsF_no hc] at h
      obtain ⟨s, h1, h2⟩ := ih l h; exact ⟨s, by omega, h2⟩
theorem ring_next (hn : Nice nx) {s : Nat} (hs : s < 19) (hr : onRb nx s = true) {x y : Nat} (hx : x ∈ way nx s) (h : nx x = some y) : y ∈ way nx s := by
  have ho := way_rho hn hs
  have e := ho.onR.1 ((onRb_iff hn hs).1 hr)
  obtain ⟨j, hj⟩ := List.getElem?_of_mem hx
  have hjl := (List.getElem?_eq_some_iff.1 hj).1
  rw [ho.at_ j hjl] at hj
  have h2 : orb nx s (j + 1) = some y := by simp only [orb, hj, Option.bind_some]; exact h
  by_cases hl : j + 1 < (way nx s).length
  · rw [ho.some_ hl] at h2
    rw [← Option.some.inj h2]; exact List.getElem_mem hl
  · rw [show j + 1 = (way nx s).length by omega, e] at h2
    obtain rfl := Option.some.inj h2
    exact List.mem_of_getElem? (ho.at_ 0 ho.pos)
theorem ring_orb (hn : Nice nx) {s : Nat} (hs : s < 19) (hr : onRb nx s = true) {x : Nat} (hx : x ∈ way nx s) : ∀ k y, orb nx x k = some y → y ∈ way nx s := by
  intro k
  induction k with
  | zero => intro y h; simp only [orb, Option.some.injEq] at h; rw [← h]; exact hx
  | succ k ih =>
    intro y h
    simp only [orb, Option.bind_eq_some_iff] at h
    obtain ⟨z, h1, h2⟩ := h
    exact ring_next hn hs hr (ih z h1) h2
theorem ring_back (hn : Nice nx) {s : Nat} (hs : s < 19) (hr : onRb nx s = true) {x : Nat} (hx : x ∈ way nx s) : ∃ k, orb nx x k = some s := by
  have ho := way_rho hn hs
  have e := ho.onR.1 ((onRb_iff hn hs).1 hr)
  obtain ⟨j, hj⟩ := List.getElem?_of_mem hx
  have hjl := (List.getElem?_eq_some_iff.1 hj).1
  rw [ho.at_ j hjl] at hj
  refine ⟨(way nx s).length - j, ?_⟩
  have := orb_add (nx := nx) s j ((way nx s).length - j)
  rw [show j + ((way nx s).length - j) = (way nx s).length by omega, e, hj] at this
  exact this.symm
/-- the first place of a ring is its least -/
theorem ring_min (hn : Nice nx) {s : Nat} (hs : s < 9) (hr : onRb nx s = true) (hf : s ∉ (ringsF nx s).flatten) : ∀ q ∈ way nx s, s ≤ q := by
  intro q hq
  rcases Nat.lt_or_ge q s with hlt | hge
  · exfalso
    have hoq := ring_all hn (by omega) ((onRb_iff hn (by omega)).1 hr) q hq
    have hrq := (onRb_iff hn (show q < 19 by omega)).2 hoq
    have h1 := ringsF_in hn (by omega) hrq s hlt
    obtain ⟨l, hl, hql⟩ := List.mem_flatten.1 h1
    obtain ⟨s', hs', rfl, hr', _⟩ := ringsF_mem2 s l hl
    obtain ⟨k, hk⟩ := ring_back hn (show s < 19 by omega) hr hq
    have := ring_orb hn (show s' < 19 by omega) hr' hql k s hk
    exact hf (List.mem_flatten.2 ⟨_, hl, this⟩)
  · exact hge
theorem ringsF_sorted (hn : Nice nx) : ∀ k, k ≤ 9 → (ringsF nx k).Pairwise (fun a b => ∀ x y, a.head? = some x → b.head? = some y → x < y) := by
  intro k
  induction k with
  | zero => intro _; simp [ringsF]
  | succ k ih =>
    intro hk
    by_cases hc : onRb nx k = true ∧ k ∉ (ringsF nx k).flatten
    · rw [ringsF_yes hc.1 hc.2, List.pairwise_append]
      refine ⟨ih (by omega), by simp, fun a ha b hb x y hx hy => ?_⟩
      simp at hb
      subst hb
      obtain ⟨l, hl⟩ := way_first nx k hn (by omega)
      rw [hl] at hy
      simp at hy
      obtain ⟨s, hs, rfl, _⟩ := ringsF_mem2 k a ha
      obtain ⟨l2, hl2⟩ := way_first nx s hn (by omega)
      rw [hl2] at hx
      simp at hx
      omega
    · rw [ringsF_no hc]; exact ih (by omega)
theorem filter_at {α : Type _} (p : α → Bool) : ∀ (l : List α) (n : Nat) (h : n < l.length), p l[n] = true → (l.filter p)[((l.take n).filter p).length]? = some l[n]
  | [], n, h, _ => by simp at h
  | a :: l, 0, _, hp => by
    have hp : p a = true := hp
    simp [hp]
  | a :: l, n + 1, h, hp => by
    have h' : n < l.length := by simpa using h
    have hp : p l[n] = true := hp
    have ih := filter_at p l n h' hp
    by_cases ha : p a = true
    · simp [ha]; exact ih
    · simp [ha]; exact ih
/-- what there is to say of a ring -/
structure RingR (f : Nat → ByteArray) (r : List Nat) : Prop where
  two : 2 ≤ r.length
  le : r.length ≤ 19
  low : ∀ i (h : i < r.length), r[i] < 9
  next : ∀ i (h : i < r.length), sx f r[i] = r[(i + 1) % r.length]'(Nat.mod_lt _ (by omega))
  dep : ∀ i (h : i < r.length), depN (nxT f) r[i] = 0
  min : ∀ i (h : i < r.length), r[0]'(by omega) ≤ r[i]
theorem ringR (f : Nat → ByteArray) (hf : SV f) {r : List Nat} (h : r ∈ ringsF (nxT f) 9) : RingR f r := by
  obtain ⟨s, hs, rfl, hr, hfr⟩ := ringsF_mem2 9 r h
  have hn := nice hf
  have hs19 : s < 19 := by omega
  have ho := way_rho hn hs19
  obtain ⟨i0, h1, h2, h3⟩ := ring_last hf hs19
  obtain ⟨h4, h5, h6⟩ := h3.1 hr
  have hall := ring_all hn hs19 ((onRb_iff hn hs19).1 hr)
  have h0 := wb_zero hf hs19 ho.pos
  refine ⟨h4, ho.len, fun i hi => ring_low hn (hall _ (List.getElem_mem hi)), fun i hi => ?_, fun i hi => ?_, fun i hi => ?_⟩
  · by_cases hl : i + 1 < (way (nxT f) s).length
    · rw [(wb_some hf hs19 hl).2]
      congr 1
      exact (Nat.mod_eq_of_lt hl).symm
    · have he : i + 1 = (way (nxT f) s).length := by omega
      have h7 : (way (nxT f) s)[i] = i0 := by
        rw [show (way (nxT f) s).length - 1 = i by omega, List.getElem?_eq_getElem hi] at h1
        exact Option.some.inj h1
      rw [h7, h6]
      have h8 : (i + 1) % (way (nxT f) s).length = 0 := by rw [he, Nat.mod_self]
      simp only [h8]
      exact h0.symm
  · have h7 := hall _ (List.getElem_mem hi)
    have hx := ho.lt _ (List.getElem_mem hi)
    refine (depN_stops hn hx).unique ⟨by omega, fun j hj => by omega, _, rfl, .inr h7⟩
  · rw [h0]; exact ring_min hn hs hr hfr _ (List.getElem_mem hi)
end Go.PW
namespace Go.PM
open Go.PW
open Go.RowKit
def needB (xs : List Mv) : Bool := decide (0 < (closedB xs).length)
def cioI (xs : List Mv) : Int := if mvalid xs then ((busyF xs 9).length : Int) + ((closedB xs).length : Int) else -1
theorem closedB_no {xs : List Mv} (h : mvalid xs = false) : closedB xs = [] := by
  unfold closedB; rw [h]; rfl
end Go.PM
namespace Go.Proofs.YtogkodjlbdlgjaaGreat
open Go.RowKit Go.PM Go.PW

set_option maxRecDepth 100000 in
set_option maxHeartbeats 800000 in
theorem imCountInOrder_c (xs : List Mv) (v : Value) (w : World) (hx : RdM w v xs) (hn' : xs.length ≤ 1048576) :
    Calls Tryz.prog 15 #[v] w fun e w' => e = .returned (.int .i64 (cioI xs)) ∧ Below w.heap.size w w' := by
  have HN : Hid (cioI xs = if mvalid xs then ((busyF xs 9).length : Int) + ((closedB xs).length : Int) else -1) := rfl
  have HI : Hid (countI xs = if mvalid xs then ((busyF xs 9).length : Int) else -1) := rfl
  have hl1 := busyF_len xs 9
  have hl2 := closedB_len xs
  have HC := Lib.hid (imClosedRings_c xs v w hx)
  have HB := Lib.hid (fun W (hW : Below w.heap.size w W) => imCountBusy_c xs v W (hx.below hW) hn')
  go_enter Tryz.func15, Tryz.ntmps15
  go_wp2_with fail
  refine HC.out.mono ?_
  rintro e w1 ⟨v', rfl, ho, hb⟩
  obtain ⟨A, cap, rfl, _⟩ := Rd.of_own ho
  clear ho HC hx
  have hs1 := hb.size
  rcases Bool.eq_false_or_eq_true (mvalid xs) with h1 | h1
  · have hci := HI.out
    rw [h1, if_pos rfl] at hci
    have hcb := HB.out _ hb
    rw [hci] at hcb
    generalize (closedB xs).length = n at *
    generalize (busyF xs 9).length = m at *
    go_wp2_with (go_at_call 36; refine hcb.mono ?_; rintro e w2 ⟨rfl, hb2⟩; refine held ?_)
    unfold Held
    have hb3 := hb.trans (hb2.mono hs1)
    clear hb2 hcb hci
    go_wp2
    go_ret
    exact ⟨by rw [HN.out, h1, if_pos rfl]; rfl, hb3⟩
  · go_wp2
    go_ret
    exact ⟨by rw [HN.out, h1]; rfl, hb⟩
end Go.Proofs.YtogkodjlbdlgjaaGreat
