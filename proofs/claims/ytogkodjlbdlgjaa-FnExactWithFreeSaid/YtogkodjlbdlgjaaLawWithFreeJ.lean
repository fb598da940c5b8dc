/- Proved: for every input of the form's own reach the law FnExactWithFree answers true and its arguments read afterwards as before; no further condition. -/
import Derived.Test.YtogkodjlbdlgjaaRows
import Derived.Test.YtogkodjlbdlgjaaLib
import Derived.ProofKit
import Derived.OpenShut
import Derived.ShutString
import Derived.ChangeOld
import Derived.Deep.Slices
import Derived.ChangeSame
import Derived.Carry
import Derived.Test.YtogkodjlbdlgjaaHar2
import Derived.Test.YtogkodjlbdlgjaaApp
import Derived.Test.YtogkodjlbdlgjaaMark
import Derived.Test.YtogkodjlbdlgjaaSlS6
import Derived.Test.YtogkodjlbdlgjaaHar
namespace Go.Proofs.Ytogkodjlbdlgjaa
open Go.RowKit Go.PM Go.ChangeShapes Go.WideShapes Go.Deep

theorem own : ownKnob Try.prog.godebug = none := by kernel_rfl
theorem laidOut : laidOutB Try.prog = true := by kernel_rfl

theorem exists_list {α : Type} (Q : Nat → α → Prop) : ∀ n, (∀ i, i < n → ∃ m, Q i m) → ∃ xs : List α, xs.length = n ∧ ∀ i (h : i < xs.length), Q i xs[i]
  | 0, _ => ⟨[], rfl, fun i h => absurd h (Nat.not_lt_zero _)⟩
  | n + 1, h => by
    obtain ⟨xs, hl, hx⟩ := exists_list Q n fun i hi => h i (by omega)
    obtain ⟨m, hm⟩ := h n (by omega)
    refine ⟨xs ++ [m], by simp [hl], fun i hi => ?_⟩
    by_cases h1 : i < xs.length
    · rw [List.getElem_append_left h1]; exact hx i h1
    · have h2 : i = xs.length := by simp at hi; omega
      subst h2
      rw [List.getElem_append_right (Nat.le_refl _)]
      simpa [hl] using hm

theorem rdM_mk {w : World} {ad : Addr} {cap : Nat} (xs : List Mv) (hc : xs.length ≤ cap) (hn : xs.length ≤ 9223372036854775807)
    (h : ∀ i (hi : i < xs.length), w.cell? (ad.add (i * 2)) = some (.string xs[i].1) ∧ w.cell? ((ad.add (i * 2)).add 1) = some (.string xs[i].2)) : RdM w (.slice (some ad) xs.length cap) xs := by
  refine ⟨some ad, cap, rfl, hc, hn, mcells_length xs, fun h0 => ?_⟩
  have h1 := (h 0 h0).1
  obtain ⟨b, off, spot⟩ := ad
  have hs : spot = none := by
    have := World.cell?_spot h1
    simpa [Addr.add] using this
  subst hs
  have hadd : ∀ o i, (Addr.mk b o none).add i = ⟨b, o + i, none⟩ := fun o i => by
    unfold Addr.add; split
    · next h => subst h; rfl
    · rfl
  refine ⟨b, off, rfl, ?_, fun j u hu => ?_⟩
  · rcases Nat.lt_or_ge b w.heap.size with hlt | hge
    · exact hlt
    · rw [hadd] at h1
      simp [World.cell?, Array.getElem?_eq_none hge] at h1
  · have hj : j < xs.length * 2 := by rw [← mcells_length]; exact (List.getElem?_eq_some_iff.1 hu).1
    have hk : j / 2 < xs.length := by omega
    have hm := mcells_at xs (j / 2) _ (List.getElem?_eq_getElem hk)
    have hh := h (j / 2) hk
    rw [hadd, hadd] at hh
    rcases Nat.mod_two_eq_zero_or_one j with h0 | h0
    · have e : j / 2 * 2 = j := by omega
      rw [e] at hm hh
      rw [hm.1] at hu
      rw [hh.1, hu]
    · have e : j / 2 * 2 + 1 = j := by omega
      rw [e] at hm
      rw [Nat.add_assoc, e] at hh
      rw [hm.2] at hu
      rw [hh.2, hu]

set_option maxRecDepth 100000 in
theorem open_moves {H : Type} {enc : TypeId × Value → H} {W : World} {base fuel : Nat} {spare : Nat → Bool} {held : Bool} {a : Option Addr} {n c : Nat} {x : DataW H × List MemPlace}
    (h : DataW.trod enc Try.prog W base spare held fuel 51 [.slice a n c] = some x) :
    ∃ xs : List Mv, RdM W (.slice a n c) xs ∧ ∀ m ∈ xs, m.1.size ≤ 9223372036854775807 ∧ m.2.size ≤ 9223372036854775807 := by
  rcases open_slice Try.underlying51 h with ⟨hcs, _⟩ | ⟨ad, len, cap, m, k, D, Pl, hcs, hb, hl, hm, hmm, hx, hi⟩
  · simp at hcs
    obtain ⟨rfl, rfl, rfl⟩ := hcs
    exact ⟨[], ⟨none, 0, rfl, by simp, by simp, rfl, by simp⟩, by simp⟩
  · simp at hcs
    obtain ⟨rfl, rfl, rfl⟩ := hcs
    have hC : Try.prog.cellsOf 110 = 2 := by kernel_rfl
    have hml : n ≤ m := by rw [hmm]; split <;> omega
    have hM : maxLen = 9223372036854775807 := rfl
    obtain ⟨xs, hxl, hxs⟩ := exists_list (fun i (m : Mv) => W.cell? (ad.add (i * 2)) = some (.string m.1) ∧ W.cell? ((ad.add (i * 2)).add 1) = some (.string m.2) ∧ m.1.size ≤ 9223372036854775807 ∧ m.2.size ≤ 9223372036854775807) n (fun i hin => by
      obtain ⟨cs', hc', ht⟩ := hi i (by omega)
      rw [hC] at hc'
      obtain ⟨y0, y1, k', _, hlen, h0, h1⟩ := trod_struct2 Try.underlying110 ht
      obtain ⟨_, hcl, hat⟩ := World.cells?_some hc'
      rw [hC] at hlen
      match cs', hlen with
      | [c0, c1], _ =>
        have e0 : Try.prog.cellsOf 9 = 1 := by kernel_rfl
        simp only [e0] at h0 h1
        simp at h0 h1
        obtain ⟨s, hs, _, hs1⟩ := DataW.trod_string Try.underlying9 h0
        obtain ⟨t, hta, _, ht1⟩ := DataW.trod_string Try.underlying9 h1
        simp at hs hta
        subst hs hta
        refine ⟨(s, t), ?_, ?_, hM ▸ hs1, hM ▸ ht1⟩
        · have := hat 0 (by omega)
          simpa [Addr.add] using this
        · have := hat 1 (by omega)
          simpa using this)
    subst hxl
    refine ⟨xs, rdM_mk xs hl (by omega) fun i hi => ⟨(hxs i hi).1, (hxs i hi).2.1⟩, fun m hm => ?_⟩
    obtain ⟨i, hi, rfl⟩ := List.getElem_of_mem hm
    exact (hxs i hi).2.2
end Go.Proofs.Ytogkodjlbdlgjaa
namespace Go.PM
open Go.RowKit
/-- the cells behind n marked steps, the first mark being number k -/
def smarks : Nat → Nat → List St
  | 0, _ => []
  | n + 1, k => ((k : Int), mT (k + 1), mT (k + 2)) :: smarks n (k + 3)
theorem smarks_length (n k : Nat) : (smarks n k).length = n := by
  induction n generalizing k with
  | zero => rfl
  | succ n ih => simp [smarks, ih]
theorem smarks_at (n k i : Nat) (h : i < (smarks n k).length) : (smarks n k)[i] = (((k + 3 * i : Nat) : Int), mT (k + 3 * i + 1), mT (k + 3 * i + 2)) := by
  induction n generalizing k i with
  | zero => simp [smarks] at h
  | succ n ih =>
    cases i with
    | zero => rfl
    | succ i =>
      simp only [smarks, List.getElem_cons_succ]
      rw [ih, show k + 3 + 3 * i = k + 3 * (i + 1) by omega]
def smix (xs : List St) (i k : Nat) : List St := smarks i k ++ xs.drop i
theorem smarks_snoc (i k : Nat) : smarks (i + 1) k = smarks i k ++ [(((k + 3 * i : Nat) : Int), mT (k + 3 * i + 1), mT (k + 3 * i + 2))] := by
  induction i generalizing k with
  | zero => rfl
  | succ i ih =>
    rw [smarks, ih (k + 3)]
    simp only [smarks, List.cons_append]
    rw [show k + 3 + 3 * i = k + 3 * (i + 1) by omega]
theorem smix_length (xs : List St) (i k : Nat) (h : i ≤ xs.length) : (smix xs i k).length = xs.length := by
  simp [smix, smarks_length]; omega
theorem smix_set (xs : List St) (i k : Nat) (h : i < xs.length) : (((scells (smix xs i k)).set (i * 3) (.int .i64 ((k + 3 * i : Nat) : Int))).set (i * 3 + 1) (.string (mT (k + 3 * i + 1)))).set (i * 3 + 2) (.string (mT (k + 3 * i + 2))) = scells (smix xs (i + 1) k) := by
  have hl : (scells (smarks i k)).length = i * 3 := by rw [scells_length, smarks_length]
  unfold smix
  rw [smarks_snoc, List.drop_eq_getElem_cons h, scells_append, scells_append, scells_append, scells_cons]
  rw [List.set_append_right _ _ (by omega), List.set_append_right _ _ (by omega), List.set_append_right _ _ (by omega), hl, Nat.sub_self, show i * 3 + 1 - i * 3 = 1 by omega, show i * 3 + 2 - i * 3 = 2 by omega]
  simp [scells]
end Go.PM
namespace Go.Proofs.Ytogkodjlbdlgjaa
open Go.RowKit Go.PM

set_option maxRecDepth 100000 in
set_option maxHeartbeats 400000 in
theorem eqStepS_c (xs ys : List St) (v u : Value) (w : World) (hx : RdS w v xs) (hy : RdS w u ys) :
    Calls Try.prog 40 #[v, u] w fun e w' => e = .returned (.bool (decide (xs = ys))) ∧ Below w.heap.size w w' := by
  obtain ⟨A, cap, rfl, hn, hc, hcell⟩ := hx.open
  obtain ⟨A', cap', rfl, hn', hc', hcell'⟩ := hy.open
  by_cases hl : xs.length = ys.length
  · have hl1 : ((xs.length : Int) == ys.length) = true := by simp [hl]
    have hl2 := Lib.hid hl
    clear hl
    go_enter Try.func40, Try.ntmps40
    go_wp2
    go_loopw [5] (fun i wr => ∃ (k : Nat), k ≤ xs.length ∧ i = .int .i64 k ∧ Hid (xs.take k = ys.take k) ∧ Below w.heap.size w wr) (fun i _ => xs.length - (intOf i).toNat)
    case atStart => exact ⟨0, by omega, rfl, by show _ = _; simp, Below.refl _ _⟩
    case round =>
      obtain ⟨k, hk, rfl, ht, hb⟩ := hrel
      by_cases hlt : k < xs.length
      · obtain ⟨b, off, rfl, hbl, hc1, hc2, hc3⟩ := hcell k hlt
        obtain ⟨b', off', rfl, hbl', hc1', hc2', hc3'⟩ := hcell' k (by have := hl2.out; omega)
        have hlt2 : k < ys.length := by have := hl2.out; omega
        have HE : Hid (∀ h : stEq xs[k].1 xs[k].2.1 xs[k].2.2 ys[k].1 ys[k].2.1 ys[k].2.2 = true, xs[k] = ys[k]) := fun h => by
          simp [stEq] at h
          exact Prod.ext h.1 (Prod.ext h.2.1 h.2.2)
        have HN : Hid (stEq xs[k].1 xs[k].2.1 xs[k].2.2 ys[k].1 ys[k].2.1 ys[k].2.2 = false → ¬ xs = ys) := fun h e => by
          subst e; simp [stEq] at h
        have HT : Hid (xs[k] = ys[k] → xs.take (k + 1) = ys.take (k + 1)) := fun h => by rw [take_snoc xs k hlt, take_snoc ys k hlt2, ht.out, h]
        have hx1 : ∀ x : Ext w.heap.size wr, x.val.cell? ⟨b, off + k * 3, none⟩ = some (.int .i64 xs[k].1) := fun x => ((x.property.cell (p := ⟨b, _, none⟩) hbl).trans (hb.cell (p := ⟨b, _, none⟩) hbl)).trans hc1
        have hx2 : ∀ x : Ext w.heap.size wr, x.val.cell? ⟨b, off + k * 3 + 1, none⟩ = some (.string xs[k].2.1) := fun x => ((x.property.cell (p := ⟨b, _, none⟩) hbl).trans (hb.cell (p := ⟨b, _, none⟩) hbl)).trans hc2
        have hx3 : ∀ x : Ext w.heap.size wr, x.val.cell? ⟨b, off + k * 3 + 2, none⟩ = some (.string xs[k].2.2) := fun x => ((x.property.cell (p := ⟨b, _, none⟩) hbl).trans (hb.cell (p := ⟨b, _, none⟩) hbl)).trans hc3
        have hx4 : ∀ x : Ext w.heap.size wr, x.val.cell? ⟨b', off' + k * 3, none⟩ = some (.int .i64 ys[k].1) := fun x => ((x.property.cell (p := ⟨b', _, none⟩) hbl').trans (hb.cell (p := ⟨b', _, none⟩) hbl')).trans hc1'
        have hx5 : ∀ x : Ext w.heap.size wr, x.val.cell? ⟨b', off' + k * 3 + 1, none⟩ = some (.string ys[k].2.1) := fun x => ((x.property.cell (p := ⟨b', _, none⟩) hbl').trans (hb.cell (p := ⟨b', _, none⟩) hbl')).trans hc2'
        have hx6 : ∀ x : Ext w.heap.size wr, x.val.cell? ⟨b', off' + k * 3 + 2, none⟩ = some (.string ys[k].2.2) := fun x => ((x.property.cell (p := ⟨b', _, none⟩) hbl').trans (hb.cell (p := ⟨b', _, none⟩) hbl')).trans hc3'
        clear hc1 hc2 hc3 hcell hc1' hc2' hc3' hcell'
        have i0 : (0 : Int) ≤ (k : Int) := by omega
        have i1 : (k : Int) < xs.length := by omega
        have i2 : (k : Int) < ys.length := by omega
        generalize xs[k].1 = x1 at *
        generalize xs[k].2.1 = x2 at *
        generalize xs[k].2.2 = x3 at *
        generalize ys[k].1 = y1 at *
        generalize ys[k].2.1 = y2 at *
        generalize ys[k].2.2 = y3 at *
        have hE := fun W => eqStep_c x1 x2 x3 y1 y2 y3 W
        generalize stEq x1 x2 x3 y1 y2 y3 = q at *
        go_wp2
        refine wp_region_ext w.heap.size (by kernel_rfl) (by kernel_rfl) ?_
        repeat (go_big_quiet_step ((go_at_call 94; exact ext_call _ hb.size (hE _))))
        refine wpQuiet_nil ?_
        intro w2 hw'
        obtain ⟨xw, hxw⟩ := hw'
        have hb2 := xw.property
        rw [← hxw] at hb2
        clear hxw xw
        clear hx1 hx2 hx3 hx4 hx5 hx6 hE
        rcases q with _ | _
        · have HD : Hid (decide (xs = ys) = false) := decide_eq_false (HN.out rfl)
          go_wp2
          go_ret
          exact ⟨by rw [HD.out]; rfl, hb.trans hb2⟩
        · have HD : Hid (xs.take (k + 1) = ys.take (k + 1)) := HT.out (HE.out rfl)
          go_wp2
          go_roundw
          case rel => exact ⟨k + 1, by omega, by go_num, HD, hb.trans hb2⟩
          case measure => simp [intOf]; omega
      · have hk' : k = xs.length := by omega
        have h2 := ht.out
        have h3 := hl2.out
        rw [hk', List.take_of_length_le (Nat.le_refl _), List.take_of_length_le (by omega)] at h2
        have H2 := Lib.hid h2
        clear h2 h3 hk'
        go_wp2
        go_ret
        exact ⟨by simp [H2.out], hb⟩
  · go_enter Try.func40, Try.ntmps40
    go_wp2
    · go_ret
      exact ⟨by simp; intro h; subst h; simp at hl, Below.refl _ _⟩
theorem rdS_mk {w : World} {ad : Addr} {cap : Nat} (xs : List St) (hc : xs.length ≤ cap) (hn : xs.length ≤ 9223372036854775807)
    (h : ∀ i (hi : i < xs.length), w.cell? (ad.add (i * 3)) = some (.int .i64 xs[i].1) ∧ w.cell? ((ad.add (i * 3)).add 1) = some (.string xs[i].2.1) ∧ w.cell? ((ad.add (i * 3)).add 2) = some (.string xs[i].2.2)) : RdS w (.slice (some ad) xs.length cap) xs := by
  refine ⟨some ad, cap, rfl, hc, hn, scells_length xs, fun h0 => ?_⟩
  have h1 := (h 0 h0).1
  obtain ⟨b, off, spot⟩ := ad
  have hs : spot = none := by
    have := World.cell?_spot h1
    simpa [Addr.add] using this
  subst hs
  have hadd : ∀ o i, (Addr.mk b o none).add i = ⟨b, o + i, none⟩ := fun o i => by
    unfold Addr.add; split
    · next h => subst h; rfl
    · rfl
  refine ⟨b, off, rfl, ?_, fun j u hu => ?_⟩
  · rcases Nat.lt_or_ge b w.heap.size with hlt | hge
    · exact hlt
    · rw [hadd] at h1
      simp [World.cell?, Array.getElem?_eq_none hge] at h1
  · have hj : j < xs.length * 3 := by rw [← scells_length]; exact (List.getElem?_eq_some_iff.1 hu).1
    have hk : j / 3 < xs.length := by omega
    have hm := scells_at xs (j / 3) _ (List.getElem?_eq_getElem hk)
    have hh := h (j / 3) hk
    rw [hadd, hadd, hadd] at hh
    have h3 : j % 3 = 0 ∨ j % 3 = 1 ∨ j % 3 = 2 := by omega
    rcases h3 with h0 | h0 | h0
    · have e : j / 3 * 3 = j := by omega
      rw [e] at hm hh
      rw [hm.1] at hu
      rw [hh.1, hu]
    · have e : j / 3 * 3 + 1 = j := by omega
      rw [e] at hm
      rw [Nat.add_assoc, e] at hh
      rw [hm.2.1] at hu
      rw [hh.2.1, hu]
    · have e : j / 3 * 3 + 2 = j := by omega
      rw [e] at hm
      have h4 := hh.2.2
      rw [Nat.add_assoc, e] at h4
      rw [hm.2.2] at hu
      rw [h4, hu]
open Go.ChangeShapes Go.WideShapes Go.Deep in
set_option maxRecDepth 100000 in
theorem open_steps {H : Type} {enc : TypeId × Value → H} {W : World} {base fuel : Nat} {spare : Nat → Bool} {held : Bool} {a : Option Addr} {n c : Nat} {x : DataW H × List MemPlace}
    (h : DataW.trod enc Try.prog W base spare held fuel 46 [.slice a n c] = some x) :
    ∃ xs : List St, RdS W (.slice a n c) xs ∧ ∀ m ∈ xs, m.2.1.size ≤ 9223372036854775807 ∧ m.2.2.size ≤ 9223372036854775807 := by
  rcases open_slice Try.underlying46 h with ⟨hcs, _⟩ | ⟨ad, len, cap, m, k, D, Pl, hcs, hb, hl, hm, hmm, hx, hi⟩
  · simp at hcs
    obtain ⟨rfl, rfl, rfl⟩ := hcs
    exact ⟨[], ⟨none, 0, rfl, by simp, by simp, rfl, by simp⟩, by simp⟩
  · simp at hcs
    obtain ⟨rfl, rfl, rfl⟩ := hcs
    have hC : Try.prog.cellsOf 112 = 3 := by kernel_rfl
    have hC2 : Try.prog.cellsOf 110 = 2 := by kernel_rfl
    have hml : n ≤ m := by rw [hmm]; split <;> omega
    have hM : maxLen = 9223372036854775807 := rfl
    obtain ⟨xs, hxl, hxs⟩ := exists_list (fun i (m : St) => W.cell? (ad.add (i * 3)) = some (.int .i64 m.1) ∧ W.cell? ((ad.add (i * 3)).add 1) = some (.string m.2.1) ∧ W.cell? ((ad.add (i * 3)).add 2) = some (.string m.2.2) ∧ m.2.1.size ≤ 9223372036854775807 ∧ m.2.2.size ≤ 9223372036854775807) n (fun i hin => by
      obtain ⟨cs', hc', ht⟩ := hi i (by omega)
      rw [hC] at hc'
      obtain ⟨y0, y1, k', _, hlen, h0, h1⟩ := trod_struct2 Try.underlying112 ht
      obtain ⟨_, hcl, hat⟩ := World.cells?_some hc'
      rw [hC] at hlen
      match cs', hlen with
      | [c0, c1, c2], _ =>
        have e0 : Try.prog.cellsOf 9 = 1 := by kernel_rfl
        have e1 : Try.prog.cellsOf 3 = 1 := by kernel_rfl
        simp only [e1, hC2] at h0 h1
        simp at h0 h1
        obtain ⟨z0, z1, k2, _, hlen2, g0, g1⟩ := trod_struct2 Try.underlying110 h1
        simp only [e0] at g0 g1
        simp at g0 g1
        obtain ⟨kk, hk, _, _⟩ := DataW.trod_int Try.underlying3 h0
        obtain ⟨s, hs, _, hs1⟩ := DataW.trod_string Try.underlying9 g0
        obtain ⟨t, hta, _, ht1⟩ := DataW.trod_string Try.underlying9 g1
        simp at hk hs hta
        subst hk hs hta
        refine ⟨(kk, s, t), ?_, ?_, ?_, hM ▸ hs1, hM ▸ ht1⟩
        · have := hat 0 (by omega)
          simpa [Addr.add] using this
        · have := hat 1 (by omega)
          simpa using this
        · have := hat 2 (by omega)
          simpa using this)
    subst hxl
    refine ⟨xs, rdS_mk xs hl (by omega) fun i hi => ⟨(hxs i hi).1, (hxs i hi).2.1, (hxs i hi).2.2.1⟩, fun m hm => ?_⟩
    obtain ⟨i, hi, rfl⟩ := List.getElem_of_mem hm
    exact (hxs i hi).2.2.2
end Go.Proofs.Ytogkodjlbdlgjaa
namespace Go.Proofs.Ytogkodjlbdlgjaa
open Go.RowKit Go.PM

set_option maxRecDepth 100000 in
set_option maxHeartbeats 1600000 in
theorem markStepS_c (xs : List St) (v : Value) (base : Nat) (k : Int) (w : World) (ho : w.ownsRow base 67 3 v xs.length (scells xs)) (hn : xs.length ≤ 1048576) (h1 : 1 ≤ k) (hk : k ≤ 2097152) :
    Calls Try.prog 41 #[v, .int .i64 k] w fun e w' => e = .returned (.int .i64 (k + 3 * (xs.length : Int))) ∧ w'.ownsRow base 67 3 v xs.length (scells (smarks xs.length k.toNat)) ∧ w.grownBy w' v.ownBlock := by
  by_cases h0 : xs.length = 0
  · have hx : xs = [] := List.length_eq_zero_iff.1 h0
    subst hx
    have ho2 := ho
    obtain ⟨A, cap, rfl, _⟩ := Rd.of_own ho
    have ho3 := Lib.hid ho2
    clear ho ho2
    simp only [List.length_nil]
    go_enter Try.func41, Try.ntmps41
    go_wp2
    refine wp_loop_rounds 1 ?_
    rw [rounds_succ]
    go_wp2
    go_ret
    exact ⟨by simp, by simpa [smarks] using ho3.out, grown_refl _ _⟩
  · obtain ⟨g, cap, rfl, _⟩ := ho.form (by omega)
    have hA0 : (0 : Int) < xs.length := by omega
    clear h0
    go_enter Try.func41, Try.ntmps41
    go_wp2
    go_loopw [1, 5] (fun m i wr => ∃ (j : Nat), j ≤ xs.length ∧ i = .int .i64 j ∧ m = .int .i64 (k + 3 * (j : Int)) ∧ wr.ownsRow base 67 3 (.slice (some ⟨g, 0, none⟩) xs.length cap) xs.length (scells (smix xs j k.toNat)) ∧ w.grownBy wr (some g)) (fun _ i _ => xs.length - (intOf i).toNat)
    case atStart => exact ⟨0, by omega, rfl, by simp, by simpa [smix, smarks] using ho, grown_refl _ _⟩
    case round =>
      obtain ⟨j, hj, rfl, rfl, hr, hg⟩ := hrel
      by_cases hlt : j < xs.length
      · have hms := smix_set xs j k.toNat hlt
        have hml := smix_length xs j k.toNat hj
        have HMS := Lib.hid hms
        have hcl : ∀ i, i < xs.length * 3 → ∃ u, (scells (smix xs j k.toNat))[i]? = some u := fun i hi => by
          have : i < (scells (smix xs j k.toNat)).length := by rw [scells_length, hml]; exact hi
          exact ⟨_, List.getElem?_eq_getElem this⟩
        obtain ⟨c0, hc0⟩ := hcl (j * 3) (by omega)
        obtain ⟨c1, hc1⟩ := hcl (j * 3 + 1) (by omega)
        obtain ⟨c2, hc2⟩ := hcl (j * 3 + 2) (by omega)
        have HC := Lib.hid (And.intro hc0 (And.intro hc1 hc2))
        have hlg := (own_lt hr).1
        have hf0 := hr.frozenAt (j * 3)
        have hq0 := (hr.cellAt (j * 3) (by omega)).trans HC.out.1
        clear hms hml hcl hc0 hc1 hc2
        go_wp2_with fail
        have hr0 := (hr.stored (j * 3) (.int .i64 (k + 3 * (j : Int)))).1
        have hg0 := grown_trans hg (hr.stored (j * 3) (.int .i64 (k + 3 * (j : Int)))).2
        clear hr hf0 hq0 hg
        generalize wr.setCell ⟨g, j * 3, none⟩ (.int .i64 (k + 3 * (j : Int))) = w0 at *
        refine (markText_i _ _ (by omega) (by omega)).mono ?_
        rintro e w1 ⟨rfl, hb1⟩
        have hr1 := own_keep hr0 hb1
        have hf1 := hr1.frozenAt (j * 3 + 1)
        have hq1 : w1.cell? ⟨g, j * 3 + 1, none⟩ = some c1 := (hr1.cellAt (j * 3 + 1) (by omega)).trans (by rw [List.getElem?_set_ne (by omega)]; exact HC.out.2.1)
        have hg1 := grown_trans hg0 (grown_below hb1 (some g))
        clear hr0 hg0
        go_wp2_with fail
        have hr2 := (hr1.stored (j * 3 + 1) (.string (mT (k + 3 * (j : Int) + 1).toNat))).1
        have hg2 := grown_trans hg1 (hr1.stored (j * 3 + 1) (.string (mT (k + 3 * (j : Int) + 1).toNat))).2
        clear hr1 hf1 hq1 hg1
        generalize w1.setCell ⟨g, j * 3 + 1, none⟩ (.string (mT (k + 3 * (j : Int) + 1).toNat)) = w2 at *
        refine (markText_i _ _ (by omega) (by omega)).mono ?_
        rintro e w3 ⟨rfl, hb3⟩
        have hr3 := own_keep hr2 hb3
        have hf3 := hr3.frozenAt (j * 3 + 1 + 1)
        have hq3 : w3.cell? ⟨g, j * 3 + 1 + 1, none⟩ = some c2 := (hr3.cellAt (j * 3 + 1 + 1) (by omega)).trans (by rw [List.getElem?_set_ne (by omega), List.getElem?_set_ne (by omega)]; exact HC.out.2.2)
        have hg3 := grown_trans hg2 (grown_below hb3 (some g))
        clear hr2 hg2
        go_wp2
        go_roundw
        case rel =>
          refine ⟨j + 1, by omega, by go_num, by go_num, ?_, ?_⟩
          · rw [← HMS.out]
            have e0 : ((k.toNat + 3 * j : Nat) : Int) = k + 3 * (j : Int) := by omega
            have e1 : (k + 3 * (j : Int) + 1).toNat = k.toNat + 3 * j + 1 := by omega
            have e2 : (k + 3 * (j : Int) + 1 + 1).toNat = k.toNat + 3 * j + 2 := by omega
            have h := (hr3.stored (j * 3 + 1 + 1) (.string (mT (k + 3 * (j : Int) + 1 + 1).toNat))).1
            rw [e1, e2] at h
            rw [e0, e2]
            exact h
          · exact grown_trans hg3 (hr3.stored (j * 3 + 1 + 1) _).2
        case measure => simp [intOf]; omega
      · have hj' : j = xs.length := by omega
        have h3 := hr
        rw [hj'] at h3
        have e3 : smix xs xs.length k.toNat = smarks xs.length k.toNat := by simp [smix]
        rw [e3] at h3
        have HJ : Hid ((j : Int) = xs.length) := by show _ = _; rw [hj']
        clear hj' e3
        go_wp2
        go_ret
        exact ⟨by rw [← HJ.out]; rfl, h3, hg⟩
end Go.Proofs.Ytogkodjlbdlgjaa
namespace Go.Proofs.Ytogkodjlbdlgjaa
open Go.RowKit Go.PM
set_option maxRecDepth 100000 in
set_option maxHeartbeats 1600000 in
theorem heldStepS_c (n : Nat) (v : Value) (k : Int) (w : World) (hx : RdS w v (smarks n k.toNat)) (hn : n ≤ 1048576) (h1 : 1 ≤ k) (hk : k ≤ 4194304) :
    Calls Try.prog 42 #[v, .int .i64 k] w fun e w' => e = .returned (.int .i64 (k + 3 * (n : Int))) ∧ Below w.heap.size w w' := by
  obtain ⟨A, cap, hv, hnn, hc, hcell⟩ := hx.open
  rw [smarks_length] at hv hnn hc
  subst hv
  go_enter Try.func42, Try.ntmps42
  go_wp2
  go_loopw [1, 5] (fun m i wr => ∃ (j : Nat), j ≤ n ∧ i = .int .i64 j ∧ m = .int .i64 (k + 3 * (j : Int)) ∧ Below w.heap.size w wr) (fun _ i _ => n - (intOf i).toNat)
  case atStart => exact ⟨0, by omega, rfl, by simp, Below.refl _ _⟩
  case round =>
    obtain ⟨j, hj, rfl, rfl, hb⟩ := hrel
    have hbs := hb.size
    by_cases hlt : j < n
    · obtain ⟨b, off, rfl, hbl, hc0, hc1, hc2⟩ := hcell j (by rw [smarks_length]; exact hlt)
      rw [smarks_at] at hc0 hc1 hc2
      have e0 : ((k.toNat + 3 * j : Nat) : Int) = k + 3 * (j : Int) := by omega
      have e1 : (k + 3 * (j : Int) + 1).toNat = k.toNat + 3 * j + 1 := by omega
      have e2 : (k + 3 * (j : Int) + 1 + 1).toNat = k.toNat + 3 * j + 2 := by omega
      simp only at hc0 hc1 hc2
      rw [e0] at hc0
      rw [← e1] at hc1
      rw [← e2] at hc2
      have hd0 : wr.cell? ⟨b, off + j * 3, none⟩ = some (.int .i64 (k + 3 * (j : Int))) := (hb.cell (p := ⟨b, _, none⟩) hbl).trans hc0
      have hx1 : ∀ x : Ext w.heap.size wr, x.val.cell? ⟨b, off + j * 3 + 1, none⟩ = some (.string (mT (k + 3 * (j : Int) + 1).toNat)) := fun x => ((x.property.cell (p := ⟨b, _, none⟩) hbl).trans (hb.cell (p := ⟨b, _, none⟩) hbl)).trans hc1
      clear e0 e1 e2 hcell
      have i0 : (0 : Int) ≤ (j : Int) := by omega
      have i1 : (j : Int) < n := by omega
      go_wp2
      refine wp_region_ext w.heap.size (by kernel_rfl) (by kernel_rfl) ?_
      repeat (go_big_quiet_step ((go_at_call 95; exact ext_call _ hb.size (markText_i _ _ (by omega) (by omega)))))
      refine wpQuiet_nil ?_
      intro w2 hw'
      obtain ⟨xw, hxw⟩ := hw'
      have hb2 := xw.property
      rw [← hxw] at hb2
      clear hxw xw
      have hbw2 := hb.trans hb2
      have hd2 : w2.cell? ⟨b, off + j * 3 + 2, none⟩ = some (.string (mT (k + 3 * (j : Int) + 1 + 1).toNat)) := (hbw2.cell (p := ⟨b, _, none⟩) hbl).trans hc2
      have hx2 : ∀ x : Ext w.heap.size w2, x.val.cell? ⟨b, off + j * 3 + 2, none⟩ = some (.string (mT (k + 3 * (j : Int) + 1 + 1).toNat)) := fun x => (x.property.cell (p := ⟨b, _, none⟩) hbl).trans hd2
      clear hx1 hd2 hb2 hc0 hc1 hc2 hd0
      have hbs2 := hbw2.size
      go_wp2
      refine wp_region_ext w.heap.size (by kernel_rfl) (by kernel_rfl) ?_
      repeat (go_big_quiet_step ((go_at_call 95; exact ext_call _ hbw2.size (markText_i _ _ (by omega) (by omega)))))
      refine wpQuiet_nil ?_
      intro w3 hw'
      obtain ⟨xw, hxw⟩ := hw'
      have hb3 := xw.property
      rw [← hxw] at hb3
      clear hxw xw
      clear hx2
      go_wp2
      go_roundw
      case rel => exact ⟨j + 1, by omega, by go_num, by go_num, hbw2.trans hb3⟩
      case measure => simp [intOf]; omega
    · have HJ : Hid ((j : Int) = n) := by show _ = _; omega
      go_wp2
      go_ret
      exact ⟨by rw [← HJ.out]; rfl, hb⟩
end Go.Proofs.Ytogkodjlbdlgjaa
namespace Go.Proofs.Ytogkodjlbdlgjaa
open Go.RowKit Go.PM Go.PD
set_option maxRecDepth 100000 in
set_option maxHeartbeats 6400000 in
theorem exWithFree (w : World) (xs0 : List St) (v0 : Value) (hx0 : RdS w v0 xs0) (hz0 : ∀ m ∈ xs0, m.2.1.size ≤ 9223372036854775807 ∧ m.2.2.size ≤ 9223372036854775807) (s1 : ByteArray) (_hs1 : s1.size ≤ maxLen) :
    Calls Try.prog 11 #[v0, .string s1] w fun e w' => e = .returned (.bool true) ∧ Below w.heap.size w w' := by
  by_cases hb1 : 1048576 < s1.size
  · go_enter Try.func11, Try.ntmps11
    go_wp2
    go_ret
    exact ⟨rfl, Below.refl _ _⟩
  obtain ⟨ys, hys⟩ : ∃ ys, ys = frS xs0 s1.data.toList := ⟨_, rfl⟩
  have hly : ys.length ≤ 1048576 := by rw [hys]; exact (frS_len xs0 s1.data.toList)
  have HYS := Lib.hid hys
  clear hys
  go_enter Try.func11, Try.ntmps11
  go_wp2_with fail
  refine (szStepS_c xs0 v0 1048576 _ (by decide) (by decide) hx0 hz0).mono ?_
  rintro e w1 ⟨⟨r0, rfl, hr0, hq0⟩, Hw1⟩
  have HR0 := Lib.hid hr0
  clear hr0
  have Bw1 := Hw1
  have Zw1 := Bw1.size
  by_cases hneg0 : r0 < 0
  · go_wp2
    go_ret
    exact ⟨rfl, Bw1⟩
  have hl0 : xs0.length ≤ 1048576 := by have := HR0.out (by omega); have := ssize_len xs0; omega
  go_wp2_with fail
  refine (toStepS_c xs0 v0 _ (hx0.below Bw1) hl0).mono ?_
  rintro e w2 ⟨c0, rfl, o_c0, Hw2⟩
  have Bw2 : Below w.heap.size w w2 := Bw1.trans (Hw2.mono Zw1)
  have Zw2 := Bw2.size
  go_wp2_with fail
  refine (spWithFree_c xs0 c0 s1 (by omega) _ (Rd.of_own o_c0)).mono ?_
  rw [show frS xs0 s1.data.toList = ys from HYS.out.symm]
  rintro e w3 ⟨s, rfl, o_s, Hw3⟩
  have ne_c0_s := own_ne o_c0 o_s (Nat.le_refl _)
  have Bw3 : Below w.heap.size w w3 := Bw2.trans (Hw3.mono Zw2)
  have Zw3 := Bw3.size
  have c0_w3 := own_keep o_c0 Hw3
  go_wp2_with fail
  refine (toStepS_c xs0 v0 _ (hx0.below Bw3) hl0).mono ?_
  rintro e w4 ⟨x0, rfl, o_x0, Hw4⟩
  have ne_s_x0 := own_ne o_s o_x0 (Nat.le_refl _)
  have Bw4 : Below w.heap.size w w4 := Bw3.trans (Hw4.mono Zw3)
  have Zw4 := Bw4.size
  have s_w4 := own_keep o_s Hw4
  go_wp2_with fail
  refine (imWithFree_c xs0 x0 s1 (by omega) _ (Rd.of_own o_x0)).mono ?_
  rw [show frS xs0 s1.data.toList = ys from HYS.out.symm]
  rintro e w5 ⟨g, rfl, o_g, Hw5⟩
  have ne_s_g := own_ne s_w4 o_g (Nat.le_refl _)
  have ne_x0_g := own_ne o_x0 o_g (Nat.le_refl _)
  have Bw5 : Below w.heap.size w w5 := Bw4.trans (Hw5.mono Zw4)
  have Zw5 := Bw5.size
  have s_w5 := own_keep s_w4 Hw5
  have x0_w5 := own_keep o_x0 Hw5
  go_wp2_with fail
  refine (eqStepS_c ys ys g s _ (Rd.of_own o_g) (Rd.of_own s_w5)).mono ?_
  rintro e w6 ⟨he, Hw6⟩
  rw [show decide (ys = ys) = true by simp] at he
  subst he
  have Bw6 : Below w.heap.size w w6 := Bw5.trans (Hw6.mono Zw5)
  have Zw6 := Bw6.size
  have s_w6 := own_keep s_w5 Hw6
  have x0_w6 := own_keep x0_w5 Hw6
  have g_w6 := own_keep o_g Hw6
  go_wp2_with fail
  refine (toStepS_c xs0 v0 _ (hx0.below Bw6) hl0).mono ?_
  rintro e w7 ⟨t0, rfl, o_t0, Hw7⟩
  have ne_s_t0 := own_ne s_w6 o_t0 (Nat.le_refl _)
  have ne_x0_t0 := own_ne x0_w6 o_t0 (Nat.le_refl _)
  have ne_g_t0 := own_ne g_w6 o_t0 (Nat.le_refl _)
  have Bw7 : Below w.heap.size w w7 := Bw6.trans (Hw7.mono Zw6)
  have Zw7 := Bw7.size
  have s_w7 := own_keep s_w6 Hw7
  have x0_w7 := own_keep x0_w6 Hw7
  have g_w7 := own_keep g_w6 Hw7
  go_wp2_with fail
  refine (eqStepS_c xs0 xs0 x0 t0 _ (Rd.of_own x0_w7) (Rd.of_own o_t0)).mono ?_
  rintro e w8 ⟨he, Hw8⟩
  rw [show decide (xs0 = xs0) = true by simp] at he
  subst he
  have Bw8 : Below w.heap.size w w8 := Bw7.trans (Hw8.mono Zw7)
  have Zw8 := Bw8.size
  have s_w8 := own_keep s_w7 Hw8
  have x0_w8 := own_keep x0_w7 Hw8
  have g_w8 := own_keep g_w7 Hw8
  have t0_w8 := own_keep o_t0 Hw8
  go_wp2_with fail
  refine (markStepS_c xs0 x0 _ 1 _ x0_w8 hl0 (by omega) (by omega)).mono ?_
  rintro e w9 ⟨rfl, _, Hw9⟩
  have Bw9 := Bw8.trans (below_grown Hw9 (B := w.heap.size) Zw8 (fun g hg => by have := own_block_ge o_x0 g hg; omega))
  have Zw9 := Bw9.size
  have Yw9 := Hw9.size
  have s_w9 := own_grown s_w8 Hw9 ne_s_x0
  have g_w9 := own_grown g_w8 Hw9 (ne_turn ne_x0_g)
  go_wp2_with fail
  refine (eqStepS_c ys ys g s _ (Rd.of_own g_w9) (Rd.of_own s_w9)).mono ?_
  rintro e w10 ⟨he, Hw10⟩
  rw [show decide (ys = ys) = true by simp] at he
  subst he
  have Bw10 : Below w.heap.size w w10 := Bw9.trans (Hw10.mono Zw9)
  have Zw10 := Bw10.size
  have s_w10 := own_keep s_w9 Hw10
  have g_w10 := own_keep g_w9 Hw10
  go_wp2_with fail
  refine (markStepS_c ys g _ 1 _ g_w10 hly (by omega) (by omega)).mono ?_
  rintro e w11 ⟨rfl, om_g, Hw11⟩
  have Bw11 := Bw10.trans (below_grown Hw11 (B := w.heap.size) Zw10 (fun g hg => by have := own_block_ge o_g g hg; omega))
  have Zw11 := Bw11.size
  have Yw11 := Hw11.size
  have s_w11 := own_grown s_w10 Hw11 ne_s_g
  have k_w11 : RdS w11 g (smarks ys.length 1) := by
    have := Rd.of_own om_g
    unfold RdS; rw [smarks_length]; exact this
  go_wp2_with fail
  refine (heldStepS_c ys.length g 1 _ k_w11 hly (by decide) (by decide)).mono ?_
  rintro e w12 ⟨rfl, Hw12⟩
  have Bw12 : Below w.heap.size w w12 := Bw11.trans (Hw12.mono Zw11)
  have Zw12 := Bw12.size
  have s_w12 := own_keep s_w11 Hw12
  have k_w12 := k_w11.below Hw12
  go_wp2_with fail
  refine (toStepS_c xs0 v0 _ (hx0.below Bw12) hl0).mono ?_
  rintro e w13 ⟨d0, rfl, o_d0, Hw13⟩
  have ne_s_d0 := own_ne s_w12 o_d0 (Nat.le_refl _)
  have Bw13 : Below w.heap.size w w13 := Bw12.trans (Hw13.mono Zw12)
  have Zw13 := Bw13.size
  have s_w13 := own_keep s_w12 Hw13
  have k_w13 := k_w12.below Hw13
  go_wp2_with fail
  refine (imWithFree_c xs0 d0 s1 (by omega) _ (Rd.of_own o_d0)).mono ?_
  rw [show frS xs0 s1.data.toList = ys from HYS.out.symm]
  rintro e w14 ⟨h, rfl, o_h, Hw14⟩
  have ne_s_h := own_ne s_w13 o_h (Nat.le_refl _)
  have ne_d0_h := own_ne o_d0 o_h (Nat.le_refl _)
  have Bw14 : Below w.heap.size w w14 := Bw13.trans (Hw14.mono Zw13)
  have Zw14 := Bw14.size
  have s_w14 := own_keep s_w13 Hw14
  have d0_w14 := own_keep o_d0 Hw14
  have k_w14 := k_w13.below Hw14
  go_wp2_with fail
  refine (eqStepS_c ys ys h s _ (Rd.of_own o_h) (Rd.of_own s_w14)).mono ?_
  rintro e w15 ⟨he, Hw15⟩
  rw [show decide (ys = ys) = true by simp] at he
  subst he
  have Bw15 : Below w.heap.size w w15 := Bw14.trans (Hw15.mono Zw14)
  have Zw15 := Bw15.size
  have s_w15 := own_keep s_w14 Hw15
  have h_w15 := own_keep o_h Hw15
  have k_w15 := k_w14.below Hw15
  go_wp2_with fail
  refine (heldStepS_c ys.length g 1 _ k_w15 hly (by decide) (by decide)).mono ?_
  rintro e w16 ⟨rfl, Hw16⟩
  go_wp2
  go_ret
  exact ⟨rfl, Bw15.trans (Hw16.mono Zw15)⟩

namespace fnExactWithFree
open Go.RowKit Go.PM Go.ChangeShapes Go.WideShapes Go.ChangeAt
open Go.ChangeMaps (open_string shut_string)
set_option maxRecDepth 100000 in
theorem lifted (os : Os) (started : os.Started) (H : Type) (enc : TypeId × Value → H) :
    ReturnsInHanded {} Try.checked os 11 .any (Rows.fnExactWithFreeSpec.pre6 enc Try.prog Try.f11 Rows.fnExactWithFreeRow.domain false) (Rows.fnExactWithFreeSpec.post enc Try.prog Try.f11 false true false false) := by
  refine returnsInHanded_of_change (C := Try.checked) own started (by kernel_rfl) Try.func11
    (ChangeSpec.witness6 (enc := enc) (C := Try.checked) false ⟨#[], #[.slice none 0 0, .string ⟨#[]⟩], []⟩ 8 (by kernel_rfl) (by kernel_rfl) (by kernel_rfl) (by kernel_rfl)) ?_
  intro W base args ds gs before hval0 hW hcnd _
  have hval : ∀ (j : Nat) t v, Try.f11.params[j]? = some t → args[j]? = some v → Value.okWide Try.prog W .any base t v := hval0
  have hW' := hW
  obtain ⟨p, q, hA0, hV, rfl, hfz, hnd⟩ := hW
  have hA : DataW.TrodAll enc Try.prog W 0 (fun _ => true) true Try.f11.params.toList args.toList ds p := hA0
  rw [Try.params11] at hA hval
  obtain ⟨v0, vs0, d0, ds0, p0, q0, hargs, rfl, rfl, h0, r0⟩ := trodAll_cons hA
  obtain ⟨v1, vs1, d1, ds1, p1, q1, rfl, rfl, rfl, h1, r1⟩ := trodAll_cons r0
  obtain ⟨rfl, rfl, rfl⟩ := trodAll_nil r1
  obtain rfl : args = #[v0, v1] := by cases args; simp_all
  obtain ⟨rfl, rfl⟩ := trodVars_none hV
  have k0 := h0
  have lt0 : ∀ x ∈ p0, x.block < W.heap.size := by obtain ⟨m, hm⟩ := k0; exact DataW.trod_lt m _ _ _ hm
  have k1 := h1
  have lt1 : ∀ x ∈ p1, x.block < W.heap.size := by obtain ⟨m, hm⟩ := k1; exact DataW.trod_lt m _ _ _ hm
  obtain ⟨a0, len0, cap0, rfl⟩ := okWide_slice Try.underlying46 (hval 0 46 v0 rfl rfl)
  obtain ⟨xs0, hx0, hz0⟩ : ∃ xs : List St, RdS W (.slice a0 len0 cap0) xs ∧ ∀ m ∈ xs, m.2.1.size ≤ 9223372036854775807 ∧ m.2.2.size ≤ 9223372036854775807 := by obtain ⟨fuel, hf⟩ := h0; exact open_steps hf
  obtain ⟨s1, rfl, _, _, hs1⟩ := open_string Try.underlying9 (hval 1 9 v1 rfl rfl) h1
  clear hA0 hval0
  refine (exWithFree W xs0 _ hx0 hz0 s1 hs1).mono fun e W' ⟨he, bel⟩ => ?_
  subst he
  exact ⟨_, rfl, _, _, _, [], _, [], hW', trodAll_mk1 (shut_bool Try.underlying4 _), (trodAll_cons_mk (Below.trod laidOut (by kernel_rfl) (of_decide_eq_true (by kernel_rfl)) k0 bel lt0) (trodAll_cons_mk (Below.trod laidOut (by kernel_rfl) (of_decide_eq_true (by kernel_rfl)) k1 bel lt1) trodAll_mk0)), rfl, bel.frame _, fun h => by cases h⟩

theorem over : Rows.fnExactWithFreeRow.holds Try.pinned (OpenSpec.ofChange Rows.fnExactWithFreeSpec) :=
  OpenClaim.holds_of_wide 11 Try.f11 rfl rfl rfl rfl rfl rfl rfl ⟨rfl, rfl, rfl, rfl, rfl⟩ rfl rfl rfl rfl rfl (by kernel_rfl) Try.func11 (by kernel_rfl)
    (of_decide_eq_true (by kernel_rfl)) (by unfold Func.isWrapper; first | (rw [if_pos (by decide +kernel)]; kernel_rfl) | (rw [if_neg (by decide +kernel)]; exact ⟨rfl, rfl⟩))
    (fun os started H enc _ => lifted os started H enc)

/-- The statement. -/
theorem proved : Rows.FnExactWithFreeSaid := over
end fnExactWithFree
end Go.Proofs.Ytogkodjlbdlgjaa
