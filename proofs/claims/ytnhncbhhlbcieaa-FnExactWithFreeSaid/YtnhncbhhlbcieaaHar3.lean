import Derived.Test.YtnhncbhhlbcieaaHar2
import Derived.Test.YtnhncbhhlbcieaaApp
import Derived.Test.YtnhncbhhlbcieaaOpen
namespace Go.PM
open Go.RowKit
/-- the cells behind n marked steps, the first mark being number k -/
def smarks : Nat → Nat → List St
  | 0, _ => []
  | n + 1, k => ((k : Int), mT (k + 1), mT (k + 2)) :: smarks n (k + 3)
theorem smarks_length (n k : Nat) : (smarks n k).length = n := by
  induction n generalizing k with
  | zero => rfl
  | succ n ih => simp [smarks, ih]
theorem smarks_at (n k i : Nat) (h : i < (smarks n k).length) : (smarks n k)[i] = (((k + 3 * i : Nat) : Int), mT (k + 3 * i + 1), mT (k + 3 * i + 2)) := by
  induction n generalizing k i with
  | zero => simp [smarks] at h
  | succ n ih =>
    cases i with
    | zero => rfl
    | succ i =>
      simp only [smarks, List.getElem_cons_succ]
      rw [ih, show k + 3 + 3 * i = k + 3 * (i + 1) by omega]
def smix (xs : List St) (i k : Nat) : List St := smarks i k ++ xs.drop i
theorem smarks_snoc (i k : Nat) : smarks (i + 1) k = smarks i k ++ [(((k + 3 * i : Nat) : Int), mT (k + 3 * i + 1), mT (k + 3 * i + 2))] := by
  induction i generalizing k with
  | zero => rfl
  | succ i ih =>
    rw [smarks, ih (k + 3)]
    simp only [smarks, List.cons_append]
    rw [show k + 3 + 3 * i = k + 3 * (i + 1) by omega]
theorem smix_length (xs : List St) (i k : Nat) (h : i ≤ xs.length) : (smix xs i k).length = xs.length := by
  simp [smix, smarks_length]; omega
theorem smix_set (xs : List St) (i k : Nat) (h : i < xs.length) : (((scells (smix xs i k)).set (i * 3) (.int .i64 ((k + 3 * i : Nat) : Int))).set (i * 3 + 1) (.string (mT (k + 3 * i + 1)))).set (i * 3 + 2) (.string (mT (k + 3 * i + 2))) = scells (smix xs (i + 1) k) := by
  have hl : (scells (smarks i k)).length = i * 3 := by rw [scells_length, smarks_length]
  unfold smix
  rw [smarks_snoc, List.drop_eq_getElem_cons h, scells_append, scells_append, scells_append, scells_cons]
  rw [List.set_append_right _ _ (by omega), List.set_append_right _ _ (by omega), List.set_append_right _ _ (by omega), hl, Nat.sub_self, show i * 3 + 1 - i * 3 = 1 by omega, show i * 3 + 2 - i * 3 = 2 by omega]
  simp [scells]
end Go.PM
namespace Go.Proofs.Ytnhncbhhlbcieaa
open Go.RowKit Go.PM

set_option maxRecDepth 100000 in
set_option maxHeartbeats 400000 in
theorem eqStepS_c (xs ys : List St) (v u : Value) (w : World) (hx : RdS w v xs) (hy : RdS w u ys) :
    Calls Try.prog 8 #[v, u] w fun e w' => e = .returned (.bool (decide (xs = ys))) ∧ Below w.heap.size w w' := by
  obtain ⟨A, cap, rfl, hn, hc, hcell⟩ := hx.open
  obtain ⟨A', cap', rfl, hn', hc', hcell'⟩ := hy.open
  by_cases hl : xs.length = ys.length
  · have hl1 : ((xs.length : Int) == ys.length) = true := by simp [hl]
    have hl2 := Lib.hid hl
    clear hl
    go_enter Try.func8, Try.ntmps8
    go_wp2
    go_loopw [5] (fun i wr => ∃ (k : Nat), k ≤ xs.length ∧ i = .int .i64 k ∧ Hid (xs.take k = ys.take k) ∧ Below w.heap.size w wr) (fun i _ => xs.length - (intOf i).toNat)
    case atStart => exact ⟨0, by omega, rfl, by show _ = _; simp, Below.refl _ _⟩
    case round =>
      obtain ⟨k, hk, rfl, ht, hb⟩ := hrel
      by_cases hlt : k < xs.length
      · obtain ⟨b, off, rfl, hbl, hc1, hc2, hc3⟩ := hcell k hlt
        obtain ⟨b', off', rfl, hbl', hc1', hc2', hc3'⟩ := hcell' k (by have := hl2.out; omega)
        have hlt2 : k < ys.length := by have := hl2.out; omega
        have HE : Hid (∀ h : stEq xs[k].1 xs[k].2.1 xs[k].2.2 ys[k].1 ys[k].2.1 ys[k].2.2 = true, xs[k] = ys[k]) := fun h => by
          simp [stEq] at h
          exact Prod.ext h.1 (Prod.ext h.2.1 h.2.2)
        have HN : Hid (stEq xs[k].1 xs[k].2.1 xs[k].2.2 ys[k].1 ys[k].2.1 ys[k].2.2 = false → ¬ xs = ys) := fun h e => by
          subst e; simp [stEq] at h
        have HT : Hid (xs[k] = ys[k] → xs.take (k + 1) = ys.take (k + 1)) := fun h => by rw [take_snoc xs k hlt, take_snoc ys k hlt2, ht.out, h]
        have hx1 : ∀ x : Ext w.heap.size wr, x.val.cell? ⟨b, off + k * 3, none⟩ = some (.int .i64 xs[k].1) := fun x => ((x.property.cell (p := ⟨b, _, none⟩) hbl).trans (hb.cell (p := ⟨b, _, none⟩) hbl)).trans hc1
        have hx2 : ∀ x : Ext w.heap.size wr, x.val.cell? ⟨b, off + k * 3 + 1, none⟩ = some (.string xs[k].2.1) := fun x => ((x.property.cell (p := ⟨b, _, none⟩) hbl).trans (hb.cell (p := ⟨b, _, none⟩) hbl)).trans hc2
        have hx3 : ∀ x : Ext w.heap.size wr, x.val.cell? ⟨b, off + k * 3 + 2, none⟩ = some (.string xs[k].2.2) := fun x => ((x.property.cell (p := ⟨b, _, none⟩) hbl).trans (hb.cell (p := ⟨b, _, none⟩) hbl)).trans hc3
        have hx4 : ∀ x : Ext w.heap.size wr, x.val.cell? ⟨b', off' + k * 3, none⟩ = some (.int .i64 ys[k].1) := fun x => ((x.property.cell (p := ⟨b', _, none⟩) hbl').trans (hb.cell (p := ⟨b', _, none⟩) hbl')).trans hc1'
        have hx5 : ∀ x : Ext w.heap.size wr, x.val.cell? ⟨b', off' + k * 3 + 1, none⟩ = some (.string ys[k].2.1) := fun x => ((x.property.cell (p := ⟨b', _, none⟩) hbl').trans (hb.cell (p := ⟨b', _, none⟩) hbl')).trans hc2'
        have hx6 : ∀ x : Ext w.heap.size wr, x.val.cell? ⟨b', off' + k * 3 + 2, none⟩ = some (.string ys[k].2.2) := fun x => ((x.property.cell (p := ⟨b', _, none⟩) hbl').trans (hb.cell (p := ⟨b', _, none⟩) hbl')).trans hc3'
        clear hc1 hc2 hc3 hcell hc1' hc2' hc3' hcell'
        have i0 : (0 : Int) ≤ (k : Int) := by omega
        have i1 : (k : Int) < xs.length := by omega
        have i2 : (k : Int) < ys.length := by omega
        generalize xs[k].1 = x1 at *
        generalize xs[k].2.1 = x2 at *
        generalize xs[k].2.2 = x3 at *
        generalize ys[k].1 = y1 at *
        generalize ys[k].2.1 = y2 at *
        generalize ys[k].2.2 = y3 at *
        have hE := fun W => eqStep_c x1 x2 x3 y1 y2 y3 W
        generalize stEq x1 x2 x3 y1 y2 y3 = q at *
        go_wp2
        refine wp_region_ext w.heap.size (by kernel_rfl) (by kernel_rfl) ?_
        repeat (go_big_quiet_step ((go_at_call 21; exact ext_call _ hb.size (hE _))))
        refine wpQuiet_nil ?_
        intro w2 hw'
        obtain ⟨xw, hxw⟩ := hw'
        have hb2 := xw.property
        rw [← hxw] at hb2
        clear hxw xw
        clear hx1 hx2 hx3 hx4 hx5 hx6 hE
        rcases q with _ | _
        · have HD : Hid (decide (xs = ys) = false) := decide_eq_false (HN.out rfl)
          go_wp2
          go_ret
          exact ⟨by rw [HD.out]; rfl, hb.trans hb2⟩
        · have HD : Hid (xs.take (k + 1) = ys.take (k + 1)) := HT.out (HE.out rfl)
          go_wp2
          go_roundw
          case rel => exact ⟨k + 1, by omega, by go_num, HD, hb.trans hb2⟩
          case measure => simp [intOf]; omega
      · have hk' : k = xs.length := by omega
        have h2 := ht.out
        have h3 := hl2.out
        rw [hk', List.take_of_length_le (Nat.le_refl _), List.take_of_length_le (by omega)] at h2
        have H2 := Lib.hid h2
        clear h2 h3 hk'
        go_wp2
        go_ret
        exact ⟨by simp [H2.out], hb⟩
  · go_enter Try.func8, Try.ntmps8
    go_wp2
    · go_ret
      exact ⟨by simp; intro h; subst h; simp at hl, Below.refl _ _⟩
theorem rdS_mk {w : World} {ad : Addr} {cap : Nat} (xs : List St) (hc : xs.length ≤ cap) (hn : xs.length ≤ 9223372036854775807)
    (h : ∀ i (hi : i < xs.length), w.cell? (ad.add (i * 3)) = some (.int .i64 xs[i].1) ∧ w.cell? ((ad.add (i * 3)).add 1) = some (.string xs[i].2.1) ∧ w.cell? ((ad.add (i * 3)).add 2) = some (.string xs[i].2.2)) : RdS w (.slice (some ad) xs.length cap) xs := by
  refine ⟨some ad, cap, rfl, hc, hn, scells_length xs, fun h0 => ?_⟩
  have h1 := (h 0 h0).1
  obtain ⟨b, off, spot⟩ := ad
  have hs : spot = none := by
    have := World.cell?_spot h1
    simpa [Addr.add] using this
  subst hs
  have hadd : ∀ o i, (Addr.mk b o none).add i = ⟨b, o + i, none⟩ := fun o i => by
    unfold Addr.add; split
    · next h => subst h; rfl
    · rfl
  refine ⟨b, off, rfl, ?_, fun j u hu => ?_⟩
  · rcases Nat.lt_or_ge b w.heap.size with hlt | hge
    · exact hlt
    · rw [hadd] at h1
      simp [World.cell?, Array.getElem?_eq_none hge] at h1
  · have hj : j < xs.length * 3 := by rw [← scells_length]; exact (List.getElem?_eq_some_iff.1 hu).1
    have hk : j / 3 < xs.length := by omega
    have hm := scells_at xs (j / 3) _ (List.getElem?_eq_getElem hk)
    have hh := h (j / 3) hk
    rw [hadd, hadd, hadd] at hh
    have h3 : j % 3 = 0 ∨ j % 3 = 1 ∨ j % 3 = 2 := by omega
    rcases h3 with h0 | h0 | h0
    · have e : j / 3 * 3 = j := by omega
      rw [e] at hm hh
      rw [hm.1] at hu
      rw [hh.1, hu]
    · have e : j / 3 * 3 + 1 = j := by omega
      rw [e] at hm
      rw [Nat.add_assoc, e] at hh
      rw [hm.2.1] at hu
      rw [hh.2.1, hu]
    · have e : j / 3 * 3 + 2 = j := by omega
      rw [e] at hm
      have h4 := hh.2.2
      rw [Nat.add_assoc, e] at h4
      rw [hm.2.2] at hu
      rw [h4, hu]
open Go.ChangeShapes Go.WideShapes Go.Deep in
set_option maxRecDepth 100000 in
theorem open_steps {H : Type} {enc : TypeId × Value → H} {W : World} {base fuel : Nat} {spare : Nat → Bool} {held : Bool} {a : Option Addr} {n c : Nat} {x : DataW H × List MemPlace}
    (h : DataW.trod enc Try.prog W base spare held fuel 22 [.slice a n c] = some x) :
    ∃ xs : List St, RdS W (.slice a n c) xs ∧ ∀ m ∈ xs, m.2.1.size ≤ 9223372036854775807 ∧ m.2.2.size ≤ 9223372036854775807 := by
  rcases open_slice Try.underlying22 h with ⟨hcs, _⟩ | ⟨ad, len, cap, m, k, D, Pl, hcs, hb, hl, hm, hmm, hx, hi⟩
  · simp at hcs
    obtain ⟨rfl, rfl, rfl⟩ := hcs
    exact ⟨[], ⟨none, 0, rfl, by simp, by simp, rfl, by simp⟩, by simp⟩
  · simp at hcs
    obtain ⟨rfl, rfl, rfl⟩ := hcs
    have hC : Try.prog.cellsOf 35 = 3 := by kernel_rfl
    have hC2 : Try.prog.cellsOf 33 = 2 := by kernel_rfl
    have hml : n ≤ m := by rw [hmm]; split <;> omega
    have hM : maxLen = 9223372036854775807 := rfl
    obtain ⟨xs, hxl, hxs⟩ := exists_list (fun i (m : St) => W.cell? (ad.add (i * 3)) = some (.int .i64 m.1) ∧ W.cell? ((ad.add (i * 3)).add 1) = some (.string m.2.1) ∧ W.cell? ((ad.add (i * 3)).add 2) = some (.string m.2.2) ∧ m.2.1.size ≤ 9223372036854775807 ∧ m.2.2.size ≤ 9223372036854775807) n (fun i hin => by
      obtain ⟨cs', hc', ht⟩ := hi i (by omega)
      rw [hC] at hc'
      obtain ⟨y0, y1, k', _, hlen, h0, h1⟩ := trod_struct2 Try.underlying35 ht
      obtain ⟨_, hcl, hat⟩ := World.cells?_some hc'
      rw [hC] at hlen
      match cs', hlen with
      | [c0, c1, c2], _ =>
        have e0 : Try.prog.cellsOf 9 = 1 := by kernel_rfl
        have e1 : Try.prog.cellsOf 3 = 1 := by kernel_rfl
        simp only [e1, hC2] at h0 h1
        simp at h0 h1
        obtain ⟨z0, z1, k2, _, hlen2, g0, g1⟩ := trod_struct2 Try.underlying33 h1
        simp only [e0] at g0 g1
        simp at g0 g1
        obtain ⟨kk, hk, _, _⟩ := DataW.trod_int Try.underlying3 h0
        obtain ⟨s, hs, _, hs1⟩ := DataW.trod_string Try.underlying9 g0
        obtain ⟨t, hta, _, ht1⟩ := DataW.trod_string Try.underlying9 g1
        simp at hk hs hta
        subst hk hs hta
        refine ⟨(kk, s, t), ?_, ?_, ?_, hM ▸ hs1, hM ▸ ht1⟩
        · have := hat 0 (by omega)
          simpa [Addr.add] using this
        · have := hat 1 (by omega)
          simpa using this
        · have := hat 2 (by omega)
          simpa using this)
    subst hxl
    refine ⟨xs, rdS_mk xs hl (by omega) fun i hi => ⟨(hxs i hi).1, (hxs i hi).2.1, (hxs i hi).2.2.1⟩, fun m hm => ?_⟩
    obtain ⟨i, hi, rfl⟩ := List.getElem_of_mem hm
    exact (hxs i hi).2.2.2
end Go.Proofs.Ytnhncbhhlbcieaa
