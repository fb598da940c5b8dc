import Derived.Test.YtcpibkffeenehaaRows
import Derived.Test.YtcpibkffeenehaaLib
import Derived.ProofKit
import Derived.OpenShut
import Derived.ShutString
import Derived.ChangeOld
import Derived.Deep.Slices
import Derived.ChangeSame
import Derived.Carry
namespace Go.Proofs.Ytcpibkffeenehaa
open Go.RowKit Go.PM Go.ChangeShapes Go.WideShapes Go.Deep

theorem own : ownKnob Try.prog.godebug = none := by kernel_rfl
theorem laidOut : laidOutB Try.prog = true := by kernel_rfl

theorem exists_list {α : Type} (Q : Nat → α → Prop) : ∀ n, (∀ i, i < n → ∃ m, Q i m) → ∃ xs : List α, xs.length = n ∧ ∀ i (h : i < xs.length), Q i xs[i]
  | 0, _ => ⟨[], rfl, fun i h => absurd h (Nat.not_lt_zero _)⟩
  | n + 1, h => by
    obtain ⟨xs, hl, hx⟩ := exists_list Q n fun i hi => h i (by omega)
    obtain ⟨m, hm⟩ := h n (by omega)
    refine ⟨xs ++ [m], by simp [hl], fun i hi => ?_⟩
    by_cases h1 : i < xs.length
    · rw [List.getElem_append_left h1]; exact hx i h1
    · have h2 : i = xs.length := by simp at hi; omega
      subst h2
      rw [List.getElem_append_right (Nat.le_refl _)]
      simpa [hl] using hm

theorem rdM_mk {w : World} {ad : Addr} {cap : Nat} (xs : List Mv) (hc : xs.length ≤ cap) (hn : xs.length ≤ 9223372036854775807)
    (h : ∀ i (hi : i < xs.length), w.cell? (ad.add (i * 2)) = some (.string xs[i].1) ∧ w.cell? ((ad.add (i * 2)).add 1) = some (.string xs[i].2)) : RdM w (.slice (some ad) xs.length cap) xs := by
  refine ⟨some ad, cap, rfl, hc, hn, mcells_length xs, fun h0 => ?_⟩
  have h1 := (h 0 h0).1
  obtain ⟨b, off, spot⟩ := ad
  have hs : spot = none := by
    have := World.cell?_spot h1
    simpa [Addr.add] using this
  subst hs
  have hadd : ∀ o i, (Addr.mk b o none).add i = ⟨b, o + i, none⟩ := fun o i => by
    unfold Addr.add; split
    · next h => subst h; rfl
    · rfl
  refine ⟨b, off, rfl, ?_, fun j u hu => ?_⟩
  · rcases Nat.lt_or_ge b w.heap.size with hlt | hge
    · exact hlt
    · rw [hadd] at h1
      simp [World.cell?, Array.getElem?_eq_none hge] at h1
  · have hj : j < xs.length * 2 := by rw [← mcells_length]; exact (List.getElem?_eq_some_iff.1 hu).1
    have hk : j / 2 < xs.length := by omega
    have hm := mcells_at xs (j / 2) _ (List.getElem?_eq_getElem hk)
    have hh := h (j / 2) hk
    rw [hadd, hadd] at hh
    rcases Nat.mod_two_eq_zero_or_one j with h0 | h0
    · have e : j / 2 * 2 = j := by omega
      rw [e] at hm hh
      rw [hm.1] at hu
      rw [hh.1, hu]
    · have e : j / 2 * 2 + 1 = j := by omega
      rw [e] at hm
      rw [Nat.add_assoc, e] at hh
      rw [hm.2] at hu
      rw [hh.2, hu]

set_option maxRecDepth 100000 in
theorem open_moves {H : Type} {enc : TypeId × Value → H} {W : World} {base fuel : Nat} {spare : Nat → Bool} {held : Bool} {a : Option Addr} {n c : Nat} {x : DataW H × List MemPlace}
    (h : DataW.trod enc Try.prog W base spare held fuel 22 [.slice a n c] = some x) :
    ∃ xs : List Mv, RdM W (.slice a n c) xs ∧ ∀ m ∈ xs, m.1.size ≤ 9223372036854775807 ∧ m.2.size ≤ 9223372036854775807 := by
  rcases open_slice Try.underlying22 h with ⟨hcs, _⟩ | ⟨ad, len, cap, m, k, D, Pl, hcs, hb, hl, hm, hmm, hx, hi⟩
  · simp at hcs
    obtain ⟨rfl, rfl, rfl⟩ := hcs
    exact ⟨[], ⟨none, 0, rfl, by simp, by simp, rfl, by simp⟩, by simp⟩
  · simp at hcs
    obtain ⟨rfl, rfl, rfl⟩ := hcs
    have hC : Try.prog.cellsOf 32 = 2 := by kernel_rfl
    have hml : n ≤ m := by rw [hmm]; split <;> omega
    have hM : maxLen = 9223372036854775807 := rfl
    obtain ⟨xs, hxl, hxs⟩ := exists_list (fun i (m : Mv) => W.cell? (ad.add (i * 2)) = some (.string m.1) ∧ W.cell? ((ad.add (i * 2)).add 1) = some (.string m.2) ∧ m.1.size ≤ 9223372036854775807 ∧ m.2.size ≤ 9223372036854775807) n (fun i hin => by
      obtain ⟨cs', hc', ht⟩ := hi i (by omega)
      rw [hC] at hc'
      obtain ⟨y0, y1, k', _, hlen, h0, h1⟩ := trod_struct2 Try.underlying32 ht
      obtain ⟨_, hcl, hat⟩ := World.cells?_some hc'
      rw [hC] at hlen
      match cs', hlen with
      | [c0, c1], _ =>
        have e0 : Try.prog.cellsOf 9 = 1 := by kernel_rfl
        simp only [e0] at h0 h1
        simp at h0 h1
        obtain ⟨s, hs, _, hs1⟩ := DataW.trod_string Try.underlying9 h0
        obtain ⟨t, hta, _, ht1⟩ := DataW.trod_string Try.underlying9 h1
        simp at hs hta
        subst hs hta
        refine ⟨(s, t), ?_, ?_, hM ▸ hs1, hM ▸ ht1⟩
        · have := hat 0 (by omega)
          simpa [Addr.add] using this
        · have := hat 1 (by omega)
          simpa using this)
    subst hxl
    refine ⟨xs, rdM_mk xs hl (by omega) fun i hi => ⟨(hxs i hi).1, (hxs i hi).2.1⟩, fun m hm => ?_⟩
    obtain ⟨i, hi, rfl⟩ := List.getElem_of_mem hm
    exact (hxs i hi).2.2
end Go.Proofs.Ytcpibkffeenehaa
