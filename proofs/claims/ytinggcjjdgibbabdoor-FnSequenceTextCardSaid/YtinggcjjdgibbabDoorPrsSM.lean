import Derived.Test.YtinggcjjdgibbabDoorFmtS
import Derived.Test.YtinggcjjdgibbabDoorPieces
import Derived.Test.YtinggcjjdgibbabDoorParse
namespace Go.PM
open Go.RowKit
open Go.Lib (indexByte)
/-- the kind of a step by its sign -/
def sK (e : UInt8) : Int := indexByte [61, 126] e
def pS (x : ByteArray) : St := (sK (x.data.toList.getD 1 0), x.extract 0 1, x.extract 2 x.size)
def pSOk (x : ByteArray) : Bool := match x.data.toList with
  | [_, e, _] => decide (e = 61) || decide (e = 126)
  | _ => false
def psG (x : ByteArray) : Bool := pSOk x && stOk (pS x)
theorem pSOk_size {x : ByteArray} (h : ¬ x.size = 3) : pSOk x = false := by
  obtain ⟨⟨l⟩⟩ := x
  unfold pSOk
  split
  · next e => simp at e; subst e; exact absurd rfl h
  · rfl
theorem psG_size {x : ByteArray} (h : psG x = true) : x.size = 3 := by
  rcases Nat.decEq x.size 3 with h3 | h3
  · unfold psG at h; rw [pSOk_size h3] at h; cases h
  · exact h3
theorem cut_one {x : ByteArray} {d : UInt8} (s1 : (cutB x d).1.size = 1) (s2 : (cutB x d).2.1.size = 1) : ∃ a c, x = ⟨#[a, d, c]⟩ ∧ (cutB x d).1 = ⟨#[a]⟩ ∧ (cutB x d).2.1 = ⟨#[c]⟩ := by
  by_cases hi : 0 ≤ indexByte x.data.toList d
  · have hB : cutB x d = (x.extract 0 (indexByte x.data.toList d).toNat, x.extract ((indexByte x.data.toList d).toNat + 1) x.size, true) := if_pos hi
    have hmem := (indexByte_mem _ _).1 hi
    have hlt := ixB_lt x.data.toList d
    rw [size_data] at hlt
    rw [hB] at s1 s2
    simp only [ByteArray.size_extract] at s1 s2
    have h3 : x.size = 3 := by omega
    have hk : (indexByte x.data.toList d).toNat = 1 := by omega
    rw [hB, hk]
    obtain ⟨l1, l2, e, hn⟩ := split_at d _ hmem
    have hl : l1.length = 1 := by
      have := ix_some d l1 l2 hn
      rw [← e] at this
      omega
    obtain ⟨a, b, c, rfl⟩ := three_of_size h3
    match l1, hl with
    | [a'], _ =>
      have e' : [a, b, c] = a' :: d :: l2 := e
      have hb : b = d := by simp at e'; exact e'.2.1
      subst hb
      exact ⟨a, c, rfl, rfl, rfl⟩
  · have hB : cutB x d = (x, ⟨#[]⟩, false) := if_neg hi
    rw [hB] at s2
    cases s2
theorem cut_at1 {a d c : UInt8} (h : ¬ a = d) : cutB ⟨#[a, d, c]⟩ d = (⟨#[a]⟩, ⟨#[c]⟩, true) := by
  have hi : indexByte (ByteArray.mk #[a, d, c]).data.toList d = 1 := by
    show indexByte ([a] ++ d :: [c]) d = 1
    rw [ix_some d [a] [c] (by simp; exact fun e => h e.symm)]
    rfl
  unfold cutB
  rw [hi, if_pos (by decide)]
  rfl
theorem step_eq {x : ByteArray} (h : stOk (0, (cutB x 61).1, (cutB x 61).2.1) = true) : psG x = true ∧ pS x = (0, (cutB x 61).1, (cutB x 61).2.1) := by
  have hs := st_sizes h
  obtain ⟨a, c, rfl, e1, e2⟩ := cut_one hs.2.1 hs.2.2
  rw [e1, e2] at h ⊢
  have hp : pS ⟨#[a, 61, c]⟩ = (0, ⟨#[a]⟩, ⟨#[c]⟩) := rfl
  refine ⟨?_, hp⟩
  unfold psG
  rw [hp, h]
  rfl
theorem step_sw {x : ByteArray} (h : stOk (1, (cutB x 126).1, (cutB x 126).2.1) = true) : psG x = true ∧ pS x = (1, (cutB x 126).1, (cutB x 126).2.1) := by
  have hs := st_sizes h
  obtain ⟨a, c, rfl, e1, e2⟩ := cut_one hs.2.1 hs.2.2
  rw [e1, e2] at h ⊢
  have hp : pS ⟨#[a, 126, c]⟩ = (1, ⟨#[a]⟩, ⟨#[c]⟩) := rfl
  refine ⟨?_, hp⟩
  unfold psG
  rw [hp, h]
  rfl
theorem stOk_isC {k : Int} {a b : ByteArray} (h : stOk (k, a, b) = true) : isC a = true := by
  unfold stOk at h
  rw [Bool.or_eq_true] at h
  rcases h with h | h <;> simp only [Bool.and_eq_true] at h <;> exact h.2.1
theorem step_no {x : ByteArray} (h1 : stOk (0, (cutB x 61).1, (cutB x 61).2.1) = false) (h2 : stOk (1, (cutB x 126).1, (cutB x 126).2.1) = false) : psG x = false := by
  cases hg : psG x with
  | false => rfl
  | true =>
    exfalso
    have h3 := psG_size hg
    obtain ⟨a, e, c, rfl⟩ := three_of_size h3
    unfold psG at hg
    rw [Bool.and_eq_true] at hg
    obtain ⟨ho, hs⟩ := hg
    have ho' : e = 61 ∨ e = 126 := by simpa [pSOk] using ho
    rcases ho' with rfl | rfl
    · have hp : pS ⟨#[a, 61, c]⟩ = (0, ⟨#[a]⟩, ⟨#[c]⟩) := rfl
      rw [hp] at hs
      have ha := stOk_isC hs
      rw [cut_at1 (fun e => by subst e; revert ha; decide +kernel), hs] at h1
      cases h1
    · have hp : pS ⟨#[a, 126, c]⟩ = (1, ⟨#[a]⟩, ⟨#[c]⟩) := rfl
      rw [hp] at hs
      have ha := stOk_isC hs
      rw [cut_at1 (fun e => by subst e; revert ha; decide +kernel), hs] at h2
      cases h2
def seqL (t : ByteArray) : List St := (cutP t 59).map pS
def sqOk (t : ByteArray) : Bool := decide (t = ⟨#[45]⟩) || ((cutP t 59).all pSOk && svalid (seqL t))
def sqS (t : ByteArray) : List St := if t = ⟨#[45]⟩ then [] else if (cutP t 59).all pSOk && svalid (seqL t) then seqL t else []
/-- the pieces that make valid steps, not more than 60 -/
def goodP (ps : List ByteArray) : Bool := ps.all psG && decide (ps.length ≤ 60)
theorem goodP_map (ps : List ByteArray) : (ps.all pSOk && svalid (ps.map pS)) = goodP ps := by
  rw [Bool.eq_iff_iff]
  simp only [goodP, svalid, Bool.and_eq_true, List.all_eq_true, List.length_map, decide_eq_true_eq, List.mem_map, forall_exists_index, and_imp, psG]
  constructor
  · rintro ⟨h1, h2, h3⟩
    exact ⟨fun x hx => ⟨h1 x hx, h3 _ x hx rfl⟩, h2⟩
  · rintro ⟨h1, h2⟩
    exact ⟨fun x hx => (h1 x hx).1, h2, fun y x hx e => by subst e; exact (h1 x hx).2⟩
theorem sq_cut {t : ByteArray} (h0 : ¬ t = ⟨#[45]⟩) : sqOk t = goodP (pcsB 59 t) ∧ sqS t = if goodP (pcsB 59 t) then (pcsB 59 t).map pS else [] := by
  have e1 : sqOk t = ((cutP t 59).all pSOk && svalid (seqL t)) := by rw [sqOk, decide_eq_false h0]; rfl
  have e2 : sqS t = if (cutP t 59).all pSOk && svalid (seqL t) then seqL t else [] := if_neg h0
  rw [e1, e2, seqL, goodP_map, cutP_pcs]
  exact ⟨rfl, rfl⟩
theorem goodP_nil : goodP [] = true := rfl
theorem goodP_len {ps : List ByteArray} (h : goodP ps = true) : ps.length ≤ 60 := by
  unfold goodP at h; rw [Bool.and_eq_true] at h; simpa using h.2
theorem goodP_snoc (ps : List ByteArray) (x : ByteArray) : goodP (ps ++ [x]) = true ↔ goodP ps = true ∧ psG x = true ∧ ps.length < 60 := by
  simp only [goodP, Bool.and_eq_true, List.all_eq_true, decide_eq_true_eq, List.mem_append, List.mem_singleton, List.length_append, List.length_singleton]
  constructor
  · rintro ⟨h1, h2⟩
    exact ⟨⟨fun y hy => h1 y (.inl hy), by omega⟩, h1 x (.inr rfl), by omega⟩
  · rintro ⟨⟨h1, _⟩, h2, h3⟩
    exact ⟨fun y hy => by rcases hy with hy | rfl; exact h1 y hy; exact h2, by omega⟩
theorem goodP_prefix {a b : List ByteArray} (h : a <+: b) (hb : goodP b = true) : goodP a = true := by
  obtain ⟨c, rfl⟩ := h
  simp only [goodP, Bool.and_eq_true, List.all_eq_true, decide_eq_true_eq, List.mem_append, List.length_append] at *
  exact ⟨fun x hx => hb.1 x (.inl hx), by omega⟩
theorem sqS_len (t : ByteArray) : (sqS t).length ≤ 60 := by
  by_cases h0 : t = ⟨#[45]⟩
  · rw [sqS, if_pos h0]; exact Nat.zero_le _
  · rw [(sq_cut h0).2]
    split
    · next h => rw [List.length_map]; exact goodP_len h
    · exact Nat.zero_le _
theorem sK_eq : sK 61 = 0 ∧ sK 126 = 1 := ⟨rfl, rfl⟩
theorem sK_no {e : UInt8} (h1 : ¬ e = 61) (h2 : ¬ e = 126) : sK e = -1 := by
  unfold sK
  simp [indexByte, beq_eq_false_iff_ne.2 (Ne.symm h1), beq_eq_false_iff_ne.2 (Ne.symm h2)]
end Go.PM
