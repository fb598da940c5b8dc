import Derived.Test.YtfedloljhocpgaaGreatDoorLib
import Derived.Lib.IndexLaws
namespace Go.PM
open Go.RowKit Go.Lib

def placesL : List UInt8 := [97, 98, 99, 100, 101, 102, 65, 66, 67]
def isP (s : ByteArray) : Bool := match s.data.toList with
  | [c] => decide (c ∈ placesL)
  | _ => false
def isD (s : ByteArray) : Bool := match s.data.toList with
  | [c] => decide (48 ≤ c.toNat ∧ c.toNat ≤ 57)
  | _ => false
def isS (s : ByteArray) : Bool := isP s || isD s

theorem indexByte_mem (l : List UInt8) (c : UInt8) : 0 ≤ indexByte l c ↔ c ∈ l := by
  constructor
  · intro h
    obtain ⟨o, ho⟩ := Int.eq_ofNat_of_zero_le h
    exact List.mem_of_getElem? (indexByte_some ho).1
  · intro h
    have hge := indexByte_ge l c
    rcases Int.lt_or_le (indexByte l c) 0 with h0 | h0
    · have : indexByte l c = -1 := by omega
      obtain ⟨k, hk⟩ := List.getElem?_of_mem h
      exact absurd hk (indexByte_none this k)
    · exact h0
theorem size_data (s : ByteArray) : s.data.toList.length = s.size := by simp
theorem isP_size {s : ByteArray} (h : isP s = true) : s.size = 1 := by
  unfold isP at h; split at h
  · next c hc => rw [← size_data, hc]; rfl
  · cases h
theorem isD_size {s : ByteArray} (h : isD s = true) : s.size = 1 := by
  unfold isD at h; split at h
  · next c hc => rw [← size_data, hc]; rfl
  · cases h
theorem isS_size {s : ByteArray} (h : isS s = true) : s.size = 1 := by
  unfold isS at h; rw [Bool.or_eq_true] at h; exact h.elim isP_size isD_size
theorem one_of_size {s : ByteArray} (h : s.size = 1) : ∃ c, s = ⟨#[c]⟩ := by
  have := size_data s
  rw [h] at this
  obtain ⟨⟨l⟩⟩ := s
  match l, this with
  | [c], _ => exact ⟨c, rfl⟩

def mok (m : Mv) : Bool := isP m.1 && isS m.2
def MV (xs : List Mv) : Prop := (∀ m ∈ xs, mok m = true) ∧ (xs.map (·.1)).Nodup
instance (xs : List Mv) : Decidable (MV xs) := inferInstanceAs (Decidable (_ ∧ _))
def mvalid (xs : List Mv) : Bool := decide (MV xs)
theorem MV_nil : MV [] := ⟨by simp, by simp⟩
theorem MV_snoc (xs : List Mv) (x : Mv) : MV (xs ++ [x]) ↔ MV xs ∧ mok x = true ∧ x.1 ∉ xs.map (·.1) := by
  unfold MV
  simp only [List.mem_append, List.mem_singleton, List.map_append, List.map_cons, List.map_nil, List.nodup_append]
  constructor
  · rintro ⟨h1, h2, _, h3⟩
    exact ⟨⟨fun m hm => h1 m (.inl hm), h2⟩, h1 x (.inr rfl), fun hx => h3 _ hx _ (by simp) rfl⟩
  · rintro ⟨⟨h1, h2⟩, h3, h4⟩
    refine ⟨fun m hm => hm.elim (h1 m) (fun e => e ▸ h3), h2, by simp, fun a ha b hb e => ?_⟩
    subst hb; subst e; exact h4 ha
theorem MV_take {xs : List Mv} (h : MV xs) (k : Nat) : MV (xs.take k) :=
  ⟨fun m hm => h.1 m (List.mem_of_mem_take hm), by rw [List.map_take]; exact h.2.sublist (List.take_sublist _ _)⟩
theorem MV_step {xs : List Mv} (k : Nat) (hk : k < xs.length) : MV (xs.take (k+1)) ↔ MV (xs.take k) ∧ mok xs[k] = true ∧ xs[k].1 ∉ (xs.take k).map (·.1) := by
  rw [take_snoc xs k hk]; exact MV_snoc _ _

def tos (xs : List Mv) : List UInt8 := xs.flatMap fun m => m.1.data.toList
theorem tos_mem {xs : List Mv} (h : MV xs) (c : UInt8) : c ∈ tos xs ↔ (⟨#[c]⟩ : ByteArray) ∈ xs.map (·.1) := by
  unfold tos
  rw [List.mem_flatMap, List.mem_map]
  constructor
  · rintro ⟨m, hm, hc⟩
    have h1 := h.1 m hm
    unfold mok at h1; rw [Bool.and_eq_true] at h1
    obtain ⟨d, hd⟩ := one_of_size (isP_size h1.1)
    refine ⟨m, hm, ?_⟩
    rw [hd] at hc ⊢; simp at hc; rw [hc]
  · rintro ⟨m, hm, hc⟩
    exact ⟨m, hm, by rw [hc]; simp⟩
theorem tos_length {xs : List Mv} (h : MV xs) : (tos xs).length = xs.length := by
  induction xs with
  | nil => rfl
  | cons x xs ih =>
    have hx : MV xs := ⟨fun m hm => h.1 m (List.mem_cons_of_mem _ hm), (List.nodup_cons.1 h.2).2⟩
    have h1 := h.1 x (List.mem_cons_self ..)
    unfold mok at h1; rw [Bool.and_eq_true] at h1
    have := isP_size h1.1
    unfold tos at ih ⊢
    rw [List.flatMap_cons, List.length_append, ih hx, size_data, this, List.length_cons]; omega
theorem nodup_le {α : Type _} [DecidableEq α] : ∀ (l m : List α), l.Nodup → (∀ a ∈ l, a ∈ m) → l.length ≤ m.length
  | [], _, _, _ => by simp
  | a :: l, m, hn, hs => by
    rw [List.nodup_cons] at hn
    have h1 : l.length ≤ (m.erase a).length := nodup_le l (m.erase a) hn.2 fun b hb => by
      have hne : b ≠ a := fun e => hn.1 (e ▸ hb)
      exact (List.mem_erase_of_ne hne).2 (hs b (List.mem_cons_of_mem _ hb))
    have h2 : a ∈ m := hs a (List.mem_cons_self ..)
    have h3 := List.length_erase_of_mem h2
    have h4 : 0 < m.length := List.length_pos_of_mem h2
    simp only [List.length_cons]; omega
theorem MV_len {xs : List Mv} (h : MV xs) : xs.length ≤ 9 := by
  have h2 := nodup_le (xs.map (·.1)) (placesL.map fun c => (⟨#[c]⟩ : ByteArray)) h.2 (fun a ha => by
    rw [List.mem_map] at ha
    obtain ⟨m, hm, rfl⟩ := ha
    have h1 := h.1 m hm
    unfold mok at h1; rw [Bool.and_eq_true] at h1
    obtain ⟨d, hd⟩ := one_of_size (isP_size h1.1)
    have h3 := h1.1
    rw [hd] at h3 ⊢
    exact List.mem_map.2 ⟨d, by simpa [isP] using h3, rfl⟩)
  simpa [placesL] using h2

def nm (p : Nat) : ByteArray := ⟨#[placesL.getD p 0]⟩
def pidx (s : ByteArray) : Nat := (indexByte placesL (s.data.toList.headD 0)).toNat
theorem pidx_one {c : UInt8} (h : c ∈ placesL) : indexByte placesL c = (pidx ⟨#[c]⟩ : Nat) ∧ pidx ⟨#[c]⟩ < 9 ∧ nm (pidx ⟨#[c]⟩) = ⟨#[c]⟩ := by
  simp only [placesL, List.mem_cons, List.not_mem_nil, or_false] at h
  rcases h with rfl | rfl | rfl | rfl | rfl | rfl | rfl | rfl | rfl <;> decide +kernel
theorem pidx_spec {s : ByteArray} (h : isP s = true) : pidx s < 9 ∧ nm (pidx s) = s := by
  obtain ⟨c, rfl⟩ := one_of_size (isP_size h)
  have h2 : c ∈ placesL := by simpa [isP] using h
  exact (pidx_one h2).2
theorem isP_nm {p : Nat} (h : p < 9) : isP (nm p) = true := by
  match p, h with
  | 0, _ | 1, _ | 2, _ | 3, _ | 4, _ | 5, _ | 6, _ | 7, _ | 8, _ => decide +kernel
theorem pidx_nm {p : Nat} (h : p < 9) : pidx (nm p) = p := by
  match p, h with
  | 0, _ | 1, _ | 2, _ | 3, _ | 4, _ | 5, _ | 6, _ | 7, _ | 8, _ => decide +kernel
theorem nm_inj {p q : Nat} (hp : p < 9) (hq : q < 9) (h : nm p = nm q) : p = q := by
  have := congrArg pidx h
  rwa [pidx_nm hp, pidx_nm hq] at this

def tabC (f : Nat → ByteArray) : Array Value := #[.string (f 0), .string (f 1), .string (f 2), .string (f 3), .string (f 4), .string (f 5), .string (f 6), .string (f 7), .string (f 8)]
abbrev tabV (f : Nat → ByteArray) : Value := .agg (tabC f)
abbrev tabA (f : Nat → ByteArray) : Array Value := #[.string (f 0), .string (f 1), .string (f 2), .string (f 3), .string (f 4), .string (f 5), .string (f 6), .string (f 7), .string (f 8)]
abbrev tabX (f : Nat → ByteArray) : Value := .agg #[.string (f 0), .string (f 1), .string (f 2), .string (f 3), .string (f 4), .string (f 5), .string (f 6), .string (f 7), .string (f 8)]
abbrev zA : Array Value := #[.string ⟨#[]⟩, .string ⟨#[]⟩, .string ⟨#[]⟩, .string ⟨#[]⟩, .string ⟨#[]⟩, .string ⟨#[]⟩, .string ⟨#[]⟩, .string ⟨#[]⟩, .string ⟨#[]⟩]
abbrev zX : Value := .agg #[.string ⟨#[]⟩, .string ⟨#[]⟩, .string ⟨#[]⟩, .string ⟨#[]⟩, .string ⟨#[]⟩, .string ⟨#[]⟩, .string ⟨#[]⟩, .string ⟨#[]⟩, .string ⟨#[]⟩]
theorem tabC_at (f : Nat → ByteArray) (p : Nat) (hp : p < 9) : (tabC f)[p]? = some (.string (f p)) := by
  match p, hp with
  | 0, _ | 1, _ | 2, _ | 3, _ | 4, _ | 5, _ | 6, _ | 7, _ | 8, _ => rfl
theorem tabC_set (f : Nat → ByteArray) (p : Nat) (hp : p < 9) (b : ByteArray) : (tabC f).setIfInBounds p (.string b) = tabC (fun q => if q = p then b else f q) := by
  match p, hp with
  | 0, _ | 1, _ | 2, _ | 3, _ | 4, _ | 5, _ | 6, _ | 7, _ | 8, _ => simp [tabC]
theorem At.set9 {w : World} {b : Nat} {t : TypeId} {c0 c1 c2 c3 c4 c5 c6 c7 c8 : Value} (g : Nat → ByteArray) (h : At w b t #[c0, c1, c2, c3, c4, c5, c6, c7, c8]) :
    At (((((((((w.setCell ⟨b, 0, none⟩ (.string (g 0))).setCell ⟨b, 1, none⟩ (.string (g 1))).setCell ⟨b, 2, none⟩ (.string (g 2))).setCell ⟨b, 3, none⟩ (.string (g 3))).setCell ⟨b, 4, none⟩ (.string (g 4))).setCell ⟨b, 5, none⟩ (.string (g 5))).setCell ⟨b, 6, none⟩ (.string (g 6))).setCell ⟨b, 7, none⟩ (.string (g 7))).setCell ⟨b, 8, none⟩ (.string (g 8))) b t (tabA g) := by
  have h1 := h.set 0 (.string (g 0))
  have h2 := h1.set 1 (.string (g 1))
  have h3 := h2.set 2 (.string (g 2))
  have h4 := h3.set 3 (.string (g 3))
  have h5 := h4.set 4 (.string (g 4))
  have h6 := h5.set 5 (.string (g 5))
  have h7 := h6.set 6 (.string (g 6))
  have h8 := h7.set 7 (.string (g 7))
  have h9 := h8.set 8 (.string (g 8))
  simpa using h9
def srcT (f : Nat → ByteArray) (p : Nat) : ByteArray := if f p = ⟨#[]⟩ then nm p else f p
abbrev emp : ByteArray := ⟨#[]⟩
def upd (f : Nat → ByteArray) (p : Nat) (b : ByteArray) : Nat → ByteArray := fun q => if q = p then b else f q
def tabOf (xs : List Mv) : Nat → ByteArray := fun p => ((xs.find? fun m => decide (m.1 = nm p)).map (·.2)).getD emp
theorem tabOf_emp {xs : List Mv} (h : MV xs) {p : Nat} : tabOf xs p = emp ↔ nm p ∉ xs.map (·.1) := by
  unfold tabOf
  cases hf : xs.find? (fun m => decide (m.1 = nm p)) with
  | none =>
    simp only [Option.map_none, Option.getD_none, true_iff]
    intro hm
    rw [List.mem_map] at hm
    obtain ⟨m, hm, e⟩ := hm
    have := List.find?_eq_none.1 hf m hm
    simp [e] at this
  | some m =>
    have h1 := List.find?_some hf
    have h2 := List.mem_of_find?_eq_some hf
    simp only [Option.map_some, Option.getD_some]
    constructor
    · intro he
      have h3 := h.1 m h2
      unfold mok at h3; rw [Bool.and_eq_true] at h3
      have h4 := isS_size h3.2
      rw [he] at h4; cases h4
    · intro hn
      exact absurd (List.mem_map.2 ⟨m, h2, by simpa using h1⟩) hn
theorem tabOf_snoc (xs : List Mv) (x : Mv) (hx : isP x.1 = true) (hn : x.1 ∉ xs.map (·.1)) (p : Nat) (hp : p < 9) : tabOf (xs ++ [x]) p = upd (tabOf xs) (pidx x.1) x.2 p := by
  unfold tabOf upd
  have hs := pidx_spec hx
  by_cases h : p = pidx x.1
  · rw [if_pos h, List.find?_append]
    have : xs.find? (fun m => decide (m.1 = nm p)) = none := by
      rw [List.find?_eq_none]
      intro m hm e
      rw [h, hs.2] at e
      exact hn (List.mem_map.2 ⟨m, hm, by simpa using e⟩)
    rw [this, h, hs.2]; simp
  · rw [if_neg h, List.find?_append]
    have : [x].find? (fun m => decide (m.1 = nm p)) = none := by
      rw [List.find?_eq_none]
      intro m hm e
      have : m = x := by simpa using hm
      subst this
      have h2 : m.1 = nm p := by simpa using e
      exact h (by rw [h2, pidx_nm hp])
    rw [this]; simp

def srcM (xs : List Mv) (a : ByteArray) : ByteArray := ((xs.find? fun m => decide (m.1 = a)).map (·.2)).getD a
def okS (b : Bool) (s : ByteArray) : ByteArray := if b then s else ⟨#[]⟩
theorem srcM_drop (xs : List Mv) (a : ByteArray) (k : Nat) (hk : k < xs.length) : srcM (xs.drop k) a = if xs[k].1 = a then xs[k].2 else srcM (xs.drop (k+1)) a := by
  unfold srcM
  rw [List.drop_eq_getElem_cons hk, List.find?_cons]
  by_cases h : xs[k].1 = a
  · simp [h]
  · simp [h]
theorem srcM_nm {xs : List Mv} (h : MV xs) {p : Nat} (_hp : p < 9) : srcT (tabOf xs) p = srcM xs (nm p) := by
  have he := tabOf_emp h (p := p)
  unfold srcT
  by_cases h0 : tabOf xs p = ⟨#[]⟩
  · rw [if_pos h0]
    have h1 := he.1 h0
    unfold srcM
    have : xs.find? (fun m => decide (m.1 = nm p)) = none := by
      rw [List.find?_eq_none]
      intro m hm e
      exact h1 (List.mem_map.2 ⟨m, hm, by simpa using e⟩)
    rw [this]; rfl
  · rw [if_neg h0]
    unfold tabOf at h0 ⊢
    unfold srcM
    cases hf : xs.find? (fun m => decide (m.1 = nm p)) with
    | none => rw [hf] at h0; exact absurd rfl h0
    | some m => rfl
end Go.PM

