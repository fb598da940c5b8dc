import Derived.Test.YthgcoocgeekdnaaDoorGraph2
import Derived.Test.YthgcoocgeekdnaaDoorReaders
namespace Go.PW
open Go.PM Go.RowKit Go.Lib

def spotsL : List UInt8 := [97, 98, 99, 100, 101, 102, 65, 66, 67, 48, 49, 50, 51, 52, 53, 54, 55, 56, 57]
def ch (i : Nat) : UInt8 := spotsL.getD i 0
def sn (i : Nat) : ByteArray := ⟨#[ch i]⟩
def sidx (s : ByteArray) : Nat := (indexByte spotsL (s.data.toList.headD 0)).toNat
def txt (l : List Nat) : ByteArray := ⟨(l.map ch).toArray⟩
theorem sn_nm (i : Nat) (h : i < 9) : sn i = nm i := by
  match i, h with
  | 0, _ | 1, _ | 2, _ | 3, _ | 4, _ | 5, _ | 6, _ | 7, _ | 8, _ => rfl
theorem ch_all : ∀ i, i < 19 → (indexByte spotsL (ch i)) = (i : Nat) ∧ isS (sn i) = true ∧ isP (sn i) = decide (i < 9) ∧ isD (sn i) = decide (9 ≤ i) := by
  intro i h
  rcases (show i = 0 ∨ i = 1 ∨ i = 2 ∨ i = 3 ∨ i = 4 ∨ i = 5 ∨ i = 6 ∨ i = 7 ∨ i = 8 ∨ i = 9 ∨ i = 10 ∨ i = 11 ∨ i = 12 ∨ i = 13 ∨ i = 14 ∨ i = 15 ∨ i = 16 ∨ i = 17 ∨ i = 18 by omega) with rfl | rfl | rfl | rfl | rfl | rfl | rfl | rfl | rfl | rfl | rfl | rfl | rfl | rfl | rfl | rfl | rfl | rfl | rfl <;> decide +kernel
theorem ch_inj {i j : Nat} (hi : i < 19) (hj : j < 19) (e : ch i = ch j) : i = j := by
  have h1 := (ch_all i hi).1
  have h2 := (ch_all j hj).1
  rw [e, h2] at h1; omega
theorem sn_inj {i j : Nat} (hi : i < 19) (hj : j < 19) (e : sn i = sn j) : i = j := by
  refine ch_inj hi hj ?_
  have := congrArg (fun s => s.data.toList.headD 0) e
  simpa [sn] using this
theorem sidx_sn {i : Nat} (hi : i < 19) : sidx (sn i) = i := by
  have := (ch_all i hi).1
  unfold sidx sn
  show (indexByte spotsL (ch i)).toNat = i
  rw [this]; rfl
theorem sidx_one (c : UInt8) (h : isS ⟨#[c]⟩ = true) : sidx ⟨#[c]⟩ < 19 ∧ sn (sidx ⟨#[c]⟩) = ⟨#[c]⟩ := by
  have hm : c ∈ spotsL := by
    unfold isS at h
    rw [Bool.or_eq_true] at h
    rcases h with h | h
    · have : c ∈ placesL := by simpa [isP] using h
      simp only [placesL, List.mem_cons, List.not_mem_nil, or_false] at this
      simp only [spotsL, List.mem_cons, List.not_mem_nil, or_false]
      rcases this with h | h | h | h | h | h | h | h | h <;> simp [h]
    · have : 48 ≤ c.toNat ∧ c.toNat ≤ 57 := by simpa [isD] using h
      obtain ⟨n, hn⟩ : ∃ n, c.toNat = n := ⟨_, rfl⟩
      have hc : c = UInt8.ofNat n := by rw [← hn]; simp
      subst hc
      rw [hn] at this
      have : n = 48 ∨ n = 49 ∨ n = 50 ∨ n = 51 ∨ n = 52 ∨ n = 53 ∨ n = 54 ∨ n = 55 ∨ n = 56 ∨ n = 57 := by omega
      rcases this with rfl | rfl | rfl | rfl | rfl | rfl | rfl | rfl | rfl | rfl <;> decide
  simp only [spotsL, List.mem_cons, List.not_mem_nil, or_false] at hm
  rcases hm with rfl | rfl | rfl | rfl | rfl | rfl | rfl | rfl | rfl | rfl | rfl | rfl | rfl | rfl | rfl | rfl | rfl | rfl | rfl <;> decide +kernel
theorem sidx_spec {s : ByteArray} (h : isS s = true) : sidx s < 19 ∧ sn (sidx s) = s := by
  obtain ⟨c, rfl⟩ := one_of_size (isS_size h)
  exact sidx_one c h
theorem sidx_pidx {s : ByteArray} (h : isP s = true) : sidx s = pidx s := by
  have h1 := pidx_spec h
  have h2 : isS s = true := by unfold isS; rw [h]; rfl
  have h3 := sidx_spec h2
  refine sn_inj h3.1 (by omega) ?_
  rw [h3.2, sn_nm _ h1.1, h1.2]
theorem isP_sidx {s : ByteArray} (h : isS s = true) : isP s = decide (sidx s < 9) := by
  have h1 := sidx_spec h
  have h2 := (ch_all _ h1.1).2.2.1
  rwa [h1.2] at h2
def strLen : Value → Nat
  | .string t => t.size
  | _ => 0
theorem txt_nil : txt [] = ⟨#[]⟩ := rfl
theorem txt_one (i : Nat) : txt [i] = sn i := rfl
theorem txt_append (l m : List Nat) : txt (l ++ m) = txt l ++ txt m := by
  apply ByteArray.ext
  rw [ByteArray.data_append]
  simp [txt]
theorem txt_snoc (l : List Nat) (i : Nat) : txt (l ++ [i]) = txt l ++ sn i := txt_append l [i]
theorem txt_size (l : List Nat) : (txt l).size = l.length := by simp [txt, ByteArray.size]
theorem txt_list (l : List Nat) : (txt l).data.toList = l.map ch := by simp [txt]
theorem txt_mem {l : List Nat} (hl : ∀ a ∈ l, a < 19) {i : Nat} (hi : i < 19) : ch i ∈ (txt l).data.toList ↔ i ∈ l := by
  rw [txt_list, List.mem_map]
  constructor
  · rintro ⟨j, hj, e⟩
    have := ch_inj (hl j hj) hi e
    exact this ▸ hj
  · intro h; exact ⟨i, h, rfl⟩
theorem txt_inj : ∀ {l m : List Nat}, (∀ a ∈ l, a < 19) → (∀ a ∈ m, a < 19) → txt l = txt m → l = m := by
  intro l m hl hm e
  have h : l.map ch = m.map ch := by rw [← txt_list, ← txt_list, e]
  clear e
  induction l generalizing m with
  | nil => cases m with
    | nil => rfl
    | cons b m => simp at h
  | cons a l ih => cases m with
    | nil => simp at h
    | cons b m =>
      rw [List.map_cons, List.map_cons, List.cons.injEq] at h
      have := ch_inj (hl a (by simp)) (hm b (by simp)) h.1
      rw [this, ih (fun x hx => hl x (by simp [hx])) (fun x hx => hm x (by simp [hx])) h.2]

/-- a table whose sources are places or digits -/
def SV (f : Nat → ByteArray) : Prop := ∀ p, p < 9 → isS (srcT f p) = true
theorem SV_tab {xs : List Mv} (h : MV xs) : SV (tabOf xs) := by
  intro p hp
  rw [srcM_nm h hp]
  unfold srcM
  cases hf : xs.find? (fun m => decide (m.1 = nm p)) with
  | none => show isS (nm p) = true; unfold isS; rw [isP_nm hp]; rfl
  | some m =>
    have := h.1 m (List.mem_of_find?_eq_some hf)
    unfold mok at this; rw [Bool.and_eq_true] at this
    exact this.2
/-- the spot whence the value of a place comes -/
def sx (f : Nat → ByteArray) (p : Nat) : Nat := sidx (srcT f p)
def nxT (f : Nat → ByteArray) (i : Nat) : Option Nat := if i < 9 then (if sx f i = i then none else some (sx f i)) else none
theorem sx_lt {f : Nat → ByteArray} (h : SV f) {p : Nat} (hp : p < 9) : sx f p < 19 ∧ sn (sx f p) = srcT f p := sidx_spec (h p hp)
theorem nice {f : Nat → ByteArray} (h : SV f) : Nice (nxT f) := by
  refine ⟨fun i j e => ?_, fun i e => ?_, fun i j e => ?_⟩
  all_goals
    unfold nxT at e
    by_cases h9 : i < 9
    · rw [if_pos h9] at e
      by_cases h1 : sx f i = i
      · rw [if_pos h1] at e; cases e
      · rw [if_neg h1, Option.some.injEq] at e
        first | exact h9 | exact absurd e h1 | exact e ▸ (sx_lt h h9).1
    · rw [if_neg h9] at e; cases e
theorem nxT_some {f : Nat → ByteArray} {i : Nat} (hi : i < 9) (h : sx f i ≠ i) : nxT f i = some (sx f i) := by
  unfold nxT; rw [if_pos hi, if_neg h]
theorem nxT_stay {f : Nat → ByteArray} {i : Nat} (hi : i < 9) (h : sx f i = i) : nxT f i = none := by
  unfold nxT; rw [if_pos hi, if_pos h]
theorem nxT_digit {f : Nat → ByteArray} {i : Nat} (hi : ¬ i < 9) : nxT f i = none := by
  unfold nxT; rw [if_neg hi]
theorem src_self {f : Nat → ByteArray} (h : SV f) {i : Nat} (hi : i < 9) : srcT f i = nm i ↔ sx f i = i := by
  have h1 := sx_lt h hi
  rw [← h1.2, ← sn_nm i hi]
  exact ⟨fun e => sn_inj h1.1 (by omega) e, fun e => by rw [e]⟩
end Go.PW
