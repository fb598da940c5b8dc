import Derived.Test.YtjmbmfemlkicmaaDoorLib
import Derived.Lib.Join
import Derived.Lib.ItoaLen
namespace Go.PG
open Go.RowKit Go.PM
/-- a number's decimal text -/
def itoaB (n : Int) : ByteArray := ⟨(Lib.itoa n).toArray⟩
theorem itoaB_data (n : Int) : (itoaB n).data.toList = Lib.itoa n := by simp [itoaB]
def i64ok (n : Int) : Prop := -9223372036854775808 ≤ n ∧ n ≤ 9223372036854775807
theorem itoaB_size {n : Int} (h : i64ok n) : (itoaB n).size ≤ 21 := by
  have := Lib.itoa_length_le n h.1 h.2
  show (Lib.itoa n).toArray.size ≤ 21
  simpa using this
def numL (ns : List Int) : List UInt8 := Lib.join (ns.map Lib.itoa) [32]
def numB (ns : List Int) : ByteArray := if ns = [] then ⟨#[45]⟩ else ⟨(numL ns).toArray⟩
theorem numB_none {ns : List Int} (h : ns = []) : numB ns = ⟨#[45]⟩ := by simp [numB, h]
theorem numB_some {ns : List Int} (h : ns ≠ []) : numB ns = ⟨(numL ns).toArray⟩ := by simp [numB, h]
theorem njoin_snoc (xs : List (List UInt8)) (x sep : List UInt8) : Lib.join (xs ++ [x]) sep = if xs = [] then x else Lib.join xs sep ++ sep ++ x := by
  cases xs with
  | nil => simp [Lib.join_one]
  | cons y r => simp [Lib.join_cons, Lib.joinTail]
theorem numL_step (xs : List Int) (k : Nat) (hk : k < xs.length) : numL (xs.take (k+1)) = if k = 0 then Lib.itoa xs[k] else numL (xs.take k) ++ [32] ++ Lib.itoa xs[k] := by
  unfold numL
  rw [take_snoc xs k hk, List.map_append, List.map_cons, List.map_nil, njoin_snoc]
  by_cases h : k = 0
  · subst h; simp
  · have : ¬ (xs.take k).map Lib.itoa = [] := by
      intro e
      have := congrArg List.length e
      rw [List.length_map, List.length_take, List.length_nil] at this; omega
    simp only [h, this, if_false]
theorem itoa_ne (n : Int) : Lib.itoa n ≠ [] := by
  unfold Lib.itoa
  split
  · simp
  · intro h
    have := congrArg List.length h
    rw [Lib.decDigits_length] at this
    have := Lib.nDigits_pos n.toNat
    simp at *; omega
theorem numL_pos {xs : List Int} (h : xs ≠ []) : numL xs ≠ [] := by
  cases xs with
  | nil => exact absurd rfl h
  | cons x r =>
    unfold numL
    rw [List.map_cons, Lib.join_cons]
    simp [itoa_ne x]
theorem nba_mk {t : ByteArray} {l : List UInt8} (h : t.data.toList = l) : t = ⟨l.toArray⟩ := by
  subst h; simp
theorem numL_len (xs : List Int) (h : ∀ n ∈ xs, i64ok n) : (numL xs).length ≤ 22 * xs.length := by
  induction xs with
  | nil => simp [numL, Lib.join_nil]
  | cons x r ih =>
    have ih := ih fun n hn => h n (List.mem_cons_of_mem _ hn)
    unfold numL at ih ⊢
    have hx := Lib.itoa_length_le x (h x List.mem_cons_self).1 (h x List.mem_cons_self).2
    rw [List.map_cons, Lib.join_cons, List.length_append]
    cases r with
    | nil => simp [Lib.joinTail]; omega
    | cons y r =>
      have h2 : (Lib.joinTail [32] (List.map Lib.itoa (y :: r))).length = 1 + (Lib.join (List.map Lib.itoa (y :: r)) [32]).length := by
        rw [List.map_cons, Lib.join_cons]; simp [Lib.joinTail]; omega
      rw [h2]; simp only [List.length_cons] at *; omega
/-- the digits of a numeral -/
theorem dec_digit (u : Nat) : ∀ b ∈ Lib.decDigits u, 48 ≤ b.toNat ∧ b.toNat ≤ 57 := by
  intro b hb
  rw [Lib.decDigits_eq] at hb
  obtain ⟨t, _, rfl⟩ := List.mem_map.1 hb
  unfold Lib.dg
  have : (UInt8.ofNat (48 + u / 10 ^ (Lib.nDigits u - 1 - t) % 10)).toNat = 48 + u / 10 ^ (Lib.nDigits u - 1 - t) % 10 := by
    rw [UInt8.toNat_ofNat']
    have := Nat.mod_lt (u / 10 ^ (Lib.nDigits u - 1 - t)) (show 0 < 10 by decide)
    omega
  rw [this]
  have := Nat.mod_lt (u / 10 ^ (Lib.nDigits u - 1 - t)) (show 0 < 10 by decide)
  omega
theorem dec_inj : ∀ (u v : Nat), Lib.decDigits u = Lib.decDigits v → u = v := by
  intro u
  induction u using Nat.strongRecOn with
  | _ u ih =>
    intro v h
    have hofN : ∀ a b : Nat, a < 10 → b < 10 → UInt8.ofNat (48 + a) = UInt8.ofNat (48 + b) → a = b := fun a b ha hb e => by
      have := congrArg UInt8.toNat e
      rw [UInt8.toNat_ofNat', UInt8.toNat_ofNat'] at this
      omega
    by_cases h1 : u < 10 <;> by_cases h2 : v < 10
    · rw [Lib.decDigits_one h1, Lib.decDigits_one h2] at h
      exact hofN u v h1 h2 (by simpa using h)
    · have := congrArg List.length h
      rw [Lib.decDigits_length, Lib.decDigits_length, Lib.nDigits_small h1, Lib.nDigits_big h2] at this
      have := Lib.nDigits_pos (v / 10)
      omega
    · have := congrArg List.length h
      rw [Lib.decDigits_length, Lib.decDigits_length, Lib.nDigits_small h2, Lib.nDigits_big h1] at this
      have := Lib.nDigits_pos (u / 10)
      omega
    · rw [Lib.decDigits, dif_neg h1] at h
      rw [Lib.decDigits.eq_1 v, dif_neg h2] at h
      have h3 := List.append_inj' h rfl
      have h4 := ih (u / 10) (by omega) (v / 10) h3.1
      have h5 := hofN (u % 10) (v % 10) (by omega) (by omega) (by simpa using h3.2)
      omega
theorem itoa_byte (n : Int) : ∀ b ∈ Lib.itoa n, b ≠ 32 := by
  intro b hb e
  subst e
  unfold Lib.itoa at hb
  split at hb
  · rcases List.mem_cons.1 hb with h | h
    · exact absurd h (by decide)
    · have := dec_digit _ _ h
      exact absurd this.1 (by decide)
  · have := dec_digit _ _ hb
    exact absurd this.1 (by decide)
theorem itoa_inj {n m : Int} (h : Lib.itoa n = Lib.itoa m) : n = m := by
  have hd : ∀ u, Lib.decDigits u ≠ [] := fun u e => by
    have := congrArg List.length e
    rw [Lib.decDigits_length] at this
    have := Lib.nDigits_pos u
    simp at *; omega
  have hx : ∀ u v, ¬ Lib.decDigits u = 45 :: Lib.decDigits v := fun u v e => by
    have := dec_digit u 45 (by rw [e]; exact List.mem_cons_self)
    exact absurd this.1 (by decide)
  unfold Lib.itoa at h
  split at h <;> split at h
  · have := dec_inj _ _ (List.cons.inj h).2
    omega
  · exact absurd h.symm (hx _ _)
  · exact absurd h (hx _ _)
  · have := dec_inj _ _ h
    omega
/-- texts without the separator, none empty: joined alike only if alike -/
theorem join_inj : ∀ (xs ys : List (List UInt8)), (∀ x ∈ xs, ∀ b ∈ x, b ≠ 32) → (∀ y ∈ ys, ∀ b ∈ y, b ≠ 32) → (∀ x ∈ xs, x ≠ []) → (∀ y ∈ ys, y ≠ []) → Lib.join xs [32] = Lib.join ys [32] → xs = ys := by
  have key : ∀ (x y r s : List UInt8), (∀ b ∈ x, b ≠ 32) → (∀ b ∈ y, b ≠ 32) → (r = [] ∨ r.head? = some 32) → (s = [] ∨ s.head? = some 32) → x ++ r = y ++ s → x = y ∧ r = s := by
    intro x
    induction x with
    | nil =>
      intro y r s _ hy hr _ h
      cases y with
      | nil => exact ⟨rfl, by simpa using h⟩
      | cons b y =>
        exfalso
        rcases hr with rfl | hr
        · simp at h
        · simp only [List.nil_append, List.cons_append] at h
          rw [h] at hr
          exact hy b List.mem_cons_self (by simpa using hr)
    | cons a x ih =>
      intro y r s hx hy hr hs h
      cases y with
      | nil =>
        exfalso
        rcases hs with rfl | hs
        · simp at h
        · simp only [List.nil_append, List.cons_append] at h
          rw [← h] at hs
          exact hx a List.mem_cons_self (by simpa using hs)
      | cons b y =>
        simp only [List.cons_append, List.cons.injEq] at h
        obtain ⟨rfl, h⟩ := h
        obtain ⟨e1, e2⟩ := ih y r s (fun c hc => hx c (List.mem_cons_of_mem _ hc)) (fun c hc => hy c (List.mem_cons_of_mem _ hc)) hr hs h
        exact ⟨by rw [e1], e2⟩
  have tl : ∀ r : List (List UInt8), Lib.joinTail [32] r = [] ∨ (Lib.joinTail [32] r).head? = some 32 := fun r => by
    cases r with
    | nil => left; rfl
    | cons a r => right; rfl
  have tk : ∀ (a : List UInt8) (r : List (List UInt8)), Lib.joinTail [32] (a :: r) = 32 :: Lib.join (a :: r) [32] := fun a r => by rw [Lib.join_cons]; rfl
  intro xs
  induction xs with
  | nil =>
    intro ys _ _ _ hy h
    cases ys with
    | nil => rfl
    | cons y s =>
      exfalso
      rw [Lib.join_nil, Lib.join_cons] at h
      have : y = [] := by
        have := congrArg List.length h
        rw [List.length_append, List.length_nil] at this
        exact List.eq_nil_of_length_eq_zero (by omega)
      exact hy y List.mem_cons_self this
  | cons x r ih =>
    intro ys hx hy hxn hyn h
    cases ys with
    | nil =>
      exfalso
      rw [Lib.join_nil, Lib.join_cons] at h
      have : x = [] := by
        have := congrArg List.length h
        rw [List.length_append, List.length_nil] at this
        exact List.eq_nil_of_length_eq_zero (by omega)
      exact hxn x List.mem_cons_self this
    | cons y s =>
      rw [Lib.join_cons, Lib.join_cons] at h
      obtain ⟨rfl, h2⟩ := key x y _ _ (hx x List.mem_cons_self) (hy y List.mem_cons_self) (tl r) (tl s) h
      cases r with
      | nil =>
        cases s with
        | nil => rfl
        | cons b s => rw [tk] at h2; cases h2
      | cons a r =>
        cases s with
        | nil => rw [tk] at h2; cases h2
        | cons b s =>
          rw [tk, tk] at h2
          rw [ih (b :: s) (fun c hc => hx c (List.mem_cons_of_mem _ hc)) (fun c hc => hy c (List.mem_cons_of_mem _ hc)) (fun c hc => hxn c (List.mem_cons_of_mem _ hc)) (fun c hc => hyn c (List.mem_cons_of_mem _ hc)) (List.cons.inj h2).2]
theorem numL_inj {xs ys : List Int} (h : numL xs = numL ys) : xs = ys := by
  have hb : ∀ zs : List Int, ∀ x ∈ zs.map Lib.itoa, ∀ b ∈ x, b ≠ 32 := fun zs x hx => by
    obtain ⟨n, _, rfl⟩ := List.mem_map.1 hx
    exact itoa_byte n
  have hn : ∀ zs : List Int, ∀ x ∈ zs.map Lib.itoa, x ≠ [] := fun zs x hx => by
    obtain ⟨n, _, rfl⟩ := List.mem_map.1 hx
    exact itoa_ne n
  have h1 := join_inj _ _ (hb xs) (hb ys) (hn xs) (hn ys) h
  clear h
  induction xs generalizing ys with
  | nil => cases ys with
    | nil => rfl
    | cons y s => cases h1
  | cons x r ih => cases ys with
    | nil => cases h1
    | cons y s =>
      simp only [List.map_cons, List.cons.injEq] at h1
      rw [itoa_inj h1.1, ih h1.2]
theorem numL_dash (xs : List Int) : numL xs ≠ [45] := by
  intro h
  cases xs with
  | nil => cases h
  | cons x r =>
    unfold numL at h
    rw [List.map_cons, Lib.join_cons] at h
    have h0 := itoa_ne x
    have h1 : Lib.itoa x = [45] := by
      cases hi : Lib.itoa x with
      | nil => exact absurd hi h0
      | cons a t =>
        rw [hi] at h
        simp only [List.cons_append, List.cons.injEq, List.append_eq_nil_iff] at h
        rw [h.1, h.2.1]
    unfold Lib.itoa at h1
    have hp : ∀ u, (Lib.decDigits u).length = Lib.nDigits u := Lib.decDigits_length
    split at h1
    · have h2 := (List.cons.inj h1).2
      have := congrArg List.length h2
      rw [hp] at this
      have := Lib.nDigits_pos x.natAbs
      simp at *; omega
    · have := dec_digit x.toNat 45 (by rw [h1]; exact List.mem_cons_self)
      exact absurd this.1 (by decide)
theorem numB_inj {xs ys : List Int} (h : numB xs = numB ys) : xs = ys := by
  have hd : ∀ l m : List UInt8, (⟨l.toArray⟩ : ByteArray) = ⟨m.toArray⟩ → l = m := fun l m e => by
    have := congrArg (fun b : ByteArray => b.data.toList) e
    simpa using this
  by_cases hx : xs = [] <;> by_cases hy : ys = []
  · rw [hx, hy]
  · rw [numB_none hx, numB_some hy] at h
    exact absurd (hd [45] _ h).symm (numL_dash ys)
  · rw [numB_some hx, numB_none hy] at h
    exact absurd (hd _ [45] h) (numL_dash xs)
  · rw [numB_some hx, numB_some hy] at h
    exact numL_inj (hd _ _ h)
end Go.PG
