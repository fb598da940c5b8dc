import Derived.Test.YtmifmfljiaoeaabWheelP
import Derived.Test.YtmifmfljiaoeaabWay
import Derived.Test.YtmifmfljiaoeaabNamesIn
namespace Go.PW
open Go.PM
variable {f : Nat → ByteArray}
theorem namesW_txt (h : Nat → Bool) : namesW h = txt ((List.range 9).filter h) := by
  unfold namesW namesL txt
  congr 2
  refine List.map_congr_left fun p hp => ?_
  have hp9 : p < 9 := by simpa using (List.mem_filter.1 hp).1
  match p, hp9 with
  | 0, _ | 1, _ | 2, _ | 3, _ | 4, _ | 5, _ | 6, _ | 7, _ | 8, _ => rfl
/-- the places next to a place -/
def nbL (f : Nat → ByteArray) (q : Nat) : List Nat := (List.range 9).filter (rdH f (sn q)) ++ (if sx f q < 9 then [sx f q] else [])
theorem nbL_lt (q : Nat) : ∀ e ∈ nbL f q, e < 9 := by
  intro e he
  unfold nbL at he
  rw [List.mem_append] at he
  rcases he with he | he
  · simpa using (List.mem_filter.1 he).1
  · by_cases h : sx f q < 9
    · rw [if_pos h] at he; simp at he; omega
    · rw [if_neg h] at he; cases he
theorem nbL_len (q : Nat) : (nbL f q).length ≤ 10 := by
  unfold nbL
  rw [List.length_append]
  have h1 := List.length_filter_le (rdH f (sn q)) (List.range 9)
  by_cases h : sx f q < 9
  · rw [if_pos h]; simp at h1 ⊢; omega
  · rw [if_neg h]; simp at h1 ⊢; omega
theorem rdH_sx (hf : SV f) {q r : Nat} (hq : q < 19) (hr : r < 9) : rdH f (sn q) r = true ↔ r ≠ q ∧ sx f r = q := by
  unfold rdH
  rw [← (sx_lt hf hr).2, ← sn_nm r hr, Bool.and_eq_true, decide_eq_true_eq, decide_eq_true_eq]
  constructor
  · rintro ⟨h1, h2⟩
    exact ⟨fun e => h1 (by rw [e]), sn_inj (sx_lt hf hr).1 hq h2⟩
  · rintro ⟨h1, h2⟩
    exact ⟨fun e => h1 (sn_inj (by omega) hq e), by rw [h2]⟩
theorem nbL_hd (hf : SV f) {q : Nat} (hq : q < 9) : ∀ e ∈ nbL f q, hdF f 9 e = hdF f 9 q := by
  intro e he
  have he9 := nbL_lt q e he
  unfold nbL at he
  rw [List.mem_append] at he
  rcases he with he | he
  · have h := (rdH_sx hf (show q < 19 by omega) he9).1 (List.mem_filter.1 he).2
    have := hd_edge (f := f) 9 e he9 (by rw [h.2]; exact hq)
    rw [this, h.2]
  · by_cases h : sx f q < 9
    · rw [if_pos h] at he
      simp at he
      subst he
      exact (hd_edge (f := f) 9 q hq h).symm
    · rw [if_neg h] at he; cases he
/-- what the inner walk has made of l -/
structure Part (f : Nat → ByteArray) (p : Nat) (l m : List Nat) : Prop where
  pre : l <+: m
  nodup : m.Nodup
  lt : ∀ q ∈ m, q < 9
  in_ : ∀ q ∈ m, hdF f 9 q = hdF f 9 p
theorem Comp.part {p : Nat} {l : List Nat} {i : Nat} (h : Comp f p l i) : Part f p l l := ⟨List.prefix_refl _, h.nodup, h.lt, h.in_⟩
theorem Part.add {p : Nat} {l m : List Nat} {e : Nat} (h : Part f p l m) (he : e < 9) (hh : hdF f 9 e = hdF f 9 p) (hm : e ∉ m) : Part f p l (m ++ [e]) := by
  refine ⟨h.pre.trans (List.prefix_append _ _), ?_, fun q hq => ?_, fun q hq => ?_⟩
  · rw [List.nodup_append]
    exact ⟨h.nodup, by simp, fun a ha b hb e2 => by simp at hb; subst hb; subst e2; exact hm ha⟩
  · rw [List.mem_append] at hq
    rcases hq with hq | hq
    · exact h.lt q hq
    · simp at hq; omega
  · rw [List.mem_append] at hq
    rcases hq with hq | hq
    · exact h.in_ q hq
    · simp at hq; rw [hq]; exact hh
theorem Part.len {p : Nat} {l m : List Nat} (h : Part f p l m) : m.length ≤ 9 := nodup_le m 9 h.nodup h.lt
theorem Comp.start (f : Nat → ByteArray) {p : Nat} (hp : p < 9) : Comp f p [p] 0 :=
  ⟨by simp, fun q hq => by simp at hq; omega, by simp, fun q hq => by simp at hq; rw [hq], fun k q hk _ => by omega⟩
theorem Comp.next (hf : SV f) {p : Nat} {l m : List Nat} {i q : Nat} (h : Comp f p l i) (hq : l[i]? = some q) (hm : Part f p l m) (hn : ∀ e ∈ nbL f q, e ∈ m) : Comp f p m (i + 1) := by
  have hsub : ∀ x ∈ l, x ∈ m := fun x hx => hm.pre.subset hx
  refine ⟨hm.nodup, hm.lt, hsub p h.has, hm.in_, fun k x hk hx => ?_⟩
  obtain ⟨t, ht⟩ := hm.pre
  have hil := (List.getElem?_eq_some_iff.1 hq).1
  have hx2 : l[k]? = some x := by
    rw [← ht, List.getElem?_append_left (by omega)] at hx; exact hx
  by_cases hki : k = i
  · subst hki
    rw [hq] at hx2
    obtain rfl : q = x := Option.some.inj hx2
    have hqm : q ∈ m := hsub q (List.mem_of_getElem? hq)
    refine ⟨fun h9 => hn _ ?_, fun r hr he => ?_⟩
    · unfold nbL; rw [if_pos h9]; simp
    · by_cases e : r = q
      · rw [e]; exact hqm
      · refine hn r ?_
        unfold nbL
        rw [List.mem_append]
        left
        have hx9 := hm.lt q hqm
        exact List.mem_filter.2 ⟨by simpa using hr, (rdH_sx hf (by omega) hr).2 ⟨e, he⟩⟩
  · have := h.out k x (by omega) hx2
    exact ⟨fun h9 => hsub _ (this.1 h9), fun r hr he => hsub _ (this.2 r hr he)⟩
theorem wheel_all {p : Nat} {l : List Nat} (h : Comp f p l l.length) : (List.range 9).filter (fun q => decide (q ∈ l)) = wheelL f p := by
  unfold wheelL
  refine List.filter_congr fun q hq => ?_
  have hq9 : q < 9 := by simpa using hq
  unfold wheelH
  rw [decide_eq_decide]
  exact h.all q hq9
end Go.PW
namespace Go.Proofs.Ytmifmfljiaoeaab
open Go.RowKit Go.PM Go.PW Go.Lib

set_option maxRecDepth 100000 in
set_option maxHeartbeats 1000000 in
theorem l3Sorted_c (l : List Nat) (hl : ∀ a ∈ l, a < 9) (hz : l.length ≤ 100) (w : World) :
    Calls Try.prog 123 #[.string (txt l)] w fun e w' => e = .returned (.string (txt ((List.range 9).filter fun q => decide (q ∈ l)))) ∧ w = w' := by
  have HN : Hid (∀ q, q < 9 → (ByteArray.mk #[97, 98, 99, 100, 101, 102, 65, 66, 67]).extract q (q+1) = sn q) := by
    show ∀ q, _
    intro q hq
    match q, hq with
    | 0, _ | 1, _ | 2, _ | 3, _ | 4, _ | 5, _ | 6, _ | 7, _ | 8, _ => decide +kernel
  have HI : Hid (∀ q (hq : q < 9) (h : q < (ByteArray.mk #[97, 98, 99, 100, 101, 102, 65, 66, 67]).size), (ByteArray.mk #[97, 98, 99, 100, 101, 102, 65, 66, 67])[q] = ch q) := by
    show ∀ q, _
    intro q hq h
    match q, hq with
    | 0, _ | 1, _ | 2, _ | 3, _ | 4, _ | 5, _ | 6, _ | 7, _ | 8, _ => rfl
  have HM := Lib.hid (fun k (hk : k < 9) => txt_mem (fun a ha => by have := hl a ha; omega) (show k < 19 by omega))
  have hsz := txt_size l
  have hsz2 : (txt l).size ≤ 9223372036854775807 := by omega
  have HF : Hid (∀ k, (List.range (k + 1)).filter (fun q => decide (q ∈ l)) = (List.range k).filter (fun q => decide (q ∈ l)) ++ (if k ∈ l then [k] else [])) := by
    show ∀ k, _
    intro k
    rw [List.range_succ, List.filter_append]
    by_cases h : k ∈ l <;> simp [h]
  have HLE : Hid (∀ k, ((List.range k).filter (fun q => decide (q ∈ l))).length ≤ k) := fun k => by
    have := List.length_filter_le (fun q => decide (q ∈ l)) (List.range k)
    simpa using this
  generalize htx : txt l = t at *
  clear htx
  go_enter Try.func123, Try.ntmps123
  go_wp2
  go_loop [3, 4, 5] (fun o _ i => ∃ (k : Nat), k ≤ 9 ∧ i = .int .i64 k ∧ o = .string (txt ((List.range k).filter (fun q => decide (q ∈ l))))) (fun _ _ i => 9 - (RowKit.intOf i).toNat)
  case atStart => exact ⟨0, by omega, rfl, rfl⟩
  case round =>
    obtain ⟨k, hk, rfl, rfl⟩ := hrel
    by_cases hlt : k < 9
    · have hex := HN.out k hlt
      have hix := HI.out k hlt
      have hm := HM.out k hlt
      have hle := HLE.out k
      have hoz := txt_size ((List.range k).filter (fun q => decide (q ∈ l)))
      have hone : (sn k).size = 1 := rfl
      have HFK := Lib.hid (HF.out k)
      have HTS := Lib.hid (txt_snoc ((List.range k).filter (fun q => decide (q ∈ l))) k)
      generalize hflt : (List.range k).filter (fun q => decide (q ∈ l)) = fl at *
      generalize htf : txt fl = tf at *
      by_cases hin : k ∈ l
      · have hi0 : (0 : Int) ≤ indexByte t.data.toList (ch k) := (indexByte_mem _ _).2 (hm.2 hin)
        have HR : Hid (txt ((List.range (k + 1)).filter (fun q => decide (q ∈ l))) = tf ++ sn k) := by show _ = _; rw [HFK.out, if_pos hin]; exact HTS.out
        clear hm hin
        generalize ch k = c at *
        go_wp2_with (go_at_call 64; refine (l13Find_c t c _ hsz2).mono ?_; rintro e w' ⟨rfl, rfl⟩)
        go_round
        case rel => exact ⟨k + 1, by omega, by go_num, by rw [HR.out]⟩
        case measure => simp [RowKit.intOf]; omega
      · have hi0 : ¬ (0 : Int) ≤ indexByte t.data.toList (ch k) := fun h => hin (hm.1 ((indexByte_mem _ _).1 h))
        have HR : Hid (txt ((List.range (k + 1)).filter (fun q => decide (q ∈ l))) = tf) := by show _ = _; rw [HFK.out, if_neg hin, List.append_nil]; exact htf
        clear hm hin
        generalize ch k = c at *
        go_wp2_with (go_at_call 64; refine (l13Find_c t c _ hsz2).mono ?_; rintro e w' ⟨rfl, rfl⟩)
        go_round
        case rel => exact ⟨k + 1, by omega, by go_num, by rw [HR.out]⟩
        case measure => simp [RowKit.intOf]; omega
    · have hk9 : k = 9 := by omega
      subst hk9
      go_wp2
      go_ret
      exact ⟨rfl, rfl⟩
end Go.Proofs.Ytmifmfljiaoeaab
