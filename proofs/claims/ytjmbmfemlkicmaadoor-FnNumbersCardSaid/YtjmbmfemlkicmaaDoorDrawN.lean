import Derived.Test.YtjmbmfemlkicmaaDoorNuS
import Derived.Test.YtjmbmfemlkicmaaDoorDraw2
namespace Go.PG
open Go.RowKit Go.PM
def numOkV : Value → Bool
  | .int .i64 x => decide (-9223372036854775808 ≤ x) && decide (x ≤ 9223372036854775807)
  | _ => false
theorem Lits.nums (w : World) (t : TypeId) (cs : Array Value) (h : cs.toList.all numOkV = true) : Lits (w.alloc (.cells cs t)) w.heap.size cs.size (fun u => ∃ x, u = .int .i64 x ∧ i64ok x) :=
  Lits.new w t cs _ fun u hu => by
    have h2 := List.all_eq_true.1 h u hu
    unfold numOkV at h2
    split at h2
    · rw [Bool.and_eq_true, decide_eq_true_eq, decide_eq_true_eq] at h2
      exact ⟨_, rfl, h2⟩
    · cases h2
theorem own_blk_lt {w : World} {base n : Nat} {e : TypeId} {s : Nat} {v : Value} {cs : List Value} (h : w.ownsRow base e s v n cs) : ∀ g, v.ownBlock = some g → base ≤ g ∧ g < w.heap.size := by
  intro g hg
  rcases h.2 with ⟨rfl, _⟩ | ⟨g', cap, cur, rfl, hb, hh, _⟩
  · cases hg
  · cases hg
    exact ⟨hb, (Array.getElem?_eq_some_iff.1 hh).1⟩
end Go.PG
namespace Go.Proofs.YtjmbmfemlkicmaaDoor
open Go.RowKit Go.PM Go.PG
theorem infoInD : (Tryd.prog.info? 3).map (fun i => (i.zero, i.size, i.bytes)) = some (some (.int .i64 0), 1, 8) := by kernel_rfl
theorem app_int {ops : Array Oper} {rest : List Oper} {o : Oper} {a : Act} {Q : Exit → Act → World → Prop} {w : World} (hgd : o.guard = none) (s x : Operand)
    (ho : o.op = .call { callee := .builtin .append, args := #[s, x], argTypes := #[23, 23] })
    (base : Nat) (v : Value) (ys : List Int) (m : Int) (ad : Addr) (c : Nat) (hs : a.eval s = v) (hx : a.eval x = .slice (some ad) 1 c)
    (hown : w.ownsRow base 3 1 v ys.length (icells ys)) (hnew : ∀ j u, [Value.int .i64 m][j]? = some u → w.cell? (ad.add j) = some u)
    (hlen : ys.length ≤ 1048576) (hbase : base ≤ w.heap.size)
    (h : ∀ v' w', w'.ownsRow base 3 1 v' (ys ++ [m]).length (icells (ys ++ [m])) → w.grownBy w' v.ownBlock → wpList Tryd.prog ops Q rest (a.put o.dst v') w') : wpList Tryd.prog ops Q (o :: rest) a w := by
  obtain ⟨i0, hi0, hz0, hz1, hz2⟩ := info_parts infoInD
  refine wpList_append_own w hgd s x _ ho base 3 i0 _ 1 8 Tryd.underlying23 hi0 hz0 hz1 hz2 rfl (by omega) v ys.length (icells ys) hs hown ad 1 c [Value.int .i64 m] hx rfl hnew
    (by intro u hu; simp at hu; subst hu; rfl) (by simp only [maxLen]; omega) (by omega) hbase ?_
  intro v' w' h2 h3 _
  refine h v' w' ?_ h3
  rw [icells_append, List.length_append]
  simpa [icells] using h2
theorem num_new (W : World) (t : TypeId) (m : Int) (j : Nat) (u : Value) (hj : [Value.int .i64 m][j]? = some u) : (W.alloc (.cells #[.int .i64 m] t)).cell? ((⟨W.heap.size, 0, none⟩ : Addr).add j) = some u := by
  cases j with
  | zero => cases hj; exact (At.new W t _).cell 0
  | succ j => cases hj
set_option maxRecDepth 100000 in
set_option maxHeartbeats 1600000 in
theorem drawFormatNumbers_c (w : World) (v : Value) (n : Nat) (hv : RdB w w.heap.size v n) :
    Calls Tryd.prog 5 #[v] w fun e w' => ∃ u xs, e = .returned u ∧ w'.ownsRow w.heap.size 3 1 u xs.length (icells xs) ∧ xs.length ≤ 5 ∧ (∀ m ∈ xs, i64ok m) ∧ Below w.heap.size w w' := by
  have HO := Lib.hid (l13Open_c w v n hv)
  go_enter Tryd.func5, Tryd.ntmps5
  go_wp2_with fail
  refine HO.out.mono ?_
  rintro e w1 ⟨r, rfl, R1, b1⟩
  have hs1 := b1.size
  have hB := R1.1
  have hr1 : r < w1.heap.size := by obtain ⟨_, _, v, n, _, _, h⟩ := R1; exact h.lt
  have E0 := World.ownsRow_lit (e := 3) (base := w1.heap.size) (size := 1) w1 #[] 0 (Nat.le_refl _) (Nat.zero_le _) rfl
  have R2 := R1.keep ((Below.refl _ _).alloc (Nat.le_refl _) (.cells #[] 3))
  have b2 : Below w.heap.size w (w1.alloc (.cells #[] 3)) := b1.alloc hs1 _
  have hs2 := b2.size
  have HP := Lib.hid (pick_c (w1.alloc (.cells #[] 3)) _ r 5 0 R2 (by omega) (by omega) (by omega))
  clear HO R1
  go_wp2_with fail
  refine HP.out.mono ?_
  rintro e w3 ⟨k, rfl, k0, k1, R3, g3⟩
  obtain ⟨K, rfl⟩ := Int.eq_ofNat_of_zero_le k0
  have b3 : Below w.heap.size w w3 := b2.trans (below_grown g3 hs2 (fun g e => by cases e; exact hB))
  have E3 := own_grown E0 g3 (.inl (fun e => by have := own_block_ge E0 r e; omega))
  have hs3 : w1.heap.size ≤ w3.heap.size := by have := g3.size; simp at this; omega
  obtain ⟨q0, R4, hq0⟩ : ∃ q, Rdr w3 38 w.heap.size r q ∧ q ≤ 1 := ⟨_, R3, by omega⟩
  clear HP E0 g3 R2 R3 b1 b2 hs2
  generalize w1.heap.size = B1 at *
  go_wp2
  go_loopw [4, 10] (fun o i wr => ∃ (k : Nat) (xs : List Int) (q : Int), k ≤ K ∧ i = .int .i64 k ∧ Hid (xs.length = k) ∧ Hid (∀ m ∈ xs, i64ok m) ∧ wr.ownsRow B1 3 1 o xs.length (icells xs) ∧ Rdr wr 38 w.heap.size r q ∧ q ≤ k + 1 ∧ B1 ≤ wr.heap.size ∧ Below w.heap.size w wr) (fun _ i _ => K - (intOf i).toNat)
  case atStart => exact ⟨0, [], q0, by omega, rfl, rfl, (fun m hm => by cases hm), E3, R4, by omega, hs3, b3⟩
  case round =>
    clear E3 R4 b3 hs3
    obtain ⟨k, xs, q, hk, rfl, HK, hok, ho, R, hq, hsB, b⟩ := hrel
    have hbs := b.size
    by_cases hlt : k < K
    · have i1 : (k : Int) < (K : Int) := by omega
      have hrw : r < wr.heap.size := by omega
      go_wp2_with fail
      have L7 := Lits.nums wr 3 #[.int .i64 0, .int .i64 1, .int .i64 (-1), .int .i64 12, .int .i64 3, .int .i64 (-9223372036854775808), .int .i64 255] (by rfl)
      refine (num_c _ w.heap.size r wr.heap.size 7 q i64ok (R.keep ((Below.refl _ _).alloc (Nat.le_refl _) _)) (by decide) (by decide) (by omega) L7 (by omega)).mono ?_
      clear L7
      rintro e w4 ⟨x, rfl, hx, R4, g4⟩
      have E4 := own_grown (own_keep ho ((Below.refl _ _).alloc (Nat.le_refl _) (.cells #[.int .i64 0, .int .i64 1, .int .i64 (-1), .int .i64 12, .int .i64 3, .int .i64 (-9223372036854775808), .int .i64 255] 3))) g4 (.inl (fun e => by have := own_block_ge ho r e; omega))
      have b4 : Below w.heap.size w w4 := (b.alloc hbs _).trans (below_grown g4 (by simp; omega) (fun g e => by cases e; exact hB))
      have hb4 := b4.size
      have hsB4 : B1 ≤ w4.heap.size := by have := g4.size; simp at this; omega
      have HXA : Hid (∀ m ∈ xs ++ [x], i64ok m) := fun m hm => by
        rcases List.mem_append.1 hm with h | h
        · exact hok.out m h
        · have e : m = x := by simpa using h
          rw [e]; exact hx
      have hnw := num_new w4 3 x
      have hl5 : xs.length ≤ 1048576 := by have := HK.out; omega
      clear hx g4 R ho b hok
      go_wp2_with (at_builtin; refine held ?_)
      unfold Held
      refine app_int rfl (.tmp 12) (.tmp 16) rfl B1 u4 xs x ⟨w4.heap.size, 0, none⟩ 1 (by rfl) (by rfl) (own_keep E4 ((Below.refl _ _).alloc (Nat.le_refl _) _)) hnw (by omega) (by simp; omega) ?_
      intro v' w6 hown6 hgrow6
      have R6 := (R4.keep ((Below.refl _ _).alloc (Nat.le_refl _) (.cells #[.int .i64 x] 3))).grow hgrow6 (fun g e => by have := own_block_ge E4 g e; omega)
      have b6 := (b4.alloc hb4 (.cells #[.int .i64 x] 3)).trans (below_grown hgrow6 (by simp; omega) (fun g e => by have := own_block_ge E4 g e; omega))
      have hs6 : B1 ≤ w6.heap.size := by have := hgrow6.size; simp at this; omega
      have HLN : Hid ((xs ++ [x]).length = k + 1) := by show _ = _; rw [List.length_append, List.length_singleton, HK.out]
      go_wp2
      go_roundw
      case rel => exact ⟨k + 1, xs ++ [x], _, by omega, by go_num, HLN, HXA, hown6, R6, by omega, hs6, b6⟩
      case measure => simp [intOf]; omega
    · have i1 : ¬ (k : Int) < (K : Int) := by omega
      have hl5 : xs.length ≤ 5 := by have := HK.out; omega
      have ho2 := own_more ho (show w.heap.size ≤ B1 by omega)
      go_wp2
      go_ret
      exact ⟨_, rfl, xs, ho2, hl5, hok.out, b⟩
end Go.Proofs.YtjmbmfemlkicmaaDoor
