import Derived.Test.YtnhncbhhlbcieaaGreatDrawS
import Derived.Test.YtnhncbhhlbcieaaGreatP2
import Derived.Test.YtnhncbhhlbcieaaGreatColl
import Derived.Test.YtnhncbhhlbcieaaGreatCopy
namespace Go.PM
open Go.RowKit
def strOkC (n : Nat) : Value → Bool
  | .string s => decide (1 ≤ s.size) && decide (s.size ≤ n) && (List.range s.size).all fun J => isC (s.extract J (J + 1))
  | _ => false
theorem Lits.strsC (w : World) (t : TypeId) (cs : Array Value) (n : Nat) (h : cs.toList.all (strOkC n) = true) : Lits (w.alloc (.cells cs t)) w.heap.size cs.size (fun u => ∃ s, u = .string s ∧ 1 ≤ s.size ∧ s.size ≤ n ∧ ∀ J, J < s.size → isC (s.extract J (J + 1)) = true) :=
  Lits.new w t cs _ fun u hu => by
    have h2 := List.all_eq_true.1 h u hu
    unfold strOkC at h2
    split at h2
    · rw [Bool.and_eq_true, Bool.and_eq_true, decide_eq_true_eq, decide_eq_true_eq, List.all_eq_true] at h2
      exact ⟨_, rfl, h2.1.1, h2.1.2, fun J hJ => h2.2 J (List.mem_range.2 hJ)⟩
    · cases h2
/-- the digits, and their texts -/
def dg (n : Nat) : ByteArray := ⟨#[UInt8.ofNat (48 + n)]⟩
theorem dg_isD {n : Nat} (h : n < 10) : isD (dg n) = true := by
  match n, h with
  | 0, _ | 1, _ | 2, _ | 3, _ | 4, _ | 5, _ | 6, _ | 7, _ | 8, _ | 9, _ => decide +kernel
theorem own_take {w : World} {base n k : Nat} {e : TypeId} {A : Option Addr} {cap : Nat} {xs : List St} (h : w.ownsRow base e 3 (.slice A n cap) xs.length (scells xs)) (hk : k ≤ xs.length) : w.ownsRow base e 3 (.slice A k cap) k (scells (xs.take k)) := by
  have hs : (scells (xs.take k)).length = k * 3 := by rw [scells_length, List.length_take, Nat.min_eq_left hk]
  refine ⟨hs, ?_⟩
  rcases h.2 with ⟨e1, e2⟩ | ⟨g, cap', cur, e1, h1, h2, h3, h4, h5, h6⟩
  · cases e1
    left
    refine ⟨?_, by omega⟩
    rw [show k = 0 by omega]
  · cases e1
    right
    refine ⟨g, _, cur, rfl, h1, h2, by omega, h4, h5, ?_⟩
    have e3 : scells xs = scells (xs.take k) ++ scells (xs.drop k) := by rw [← scells_append, List.take_append_drop]
    have e2 : scells (xs.take k) = (scells xs).take (k * 3) := by
      rw [e3]; exact (List.take_left' hs).symm
    rw [e2, ← h6, List.take_take, Nat.min_eq_left (by omega)]
def shS (m : Nat) (xs : List St) : Prop := xs.length ≤ m ∧ ∀ x ∈ xs, x.2.1.size ≤ 64 ∧ x.2.2.size ≤ 64
def okL (xs : List St) : Prop := ∀ x ∈ xs, stOk x = true
theorem okL_sh {m : Nat} {xs : List St} (h : okL xs) (hl : xs.length ≤ m) : shS m xs := by
  refine ⟨hl, fun x hx => ?_⟩
  have h1 := h x hx
  unfold stOk at h1
  rw [Bool.or_eq_true] at h1
  rcases h1 with h1 | h1
  · simp only [Bool.and_eq_true, Bool.or_eq_true] at h1
    have a := isC_size h1.2.1
    rcases h1.2.2 with h2 | h2
    · have b := isC_size h2; omega
    · have b := isD_size h2; omega
  · simp only [Bool.and_eq_true] at h1
    have a := isC_size h1.2.1
    have b := isC_size h1.2.2
    omega
theorem three_at {w : World} {g : Nat} {t : TypeId} {x y z : Value} (h : At w g t #[x, y, z]) : w.cell? ⟨g, 0, none⟩ = some x ∧ w.cell? ⟨g, 1, none⟩ = some y ∧ w.cell? ⟨g, 2, none⟩ = some z := ⟨h.cell 0, h.cell 1, h.cell 2⟩
end Go.PM
namespace Go.Proofs.YtnhncbhhlbcieaaGreat
open Go.RowKit Go.PM
attribute [local go_sem] Oper.semAt_some

set_option maxRecDepth 100000 in
set_option maxHeartbeats 1600000 in
theorem l13Dec_c (n : Nat) (hn : n < 10) (w : World) :
    Calls Tryz.prog 81 #[.int .i64 n] w fun e w' => e = .returned (.string (dg n)) ∧ Below w.heap.size w w' := by
  have HG : Hid (dg n = ⟨#[UInt8.ofNat (48 + n)]⟩) := rfl
  have n1 : ¬ (n : Int) < -9223372036854775807 := by omega
  have n2 : ¬ (n : Int) < 0 := by omega
  have n3 : ¬ (n : Int) > 9 := by omega
  have e1 : decide ((n : Int) < -9223372036854775807) = false := decide_eq_false n1
  have e2 : decide ((n : Int) < 0) = false := decide_eq_false n2
  have e3 : decide ((n : Int) > 9) = false := decide_eq_false n3
  have hcv : ∀ W b, At W b 5 #[.int .u8 (48 + (n : Int))] → (convert 22 9 (.slice (some ⟨b, 0, none⟩) 1 1)).run Tryz.prog W = .ok (.string (dg n)) W := fun W b hW => by
    rw [run_convert_bytes_string _ _ _ _ _ _ _ Tryz.underlying22 Tryz.underlying5 Tryz.underlying9]
    have hl : (loadCells ⟨b, 0, none⟩ 1).run Tryz.prog W = .ok ([48 + (n : Int)].map (Value.int .u8)).toArray W :=
      run_loadCells_list (P := Tryz.prog) W ⟨b, 0, none⟩ [.int .u8 (48 + (n : Int))] (fun j v hj => by
        have hadd : (⟨b, 0, none⟩ : Addr).add j = ⟨b, j, none⟩ := by unfold Addr.add; split <;> simp_all
        rw [hadd, hW.cell]
        simpa using hj)
    rw [run_bytesToString (ns := [48 + (n : Int)]) _ _ _ _ hl]
    have e0 : (48 + (n : Int)).toNat = 48 + n := by omega
    simp [HG.out, e0]
    rfl
  go_enter Tryz.func81, Tryz.ntmps81
  go_wp2
  go_loopw [0, 3] (fun a o wr => a = .int .i64 n ∧ o = .string ⟨#[]⟩ ∧ wr = w) (fun _ _ _ => 0)
  case atStart => exact ⟨rfl, rfl, rfl⟩
  case round =>
    obtain ⟨rfl, rfl, rfl⟩ := hrel
    have hcw := hcv (wr.alloc (.cells #[.int .u8 (48 + (n : Int))] 5)) wr.heap.size (At.new _ _ _)
    have hz : (dg n).size = 1 := rfl
    clear hcv
    have hd : dg n = dg n := rfl
    generalize hdd : dg n = d at hcw hz
    have HDD := Lib.hid hdd
    clear hd hdd HG
    go_wp2
    go_ret
    exact ⟨by rw [HDD.out]; exact congrArg (fun t => Ending.returned (.string t)) (by apply ByteArray.ext; rw [ByteArray.data_append]; simp), by (repeat' (first | (with_reducible exact Below.refl _ _) | (with_reducible assumption) | (with_reducible refine Below.alloc ?_ ?_ _) | (with_reducible refine Below.drew ?_) | (with_reducible refine Below.setCell ?_ ?_ _) | (with_reducible exact Nat.le_refl _) | omega | ((repeat (first | rewrite [World.size_alloc] | rewrite [World.size_setCell] | rewrite [World.size_drew])); omega) | (simp; omega) | (simp; done)))⟩
theorem infoSt2 : (Tryz.prog.info? 58).map (fun i => (i.zero, i.size, i.bytes)) = some (some (.agg #[.int .i64 0, .string ⟨#[]⟩, .string ⟨#[]⟩]), 3, 40) := by kernel_rfl
theorem app_st {ops : Array Oper} {rest : List Oper} {o : Oper} {a : Act} {Q : Exit → Act → World → Prop} {w : World} (hgd : o.guard = none) (s x : Operand)
    (ho : o.op = .call { callee := .builtin .append, args := #[s, x], argTypes := #[23, 23] })
    (base : Nat) (v : Value) (ys : List St) (m : St) (ad : Addr) (c : Nat) (hs : a.eval s = v) (hx : a.eval x = .slice (some ad) 1 c)
    (hown : w.ownsRow base 58 3 v ys.length (scells ys)) (hnew : ∀ j u, [Value.int .i64 m.1, Value.string m.2.1, Value.string m.2.2][j]? = some u → w.cell? (ad.add j) = some u)
    (hlen : ys.length ≤ 1048576) (hbase : base ≤ w.heap.size)
    (h : ∀ v' w', w'.ownsRow base 58 3 v' (ys ++ [m]).length (scells (ys ++ [m])) → w.grownBy w' v.ownBlock → wpList Tryz.prog ops Q rest (a.put o.dst v') w') : wpList Tryz.prog ops Q (o :: rest) a w := by
  obtain ⟨i0, hi0, hz0, hz1, hz2⟩ := info_parts infoSt2
  refine wpList_append_own w hgd s x _ ho base 58 i0 _ 3 40 Tryz.underlying23 hi0 hz0 hz1 hz2 rfl (by omega) v ys.length (scells ys) hs hown ad 1 c [Value.int .i64 m.1, Value.string m.2.1, Value.string m.2.2] hx rfl hnew
    (by intro u hu; simp at hu; rcases hu with rfl | rfl | rfl <;> rfl) (by simp only [maxLen]; omega) (by omega) hbase ?_
  intro v' w' h2 h3 _
  refine h v' w' ?_ h3
  have hcs : scells ys ++ [Value.int .i64 m.1, Value.string m.2.1, Value.string m.2.2] = scells (ys ++ [m]) := by rw [scells_append]; simp [scells]
  rw [← hcs, List.length_append]
  simpa using h2
theorem own_block_lt {w : World} {base n : Nat} {e : TypeId} {s : Nat} {v : Value} {cs : List Value} (h : w.ownsRow base e s v n cs) : ∀ g, v.ownBlock = some g → g < w.heap.size := by
  intro g hg
  rcases h.2 with ⟨rfl, _⟩ | ⟨g', cap, cur, rfl, _, hh, _⟩
  · cases hg
  · cases hg
    exact (Array.getElem?_eq_some_iff.1 hh).1
/-- a step in a block of its own, and what is known of the rest -/
def StepIn (w W : World) (sb B r : Nat) (u3 : Value) (xs : List St) (q : Int) (y : Int) (a b : ByteArray) : Prop :=
  At W sb 58 #[.int .i64 y, .string a, .string b] ∧ Rdr W 77 B r q ∧ W.ownsRow w.heap.size 58 3 u3 xs.length (scells xs) ∧ w.grownBy W (some r) ∧ r < sb ∧ w.heap.size ≤ sb ∧ u3.ownBlock ≠ some sb
theorem stepIn_new {w w6 : World} {B r : Nat} {u3 : Value} {xs : List St} {q : Int} (y : Int) (a b : ByteArray) (h : Rdr w6 77 B r q ∧ w6.ownsRow w.heap.size 58 3 u3 xs.length (scells xs) ∧ w.grownBy w6 (some r)) :
    StepIn w (w6.alloc (.cells #[.int .i64 y, .string a, .string b] 58)) w6.heap.size B r u3 xs q y a b := by
  have hb : Below w6.heap.size w6 (w6.alloc (.cells #[.int .i64 y, .string a, .string b] 58)) := (Below.refl _ _).alloc (Nat.le_refl _) _
  exact ⟨At.new _ _ _, h.1.keep hb, own_keep h.2.1 hb, grown_trans h.2.2 (grown_below hb (some r)), by obtain ⟨_, _, v, n, _, _, h⟩ := h.1; exact h.lt, h.2.2.size, fun e => by have := own_block_lt h.2.1 _ e; omega⟩
theorem stepIn_set {w w6 : World} {sb B r : Nat} {u3 : Value} {xs : List St} {q y0 : Int} {a0 b0 : ByteArray} (y : Int) (a b : ByteArray) (h : StepIn w w6 sb B r u3 xs q y0 a0 b0) :
    StepIn w (((w6.setCell ⟨sb, 0, none⟩ (.int .i64 y)).setCell ⟨sb, 1, none⟩ (.string a)).setCell ⟨sb, 2, none⟩ (.string b)) sb B r u3 xs q y a b := by
  obtain ⟨h1, h2, h3, h4, h5, h6, h7⟩ := h
  have g1 := grown_set w6 sb 0 (.int .i64 y)
  have g2 := grown_set (w6.setCell ⟨sb, 0, none⟩ (.int .i64 y)) sb 1 (.string a)
  have g3 := grown_set ((w6.setCell ⟨sb, 0, none⟩ (.int .i64 y)).setCell ⟨sb, 1, none⟩ (.string a)) sb 2 (.string b)
  have g := grown_trans (grown_trans g1 g2) g3
  refine ⟨?_, h2.grow g (fun g e => by cases e; exact h5), own_grown h3 g (.inl h7), grown_over h4 g (fun g e => by cases e; exact h6), h5, h6, h7⟩
  have := ((h1.set 0 (.int .i64 y)).set 1 (.string a)).set 2 (.string b)
  simpa using this
theorem stepIn_from {w w6 : World} {sb B r : Nat} {u3 : Value} {xs : List St} {q y0 : Int} {a0 b0 : ByteArray} (b : ByteArray) (h : StepIn w w6 sb B r u3 xs q y0 a0 b0) :
    StepIn w (w6.setCell ⟨sb, 2, none⟩ (.string b)) sb B r u3 xs q y0 a0 b := by
  obtain ⟨h1, h2, h3, h4, h5, h6, h7⟩ := h
  have g := grown_set w6 sb 2 (.string b)
  refine ⟨?_, h2.grow g (fun g e => by cases e; exact h5), own_grown h3 g (.inl h7), grown_over h4 g (fun g e => by cases e; exact h6), h5, h6, h7⟩
  have := h1.set 2 (.string b)
  simpa using this
theorem stepIn_pick {w w6 w7 : World} {sb B r : Nat} {u3 : Value} {xs : List St} {q q' y0 : Int} {a0 b0 : ByteArray} (hlt : r < w.heap.size) (h : StepIn w w6 sb B r u3 xs q y0 a0 b0) (hg : w6.grownBy w7 (some r)) (hR : Rdr w7 77 B r q') : StepIn w w7 sb B r u3 xs q' y0 a0 b0 := by
  obtain ⟨h1, h2, h3, h4, h5, h6, h7⟩ := h
  have hne : u3.ownBlock ≠ some r := fun e => by have := own_block_ge h3 r e; omega
  exact ⟨h1.grown hg (fun e => by have := Option.some.inj e; omega), hR, own_grown h3 hg (.inl hne), grown_trans h4 hg, h5, h6, h7⟩
theorem stepIn_below {w w6 w7 : World} {sb B r : Nat} {u3 : Value} {xs : List St} {q y0 : Int} {a0 b0 : ByteArray} (h : StepIn w w6 sb B r u3 xs q y0 a0 b0) (hb : Below w6.heap.size w6 w7) : StepIn w w7 sb B r u3 xs q y0 a0 b0 := by
  obtain ⟨h1, h2, h3, h4, h5, h6, h7⟩ := h
  exact ⟨h1.keep hb, h2.keep hb, own_keep h3 hb, grown_trans h4 (grown_below hb (some r)), h5, h6, h7⟩
theorem okL_snoc {xs : List St} {x : St} (h : okL xs) (hx : stOk x = true) : okL (xs ++ [x]) := by
  intro y hy
  rcases List.mem_append.1 hy with h1 | h1
  · exact h y h1
  · rw [List.mem_singleton] at h1; rw [h1]; exact hx
set_option maxRecDepth 100000 in
set_option maxHeartbeats 1600000 in
theorem l2Draw_c (w : World) (B r : Nat) (p : Int) (hr : Rdr w 77 B r p) (p1 : p ≤ 1000000) :
    Calls Tryz.prog 69 #[.pointer (some ⟨r, 0, none⟩)] w fun e w' => ∃ v xs p', e = .returned v ∧ w'.ownsRow w.heap.size 58 3 v xs.length (scells xs) ∧ xs.length ≤ 6 ∧ okL xs ∧ Rdr w' 77 B r p' ∧ p' ≤ p + 64 ∧ w.grownBy w' (some r) := by
  have hlt : r < w.heap.size := by obtain ⟨_, _, v, n, _, _, h⟩ := hr; exact h.lt
  go_enter Tryz.func69, Tryz.ntmps69
  go_wp2_with fail
  have E0 := World.ownsRow_lit (e := 58) (base := w.heap.size) (size := 3) w #[] 0 (Nat.le_refl _) (Nat.zero_le _) rfl
  have L4 := Lits.strsC (w.alloc (.cells #[] 58)) 9 #[.string ⟨#[97, 98, 99, 116]⟩, .string ⟨#[97, 98, 99, 65, 116, 117]⟩, .string ⟨#[97, 98, 99, 100, 101, 102, 65, 66, 67, 116, 117]⟩, .string ⟨#[97, 98]⟩] 11 (by rfl)
  rw [World.size_alloc] at L4
  refine (of_c _ B r (w.heap.size + 1) 4 p (fun s => 1 ≤ s.size ∧ s.size ≤ 11 ∧ ∀ J, J < s.size → isC (s.extract J (J + 1)) = true) ((hr.keep ((Below.refl _ _).alloc (Nat.le_refl _) _)).keep ((Below.refl _ _).alloc (Nat.le_refl _) _)) (by decide) (by decide) (by omega) L4 (by omega)).mono ?_
  clear L4
  rintro e w2 ⟨from_, rfl, ⟨hf1, hf2, hf3⟩, R2, g2⟩
  have HF3 := Lib.hid hf3
  have E1 := own_grown (own_keep E0 ((Below.refl _ _).alloc (Nat.le_refl _) (.cells #[.string ⟨#[97, 98, 99, 116]⟩, .string ⟨#[97, 98, 99, 65, 116, 117]⟩, .string ⟨#[97, 98, 99, 100, 101, 102, 65, 66, 67, 116, 117]⟩, .string ⟨#[97, 98]⟩] 9))) g2 (.inl (fun e => by have := own_block_ge E0 r e; omega))
  have G2 : w.grownBy w2 (some r) := grown_trans (grown_below (((Below.refl _ _).alloc (Nat.le_refl _) (.cells #[] 58)).alloc (by simp) (.cells #[.string ⟨#[97, 98, 99, 116]⟩, .string ⟨#[97, 98, 99, 65, 116, 117]⟩, .string ⟨#[97, 98, 99, 100, 101, 102, 65, 66, 67, 116, 117]⟩, .string ⟨#[97, 98]⟩] 9)) (some r)) g2
  have hs2 := G2.size
  clear E0 g2 hf3
  go_wp2_with fail
  refine (num_c _ B r w2.heap.size 6 (p + 1) (fun x => 0 ≤ x ∧ x ≤ 6) (R2.keep ((Below.refl _ _).alloc (Nat.le_refl _) _)) (by decide) (by decide) (by omega) (Lits.ints w2 3 #[.int .i64 3, .int .i64 4, .int .i64 2, .int .i64 6, .int .i64 1, .int .i64 0] 6 (by rfl)) (by omega)).mono ?_
  rintro e w3 ⟨x, rfl, ⟨hx1, hx2⟩, R3, g3⟩
  obtain ⟨X, rfl⟩ := Int.eq_ofNat_of_zero_le hx1
  have E3 := own_grown (own_keep E1 ((Below.refl _ _).alloc (Nat.le_refl _) _)) g3 (.inl (fun e => by have := own_block_ge E1 r e; omega))
  have G3 := grown_trans G2 (grown_trans (grown_below ((Below.refl _ _).alloc (Nat.le_refl _) _) (some r)) g3)
  have hs3 := G3.size
  clear E1 G2 R2 g3
  go_wp2
  go_loopw [3, 5, 6, 7, 15] (fun o _ _ _ i wr => ∃ (j : Nat) (xs : List St) (q : Int), j ≤ X ∧ i = .int .i64 j ∧ xs.length = j ∧ Hid (okL xs) ∧ wr.ownsRow w.heap.size 58 3 o xs.length (scells xs) ∧ Rdr wr 77 B r q ∧ q ≤ p + 2 + 5 * (j : Int) ∧ w.grownBy wr (some r)) (fun _ _ _ _ i _ => X - (intOf i).toNat)
  case atStart => exact ⟨0, [], _, by omega, rfl, rfl, (fun m hm => by cases hm), E3, R3, by omega, G3⟩
  case round =>
    obtain ⟨j, xs, q, hj, rfl, hxl, hxs, ho, R, hq, G⟩ := hrel
    have hsr := G.size
    by_cases hlt2 : j < X
    · have i1 : (j : Int) < (X : Int) := by omega
      have HP4 := Lib.hid (pick_c wr B r from_.size q R (by omega) (by omega) (by omega))
      go_wp2_with fail
      refine HP4.out.mono ?_
      rintro e w4 ⟨k4, rfl, k40, k41, R4, g4⟩
      obtain ⟨K, rfl⟩ := Int.eq_ofNat_of_zero_le k40
      have ho4 := own_grown ho g4 (.inl (fun e => by have := own_block_ge ho r e; omega))
      have G4 := grown_trans G g4
      have hs4 := G4.size
      clear ho g4 G R HP4
      have HP5 := Lib.hid (pick_c w4 B r from_.size (q + 1) R4 (by omega) (by omega) (by omega))
      go_wp2_with fail
      refine HP5.out.mono ?_
      rintro e w5 ⟨k5, rfl, k50, k51, R5, g5⟩
      obtain ⟨J, rfl⟩ := Int.eq_ofNat_of_zero_le k50
      have ho5 := own_grown ho4 g5 (.inl (fun e => by have := own_block_ge ho4 r e; omega))
      have G5 := grown_trans G4 g5
      have hs5 := G5.size
      clear ho4 g5 G4 R4 HP5
      have hta := HF3.out K (by omega)
      have htb := HF3.out J (by omega)
      have hza := isC_size hta
      have hzb := isC_size htb
      have HTA := Lib.hid hta
      have HTB := Lib.hid htb
      clear hta htb
      have j1 : (J : Int) < (from_.size : Int) := k51
      have j2 : (K : Int) < (from_.size : Int) := k41
      have hrl5 := R5
      have HN : Hid (∀ (W : World) (L : Nat), Below w5.heap.size w5 W → Lits W L 4 (fun u => ∃ x, u = .int .i64 x ∧ 0 ≤ x ∧ x ≤ 1) → L ≠ r → Calls Tryz.prog 70 #[.pointer (some ⟨r, 0, none⟩), .slice (some ⟨L, 0, none⟩) 4 4] W fun e w' => ∃ x : Int, e = .returned (.int .i64 x) ∧ (0 ≤ x ∧ x ≤ 1) ∧ Rdr w' 77 B r (q + 3) ∧ W.grownBy w' (some r)) := fun W L hb hL hne => by
        have := num_c W B r L 4 (q + 2) (fun x => 0 ≤ x ∧ x ≤ 1) (by have := R5.keep hb; rwa [show q + 1 + 1 = q + 2 by omega] at this) (by decide) (by decide) (by omega) hL hne
        rwa [show q + 2 + 1 = q + 3 by omega] at this
      have LT : Obj := .cells #[.int .i64 0, .int .i64 0, .int .i64 1, .int .i64 0] 3
      clear LT
      have HL1 := Lits.ints w5 3 #[.int .i64 0, .int .i64 0, .int .i64 1, .int .i64 0] 1 (by rfl)
      have HL2 := HL1.keep (grown_below ((Below.refl _ _).alloc (Nat.le_refl _) (.cells #[.int .i64 0, .string ⟨#[]⟩, .string ⟨#[]⟩] 58)) none) (by simp)
      have HL3 := Lits.ints (w5.alloc (.cells #[.int .i64 0, .string ⟨#[]⟩, .string ⟨#[]⟩] 58)) 3 #[.int .i64 0, .int .i64 0, .int .i64 1, .int .i64 0] 1 (by rfl)
      rw [World.size_alloc] at HL3
      have HS2 := At.new (w5.alloc (.cells #[.int .i64 0, .int .i64 0, .int .i64 1, .int .i64 0] 3)) 58 #[.int .i64 0, .string ⟨#[]⟩, .string ⟨#[]⟩]
      rw [World.size_alloc] at HS2
      have HS3 := (At.new w5 58 #[.int .i64 0, .string ⟨#[]⟩, .string ⟨#[]⟩]).alloc (.cells #[.int .i64 0, .int .i64 0, .int .i64 1, .int .i64 0] 3)
      have hr5 : r < w5.heap.size := by obtain ⟨_, _, v, n, _, _, h⟩ := R5; exact h.lt
      have HNX : ∀ (W : World) (L : Nat), Below w5.heap.size w5 W → Lits W L 4 (fun u => ∃ x, u = .int .i64 x ∧ 0 ≤ x ∧ x ≤ 1) → L ≠ r → Calls Tryz.prog 70 #[.pointer (some ⟨r, 0, none⟩), .slice (some ⟨L, 0, none⟩) 4 4] W fun e w' => ∃ x : Int, e = .returned (.int .i64 x) ∧ (0 ≤ x ∧ x ≤ 1) ∧ Hid (Rdr w' 77 B r (q + 3) ∧ w'.ownsRow w.heap.size 58 3 u3 xs.length (scells xs) ∧ w.grownBy w' (some r)) ∧ W.grownBy w' (some r) := fun W L hb hL hne =>
        (HN.out W L hb hL hne).mono fun e w' ⟨x, h1, h2, h3, h4⟩ => ⟨x, h1, h2, ⟨h3, own_grown (own_keep ho5 hb) h4 (.inl (fun e => by have := own_block_ge ho5 r e; omega)), grown_trans (grown_trans G5 (grown_below hb (some r))) h4⟩, h4⟩
      have bl1 : Below w5.heap.size w5 (w5.alloc (.cells #[.int .i64 0, .int .i64 0, .int .i64 1, .int .i64 0] 3)) := (Below.refl _ _).alloc (Nat.le_refl _) _
      have bl2 : Below w5.heap.size w5 ((w5.alloc (.cells #[.int .i64 0, .int .i64 0, .int .i64 1, .int .i64 0] 3)).alloc (.cells #[.int .i64 0, .string ⟨#[]⟩, .string ⟨#[]⟩] 58)) := bl1.alloc (by simp) _
      have bl3 : Below w5.heap.size w5 ((w5.alloc (.cells #[.int .i64 0, .string ⟨#[]⟩, .string ⟨#[]⟩] 58)).alloc (.cells #[.int .i64 0, .int .i64 0, .int .i64 1, .int .i64 0] 3)) := ((Below.refl _ _).alloc (Nat.le_refl _) _).alloc (by simp) _
      have HS2d : At ((w5.alloc (.cells #[.int .i64 0, .int .i64 0, .int .i64 1, .int .i64 0] 3)).alloc (.cells #[.int .i64 0, .string ⟨#[]⟩, .string ⟨#[]⟩] 58)).drew (w5.heap.size + 1) 58 #[.int .i64 0, .string ⟨#[]⟩, .string ⟨#[]⟩] := HS2
      have HS3d : At ((w5.alloc (.cells #[.int .i64 0, .string ⟨#[]⟩, .string ⟨#[]⟩] 58)).alloc (.cells #[.int .i64 0, .int .i64 0, .int .i64 1, .int .i64 0] 3)).drew w5.heap.size 58 #[.int .i64 0, .string ⟨#[]⟩, .string ⟨#[]⟩] := HS3
      have HN1 := Lib.hid ((HNX (w5.alloc (.cells #[.int .i64 0, .int .i64 0, .int .i64 1, .int .i64 0] 3)).drew w5.heap.size bl1.drew HL1 (by omega)).mono fun e w' ⟨x, h1, h2, h3, h4⟩ =>
        (⟨x, h1, h2, h3, by have := h4.size; simp at this; omega⟩ : ∃ x : Int, e = Ending.returned (.int .i64 x) ∧ (0 ≤ x ∧ x ≤ 1) ∧ Hid (Rdr w' 77 B r (q + 3) ∧ w'.ownsRow w.heap.size 58 3 u3 xs.length (scells xs) ∧ w.grownBy w' (some r)) ∧ w5.heap.size < w'.heap.size))
      have HN2 := Lib.hid ((HNX ((w5.alloc (.cells #[.int .i64 0, .int .i64 0, .int .i64 1, .int .i64 0] 3)).alloc (.cells #[.int .i64 0, .string ⟨#[]⟩, .string ⟨#[]⟩] 58)).drew w5.heap.size bl2.drew HL2 (by omega)).mono fun e w' ⟨x, h1, h2, h3, h4⟩ =>
        (⟨x, h1, h2, h3, by have := h4.size; simp at this; omega, HS2d.grown h4 (fun e => by have := Option.some.inj e; omega)⟩ : ∃ x : Int, e = Ending.returned (.int .i64 x) ∧ (0 ≤ x ∧ x ≤ 1) ∧ Hid (Rdr w' 77 B r (q + 3) ∧ w'.ownsRow w.heap.size 58 3 u3 xs.length (scells xs) ∧ w.grownBy w' (some r)) ∧ w5.heap.size + 1 < w'.heap.size ∧ At w' (w5.heap.size + 1) 58 #[.int .i64 0, .string ⟨#[]⟩, .string ⟨#[]⟩]))
      have HN3 := Lib.hid ((HNX ((w5.alloc (.cells #[.int .i64 0, .string ⟨#[]⟩, .string ⟨#[]⟩] 58)).alloc (.cells #[.int .i64 0, .int .i64 0, .int .i64 1, .int .i64 0] 3)).drew (w5.heap.size + 1) bl3.drew HL3 (by omega)).mono fun e w' ⟨x, h1, h2, h3, h4⟩ =>
        (⟨x, h1, h2, h3, by have := h4.size; simp at this; omega, HS3d.grown h4 (fun e => by have := Option.some.inj e; omega)⟩ : ∃ x : Int, e = Ending.returned (.int .i64 x) ∧ (0 ≤ x ∧ x ≤ 1) ∧ Hid (Rdr w' 77 B r (q + 3) ∧ w'.ownsRow w.heap.size 58 3 u3 xs.length (scells xs) ∧ w.grownBy w' (some r)) ∧ w5.heap.size < w'.heap.size ∧ At w' w5.heap.size 58 #[.int .i64 0, .string ⟨#[]⟩, .string ⟨#[]⟩]))
      have a1 : (0 : Int) ≤ (K : Int) := by omega
      have a2 : (K : Int) ≤ (K : Int) + 1 := by omega
      have a3 : (K : Int) + 1 ≤ (from_.size : Int) := by omega
      have a4 : IntKind.i64.wrap ((K : Int) + 1) = (K : Int) + 1 := IntWalk.i64_in _ ⟨by omega, by omega⟩
      have a5 : K + 1 ≤ from_.size := by omega
      have b1 : (0 : Int) ≤ (J : Int) := by omega
      have b2 : (J : Int) ≤ (J : Int) + 1 := by omega
      have b3 : (J : Int) + 1 ≤ (from_.size : Int) := by omega
      have b4 : IntKind.i64.wrap ((J : Int) + 1) = (J : Int) + 1 := IntWalk.i64_in _ ⟨by omega, by omega⟩
      have b5 : J + 1 ≤ from_.size := by omega
      have hub := own_block_lt ho5
      clear HN HNX HL1 HL2 HL3 HS2 HS3 HS2d HS3d bl1 bl2 bl3 ho5 G5 R5 hrl5
      go_wp2
      go_region_with (first | (go_at_call 70; with_reducible refine HN1.out.mono ?_; rintro e w6 ⟨y, rfl, ⟨hy0, hy1⟩, HH, hl6⟩) | (go_at_call 70; with_reducible refine HN2.out.mono ?_; rintro e w6 ⟨y, rfl, ⟨hy0, hy1⟩, HH, hl6, hS⟩; have z0 := hS.frozen 0; have z1 := hS.frozen 1; have z2 := hS.frozen 2; have q0 := (three_at hS).1; have q1 := (three_at hS).2.1; have q2 := (three_at hS).2.2) | (go_at_call 70; with_reducible refine HN3.out.mono ?_; rintro e w6 ⟨y, rfl, ⟨hy0, hy1⟩, HH, hl6, hS⟩; have z0 := hS.frozen 0; have z1 := hS.frozen 1; have z2 := hS.frozen 2; have q0 := (three_at hS).1; have q1 := (three_at hS).2.1; have q2 := (three_at hS).2.2))
      all_goals
        first
          | (have HSI := stepIn_set y (from_.extract K (K + 1)) (from_.extract J (J + 1)) (show StepIn w w6 (w5.heap.size + 1) B r u3 xs (q + 3) 0 ⟨#[]⟩ ⟨#[]⟩ from ⟨hS, HH.out.1, HH.out.2.1, HH.out.2.2, by omega, by omega, fun e => by have := hub _ e; omega⟩); generalize ((w6.setCell ⟨w5.heap.size + 1, 0, none⟩ (.int .i64 y)).setCell ⟨w5.heap.size + 1, 1, none⟩ (.string (from_.extract K (K + 1)))).setCell ⟨w5.heap.size + 1, 2, none⟩ (.string (from_.extract J (J + 1))) = W7 at HSI ⊢; generalize w5.heap.size + 1 = sb at HSI ⊢; clear hS z0 z1 z2 q0 q1 q2)
          | (have HSI := stepIn_set y (from_.extract K (K + 1)) (from_.extract J (J + 1)) (show StepIn w w6 w5.heap.size B r u3 xs (q + 3) 0 ⟨#[]⟩ ⟨#[]⟩ from ⟨hS, HH.out.1, HH.out.2.1, HH.out.2.2, by omega, by omega, fun e => by have := hub _ e; omega⟩); generalize ((w6.setCell ⟨w5.heap.size, 0, none⟩ (.int .i64 y)).setCell ⟨w5.heap.size, 1, none⟩ (.string (from_.extract K (K + 1)))).setCell ⟨w5.heap.size, 2, none⟩ (.string (from_.extract J (J + 1))) = W7 at HSI ⊢; generalize w5.heap.size = sb at HSI ⊢; clear hS z0 z1 z2 q0 q1 q2)
          | (have HSI := stepIn_new (w := w) y (from_.extract K (K + 1)) (from_.extract J (J + 1)) HH.out; generalize w6.alloc (.cells #[.int .i64 y, .string (from_.extract K (K + 1)), .string (from_.extract J (J + 1))] 58) = W7 at HSI ⊢; generalize w6.heap.size = sb at HSI ⊢)
        clear HH hl6 HN1 HN2 HN3 a1 a2 a3 a4 a5 b1 b2 b3 b4 b5
        generalize from_.extract K (K + 1) = s1 at *
        generalize from_.extract J (J + 1) = s2 at *
        obtain ⟨m0, m1, m2⟩ := three_at HSI.1
        have mz := HSI.1.frozen 2
        have ml := HSI.1.lt
        by_cases hy : y = 0
        · subst hy
          have HP8 := Lib.hid (pick_c W7 B r 8 (q + 3) HSI.2.1 (by omega) (by omega) (by omega))
          go_wp2_with fail
          refine HP8.out.mono ?_
          rintro e w8 ⟨k8, rfl, k80, k81, R8, g8⟩
          have HS8 := stepIn_pick hlt HSI g8 R8
          clear HP8 HSI m0 m1 m2 mz ml g8
          obtain ⟨n0, n1, n2⟩ := three_at HS8.1
          have nz := HS8.1.frozen 2
          have nl := HS8.1.lt
          by_cases h8 : k8 = 0
          · subst h8
            have HP9 := Lib.hid (pick_c w8 B r 10 (q + 3 + 1) R8 (by omega) (by omega) (by omega))
            go_wp2_with fail
            refine HP9.out.mono ?_
            rintro e w9 ⟨k9, rfl, k90, k91, R9, g9⟩
            obtain ⟨N, rfl⟩ := Int.eq_ofNat_of_zero_le k90
            have HS9 := stepIn_pick hlt HS8 g9 R9
            clear HP9 HS8 n0 n1 n2 nz nl g9 R8
            go_wp2_with fail
            refine (l13Dec_c N (by omega) w9).mono ?_
            rintro e w10 ⟨rfl, b10⟩
            have HS10 := stepIn_below HS9 b10
            have HSF := stepIn_from (dg N) HS10
            clear HS9 b10 R9
            obtain ⟨o0, o1, o2⟩ := three_at HS10.1
            have oz := HS10.1.frozen 2
            have ol := HS10.1.lt
            have HOK : Hid (okL (xs ++ [((0 : Int), s1, (dg N))])) := okL_snoc hxs.out (by have h1 := HTA.out; have h2 := dg_isD (n := N) (by omega); unfold stOk; simp [h1, h2])
            have HQ : Hid ((q + 3 + 1 + 1) ≤ p + 2 + 5 * ((j + 1 : Nat) : Int)) := by show _ ≤ _; omega
            have hxl2 : xs.length ≤ 1000 := by omega
            go_wp2_with (at_builtin; refine held ?_)
            unfold Held
            obtain ⟨hA, hR, hO, hG, hl1, hl2, hl3⟩ := HSF
            have hsz := hG.size
            have hnw := three_new (w10.setCell ⟨sb, 2, none⟩ (.string (dg N))) (.int .i64 0) (.string s1) (.string (dg N)) 58
            rw [World.size_setCell] at hnw
            refine app_st rfl (.tmp 53) (.tmp 55) rfl w.heap.size u3 xs (0, s1, (dg N)) ⟨w10.heap.size, 0, none⟩ 1 (by rfl) (by rfl) (own_keep hO ((Below.refl _ _).alloc (Nat.le_refl _) _)) hnw (by omega) (by simp [World.size_setCell]; omega) ?_
            intro v' w12 hown12 hg12
            have R12 := (hR.keep ((Below.refl _ _).alloc (Nat.le_refl _) (.cells #[.int .i64 0, .string s1, .string (dg N)] 58))).grow hg12 (fun g e => by have := own_block_ge hO g e; omega)
            have G12 := grown_over (grown_trans hG (grown_below ((Below.refl _ _).alloc (Nat.le_refl _) (.cells #[.int .i64 0, .string s1, .string (dg N)] 58)) (some r))) hg12 (fun g e => own_block_ge hO g e)
            clear hA hR hO hG hnw hg12
            go_wp2
            go_roundw
            case rel => exact ⟨j + 1, xs ++ [(0, s1, (dg N))], _, by omega, by go_num, by simp; omega, HOK.out, hown12, R12, HQ.out, G12⟩
            case measure => simp [intOf] <;> omega
          · have t8 : (k8 == 0) = false := by simpa using h8
            have HOK : Hid (okL (xs ++ [((0 : Int), s1, s2)])) := okL_snoc hxs.out (by have h1 := HTA.out; have h2 := HTB.out; unfold stOk; simp [h1, h2])
            have HQ : Hid ((q + 3 + 1) ≤ p + 2 + 5 * ((j + 1 : Nat) : Int)) := by show _ ≤ _; omega
            have hxl2 : xs.length ≤ 1000 := by omega
            go_wp2_with (at_builtin; refine held ?_)
            unfold Held
            obtain ⟨hA, hR, hO, hG, hl1, hl2, hl3⟩ := HS8
            have hsz := hG.size
            have hnw := three_new (w8) (.int .i64 0) (.string s1) (.string s2) 58
            refine app_st rfl (.tmp 53) (.tmp 55) rfl w.heap.size u3 xs (0, s1, s2) ⟨(w8).heap.size, 0, none⟩ 1 (by rfl) (by first | rfl | simp [World.size_setCell]) (own_keep hO ((Below.refl _ _).alloc (Nat.le_refl _) _)) hnw (by omega) (by simp; omega) ?_
            intro v' w12 hown12 hg12
            have R12 := (hR.keep ((Below.refl _ _).alloc (Nat.le_refl _) (.cells #[.int .i64 0, .string s1, .string s2] 58))).grow hg12 (fun g e => by have := own_block_ge hO g e; omega)
            have G12 := grown_over (grown_trans hG (grown_below ((Below.refl _ _).alloc (Nat.le_refl _) (.cells #[.int .i64 0, .string s1, .string s2] 58)) (some r))) hg12 (fun g e => own_block_ge hO g e)
            clear hA hR hO hG hnw hg12
            go_wp2
            go_roundw
            case rel => exact ⟨j + 1, xs ++ [(0, s1, s2)], _, by omega, by go_num, by simp; omega, HOK.out, hown12, R12, HQ.out, G12⟩
            case measure => simp [intOf] <;> omega
        · obtain rfl : y = 1 := by omega
          have HOK : Hid (okL (xs ++ [((1 : Int), s1, s2)])) := okL_snoc hxs.out (by have h1 := HTA.out; have h2 := HTB.out; unfold stOk; simp [h1, h2])
          have HQ : Hid ((q + 3) ≤ p + 2 + 5 * ((j + 1 : Nat) : Int)) := by show _ ≤ _; omega
          have hxl2 : xs.length ≤ 1000 := by omega
          go_wp2_with (at_builtin; refine held ?_)
          unfold Held
          obtain ⟨hA, hR, hO, hG, hl1, hl2, hl3⟩ := HSI
          have hsz := hG.size
          have hnw := three_new (W7) (.int .i64 1) (.string s1) (.string s2) 58
          refine app_st rfl (.tmp 53) (.tmp 55) rfl w.heap.size u3 xs (1, s1, s2) ⟨(W7).heap.size, 0, none⟩ 1 (by rfl) (by first | rfl | simp [World.size_setCell]) (own_keep hO ((Below.refl _ _).alloc (Nat.le_refl _) _)) hnw (by omega) (by simp; omega) ?_
          intro v' w12 hown12 hg12
          have R12 := (hR.keep ((Below.refl _ _).alloc (Nat.le_refl _) (.cells #[.int .i64 1, .string s1, .string s2] 58))).grow hg12 (fun g e => by have := own_block_ge hO g e; omega)
          have G12 := grown_over (grown_trans hG (grown_below ((Below.refl _ _).alloc (Nat.le_refl _) (.cells #[.int .i64 1, .string s1, .string s2] 58)) (some r))) hg12 (fun g e => own_block_ge hO g e)
          clear hA hR hO hG hnw hg12
          go_wp2
          go_roundw
          case rel => exact ⟨j + 1, xs ++ [(1, s1, s2)], _, by omega, by go_num, by simp; omega, HOK.out, hown12, R12, HQ.out, G12⟩
          case measure => simp [intOf] <;> omega
    · go_wp2
      go_ret
      exact ⟨_, xs, q, rfl, ho, by omega, hxs.out, R, by omega, G⟩
end Go.Proofs.YtnhncbhhlbcieaaGreat
