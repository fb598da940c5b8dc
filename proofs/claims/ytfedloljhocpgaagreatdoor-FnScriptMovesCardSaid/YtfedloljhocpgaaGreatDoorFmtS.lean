import Derived.Test.YtfedloljhocpgaaGreatDoorIm3
import Derived.Test.YtfedloljhocpgaaGreatDoorSpS2
import Derived.Test.YtfedloljhocpgaaGreatDoorFormat
import Derived.Lib.Join
import Derived.Test.YtfedloljhocpgaaGreatDoorHold
namespace Go.PM
open Go.RowKit
def sgn (k : Int) : UInt8 := if k = 1 then 126 else 61
def spart (x : St) : List UInt8 := x.2.1.data.toList ++ [sgn x.1] ++ x.2.2.data.toList
def sfmtL (xs : List St) : List UInt8 := Lib.join (xs.map spart) [59]
theorem sfmtL_pos (xs : List St) (h : xs ≠ []) : sfmtL xs ≠ [] := by
  cases xs with
  | nil => exact absurd rfl h
  | cons x r =>
    unfold sfmtL
    rw [List.map_cons, Lib.join_cons]
    simp [spart]
def sfmtB (xs : List St) : ByteArray := if svalid xs then (if xs = [] then ⟨#[45]⟩ else ⟨(sfmtL xs).toArray⟩) else ⟨#[]⟩
theorem sfmtB_no {xs : List St} (h : svalid xs = false) : sfmtB xs = ⟨#[]⟩ := by simp [sfmtB, h]
theorem sfmtB_none {xs : List St} (h : svalid xs = true) (h2 : xs = []) : sfmtB xs = ⟨#[45]⟩ := by subst h2; simp [sfmtB, h]
theorem sfmtB_some {xs : List St} (h : svalid xs = true) (h2 : xs ≠ []) : sfmtB xs = ⟨(sfmtL xs).toArray⟩ := by simp [sfmtB, h, h2]
def spartB (x : St) : ByteArray := x.2.1 ++ ⟨#[sgn x.1]⟩ ++ x.2.2
theorem spartB_data (x : St) : (spartB x).data.toList = spart x := by simp [spartB, spart]
def sfhalf (xs : List St) (k : Nat) : List Value := (xs.take k).map (fun m => Value.string (spartB m)) ++ List.replicate (xs.length - k) (Value.string ⟨#[]⟩)
theorem sfhalf_at (xs : List St) (k : Nat) (hk : k < xs.length) : (sfhalf xs k)[k]? = some (Value.string ⟨#[]⟩) := by
  have hl : ((xs.take k).map (fun m => Value.string (spartB m))).length = k := by simp; omega
  obtain ⟨d, hd⟩ : ∃ d, xs.length - k = d + 1 := ⟨xs.length - k - 1, by omega⟩
  unfold sfhalf
  rw [List.getElem?_append_right (by omega), hl, Nat.sub_self, hd, List.replicate_succ]; rfl
theorem sfhalf_set (xs : List St) (k : Nat) (hk : k < xs.length) : (sfhalf xs k).set k (.string (spartB xs[k])) = sfhalf xs (k+1) := by
  have hl : ((xs.take k).map (fun m => Value.string (spartB m))).length = k := by simp; omega
  obtain ⟨d, hd⟩ : ∃ d, xs.length - k = d + 1 := ⟨xs.length - k - 1, by omega⟩
  unfold sfhalf
  rw [List.set_append_right _ _ (by omega), hl, hd, List.replicate_succ, show xs.length - (k+1) = d by omega, take_snoc xs k hk, Nat.sub_self, List.map_append]
  simp only [List.set_cons_zero, List.map_cons, List.map_nil, List.append_assoc, List.cons_append, List.nil_append]
theorem sfhalf_zero (xs : List St) : sfhalf xs 0 = List.replicate xs.length (Value.string ⟨#[]⟩) := by simp [sfhalf]
theorem sfhalf_full (xs : List St) : sfhalf xs xs.length = xs.map (fun m => Value.string (spartB m)) := by simp [sfhalf]
theorem st_sizes {x : St} (h : stOk x = true) : (x.1 = 0 ∨ x.1 = 1) ∧ x.2.1.size = 1 ∧ x.2.2.size = 1 := by
  unfold stOk at h
  rw [Bool.or_eq_true] at h
  rcases h with h | h
  · simp only [Bool.and_eq_true, Bool.or_eq_true, decide_eq_true_eq] at h
    refine ⟨.inl h.1, isC_size h.2.1, ?_⟩
    rcases h.2.2 with h2 | h2
    · exact isC_size h2
    · exact isD_size h2
  · simp only [Bool.and_eq_true, decide_eq_true_eq] at h
    exact ⟨.inr h.1, isC_size h.2.1, isC_size h.2.2⟩
theorem sfmtL_len {xs : List St} (h : ∀ x ∈ xs, stOk x = true) : (sfmtL xs).length ≤ 4 * xs.length := by
  induction xs with
  | nil => simp [sfmtL, Lib.join_nil]
  | cons x r ih =>
    have ih := ih (fun y hy => h y (by simp [hy]))
    have hx := st_sizes (h x (by simp))
    unfold sfmtL at ih ⊢
    rw [List.map_cons, Lib.join_cons]
    have h1 : (spart x).length = 3 := by simp [spart]; omega
    rw [List.length_append, h1]
    cases r with
    | nil => simp [Lib.joinTail]
    | cons y r =>
      have h2 : (Lib.joinTail [59] (List.map spart (y :: r))).length = 1 + (Lib.join (List.map spart (y :: r)) [59]).length := by
        rw [List.map_cons, Lib.join_cons]; simp [Lib.joinTail]; omega
      rw [h2]; simp only [List.length_cons] at *; omega
structure Sg (w : World) : Prop where
  c0 : w.cell? ⟨0, 0, none⟩ = some (.string ⟨#[61]⟩)
  c1 : w.cell? ⟨0, 1, none⟩ = some (.string ⟨#[126]⟩)
  lt : 0 < w.heap.size
theorem Sg.below {w w' : World} (h : Sg w) (hb : Below w.heap.size w w') : Sg w' := ⟨(hb.cell (p := ⟨0, 0, none⟩) h.lt).trans h.c0, (hb.cell (p := ⟨0, 1, none⟩) h.lt).trans h.c1, Nat.lt_of_lt_of_le h.lt hb.size⟩
end Go.PM
namespace Go.Proofs.YtfedloljhocpgaaGreatDoor
open Go.RowKit Go.PM
attribute [local go_sem] Oper.semAt_some

set_option maxRecDepth 100000 in
set_option maxHeartbeats 800000 in
theorem stext_c (k : Int) (a b : ByteArray) (hk : k = 0 ∨ k = 1) (ha : a.size = 1) (hb : b.size = 1) (w : World) (hg : Sg w) :
    Calls Tryz.prog 63 #[.agg #[.int .i64 k, .string a, .string b]] w fun e w' => e = .returned (.string (a ++ ⟨#[sgn k]⟩ ++ b)) ∧ Below w.heap.size w w' := by
  have c1 : (⟨#[61]⟩ : ByteArray).size = 1 := rfl
  have c2 : (⟨#[126]⟩ : ByteArray).size = 1 := rfl
  have hz0 := hg.lt
  have hz1 : (a ++ (⟨#[61]⟩ : ByteArray)).size = 2 := by rw [ByteArray.size_append, ha, c1]
  have hz2 : (a ++ (⟨#[126]⟩ : ByteArray)).size = 2 := by rw [ByteArray.size_append, ha, c2]
  rcases hk with rfl | rfl
  · have hA := At.new w 58 #[.int .i64 0, .string a, .string b]
    have hx0 : (w.alloc (.cells #[.int .i64 0, .string a, .string b] 58)).drew.cell? ⟨w.heap.size, 0, none⟩ = some (.int .i64 0) := hA.cell 0
    have hx1 : (w.alloc (.cells #[.int .i64 0, .string a, .string b] 58)).drew.cell? ⟨w.heap.size, 1, none⟩ = some (.string a) := hA.cell 1
    have hx2 : (w.alloc (.cells #[.int .i64 0, .string a, .string b] 58)).drew.cell? ⟨w.heap.size, 2, none⟩ = some (.string b) := hA.cell 2
    have hgd := hg.below ((Below.refl w.heap.size w).alloc (Nat.le_refl _) (.cells #[.int .i64 0, .string a, .string b] 58))
    have hg0 : (w.alloc (.cells #[.int .i64 0, .string a, .string b] 58)).drew.cell? ⟨0, 0, none⟩ = some (.string ⟨#[61]⟩) := hgd.c0
    have hg1 : (w.alloc (.cells #[.int .i64 0, .string a, .string b] 58)).drew.cell? ⟨0, 1, none⟩ = some (.string ⟨#[126]⟩) := hgd.c1
    clear hA hgd hg
    go_enter Tryz.func63, Tryz.ntmps63
    go_wp2
    refine wp_region_quiet (C := fun w' => w' = (w.alloc (.cells #[.int .i64 0, .string a, .string b] 58)).drew) (by kernel_rfl) (by kernel_rfl) rfl ?_
    simp only
    repeat (go_big_quiet_step (fail))
    refine wpQuiet_nil ?_
    intro w' hw'
    subst hw'
    go_wp2
    go_ret
    exact ⟨rfl, ((Below.refl _ _).alloc (Nat.le_refl _) _).drew⟩
  · have hA := At.new w 58 #[.int .i64 1, .string a, .string b]
    have hx0 : (w.alloc (.cells #[.int .i64 1, .string a, .string b] 58)).drew.cell? ⟨w.heap.size, 0, none⟩ = some (.int .i64 1) := hA.cell 0
    have hx1 : (w.alloc (.cells #[.int .i64 1, .string a, .string b] 58)).drew.cell? ⟨w.heap.size, 1, none⟩ = some (.string a) := hA.cell 1
    have hx2 : (w.alloc (.cells #[.int .i64 1, .string a, .string b] 58)).drew.cell? ⟨w.heap.size, 2, none⟩ = some (.string b) := hA.cell 2
    have hgd := hg.below ((Below.refl w.heap.size w).alloc (Nat.le_refl _) (.cells #[.int .i64 1, .string a, .string b] 58))
    have hg0 : (w.alloc (.cells #[.int .i64 1, .string a, .string b] 58)).drew.cell? ⟨0, 0, none⟩ = some (.string ⟨#[61]⟩) := hgd.c0
    have hg1 : (w.alloc (.cells #[.int .i64 1, .string a, .string b] 58)).drew.cell? ⟨0, 1, none⟩ = some (.string ⟨#[126]⟩) := hgd.c1
    clear hA hgd hg
    go_enter Tryz.func63, Tryz.ntmps63
    go_wp2
    refine wp_region_quiet (C := fun w' => w' = (w.alloc (.cells #[.int .i64 1, .string a, .string b] 58)).drew) (by kernel_rfl) (by kernel_rfl) rfl ?_
    simp only
    repeat (go_big_quiet_step (fail))
    refine wpQuiet_nil ?_
    intro w' hw'
    subst hw'
    go_wp2
    go_ret
    exact ⟨rfl, ((Below.refl _ _).alloc (Nat.le_refl _) _).drew⟩
set_option maxRecDepth 100000 in
set_option maxHeartbeats 800000 in
theorem imFormatSequence_c (xs : List St) (v : Value) (w : World) (hx : RdS w v xs) (hG : Sg w) :
    Calls Tryz.prog 16 #[v] w fun e w' => e = .returned (.string (sfmtB xs)) ∧ Below w.heap.size w w' := by
  obtain ⟨A, cap, rfl, hn, hc, hcell⟩ := hx.open
  rcases Bool.eq_false_or_eq_true (svalid xs) with h1 | h1
  · by_cases hne : xs = []
    · have hfin : Hid (sfmtB xs = ⟨#[45]⟩) := sfmtB_none h1 hne
      have hl0 : (xs.length : Int) = 0 := by rw [hne]; rfl
      have HL := Lib.hid hl0
      have hl : ((xs.length : Int) == 0) = true := by simp [hne]
      clear hne hl0
      go_enter Tryz.func16, Tryz.ntmps16
      go_wp2_with fail
      refine (imSequenceValid_c xs _ _ hx).mono ?_
      rintro e w1 ⟨rfl, hb1⟩
      go_wp2
      go_ret
      exact ⟨by rw [hfin.out]; rfl, hb1⟩
    · have hk9 := svalid_len h1
      have hsz : Hid (∀ k (hk : k < xs.length), (xs[k].1 = 0 ∨ xs[k].1 = 1) ∧ xs[k].2.1.size = 1 ∧ xs[k].2.2.size = 1) := fun k hk => st_sizes (svalid_at h1 k hk)
      have HOKA : Hid (∀ x ∈ xs, stOk x = true) := fun x hx => by
        obtain ⟨k, hk, rfl⟩ := List.getElem_of_mem hx
        exact svalid_at h1 k hk
      have hfin : Hid (sfmtB xs = ⟨(sfmtL xs).toArray⟩) := sfmtB_some h1 hne
      have hpos : 0 < xs.length := List.length_pos_iff.2 hne
      have hl : ((xs.length : Int) == 0) = false := by simp; omega
      clear hne
      obtain ⟨i0, hi0, hz0, hz1, hz2⟩ := info_parts infoStr
      have hmk := fun W : World => run_make (P := Tryz.prog) W 31 9 i0 _ Tryz.underlying31 hi0 hz0 .i64 .i64 xs.length xs.length (by omega) (Int.le_refl _) (by rw [hz2]; omega) (by omega)
      simp only [Int.toNat_natCast, hz1] at hmk
      go_enter Tryz.func16, Tryz.ntmps16
      go_wp2_with fail
      refine (imSequenceValid_c xs _ _ hx).mono ?_
      rintro e w1 ⟨rfl, hb1⟩
      have hs1 := hb1.size
      have hO := own_made w1 w.heap.size 9 #[Value.string ⟨#[]⟩] 1 xs.length rfl (by omega) (by omega) hs1
      have hB : Below w.heap.size w (w1.alloc (Obj.cells (madeCells #[Value.string ⟨#[]⟩] (xs.length * 1)) 9)) := hb1.alloc hs1 _
      go_wp2
      simp only [Nat.mul_one] at hB hO
      generalize (w1.alloc (Obj.cells (madeCells #[Value.string ⟨#[]⟩] xs.length) 9)) = W1 at *
      go_loopw [4, 5, 17] (fun _ _ i wr => ∃ (k : Nat), k ≤ xs.length ∧ i = .int .i64 k ∧ wr.ownsRow w.heap.size 9 1 (.slice (some ⟨w1.heap.size, 0, none⟩) xs.length xs.length) xs.length (sfhalf xs k) ∧ Below w.heap.size w wr) (fun _ _ i _ => xs.length - (intOf i).toNat)
      case atStart => exact ⟨0, by omega, rfl, by rw [sfhalf_zero]; simpa using hO, hB⟩
      case round =>
        obtain ⟨k, hk, rfl, ho, hb⟩ := hrel
        have hbs := hb.size
        by_cases hlt : k < xs.length
        · obtain ⟨b, off, rfl, hbl, hc0, hc1, hc2⟩ := hcell k hlt
          have hd0 := (hb.cell (p := ⟨b, off + k * 3, none⟩) hbl).trans hc0
          have hd1 := (hb.cell (p := ⟨b, off + k * 3 + 1, none⟩) hbl).trans hc1
          have hd2 := (hb.cell (p := ⟨b, off + k * 3 + 2, none⟩) hbl).trans hc2
          obtain ⟨hkd, hsz1, hsz2⟩ := hsz.out k hlt
          have hps := sfhalf_set xs k hlt
          unfold spartB at hps
          clear hc0 hc1 hc2 hcell
          generalize xs[k].1 = kd at *
          generalize xs[k].2.1 = x1 at *
          generalize xs[k].2.2 = x2 at *
          have HTX := Lib.hid (fun W (hW : Below w.heap.size w W) => stext_c kd x1 x2 hkd hsz1 hsz2 W (hG.below hW))
          have HPS := Lib.hid hps
          clear hps
          have hB2 := hb.alloc hbs (.cells #[.int .i64 kd, .string x1, .string x2] 58)
          have ho2 := own_keep ho ((Below.refl _ _).alloc (Nat.le_refl _) (.cells #[.int .i64 kd, .string x1, .string x2] 58))
          clear ho hb hkd
          go_wp2_with (go_at_call 63; refine (HTX.out _ hB2).mono ?_; rintro e w5 ⟨rfl, hb5⟩; refine held ?_)
          unfold Held
          have hB5 := hB2.trans (hb5.mono hB2.size)
          have ho5 := own_keep ho2 hb5
          have hbs5 := hB5.size
          clear ho2 hB2 hb5
          have hol := (own_lt ho5).1
          have hf1 := ho5.frozenAt k
          have hg1 := (ho5.cellAt k (by omega)).trans (sfhalf_at xs k hlt)
          go_wp2
          go_roundw
          case rel =>
            refine ⟨k + 1, by omega, by go_num, ?_, ?_⟩
            · rw [← HPS.out]
              exact (ho5.stored k _).1
            · (repeat' (first | (with_reducible exact Below.refl _ _) | (with_reducible assumption) | (with_reducible refine Below.alloc ?_ ?_ _) | (with_reducible refine Below.drew ?_) | (with_reducible refine Below.setCell ?_ ?_ _) | (with_reducible exact Nat.le_refl _) | omega | ((repeat (first | rewrite [World.size_alloc] | rewrite [World.size_setCell] | rewrite [World.size_drew])); omega) | (simp; omega) | (simp; done)))
          case measure => simp [intOf]; omega
        · have hk' : k = xs.length := by omega
          have ho2 := ho
          rw [hk', sfhalf_full] at ho2
          have hcl : ∀ (j : Nat) x, (xs.map spartB)[j]? = some x → wr.cell? ⟨w1.heap.size, 0 + j, none⟩ = some (.string x) := fun j x hj => by
            have hjl : j < xs.length := by
              have := (List.getElem?_eq_some_iff.1 hj).1; simpa using this
            rw [Nat.zero_add, ho2.cellAt j (by omega)]
            rw [List.getElem?_map] at hj ⊢
            cases hxj : xs[j]? with
            | none => rw [hxj] at hj; cases hj
            | some m => rw [hxj] at hj; cases hj; rfl
          have hjoin : Lib.join ((xs.map spartB).map (·.data.toList)) (⟨#[59]⟩ : ByteArray).data.toList = sfmtL xs := by
            unfold sfmtL; rw [List.map_map]
            have : ((fun x : ByteArray => x.data.toList) ∘ spartB) = Go.PM.spart := funext spartB_data
            rw [this]
          have hfl := sfmtL_len HOKA.out
          have hJ := Tryz.strings_Join w1.heap.size 0 xs.length (xs.map spartB) ⟨#[59]⟩ wr hcl (own_lt ho).1 (by simp; omega) (by simp) (by rw [hjoin]; omega)
          rw [hjoin, List.length_map, ← hfin.out] at hJ
          have HJ := Lib.hid hJ
          clear hJ hjoin hcl hfl hk' hcell
          go_wp2_with fail
          refine HJ.out.mono ?_
          rintro e w2 ⟨rfl, hb2⟩
          go_wp2
          go_ret
          exact ⟨rfl, hb.trans (hb2.mono hbs)⟩
  · have h2 : Hid (sfmtB xs = ⟨#[]⟩) := sfmtB_no h1
    go_enter Tryz.func16, Tryz.ntmps16
    go_wp2_with fail
    refine (imSequenceValid_c xs _ _ hx).mono ?_
    rintro e w1 ⟨rfl, hb1⟩
    go_wp2
    go_ret
    exact ⟨by rw [h2.out]; rfl, hb1⟩
end Go.Proofs.YtfedloljhocpgaaGreatDoor

