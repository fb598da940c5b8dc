import Derived.Test.YtfedloljhocpgaaGreatDoorNuS
import Derived.Test.YtfedloljhocpgaaGreatDoorShelf
import Derived.Lib.AppendIntMem
namespace Go.PG
open Go.RowKit Go.PM
def nhalf (xs : List Int) (k : Nat) : List Value := (xs.take k).map (fun n => Value.string (itoaB n)) ++ List.replicate (xs.length - k) (Value.string ⟨#[]⟩)
theorem nhalf_at (xs : List Int) (k : Nat) (hk : k < xs.length) : (nhalf xs k)[k]? = some (Value.string ⟨#[]⟩) := by
  have hl : ((xs.take k).map (fun n => Value.string (itoaB n))).length = k := by simp; omega
  obtain ⟨d, hd⟩ : ∃ d, xs.length - k = d + 1 := ⟨xs.length - k - 1, by omega⟩
  unfold nhalf
  rw [List.getElem?_append_right (by omega), hl, Nat.sub_self, hd, List.replicate_succ]; rfl
theorem nhalf_set (xs : List Int) (k : Nat) (hk : k < xs.length) : (nhalf xs k).set k (.string (itoaB xs[k])) = nhalf xs (k+1) := by
  have hl : ((xs.take k).map (fun n => Value.string (itoaB n))).length = k := by simp; omega
  obtain ⟨d, hd⟩ : ∃ d, xs.length - k = d + 1 := ⟨xs.length - k - 1, by omega⟩
  unfold nhalf
  rw [List.set_append_right _ _ (by omega), hl, hd, List.replicate_succ, show xs.length - (k+1) = d by omega, take_snoc xs k hk, Nat.sub_self, List.map_append]
  simp only [List.set_cons_zero, List.map_cons, List.map_nil, List.append_assoc, List.cons_append, List.nil_append]
theorem nhalf_zero (xs : List Int) : nhalf xs 0 = List.replicate xs.length (Value.string ⟨#[]⟩) := by simp [nhalf]
theorem nhalf_full (xs : List Int) : nhalf xs xs.length = xs.map (fun n => Value.string (itoaB n)) := by simp [nhalf]
theorem below_of_grow {w w' : World} {k : Nat} {os : Array Obj} (h : w' = Sort.grow (w.drewN k) os) : Below w.heap.size w w' := by
  subst h; exact Lib.below_grow _ w (Nat.le_refl _) k os
end Go.PG
namespace Go.Proofs.YtfedloljhocpgaaGreatDoor
open Go.RowKit Go.PM Go.PG

def Tp (w : World) : Prop := Lib.TabBelow Tryz.prog w.heap.size w "internal/strconv.uint64pow10" .u64 Lib.pow10Tab
theorem Tp.below {w w' : World} (h : Tp w) (hb : Below w.heap.size w w') : Tp w' := fun w2 h2 => h w2 (hb.trans (h2.mono hb.size))
theorem infoStrN : (Tryz.prog.info? 9).map (fun i => (i.zero, i.size, i.bytes)) = some (some (.string ⟨#[]⟩), 1, 16) := by kernel_rfl
theorem itoa_c (n : Int) (hn : i64ok n) (w : World) (hT : Tp w) :
    Calls Tryz.prog 64 #[.int .i64 n] w fun e w' => e = .returned (.string (itoaB n)) ∧ Below w.heap.size w w' := by
  refine (Tryz.strconv_Itoa n hn.1 hn.2 w hT.here).mono ?_
  rintro e w' ⟨rfl, k, os, h⟩
  exact ⟨rfl, below_of_grow h⟩
set_option maxRecDepth 100000 in
set_option maxHeartbeats 1600000 in
theorem imFormatNumbers_c (xs : List Int) (v : Value) (w : World) (hT : Tp w) (hx : RdI w v xs) (hz : ∀ n ∈ xs, i64ok n) (hn' : xs.length ≤ 1048576) :
    Calls Tryz.prog 19 #[v] w fun e w' => e = .returned (.string (numB xs)) ∧ Below w.heap.size w w' := by
  obtain ⟨A, cap, rfl, hn, hc, hcell⟩ := hx.open
  by_cases hne : xs = []
  · have hfin : Hid (numB xs = ⟨#[45]⟩) := numB_none hne
    have hl0 : (xs.length : Int) = 0 := by rw [hne]; rfl
    have HL := Lib.hid hl0
    have hl : ((xs.length : Int) == 0) = true := by simp [hne]
    clear hne hl0
    go_enter Tryz.func19, Tryz.ntmps19
    go_wp2
    go_ret
    exact ⟨by rw [hfin.out]; rfl, Below.refl _ _⟩
  · have hfin : Hid (numB xs = ⟨(numL xs).toArray⟩) := numB_some hne
    have hpos : 0 < xs.length := List.length_pos_iff.2 hne
    have hl : ((xs.length : Int) == 0) = false := by simp; omega
    clear hne
    obtain ⟨i0, hi0, hz0, hz1, hz2⟩ := info_parts infoStrN
    have hmk := fun W : World => run_make (P := Tryz.prog) W 31 9 i0 _ Tryz.underlying31 hi0 hz0 .i64 .i64 xs.length xs.length (by omega) (Int.le_refl _) (by rw [hz2]; omega) (by omega)
    simp only [Int.toNat_natCast, hz1] at hmk
    have hO := own_made w w.heap.size 9 #[Value.string ⟨#[]⟩] 1 xs.length rfl (by omega) (by omega) (Nat.le_refl _)
    have hB : Below w.heap.size w (w.alloc (Obj.cells (madeCells #[Value.string ⟨#[]⟩] (xs.length * 1)) 9)) := (Below.refl _ _).alloc (Nat.le_refl _) _
    rw [Nat.mul_one] at hO hB
    simp only [Nat.mul_one] at hmk
    go_enter Tryz.func19, Tryz.ntmps19
    go_wp2
    generalize (w.alloc (Obj.cells (madeCells #[Value.string ⟨#[]⟩] xs.length) 9)) = W1 at *
    go_loopw [4, 5, 14] (fun _ _ i wr => ∃ (k : Nat), k ≤ xs.length ∧ i = .int .i64 k ∧ wr.ownsRow w.heap.size 9 1 (.slice (some ⟨w.heap.size, 0, none⟩) xs.length xs.length) xs.length (nhalf xs k) ∧ Below w.heap.size w wr) (fun _ _ i _ => xs.length - (intOf i).toNat)
    case atStart => exact ⟨0, by omega, rfl, by rw [nhalf_zero]; simpa using hO, hB⟩
    case round =>
      obtain ⟨k, hk, rfl, ho, hb⟩ := hrel
      have hbs := hb.size
      by_cases hlt : k < xs.length
      · obtain ⟨b, off, rfl, hbl, hc1⟩ := hcell k hlt
        have hd1 := (hb.cell (p := ⟨b, off + k, none⟩) hbl).trans hc1
        have hok := hz xs[k] (List.getElem_mem hlt)
        have hps := nhalf_set xs k hlt
        have hat := nhalf_at xs k hlt
        have hi := itoa_c xs[k] hok wr (hT.below hb)
        clear hc1 hcell hok
        generalize itoaB xs[k] = s at *
        generalize xs[k] = x at *
        have HPS := Lib.hid hps
        clear hps
        go_wp2_with fail
        refine hi.mono ?_
        rintro e w2 ⟨rfl, hb2⟩
        have hB2 := hb.trans (hb2.mono hbs)
        have ho2 := own_keep ho hb2
        have hol := (own_lt ho2).1
        have hf1 := ho2.frozenAt k
        have hg1 := (ho2.cellAt k (by omega)).trans hat
        have HN := Lib.hid ((ho2.stored k (.string s)).1)
        have HB : Hid (Below w.heap.size w (w2.setCell ⟨w.heap.size, k, none⟩ (.string s))) := hB2.setCell (Nat.le_refl _) _
        go_wp2
        go_roundw
        case rel =>
          refine ⟨k + 1, by omega, by go_num, ?_, HB.out⟩
          rw [← HPS.out]; exact HN.out
        case measure => simp [intOf]; omega
      · have hk' : k = xs.length := by omega
        have ho2 := ho
        rw [hk', nhalf_full] at ho2
        have hcl : ∀ (j : Nat) x, (xs.map itoaB)[j]? = some x → wr.cell? ⟨w.heap.size, 0 + j, none⟩ = some (.string x) := fun j x hj => by
          have hjl : j < xs.length := by
            have := (List.getElem?_eq_some_iff.1 hj).1; simpa using this
          rw [Nat.zero_add, ho2.cellAt j (by omega)]
          rw [List.getElem?_map] at hj ⊢
          cases hxj : xs[j]? with
          | none => rw [hxj] at hj; cases hj
          | some m => rw [hxj] at hj; cases hj; rfl
        have hjoin : Lib.join ((xs.map itoaB).map (·.data.toList)) (⟨#[32]⟩ : ByteArray).data.toList = numL xs := by
          unfold numL; rw [List.map_map]
          have : ((fun x : ByteArray => x.data.toList) ∘ itoaB) = Lib.itoa := funext itoaB_data
          rw [this]
        have hfl := numL_len xs hz
        have hJ := Tryz.strings_Join w.heap.size 0 xs.length (xs.map itoaB) ⟨#[32]⟩ wr hcl (own_lt ho).1 (by simp; omega) (by simp) (by rw [hjoin]; omega)
        rw [hjoin, List.length_map, ← hfin.out] at hJ
        have HJ := Lib.hid hJ
        clear hJ hjoin hcl hfl hk' hcell
        go_wp2_with fail
        refine HJ.out.mono ?_
        rintro e w2 ⟨rfl, hb2⟩
        go_wp2
        go_ret
        exact ⟨rfl, hb.trans (hb2.mono hbs)⟩
end Go.Proofs.YtfedloljhocpgaaGreatDoor

