import Derived.Test.YtjmbmfemlkicmaaDoorNuS
import Derived.Test.YtjmbmfemlkicmaaDoorOpen
import Derived.ChangeSlices
namespace Go.PG
open Go.RowKit Go.PM
def ihalf (xs : List Int) (k : Nat) : List Value := icells (xs.take k) ++ List.replicate (xs.length - k) (Value.int .i64 0)
theorem ihalf_at (xs : List Int) (k : Nat) (hk : k < xs.length) : (ihalf xs k)[k]? = some (Value.int .i64 0) := by
  have hl : (icells (xs.take k)).length = k := by rw [icells_length, List.length_take]; omega
  obtain ⟨d, hd⟩ : ∃ d, xs.length - k = d + 1 := ⟨xs.length - k - 1, by omega⟩
  unfold ihalf
  rw [hd, List.replicate_succ, List.getElem?_append_right (by omega), hl]; simp
theorem ihalf_set (xs : List Int) (k : Nat) (hk : k < xs.length) : (ihalf xs k).set k (.int .i64 xs[k]) = ihalf xs (k+1) := by
  have hl : (icells (xs.take k)).length = k := by rw [icells_length, List.length_take]; omega
  obtain ⟨d, hd⟩ : ∃ d, xs.length - k = d + 1 := ⟨xs.length - k - 1, by omega⟩
  unfold ihalf
  rw [hd, List.replicate_succ, show xs.length - (k+1) = d by omega, take_snoc xs k hk, icells_append, List.set_append_right _ _ (by omega), hl, Nat.sub_self]
  simp [icells]
theorem ihalf_zero (xs : List Int) : ihalf xs 0 = (List.replicate xs.length [Value.int .i64 0]).flatten := by
  unfold ihalf
  rw [List.take_zero, Nat.sub_zero]
  induction xs.length with
  | zero => rfl
  | succ n ih => rw [List.replicate_succ, List.replicate_succ, List.flatten_cons, ← ih]; rfl
theorem ihalf_full (xs : List Int) : ihalf xs xs.length = icells xs := by simp [ihalf]
end Go.PG
namespace Go.Proofs.YtjmbmfemlkicmaaDoor
open Go.RowKit Go.PM Go.PG Go.ChangeShapes Go.WideShapes

theorem infoIn : (Tryd.prog.info? 3).map (fun i => (i.zero, i.size, i.bytes)) = some (some (.int .i64 0), 1, 8) := by kernel_rfl
set_option maxHeartbeats 400000 in
theorem toIntS_c (xs : List Int) (v : Value) (w : World) (hx : RdI w v xs) (hn' : xs.length ≤ 1048576) :
    Calls Tryd.prog 8 #[v] w fun e w' => ∃ v', e = .returned v' ∧ w'.ownsRow w.heap.size 3 1 v' xs.length (icells xs) ∧ Below w.heap.size w w' := by
  obtain ⟨A, cap, rfl, hn, hc, hcell⟩ := hx.open
  obtain ⟨i0, hi0, hz0, hz1, hz2⟩ := info_parts infoIn
  have hmk := fun W : World => run_make (P := Tryd.prog) W 23 3 i0 _ Tryd.underlying23 hi0 hz0 .i64 .i64 xs.length xs.length (by omega) (Int.le_refl _) (by rw [hz2]; omega) (by omega)
  simp only [Int.toNat_natCast, hz1] at hmk
  have hO := own_made w w.heap.size 3 #[Value.int .i64 0] 1 xs.length rfl (by omega) (by omega) (Nat.le_refl _)
  have hB : Below w.heap.size w (w.alloc (Obj.cells (madeCells #[Value.int .i64 0] (xs.length * 1)) 3)) := (Below.refl _ _).alloc (Nat.le_refl _) _
  rw [Nat.mul_one] at hO hB
  simp only [Nat.mul_one] at hmk
  go_enter Tryd.func8, Tryd.ntmps8
  go_wp2
  generalize (w.alloc (Obj.cells (madeCells #[Value.int .i64 0] xs.length) 3)) = W1 at *
  go_loopw [4] (fun i wr => ∃ (k : Nat), k ≤ xs.length ∧ i = .int .i64 k ∧ wr.ownsRow w.heap.size 3 1 (.slice (some ⟨w.heap.size, 0, none⟩) xs.length xs.length) xs.length (ihalf xs k) ∧ Below w.heap.size w wr) (fun i _ => xs.length - (intOf i).toNat)
  case atStart => exact ⟨0, by omega, rfl, by rw [ihalf_zero]; exact hO, hB⟩
  case round =>
    obtain ⟨k, hk, rfl, ho, hb⟩ := hrel
    by_cases hlt : k < xs.length
    · obtain ⟨b, off, rfl, hbl, hc1⟩ := hcell k hlt
      have hd1 := (hb.cell (p := ⟨b, off + k, none⟩) hbl).trans hc1
      clear hc1 hcell
      have hf1 := ho.frozenAt k
      have hg1 := (ho.cellAt k (by omega)).trans (ihalf_at xs k hlt)
      have HS := Lib.hid (ihalf_set xs k hlt)
      have HN := Lib.hid ((ho.stored k (.int .i64 xs[k])).1)
      have HB : Hid (Below w.heap.size w (wr.setCell ⟨w.heap.size, k, none⟩ (.int .i64 xs[k]))) := hb.setCell (Nat.le_refl _) _
      generalize xs[k] = q at *
      go_wp2
      go_roundw
      case rel =>
        refine ⟨k + 1, by omega, by go_num, ?_, ?_⟩
        · rw [← HS.out]; exact HN.out
        · exact HB.out
      case measure => simp [intOf]; omega
    · have hk' : k = xs.length := by omega
      have ho2 := ho
      rw [hk', ihalf_full] at ho2
      go_wp2
      go_ret
      exact ⟨_, rfl, ho2, hb⟩
set_option maxHeartbeats 400000 in
theorem eqIntS_c (xs : List Int) (v u : Value) (w : World) (hx : RdI w v xs) (hy : RdI w u xs) :
    Calls Tryd.prog 9 #[v, u] w fun e w' => e = .returned (.bool true) ∧ Below w.heap.size w w' := by
  obtain ⟨A, cap, rfl, hn, hc, hcell⟩ := hx.open
  obtain ⟨A', cap', rfl, hn', hc', hcell'⟩ := hy.open
  go_enter Tryd.func9, Tryd.ntmps9
  go_wp2
  go_loopw [5] (fun i wr => ∃ (k : Nat), k ≤ xs.length ∧ i = .int .i64 k ∧ Below w.heap.size w wr) (fun i _ => xs.length - (intOf i).toNat)
  case atStart => exact ⟨0, by omega, rfl, Below.refl _ _⟩
  case round =>
    obtain ⟨k, hk, rfl, hb⟩ := hrel
    by_cases hlt : k < xs.length
    · obtain ⟨b, off, rfl, hbl, hc1⟩ := hcell k hlt
      obtain ⟨b', off', rfl, hbl', hc1'⟩ := hcell' k hlt
      have hd1 := (hb.cell (p := ⟨b, off + k, none⟩) hbl).trans hc1
      have hd2 := (hb.cell (p := ⟨b', off' + k, none⟩) hbl').trans hc1'
      clear hc1 hc1' hcell hcell'
      generalize xs[k] = q at *
      go_wp2
      have hx1 : ∀ x : Ext w.heap.size wr, x.val.cell? ⟨b, off + k, none⟩ = some (.int .i64 q) := fun x => (x.property.cell (p := ⟨b, _, none⟩) hbl).trans hd1
      have hx3 : ∀ x : Ext w.heap.size wr, x.val.cell? ⟨b', off' + k, none⟩ = some (.int .i64 q) := fun x => (x.property.cell (p := ⟨b', _, none⟩) hbl').trans hd2
      clear hd1 hd2
      refine wp_region_ext w.heap.size (by kernel_rfl) (by kernel_rfl) ?_
      repeat (go_big_quiet_step (fail))
      refine wpQuiet_nil ?_
      intro w2 hw'
      obtain ⟨xw, hxw⟩ := hw'
      have hb2 := xw.property
      rw [← hxw] at hb2
      clear hxw xw hx1 hx3
      go_wp2
      go_roundw
      case rel => exact ⟨k + 1, by omega, by go_num, hb.trans hb2⟩
      case measure => simp [intOf]; omega
    · go_wp2
      go_ret
      exact ⟨rfl, hb⟩
set_option maxRecDepth 100000 in
theorem open_nums {H : Type} {enc : TypeId × Value → H} {W : World} {base fuel : Nat} {spare : Nat → Bool} {held : Bool} {a : Option Addr} {n c : Nat} {x : DataW H × List MemPlace}
    (h : DataW.trod enc Tryd.prog W base spare held fuel 23 [.slice a n c] = some x) :
    ∃ xs : List Int, RdI W (.slice a n c) xs ∧ ∀ m ∈ xs, i64ok m := by
  rcases Go.ChangeShapes.open_ints Tryd.underlying23 Tryd.underlying3 (by kernel_rfl) h with ⟨hcs, _⟩ | ⟨ad, len, cap, zs, hcs, hb, hl, hm, hmm, hx, hi, hsz⟩
  · simp at hcs
    obtain ⟨rfl, rfl, rfl⟩ := hcs
    exact ⟨[], ⟨none, 0, rfl, by simp, by simp, rfl, by simp⟩, by simp⟩
  · simp at hcs
    obtain ⟨rfl, rfl, rfl⟩ := hcs
    have hM : maxLen = 9223372036854775807 := rfl
    have hml : n ≤ zs.length := by rw [hmm]; split <;> omega
    have htl : (zs.take n).length = n := by rw [List.length_take]; omega
    refine ⟨zs.take n, ?_, fun m hm2 => ?_⟩
    · refine ⟨some ad, c, by rw [htl], by omega, by omega, by rw [icells_length]; omega, fun h0 => ?_⟩
      have h1 := hi 0 (by omega)
      obtain ⟨b, off, spot⟩ := ad
      have hs : spot = none := by
        have := World.cell?_spot h1
        simpa [Addr.add] using this
      subst hs
      have hadd : ∀ o i, (Addr.mk b o none).add i = ⟨b, o + i, none⟩ := fun o i => by
        unfold Addr.add; split
        · next h => subst h; rfl
        · rfl
      refine ⟨b, off, rfl, ?_, fun j u hu => ?_⟩
      · rcases Nat.lt_or_ge b W.heap.size with hlt | hge
        · exact hlt
        · rw [hadd] at h1
          simp [World.cell?, Array.getElem?_eq_none hge] at h1
      · have hj : j < (zs.take n).length := by have := (List.getElem?_eq_some_iff.1 hu).1; rwa [icells_length] at this
        have hc := hi j (by omega)
        rw [hadd] at hc
        rw [hc]
        unfold icells at hu
        rw [List.getElem?_map, List.getElem?_take_of_lt (by omega)] at hu
        rw [← hu, List.getD_eq_getElem?_getD, List.getElem?_eq_getElem (by omega)]
        rfl
    · have := hsz m (List.mem_of_mem_take hm2)
      unfold i64ok
      simpa [Lit.wf, IntKind.min, IntKind.max, IntKind.signed, IntKind.bits] using this
end Go.Proofs.YtjmbmfemlkicmaaDoor
