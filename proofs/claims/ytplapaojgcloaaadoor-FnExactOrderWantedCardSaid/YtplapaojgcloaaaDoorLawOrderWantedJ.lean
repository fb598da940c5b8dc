/- Proved: for every input of the form's own reach the law FnExactOrderWanted answers true and its arguments read afterwards as before; no further condition. -/
import Derived.Test.YtplapaojgcloaaaDoorHar
import Derived.Test.YtplapaojgcloaaaDoorP2
import Derived.Test.YtplapaojgcloaaaDoorApp
import Derived.Test.YtplapaojgcloaaaDoorOpen
import Derived.Test.YtplapaojgcloaaaDoorLate
import Derived.Test.YtplapaojgcloaaaDoorIm3
import Derived.Test.YtplapaojgcloaaaDoorWaJA
import Derived.Test.YtplapaojgcloaaaDoorWaJC
import Derived.Test.YtplapaojgcloaaaDoorWaJB
namespace Go.PM
open Go.RowKit
def mdig : Nat → Nat → List UInt8
  | 0, _ => []
  | f + 1, n => if n = 0 then [] else mdig f (n / 10) ++ [UInt8.ofNat (48 + n % 10)]
def mT (k : Nat) : ByteArray := if k = 0 then ⟨#[109, 48]⟩ else ⟨(109 :: mdig k k).toArray⟩
theorem mdig_zero (f : Nat) : mdig f 0 = [] := by cases f <;> simp [mdig]
theorem mdig_step (f n : Nat) (h : n ≤ f) (h0 : 0 < n) : ∃ f', f = f' + 1 ∧ n / 10 ≤ f' ∧ mdig f n = mdig f' (n / 10) ++ [UInt8.ofNat (48 + n % 10)] := by
  cases f with
  | zero => omega
  | succ f => exact ⟨f, rfl, by omega, by simp [mdig]; omega⟩
end Go.PM
namespace Go.Proofs.YtplapaojgcloaaaDoor
open Go.RowKit Go.PM

theorem conv_one (W : World) (c : Int) : (convert 22 9 (.slice (some ⟨W.heap.size, 0, none⟩) 1 1)).run Tryd.prog (W.alloc (.cells #[.int .u8 c] 5)) =
    .ok (.string ⟨#[UInt8.ofNat c.toNat]⟩) (W.alloc (.cells #[.int .u8 c] 5)) := by
  rw [run_convert_bytes_string _ _ _ _ _ _ _ Tryd.underlying22 Tryd.underlying5 Tryd.underlying9]
  have hl : (loadCells ⟨W.heap.size, 0, none⟩ 1).run Tryd.prog (W.alloc (.cells #[.int .u8 c] 5)) = .ok ([c].map (Value.int .u8)).toArray (W.alloc (.cells #[.int .u8 c] 5)) :=
    run_loadCells_list (P := Tryd.prog) (W.alloc (.cells #[.int .u8 c] 5)) ⟨W.heap.size, 0, none⟩ [Value.int .u8 c] (fun j v hj => by
      cases j with
      | zero =>
        simp [Addr.add] at hj ⊢
        exact hj
      | succ j => simp at hj)
  rw [run_bytesToString (ns := [c]) _ _ _ _ hl]
  rfl

set_option maxRecDepth 100000 in
set_option maxHeartbeats 800000 in
theorem markText_c (k : Nat) (w : World) (h1 : 1 ≤ k) (h2 : k ≤ 8388608) :
    Calls Tryd.prog 82 #[.int .i64 k] w fun e w' => e = .returned (.string (mT k)) ∧ Below w.heap.size w w' := by
  have hp : ¬ (k : Int) ≤ 0 := by omega
  go_enter Tryd.func82, Tryd.ntmps82
  go_wp2
  go_loopw [0, 3] (fun i o wr => ∃ (n f : Nat) (t : ByteArray), i = .int .i64 n ∧ o = .string t ∧ t.size + n ≤ k ∧ n ≤ f ∧ Hid (mdig k k = mdig f n ++ t.data.toList) ∧ Below w.heap.size w wr) (fun i _ _ => (intOf i).toNat)
  case atStart => exact ⟨k, k, ⟨#[]⟩, rfl, rfl, Nat.le_of_eq (Nat.zero_add _), by omega, (List.append_nil _).symm, Below.refl _ _⟩
  case round =>
    obtain ⟨n, f, t, rfl, rfl, hs, hf, hd, hb⟩ := hrel
    have hbs := hb.size
    by_cases h0 : 0 < n
    · obtain ⟨f', hff, hf', hstep⟩ := mdig_step f n hf h0
      have hcv := conv_one wr (48 + (n : Int) % 10)
      have hcn : UInt8.ofNat (48 + (n : Int) % 10).toNat = UInt8.ofNat (48 + n % 10) := by
        rw [show (48 + (n : Int) % 10).toNat = 48 + n % 10 by omega]
      rw [hcn] at hcv
      have HST := Lib.hid hstep
      have HFF := Lib.hid hff
      generalize UInt8.ofNat (48 + n % 10) = c at *
      have hc1 : (⟨#[c]⟩ : ByteArray).size ≤ 1 := Nat.le_refl _
      clear hstep hff hcn
      go_wp2
      go_roundw
      case rel =>
        refine ⟨n / 10, f', _, by go_num, rfl, ?_, hf', ?_, by (repeat' (first | (with_reducible exact Below.refl _ _) | (with_reducible assumption) | (with_reducible refine Below.alloc ?_ ?_ _) | (with_reducible refine Below.drew ?_) | (with_reducible refine Below.setCell ?_ ?_ _) | (with_reducible exact Nat.le_refl _) | omega | ((repeat (first | rewrite [World.size_alloc] | rewrite [World.size_setCell] | rewrite [World.size_drew])); omega) | (simp; omega) | (simp; done)))⟩
        · simp only [ByteArray.size_append]; omega
        · show _ = _
          rw [hd.out, HST.out]; simp
      case measure => simp [intOf]; omega
    · have hn0 : n = 0 := by omega
      have h3 := hd.out
      rw [hn0, mdig_zero, List.nil_append] at h3
      have HT : Hid ((⟨#[109]⟩ : ByteArray) ++ t = mT k) := by
        show _ = _
        unfold mT
        rw [if_neg (by omega), h3]
        exact Go.WideShapes.bytes_inj (by simp)
      clear h3 hn0
      go_wp2
      go_ret
      exact ⟨by rw [← HT.out]; rfl, hb⟩
theorem markText_i (k : Int) (w : World) (h1 : 1 ≤ k) (h2 : k ≤ 8388608) :
    Calls Tryd.prog 82 #[.int .i64 k] w fun e w' => e = .returned (.string (mT k.toNat)) ∧ Below w.heap.size w w' := by
  obtain ⟨n, rfl⟩ := Int.eq_ofNat_of_zero_le (show 0 ≤ k by omega)
  exact markText_c n w (by omega) (by omega)
/-- the cells behind n marked moves, the first mark being number k -/
def marks : Nat → Nat → List Mv
  | 0, _ => []
  | n + 1, k => (mT k, mT (k + 1)) :: marks n (k + 2)
theorem marks_length (n k : Nat) : (marks n k).length = n := by
  induction n generalizing k with
  | zero => rfl
  | succ n ih => simp [marks, ih]
theorem marks_at (n k i : Nat) (h : i < (marks n k).length) : (marks n k)[i] = (mT (k + 2 * i), mT (k + 2 * i + 1)) := by
  induction n generalizing k i with
  | zero => simp [marks] at h
  | succ n ih =>
    cases i with
    | zero => rfl
    | succ i =>
      simp only [marks, List.getElem_cons_succ]
      rw [ih]
      congr 2 <;> omega
/-- the first i of the moves are marked -/
def mmix (xs : List Mv) (i k : Nat) : List Mv := marks i k ++ xs.drop i
theorem marks_snoc (i k : Nat) : marks (i + 1) k = marks i k ++ [(mT (k + 2 * i), mT (k + 2 * i + 1))] := by
  induction i generalizing k with
  | zero => rfl
  | succ i ih =>
    rw [marks, ih (k + 2)]
    simp only [marks, List.cons_append]
    rw [show k + 2 + 2 * i = k + 2 * (i + 1) by omega]
theorem mmix_length (xs : List Mv) (i k : Nat) (h : i ≤ xs.length) : (mmix xs i k).length = xs.length := by
  simp [mmix, marks_length]; omega
theorem mmix_set (xs : List Mv) (i k : Nat) (h : i < xs.length) : ((mcells (mmix xs i k)).set (i * 2) (.string (mT (k + 2 * i)))).set (i * 2 + 1) (.string (mT (k + 2 * i + 1))) = mcells (mmix xs (i + 1) k) := by
  have hl : (mcells (marks i k)).length = i * 2 := by rw [mcells_length, marks_length]
  unfold mmix
  rw [marks_snoc, List.drop_eq_getElem_cons h, mcells_append, mcells_append, mcells_append, mcells_cons]
  rw [List.set_append_right _ _ (by omega), List.set_append_right _ _ (by omega), hl, Nat.sub_self, show i * 2 + 1 - i * 2 = 1 by omega]
  simp [mcells]

set_option maxRecDepth 100000 in
set_option maxHeartbeats 800000 in
theorem markMoveS_c (xs : List Mv) (v : Value) (base : Nat) (k : Int) (w : World) (ho : w.ownsRow base 70 2 v xs.length (mcells xs)) (hn : xs.length ≤ 1048576) (h1 : 1 ≤ k) (hk : k ≤ 4194304) :
    Calls Tryd.prog 33 #[v, .int .i64 k] w fun e w' => e = .returned (.int .i64 (k + 2 * (xs.length : Int))) ∧ w'.ownsRow base 70 2 v xs.length (mcells (marks xs.length k.toNat)) ∧ w.grownBy w' v.ownBlock := by
  by_cases h0 : xs.length = 0
  · have hx : xs = [] := List.length_eq_zero_iff.1 h0
    subst hx
    have ho2 := ho
    obtain ⟨A, cap, rfl, _⟩ := Rd.of_own ho
    have ho3 := Lib.hid ho2
    clear ho ho2
    simp only [List.length_nil]
    go_enter Tryd.func33, Tryd.ntmps33
    go_wp2
    refine wp_loop_rounds 1 ?_
    rw [rounds_succ]
    go_wp2
    go_ret
    exact ⟨by simp, by simpa [marks] using ho3.out, grown_refl _ _⟩
  · obtain ⟨g, cap, rfl, _⟩ := ho.form (by omega)
    have hA0 : (0 : Int) < xs.length := by omega
    clear h0
    go_enter Tryd.func33, Tryd.ntmps33
    go_wp2
    go_loopw [1, 5] (fun m i wr => ∃ (j : Nat), j ≤ xs.length ∧ i = .int .i64 j ∧ m = .int .i64 (k + 2 * (j : Int)) ∧ wr.ownsRow base 70 2 (.slice (some ⟨g, 0, none⟩) xs.length cap) xs.length (mcells (mmix xs j k.toNat)) ∧ w.grownBy wr (some g)) (fun _ i _ => xs.length - (intOf i).toNat)
    case atStart => exact ⟨0, by omega, rfl, by simp, by simpa [mmix, marks] using ho, grown_refl _ _⟩
    case round =>
      obtain ⟨j, hj, rfl, rfl, hr, hg⟩ := hrel
      by_cases hlt : j < xs.length
      · have hms := mmix_set xs j k.toNat hlt
        have hml := mmix_length xs j k.toNat hj
        have HMS := Lib.hid hms
        have hcl : ∀ i, i < xs.length * 2 → ∃ u, (mcells (mmix xs j k.toNat))[i]? = some u := fun i hi => by
          have : i < (mcells (mmix xs j k.toNat)).length := by rw [mcells_length, hml]; exact hi
          exact ⟨_, List.getElem?_eq_getElem this⟩
        obtain ⟨c1, hc1⟩ := hcl (j * 2) (by omega)
        obtain ⟨c2, hc2⟩ := hcl (j * 2 + 1) (by omega)
        have HC := Lib.hid (And.intro hc1 hc2)
        have hlg := (own_lt hr).1
        clear hms hml hcl hc1 hc2
        go_wp2_with fail
        refine (markText_i _ _ (by omega) (by omega)).mono ?_
        rintro e w1 ⟨rfl, hb1⟩
        have hr1 := own_keep hr hb1
        have hf1 := hr1.frozenAt (j * 2)
        have hq1 := (hr1.cellAt (j * 2) (by omega)).trans HC.out.1
        have hg1 := grown_trans hg (grown_below hb1 (some g))
        clear hr hg
        go_wp2_with fail
        have hr2 := (hr1.stored (j * 2) (.string (mT (k + 2 * (j : Int)).toNat))).1
        have hg2 := grown_trans hg1 (hr1.stored (j * 2) (.string (mT (k + 2 * (j : Int)).toNat))).2
        clear hr1 hf1 hq1 hg1
        generalize w1.setCell ⟨g, j * 2, none⟩ (.string (mT (k + 2 * (j : Int)).toNat)) = w2 at *
        refine (markText_i _ _ (by omega) (by omega)).mono ?_
        rintro e w3 ⟨rfl, hb3⟩
        have hr3 := own_keep hr2 hb3
        have hf3 := hr3.frozenAt (j * 2 + 1)
        have hq3 : w3.cell? ⟨g, j * 2 + 1, none⟩ = some c2 := (hr3.cellAt (j * 2 + 1) (by omega)).trans (by rw [List.getElem?_set_ne (by omega)]; exact HC.out.2)
        have hg3 := grown_trans hg2 (grown_below hb3 (some g))
        clear hr2 hg2
        go_wp2
        go_roundw
        case rel =>
          refine ⟨j + 1, by omega, by go_num, by go_num, ?_, ?_⟩
          · rw [← HMS.out]
            have e1 : (k + 2 * (j : Int)).toNat = k.toNat + 2 * j := by omega
            have e2 : (k + 2 * (j : Int) + 1).toNat = k.toNat + 2 * j + 1 := by omega
            have h := (hr3.stored (j * 2 + 1) (.string (mT (k + 2 * (j : Int) + 1).toNat))).1
            rw [e1, e2] at h
            rw [e2]
            exact h
          · exact grown_trans hg3 (hr3.stored (j * 2 + 1) _).2
        case measure => simp [intOf]; omega
      · have hj' : j = xs.length := by omega
        have h3 := hr
        rw [hj'] at h3
        have e3 : mmix xs xs.length k.toNat = marks xs.length k.toNat := by simp [mmix]
        rw [e3] at h3
        have HJ : Hid ((j : Int) = xs.length) := by show _ = _; rw [hj']
        clear hj' e3
        go_wp2
        go_ret
        exact ⟨by rw [← HJ.out]; rfl, h3, hg⟩
set_option maxRecDepth 100000 in
set_option maxHeartbeats 800000 in
theorem heldMoveS_c (n : Nat) (v : Value) (k : Int) (w : World) (hx : RdM w v (marks n k.toNat)) (hn : n ≤ 1048576) (h1 : 1 ≤ k) (hk : k ≤ 4194304) :
    Calls Tryd.prog 34 #[v, .int .i64 k] w fun e w' => e = .returned (.int .i64 (k + 2 * (n : Int))) ∧ Below w.heap.size w w' := by
  obtain ⟨A, cap, hv, hnn, hc, hcell⟩ := hx.open
  rw [marks_length] at hv hnn hc
  subst hv
  go_enter Tryd.func34, Tryd.ntmps34
  go_wp2
  go_loopw [1, 5] (fun m i wr => ∃ (j : Nat), j ≤ n ∧ i = .int .i64 j ∧ m = .int .i64 (k + 2 * (j : Int)) ∧ Below w.heap.size w wr) (fun _ i _ => n - (intOf i).toNat)
  case atStart => exact ⟨0, by omega, rfl, by simp, Below.refl _ _⟩
  case round =>
    obtain ⟨j, hj, rfl, rfl, hb⟩ := hrel
    have hbs := hb.size
    by_cases hlt : j < n
    · obtain ⟨b, off, rfl, hbl, hc1, hc2⟩ := hcell j (by rw [marks_length]; exact hlt)
      rw [marks_at] at hc1 hc2
      have e1 : (k + 2 * (j : Int)).toNat = k.toNat + 2 * j := by omega
      have e2 : (k + 2 * (j : Int) + 1).toNat = k.toNat + 2 * j + 1 := by omega
      rw [← e1] at hc1
      rw [← e2] at hc2
      have hx1 : ∀ x : Ext w.heap.size wr, x.val.cell? ⟨b, off + j * 2, none⟩ = some (.string (mT (k + 2 * (j : Int)).toNat)) := fun x => ((x.property.cell (p := ⟨b, _, none⟩) hbl).trans (hb.cell (p := ⟨b, _, none⟩) hbl)).trans hc1
      clear e1 e2 hcell
      have i0 : (0 : Int) ≤ (j : Int) := by omega
      have i1 : (j : Int) < n := by omega
      go_wp2
      refine wp_region_ext w.heap.size (by kernel_rfl) (by kernel_rfl) ?_
      repeat (go_big_quiet_step ((go_at_call 82; exact ext_call _ hb.size (markText_i _ _ (by omega) (by omega)))))
      refine wpQuiet_nil ?_
      intro w2 hw'
      obtain ⟨xw, hxw⟩ := hw'
      have hb2 := xw.property
      rw [← hxw] at hb2
      clear hxw xw
      have e1 : (k + 2 * (j : Int)).toNat = k.toNat + 2 * j := by omega
      have hbw2 := hb.trans hb2
      have hd2 : w2.cell? ⟨b, off + j * 2 + 1, none⟩ = some (.string (mT (k + 2 * (j : Int) + 1).toNat)) := (hbw2.cell (p := ⟨b, _, none⟩) hbl).trans hc2
      have hx2 : ∀ x : Ext w.heap.size w2, x.val.cell? ⟨b, off + j * 2 + 1, none⟩ = some (.string (mT (k + 2 * (j : Int) + 1).toNat)) := fun x => (x.property.cell (p := ⟨b, _, none⟩) hbl).trans hd2
      clear hx1 hd2 e1 hb2 hc1 hc2
      have hbs2 := hbw2.size
      go_wp2
      refine wp_region_ext w.heap.size (by kernel_rfl) (by kernel_rfl) ?_
      repeat (go_big_quiet_step ((go_at_call 82; exact ext_call _ hbw2.size (markText_i _ _ (by omega) (by omega)))))
      refine wpQuiet_nil ?_
      intro w3 hw'
      obtain ⟨xw, hxw⟩ := hw'
      have hb3 := xw.property
      rw [← hxw] at hb3
      clear hxw xw
      clear hx2
      go_wp2
      go_roundw
      case rel => exact ⟨j + 1, by omega, by go_num, by go_num, hbw2.trans hb3⟩
      case measure => simp [intOf]; omega
    · have HJ : Hid ((j : Int) = n) := by show _ = _; omega
      go_wp2
      go_ret
      exact ⟨by rw [← HJ.out]; rfl, hb⟩
end Go.Proofs.YtplapaojgcloaaaDoor
namespace Go.PM
open Go.RowKit
def ssize : List St → Nat
  | [] => 0
  | x :: xs => x.2.1.size + x.2.2.size + 1 + ssize xs
theorem ssize_len (xs : List St) : xs.length ≤ ssize xs := by
  induction xs with
  | nil => simp [ssize]
  | cons x xs ih => simp only [ssize, List.length_cons]; omega
theorem ssize_append (xs ys : List St) : ssize (xs ++ ys) = ssize xs + ssize ys := by
  induction xs with
  | nil => simp [ssize]
  | cons x xs ih => simp only [List.cons_append, ssize, ih]; omega
theorem ssize_take_succ (xs : List St) (k : Nat) (hk : k < xs.length) : ssize (xs.take (k+1)) = ssize (xs.take k) + xs[k].2.1.size + xs[k].2.2.size + 1 := by
  rw [take_snoc xs k hk, ssize_append]; simp only [ssize]; omega
def zSt : List Value := [.int .i64 0, .string ⟨#[]⟩, .string ⟨#[]⟩]
def shalf (xs : List St) (k : Nat) : List Value := scells (xs.take k) ++ (List.replicate (xs.length - k) zSt).flatten
theorem shalf_at (xs : List St) (k : Nat) (hk : k < xs.length) : (shalf xs k)[k*3]? = some (Value.int .i64 0) ∧ (shalf xs k)[k*3+1]? = some (Value.string ⟨#[]⟩) ∧ (shalf xs k)[k*3+2]? = some (Value.string ⟨#[]⟩) := by
  have hl : (scells (xs.take k)).length = k * 3 := by rw [scells_length, List.length_take]; omega
  obtain ⟨d, hd⟩ : ∃ d, xs.length - k = d + 1 := ⟨xs.length - k - 1, by omega⟩
  unfold shalf
  rw [hd, List.replicate_succ, List.flatten_cons]
  refine ⟨?_, ?_, ?_⟩
  · rw [List.getElem?_append_right (by omega), hl]; simp [zSt]
  · rw [List.getElem?_append_right (by omega), hl, show k * 3 + 1 - k * 3 = 1 by omega]; simp [zSt]
  · rw [List.getElem?_append_right (by omega), hl, show k * 3 + 2 - k * 3 = 2 by omega]; simp [zSt]
theorem shalf_set (xs : List St) (k : Nat) (hk : k < xs.length) : (((shalf xs k).set (k*3) (.int .i64 xs[k].1)).set (k*3+1) (.string xs[k].2.1)).set (k*3+2) (.string xs[k].2.2) = shalf xs (k+1) := by
  have hl : (scells (xs.take k)).length = k * 3 := by rw [scells_length, List.length_take]; omega
  obtain ⟨d, hd⟩ : ∃ d, xs.length - k = d + 1 := ⟨xs.length - k - 1, by omega⟩
  unfold shalf
  rw [hd, List.replicate_succ, List.flatten_cons, show xs.length - (k+1) = d by omega, take_snoc xs k hk, scells_append]
  rw [List.set_append_right _ _ (by omega), List.set_append_right _ _ (by omega), List.set_append_right _ _ (by omega), hl]
  rw [show k * 3 - k * 3 = 0 by omega, show k * 3 + 1 - k * 3 = 1 by omega, show k * 3 + 2 - k * 3 = 2 by omega]
  simp [scells, zSt]
theorem shalf_zero (xs : List St) : shalf xs 0 = (List.replicate xs.length zSt).flatten := by simp [shalf, scells]
theorem shalf_full (xs : List St) : shalf xs xs.length = scells xs := by simp [shalf]
def stEq (k : Int) (a b : ByteArray) (k' : Int) (a' b' : ByteArray) : Bool := decide (k = k' ∧ a = a' ∧ b = b')
end Go.PM
namespace Go.Proofs.YtplapaojgcloaaaDoor
open Go.RowKit Go.PM

set_option maxHeartbeats 400000 in
theorem szStep_c (k : Int) (a b : ByteArray) (left : Int) (w : World) (h0 : 0 ≤ left) (h1 : left ≤ 1048576) (ha : a.size ≤ 9223372036854775807) (hb : b.size ≤ 9223372036854775807) :
    Calls Tryd.prog 89 #[.agg #[.int .i64 k, .string a, .string b], .int .i64 left] w fun e w' => (∃ r : Int, e = .returned (.int .i64 r) ∧ (0 ≤ r → r + a.size + b.size = left) ∧ r ≤ left) ∧ Below w.heap.size w w' := by
  go_enter Tryd.func89, Tryd.ntmps89
  go_wp2_with fail
  refine (szMove_c a b left _ h0 h1 ha hb).mono ?_
  rintro e w1 ⟨⟨r, rfl, hr, hq⟩, hb1⟩
  have HR := Lib.hid hr
  clear hr
  have hb2 : Below w.heap.size w w1 := ((Below.refl _ _).alloc (Nat.le_refl _) _).trans (hb1.mono (by simp))
  by_cases hn : r < 0
  · go_wp2
    go_ret
    exact ⟨⟨-1, rfl, by omega, by omega⟩, hb2⟩
  · go_wp2
    go_ret
    exact ⟨⟨r, rfl, HR.out, hq⟩, hb2⟩
set_option maxHeartbeats 400000 in
theorem szStepS_c (xs : List St) (v : Value) (left : Int) (w : World) (h0 : 0 ≤ left) (h1 : left ≤ 1048576) (hx : RdS w v xs) (hz : ∀ m ∈ xs, m.2.1.size ≤ 9223372036854775807 ∧ m.2.2.size ≤ 9223372036854775807) :
    Calls Tryd.prog 44 #[v, .int .i64 left] w fun e w' => (∃ r : Int, e = .returned (.int .i64 r) ∧ (0 ≤ r → r + ssize xs = left) ∧ r ≤ left) ∧ Below w.heap.size w w' := by
  obtain ⟨A, cap, rfl, hn, hc, hcell⟩ := hx.open
  by_cases c1 : left - (xs.length : Int) < 0
  · go_enter Tryd.func44, Tryd.ntmps44
    go_wp2
    go_ret
    exact ⟨⟨-1, rfl, by omega, by omega⟩, Below.refl _ _⟩
  go_enter Tryd.func44, Tryd.ntmps44
  go_wp2
  go_loopw [1, 5] (fun l i wr => ∃ (k : Nat) (r : Int), k ≤ xs.length ∧ i = .int .i64 k ∧ l = .int .i64 r ∧ 0 ≤ r ∧ r ≤ 1048576 ∧ r ≤ left ∧ Hid (r + ssize (xs.take k) + (xs.length - k) = left) ∧ Below w.heap.size w wr) (fun _ i _ => xs.length - (intOf i).toNat)
  case atStart => exact ⟨0, _, by omega, rfl, rfl, by omega, by omega, by omega, by show _ = _; simp [ssize], Below.refl _ _⟩
  case round =>
    obtain ⟨k, r, hk, rfl, rfl, hr0, hr1, hr2, hr3, hb⟩ := hrel
    by_cases hlt : k < xs.length
    · obtain ⟨b, off, rfl, hbl, hc1, hc2, hc3⟩ := hcell k hlt
      have hd1 := (hb.cell (p := ⟨b, off + k * 3, none⟩) hbl).trans hc1
      have hd2 := (hb.cell (p := ⟨b, off + k * 3 + 1, none⟩) hbl).trans hc2
      have hd3 := (hb.cell (p := ⟨b, off + k * 3 + 2, none⟩) hbl).trans hc3
      have hzz := hz xs[k] (List.getElem_mem hlt)
      clear hc1 hc2 hc3
      have hts := ssize_take_succ xs k hlt
      have HR : Hid (∀ r' : Int, r' + (xs[k].2.1.size : Int) + xs[k].2.2.size = r → r' + ssize (xs.take (k+1)) + (xs.length - ((k + 1 : Nat) : Int)) = left) := by
        intro r' h'; have := hr3; unfold Hid at this; rw [hts]; push_cast; omega
      clear hts hcell
      go_wp2_with fail
      refine (szStep_c _ _ _ r _ hr0 hr1 hzz.1 hzz.2).mono ?_
      rintro e w' ⟨⟨r', rfl, hr4, hr5⟩, hb'⟩
      have hr6 := Lib.hid hr4; clear hr4
      by_cases hneg : r' < 0
      · go_wp2
        go_ret
        exact ⟨⟨-1, rfl, by omega, by omega⟩, hb.trans (hb'.mono hb.size)⟩
      · go_wp2
        go_roundw
        case rel => exact ⟨k + 1, r', by omega, by go_num, rfl, by omega, by omega, by omega, HR.out _ (hr6.out (by omega)), hb.trans (hb'.mono hb.size)⟩
        case measure => simp [intOf]; omega
    · have hk' : k = xs.length := by omega
      have hr3' := hr3.out
      rw [hk', List.take_of_length_le (Nat.le_refl _)] at hr3'
      have HR : Hid (r + (ssize xs : Int) = left) := by show _ = _; omega
      clear hr3' hk'
      go_wp2
      go_ret
      exact ⟨⟨r, rfl, fun _ => HR.out, hr2⟩, hb⟩
theorem toStep_c (k : Int) (a b : ByteArray) (w : World) :
    Calls Tryd.prog 90 #[.agg #[.int .i64 k, .string a, .string b]] w fun e w' => e = .returned (.agg #[.int .i64 k, .string a, .string b]) ∧ Below w.heap.size w w' := by
  have hA1 : At (((w.alloc (.cells #[.int .i64 k, .string a, .string b] 119)).alloc (.cells #[.int .i64 0, .string ⟨#[]⟩, .string ⟨#[]⟩] 72)).alloc (.cells #[.int .i64 k, .string ⟨#[]⟩, .string ⟨#[]⟩] 72)) (w.heap.size + 1) 72 #[.int .i64 0, .string ⟨#[]⟩, .string ⟨#[]⟩] := by
    have := At.new (w.alloc (.cells #[.int .i64 k, .string a, .string b] 119)) 72 #[.int .i64 0, .string ⟨#[]⟩, .string ⟨#[]⟩]
    rw [World.size_alloc] at this; exact this.alloc _
  have hA2 : At (((w.alloc (.cells #[.int .i64 k, .string a, .string b] 119)).alloc (.cells #[.int .i64 0, .string ⟨#[]⟩, .string ⟨#[]⟩] 72)).alloc (.cells #[.int .i64 k, .string ⟨#[]⟩, .string ⟨#[]⟩] 72)) (w.heap.size + 1 + 1) 72 #[.int .i64 k, .string ⟨#[]⟩, .string ⟨#[]⟩] := by
    have := At.new ((w.alloc (.cells #[.int .i64 k, .string a, .string b] 119)).alloc (.cells #[.int .i64 0, .string ⟨#[]⟩, .string ⟨#[]⟩] 72)) 72 #[.int .i64 k, .string ⟨#[]⟩, .string ⟨#[]⟩]
    rwa [World.size_alloc, World.size_alloc] at this
  go_enter Tryd.func90, Tryd.ntmps90
  go_wp2_with fail
  refine (toMove_c a b _).mono ?_
  rintro e w1 ⟨rfl, hb1⟩
  have k1 := hA1.keep hb1
  have k2 := hA2.keep hb1
  have hB : Below w.heap.size w w1 := Below.trans (by (repeat' (first | (with_reducible exact Below.refl _ _) | (with_reducible assumption) | (with_reducible refine Below.alloc ?_ ?_ _) | (with_reducible refine Below.drew ?_) | (with_reducible refine Below.setCell ?_ ?_ _) | (with_reducible exact Nat.le_refl _) | omega | ((repeat (first | rewrite [World.size_alloc] | rewrite [World.size_setCell] | rewrite [World.size_drew])); omega) | (simp; omega) | (simp; done)))) (hb1.mono (by simp; omega))
  have hl1 := k1.lt
  have hl2 := k2.lt
  clear hA1 hA2
  have q1 : w1.cell? ⟨w.heap.size + 1, 0, none⟩ = some (.int .i64 0) := k1.cell 0
  have q2 : w1.cell? ⟨w.heap.size + 1, 1, none⟩ = some (.string ⟨#[]⟩) := k1.cell 1
  have q3 : w1.cell? ⟨w.heap.size + 1, 2, none⟩ = some (.string ⟨#[]⟩) := k1.cell 2
  have q4 : w1.cell? ⟨w.heap.size + 1 + 1, 0, none⟩ = some (.int .i64 k) := k2.cell 0
  have q5 : w1.cell? ⟨w.heap.size + 1 + 1, 1, none⟩ = some (.string ⟨#[]⟩) := k2.cell 1
  have q6 : w1.cell? ⟨w.heap.size + 1 + 1, 2, none⟩ = some (.string ⟨#[]⟩) := k2.cell 2
  have z1 := k1.frozen 0
  have z2 := k1.frozen 1
  have z3 := k1.frozen 2
  have z4 := k2.frozen 0
  have z5 := k2.frozen 1
  have z6 := k2.frozen 2
  clear k1 k2
  go_wp2
  refine bodyPost_ret (v := .agg #[.int .i64 k, .string a, .string b]) (by simp [results, Tryd.results90, go_sem, q1, q2, q3]) rfl ⟨rfl, ?_⟩
  (repeat' (first | (with_reducible exact Below.refl _ _) | (with_reducible assumption) | (with_reducible refine Below.alloc ?_ ?_ _) | (with_reducible refine Below.drew ?_) | (with_reducible refine Below.setCell ?_ ?_ _) | (with_reducible exact Nat.le_refl _) | omega | ((repeat (first | rewrite [World.size_alloc] | rewrite [World.size_setCell] | rewrite [World.size_drew])); omega) | (simp; omega) | (simp; done)))
theorem infoSt : (Tryd.prog.info? 72).map (fun i => (i.zero, i.size, i.bytes)) = some (some (.agg #[.int .i64 0, .string ⟨#[]⟩, .string ⟨#[]⟩]), 3, 40) := by kernel_rfl

set_option maxHeartbeats 400000 in
theorem toStepS_c (xs : List St) (v : Value) (w : World) (hx : RdS w v xs) (hn' : xs.length ≤ 1048576) :
    Calls Tryd.prog 45 #[v] w fun e w' => ∃ v', e = .returned v' ∧ w'.ownsRow w.heap.size 72 3 v' xs.length (scells xs) ∧ Below w.heap.size w w' := by
  obtain ⟨A, cap, rfl, hn, hc, hcell⟩ := hx.open
  obtain ⟨i0, hi0, hz0, hz1, hz2⟩ := info_parts infoSt
  have hmk := fun W : World => run_make (P := Tryd.prog) W 23 72 i0 _ Tryd.underlying23 hi0 hz0 .i64 .i64 xs.length xs.length (by omega) (Int.le_refl _) (by rw [hz2]; omega) (by omega)
  simp only [Int.toNat_natCast, hz1] at hmk
  have hO := own_made w w.heap.size 72 #[Value.int .i64 0, Value.string ⟨#[]⟩, Value.string ⟨#[]⟩] 3 xs.length rfl (by omega) (by omega) (Nat.le_refl _)
  have hB : Below w.heap.size w (w.alloc (Obj.cells (madeCells #[Value.int .i64 0, Value.string ⟨#[]⟩, Value.string ⟨#[]⟩] (xs.length * 3)) 72)) := (Below.refl _ _).alloc (Nat.le_refl _) _
  go_enter Tryd.func45, Tryd.ntmps45
  go_wp2
  generalize (w.alloc (Obj.cells (madeCells #[Value.int .i64 0, Value.string ⟨#[]⟩, Value.string ⟨#[]⟩] (xs.length * 3)) 72)) = W1 at *
  go_loopw [4] (fun i wr => ∃ (k : Nat), k ≤ xs.length ∧ i = .int .i64 k ∧ wr.ownsRow w.heap.size 72 3 (.slice (some ⟨w.heap.size, 0, none⟩) xs.length xs.length) xs.length (shalf xs k) ∧ Below w.heap.size w wr) (fun i _ => xs.length - (intOf i).toNat)
  case atStart => exact ⟨0, by omega, rfl, by rw [shalf_zero]; exact hO, hB⟩
  case round =>
    obtain ⟨k, hk, rfl, ho, hb⟩ := hrel
    by_cases hlt : k < xs.length
    · obtain ⟨b, off, rfl, hbl, hc1, hc2, hc3⟩ := hcell k hlt
      have hd1 := (hb.cell (p := ⟨b, off + k * 3, none⟩) hbl).trans hc1
      have hd2 := (hb.cell (p := ⟨b, off + k * 3 + 1, none⟩) hbl).trans hc2
      have hd3 := (hb.cell (p := ⟨b, off + k * 3 + 2, none⟩) hbl).trans hc3
      clear hc1 hc2 hc3 hcell
      go_wp2_with fail
      refine (toStep_c _ _ _ _).mono ?_
      rintro e w' ⟨rfl, hb'⟩
      have ho' := own_keep ho hb'
      have hf1 := ho'.frozenAt (k * 3)
      have hf2 := ho'.frozenAt (k * 3 + 1)
      have hf3 := ho'.frozenAt (k * 3 + 2)
      have hg1 := (ho'.cellAt (k * 3) (by omega)).trans (shalf_at xs k hlt).1
      have hg2 := (ho'.cellAt (k * 3 + 1) (by omega)).trans (shalf_at xs k hlt).2.1
      have hg3 := (ho'.cellAt (k * 3 + 2) (by omega)).trans (shalf_at xs k hlt).2.2
      go_wp2
      go_roundw
      case rel =>
        refine ⟨k + 1, by omega, by go_num, ?_, ?_⟩
        · rw [← shalf_set xs k hlt]
          exact (((ho'.stored (k * 3) _).1.stored (k * 3 + 1) _).1.stored (k * 3 + 2) _).1
        · exact ((((hb.trans (hb'.mono hb.size)).setCell (Nat.le_refl _) _).setCell (Nat.le_refl _) _).setCell (Nat.le_refl _) _)
      case measure => simp [intOf]; omega
    · have hk' : k = xs.length := by omega
      have ho2 := ho
      rw [hk', shalf_full] at ho2
      go_wp2
      go_ret
      exact ⟨_, rfl, ho2, hb⟩
set_option maxHeartbeats 400000 in
theorem eqStep_c (k : Int) (a b : ByteArray) (k' : Int) (c d : ByteArray) (w : World) :
    Calls Tryd.prog 88 #[.agg #[.int .i64 k, .string a, .string b], .agg #[.int .i64 k', .string c, .string d]] w fun e w' => e = .returned (.bool (stEq k a b k' c d)) ∧ Below w.heap.size w w' := by
  have HS : Hid (stEq k a b k' c d = (decide (k = k') && mvEq a b c d)) := by show _ = _; simp [stEq, mvEq]
  by_cases hk : k = k'
  · have e1 : (k != k') = false := by simp [hk]
    have HK := Lib.hid hk
    clear hk
    rcases Bool.eq_false_or_eq_true (mvEq a b c d) with hm | hm
    all_goals
      go_enter Tryd.func88, Tryd.ntmps88
      go_wp2_with fail
      refine (eqMove_c a b c d _).mono ?_
      rintro e w1 ⟨rfl, hb1⟩
      rw [hm]
      have hB : Below w.heap.size w w1 := Below.trans (by (repeat' (first | (with_reducible exact Below.refl _ _) | (with_reducible assumption) | (with_reducible refine Below.alloc ?_ ?_ _) | (with_reducible refine Below.drew ?_) | (with_reducible refine Below.setCell ?_ ?_ _) | (with_reducible exact Nat.le_refl _) | omega | ((repeat (first | rewrite [World.size_alloc] | rewrite [World.size_setCell] | rewrite [World.size_drew])); omega) | (simp; omega) | (simp; done)))) (hb1.mono (by simp; omega))
      go_wp2
      go_ret
      exact ⟨by rw [HS.out, hm, decide_eq_true HK.out]; rfl, hB⟩
  · have e1 : (k != k') = true := by simp [hk]
    have HK := Lib.hid hk
    clear hk
    go_enter Tryd.func88, Tryd.ntmps88
    go_wp2
    go_ret
    exact ⟨by rw [HS.out, decide_eq_false HK.out]; rfl, by (repeat' (first | (with_reducible exact Below.refl _ _) | (with_reducible assumption) | (with_reducible refine Below.alloc ?_ ?_ _) | (with_reducible refine Below.drew ?_) | (with_reducible refine Below.setCell ?_ ?_ _) | (with_reducible exact Nat.le_refl _) | omega | ((repeat (first | rewrite [World.size_alloc] | rewrite [World.size_setCell] | rewrite [World.size_drew])); omega) | (simp; omega) | (simp; done)))⟩
end Go.Proofs.YtplapaojgcloaaaDoor
namespace Go.PM
open Go.RowKit
/-- the cells behind n marked steps, the first mark being number k -/
def smarks : Nat → Nat → List St
  | 0, _ => []
  | n + 1, k => ((k : Int), mT (k + 1), mT (k + 2)) :: smarks n (k + 3)
theorem smarks_length (n k : Nat) : (smarks n k).length = n := by
  induction n generalizing k with
  | zero => rfl
  | succ n ih => simp [smarks, ih]
theorem smarks_at (n k i : Nat) (h : i < (smarks n k).length) : (smarks n k)[i] = (((k + 3 * i : Nat) : Int), mT (k + 3 * i + 1), mT (k + 3 * i + 2)) := by
  induction n generalizing k i with
  | zero => simp [smarks] at h
  | succ n ih =>
    cases i with
    | zero => rfl
    | succ i =>
      simp only [smarks, List.getElem_cons_succ]
      rw [ih, show k + 3 + 3 * i = k + 3 * (i + 1) by omega]
def smix (xs : List St) (i k : Nat) : List St := smarks i k ++ xs.drop i
theorem smarks_snoc (i k : Nat) : smarks (i + 1) k = smarks i k ++ [(((k + 3 * i : Nat) : Int), mT (k + 3 * i + 1), mT (k + 3 * i + 2))] := by
  induction i generalizing k with
  | zero => rfl
  | succ i ih =>
    rw [smarks, ih (k + 3)]
    simp only [smarks, List.cons_append]
    rw [show k + 3 + 3 * i = k + 3 * (i + 1) by omega]
theorem smix_length (xs : List St) (i k : Nat) (h : i ≤ xs.length) : (smix xs i k).length = xs.length := by
  simp [smix, smarks_length]; omega
theorem smix_set (xs : List St) (i k : Nat) (h : i < xs.length) : (((scells (smix xs i k)).set (i * 3) (.int .i64 ((k + 3 * i : Nat) : Int))).set (i * 3 + 1) (.string (mT (k + 3 * i + 1)))).set (i * 3 + 2) (.string (mT (k + 3 * i + 2))) = scells (smix xs (i + 1) k) := by
  have hl : (scells (smarks i k)).length = i * 3 := by rw [scells_length, smarks_length]
  unfold smix
  rw [smarks_snoc, List.drop_eq_getElem_cons h, scells_append, scells_append, scells_append, scells_cons]
  rw [List.set_append_right _ _ (by omega), List.set_append_right _ _ (by omega), List.set_append_right _ _ (by omega), hl, Nat.sub_self, show i * 3 + 1 - i * 3 = 1 by omega, show i * 3 + 2 - i * 3 = 2 by omega]
  simp [scells]
end Go.PM
namespace Go.Proofs.YtplapaojgcloaaaDoor
open Go.RowKit Go.PM

set_option maxRecDepth 100000 in
set_option maxHeartbeats 400000 in
theorem eqStepS_c (xs ys : List St) (v u : Value) (w : World) (hx : RdS w v xs) (hy : RdS w u ys) :
    Calls Tryd.prog 41 #[v, u] w fun e w' => e = .returned (.bool (decide (xs = ys))) ∧ Below w.heap.size w w' := by
  obtain ⟨A, cap, rfl, hn, hc, hcell⟩ := hx.open
  obtain ⟨A', cap', rfl, hn', hc', hcell'⟩ := hy.open
  by_cases hl : xs.length = ys.length
  · have hl1 : ((xs.length : Int) == ys.length) = true := by simp [hl]
    have hl2 := Lib.hid hl
    clear hl
    go_enter Tryd.func41, Tryd.ntmps41
    go_wp2
    go_loopw [5] (fun i wr => ∃ (k : Nat), k ≤ xs.length ∧ i = .int .i64 k ∧ Hid (xs.take k = ys.take k) ∧ Below w.heap.size w wr) (fun i _ => xs.length - (intOf i).toNat)
    case atStart => exact ⟨0, by omega, rfl, by show _ = _; simp, Below.refl _ _⟩
    case round =>
      obtain ⟨k, hk, rfl, ht, hb⟩ := hrel
      by_cases hlt : k < xs.length
      · obtain ⟨b, off, rfl, hbl, hc1, hc2, hc3⟩ := hcell k hlt
        obtain ⟨b', off', rfl, hbl', hc1', hc2', hc3'⟩ := hcell' k (by have := hl2.out; omega)
        have hlt2 : k < ys.length := by have := hl2.out; omega
        have HE : Hid (∀ h : stEq xs[k].1 xs[k].2.1 xs[k].2.2 ys[k].1 ys[k].2.1 ys[k].2.2 = true, xs[k] = ys[k]) := fun h => by
          simp [stEq] at h
          exact Prod.ext h.1 (Prod.ext h.2.1 h.2.2)
        have HN : Hid (stEq xs[k].1 xs[k].2.1 xs[k].2.2 ys[k].1 ys[k].2.1 ys[k].2.2 = false → ¬ xs = ys) := fun h e => by
          subst e; simp [stEq] at h
        have HT : Hid (xs[k] = ys[k] → xs.take (k + 1) = ys.take (k + 1)) := fun h => by rw [take_snoc xs k hlt, take_snoc ys k hlt2, ht.out, h]
        have hx1 : ∀ x : Ext w.heap.size wr, x.val.cell? ⟨b, off + k * 3, none⟩ = some (.int .i64 xs[k].1) := fun x => ((x.property.cell (p := ⟨b, _, none⟩) hbl).trans (hb.cell (p := ⟨b, _, none⟩) hbl)).trans hc1
        have hx2 : ∀ x : Ext w.heap.size wr, x.val.cell? ⟨b, off + k * 3 + 1, none⟩ = some (.string xs[k].2.1) := fun x => ((x.property.cell (p := ⟨b, _, none⟩) hbl).trans (hb.cell (p := ⟨b, _, none⟩) hbl)).trans hc2
        have hx3 : ∀ x : Ext w.heap.size wr, x.val.cell? ⟨b, off + k * 3 + 2, none⟩ = some (.string xs[k].2.2) := fun x => ((x.property.cell (p := ⟨b, _, none⟩) hbl).trans (hb.cell (p := ⟨b, _, none⟩) hbl)).trans hc3
        have hx4 : ∀ x : Ext w.heap.size wr, x.val.cell? ⟨b', off' + k * 3, none⟩ = some (.int .i64 ys[k].1) := fun x => ((x.property.cell (p := ⟨b', _, none⟩) hbl').trans (hb.cell (p := ⟨b', _, none⟩) hbl')).trans hc1'
        have hx5 : ∀ x : Ext w.heap.size wr, x.val.cell? ⟨b', off' + k * 3 + 1, none⟩ = some (.string ys[k].2.1) := fun x => ((x.property.cell (p := ⟨b', _, none⟩) hbl').trans (hb.cell (p := ⟨b', _, none⟩) hbl')).trans hc2'
        have hx6 : ∀ x : Ext w.heap.size wr, x.val.cell? ⟨b', off' + k * 3 + 2, none⟩ = some (.string ys[k].2.2) := fun x => ((x.property.cell (p := ⟨b', _, none⟩) hbl').trans (hb.cell (p := ⟨b', _, none⟩) hbl')).trans hc3'
        clear hc1 hc2 hc3 hcell hc1' hc2' hc3' hcell'
        have i0 : (0 : Int) ≤ (k : Int) := by omega
        have i1 : (k : Int) < xs.length := by omega
        have i2 : (k : Int) < ys.length := by omega
        generalize xs[k].1 = x1 at *
        generalize xs[k].2.1 = x2 at *
        generalize xs[k].2.2 = x3 at *
        generalize ys[k].1 = y1 at *
        generalize ys[k].2.1 = y2 at *
        generalize ys[k].2.2 = y3 at *
        have hE := fun W => eqStep_c x1 x2 x3 y1 y2 y3 W
        generalize stEq x1 x2 x3 y1 y2 y3 = q at *
        go_wp2
        refine wp_region_ext w.heap.size (by kernel_rfl) (by kernel_rfl) ?_
        repeat (go_big_quiet_step ((go_at_call 88; exact ext_call _ hb.size (hE _))))
        refine wpQuiet_nil ?_
        intro w2 hw'
        obtain ⟨xw, hxw⟩ := hw'
        have hb2 := xw.property
        rw [← hxw] at hb2
        clear hxw xw
        clear hx1 hx2 hx3 hx4 hx5 hx6 hE
        rcases q with _ | _
        · have HD : Hid (decide (xs = ys) = false) := decide_eq_false (HN.out rfl)
          go_wp2
          go_ret
          exact ⟨by rw [HD.out]; rfl, hb.trans hb2⟩
        · have HD : Hid (xs.take (k + 1) = ys.take (k + 1)) := HT.out (HE.out rfl)
          go_wp2
          go_roundw
          case rel => exact ⟨k + 1, by omega, by go_num, HD, hb.trans hb2⟩
          case measure => simp [intOf]; omega
      · have hk' : k = xs.length := by omega
        have h2 := ht.out
        have h3 := hl2.out
        rw [hk', List.take_of_length_le (Nat.le_refl _), List.take_of_length_le (by omega)] at h2
        have H2 := Lib.hid h2
        clear h2 h3 hk'
        go_wp2
        go_ret
        exact ⟨by simp [H2.out], hb⟩
  · go_enter Tryd.func41, Tryd.ntmps41
    go_wp2
    · go_ret
      exact ⟨by simp; intro h; subst h; simp at hl, Below.refl _ _⟩
theorem rdS_mk {w : World} {ad : Addr} {cap : Nat} (xs : List St) (hc : xs.length ≤ cap) (hn : xs.length ≤ 9223372036854775807)
    (h : ∀ i (hi : i < xs.length), w.cell? (ad.add (i * 3)) = some (.int .i64 xs[i].1) ∧ w.cell? ((ad.add (i * 3)).add 1) = some (.string xs[i].2.1) ∧ w.cell? ((ad.add (i * 3)).add 2) = some (.string xs[i].2.2)) : RdS w (.slice (some ad) xs.length cap) xs := by
  refine ⟨some ad, cap, rfl, hc, hn, scells_length xs, fun h0 => ?_⟩
  have h1 := (h 0 h0).1
  obtain ⟨b, off, spot⟩ := ad
  have hs : spot = none := by
    have := World.cell?_spot h1
    simpa [Addr.add] using this
  subst hs
  have hadd : ∀ o i, (Addr.mk b o none).add i = ⟨b, o + i, none⟩ := fun o i => by
    unfold Addr.add; split
    · next h => subst h; rfl
    · rfl
  refine ⟨b, off, rfl, ?_, fun j u hu => ?_⟩
  · rcases Nat.lt_or_ge b w.heap.size with hlt | hge
    · exact hlt
    · rw [hadd] at h1
      simp [World.cell?, Array.getElem?_eq_none hge] at h1
  · have hj : j < xs.length * 3 := by rw [← scells_length]; exact (List.getElem?_eq_some_iff.1 hu).1
    have hk : j / 3 < xs.length := by omega
    have hm := scells_at xs (j / 3) _ (List.getElem?_eq_getElem hk)
    have hh := h (j / 3) hk
    rw [hadd, hadd, hadd] at hh
    have h3 : j % 3 = 0 ∨ j % 3 = 1 ∨ j % 3 = 2 := by omega
    rcases h3 with h0 | h0 | h0
    · have e : j / 3 * 3 = j := by omega
      rw [e] at hm hh
      rw [hm.1] at hu
      rw [hh.1, hu]
    · have e : j / 3 * 3 + 1 = j := by omega
      rw [e] at hm
      rw [Nat.add_assoc, e] at hh
      rw [hm.2.1] at hu
      rw [hh.2.1, hu]
    · have e : j / 3 * 3 + 2 = j := by omega
      rw [e] at hm
      have h4 := hh.2.2
      rw [Nat.add_assoc, e] at h4
      rw [hm.2.2] at hu
      rw [h4, hu]
open Go.ChangeShapes Go.WideShapes Go.Deep in
set_option maxRecDepth 100000 in
theorem open_steps {H : Type} {enc : TypeId × Value → H} {W : World} {base fuel : Nat} {spare : Nat → Bool} {held : Bool} {a : Option Addr} {n c : Nat} {x : DataW H × List MemPlace}
    (h : DataW.trod enc Tryd.prog W base spare held fuel 52 [.slice a n c] = some x) :
    ∃ xs : List St, RdS W (.slice a n c) xs ∧ ∀ m ∈ xs, m.2.1.size ≤ 9223372036854775807 ∧ m.2.2.size ≤ 9223372036854775807 := by
  rcases open_slice Tryd.underlying52 h with ⟨hcs, _⟩ | ⟨ad, len, cap, m, k, D, Pl, hcs, hb, hl, hm, hmm, hx, hi⟩
  · simp at hcs
    obtain ⟨rfl, rfl, rfl⟩ := hcs
    exact ⟨[], ⟨none, 0, rfl, by simp, by simp, rfl, by simp⟩, by simp⟩
  · simp at hcs
    obtain ⟨rfl, rfl, rfl⟩ := hcs
    have hC : Tryd.prog.cellsOf 119 = 3 := by kernel_rfl
    have hC2 : Tryd.prog.cellsOf 103 = 2 := by kernel_rfl
    have hml : n ≤ m := by rw [hmm]; split <;> omega
    have hM : maxLen = 9223372036854775807 := rfl
    obtain ⟨xs, hxl, hxs⟩ := exists_list (fun i (m : St) => W.cell? (ad.add (i * 3)) = some (.int .i64 m.1) ∧ W.cell? ((ad.add (i * 3)).add 1) = some (.string m.2.1) ∧ W.cell? ((ad.add (i * 3)).add 2) = some (.string m.2.2) ∧ m.2.1.size ≤ 9223372036854775807 ∧ m.2.2.size ≤ 9223372036854775807) n (fun i hin => by
      obtain ⟨cs', hc', ht⟩ := hi i (by omega)
      rw [hC] at hc'
      obtain ⟨y0, y1, k', _, hlen, h0, h1⟩ := trod_struct2 Tryd.underlying119 ht
      obtain ⟨_, hcl, hat⟩ := World.cells?_some hc'
      rw [hC] at hlen
      match cs', hlen with
      | [c0, c1, c2], _ =>
        have e0 : Tryd.prog.cellsOf 9 = 1 := by kernel_rfl
        have e1 : Tryd.prog.cellsOf 3 = 1 := by kernel_rfl
        simp only [e1, hC2] at h0 h1
        simp at h0 h1
        obtain ⟨z0, z1, k2, _, hlen2, g0, g1⟩ := trod_struct2 Tryd.underlying103 h1
        simp only [e0] at g0 g1
        simp at g0 g1
        obtain ⟨kk, hk, _, _⟩ := DataW.trod_int Tryd.underlying3 h0
        obtain ⟨s, hs, _, hs1⟩ := DataW.trod_string Tryd.underlying9 g0
        obtain ⟨t, hta, _, ht1⟩ := DataW.trod_string Tryd.underlying9 g1
        simp at hk hs hta
        subst hk hs hta
        refine ⟨(kk, s, t), ?_, ?_, ?_, hM ▸ hs1, hM ▸ ht1⟩
        · have := hat 0 (by omega)
          simpa [Addr.add] using this
        · have := hat 1 (by omega)
          simpa using this
        · have := hat 2 (by omega)
          simpa using this)
    subst hxl
    refine ⟨xs, rdS_mk xs hl (by omega) fun i hi => ⟨(hxs i hi).1, (hxs i hi).2.1, (hxs i hi).2.2.1⟩, fun m hm => ?_⟩
    obtain ⟨i, hi, rfl⟩ := List.getElem_of_mem hm
    exact (hxs i hi).2.2.2
end Go.Proofs.YtplapaojgcloaaaDoor
namespace Go.Proofs.YtplapaojgcloaaaDoor
open Go.RowKit Go.PM

set_option maxRecDepth 100000 in
set_option maxHeartbeats 1600000 in
theorem markStepS_c (xs : List St) (v : Value) (base : Nat) (k : Int) (w : World) (ho : w.ownsRow base 72 3 v xs.length (scells xs)) (hn : xs.length ≤ 1048576) (h1 : 1 ≤ k) (hk : k ≤ 2097152) :
    Calls Tryd.prog 42 #[v, .int .i64 k] w fun e w' => e = .returned (.int .i64 (k + 3 * (xs.length : Int))) ∧ w'.ownsRow base 72 3 v xs.length (scells (smarks xs.length k.toNat)) ∧ w.grownBy w' v.ownBlock := by
  by_cases h0 : xs.length = 0
  · have hx : xs = [] := List.length_eq_zero_iff.1 h0
    subst hx
    have ho2 := ho
    obtain ⟨A, cap, rfl, _⟩ := Rd.of_own ho
    have ho3 := Lib.hid ho2
    clear ho ho2
    simp only [List.length_nil]
    go_enter Tryd.func42, Tryd.ntmps42
    go_wp2
    refine wp_loop_rounds 1 ?_
    rw [rounds_succ]
    go_wp2
    go_ret
    exact ⟨by simp, by simpa [smarks] using ho3.out, grown_refl _ _⟩
  · obtain ⟨g, cap, rfl, _⟩ := ho.form (by omega)
    have hA0 : (0 : Int) < xs.length := by omega
    clear h0
    go_enter Tryd.func42, Tryd.ntmps42
    go_wp2
    go_loopw [1, 5] (fun m i wr => ∃ (j : Nat), j ≤ xs.length ∧ i = .int .i64 j ∧ m = .int .i64 (k + 3 * (j : Int)) ∧ wr.ownsRow base 72 3 (.slice (some ⟨g, 0, none⟩) xs.length cap) xs.length (scells (smix xs j k.toNat)) ∧ w.grownBy wr (some g)) (fun _ i _ => xs.length - (intOf i).toNat)
    case atStart => exact ⟨0, by omega, rfl, by simp, by simpa [smix, smarks] using ho, grown_refl _ _⟩
    case round =>
      obtain ⟨j, hj, rfl, rfl, hr, hg⟩ := hrel
      by_cases hlt : j < xs.length
      · have hms := smix_set xs j k.toNat hlt
        have hml := smix_length xs j k.toNat hj
        have HMS := Lib.hid hms
        have hcl : ∀ i, i < xs.length * 3 → ∃ u, (scells (smix xs j k.toNat))[i]? = some u := fun i hi => by
          have : i < (scells (smix xs j k.toNat)).length := by rw [scells_length, hml]; exact hi
          exact ⟨_, List.getElem?_eq_getElem this⟩
        obtain ⟨c0, hc0⟩ := hcl (j * 3) (by omega)
        obtain ⟨c1, hc1⟩ := hcl (j * 3 + 1) (by omega)
        obtain ⟨c2, hc2⟩ := hcl (j * 3 + 2) (by omega)
        have HC := Lib.hid (And.intro hc0 (And.intro hc1 hc2))
        have hlg := (own_lt hr).1
        have hf0 := hr.frozenAt (j * 3)
        have hq0 := (hr.cellAt (j * 3) (by omega)).trans HC.out.1
        clear hms hml hcl hc0 hc1 hc2
        go_wp2_with fail
        have hr0 := (hr.stored (j * 3) (.int .i64 (k + 3 * (j : Int)))).1
        have hg0 := grown_trans hg (hr.stored (j * 3) (.int .i64 (k + 3 * (j : Int)))).2
        clear hr hf0 hq0 hg
        generalize wr.setCell ⟨g, j * 3, none⟩ (.int .i64 (k + 3 * (j : Int))) = w0 at *
        refine (markText_i _ _ (by omega) (by omega)).mono ?_
        rintro e w1 ⟨rfl, hb1⟩
        have hr1 := own_keep hr0 hb1
        have hf1 := hr1.frozenAt (j * 3 + 1)
        have hq1 : w1.cell? ⟨g, j * 3 + 1, none⟩ = some c1 := (hr1.cellAt (j * 3 + 1) (by omega)).trans (by rw [List.getElem?_set_ne (by omega)]; exact HC.out.2.1)
        have hg1 := grown_trans hg0 (grown_below hb1 (some g))
        clear hr0 hg0
        go_wp2_with fail
        have hr2 := (hr1.stored (j * 3 + 1) (.string (mT (k + 3 * (j : Int) + 1).toNat))).1
        have hg2 := grown_trans hg1 (hr1.stored (j * 3 + 1) (.string (mT (k + 3 * (j : Int) + 1).toNat))).2
        clear hr1 hf1 hq1 hg1
        generalize w1.setCell ⟨g, j * 3 + 1, none⟩ (.string (mT (k + 3 * (j : Int) + 1).toNat)) = w2 at *
        refine (markText_i _ _ (by omega) (by omega)).mono ?_
        rintro e w3 ⟨rfl, hb3⟩
        have hr3 := own_keep hr2 hb3
        have hf3 := hr3.frozenAt (j * 3 + 1 + 1)
        have hq3 : w3.cell? ⟨g, j * 3 + 1 + 1, none⟩ = some c2 := (hr3.cellAt (j * 3 + 1 + 1) (by omega)).trans (by rw [List.getElem?_set_ne (by omega), List.getElem?_set_ne (by omega)]; exact HC.out.2.2)
        have hg3 := grown_trans hg2 (grown_below hb3 (some g))
        clear hr2 hg2
        go_wp2
        go_roundw
        case rel =>
          refine ⟨j + 1, by omega, by go_num, by go_num, ?_, ?_⟩
          · rw [← HMS.out]
            have e0 : ((k.toNat + 3 * j : Nat) : Int) = k + 3 * (j : Int) := by omega
            have e1 : (k + 3 * (j : Int) + 1).toNat = k.toNat + 3 * j + 1 := by omega
            have e2 : (k + 3 * (j : Int) + 1 + 1).toNat = k.toNat + 3 * j + 2 := by omega
            have h := (hr3.stored (j * 3 + 1 + 1) (.string (mT (k + 3 * (j : Int) + 1 + 1).toNat))).1
            rw [e1, e2] at h
            rw [e0, e2]
            exact h
          · exact grown_trans hg3 (hr3.stored (j * 3 + 1 + 1) _).2
        case measure => simp [intOf]; omega
      · have hj' : j = xs.length := by omega
        have h3 := hr
        rw [hj'] at h3
        have e3 : smix xs xs.length k.toNat = smarks xs.length k.toNat := by simp [smix]
        rw [e3] at h3
        have HJ : Hid ((j : Int) = xs.length) := by show _ = _; rw [hj']
        clear hj' e3
        go_wp2
        go_ret
        exact ⟨by rw [← HJ.out]; rfl, h3, hg⟩
end Go.Proofs.YtplapaojgcloaaaDoor
namespace Go.Proofs.YtplapaojgcloaaaDoor
open Go.RowKit Go.PM
set_option maxRecDepth 100000 in
set_option maxHeartbeats 1600000 in
theorem heldStepS_c (n : Nat) (v : Value) (k : Int) (w : World) (hx : RdS w v (smarks n k.toNat)) (hn : n ≤ 1048576) (h1 : 1 ≤ k) (hk : k ≤ 4194304) :
    Calls Tryd.prog 43 #[v, .int .i64 k] w fun e w' => e = .returned (.int .i64 (k + 3 * (n : Int))) ∧ Below w.heap.size w w' := by
  obtain ⟨A, cap, hv, hnn, hc, hcell⟩ := hx.open
  rw [smarks_length] at hv hnn hc
  subst hv
  go_enter Tryd.func43, Tryd.ntmps43
  go_wp2
  go_loopw [1, 5] (fun m i wr => ∃ (j : Nat), j ≤ n ∧ i = .int .i64 j ∧ m = .int .i64 (k + 3 * (j : Int)) ∧ Below w.heap.size w wr) (fun _ i _ => n - (intOf i).toNat)
  case atStart => exact ⟨0, by omega, rfl, by simp, Below.refl _ _⟩
  case round =>
    obtain ⟨j, hj, rfl, rfl, hb⟩ := hrel
    have hbs := hb.size
    by_cases hlt : j < n
    · obtain ⟨b, off, rfl, hbl, hc0, hc1, hc2⟩ := hcell j (by rw [smarks_length]; exact hlt)
      rw [smarks_at] at hc0 hc1 hc2
      have e0 : ((k.toNat + 3 * j : Nat) : Int) = k + 3 * (j : Int) := by omega
      have e1 : (k + 3 * (j : Int) + 1).toNat = k.toNat + 3 * j + 1 := by omega
      have e2 : (k + 3 * (j : Int) + 1 + 1).toNat = k.toNat + 3 * j + 2 := by omega
      simp only at hc0 hc1 hc2
      rw [e0] at hc0
      rw [← e1] at hc1
      rw [← e2] at hc2
      have hd0 : wr.cell? ⟨b, off + j * 3, none⟩ = some (.int .i64 (k + 3 * (j : Int))) := (hb.cell (p := ⟨b, _, none⟩) hbl).trans hc0
      have hx1 : ∀ x : Ext w.heap.size wr, x.val.cell? ⟨b, off + j * 3 + 1, none⟩ = some (.string (mT (k + 3 * (j : Int) + 1).toNat)) := fun x => ((x.property.cell (p := ⟨b, _, none⟩) hbl).trans (hb.cell (p := ⟨b, _, none⟩) hbl)).trans hc1
      clear e0 e1 e2 hcell
      have i0 : (0 : Int) ≤ (j : Int) := by omega
      have i1 : (j : Int) < n := by omega
      go_wp2
      refine wp_region_ext w.heap.size (by kernel_rfl) (by kernel_rfl) ?_
      repeat (go_big_quiet_step ((go_at_call 82; exact ext_call _ hb.size (markText_i _ _ (by omega) (by omega)))))
      refine wpQuiet_nil ?_
      intro w2 hw'
      obtain ⟨xw, hxw⟩ := hw'
      have hb2 := xw.property
      rw [← hxw] at hb2
      clear hxw xw
      have hbw2 := hb.trans hb2
      have hd2 : w2.cell? ⟨b, off + j * 3 + 2, none⟩ = some (.string (mT (k + 3 * (j : Int) + 1 + 1).toNat)) := (hbw2.cell (p := ⟨b, _, none⟩) hbl).trans hc2
      have hx2 : ∀ x : Ext w.heap.size w2, x.val.cell? ⟨b, off + j * 3 + 2, none⟩ = some (.string (mT (k + 3 * (j : Int) + 1 + 1).toNat)) := fun x => (x.property.cell (p := ⟨b, _, none⟩) hbl).trans hd2
      clear hx1 hd2 hb2 hc0 hc1 hc2 hd0
      have hbs2 := hbw2.size
      go_wp2
      refine wp_region_ext w.heap.size (by kernel_rfl) (by kernel_rfl) ?_
      repeat (go_big_quiet_step ((go_at_call 82; exact ext_call _ hbw2.size (markText_i _ _ (by omega) (by omega)))))
      refine wpQuiet_nil ?_
      intro w3 hw'
      obtain ⟨xw, hxw⟩ := hw'
      have hb3 := xw.property
      rw [← hxw] at hb3
      clear hxw xw
      clear hx2
      go_wp2
      go_roundw
      case rel => exact ⟨j + 1, by omega, by go_num, by go_num, hbw2.trans hb3⟩
      case measure => simp [intOf]; omega
    · have HJ : Hid ((j : Int) = n) := by show _ = _; omega
      go_wp2
      go_ret
      exact ⟨by rw [← HJ.out]; rfl, hb⟩
end Go.Proofs.YtplapaojgcloaaaDoor
namespace Go.PE
open Go.PM Go.RowKit
def tlB (tb : ByteArray → Bool) (tt : ByteArray → ByteArray) (a : ByteArray) : ByteArray := if tb a then tt a else a
def tlX (tb : ByteArray → Bool) (tt : ByteArray → ByteArray) (x : St) : St := (x.1, tlB tb tt x.2.1, tlB tb tt x.2.2)
theorem tlX_len (tb : ByteArray → Bool) (tt : ByteArray → ByteArray) (xs : List St) : (xs.map (tlX tb tt)).length = xs.length := by simp
theorem grown_cellR (W : World) (b i : Nat) (v : Value) : W.grownBy (W.setCell ⟨b, i, none⟩ v) (some b) :=
  ⟨rfl, rfl, rfl, by simp [World.size_setCell], fun k _ hne => heap_setCell_other W _ k v (fun e => hne (by rw [e]))⟩
end Go.PE
namespace Go.Proofs.YtplapaojgcloaaaDoor
open Go.RowKit Go.PM Go.PE

set_option maxRecDepth 100000 in
set_option maxHeartbeats 1600000 in
theorem renameW_c (tb : ByteArray → Bool) (tt : ByteArray → ByteArray) (c1 c2 : Value) (xs : List St) (v : Value) (w : World) (hlen : xs.length ≤ 1048576) (hx : RdS w v xs)
    (htl : ∀ a W, Below w.heap.size w W → Calls Tryd.prog 87 #[.string a, c1, c2] W fun e w' => e = .returned (.tuple #[.string (tt a), .bool (tb a)]) ∧ Below W.heap.size W w') :
    Calls Tryd.prog 86 #[v, .func (.func 87) #[] #[c1, c2]] w fun e w' => ∃ v', e = .returned v' ∧ w'.ownsRow w.heap.size 72 3 v' (xs.map (tlX tb tt)).length (scells (xs.map (tlX tb tt))) ∧ Below w.heap.size w w' := by
  have HTL := Lib.hid htl
  clear htl
  have HXA : Hid (∀ k (hk : k < (xs.map (tlX tb tt)).length) (hk2 : k < xs.length), (xs.map (tlX tb tt))[k] = (xs[k].1, tlB tb tt xs[k].2.1, tlB tb tt xs[k].2.2)) := fun k hk hk2 => by rw [List.getElem_map]; rfl
  have HXL := Lib.hid (tlX_len tb tt xs)
  generalize xs.map (tlX tb tt) = ys at *
  obtain ⟨i0, hi0, hz0, hz1, hz2⟩ := info_parts infoSt
  have hmk := fun W : World => run_make (P := Tryd.prog) W 23 72 i0 _ Tryd.underlying23 hi0 hz0 .i64 .i64 xs.length xs.length (by omega) (Int.le_refl _) (by rw [hz2]; omega) (by omega)
  simp only [Int.toNat_natCast, hz1] at hmk
  obtain ⟨A, cap, rfl, hn, hc, hcell⟩ := hx.open
  clear hx
  have hO := own_made w w.heap.size 72 #[Value.int .i64 0, Value.string ⟨#[]⟩, Value.string ⟨#[]⟩] 3 xs.length rfl (by omega) (by omega) (Nat.le_refl _)
  have hB : Below w.heap.size w (w.alloc (Obj.cells (madeCells #[Value.int .i64 0, Value.string ⟨#[]⟩, Value.string ⟨#[]⟩] (xs.length * 3)) 72)) := (Below.refl _ _).alloc (Nat.le_refl _) _
  go_enter Tryd.func86, Tryd.ntmps86
  go_wp2
  generalize (w.alloc (Obj.cells (madeCells #[Value.int .i64 0, Value.string ⟨#[]⟩, Value.string ⟨#[]⟩] (xs.length * 3)) 72)) = W1 at *
  have HZ0 : Hid (shalf ys 0 = (List.replicate xs.length zSt).flatten) := by show _ = _; rw [shalf_zero, HXL.out]
  go_loopw [6, 7, 8, 9, 10, 11, 17] (fun _ _ _ _ _ _ i wr => ∃ (k : Nat), k ≤ xs.length ∧ i = .int .i64 k ∧ wr.ownsRow w.heap.size 72 3 (.slice (some ⟨w.heap.size, 0, none⟩) xs.length xs.length) xs.length (shalf ys k) ∧ Below w.heap.size w wr) (fun _ _ _ _ _ _ i _ => xs.length - (RowKit.intOf i).toNat)
  case atStart => exact ⟨0, by omega, rfl, by rw [HZ0.out]; exact hO, hB⟩
  case round =>
    clear hO hB
    obtain ⟨k, hk, rfl, ho, hb⟩ := hrel
    have hbs := hb.size
    by_cases hlt : k < xs.length
    · obtain ⟨b, off, rfl, hbl, hc1, hc2, hc3⟩ := hcell k hlt
      have hd1 := (hb.cell (p := ⟨b, off + k * 3, none⟩) hbl).trans hc1
      have hd2 := (hb.cell (p := ⟨b, off + k * 3 + 1, none⟩) hbl).trans hc2
      have hd3 := (hb.cell (p := ⟨b, off + k * 3 + 2, none⟩) hbl).trans hc3
      have hky : k < ys.length := by rw [HXL.out]; exact hlt
      have hyk := HXA.out k hky hlt
      have hset := shalf_set ys k hky
      have hat := shalf_at ys k hky
      rw [hyk] at hset
      have HSET := Lib.hid hset
      clear hc1 hc2 hc3 hcell hyk hset
      have HT1 := Lib.hid (fun W hW => HTL.out xs[k].2.1 W hW)
      have HT2 := Lib.hid (fun W hW => HTL.out xs[k].2.2 W hW)
      have hol := (own_lt ho).1
      unfold tlB at HSET
      generalize tb xs[k].2.1 = b2 at *
      generalize tb xs[k].2.2 = b3 at *
      generalize tt xs[k].2.1 = y2 at *
      generalize tt xs[k].2.2 = y3 at *
      generalize xs[k].1 = x1 at *
      generalize xs[k].2.1 = x2 at *
      generalize xs[k].2.2 = x3 at *
      have hA1 : At (wr.alloc (.cells #[.int .i64 x1, .string x2, .string x3] 72)) wr.heap.size 72 #[.int .i64 x1, .string x2, .string x3] := At.new _ _ _
      have hb1 : Below w.heap.size w (wr.alloc (.cells #[.int .i64 x1, .string x2, .string x3] 72)) := hb.alloc hbs _
      have ho1 : (wr.alloc (.cells #[.int .i64 x1, .string x2, .string x3] 72)).ownsRow w.heap.size 72 3 (.slice (some ⟨w.heap.size, 0, none⟩) xs.length xs.length) xs.length (shalf ys k) := own_keep ho ((Below.refl _ _).alloc (Nat.le_refl _) _)
      have hne : (Value.slice (some ⟨w.heap.size, 0, none⟩) xs.length xs.length).ownBlock ≠ some wr.heap.size := fun e => by have : w.heap.size = wr.heap.size := Option.some.inj e; omega
      have i0' : (0 : Int) ≤ (k : Int) := by omega
      have i1' : (k : Int) < (xs.length : Int) := by omega
      clear hb ho
      have hl1 := hA1.lt
      have p1 := hA1.cell 1
      go_wp2_with fail
      refine (HT1.out _ hb1).mono ?_
      rintro e W2 ⟨rfl, hbw⟩
      replace hA1 := hA1.keep hbw
      replace ho1 := own_keep ho1 hbw
      replace hb1 := hb1.trans (hbw.mono hb1.size)
      clear hbw hl1 p1
      have hl1 := hA1.lt
      cases b2 with
      | true =>
        have f1 := hA1.frozen 1
        have p1 := hA1.cell 1
        have hA2 : At (W2.setCell ⟨wr.heap.size, 1, none⟩ (.string y2)) wr.heap.size 72 #[.int .i64 x1, .string y2, .string x3] := by simpa using hA1.set 1 (.string y2)
        have ho2 := own_grown ho1 (grown_cellR W2 wr.heap.size 1 (.string y2)) (.inl hne)
        have hb2 : Below w.heap.size w (W2.setCell ⟨wr.heap.size, 1, none⟩ (.string y2)) := hb1.setCell (by simp; omega) _
        clear hA1 ho1 hb1
        have p2 := hA2.cell 2
        simp only [List.getElem?_toArray, List.getElem?_cons_zero, List.getElem?_cons_succ] at p2
        go_wp2_with fail
        refine (HT2.out _ hb2).mono ?_
        rintro e W3 ⟨rfl, hbw⟩
        replace hA2 := hA2.keep hbw
        replace ho2 := own_keep ho2 hbw
        replace hb2 := hb2.trans (hbw.mono hb2.size)
        clear hbw p2 f1 p1
        have hl3 := hA2.lt
        cases b3 with
        | true =>
          have f2 := hA2.frozen 2
          have p2 := hA2.cell 2
          have hA3 : At (W3.setCell ⟨wr.heap.size, 2, none⟩ (.string y3)) wr.heap.size 72 #[.int .i64 x1, .string y2, .string y3] := by simpa using hA2.set 2 (.string y3)
          have ho3 := own_grown ho2 (grown_cellR W3 wr.heap.size 2 (.string y3)) (.inl hne)
          have hb3 : Below w.heap.size w (W3.setCell ⟨wr.heap.size, 2, none⟩ (.string y3)) := hb2.setCell (by simp; omega) _
          clear hA2 ho2 hb2
          have c0 := hA3.cell 0
          have c1 := hA3.cell 1
          have c2 := hA3.cell 2
          simp only [List.getElem?_toArray, List.getElem?_cons_zero, List.getElem?_cons_succ] at c0 c1 c2
          have hf1 := ho3.frozenAt (k * 3)
          have hf2 := ho3.frozenAt (k * 3 + 1)
          have hf3 := ho3.frozenAt (k * 3 + 2)
          have hg1 := (ho3.cellAt (k * 3) (by omega)).trans hat.1
          have hg2 := (ho3.cellAt (k * 3 + 1) (by omega)).trans hat.2.1
          have hg3 := (ho3.cellAt (k * 3 + 2) (by omega)).trans hat.2.2
          clear hA3 hat hne
          go_wp2_with fail
          go_roundw
          case rel =>
            refine ⟨k + 1, by omega, by go_num, ?_, ?_⟩
            · rw [← HSET.out]
              exact (((ho3.stored (k * 3) _).1.stored (k * 3 + 1) _).1.stored (k * 3 + 2) _).1
            · exact ((hb3.setCell (Nat.le_refl _) _).setCell (Nat.le_refl _) _).setCell (Nat.le_refl _) _
          case measure => simp [RowKit.intOf]; omega
        | false =>
          have hA3 := hA2
          have ho3 := ho2
          have hb3 := hb2
          clear hA2 ho2 hb2
          have c0 := hA3.cell 0
          have c1 := hA3.cell 1
          have c2 := hA3.cell 2
          simp only [List.getElem?_toArray, List.getElem?_cons_zero, List.getElem?_cons_succ] at c0 c1 c2
          have hf1 := ho3.frozenAt (k * 3)
          have hf2 := ho3.frozenAt (k * 3 + 1)
          have hf3 := ho3.frozenAt (k * 3 + 2)
          have hg1 := (ho3.cellAt (k * 3) (by omega)).trans hat.1
          have hg2 := (ho3.cellAt (k * 3 + 1) (by omega)).trans hat.2.1
          have hg3 := (ho3.cellAt (k * 3 + 2) (by omega)).trans hat.2.2
          clear hA3 hat hne
          go_wp2_with fail
          go_roundw
          case rel =>
            refine ⟨k + 1, by omega, by go_num, ?_, ?_⟩
            · rw [← HSET.out]
              exact (((ho3.stored (k * 3) _).1.stored (k * 3 + 1) _).1.stored (k * 3 + 2) _).1
            · exact ((hb3.setCell (Nat.le_refl _) _).setCell (Nat.le_refl _) _).setCell (Nat.le_refl _) _
          case measure => simp [RowKit.intOf]; omega
      | false =>
        have hA2 := hA1
        have ho2 := ho1
        have hb2 := hb1
        clear hA1 ho1 hb1
        have p2 := hA2.cell 2
        simp only [List.getElem?_toArray, List.getElem?_cons_zero, List.getElem?_cons_succ] at p2
        go_wp2_with fail
        refine (HT2.out _ hb2).mono ?_
        rintro e W3 ⟨rfl, hbw⟩
        replace hA2 := hA2.keep hbw
        replace ho2 := own_keep ho2 hbw
        replace hb2 := hb2.trans (hbw.mono hb2.size)
        clear hbw p2
        have hl3 := hA2.lt
        cases b3 with
        | true =>
          have f2 := hA2.frozen 2
          have p2 := hA2.cell 2
          have hA3 : At (W3.setCell ⟨wr.heap.size, 2, none⟩ (.string y3)) wr.heap.size 72 #[.int .i64 x1, .string x2, .string y3] := by simpa using hA2.set 2 (.string y3)
          have ho3 := own_grown ho2 (grown_cellR W3 wr.heap.size 2 (.string y3)) (.inl hne)
          have hb3 : Below w.heap.size w (W3.setCell ⟨wr.heap.size, 2, none⟩ (.string y3)) := hb2.setCell (by simp; omega) _
          clear hA2 ho2 hb2
          have c0 := hA3.cell 0
          have c1 := hA3.cell 1
          have c2 := hA3.cell 2
          simp only [List.getElem?_toArray, List.getElem?_cons_zero, List.getElem?_cons_succ] at c0 c1 c2
          have hf1 := ho3.frozenAt (k * 3)
          have hf2 := ho3.frozenAt (k * 3 + 1)
          have hf3 := ho3.frozenAt (k * 3 + 2)
          have hg1 := (ho3.cellAt (k * 3) (by omega)).trans hat.1
          have hg2 := (ho3.cellAt (k * 3 + 1) (by omega)).trans hat.2.1
          have hg3 := (ho3.cellAt (k * 3 + 2) (by omega)).trans hat.2.2
          clear hA3 hat hne
          go_wp2_with fail
          go_roundw
          case rel =>
            refine ⟨k + 1, by omega, by go_num, ?_, ?_⟩
            · rw [← HSET.out]
              exact (((ho3.stored (k * 3) _).1.stored (k * 3 + 1) _).1.stored (k * 3 + 2) _).1
            · exact ((hb3.setCell (Nat.le_refl _) _).setCell (Nat.le_refl _) _).setCell (Nat.le_refl _) _
          case measure => simp [RowKit.intOf]; omega
        | false =>
          have hA3 := hA2
          have ho3 := ho2
          have hb3 := hb2
          clear hA2 ho2 hb2
          have c0 := hA3.cell 0
          have c1 := hA3.cell 1
          have c2 := hA3.cell 2
          simp only [List.getElem?_toArray, List.getElem?_cons_zero, List.getElem?_cons_succ] at c0 c1 c2
          have hf1 := ho3.frozenAt (k * 3)
          have hf2 := ho3.frozenAt (k * 3 + 1)
          have hf3 := ho3.frozenAt (k * 3 + 2)
          have hg1 := (ho3.cellAt (k * 3) (by omega)).trans hat.1
          have hg2 := (ho3.cellAt (k * 3 + 1) (by omega)).trans hat.2.1
          have hg3 := (ho3.cellAt (k * 3 + 2) (by omega)).trans hat.2.2
          clear hA3 hat hne
          go_wp2_with fail
          go_roundw
          case rel =>
            refine ⟨k + 1, by omega, by go_num, ?_, ?_⟩
            · rw [← HSET.out]
              exact (((ho3.stored (k * 3) _).1.stored (k * 3 + 1) _).1.stored (k * 3 + 2) _).1
            · exact ((hb3.setCell (Nat.le_refl _) _).setCell (Nat.le_refl _) _).setCell (Nat.le_refl _) _
          case measure => simp [RowKit.intOf]; omega
    · have hk' : k = xs.length := by omega
      have ho2 := ho
      rw [hk', ← HXL.out, shalf_full] at ho2
      have HO3 : Hid (wr.ownsRow w.heap.size 72 3 (.slice (some ⟨w.heap.size, 0, none⟩) xs.length xs.length) ys.length (scells ys)) := by
        have := ho2
        rw [show (Value.slice (some ⟨w.heap.size, 0, none⟩) ys.length ys.length) = (Value.slice (some ⟨w.heap.size, 0, none⟩) xs.length xs.length) by rw [HXL.out]] at this
        exact this
      have HK := Lib.hid hk'
      clear hcell ho2 ho hk'
      go_wp2
      go_ret
      exact ⟨_, rfl, HO3.out, hb⟩
end Go.Proofs.YtplapaojgcloaaaDoor
namespace Go.PE
open Go.PM Go.RowKit
def otB (s : Bool) (a : ByteArray) : Bool := s && decide (a = spT)
theorem beq_t (x : ByteArray) : (x.toList == [116]) = decide (x = spT) := by
  have := beq_str x spT
  rwa [ByteArray.toList_eq spT] at this
theorem ot_rn (xs : List Mv) (t a : ByteArray) : tlB (otB (soB xs t)) (fun _ => spB xs t) a = rnB (spN xs t) a := by
  unfold tlB otB rnB
  rcases Bool.eq_false_or_eq_true (soB xs t) with h | h
  · obtain ⟨h1, h2, -⟩ := so_spec h
    rw [h, h2, Bool.true_and]
    by_cases e : a = spT
    · rw [decide_eq_true e, if_pos rfl, if_pos e]
      show nm (spN xs t) = _
      match spN xs t, h1 with
      | 0, _ | 1, _ | 2, _ | 3, _ | 4, _ | 5, _ | 6, _ | 7, _ | 8, _ => decide +kernel
    · rw [decide_eq_false e, if_neg e]; rfl
  · have : spN xs t = 9 := by unfold spN; rw [h]; rfl
    rw [h, this]
    show (if (false && decide (a = spT)) = true then _ else a) = _
    rw [Bool.false_and]
    exact (rnB_nine a).symm
theorem ot_map (xs : List Mv) (t : ByteArray) (ys : List St) : ys.map (tlX (otB (soB xs t)) (fun _ => spB xs t)) = ys.map (rnX (spN xs t)) := by
  refine List.map_congr_left fun x _ => ?_
  unfold tlX rnX
  rw [ot_rn, ot_rn]
end Go.PE
namespace Go.Proofs.YtplapaojgcloaaaDoor
open Go.RowKit Go.PM Go.PE

theorem tellW_c (p q : Nat) (s : ByteArray) (b : Bool) (a : ByteArray) (W : World) (h1 : At W p 9 #[.string s]) (h2 : At W q 4 #[.bool b]) :
    Calls Tryd.prog 87 #[.string a, .pointer (some ⟨p, 0, none⟩), .pointer (some ⟨q, 0, none⟩)] W fun e w' => e = .returned (.tuple #[.string s, .bool (otB b a)]) ∧ Below W.heap.size W w' := by
  have c1 := h1.cell 0
  have c2 := h2.cell 0
  cases b with
  | true =>
    have HO : Hid (otB true a = (a.toList == [116])) := by show _ = _; rw [beq_t]; unfold otB; rw [Bool.true_and]
    go_enter Tryd.func87, Tryd.ntmps87
    go_wp2
    go_ret2
    exact ⟨by rw [HO.out]; rfl, Below.refl _ _⟩
  | false =>
    have HO : Hid (otB false a = false) := rfl
    go_enter Tryd.func87, Tryd.ntmps87
    go_wp2
    go_ret2
    exact ⟨by rw [HO.out]; rfl, Below.refl _ _⟩
set_option maxRecDepth 100000 in
set_option maxHeartbeats 1600000 in
theorem imOrderWanted_c (xs : List Mv) (v : Value) (t : ByteArray) (ht : t.size ≤ 1048576) (w : World) (hx : RdM w v xs) (hT : Tz w) :
    Calls Tryd.prog 40 #[v, .string t] w fun e w' => ∃ v', e = .returned (.tuple #[v', .bool (mvalid xs && wvB t)]) ∧ w'.ownsRow w.heap.size 72 3 v' (owS xs t).length (scells (owS xs t)) ∧ Below w.heap.size w w' := by
  have HK := Lib.hid (imKeepWanted_c xs v t ht w hx hT)
  have HO := Lib.hid (fun v' W hW => imOrderMoves_c (kwM xs t) v' W hW)
  have HS := Lib.hid (fun W hb => imSpareFor_c xs v t ht W (hx.below hb) (hT.below hb))
  rcases Bool.eq_false_or_eq_true (mvalid xs && wvB t) with hv | hv
  · have hln : (stL (ordM (kwM xs t))).length ≤ 1048576 := by
      have := ordM_len (kwM xs t); rw [stL_len']; omega
    have HOW : Hid ((stL (ordM (kwM xs t))).map (tlX (otB (soB xs t)) (fun _ => spB xs t)) = owS xs t) := by show _ = _; rw [ot_map]; rfl
    rw [hv] at HK ⊢
    clear hv hx hT
    go_enter Tryd.func40, Tryd.ntmps40
    go_wp2_with fail
    refine HK.out.mono ?_
    rintro e w1 ⟨v1, rfl, ho1, hb1⟩
    have hs1 := hb1.size
    have hk1 := Rd.of_own ho1
    clear ho1
    go_wp2_with fail
    refine (HO.out v1 w1 hk1).mono ?_
    rintro e w2 ⟨v2, rfl, ho2, hb2⟩
    have hB2 := hb1.trans (hb2.mono hs1)
    have hs2 := hB2.size
    have hk2 : RdS w2 v2 (stL (ordM (kwM xs t))) := by
      have := Rd.of_own ho2
      rwa [← stL_len'] at this
    clear ho2 hb2 hb1 hk1
    go_wp2_with fail
    refine (HS.out w2 hB2).mono ?_
    rintro e w3 ⟨rfl, hb3⟩
    have hB3 := hB2.trans (hb3.mono hs2)
    have hs3 := hB3.size
    have hk3 := RdS.below hk2 hb3
    go_wp2_with fail
    have kA : At (w3.alloc (.cells #[.string (spB xs t)] 9)) w3.heap.size 9 #[.string (spB xs t)] := At.new _ _ _
    have kB : At ((w3.alloc (.cells #[.string (spB xs t)] 9)).alloc (.cells #[.bool (soB xs t)] 4)) (w3.heap.size + 1) 4 #[.bool (soB xs t)] := by
      have := At.new (w3.alloc (.cells #[.string (spB xs t)] 9)) 4 #[.bool (soB xs t)]
      rwa [World.size_alloc] at this
    have bA : Below w3.heap.size w3 (w3.alloc (.cells #[.string (spB xs t)] 9)) := (Below.refl _ _).alloc (Nat.le_refl _) _
    have bB : Below w3.heap.size w3 ((w3.alloc (.cells #[.string (spB xs t)] 9)).alloc (.cells #[.bool (soB xs t)] 4)) := bA.alloc bA.size _
    have kA2 := kA.keep ((Below.refl _ _).alloc (Nat.le_refl _) (.cells #[.bool (soB xs t)] 4))
    have hB4 := hB3.trans (bB.mono hs3)
    have hs4 := hB4.size
    have hk4 := RdS.below hk3 bB
    clear kA bA bB hk3 hb3 hk2 hs3 hB3
    generalize ((w3.alloc (.cells #[.string (spB xs t)] 9)).alloc (.cells #[.bool (soB xs t)] 4)) = w4 at *
    refine (renameW_c (otB (soB xs t)) (fun _ => spB xs t) _ _ _ v2 w4 hln hk4 (fun a W hW => tellW_c _ _ _ _ a W (kA2.keep hW) (kB.keep hW))).mono ?_
    rintro e w5 ⟨v5, rfl, ho5, hb5⟩
    rw [HOW.out] at ho5
    have hB5 := hB4.trans (hb5.mono hs4)
    have ho6 := own_more ho5 hs4
    clear ho5 hb5
    go_wp2
    go_ret2
    exact ⟨_, rfl, ho6, hB5⟩
  · have HN := Lib.hid (owS_no hv)
    have hown0 : ∀ W : World, W.ownsRow w.heap.size 72 3 (.slice none 0 0) ([] : List St).length (scells []) := fun W => ⟨rfl, .inl ⟨rfl, rfl⟩⟩
    rw [hv] at HK ⊢
    clear hv hx hT
    go_enter Tryd.func40, Tryd.ntmps40
    go_wp2_with fail
    refine HK.out.mono ?_
    rintro e w1 ⟨v1, rfl, ho1, hb1⟩
    clear ho1
    go_wp2
    go_ret2
    exact ⟨_, rfl, by rw [HN.out]; exact hown0 _, hb1⟩
end Go.Proofs.YtplapaojgcloaaaDoor
namespace Go.PE
open Go.PM Go.RowKit
theorem kw_all (xs : List Mv) (t : ByteArray) : owS xs t = (stL (ordF 19 (busyF (kwM xs t) 9))).map (rnX (spN xs t)) := by
  rw [← ordM_yes kwM_MV]; rfl
end Go.PE
namespace Go.Proofs.YtplapaojgcloaaaDoor
open Go.RowKit Go.PM Go.PE
attribute [local go_sem] Oper.semAt_some

theorem infoSt9 : (Tryd.prog.info? 72).map (fun i => (i.zero, i.size, i.bytes)) = some (some (.agg #[.int .i64 0, .string ⟨#[]⟩, .string ⟨#[]⟩]), 3, 40) := by kernel_rfl
/-- append of one step, and where it lies -/
theorem app_lies_st {ops : Array Oper} {rest : List Oper} {o : Oper} {a : Act} {Q : Exit → Act → World → Prop} {w : World} (hgd : o.guard = none) (s x : Operand)
    (ho : o.op = .call { callee := .builtin .append, args := #[s, x], argTypes := #[23, 23] })
    (base : Nat) (v : Value) (ys : List St) (m : St) (ad : Addr) (c : Nat) (hs : a.eval s = v) (hx : a.eval x = .slice (some ad) 1 c)
    (hown : w.ownsRow base 72 3 v ys.length (scells ys)) (hnew : ∀ j u, [Value.int .i64 m.1, Value.string m.2.1, Value.string m.2.2][j]? = some u → w.cell? (ad.add j) = some u)
    (hlen : ys.length ≤ 1048576) (hbase : base ≤ w.heap.size)
    (h : ∀ v' w', w'.ownsRow base 72 3 v' (ys ++ [m]).length (scells (ys ++ [m])) → w.grownBy w' v.ownBlock → (v'.ownBlock = v.ownBlock ∨ v'.ownBlock = some w.heap.size) → wpList Tryd.prog ops Q rest (a.put o.dst v') w') : wpList Tryd.prog ops Q (o :: rest) a w := by
  obtain ⟨i0, hi0, hz0, hz1, hz2⟩ := info_parts infoSt9
  refine wpList_append_lies w hgd s x _ ho base 72 i0 _ 3 40 Tryd.underlying23 hi0 hz0 hz1 hz2 rfl (by omega) v ys.length (scells ys) hs hown ad 1 c [Value.int .i64 m.1, Value.string m.2.1, Value.string m.2.2] hx rfl hnew
    (by intro u hu; simp at hu; rcases hu with rfl | rfl | rfl <;> rfl) (by omega) (by simp only [maxLen]; omega) (by omega) hbase _ rfl ?_
  intro g cap w' h2 h3 h4 _
  have hcs : scells ys ++ [Value.int .i64 m.1, Value.string m.2.1, Value.string m.2.2] = scells (ys ++ [m]) := by rw [scells_append]; simp [scells]
  refine h _ w' ?_ h3 ?_
  · rw [← hcs, List.length_append]; exact h2
  · rcases h4 with h4 | h4
    · exact .inl h4.symm
    · right; rw [h4]; rfl

theorem cells_new9 (W : World) (a : Array Value) (e : TypeId) : ∀ j u, a.toList[j]? = some u → (W.alloc (.cells a e)).cell? ((⟨W.heap.size, 0, none⟩ : Addr).add j) = some u := fun j u h => by
  rw [add_off, Nat.zero_add]
  exact (At.new W e a).cell j |>.trans (by rw [← Array.getElem?_toList]; exact h)
set_option maxRecDepth 100000 in
set_option maxHeartbeats 3200000 in
theorem spOrderWanted_c (xs : List Mv) (v : Value) (t : ByteArray) (ht : t.size ≤ 1048576) (w : World) (hx : RdM w v xs) (hz : ∀ m ∈ xs, m.1.size ≤ 9223372036854775807 ∧ m.2.size ≤ 9223372036854775807) (hn' : xs.length ≤ 1048576) :
    Calls Tryd.prog 39 #[v, .string t] w fun e w' => ∃ v', e = .returned (.tuple #[v', .bool (mvalid xs && wvB t)]) ∧ w'.ownsRow w.heap.size 72 3 v' (owS xs t).length (scells (owS xs t)) ∧ Below w.heap.size w w' := by
  have HK := Lib.hid (spKeepWanted_c xs v t ht w hx hz hn')
  have HO := Lib.hid (fun v' W hW => l5Order_c (kwM xs t) kwM_MV v' W hW)
  have HS := Lib.hid (fun W hb => spSpareFor_c xs v t ht W (hx.below hb) hz hn')
  rcases Bool.eq_false_or_eq_true (mvalid xs && wvB t) with hv | hv
  · have hl19 := ordF_len 19 (busyF (kwM xs t) 9)
    have HYL : Hid (∀ k (hk : k < (stL (ordF 19 (busyF (kwM xs t) 9))).length), (((stL (ordF 19 (busyF (kwM xs t) 9))).take k).map (tlX (otB (soB xs t)) (fun _ => spB xs t))) ++ [tlX (otB (soB xs t)) (fun _ => spB xs t) (stL (ordF 19 (busyF (kwM xs t) 9)))[k]] = ((stL (ordF 19 (busyF (kwM xs t) 9))).take (k + 1)).map (tlX (otB (soB xs t)) (fun _ => spB xs t))) := fun k hk => by rw [take_snoc _ k hk, List.map_append]; rfl
    have HTK : Hid ((stL (ordF 19 (busyF (kwM xs t) 9))).map (tlX (otB (soB xs t)) (fun _ => spB xs t)) = owS xs t) := by show _ = _; rw [ot_map, kw_all]
    have hll : (stL (ordF 19 (busyF (kwM xs t) 9))).length ≤ 19 := by rw [stL_len']; exact hl19
    have hlq : (ordF 19 (busyF (kwM xs t) 9)).length = (stL (ordF 19 (busyF (kwM xs t) 9))).length := (stL_len' _).symm
    rw [hlq] at HO
    rw [hv] at HK ⊢
    generalize stL (ordF 19 (busyF (kwM xs t) 9)) = ss at *
    generalize kwM xs t = kw at *
    generalize spB xs t = sp at *
    generalize soB xs t = so at *
    generalize owS xs t = ow at *
    clear hv hx hl19 hlq
    go_enter Tryd.func39, Tryd.ntmps39
    go_wp2_with fail
    refine HK.out.mono ?_
    rintro e w1 ⟨v1, rfl, ho1, hb1⟩
    have hs1 := hb1.size
    have hE := World.ownsRow_lit (e := 72) (base := w.heap.size) (size := 3) w1 #[] 0 hs1 (Nat.zero_le _) rfl
    have bA : Below w1.heap.size w1 (w1.alloc (.cells #[] 72)) := (Below.refl _ _).alloc (Nat.le_refl _) _
    have hB2 := hb1.trans (bA.mono hs1)
    have hk2 := (Rd.of_own (own_keep ho1 bA))
    clear ho1 hb1 bA
    go_wp2_with fail
    refine (HS.out _ hB2).mono ?_
    rintro e w3 ⟨rfl, hb3⟩
    have hs2 := hB2.size
    have hB3 := hB2.trans (hb3.mono hs2)
    have hs3 := hB3.size
    have hk3 := RdM.below hk2 hb3
    have hE3 := own_keep hE hb3
    clear hE hk2
    go_wp2_with (first | done | (go_at_call 84; refine (HO.out _ _ hk3).mono ?_; rintro e w4 ⟨z, rfl, hoz, hb4⟩; refine held ?_))
    unfold Held
    have hap : z.ownBlock ≠ (Value.slice (some ⟨w1.heap.size, 0, none⟩) 0 0).ownBlock ∨ (Value.slice (some ⟨w1.heap.size, 0, none⟩) 0 0).ownBlock = none := ne_turn (own_ne hE3 hoz (Nat.le_refl _))
    have hoz2 := own_more hoz hs3
    have hE4 := own_keep hE3 hb4
    have hB4 := hB3.trans (hb4.mono hs3)
    have hlv : lenV z = ss.length := by obtain ⟨A, c, e, _⟩ := Rd.of_own hoz; rw [e]; rfl
    clear hE3 hB3 hb4 hoz hk3 hb3 hs3 hs2 hB2
    have hzz : ∃ A c, z = .slice A ss.length c := by obtain ⟨A, c, e, _⟩ := Rd.of_own hoz2; exact ⟨A, c, e⟩
    obtain ⟨Az, cz, rfl⟩ := hzz
    go_wp2
    go_loopw [8, 12, 32] (fun o _ i wr => ∃ (k : Nat), k ≤ ss.length ∧ i = .int .i64 k ∧ wr.ownsRow w.heap.size 72 3 (.slice Az ss.length cz) ss.length (scells ss) ∧ wr.ownsRow w.heap.size 72 3 o ((ss.take k).map (tlX (otB so) (fun _ => sp))).length (scells ((ss.take k).map (tlX (otB so) (fun _ => sp)))) ∧ ((Value.slice Az ss.length cz).ownBlock ≠ o.ownBlock ∨ o.ownBlock = none) ∧ Below w.heap.size w wr) (fun _ _ i _ => ss.length - (RowKit.intOf i).toNat)
    case atStart => exact ⟨0, by omega, rfl, own_keep hoz2 (Below.refl _ _), hE4, hap, hB4⟩
    case round =>
      clear hoz2 hE4 hap hB4
      obtain ⟨k, hk, rfl, hoz, ho, hap, hb⟩ := hrel
      have hbs := hb.size
      by_cases hlt : k < ss.length
      · obtain ⟨A, cap, eA, hn, hc, hcell⟩ := RdS.open (Rd.of_own hoz)
        obtain ⟨b, off, rfl, hbl, hc1, hc2, hc3⟩ := hcell k hlt
        obtain ⟨rfl, -, rfl⟩ := (by simpa using eA : _ ∧ _)
        have hd1 := hc1
        have hd2 := hc2
        have hd3 := hc3
        clear hc1 hc2 hc3 hcell eA
        have HYK := Lib.hid (HYL.out k hlt)
        have hlk : ((ss.take k).map (tlX (otB so) (fun _ => sp))).length ≤ 1048576 := by rw [List.length_map, List.length_take]; omega
        unfold tlX tlB otB at HYK
        rw [← beq_t, ← beq_t] at HYK
        change Hid (_ ++ [_] = List.map (tlX (otB so) (fun _ => sp)) _) at HYK
        change Hid (List.map (tlX (otB so) (fun _ => sp)) (ss.take k) ++ [_] = _) at HYK
        generalize (ss.take k).map (tlX (otB so) (fun _ => sp)) = zs at *
        generalize ss[k].1 = x1 at *
        generalize ss[k].2.1 = x2 at *
        generalize ss[k].2.2 = x3 at *
        have i1 : (k : Int) < (ss.length : Int) := by omega
        have i0' : (0 : Int) ≤ (k : Int) := by omega
        cases so with
        | false =>
          have HYB : Hid (zs ++ [(x1, x2, x3)] = List.map (tlX (otB false) (fun _ => sp)) (ss.take (k + 1))) := HYK.out
          clear HYK HK HO HS HYL HTK
          have bA : Below wr.heap.size wr (wr.alloc (.cells #[.int .i64 x1, .string x2, .string x3] 72)) := (Below.refl _ _).alloc (Nat.le_refl _) _
          have ho0 := own_keep ho bA
          have hoz0 := own_keep hoz bA
          have hb0 := hb.trans (bA.mono hbs)
          have hs0 := hb0.size
          have hsz : (wr.alloc (.cells #[.int .i64 x1, .string x2, .string x3] 72)).heap.size = wr.heap.size + 1 := by simp
          have hnw := cells_new9 (wr.alloc (.cells #[.int .i64 x1, .string x2, .string x3] 72)) #[.int .i64 x1, .string x2, .string x3] 72
          rw [hsz] at hnw
          go_wp2_with (at_builtin; refine held ?_)
          unfold Held
          generalize (wr.alloc (.cells #[.int .i64 x1, .string x2, .string x3] 72)) = Wn at *
          have bn : Below Wn.heap.size Wn (Wn.alloc (.cells #[.int .i64 x1, .string x2, .string x3] 72)) := (Below.refl _ _).alloc (Nat.le_refl _) _
          refine app_lies_st rfl (.tmp 56) (.tmp 58) rfl w.heap.size u8 zs (x1, x2, x3) ⟨wr.heap.size + 1, 0, none⟩ 1 (by rfl) (by rfl) (own_keep ho0 bn) hnw hlk (by simp; omega) ?_
          intro v' wx hv' hg' hl'
          have zx := own_grown (own_keep hoz0 bn) hg' hap
          have hbx := (hb0.trans (bn.mono hs0)).trans (below_grown hg' (B := w.heap.size) (by simp; omega) (own_block_ge ho0))
          have hap' : (Value.slice (some ⟨b, off, none⟩) ss.length cz).ownBlock ≠ v'.ownBlock ∨ v'.ownBlock = none := by
            rcases hl' with hl' | hl'
            · rw [hl']; exact hap
            · left; rw [hl', World.size_alloc]
              intro e
              have := (own_blk hoz0 e).1
              omega
          rw [HYB.out] at hv'
          clear hg' hl' hnw bn hap ho0 hoz0 hb0
          go_wp2
          go_roundw
          case rel => exact ⟨k + 1, by omega, by go_num, zx, hv', hap', hbx⟩
          case measure => simp [RowKit.intOf]; omega
        | true =>
          generalize h2 : (x2.toList == [116]) = e2 at *
          generalize h3 : (x3.toList == [116]) = e3 at *
          cases e2 with
          | true =>
            cases e3 with
            | true =>
              have HYB : Hid (zs ++ [(x1, sp, sp)] = List.map (tlX (otB true) (fun _ => sp)) (ss.take (k + 1))) := HYK.out
              clear HYK HK HO HS HYL HTK
              have bA : Below wr.heap.size wr (wr.alloc (.cells #[.int .i64 x1, .string sp, .string sp] 72)) := (Below.refl _ _).alloc (Nat.le_refl _) _
              have ho0 := own_keep ho bA
              have hoz0 := own_keep hoz bA
              have hb0 := hb.trans (bA.mono hbs)
              have hs0 := hb0.size
              have hsz : (wr.alloc (.cells #[.int .i64 x1, .string sp, .string sp] 72)).heap.size = wr.heap.size + 1 := by simp
              have hnw := cells_new9 (wr.alloc (.cells #[.int .i64 x1, .string sp, .string sp] 72)) #[.int .i64 x1, .string sp, .string sp] 72
              rw [hsz] at hnw
              go_wp2_with (at_builtin; refine held ?_)
              unfold Held
              generalize (wr.alloc (.cells #[.int .i64 x1, .string sp, .string sp] 72)) = Wn at *
              have bn : Below Wn.heap.size Wn (Wn.alloc (.cells #[.int .i64 x1, .string sp, .string sp] 72)) := (Below.refl _ _).alloc (Nat.le_refl _) _
              refine app_lies_st rfl (.tmp 56) (.tmp 58) rfl w.heap.size u8 zs (x1, sp, sp) ⟨wr.heap.size + 1, 0, none⟩ 1 (by rfl) (by rfl) (own_keep ho0 bn) hnw hlk (by simp; omega) ?_
              intro v' wx hv' hg' hl'
              have zx := own_grown (own_keep hoz0 bn) hg' hap
              have hbx := (hb0.trans (bn.mono hs0)).trans (below_grown hg' (B := w.heap.size) (by simp; omega) (own_block_ge ho0))
              have hap' : (Value.slice (some ⟨b, off, none⟩) ss.length cz).ownBlock ≠ v'.ownBlock ∨ v'.ownBlock = none := by
                rcases hl' with hl' | hl'
                · rw [hl']; exact hap
                · left; rw [hl', World.size_alloc]
                  intro e
                  have := (own_blk hoz0 e).1
                  omega
              rw [HYB.out] at hv'
              clear hg' hl' hnw bn hap ho0 hoz0 hb0
              go_wp2
              go_roundw
              case rel => exact ⟨k + 1, by omega, by go_num, zx, hv', hap', hbx⟩
              case measure => simp [RowKit.intOf]; omega
            | false =>
              have HYB : Hid (zs ++ [(x1, sp, x3)] = List.map (tlX (otB true) (fun _ => sp)) (ss.take (k + 1))) := HYK.out
              clear HYK HK HO HS HYL HTK
              have bA : Below wr.heap.size wr (wr.alloc (.cells #[.int .i64 x1, .string sp, .string x3] 72)) := (Below.refl _ _).alloc (Nat.le_refl _) _
              have ho0 := own_keep ho bA
              have hoz0 := own_keep hoz bA
              have hb0 := hb.trans (bA.mono hbs)
              have hs0 := hb0.size
              have hsz : (wr.alloc (.cells #[.int .i64 x1, .string sp, .string x3] 72)).heap.size = wr.heap.size + 1 := by simp
              have hnw := cells_new9 (wr.alloc (.cells #[.int .i64 x1, .string sp, .string x3] 72)) #[.int .i64 x1, .string sp, .string x3] 72
              rw [hsz] at hnw
              go_wp2_with (at_builtin; refine held ?_)
              unfold Held
              generalize (wr.alloc (.cells #[.int .i64 x1, .string sp, .string x3] 72)) = Wn at *
              have bn : Below Wn.heap.size Wn (Wn.alloc (.cells #[.int .i64 x1, .string sp, .string x3] 72)) := (Below.refl _ _).alloc (Nat.le_refl _) _
              refine app_lies_st rfl (.tmp 56) (.tmp 58) rfl w.heap.size u8 zs (x1, sp, x3) ⟨wr.heap.size + 1, 0, none⟩ 1 (by rfl) (by rfl) (own_keep ho0 bn) hnw hlk (by simp; omega) ?_
              intro v' wx hv' hg' hl'
              have zx := own_grown (own_keep hoz0 bn) hg' hap
              have hbx := (hb0.trans (bn.mono hs0)).trans (below_grown hg' (B := w.heap.size) (by simp; omega) (own_block_ge ho0))
              have hap' : (Value.slice (some ⟨b, off, none⟩) ss.length cz).ownBlock ≠ v'.ownBlock ∨ v'.ownBlock = none := by
                rcases hl' with hl' | hl'
                · rw [hl']; exact hap
                · left; rw [hl', World.size_alloc]
                  intro e
                  have := (own_blk hoz0 e).1
                  omega
              rw [HYB.out] at hv'
              clear hg' hl' hnw bn hap ho0 hoz0 hb0
              go_wp2
              go_roundw
              case rel => exact ⟨k + 1, by omega, by go_num, zx, hv', hap', hbx⟩
              case measure => simp [RowKit.intOf]; omega
          | false =>
            cases e3 with
            | true =>
              have HYB : Hid (zs ++ [(x1, x2, sp)] = List.map (tlX (otB true) (fun _ => sp)) (ss.take (k + 1))) := HYK.out
              clear HYK HK HO HS HYL HTK
              have bA : Below wr.heap.size wr (wr.alloc (.cells #[.int .i64 x1, .string x2, .string sp] 72)) := (Below.refl _ _).alloc (Nat.le_refl _) _
              have ho0 := own_keep ho bA
              have hoz0 := own_keep hoz bA
              have hb0 := hb.trans (bA.mono hbs)
              have hs0 := hb0.size
              have hsz : (wr.alloc (.cells #[.int .i64 x1, .string x2, .string sp] 72)).heap.size = wr.heap.size + 1 := by simp
              have hnw := cells_new9 (wr.alloc (.cells #[.int .i64 x1, .string x2, .string sp] 72)) #[.int .i64 x1, .string x2, .string sp] 72
              rw [hsz] at hnw
              go_wp2_with (at_builtin; refine held ?_)
              unfold Held
              generalize (wr.alloc (.cells #[.int .i64 x1, .string x2, .string sp] 72)) = Wn at *
              have bn : Below Wn.heap.size Wn (Wn.alloc (.cells #[.int .i64 x1, .string x2, .string sp] 72)) := (Below.refl _ _).alloc (Nat.le_refl _) _
              refine app_lies_st rfl (.tmp 56) (.tmp 58) rfl w.heap.size u8 zs (x1, x2, sp) ⟨wr.heap.size + 1, 0, none⟩ 1 (by rfl) (by rfl) (own_keep ho0 bn) hnw hlk (by simp; omega) ?_
              intro v' wx hv' hg' hl'
              have zx := own_grown (own_keep hoz0 bn) hg' hap
              have hbx := (hb0.trans (bn.mono hs0)).trans (below_grown hg' (B := w.heap.size) (by simp; omega) (own_block_ge ho0))
              have hap' : (Value.slice (some ⟨b, off, none⟩) ss.length cz).ownBlock ≠ v'.ownBlock ∨ v'.ownBlock = none := by
                rcases hl' with hl' | hl'
                · rw [hl']; exact hap
                · left; rw [hl', World.size_alloc]
                  intro e
                  have := (own_blk hoz0 e).1
                  omega
              rw [HYB.out] at hv'
              clear hg' hl' hnw bn hap ho0 hoz0 hb0
              go_wp2
              go_roundw
              case rel => exact ⟨k + 1, by omega, by go_num, zx, hv', hap', hbx⟩
              case measure => simp [RowKit.intOf]; omega
            | false =>
              have HYB : Hid (zs ++ [(x1, x2, x3)] = List.map (tlX (otB true) (fun _ => sp)) (ss.take (k + 1))) := HYK.out
              clear HYK HK HO HS HYL HTK
              have bA : Below wr.heap.size wr (wr.alloc (.cells #[.int .i64 x1, .string x2, .string x3] 72)) := (Below.refl _ _).alloc (Nat.le_refl _) _
              have ho0 := own_keep ho bA
              have hoz0 := own_keep hoz bA
              have hb0 := hb.trans (bA.mono hbs)
              have hs0 := hb0.size
              have hsz : (wr.alloc (.cells #[.int .i64 x1, .string x2, .string x3] 72)).heap.size = wr.heap.size + 1 := by simp
              have hnw := cells_new9 (wr.alloc (.cells #[.int .i64 x1, .string x2, .string x3] 72)) #[.int .i64 x1, .string x2, .string x3] 72
              rw [hsz] at hnw
              go_wp2_with (at_builtin; refine held ?_)
              unfold Held
              generalize (wr.alloc (.cells #[.int .i64 x1, .string x2, .string x3] 72)) = Wn at *
              have bn : Below Wn.heap.size Wn (Wn.alloc (.cells #[.int .i64 x1, .string x2, .string x3] 72)) := (Below.refl _ _).alloc (Nat.le_refl _) _
              refine app_lies_st rfl (.tmp 56) (.tmp 58) rfl w.heap.size u8 zs (x1, x2, x3) ⟨wr.heap.size + 1, 0, none⟩ 1 (by rfl) (by rfl) (own_keep ho0 bn) hnw hlk (by simp; omega) ?_
              intro v' wx hv' hg' hl'
              have zx := own_grown (own_keep hoz0 bn) hg' hap
              have hbx := (hb0.trans (bn.mono hs0)).trans (below_grown hg' (B := w.heap.size) (by simp; omega) (own_block_ge ho0))
              have hap' : (Value.slice (some ⟨b, off, none⟩) ss.length cz).ownBlock ≠ v'.ownBlock ∨ v'.ownBlock = none := by
                rcases hl' with hl' | hl'
                · rw [hl']; exact hap
                · left; rw [hl', World.size_alloc]
                  intro e
                  have := (own_blk hoz0 e).1
                  omega
              rw [HYB.out] at hv'
              clear hg' hl' hnw bn hap ho0 hoz0 hb0
              go_wp2
              go_roundw
              case rel => exact ⟨k + 1, by omega, by go_num, zx, hv', hap', hbx⟩
              case measure => simp [RowKit.intOf]; omega
      · have hk' : k = ss.length := by omega
        rw [hk', List.take_length, HTK.out] at ho
        have HF := Lib.hid ho
        have i1 : ¬ (k : Int) < (ss.length : Int) := by omega
        clear ho hk' hoz hap HK HO HS HYL HTK
        go_wp2
        go_ret2
        exact ⟨_, rfl, HF.out, hb⟩
  · have HN := Lib.hid (owS_no hv)
    rw [hv] at HK ⊢
    clear hv hx
    go_enter Tryd.func39, Tryd.ntmps39
    go_wp2_with fail
    refine HK.out.mono ?_
    rintro e w1 ⟨v1, rfl, ho1, hb1⟩
    have hs1 := hb1.size
    have hE := World.ownsRow_lit (e := 72) (base := w.heap.size) (size := 3) w1 #[] 0 hs1 (Nat.zero_le _) rfl
    clear ho1
    go_wp2
    go_ret2
    exact ⟨_, rfl, by rw [HN.out]; exact hE, hb1.alloc hs1 _⟩
end Go.Proofs.YtplapaojgcloaaaDoor
namespace Go.Proofs.YtplapaojgcloaaaDoor
open Go.RowKit Go.PM Go.PE
set_option maxRecDepth 100000 in
set_option maxHeartbeats 6400000 in
theorem exOrderWanted (w : World) (xs0 : List Mv) (v0 : Value) (hx0 : RdM w v0 xs0) (hz0 : ∀ m ∈ xs0, m.1.size ≤ 9223372036854775807 ∧ m.2.size ≤ 9223372036854775807) (s1 : ByteArray) (_hs1 : s1.size ≤ maxLen) (hG : Tz w) :
    Calls Tryd.prog 9 #[v0, .string s1] w fun e w' => e = .returned (.bool true) ∧ Below w.heap.size w w' := by
  by_cases hb1 : 1048576 < s1.size
  · go_enter Tryd.func9, Tryd.ntmps9
    go_wp2
    go_ret
    exact ⟨rfl, Below.refl _ _⟩
  obtain ⟨ys, hys⟩ : ∃ ys, ys = owS xs0 s1 := ⟨_, rfl⟩
  have hly : ys.length ≤ 1048576 := by rw [hys]; exact by rw [owS_len]; exact Nat.le_trans (ordM_len _) (by decide)
  have HYS := Lib.hid hys
  clear hys
  go_enter Tryd.func9, Tryd.ntmps9
  go_wp2_with fail
  refine (szMoveS_c xs0 v0 1048576 _ (by decide) (by decide) hx0 hz0).mono ?_
  rintro e w1 ⟨⟨r0, rfl, hr0, hq0⟩, Hw1⟩
  have HR0 := Lib.hid hr0
  clear hr0
  have Bw1 := Hw1
  have Zw1 := Bw1.size
  by_cases hneg0 : r0 < 0
  · go_wp2
    go_ret
    exact ⟨rfl, Bw1⟩
  have hl0 : xs0.length ≤ 1048576 := by have := HR0.out (by omega); have := msize_len xs0; omega
  go_wp2_with fail
  refine (toMoveS_c xs0 v0 _ (hx0.below Bw1) hl0).mono ?_
  rintro e w2 ⟨c0, rfl, o_c0, Hw2⟩
  have Bw2 : Below w.heap.size w w2 := Bw1.trans (Hw2.mono Zw1)
  have Zw2 := Bw2.size
  go_wp2_with fail
  refine (spOrderWanted_c xs0 c0 s1 (by omega) _ (Rd.of_own o_c0) hz0 hl0).mono ?_
  rw [show owS xs0 s1 = ys from HYS.out.symm]
  rintro e w3 ⟨s, rfl, o_s, Hw3⟩
  have ne_c0_s := own_ne o_c0 o_s (Nat.le_refl _)
  have Bw3 : Below w.heap.size w w3 := Bw2.trans (Hw3.mono Zw2)
  have Zw3 := Bw3.size
  have c0_w3 := own_keep o_c0 Hw3
  go_wp2_with fail
  refine (toMoveS_c xs0 v0 _ (hx0.below Bw3) hl0).mono ?_
  rintro e w4 ⟨x0, rfl, o_x0, Hw4⟩
  have ne_s_x0 := own_ne o_s o_x0 (Nat.le_refl _)
  have Bw4 : Below w.heap.size w w4 := Bw3.trans (Hw4.mono Zw3)
  have Zw4 := Bw4.size
  have s_w4 := own_keep o_s Hw4
  go_wp2_with fail
  refine (imOrderWanted_c xs0 x0 s1 (by omega) _ (Rd.of_own o_x0) (hG.below Bw4)).mono ?_
  rw [show owS xs0 s1 = ys from HYS.out.symm]
  rintro e w5 ⟨g, rfl, o_g, Hw5⟩
  have ne_s_g := own_ne s_w4 o_g (Nat.le_refl _)
  have ne_x0_g := own_ne o_x0 o_g (Nat.le_refl _)
  have Bw5 : Below w.heap.size w w5 := Bw4.trans (Hw5.mono Zw4)
  have Zw5 := Bw5.size
  have s_w5 := own_keep s_w4 Hw5
  have x0_w5 := own_keep o_x0 Hw5
  go_wp2_with fail
  refine (eqStepS_c ys ys g s _ (Rd.of_own o_g) (Rd.of_own s_w5)).mono ?_
  rintro e w6 ⟨he, Hw6⟩
  rw [show decide (ys = ys) = true by simp] at he
  subst he
  have Bw6 : Below w.heap.size w w6 := Bw5.trans (Hw6.mono Zw5)
  have Zw6 := Bw6.size
  have s_w6 := own_keep s_w5 Hw6
  have x0_w6 := own_keep x0_w5 Hw6
  have g_w6 := own_keep o_g Hw6
  go_wp2_with fail
  refine (toMoveS_c xs0 v0 _ (hx0.below Bw6) hl0).mono ?_
  rintro e w7 ⟨t0, rfl, o_t0, Hw7⟩
  have ne_s_t0 := own_ne s_w6 o_t0 (Nat.le_refl _)
  have ne_x0_t0 := own_ne x0_w6 o_t0 (Nat.le_refl _)
  have ne_g_t0 := own_ne g_w6 o_t0 (Nat.le_refl _)
  have Bw7 : Below w.heap.size w w7 := Bw6.trans (Hw7.mono Zw6)
  have Zw7 := Bw7.size
  have s_w7 := own_keep s_w6 Hw7
  have x0_w7 := own_keep x0_w6 Hw7
  have g_w7 := own_keep g_w6 Hw7
  go_wp2_with fail
  refine (eqMoveS_c xs0 xs0 x0 t0 _ (Rd.of_own x0_w7) (Rd.of_own o_t0)).mono ?_
  rintro e w8 ⟨he, Hw8⟩
  rw [show decide (xs0 = xs0) = true by simp] at he
  subst he
  have Bw8 : Below w.heap.size w w8 := Bw7.trans (Hw8.mono Zw7)
  have Zw8 := Bw8.size
  have s_w8 := own_keep s_w7 Hw8
  have x0_w8 := own_keep x0_w7 Hw8
  have g_w8 := own_keep g_w7 Hw8
  have t0_w8 := own_keep o_t0 Hw8
  go_wp2_with fail
  refine (markMoveS_c xs0 x0 _ 1 _ x0_w8 hl0 (by omega) (by omega)).mono ?_
  rintro e w9 ⟨rfl, _, Hw9⟩
  have Bw9 := Bw8.trans (below_grown Hw9 (B := w.heap.size) Zw8 (fun g hg => by have := own_block_ge o_x0 g hg; omega))
  have Zw9 := Bw9.size
  have Yw9 := Hw9.size
  have s_w9 := own_grown s_w8 Hw9 ne_s_x0
  have g_w9 := own_grown g_w8 Hw9 (ne_turn ne_x0_g)
  go_wp2_with fail
  refine (eqStepS_c ys ys g s _ (Rd.of_own g_w9) (Rd.of_own s_w9)).mono ?_
  rintro e w10 ⟨he, Hw10⟩
  rw [show decide (ys = ys) = true by simp] at he
  subst he
  have Bw10 : Below w.heap.size w w10 := Bw9.trans (Hw10.mono Zw9)
  have Zw10 := Bw10.size
  have s_w10 := own_keep s_w9 Hw10
  have g_w10 := own_keep g_w9 Hw10
  go_wp2_with fail
  refine (markStepS_c ys g _ 1 _ g_w10 hly (by omega) (by omega)).mono ?_
  rintro e w11 ⟨rfl, om_g, Hw11⟩
  have Bw11 := Bw10.trans (below_grown Hw11 (B := w.heap.size) Zw10 (fun g hg => by have := own_block_ge o_g g hg; omega))
  have Zw11 := Bw11.size
  have Yw11 := Hw11.size
  have s_w11 := own_grown s_w10 Hw11 ne_s_g
  have k_w11 : RdS w11 g (smarks ys.length 1) := by
    have := Rd.of_own om_g
    unfold RdS; rw [smarks_length]; exact this
  go_wp2_with fail
  refine (heldStepS_c ys.length g 1 _ k_w11 hly (by decide) (by decide)).mono ?_
  rintro e w12 ⟨rfl, Hw12⟩
  have Bw12 : Below w.heap.size w w12 := Bw11.trans (Hw12.mono Zw11)
  have Zw12 := Bw12.size
  have s_w12 := own_keep s_w11 Hw12
  have k_w12 := k_w11.below Hw12
  go_wp2_with fail
  refine (toMoveS_c xs0 v0 _ (hx0.below Bw12) hl0).mono ?_
  rintro e w13 ⟨d0, rfl, o_d0, Hw13⟩
  have ne_s_d0 := own_ne s_w12 o_d0 (Nat.le_refl _)
  have Bw13 : Below w.heap.size w w13 := Bw12.trans (Hw13.mono Zw12)
  have Zw13 := Bw13.size
  have s_w13 := own_keep s_w12 Hw13
  have k_w13 := k_w12.below Hw13
  go_wp2_with fail
  refine (imOrderWanted_c xs0 d0 s1 (by omega) _ (Rd.of_own o_d0) (hG.below Bw13)).mono ?_
  rw [show owS xs0 s1 = ys from HYS.out.symm]
  rintro e w14 ⟨h, rfl, o_h, Hw14⟩
  have ne_s_h := own_ne s_w13 o_h (Nat.le_refl _)
  have ne_d0_h := own_ne o_d0 o_h (Nat.le_refl _)
  have Bw14 : Below w.heap.size w w14 := Bw13.trans (Hw14.mono Zw13)
  have Zw14 := Bw14.size
  have s_w14 := own_keep s_w13 Hw14
  have d0_w14 := own_keep o_d0 Hw14
  have k_w14 := k_w13.below Hw14
  go_wp2_with fail
  refine (eqStepS_c ys ys h s _ (Rd.of_own o_h) (Rd.of_own s_w14)).mono ?_
  rintro e w15 ⟨he, Hw15⟩
  rw [show decide (ys = ys) = true by simp] at he
  subst he
  have Bw15 : Below w.heap.size w w15 := Bw14.trans (Hw15.mono Zw14)
  have Zw15 := Bw15.size
  have s_w15 := own_keep s_w14 Hw15
  have h_w15 := own_keep o_h Hw15
  have k_w15 := k_w14.below Hw15
  go_wp2_with fail
  refine (heldStepS_c ys.length g 1 _ k_w15 hly (by decide) (by decide)).mono ?_
  rintro e w16 ⟨rfl, Hw16⟩
  go_wp2
  go_ret
  exact ⟨rfl, Bw15.trans (Hw16.mono Zw15)⟩

namespace fnExactOrderWanted
open Go.RowKit Go.PM Go.ChangeShapes Go.WideShapes Go.ChangeAt
open Go.ChangeMaps (open_string shut_string)
set_option maxRecDepth 100000 in
theorem lifted (os : Os) (started : os.Started) (H : Type) (enc : TypeId × Value → H) :
    ReturnsInHanded {} Tryd.checked os 9 .any (fun w args => (Rows.fnExactOrderWantedSpec.pre enc Tryd.prog Tryd.f9 [] false w args ∧ laidMetH Tryd.prog laidL w) ∧ sizedMet enc Tryd.prog Tryd.f9 (OpenSpec.ofChange Rows.fnExactOrderWantedSpec) false w args)
      (Rows.fnExactOrderWantedSpec.post enc Tryd.prog Tryd.f9 false true false false) := by
  refine returnsInHanded_of_change_and (C := Tryd.checked) (X := fun w _ => laidMetH Tryd.prog laidL w) (fun _ _ _ hh h => h.of_heap hh) own started (by kernel_rfl) Tryd.func9
    (ChangeSpec.witness_at (enc := enc) (C := Tryd.checked) (os := os) (X := fun w _ => laidMetH Tryd.prog laidL w) false (laidWorld os) #[.slice none 0 0, .string ⟨#[]⟩] 8 rfl (by kernel_rfl) (by kernel_rfl) (by kernel_rfl) (by kernel_rfl) (by kernel_rfl) (laidWorld_met os _)) ?_
  intro W base args ds gs before hval0 hW _ _ hL _
  have hval : ∀ (j : Nat) t v, Tryd.f9.params[j]? = some t → args[j]? = some v → Value.okWide Tryd.prog W .any base t v := hval0
  have hW' := hW
  obtain ⟨p, q, hA0, hV, rfl, hfz, hnd⟩ := hW
  have hA : DataW.TrodAll enc Tryd.prog W 0 (fun _ => true) true Tryd.f9.params.toList args.toList ds p := hA0
  rw [Tryd.params9] at hA hval
  obtain ⟨v0, vs0, d0, ds0, p0, q0, hargs, rfl, rfl, h0, r0⟩ := trodAll_cons hA
  obtain ⟨v1, vs1, d1, ds1, p1, q1, rfl, rfl, rfl, h1, r1⟩ := trodAll_cons r0
  obtain ⟨rfl, rfl, rfl⟩ := trodAll_nil r1
  obtain rfl : args = #[v0, v1] := by cases args; simp_all
  obtain ⟨rfl, rfl⟩ := trodVars_none hV
  have hG := tz_of_laid hL
  have k0 := h0
  have lt0 : ∀ x ∈ p0, x.block < W.heap.size := by obtain ⟨m, hm⟩ := k0; exact DataW.trod_lt m _ _ _ hm
  have k1 := h1
  have lt1 : ∀ x ∈ p1, x.block < W.heap.size := by obtain ⟨m, hm⟩ := k1; exact DataW.trod_lt m _ _ _ hm
  obtain ⟨a0, len0, cap0, rfl⟩ := okWide_slice Tryd.underlying41 (hval 0 41 v0 rfl rfl)
  obtain ⟨xs0, hx0, hz0⟩ : ∃ xs : List Mv, RdM W (.slice a0 len0 cap0) xs ∧ ∀ m ∈ xs, m.1.size ≤ 9223372036854775807 ∧ m.2.size ≤ 9223372036854775807 := by obtain ⟨fuel, hf⟩ := h0; exact open_moves hf
  obtain ⟨s1, rfl, _, _, hs1⟩ := open_string Tryd.underlying9 (hval 1 9 v1 rfl rfl) h1
  clear hA0 hval0
  refine (exOrderWanted W xs0 _ hx0 hz0 s1 hs1 hG).mono fun e W' ⟨he, bel⟩ => ?_
  subst he
  exact ⟨_, rfl, _, _, _, [], _, [], hW', trodAll_mk1 (shut_bool Tryd.underlying4 _), (trodAll_cons_mk (Below.trod laidOut (by kernel_rfl) (of_decide_eq_true (by kernel_rfl)) k0 bel lt0) (trodAll_cons_mk (Below.trod laidOut (by kernel_rfl) (of_decide_eq_true (by kernel_rfl)) k1 bel lt1) trodAll_mk0)), rfl, bel.frame _, fun h => by cases h⟩

theorem over : Rows.fnExactOrderWantedRow.holds Tryd.pinned (OpenSpec.ofChange Rows.fnExactOrderWantedSpec) :=
  OpenClaim.holds_of_wide 9 Tryd.f9 rfl rfl rfl rfl rfl rfl rfl ⟨rfl, rfl, rfl, rfl, rfl⟩ rfl rfl rfl rfl rfl (by kernel_rfl) Tryd.func9 (by kernel_rfl)
    (of_decide_eq_true (by kernel_rfl)) (by unfold Func.isWrapper; first | (rw [if_pos (by decide +kernel)]; kernel_rfl) | (rw [if_neg (by decide +kernel)]; exact ⟨rfl, rfl⟩))
    (fun os started H enc _ => lifted os started H enc)

/-- The statement. -/
theorem proved : Rows.FnExactOrderWantedCardSaid :=
  Claim7.holds_tied_plain_at .later [] [.data, .data] true Rows.fnExactOrderWantedCard.stood.harness false
    over (fun _ h => by cases h) (by kernel_rfl) (fun _ h => by cases h) fnExactOrderWanted_row_tie rfl ⟨rfl, rfl⟩ (by kernel_rfl) rfl
    (fun f fn hf hfn => by
      obtain rfl : f = 9 := Option.some.inj ((show Tryd.prog.funcNamed "loop.example/parallelmoves/laws.FnExactOrderWanted" = some 9 by kernel_rfl).symm.trans hf) |>.symm
      obtain rfl : fn = Tryd.f9 := (Option.some.inj (Tryd.func9.symm.trans hfn)).symm
      exact ⟨by kernel_rfl, fun j t ht => by
        rw [Tryd.params9] at ht
        rcases j with _ | _ | j
        · obtain rfl : t = 41 := by simpa using ht.symm
          exact (show Tryd.prog.wantsStandIn 41 = false by kernel_rfl)
        · obtain rfl : t = 9 := by simpa using ht.symm
          exact (show Tryd.prog.wantsStandIn 9 = false by kernel_rfl)
        · simp at ht⟩)
    (by kernel_rfl)
end fnExactOrderWanted
end Go.Proofs.YtplapaojgcloaaaDoor
