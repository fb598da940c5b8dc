import Derived.Test.YteadhnpmmpninaaGreatHar
import Derived.Test.YteadhnpmmpninaaGreatRing
import Derived.Test.YteadhnpmmpninaaGreatCut
import Derived.Test.YteadhnpmmpninaaGreatWays
import Derived.Test.YteadhnpmmpninaaGreatSource
import Derived.LaidEqlPtr
import Derived.Test.YteadhnpmmpninaaGreatTail
import Derived.Test.YteadhnpmmpninaaGreatNames
import Derived.Test.YteadhnpmmpninaaGreatNamesIn
import Derived.Test.YteadhnpmmpninaaGreatRange
import Derived.Test.YteadhnpmmpninaaGreatSpots
import Derived.Test.YteadhnpmmpninaaGreatReaders
import Derived.Test.YteadhnpmmpninaaGreatApp
import Derived.Test.YteadhnpmmpninaaGreatList
import Derived.Test.YteadhnpmmpninaaGreatRow
namespace Go.PM
open Go.RowKit
def mdig : Nat → Nat → List UInt8
  | 0, _ => []
  | f + 1, n => if n = 0 then [] else mdig f (n / 10) ++ [UInt8.ofNat (48 + n % 10)]
def mT (k : Nat) : ByteArray := if k = 0 then ⟨#[109, 48]⟩ else ⟨(109 :: mdig k k).toArray⟩
theorem mdig_zero (f : Nat) : mdig f 0 = [] := by cases f <;> simp [mdig]
theorem mdig_step (f n : Nat) (h : n ≤ f) (h0 : 0 < n) : ∃ f', f = f' + 1 ∧ n / 10 ≤ f' ∧ mdig f n = mdig f' (n / 10) ++ [UInt8.ofNat (48 + n % 10)] := by
  cases f with
  | zero => omega
  | succ f => exact ⟨f, rfl, by omega, by simp [mdig]; omega⟩
end Go.PM
namespace Go.Proofs.YteadhnpmmpninaaGreat
open Go.RowKit Go.PM

theorem conv_one (W : World) (c : Int) : (convert 22 9 (.slice (some ⟨W.heap.size, 0, none⟩) 1 1)).run Tryz.prog (W.alloc (.cells #[.int .u8 c] 5)) =
    .ok (.string ⟨#[UInt8.ofNat c.toNat]⟩) (W.alloc (.cells #[.int .u8 c] 5)) := by
  rw [run_convert_bytes_string _ _ _ _ _ _ _ Tryz.underlying22 Tryz.underlying5 Tryz.underlying9]
  have hl : (loadCells ⟨W.heap.size, 0, none⟩ 1).run Tryz.prog (W.alloc (.cells #[.int .u8 c] 5)) = .ok ([c].map (Value.int .u8)).toArray (W.alloc (.cells #[.int .u8 c] 5)) :=
    run_loadCells_list (P := Tryz.prog) (W.alloc (.cells #[.int .u8 c] 5)) ⟨W.heap.size, 0, none⟩ [Value.int .u8 c] (fun j v hj => by
      cases j with
      | zero =>
        simp [Addr.add] at hj ⊢
        exact hj
      | succ j => simp at hj)
  rw [run_bytesToString (ns := [c]) _ _ _ _ hl]
  rfl

/-- the cells behind n marked moves, the first mark being number k -/
def marks : Nat → Nat → List Mv
  | 0, _ => []
  | n + 1, k => (mT k, mT (k + 1)) :: marks n (k + 2)
theorem marks_length (n k : Nat) : (marks n k).length = n := by
  induction n generalizing k with
  | zero => rfl
  | succ n ih => simp [marks, ih]
theorem marks_at (n k i : Nat) (h : i < (marks n k).length) : (marks n k)[i] = (mT (k + 2 * i), mT (k + 2 * i + 1)) := by
  induction n generalizing k i with
  | zero => simp [marks] at h
  | succ n ih =>
    cases i with
    | zero => rfl
    | succ i =>
      simp only [marks, List.getElem_cons_succ]
      rw [ih]
      congr 2 <;> omega
/-- the first i of the moves are marked -/
def mmix (xs : List Mv) (i k : Nat) : List Mv := marks i k ++ xs.drop i
theorem marks_snoc (i k : Nat) : marks (i + 1) k = marks i k ++ [(mT (k + 2 * i), mT (k + 2 * i + 1))] := by
  induction i generalizing k with
  | zero => rfl
  | succ i ih =>
    rw [marks, ih (k + 2)]
    simp only [marks, List.cons_append]
    rw [show k + 2 + 2 * i = k + 2 * (i + 1) by omega]
theorem mmix_length (xs : List Mv) (i k : Nat) (h : i ≤ xs.length) : (mmix xs i k).length = xs.length := by
  simp [mmix, marks_length]; omega
theorem mmix_set (xs : List Mv) (i k : Nat) (h : i < xs.length) : ((mcells (mmix xs i k)).set (i * 2) (.string (mT (k + 2 * i)))).set (i * 2 + 1) (.string (mT (k + 2 * i + 1))) = mcells (mmix xs (i + 1) k) := by
  have hl : (mcells (marks i k)).length = i * 2 := by rw [mcells_length, marks_length]
  unfold mmix
  rw [marks_snoc, List.drop_eq_getElem_cons h, mcells_append, mcells_append, mcells_append, mcells_cons]
  rw [List.set_append_right _ _ (by omega), List.set_append_right _ _ (by omega), hl, Nat.sub_self, show i * 2 + 1 - i * 2 = 1 by omega]
  simp [mcells]

end Go.Proofs.YteadhnpmmpninaaGreat
namespace Go.PM
open Go.RowKit
def tcells (ts : List ByteArray) : List Value := ts.map Value.string
theorem tcells_length (ts : List ByteArray) : (tcells ts).length = ts.length := by simp [tcells]
theorem tcells_append (a b : List ByteArray) : tcells (a ++ b) = tcells a ++ tcells b := by simp [tcells]
def RdT (w : World) (v : Value) (ts : List ByteArray) : Prop := Rd w 1 v ts.length (tcells ts)
theorem RdT.below {w w' : World} {v : Value} {ts : List ByteArray} (h : RdT w v ts) (hb : Below w.heap.size w w') : RdT w' v ts := Rd.below h hb
theorem RdT.open {w : World} {v : Value} {ts : List ByteArray} (h : RdT w v ts) : ∃ A cap, v = .slice A ts.length cap ∧ ts.length ≤ 9223372036854775807 ∧ ts.length ≤ cap ∧
    ∀ k (hk : k < ts.length), ∃ b off, A = some ⟨b, off, none⟩ ∧ b < w.heap.size ∧ w.cell? ⟨b, off + k, none⟩ = some (.string ts[k]) := by
  obtain ⟨A, cap, e, hc, hn, hl, hr⟩ := h
  refine ⟨A, cap, e, hn, hc, fun k hk => ?_⟩
  obtain ⟨b, off, eA, hb, hcell⟩ := hr (by omega)
  exact ⟨b, off, eA, hb, hcell _ _ (by unfold tcells; rw [List.getElem?_map, List.getElem?_eq_getElem hk]; rfl)⟩
/-- n marked texts, the first mark being number k -/
def tmarks : Nat → Nat → List ByteArray
  | 0, _ => []
  | n + 1, k => mT k :: tmarks n (k + 1)
theorem tmarks_length (n k : Nat) : (tmarks n k).length = n := by
  induction n generalizing k with
  | zero => rfl
  | succ n ih => simp [tmarks, ih]
theorem tmarks_at (n k i : Nat) (h : i < (tmarks n k).length) : (tmarks n k)[i] = mT (k + i) := by
  induction n generalizing k i with
  | zero => simp [tmarks] at h
  | succ n ih =>
    cases i with
    | zero => rfl
    | succ i =>
      simp only [tmarks, List.getElem_cons_succ]
      rw [ih]
      congr 1; omega
def tmix (ts : List ByteArray) (i k : Nat) : List ByteArray := tmarks i k ++ ts.drop i
theorem tmarks_snoc (i k : Nat) : tmarks (i + 1) k = tmarks i k ++ [mT (k + i)] := by
  induction i generalizing k with
  | zero => rfl
  | succ i ih =>
    rw [tmarks, ih (k + 1)]
    simp only [tmarks, List.cons_append]
    rw [show k + 1 + i = k + (i + 1) by omega]
theorem tmix_length (ts : List ByteArray) (i k : Nat) (h : i ≤ ts.length) : (tmix ts i k).length = ts.length := by
  simp [tmix, tmarks_length]; omega
theorem tmix_set (ts : List ByteArray) (i k : Nat) (h : i < ts.length) : (tcells (tmix ts i k)).set i (.string (mT (k + i))) = tcells (tmix ts (i + 1) k) := by
  have hl : (tcells (tmarks i k)).length = i := by rw [tcells_length, tmarks_length]
  unfold tmix
  rw [tmarks_snoc, List.drop_eq_getElem_cons h, tcells_append, tcells_append, tcells_append]
  rw [List.set_append_right _ _ (by omega), hl, Nat.sub_self]
  simp only [tcells, List.map_cons, List.map_nil, List.set_cons_zero, List.append_assoc, List.cons_append, List.nil_append]
end Go.PM
namespace Go.Proofs.YteadhnpmmpninaaGreat
open Go.RowKit Go.PM

end Go.Proofs.YteadhnpmmpninaaGreat
namespace Go.PW
open Go.PM
def ringsT (nx : Nat → Option Nat) (k : Nat) : List ByteArray := (ringsF nx k).map txt
def ringsB (xs : List Mv) : List ByteArray := if mvalid xs then ringsT (nxT (tabOf xs)) 9 else []
theorem ringsB_len (xs : List Mv) : (ringsB xs).length ≤ 1000 := by
  unfold ringsB
  by_cases h : mvalid xs = true
  · rw [if_pos h]
    have := (ringsF_lt (nice (SV_tab (by simpa [mvalid] using h))) 9 (by omega)).2.1
    unfold ringsT; rw [List.length_map]; omega
  · rw [if_neg h]; simp
theorem way_first (nx : Nat → Option Nat) (s : Nat) (hn : Nice nx) (hs : s < 19) : ∃ l, way nx s = s :: l := by
  have hr := way_rho hn hs
  have h1 := hr.at_ 0 hr.pos
  cases hw : way nx s with
  | nil => have := hr.pos; rw [hw] at this; simp at this
  | cons a l =>
    rw [hw] at h1
    simp only [List.getElem?_cons_zero, orb, Option.some.injEq] at h1
    subst h1; exact ⟨l, rfl⟩
end Go.PW
namespace Go.Proofs.YteadhnpmmpninaaGreat
open Go.RowKit Go.PM Go.PW Go.Lib

set_option maxRecDepth 100000 in
set_option maxHeartbeats 1000000 in
theorem l3Rings_c (xs : List Mv) (h1 : MV xs) (v : Value) (w : World) (hx : RdM w v xs) :
    Calls Tryz.prog 36 #[v] w fun e w' => ∃ v', e = .returned v' ∧ w'.ownsRow w.heap.size 9 1 v' (ringsT (nxT (tabOf xs)) 9).length (tcells (ringsT (nxT (tabOf xs)) 9)) ∧ Below w.heap.size w w' := by
  have hf := SV_tab h1
  have hn := nice hf
  have HN : Hid (∀ q, q < 9 → (ByteArray.mk #[97, 98, 99, 100, 101, 102, 65, 66, 67]).extract q (q+1) = sn q) := by
    show ∀ q, _
    intro q hq
    match q, hq with
    | 0, _ | 1, _ | 2, _ | 3, _ | 4, _ | 5, _ | 6, _ | 7, _ | 8, _ => decide +kernel
  have HRG := Lib.hid (fun i (hi : i < 19) W (hW : RdM W v xs) => l3Ring_c xs h1 v i hi W hW)
  have HX := Lib.hid (fun W (hW : Below w.heap.size w W) => hx.below hW)
  have hE := World.ownsRow_lit (e := 9) (base := w.heap.size) (size := 1) w #[] 0 (Nat.le_refl _) (Nat.zero_le _) rfl
  have HLT := Lib.hid (fun k (hk : k ≤ 9) => ringsF_lt hn k hk)
  have HYES := Lib.hid (fun k => ringsF_yes (nx := nxT (tabOf xs)) (k := k))
  have HNO := Lib.hid (fun k => ringsF_no (nx := nxT (tabOf xs)) (k := k))
  have HON := Lib.hid (fun s (h : onRb (nxT (tabOf xs)) s = true) => show ringL (nxT (tabOf xs)) s = way (nxT (tabOf xs)) s by rw [ringL, if_pos h])
  have HOFF := Lib.hid (fun s (h : ¬ onRb (nxT (tabOf xs)) s = true) => show ringL (nxT (tabOf xs)) s = [] by rw [ringL, if_neg h])
  have HFI := Lib.hid (fun s hs => way_first (nxT (tabOf xs)) s hn hs)
  have HWL := Lib.hid (fun s (hs : s < 19) => (way_rho hn hs).len)
  have HT : Hid (∀ k, ringsT (nxT (tabOf xs)) k = (ringsF (nxT (tabOf xs)) k).map txt) := fun _ => rfl
  have H0 : Hid (ringsF (nxT (tabOf xs)) 0 = []) := rfl
  clear hf hn
  generalize nxT (tabOf xs) = nx at *
  go_enter Tryz.func36, Tryz.ntmps36
  go_wp2
  go_loopw [3, 4, 5, 6, 8] (fun o sn _ _ i wr => ∃ (k : Nat), k ≤ 9 ∧ i = .int .i64 k ∧ wr.ownsRow w.heap.size 9 1 o (ringsT nx k).length (tcells (ringsT nx k)) ∧ sn = .string (txt (ringsF nx k).flatten) ∧ Below w.heap.size w wr) (fun _ _ _ _ i _ => 9 - (RowKit.intOf i).toNat)
  case atStart => exact ⟨0, by omega, rfl, by rw [HT.out, H0.out]; exact hE, by rw [H0.out]; rfl, by (repeat' (first | (with_reducible exact Below.refl _ _) | (with_reducible assumption) | (with_reducible refine Below.alloc ?_ ?_ _) | (with_reducible refine Below.drew ?_) | (with_reducible refine Below.setCell ?_ ?_ _) | (with_reducible exact Nat.le_refl _) | omega | ((repeat (first | rewrite [World.size_alloc] | rewrite [World.size_setCell] | rewrite [World.size_drew])); omega) | (simp; omega) | (simp; done)))⟩
  case round =>
    obtain ⟨k, hk, rfl, ho, rfl, hb⟩ := hrel
    have hbs := hb.size
    by_cases hlt : k < 9
    · have hex := HN.out k hlt
      have hxr := HX.out wr hb
      have hrg := HRG.out k (by omega) wr hxr
      by_cases hon : onRb nx k = true
      · rw [HON.out k hon] at hrg
        obtain ⟨l, hl⟩ := HFI.out k (by omega)
        have hwl := HWL.out k (by omega)
        have hsz := txt_size (way nx k)
        have hfl := HLT.out k hk
        have hfz := txt_size (ringsF nx k).flatten
        have hmem := txt_mem hfl.1 (show k < 19 by omega)
        have ht0 : ∀ h : 0 < (txt (way nx k)).size, (txt (way nx k))[0] = ch k := by
          rw [hl]; intro h; rfl
        have hpos : 0 < (way nx k).length := by rw [hl]; simp
        have HRX := Lib.hid hrg
        have HME := Lib.hid hmem
        clear hrg hmem hl
        by_cases hin : k ∈ (ringsF nx k).flatten
        · have hno := HNO.out k (fun h => h.2 hin)
          have HNX := Lib.hid hno
          have HIX : Hid ((0 : Int) ≤ indexByte (txt (ringsF nx k).flatten).data.toList (ch k)) := (indexByte_mem _ _).2 (HME.out.2 hin)
          clear hno hin
          generalize txt (way nx k) = t at *
          generalize ch k = c at *
          generalize hsfe : txt (ringsF nx k).flatten = sf at *
          have HSF := Lib.hid hsfe
          clear hsfe
          have hne : t.toList.isEmpty = false := by
            rw [ByteArray.toList_eq]
            cases hl : t.data.toList with
            | nil => have := size_data t; rw [hl] at this; simp at this; omega
            | cons a l => rfl
          have htp : 0 < t.size := by omega
          have ht1 := ht0 htp
          clear ht0
          have hsf : sf.size ≤ 9223372036854775807 := by have := hfl.2.2; omega
          go_wp2_with fail
          refine HRX.out.mono ?_
          rintro e w2 ⟨rfl, hb2⟩
          have ho2 := own_keep ho hb2
          have hbw := hb.trans (hb2.mono hbs)
          have hbws := hbw.size
          clear hb2 ho
          have hix := HIX.out
          go_wp2_with (go_at_call 73; refine (l13Find_c sf c _ hsf).mono ?_; rintro e w' ⟨rfl, rfl⟩)
          go_roundw
          case rel => exact ⟨k + 1, by omega, by go_num, by rw [HT.out, HNX.out, ← HT.out]; exact ho2, by rw [HNX.out, HSF.out], hbw⟩
          case measure => simp [RowKit.intOf]; omega
        · have hyes := HYES.out k hon hin
          have HNX := Lib.hid hyes
          have HIX : Hid (¬ (0 : Int) ≤ indexByte (txt (ringsF nx k).flatten).data.toList (ch k)) := fun h => hin (HME.out.1 ((indexByte_mem _ _).1 h))
          have HTX : Hid (ringsT nx (k + 1) = ringsT nx k ++ [txt (way nx k)]) := by show _ = _; rw [HT.out, HT.out, hyes]; simp
          have HSX : Hid (txt (ringsF nx (k + 1)).flatten = txt (ringsF nx k).flatten ++ txt (way nx k)) := by
            show _ = _
            rw [hyes, List.flatten_append, txt_append]; simp
          have hrl : (ringsT nx k).length ≤ 9 := by rw [HT.out, List.length_map]; have := hfl.2.1; omega
          clear hyes hin
          generalize txt (way nx k) = t at *
          generalize ch k = c at *
          generalize hsfe : txt (ringsF nx k).flatten = sf at *
          have HSF := Lib.hid hsfe
          clear hsfe
          have hne : t.toList.isEmpty = false := by
            rw [ByteArray.toList_eq]
            cases hl : t.data.toList with
            | nil => have := size_data t; rw [hl] at this; simp at this; omega
            | cons a l => rfl
          have htp : 0 < t.size := by omega
          have ht1 := ht0 htp
          clear ht0
          have hsf : sf.size ≤ 9223372036854775807 := by have := hfl.2.2; omega
          go_wp2_with fail
          refine HRX.out.mono ?_
          rintro e w2 ⟨rfl, hb2⟩
          have ho2 := own_keep ho hb2
          have hbw := hb.trans (hb2.mono hbs)
          have hbws := hbw.size
          have hix := HIX.out
          have hlt0 : indexByte sf.data.toList c < 0 := by omega
          have hnw := one_new w2 (.string t) 9
          have hown0 := own_keep ho2 ((Below.refl _ _).alloc (Nat.le_refl _) (.cells #[.string t] 9))
          go_wp2_with (first | (go_at_call 73; refine (l13Find_c sf c _ hsf).mono ?_; rintro e w' ⟨rfl, rfl⟩) | (at_builtin; refine app_str rfl (.tmp 26) (.tmp 28) rfl w.heap.size u3 (ringsT nx k) t ⟨w2.heap.size, 0, none⟩ 1 (by rfl) (by rfl) hown0 hnw (by omega) (by simp; omega) ?_; intro v' w3 hown3 hgrow3))
          have hb3 := below_grown hgrow3 (B := w.heap.size) (by simp; omega) (own_block_ge ho)
          have hbw3 := (hbw.alloc hbws (.cells #[.string t] 9)).trans hb3
          go_roundw
          case rel =>
            refine ⟨k + 1, by omega, by go_num, ?_, by rw [HSX.out], hbw3⟩
            rw [HTX.out]; exact hown3
          case measure => simp [RowKit.intOf]; omega
      · rw [HOFF.out k hon] at hrg
        have HRX := Lib.hid hrg
        have HNX := Lib.hid (HNO.out k (fun h => hon h.1))
        clear hrg
        go_wp2_with fail
        refine HRX.out.mono ?_
        rintro e w2 ⟨rfl, hb2⟩
        rw [show txt [] = ⟨#[]⟩ from rfl]
        have ho2 := own_keep ho hb2
        have hbw := hb.trans (hb2.mono hbs)
        clear hb2 ho
        go_wp2
        go_roundw
        case rel => exact ⟨k + 1, by omega, by go_num, by rw [HT.out, HNX.out, ← HT.out]; exact ho2, by rw [HNX.out], hbw⟩
        case measure => simp [RowKit.intOf]; omega
    · have hk9 : k = 9 := by omega
      subst hk9
      go_wp2
      go_ret
      exact ⟨_, rfl, ho, hb⟩

end Go.Proofs.YteadhnpmmpninaaGreat
namespace Go.PW
open Go.RowKit Go.PM
def spotV (b : Nat) : Option Nat → Value
  | none => .pointer none
  | some j => .pointer (some ⟨b, j * 2, none⟩)
/-- the spots lie in block b -/
structure Spots (w : World) (b : Nat) (nx : Nat → Option Nat) : Prop where
  row : ∃ t cs, At w b t cs
  name : ∀ i, i < 19 → w.cell? ⟨b, i * 2, none⟩ = some (.string (sn i))
  src : ∀ i, i < 19 → w.cell? ⟨b, i * 2 + 1, none⟩ = some (spotV b (nx i))
theorem Spots.lt {w : World} {b : Nat} {nx : Nat → Option Nat} (h : Spots w b nx) : b < w.heap.size := by
  obtain ⟨t, cs, h⟩ := h.row; exact h.lt
theorem Spots.below {w w' : World} {b : Nat} {nx : Nat → Option Nat} (h : Spots w b nx) (hb : Below w.heap.size w w') : Spots w' b nx :=
  ⟨by obtain ⟨t, cs, h⟩ := h.row; exact ⟨t, cs, h.keep hb⟩, fun i hi => (hb.cell (p := ⟨b, i * 2, none⟩) h.lt).trans (h.name i hi), fun i hi => (hb.cell (p := ⟨b, i * 2 + 1, none⟩) h.lt).trans (h.src i hi)⟩
/-- two pointers that walk: r rounds are left at most -/
def Run (ob : Nat → Option Nat) (b K : Nat) (r : Nat) (sl fa : Value) : Prop := ∃ k, k + r = K ∧ 0 < r ∧ sl = spotV b (ob k) ∧ fa = spotV b (ob (2 * k))
theorem Run.next {ob : Nat → Option Nat} {b K k : Nat} {X Y X0 Y0 : Value} (h1 : k + least (fun r => Run ob b K r X0 Y0) = K) (hk : k + 1 < K) (hX : X = spotV b (ob (k + 1))) (hY : Y = spotV b (ob (2 * (k + 1)))) :
    (∃ r, Run ob b K r X Y) ∧ least (fun r => Run ob b K r X Y) < least (fun r => Run ob b K r X0 Y0) := by
  have h : Run ob b K (K - (k + 1)) X Y := ⟨k + 1, by omega, by omega, hX, hY⟩
  refine ⟨⟨_, h⟩, ?_⟩
  have := (least_spec (P := fun r => Run ob b K r X Y) ⟨_, h⟩).2 _ h
  omega
end Go.PW
namespace Go.Proofs.YteadhnpmmpninaaGreat
open Go.RowKit Go.PM Go.PW Go.Lib

theorem infoSp : (Tryz.prog.info? 109).map (fun i => (i.zero, i.size, i.bytes)) = some (some (.agg #[.string ⟨#[]⟩, .pointer none]), 2, 24) := by kernel_rfl
theorem eqlp_yes (w : World) (a : Addr) : (binOp .eql 107 (.pointer (some a)) (.pointer (some a))).run Tryz.prog w = .ok (.bool true) w := by
  obtain ⟨i0, hi0, hz0, hz1, hz2⟩ := info_parts infoSp
  exact run_eql_ptr_same w a Tryz.underlying107 hi0
theorem eqlp_no (w : World) (b : Nat) (nx : Nat → Option Nat) (hS : Spots w b nx) (i j : Nat) (h : ¬ i = j) : (binOp .eql 107 (.pointer (some ⟨b, i * 2, none⟩)) (.pointer (some ⟨b, j * 2, none⟩))).run Tryz.prog w = .ok (.bool false) w := by
  obtain ⟨i0, hi0, hz0, hz1, hz2⟩ := info_parts infoSp
  obtain ⟨t, cs, hA⟩ := hS.row
  exact run_eql_ptr_other w Tryz.underlying107 hi0 (by rw [hz1]; decide) (by intro e; injection e with _ e; omega) hA hA
theorem neqp_yes (w : World) (a : Addr) : (binOp .neq 107 (.pointer (some a)) (.pointer (some a))).run Tryz.prog w = .ok (.bool false) w := by
  have h := eqlp_yes w a
  simp only [binOp] at h ⊢
  simp only [Sem.run_bind] at h ⊢
  revert h
  cases (Op.equal 107 (.pointer (some a)) (.pointer (some a))).run Tryz.prog w <;> simp [Result.andThen]
theorem neqp_no (w : World) (b : Nat) (nx : Nat → Option Nat) (hS : Spots w b nx) (i j : Nat) (h : ¬ i = j) : (binOp .neq 107 (.pointer (some ⟨b, i * 2, none⟩)) (.pointer (some ⟨b, j * 2, none⟩))).run Tryz.prog w = .ok (.bool true) w := by
  have h := eqlp_no w b nx hS i j h
  simp only [binOp] at h ⊢
  simp only [Sem.run_bind] at h ⊢
  revert h
  cases (Op.equal 107 (.pointer (some ⟨b, i * 2, none⟩)) (.pointer (some ⟨b, j * 2, none⟩))).run Tryz.prog w <;> simp [Result.andThen]

set_option maxRecDepth 100000 in
set_option maxHeartbeats 1000000 in
theorem meeting_c (b : Nat) (nx : Nat → Option Nat) (hn : Nice nx) (s : Nat) (hs : s < 19) (w : World) (hS : Spots w b nx) :
    Calls Tryz.prog 102 #[spotV b (some s)] w fun e w' => (∃ m, e = .returned (spotV b m) ∧ Meet nx s m) ∧ Below w.heap.size w w' := by
  have hmt := (way_rho hn hs).meets
  obtain ⟨K, hK1, hK2, hK3⟩ := hmt
  have HK3 := Lib.hid hK3
  have HL := Lib.hid (fun k i (h : orb nx s k = some i) => orb_lt hn hs k i h)
  have HO := Lib.hid (show ∀ k, orb nx s (k + 1) = (orb nx s k).bind nx from fun _ => rfl)
  have HZ : Hid (orb nx s 0 = some s) := rfl
  have HG := Lib.hid (fun a b (h : orb nx s a = none) (hab : a ≤ b) => orb_none_ge h hab)
  have HM : Hid (∀ m, Meet nx s m ↔ (m = none ∧ ∃ k, orb nx s k = none) ∨ ∃ k, 0 < k ∧ m = orb nx s k ∧ orb nx s k = orb nx s (2 * k)) := fun _ => Iff.rfl
  have hbl := hS.lt
  clear hK3 hn
  generalize orb nx s = ob at *
  change Calls Tryz.prog _ #[.pointer (some ⟨b, s * 2, none⟩)] w _
  go_enter Tryz.func102, Tryz.ntmps102
  go_wp2
  go_loopw [3, 4] (fun sl fa wr => (∃ r, Run ob b K r sl fa) ∧ Below w.heap.size w wr) (fun sl fa _ => least (fun r => Run ob b K r sl fa))
  case atStart => exact ⟨⟨K, 0, by omega, by omega, by rw [HZ.out]; rfl, by rw [HZ.out]; rfl⟩, Below.refl _ _⟩
  case round =>
    obtain ⟨hru, hb⟩ := hrel
    obtain ⟨k, hk0, hk1, e3, e4⟩ := (least_spec hru).1
    clear hru
    have HK0 := Lib.hid hk0
    have hk : k < K := by omega
    clear hk0 hk1
    subst e3 e4
    have hS2 := hS.below hb
    have hbs := hb.size
    cases hfa : ob (2 * k) with
    | none =>
      have HF := Lib.hid hfa
      clear hfa
      rw [show spotV b none = .pointer none from rfl]
      go_wp2
      go_ret
      exact ⟨⟨none, rfl, (HM.out none).2 (.inl ⟨rfl, _, HF.out⟩)⟩, hb⟩
    | some j =>
      have hjl := HL.out _ _ hfa
      have hcj := hS2.src j hjl
      rw [show spotV b (some j) = .pointer (some ⟨b, j * 2, none⟩) from rfl]
      cases hj2 : nx j with
      | none =>
        have HE : Hid (ob (2 * k + 1) = none) := by show _ = _; rw [HO.out, hfa]; exact hj2
        rw [hj2, show spotV b none = .pointer none from rfl] at hcj
        clear hj2 hfa
        go_wp2
        go_ret
        exact ⟨⟨none, rfl, (HM.out none).2 (.inl ⟨rfl, _, HE.out⟩)⟩, hb⟩
      | some j2 =>
        rw [hj2, show spotV b (some j2) = .pointer (some ⟨b, j2 * 2, none⟩) from rfl] at hcj
        have h21 : ob (2 * k + 1) = some j2 := by rw [HO.out, hfa]; exact hj2
        have h22 : ob (2 * (k + 1)) = nx j2 := by rw [show 2 * (k + 1) = 2 * k + 1 + 1 by omega, HO.out, h21]; rfl
        have hl2 := HL.out _ _ h21
        have hc2 := hS2.src j2 hl2
        cases hsl : ob k with
        | none => rw [HG.out _ _ hsl (show k ≤ 2 * k by omega)] at hfa; cases hfa
        | some i =>
          have hil := HL.out _ _ hsl
          have hci := hS2.src i hil
          have h11 : ob (k + 1) = nx i := by rw [HO.out, hsl]; rfl
          rw [show spotV b (some i) = .pointer (some ⟨b, i * 2, none⟩) from rfl]
          have HK1 : Hid (k + least (fun r => Run ob b K r (.pointer (some ⟨b, i * 2, none⟩)) (.pointer (some ⟨b, j * 2, none⟩))) = K) := by
            have h0 := HK0.out
            rw [hsl, hfa] at h0
            exact h0
          have H22 := Lib.hid h22
          have H11 := Lib.hid h11
          clear hj2 hfa h22 h11 hsl h21
          generalize nx j2 = f2 at *
          generalize nx i = s2 at *
          go_wp2
          have cx1 : ∀ x : Ext w.heap.size wr, x.val.cell? ⟨b, i * 2 + 1, none⟩ = some (spotV b s2) := fun x => (x.property.cell (p := ⟨b, i * 2 + 1, none⟩) hbl).trans hci
          have cx2 : ∀ x : Ext w.heap.size wr, x.val.cell? ⟨b, j * 2 + 1, none⟩ = some (.pointer (some ⟨b, j2 * 2, none⟩)) := fun x => (x.property.cell (p := ⟨b, j * 2 + 1, none⟩) hbl).trans hcj
          have cx3 : ∀ x : Ext w.heap.size wr, x.val.cell? ⟨b, j2 * 2 + 1, none⟩ = some (spotV b f2) := fun x => (x.property.cell (p := ⟨b, j2 * 2 + 1, none⟩) hbl).trans hc2
          refine wp_region_ext w.heap.size (by kernel_rfl) (by kernel_rfl) ?_
          repeat (go_big_quiet_step (fail))
          refine wpQuiet_nil ?_
          intro w2 hw'
          obtain ⟨xw, hxw⟩ := hw'
          have hb2 := xw.property
          rw [← hxw] at hb2
          clear hxw xw cx1 cx2 cx3 hcj hc2 hci
          have hbw := hb.trans hb2
          have HEQ : Hid (s2 = f2 → Meet nx s s2) := fun e => (HM.out s2).2 (.inr ⟨k + 1, by omega, H11.out.symm, by rw [H11.out, H22.out, e]⟩)
          have HNE : Hid (s2 ≠ f2 → k + 1 < K) := by
            intro e
            rcases Nat.lt_or_ge (k + 1) K with h1 | h1
            · exact h1
            · exfalso
              have : k + 1 = K := by omega
              have h2 := HK3.out
              rw [← this, H11.out, H22.out] at h2
              exact e h2
          have HNX : Hid (s2 = ob (k + 1) ∧ f2 = ob (2 * (k + 1))) := ⟨H11.out.symm, H22.out.symm⟩
          clear H11 H22
          cases s2 with
          | none =>
            cases f2 with
            | none =>
              have HT := Lib.hid (HEQ.out rfl)
              rw [show spotV b none = .pointer none from rfl]
              go_wp2
              go_ret
              exact ⟨⟨none, rfl, HT.out⟩, hbw⟩
            | some j3 =>
              exfalso
              have h1 := HG.out _ _ HNX.out.1.symm (show k + 1 ≤ 2 * (k + 1) by omega)
              rw [← HNX.out.2] at h1; cases h1
          | some i2 =>
            cases f2 with
            | none =>
              have hk2 := HNE.out (by intro h; cases h)
              rw [show spotV b none = .pointer none from rfl, show spotV b (some i2) = .pointer (some ⟨b, i2 * 2, none⟩) from rfl]
              have HFIN := Lib.hid (Run.next (X := .pointer (some ⟨b, i2 * 2, none⟩)) (Y := .pointer none) HK1.out hk2 (by rw [← HNX.out.1]; rfl) (by rw [← HNX.out.2]; rfl))
              go_wp2
              go_roundw
              case rel => exact ⟨HFIN.out.1, hbw⟩
              case measure => exact HFIN.out.2
            | some j3 =>
              rw [show spotV b (some j3) = .pointer (some ⟨b, j3 * 2, none⟩) from rfl, show spotV b (some i2) = .pointer (some ⟨b, i2 * 2, none⟩) from rfl]
              by_cases e : i2 = j3
              · subst e
                have hq := eqlp_yes w2 ⟨b, i2 * 2, none⟩
                have HT := Lib.hid (HEQ.out rfl)
                go_wp2
                go_ret
                exact ⟨⟨some i2, rfl, HT.out⟩, hbw⟩
              · have hk2 := HNE.out (fun h => e (Option.some.inj h))
                have hq := eqlp_no w2 b nx (hS.below hbw) i2 j3 e
                have HFIN := Lib.hid (Run.next (X := .pointer (some ⟨b, i2 * 2, none⟩)) (Y := .pointer (some ⟨b, j3 * 2, none⟩)) HK1.out hk2 (by rw [← HNX.out.1]; rfl) (by rw [← HNX.out.2]; rfl))
                go_wp2
                go_roundw
                case rel => exact ⟨HFIN.out.1, hbw⟩
                case measure => exact HFIN.out.2
end Go.Proofs.YteadhnpmmpninaaGreat
namespace Go.PW
open Go.RowKit Go.PM
/-- two pointers that walk side by side: r rounds are left -/
def Run2 (ob : Nat → Option Nat) (b k D : Nat) (r : Nat) (x y : Value) : Prop := ∃ j, j + r = D ∧ x = spotV b (ob j) ∧ y = spotV b (ob (k + j))
theorem Run2.next {ob : Nat → Option Nat} {b k D j : Nat} {X Y X0 Y0 : Value} (h1 : j + least (fun r => Run2 ob b k D r X0 Y0) = D) (hk : j < D) (hX : X = spotV b (ob (j + 1))) (hY : Y = spotV b (ob (k + (j + 1)))) :
    (∃ r, Run2 ob b k D r X Y) ∧ least (fun r => Run2 ob b k D r X Y) < least (fun r => Run2 ob b k D r X0 Y0) := by
  have h : Run2 ob b k D (D - (j + 1)) X Y := ⟨j + 1, by omega, hX, hY⟩
  refine ⟨⟨_, h⟩, ?_⟩
  have := (least_spec (P := fun r => Run2 ob b k D r X Y) ⟨_, h⟩).2 _ h
  omega
/-- one pointer that walks, and a counter -/
def Run1 (ob : Nat → Option Nat) (b D : Nat) (r : Nat) (x : Value) (n : Value) : Prop := ∃ j : Nat, j + r = D ∧ x = spotV b (ob j) ∧ n = .int .i64 j
end Go.PW
namespace Go.Proofs.YteadhnpmmpninaaGreat
open Go.RowKit Go.PM Go.PW Go.Lib

set_option maxRecDepth 100000 in
set_option maxHeartbeats 1000000 in
theorem entrance_c (b : Nat) (nx : Nat → Option Nat) (hn : Nice nx) (s : Nat) (hs : s < 19) (w : World) (hS : Spots w b nx) :
    Calls Tryz.prog 81 #[spotV b (some s)] w fun e w' => (∃ m, e = .returned (spotV b m) ∧ Ent nx s m) ∧ Below w.heap.size w w' := by
  have hrho := way_rho hn hs
  have HSec := Lib.hid (fun m (h : Meet nx s m) => hrho.second h)
  obtain ⟨D0, hD0, _⟩ := hrho.stops
  have HEn : Hid (∀ k, orb nx s k = none → Ent nx s none) := fun k hk => ⟨D0, hD0, .inl ⟨rfl, k, hk⟩⟩
  have HEs : Hid (∀ D, Stops nx s D → (∀ i, orb nx s i ≠ none) → Ent nx s (orb nx s D)) := fun D hD h => ⟨D, hD, .inr ⟨rfl, h⟩⟩
  have HL := Lib.hid (fun k i (h : orb nx s k = some i) => orb_lt hn hs k i h)
  have HO := Lib.hid (show ∀ k, orb nx s (k + 1) = (orb nx s k).bind nx from fun _ => rfl)
  have HZ : Hid (orb nx s 0 = some s) := rfl
  have hbl := hS.lt
  have HMT := Lib.hid (meeting_c b nx hn s hs w hS)
  clear hrho hD0 hn
  change Calls Tryz.prog _ #[.pointer (some ⟨b, s * 2, none⟩)] w _
  go_enter Tryz.func81, Tryz.ntmps81
  go_wp2_with fail
  refine HMT.out.mono ?_
  rintro e w1 ⟨⟨m, rfl, hm⟩, hb1⟩
  have hS1 := hS.below hb1
  have hs1 := hb1.size
  rcases HSec.out m hm with ⟨rfl, k, hk⟩ | ⟨k, D, hD, rfl, hne, heq, hall⟩
  · have HF := Lib.hid (HEn.out k hk)
    clear hm hk
    rw [show spotV b none = .pointer none from rfl]
    go_wp2
    refine wp_loop_rounds 1 ?_
    rw [rounds_succ]
    go_wp2
    go_ret
    exact ⟨⟨none, rfl, HF.out⟩, hb1⟩
  · have HF := Lib.hid (HEs.out D hD hall)
    have HNE := Lib.hid hne
    have HEQ := Lib.hid heq
    have HA := Lib.hid hall
    clear hm hD hne heq hall HEn HEs HSec HMT
    generalize orb nx s = ob at *
    go_wp2
    go_loopw [3, 4] (fun x y wr => (∃ r, Run2 ob b k D r x y) ∧ Below w.heap.size w wr) (fun x y _ => least (fun r => Run2 ob b k D r x y))
    case atStart => exact ⟨⟨D, 0, by omega, by rw [HZ.out]; rfl, rfl⟩, hb1⟩
    case round =>
      obtain ⟨hru, hb⟩ := hrel
      obtain ⟨j, hk0, e3, e4⟩ := (least_spec hru).1
      clear hru
      have HK0 := Lib.hid hk0
      have hk : j ≤ D := by omega
      clear hk0
      subst e3 e4
      have hS2 := hS.below hb
      have hbs := hb.size
      cases hx : ob j with
      | none => exact absurd hx (HA.out _)
      | some x =>
        cases hy : ob (k + j) with
        | none => exact absurd hy (HA.out _)
        | some y =>
          rw [show spotV b (some x) = .pointer (some ⟨b, x * 2, none⟩) from rfl, show spotV b (some y) = .pointer (some ⟨b, y * 2, none⟩) from rfl]
          have HK1 : Hid (j + least (fun r => Run2 ob b k D r (.pointer (some ⟨b, x * 2, none⟩)) (.pointer (some ⟨b, y * 2, none⟩))) = D) := by
            have h0 := HK0.out
            rw [hx, hy] at h0
            exact h0
          by_cases hj : j = D
          · have e : x = y := by
              have h := HEQ.out
              rw [← hj, hx, hy] at h
              exact Option.some.inj h
            subst e
            have HR : Hid (ob D = some x) := by show _ = _; rw [← hj]; exact hx
            have hq := neqp_yes wr ⟨b, x * 2, none⟩
            clear hx hy hj HK0 HK1
            go_wp2
            go_ret
            exact ⟨⟨some x, rfl, by rw [← HR.out]; exact HF.out⟩, hb⟩
          · have hjD : j < D := by omega
            have e : ¬ x = y := fun e => HNE.out j hjD (by rw [hx, hy, e])
            have hq := neqp_no wr b nx hS2 x y e
            have hxl := HL.out _ _ hx
            have hyl := HL.out _ _ hy
            have hcx := hS2.src x hxl
            have hcy := hS2.src y hyl
            have h1 : ob (j + 1) = nx x := by rw [HO.out, hx]; rfl
            have h2 : ob (k + (j + 1)) = nx y := by rw [← Nat.add_assoc, HO.out, hy]; rfl
            have HFIN := Lib.hid (Run2.next (X := spotV b (nx x)) (Y := spotV b (nx y)) HK1.out hjD (by rw [h1]) (by rw [h2]))
            clear hx hy h1 h2 HK0 HK1
            generalize nx x = x2 at *
            generalize nx y = y2 at *
            go_wp2
            have cx1 : ∀ x_1 : Ext w.heap.size wr, x_1.val.cell? ⟨b, x * 2 + 1, none⟩ = some (spotV b x2) := fun x_1 => (x_1.property.cell (p := ⟨b, x * 2 + 1, none⟩) hbl).trans hcx
            have cx2 : ∀ x_1 : Ext w.heap.size wr, x_1.val.cell? ⟨b, y * 2 + 1, none⟩ = some (spotV b y2) := fun x_1 => (x_1.property.cell (p := ⟨b, y * 2 + 1, none⟩) hbl).trans hcy
            refine wp_region_ext w.heap.size (by kernel_rfl) (by kernel_rfl) ?_
            repeat (go_big_quiet_step (fail))
            refine wpQuiet_nil ?_
            intro w2 hw'
            obtain ⟨xw, hxw⟩ := hw'
            have hb2 := xw.property
            rw [← hxw] at hb2
            clear hxw xw cx1 cx2 hcx hcy hq
            have hbw := hb.trans hb2
            go_wp2
            go_roundw
            case rel => exact ⟨HFIN.out.1, hbw⟩
            case measure => exact HFIN.out.2
end Go.Proofs.YteadhnpmmpninaaGreat
namespace Go.Proofs.YteadhnpmmpninaaGreat
open Go.RowKit Go.PM Go.PW Go.Lib

set_option maxRecDepth 100000 in
set_option maxHeartbeats 1000000 in
theorem wayBack_c (b : Nat) (nx : Nat → Option Nat) (hn : Nice nx) (s : Nat) (hs : s < 19) (w : World) (hS : Spots w b nx) :
    Calls Tryz.prog 82 #[spotV b (some s)] w fun e w' => e = .returned (.string (txt (way nx s))) ∧ Below w.heap.size w w' := by
  have HZ : Hid (way nx s = wayF nx 20 [] (some s)) := rfl
  have HO := Lib.hid (show ∀ k, orb nx s (k + 1) = (orb nx s k).bind nx from fun _ => rfl)
  have HSN := Lib.hid (fun acc i (h : Acc nx s acc) (hi : orb nx s acc.length = some i) hm => h.snoc hn hs hi hm)
  have HST := Lib.hid (fun n acc i (hm : i ∉ acc) => wayF_step (nx := nx) (n := n) hm)
  have HHT := Lib.hid (fun n acc i (hm : i ∈ acc) => wayF_hit (nx := nx) (n := n) hm)
  have HNO := Lib.hid (fun n acc => wayF_none (nx := nx) (n := n) (acc := acc))
  have HL := Lib.hid (fun k i (h : orb nx s k = some i) => orb_lt hn hs k i h)
  have HAN := Lib.hid (Acc.nil (nx := nx) s)
  have HORB0 : Hid (orb nx s 0 = some s) := rfl
  have hbl := hS.lt
  have hcon : ∀ (t : ByteArray) c (W : World), Calls Tryz.prog 79 #[.string t, .string ⟨#[c]⟩] W fun e w' => e = .returned (.bool (decide (c ∈ t.data.toList))) ∧ W = w' := fun t c W =>
    (Tryz.strings_Contains_one t c W).mono fun _ _ ⟨e1, e2⟩ => ⟨by
      rw [e1]; congr 2; simp only [indexByte_mem], e2.symm⟩
  have HC := Lib.hid hcon
  clear hcon hn
  change Calls Tryz.prog _ #[.pointer (some ⟨b, s * 2, none⟩)] w _
  go_enter Tryz.func82, Tryz.ntmps82
  go_wp2
  go_loopw [3, 4] (fun o x wr => ∃ (acc : List Nat) (n : Nat) (c : Option Nat), o = .string (txt acc) ∧ x = spotV b c ∧ acc.length + n = 20 ∧ Hid (Acc nx s acc ∧ orb nx s acc.length = c ∧ way nx s = wayF nx n acc c) ∧ Below w.heap.size w wr) (fun o _ _ => 20 - strLen o)
  case atStart => exact ⟨[], 20, some s, rfl, rfl, rfl, ⟨HAN.out, HORB0.out, HZ.out⟩, Below.refl _ _⟩
  case round =>
    obtain ⟨acc, n, c, rfl, rfl, hn20, hA, hb⟩ := hrel
    have hbs := hb.size
    have hS2 := hS.below hb
    have hal := hA.out.1.len
    have hz := txt_size acc
    cases c with
    | none =>
      have HF : Hid (way nx s = acc) := by show _ = _; rw [hA.out.2.2]; exact HNO.out n acc
      rw [show spotV b none = .pointer none from rfl]
      clear hA
      go_wp2
      go_ret
      exact ⟨by rw [HF.out]; rfl, hb⟩
    | some i =>
      have hil := HL.out _ _ hA.out.2.1
      have hcn := hS2.name i hil
      have hcs := hS2.src i hil
      have hone : sn i = ⟨#[ch i]⟩ := rfl
      rw [hone] at hcn
      have HM := Lib.hid (txt_mem hA.out.1.lt hil)
      have HTS := Lib.hid (txt_snoc acc i)
      have hcc := fun W => HC.out (txt acc) (ch i) W
      have HONE := Lib.hid hone
      clear hone
      rw [show spotV b (some i) = .pointer (some ⟨b, i * 2, none⟩) from rfl]
      have hc1 : (⟨#[ch i]⟩ : ByteArray).size = 1 := rfl
      by_cases hin : i ∈ acc
      · have HF : Hid (way nx s = acc) := by show _ = _; rw [hA.out.2.2]; exact HHT.out n acc i hin
        have hd : decide (ch i ∈ (txt acc).data.toList) = true := by simpa using HM.out.2 hin
        rw [hd] at hcc
        have HCC := Lib.hid hcc
        clear hcc hd hA HM hin
        generalize ch i = c at *
        go_wp2_with (go_at_call 79; refine (HCC.out _).mono ?_; rintro e w' ⟨rfl, rfl⟩)
        go_ret
        exact ⟨by rw [HF.out]; rfl, hb⟩
      · obtain ⟨n', rfl⟩ : ∃ n', n = n' + 1 := ⟨n - 1, by omega⟩
        have hd : decide (ch i ∈ (txt acc).data.toList) = false := by simpa using fun h => hin (HM.out.1 h)
        rw [hd] at hcc
        have HCC := Lib.hid hcc
        have HN : Hid (Acc nx s (acc ++ [i]) ∧ orb nx s (acc ++ [i]).length = nx i ∧ way nx s = wayF nx n' (acc ++ [i]) (nx i)) := by
          refine ⟨HSN.out acc i hA.out.1 hA.out.2.1 hin, ?_, ?_⟩
          · rw [show (acc ++ [i]).length = acc.length + 1 by simp, HO.out, hA.out.2.1]; rfl
          · rw [hA.out.2.2, HST.out _ _ _ hin]
        clear hcc hd hA HM hin
        generalize ch i = c at *
        generalize nx i = ni at *
        go_wp2_with (go_at_call 79; refine (HCC.out _).mono ?_; rintro e w' ⟨rfl, rfl⟩)
        go_roundw
        case rel => exact ⟨acc ++ [i], n', ni, by rw [HTS.out, HONE.out], rfl, by simp; omega, HN, hb⟩
        case measure => simp [strLen, ByteArray.size_append, hc1, hz]; omega
end Go.Proofs.YteadhnpmmpninaaGreat
namespace Go.PW
open Go.RowKit Go.PM
/-- the cells of the spots: names and sources -/
def spA (n : Nat → ByteArray) (s : Nat → Value) : Array Value := Array.ofFn (n := 38) fun j => if j.val % 2 = 0 then .string (n (j.val / 2)) else s (j.val / 2)
theorem spA_size (n : Nat → ByteArray) (s : Nat → Value) : (spA n s).size = 38 := by simp [spA]
theorem spA_name (n : Nat → ByteArray) (s : Nat → Value) (i : Nat) (hi : i < 19) : (spA n s)[i * 2]? = some (.string (n i)) := by
  have h : i * 2 < 38 := by omega
  simp [spA, h]
theorem spA_src (n : Nat → ByteArray) (s : Nat → Value) (i : Nat) (hi : i < 19) : (spA n s)[i * 2 + 1]? = some (s i) := by
  have h : i * 2 + 1 < 38 := by omega
  have h2 : ¬ (i * 2 + 1) % 2 = 0 := by omega
  have h3 : (i * 2 + 1) / 2 = i := by omega
  simp [spA, h, h3]
theorem spA_setName (n : Nat → ByteArray) (s : Nat → Value) (i : Nat) (_hi : i < 19) (x : ByteArray) : (spA n s).setIfInBounds (i * 2) (.string x) = spA (upd n i x) s := by
  apply Array.ext
  · simp [spA]
  · intro j h1 h2
    rw [Array.getElem_setIfInBounds (by simpa [spA] using h2)]
    simp only [spA, Array.getElem_ofFn, upd]
    by_cases e : i * 2 = j
    · subst e
      simp
    · by_cases e2 : j % 2 = 0
      · have : ¬ j / 2 = i := by omega
        simp [e, e2, this]
      · simp [e, e2]
theorem spA_setSrc (n : Nat → ByteArray) (s : Nat → Value) (i : Nat) (_hi : i < 19) (x : Value) : (spA n s).setIfInBounds (i * 2 + 1) x = spA n (fun q => if q = i then x else s q) := by
  apply Array.ext
  · simp [spA]
  · intro j h1 h2
    rw [Array.getElem_setIfInBounds (by simpa [spA] using h2)]
    simp only [spA, Array.getElem_ofFn]
    by_cases e : i * 2 + 1 = j
    · subst e
      have h2 : ¬ (i * 2 + 1) % 2 = 0 := by omega
      have h3 : (i * 2 + 1) / 2 = i := by omega
      simp [h3]
    · by_cases e2 : j % 2 = 0
      · simp [e, e2]
      · have : ¬ j / 2 = i := by omega
        simp [e, e2, this]
abbrev zS : Array Value := #[.string ⟨#[]⟩, .pointer none, .string ⟨#[]⟩, .pointer none, .string ⟨#[]⟩, .pointer none, .string ⟨#[]⟩, .pointer none, .string ⟨#[]⟩, .pointer none, .string ⟨#[]⟩, .pointer none, .string ⟨#[]⟩, .pointer none, .string ⟨#[]⟩, .pointer none, .string ⟨#[]⟩, .pointer none, .string ⟨#[]⟩, .pointer none, .string ⟨#[]⟩, .pointer none, .string ⟨#[]⟩, .pointer none, .string ⟨#[]⟩, .pointer none, .string ⟨#[]⟩, .pointer none, .string ⟨#[]⟩, .pointer none, .string ⟨#[]⟩, .pointer none, .string ⟨#[]⟩, .pointer none, .string ⟨#[]⟩, .pointer none, .string ⟨#[]⟩, .pointer none]
theorem zS_eq : zS = spA (fun _ => emp) (fun _ => .pointer none) := rfl
/-- the first k names are laid -/
def nmK (k : Nat) : Nat → ByteArray := fun i => if i < k then sn i else emp
theorem nmK_zero : nmK 0 = fun _ => emp := by funext i; simp [nmK]
theorem nmK_succ (k : Nat) : upd (nmK k) k (sn k) = nmK (k + 1) := by
  funext i
  unfold upd nmK
  by_cases h : i = k
  · subst h; simp
  · by_cases h2 : i < k
    · simp [h, h2, Nat.lt_succ_of_lt h2]
    · have : ¬ i < k + 1 := by omega
      simp [h, h2, this]
/-- the first k sources are laid -/
def srcK (f : Nat → ByteArray) (b k : Nat) : Nat → Value := fun i => if i < k then spotV b (nxT f i) else .pointer none
theorem srcK_zero (f : Nat → ByteArray) (b : Nat) : srcK f b 0 = fun _ => .pointer none := by funext i; simp [srcK]
theorem srcK_succ (f : Nat → ByteArray) (b k : Nat) : (fun q => if q = k then spotV b (nxT f k) else srcK f b k q) = srcK f b (k + 1) := by
  funext i
  unfold srcK
  by_cases h : i = k
  · subst h; simp
  · by_cases h2 : i < k
    · simp [h, h2, Nat.lt_succ_of_lt h2]
    · have : ¬ i < k + 1 := by omega
      simp [h, h2, this]
theorem srcK_same (f : Nat → ByteArray) (b k : Nat) (h : nxT f k = none) : srcK f b k = srcK f b (k + 1) := by
  rw [← srcK_succ, h]
  funext i
  by_cases h : i = k
  · subst h; simp [srcK, spotV]
  · simp [h]
end Go.PW
namespace Go.Proofs.YteadhnpmmpninaaGreat
open Go.RowKit Go.PM Go.PW Go.Lib
attribute [local go_sem] Oper.semAt_some

set_option maxRecDepth 100000 in
set_option maxHeartbeats 800000 in
theorem spotsOf_c (f : Nat → ByteArray) (hf : SV f) (w : World) :
    Calls Tryz.prog 40 #[tabX f] w fun e w' => (∃ b, e = .returned (.pointer (some ⟨b, 0, none⟩)) ∧ w.heap.size ≤ b ∧ Spots w' b (nxT f)) ∧ Below w.heap.size w w' := by
  have HEX : Hid (∀ q, q < 19 → (ByteArray.mk #[97, 98, 99, 100, 101, 102, 65, 66, 67, 48, 49, 50, 51, 52, 53, 54, 55, 56, 57]).extract q (q+1) = sn q) := by
    show ∀ q, _
    intro q hq
    rw [extract_one _ _ (by show q < 19; exact hq)]; rfl
  refine (callsIn_wide (n := 5)).1 ?_
  refine callsIn_of_wp_marks Tryz.func40 rfl trivial ?_ rfl
  simp only [Tryz.ntmps40, List.size_toArray, List.length_cons, List.length_nil, Nat.reduceAdd, Nat.reduceSub, Array.replicate_succ, Array.replicate_zero, List.push_toArray, List.append_toArray, List.nil_append, List.cons_append]
  gi_wp2
  gi_loopw [4, 10] (fun _ i wr => ∃ k : Nat, k ≤ 19 ∧ i = .int .i64 k ∧ At wr w.heap.size 51 (tabA f) ∧ At wr (w.heap.size + 1) 111 (spA (nmK k) (fun _ => .pointer none)) ∧ At wr (w.heap.size + 2) 72 #[.pointer (some ⟨w.heap.size + 1, 0, none⟩)] ∧ Below w.heap.size w wr) (fun _ i _ => 19 - (RowKit.intOf i).toNat)
  case atStart =>
    refine ⟨0, by omega, rfl, ?_, ?_, ?_, by (repeat' (first | (with_reducible exact Below.refl _ _) | (with_reducible assumption) | (with_reducible refine Below.alloc ?_ ?_ _) | (with_reducible refine Below.drew ?_) | (with_reducible refine Below.setCell ?_ ?_ _) | (with_reducible exact Nat.le_refl _) | omega | ((repeat (first | rewrite [World.size_alloc] | rewrite [World.size_setCell] | rewrite [World.size_drew])); omega) | (simp; omega) | (simp; done)))⟩
    · exact ((At.new _ _ _).alloc _).alloc _
    · rw [nmK_zero, ← zS_eq]
      have := At.new (w.alloc (.cells (tabA f) 51)) 111 zS
      rw [World.size_alloc] at this
      exact this.alloc _
    · have := At.new ((w.alloc (.cells (tabA f) 51)).alloc (.cells zS 111)) 72 #[.pointer (some ⟨w.heap.size + 1, 0, none⟩)]
      rw [World.size_alloc, World.size_alloc] at this
      exact this
  case round =>
    obtain ⟨k, hk, rfl, h1, h2, h3, hb⟩ := hrel
    have hbs := hb.size
    by_cases hlt : k < 19
    · have hc3 : wr.drew.cell? ⟨w.heap.size + 2, 0, none⟩ = some (.pointer (some ⟨w.heap.size + 1, 0, none⟩)) := h3.cell 0
      have hl2 := h2.lt
      have hc2 : wr.drew.cell? ⟨w.heap.size + 1, k * 2, none⟩ = some (.string (nmK k k)) := (h2.cell (k * 2)).trans (spA_name _ _ k hlt)
      have hf2 : wr.drew.frozen? ⟨w.heap.size + 1, k * 2, none⟩ = false := h2.frozen (k * 2)
      have hex := HEX.out k hlt
      have HSET := Lib.hid (spA_setName (nmK k) (fun _ => .pointer none) k hlt (sn k))
      have i0 : (0 : Int) ≤ (k : Int) := by omega
      have i1 : (k : Int) < 19 := by omega
      gi_wp2
      refine regionIn_tail (F := Fence.wide) (C := fun w' => w' = wr.drew) 9 rfl (by kernel_rfl) (by kernel_rfl) rfl ?_
      simp only [List.take_succ_cons, List.take_zero, List.drop_succ_cons, List.drop_zero]
      repeat (gi_big_quiet_step (fail))
      refine wpQuietIn_nil ?_
      intro w' hw'
      subst hw'
      have d1 := h1.far (p := ⟨w.heap.size + 1, k * 2, none⟩) (by simp) (.string (sn k))
      have d2 := h2.set (k * 2) (.string (sn k))
      have d3 := h3.far (p := ⟨w.heap.size + 1, k * 2, none⟩) (by simp) (.string (sn k))
      rw [HSET.out, nmK_succ] at d2
      clear h1 h2 h3
      gi_wp2
      go_roundw
      case rel => exact ⟨k + 1, by omega, by go_num, d1, d2, d3, by (repeat' (first | (with_reducible exact Below.refl _ _) | (with_reducible assumption) | (with_reducible refine Below.alloc ?_ ?_ _) | (with_reducible refine Below.drew ?_) | (with_reducible refine Below.setCell ?_ ?_ _) | (with_reducible exact Nat.le_refl _) | omega | ((repeat (first | rewrite [World.size_alloc] | rewrite [World.size_setCell] | rewrite [World.size_drew])); omega) | (simp; omega) | (simp; done)))⟩
      case measure => simp [RowKit.intOf]; omega
    · have hk19 : k = 19 := by omega
      have HNE := Lib.hid (fun p (hp : p < 9) => sx_lt hf hp)
      rw [hk19] at h2
      have HK := Lib.hid hk19
      clear hk19
      have hs1 := h1.lt
      have hs2 := h2.lt
      have hs3 := h3.lt
      gi_wp2
      refine range_law (F := Fence.wide) (gf := 64) (lf := #[.int .i64 9]) (lb := #[]) rfl (by decide) rfl trivial (fun args w => rfl) (encs := fun p : Nat => #[.int .i64 p]) (xs := List.range 9)
        (below_iter _ _ trivial rfl (by decide)) (fun _ => rfl)
        (fun pre W => At W w.heap.size 51 (tabA f) ∧ At W (w.heap.size + 1) 111 (spA (nmK 19) (srcK f (w.heap.size + 1) pre.length)) ∧ At W (w.heap.size + 2) 72 #[.pointer (some ⟨w.heap.size + 1, 0, none⟩)] ∧ Below w.heap.size w W)
        (fun _ _ _ => False) ?own (fun _ => ownFrom_pure _ _) ?start ?a1 ?assign ?body ?done ?stop
      case own =>
        rintro s A A' row ⟨q1, q2, q3, q4⟩ hg hr
        have hr' : ∀ r, row = some r → w.heap.size + 3 ≤ r := fun r e => by have := (hr r e).1; omega
        refine ⟨(hg.block _ q1.lt (fun e => ?_)).trans q1, (hg.block _ q2.lt (fun e => ?_)).trans q2, (hg.block _ q3.lt (fun e => ?_)).trans q3, q4.trans (below_grown hg q4.size (fun g e => ?_))⟩
        · have := hr' _ e.symm; omega
        · have := hr' _ e.symm; omega
        · have := hr' _ e.symm; omega
        · have := hr' _ e; omega
      case start => exact ⟨h1, by rw [List.length_nil, srcK_zero]; exact h2, h3, hb⟩
      case assign =>
        intro l p W Kc hK
        gi_wp2
        exact hK
      case body =>
        rintro l pre p W ⟨q1, q2, q3, q4⟩ hp hsz
        obtain ⟨hl, hp9⟩ := pre_len pre p hp
        rw [hl] at q2
        have HL : Hid ((pre ++ [p]).length = p + 1) := by show _ = _; simp [hl]
        have HSRC := Lib.hid (fun W => source_c f p hp9 W)
        have hsx := (HNE.out p hp9).1
        have HSN : Hid (srcT f p = sn (sx f p)) := (HNE.out p hp9).2.symm
        have HNM : Hid (nm p = sn p) := (sn_nm p hp9).symm
        have HYES := Lib.hid (nxT_some (f := f) hp9)
        have HSTAY := Lib.hid (nxT_stay (f := f) hp9)
        have HS1 := Lib.hid (srcK_succ f (w.heap.size + 1) p)
        have HS2 := Lib.hid (srcK_same f (w.heap.size + 1) p)
        have HSET := Lib.hid (spA_setSrc (nmK 19) (srcK f (w.heap.size + 1) p) p (by omega))
        have hpos := fun W => positionIn_yes ⟨#[97, 98, 99, 100, 101, 102, 65, 66, 67, 48, 49, 50, 51, 52, 53, 54, 55, 56, 57]⟩ (ch (sx f p)) (sx f p) (ch_all _ hsx).1 W
        have HPOS := Lib.hid hpos
        have c0 : W.cell? ⟨w.heap.size, 0, none⟩ = some (.string (f 0)) := q1.cell 0
        have c1 : W.cell? ⟨w.heap.size, 1, none⟩ = some (.string (f 1)) := q1.cell 1
        have c2 : W.cell? ⟨w.heap.size, 2, none⟩ = some (.string (f 2)) := q1.cell 2
        have c3 : W.cell? ⟨w.heap.size, 3, none⟩ = some (.string (f 3)) := q1.cell 3
        have c4 : W.cell? ⟨w.heap.size, 4, none⟩ = some (.string (f 4)) := q1.cell 4
        have c5 : W.cell? ⟨w.heap.size, 5, none⟩ = some (.string (f 5)) := q1.cell 5
        have c6 : W.cell? ⟨w.heap.size, 6, none⟩ = some (.string (f 6)) := q1.cell 6
        have c7 : W.cell? ⟨w.heap.size, 7, none⟩ = some (.string (f 7)) := q1.cell 7
        have c8 : W.cell? ⟨w.heap.size, 8, none⟩ = some (.string (f 8)) := q1.cell 8
        clear hpos hl hf
        gi_wp2
        refine ⟨trivial, ?_⟩
        refine CallsIn.inRound l (callsIn_wide.2 ((HSRC.out W).mono ?_))
        rintro e W2 ⟨rfl, hb2⟩
        rw [HSN.out]
        have hz4 := q4.size
        have k1 := q1.keep hb2
        have k2 := q2.keep hb2
        have k3 := q3.keep hb2
        have k4 : Below w.heap.size w W2 := q4.trans (hb2.mono hz4)
        have kf := keepsFrom_below (B := wr.heap.size) hb2
        have kz := hb2.size
        clear c0 c1 c2 c3 c4 c5 c6 c7 c8 q1 q2 q3 q4 hb2
        have hone : sn (sx f p) = ⟨#[ch (sx f p)]⟩ := rfl
        by_cases hst : sx f p = p
        · have hnx := HSTAY.out hst
          have e1 : srcK f (w.heap.size + 1) p = srcK f (w.heap.size + 1) (p + 1) := HS2.out hnx
          rw [hst]
          rw [e1] at k2
          have HNM2 := Lib.hid (fun W => name_c p hp9 W)
          have hb1 : ((sn p).toList == (sn p).toList) = true := by simp
          gi_wp2
          refine ⟨trivial, CallsIn.inRound l (callsIn_wide.2 ((HNM2.out _).mono ?_))⟩
          rintro e wq ⟨rfl, rfl⟩
          rw [HNM.out]
          gi_wp2
          exact ⟨kf, KeepsIn.zero kz, k1, by rw [HL.out]; exact k2, k3, k4⟩
        · have hnx := HYES.out hst
          have e1 := HSET.out (spotV (w.heap.size + 1) (nxT f p))
          rw [HS1.out, hnx] at e1
          have E1 := Lib.hid e1
          have HNM2 := Lib.hid (fun W => name_c p hp9 W)
          have hb1 : ((sn (sx f p)).toList == (sn p).toList) = false := by
            rw [beq_str, decide_eq_false_iff_not]
            exact fun e => hst (sn_inj hsx (by omega) e)
          clear e1 hone hnx
          have HOLD := Lib.hid ((k2.cell (p * 2 + 1)).trans (spA_src (nmK 19) (srcK f (w.heap.size + 1) p) p (by omega)))
          generalize sx f p = j at *
          gi_wp2
          refine ⟨trivial, CallsIn.inRound l (callsIn_wide.2 ((HNM2.out _).mono ?_))⟩
          rintro e wq ⟨rfl, rfl⟩
          rw [HNM.out]
          gi_wp2
          refine ⟨trivial, CallsIn.inRound l (callsIn_wide.2 ((HPOS.out _).mono ?_))⟩
          rintro e wq ⟨rfl, rfl⟩
          have c3 : W2.drew.cell? ⟨w.heap.size + 2, 0, none⟩ = some (.pointer (some ⟨w.heap.size + 1, 0, none⟩)) := k3.cell 0
          have cq : W2.drew.cell? ⟨w.heap.size + 1, p * 2 + 1, none⟩ = some (srcK f (w.heap.size + 1) p p) := HOLD.out
          have fq : W2.drew.frozen? ⟨w.heap.size + 1, p * 2 + 1, none⟩ = false := k2.frozen _
          have l2 := k2.lt
          have i0 : (0 : Int) ≤ (p : Int) := by omega
          have i1 : (p : Int) < 19 := by omega
          have i2 : (0 : Int) ≤ (j : Int) := by omega
          have i3 : (j : Int) < 19 := by omega
          gi_wp2
          refine region_tail_inRound (F := Fence.wide) (C := fun w' => w' = W2.drew) 9 rfl (by kernel_rfl) (by kernel_rfl) (by kernel_rfl) rfl ?_
          simp only [List.take_succ_cons, List.take_zero, List.drop_succ_cons, List.drop_zero]
          repeat (gi_big_quiet_step (fail))
          refine wpQuietIn_nil ?_
          intro w' hw'
          subst hw'
          clear c3 hb1
          gi_wp2
          have d1 := k1.far (p := ⟨w.heap.size + 1, p * 2 + 1, none⟩) (by simp) (.pointer (some ⟨w.heap.size + 1, j * 2, none⟩))
          have d2 := k2.set (p * 2 + 1) (.pointer (some ⟨w.heap.size + 1, j * 2, none⟩))
          have d3 := k3.far (p := ⟨w.heap.size + 1, p * 2 + 1, none⟩) (by simp) (.pointer (some ⟨w.heap.size + 1, j * 2, none⟩))
          have d4 := k4.setCell (p := ⟨w.heap.size + 1, p * 2 + 1, none⟩) (by simp) (.pointer (some ⟨w.heap.size + 1, j * 2, none⟩))
          have e2 := E1.out
          rw [show spotV (w.heap.size + 1) (some j) = .pointer (some ⟨w.heap.size + 1, j * 2, none⟩) from rfl] at e2
          rw [e2] at d2
          refine ⟨(kf.trans ((KeepsOthers.setCell _ _ _).from _)).trans ((KeepsOthers.drew _).from _), KeepsIn.zero (by simp [World.size_setCell, World.size_drew]; exact kz), d1, by rw [HL.out]; exact d2, d3, d4.drew⟩
      case done =>
        intro D W hD hI hd
        obtain ⟨q1, q2, q3, q4⟩ := hI
        have hDD : w.heap.size + 3 ≤ D := by omega
        have l2 := q2.lt
        have q2' : At W (w.heap.size + 1) 111 (spA (nmK 19) (srcK f (w.heap.size + 1) 9)) := q2
        have c3 : W.cell? ⟨w.heap.size + 2, 0, none⟩ = some (.pointer (some ⟨w.heap.size + 1, 0, none⟩)) := q3.cell 0
        have HSP : Hid (Spots (W.putObj D (.deferred none)) (w.heap.size + 1) (nxT f)) := by
          have hA : At (W.putObj D (.deferred none)) (w.heap.size + 1) 111 (spA (nmK 19) (srcK f (w.heap.size + 1) 9)) := (World.putObj_heap_other (by omega)).trans q2'
          refine ⟨⟨_, _, hA⟩, fun i hi => ?_, fun i hi => ?_⟩
          · rw [hA.cell, spA_name _ _ i hi]; simp [nmK, hi]
          · rw [hA.cell, spA_src _ _ i hi]
            by_cases h9 : i < 9
            · simp [srcK, h9]
            · simp [srcK, h9, nxT_digit h9, spotV]
        clear q2
        gi_wp2
        refine ⟨by simp, .inl ⟨D, _, rfl, run_takeDeferred hd, ?_⟩⟩
        refine ⟨_, results_tmp rfl _ _ _, ⟨_, rfl, by omega, HSP.out⟩, ?_⟩
        exact q4.trans ⟨rfl, rfl, rfl, by simp [World.putObj], fun k hk => World.putObj_heap_other (by omega)⟩
      case stop =>
        intro _ _ _ _ _ _ hff
        exact hff.elim
end Go.Proofs.YteadhnpmmpninaaGreat
namespace Go.PM
open Go.RowKit
variable {F : Fence} {n : Nat} {P : Program}
/-- the same contract, of a function that reads what the caller keeps and writes to blocks of its own -/
def IterW {α : Type} (Pr : World → Prop) (κ : Nat) (F : Fence) (n : Nat) (P : Program) (gf : Nat) (mk : Value → Array Value) (encs : α → Array Value) (xs : List α) : Prop :=
  ∀ (l : Nat) (J Jx : List α → World → Prop) (W : World),
    OwnFrom W.heap.size J → OwnFrom W.heap.size Jx → (∀ pre A, J pre A → Pr A) → (∀ pre A A' r, J pre A → W.heap.size ≤ r → r < W.heap.size + κ → A.grownBy A' (some r) → J pre A') →
    (∀ pre x A, J pre A → W.heap.size + κ ≤ A.heap.size → pre ++ [x] <+: xs → YieldAt F (n - 1) P l (encs x) A fun e A' =>
      (e = .returned (.bool true) ∧ J (pre ++ [x]) A' ∧ KeepsIn W.heap.size κ A A' ∧ KeepsFrom W.heap.size A A') ∨ (e = .returned (.bool false) ∧ Jx (pre ++ [x]) A' ∧ A.heap.size ≤ A'.heap.size ∧ KeepsFrom W.heap.size A A')) →
    J [] W →
    CallsIn F n P gf (mk (.func (.yield l) #[] #[])) W fun e W' => (∃ v, e = .returned v) ∧ (J xs W' ∨ ∃ pre, pre <+: xs ∧ Jx pre W')
theorem range_law4 {α : Type} {Pr : World → Prop} {g : Operand} {ps : Array Tmp} {assign body : Code} {Q : Exit → Act → World → Prop} {a : Act} {w : World} (hro : F.round = none) (h1 : 1 ≤ n)
    {gf : Nat} {lf lb : Array Value} (hg : a.eval g = .func (.func gf) lf lb) (hFg : F.fn gf) (eg : ∀ args w, (callFunc gf args).run P w = .ok (.enter gf args) w)
    {encs : α → Array Value} {xs : List α} {κ : Nat} (hit : IterW Pr κ F (n - 1) P gf (fun y => lf ++ #[y] ++ lb) encs xs) (hps : ∀ x, (encs x).size = ps.size)
    (I : List α → World → Prop) (Ix : Code → List α → World → Prop) (hPr : ∀ pre A, I pre A → Pr A) (hIW : ∀ pre A A' r, I pre A → w.heap.size + 2 ≤ r → r < w.heap.size + 2 + κ → A.grownBy A' (some r) → I pre A') (hI : OwnFrom w.heap.size I) (hIx : ∀ c, OwnFrom w.heap.size (Ix c)) (h0 : I [] w) (Ax : α → Act → World → Prop) (hAx : ∀ x a', OwnFrom w.heap.size (fun (_ : Unit) W => Ax x a' W))
    (hassign : ∀ (l : Nat) (pre : List α) (x : α) (W : World) (K : Act → World → Prop), I pre W → pre ++ [x] <+: xs → w.heap.size + 2 + κ ≤ W.heap.size → (∀ a' W', KeepsNew w.heap.size W W' → I pre W' → Ax x a' W' → K a' W') →
      assign.wpIn (F.inRound l) (n - 1 - 1) P (Exit.then K (fun _ _ _ => False)) { tmps := (ps.zip (encs x)).foldl (fun t (p, v) => t.setIfInBounds p v) a.tmps, defers := [] } W)
    (hbody : ∀ (l : Nat) (pre : List α) (x : α) (a' : Act) (W : World), I pre W → Ax x a' W → pre ++ [x] <+: xs → w.heap.size + 2 + κ ≤ W.heap.size → body.wpIn (F.inRound l) (n - 1 - 1) P (ownPostG w.heap.size (KeepsIn (w.heap.size + 2) κ) I Ix (pre ++ [x]) W) a' W)
    (hdone : ∀ (D : Nat) (W : World), w.heap.size ≤ D → I xs W → W.heap[D]? = some (.deferred (some [])) → Q .normal { a with defers := { target := .collected D, args := #[] } :: a.defers } W)
    (hstop : ∀ (D : Nat) (c : Code) (pre : List α) (W : World), w.heap.size ≤ D → pre <+: xs → Ix c pre W → W.heap[D]? = some (.deferred (some [])) → c.wpIn F n P Q { a with defers := { target := .collected D, args := #[] } :: a.defers } W) :
    (Code.rangeFunc g ps assign body).wpIn F n P Q a w := by
  refine wpIn_rangeFunc fun fn hfn => ?_
  rw [hro]
  have key : ∃ rc : LoopState → Option Code → Loop, rc = fun s j => { state := s, pending := j, fn, tmps := a.tmps, params := ps, assign, body, defers := w.heap.size } := ⟨_, rfl⟩
  obtain ⟨rc, hrc⟩ := key
  let V := (w.alloc (.deferred (some []))).alloc (.loop (rc .ready none))
  -- the two blocks of book-keeping, and that the caller's own facts outlast what is done to them
  let Bk : LoopState → Option Code → World → Prop := fun s j A => A.heap[w.heap.size + 1]? = some (.loop (rc s j)) ∧ A.heap[w.heap.size]? = some (.deferred (some []))
  have bkput : ∀ {s j s' j' A}, Bk s j A → Bk s' j' (A.putObj (w.heap.size + 1) (.loop (rc s' j'))) := fun h =>
    ⟨World.putObj_heap_same (Array.getElem?_eq_some_iff.1 h.1).1, (World.putObj_heap_other (by omega)).trans h.2⟩
  have hVs : V.heap.size = w.heap.size + 2 := by simp [V, World.size_alloc]
  have bknew : ∀ {s j A A' row}, Bk s j A → A.grownBy A' row → (∀ r, row = some r → V.heap.size ≤ r ∧ ∃ o : Obj, A.heap[r]? = some o ∧ o.isCells = false) → Bk s j A' := fun h hg' hr =>
    ⟨(hg'.block _ (Array.getElem?_eq_some_iff.1 h.1).1 (fun e => by have := (hr _ e.symm).1; omega)).trans h.1, (hg'.block _ (Array.getElem?_eq_some_iff.1 h.2).1 (fun e => by have := (hr _ e.symm).1; omega)).trans h.2⟩
  have hV : Bk .ready none V := by
    refine ⟨?_, ?_⟩
    · have := World.alloc_heap_new (w.alloc (.deferred (some []))) (.loop (rc .ready none)); rwa [World.size_alloc] at this
    · exact (Below.heap_alloc _ _ _ (by simp)).trans (World.alloc_heap_new w _)
  have hIV : I [] V := hI.alloc _ (hI.alloc _ h0)
  refine ⟨w.heap.size + 1, [{ target := .collected w.heap.size, args := #[] }], V, { target := .fn (.func gf) lb, args := lf ++ #[.func (.yield (w.heap.size + 1)) #[] #[]] }, V, gf,
    lf ++ #[.func (.yield (w.heap.size + 1)) #[] #[]] ++ lb, V, ?_, ?_, ?_, ?_, fun _ => h1, ?_⟩
  · have := run_enterLoop_outer (P := P) (w := w) fn a.tmps ps assign body
    rw [this]; simp only [V, hrc]
  · simp only [resolve, hg]
    simp [go_sem]
  · intro f' hf'
    simp [Target.leads] at hf'
    subst hf'; exact hFg
  · simp [invoke, go_sem, eg]
  refine (hit (w.heap.size + 1) (fun pre A => I pre A ∧ Bk .ready none A) (fun pre A => ∃ c, Ix c pre A ∧ Bk .done (some c) A) V
    (fun pre A A' row h hg' hr => ⟨hI pre A A' row h.1 hg' (fun r e => ⟨by have := (hr r e).1; omega, (hr r e).2⟩), bknew h.2 hg' hr⟩)
    (fun pre A A' row ⟨c, h, hb⟩ hg' hr => ⟨c, hIx c pre A A' row h hg' (fun r e => ⟨by have := (hr r e).1; omega, (hr r e).2⟩), bknew hb hg' hr⟩) (fun pre A h => hPr pre A h.1) (fun pre A A' r h h1 h2 hg' => ⟨hIW pre A A' r h.1 (by omega) (by omega) hg', (hg'.block _ (Array.getElem?_eq_some_iff.1 h.2.1).1 (fun e => by cases e; omega)).trans h.2.1, (hg'.block _ (Array.getElem?_eq_some_iff.1 h.2.2).1 (fun e => by cases e; omega)).trans h.2.2⟩) ?_ ⟨hIV, hV⟩).mono ?_
  · rintro pre x A ⟨hi, hb⟩ hsz hpx
    have hy := run_yield (P := P) (args := encs x) hb.1 (by rw [hrc]; exact hps x)
    rw [hrc] at hy
    refine ⟨fn, _, assign, body, hy, roundIn_of_wpIn hfn (hassign _ pre x A _ hi hpx (by omega) ?_)⟩
    intro a' Wa hkn hia hax
    have hlt := (Array.getElem?_eq_some_iff.1 hb.1).1
    replace hb : Bk .ready none Wa := ⟨(hkn.same _ (by omega) hlt).trans hb.1, (hkn.same _ (Nat.le_refl _) (by omega)).trans hb.2⟩
    clear hy hi
    refine ⟨_, run_beginRound hb.1 (by rw [hrc]), ?_⟩
    have hknV : KeepsIn V.heap.size κ A Wa := hkn.toIn (by omega) hsz
    have hkfV : KeepsFrom V.heap.size A Wa := (hkn.mono (by omega)).from
    have hszA : A.heap.size ≤ Wa.heap.size := hkn.size
    replace hsz := Nat.le_trans hsz hszA
    clear hkn
    revert hknV hkfV hszA
    generalize A = A0
    intro hknV hkfV hszA
    obtain ⟨A, rfl⟩ : ∃ A, A = Wa := ⟨_, rfl⟩
    have hb2 : Bk .busy none (A.putObj (w.heap.size + 1) (.loop (rc .busy none))) := bkput hb
    have e2 : ({ rc .ready none with state := .busy } : Loop) = rc .busy none := by rw [hrc]
    rw [e2]
    refine wpIn_mono (hbody _ pre x a' _ (hI.putObj _ hia (by omega) hb.1 rfl) ((hAx x a').putObj (s := ()) _ hax (by omega) hb.1 rfl) hpx (by simp [World.putObj]; omega)) ?_
    have fin : ∀ (j : Option Code) (C : World), KeepsFrom w.heap.size (A.putObj (w.heap.size + 1) (.loop (rc .busy none))) C →
        (Instr.endRound (w.heap.size + 1) j).run P C = .ok (.bool j.isNone) (C.putObj (w.heap.size + 1) (.loop (rc (if j.isNone then .ready else .done) j))) ∧ Bk .busy none C := fun j C hk => by
      have h1 := hk.same _ _ (by omega) hb2.1 rfl
      have h2 := hk.same _ _ (Nat.le_refl _) hb2.2 rfl
      have h3 := run_endRound (P := P) j h1
      refine ⟨?_, h1, h2⟩
      rw [h3]; rw [hrc]
    have kfin : ∀ (o : Obj) (C : World), KeepsFrom w.heap.size (A.putObj (w.heap.size + 1) (.loop (rc .busy none))) C → KeepsFrom V.heap.size A0 (C.putObj (w.heap.size + 1) o) := fun o C hk => by
      refine hkfV.trans ?_
      refine ⟨by have := hk.size; simp [World.putObj] at this ⊢; omega, fun k x hk1 hk2 hk3 => ?_⟩
      rw [World.putObj_heap_other (by omega)]
      exact hk.same k x (by omega) (by rw [World.putObj_heap_other (by omega)]; exact hk2) hk3
    rintro e a3 C hp
    cases e with
    | normal =>
      obtain ⟨hk, hkn, hi3⟩ := hp
      obtain ⟨hr, hb3⟩ := fin none C hk
      refine ⟨_, _, hr, .inl ⟨rfl, ⟨hI.putObj _ hi3 (by omega) hb3.1 rfl, bkput hb3⟩, ?_, kfin _ C hk⟩⟩
      refine ⟨by have := hkn.size; simp [World.putObj] at this ⊢; omega, fun k hk1 hk2 => ?_⟩
      rw [World.putObj_heap_other (by omega), hkn.same k (by omega) (by omega), World.putObj_heap_other (by omega)]
      exact hknV.same k hk1 hk2
    | ret =>
      obtain ⟨hk, hi3⟩ := hp
      obtain ⟨hr, hb3⟩ := fin (some .ret) C hk
      exact ⟨_, _, hr, .inr ⟨rfl, ⟨.ret, (hIx _).putObj _ hi3 (by omega) hb3.1 rfl, bkput hb3⟩, by have := hk.size; simp [World.putObj] at this ⊢; omega, kfin _ C hk⟩⟩
    | exit id =>
      obtain ⟨hk, hi3⟩ := hp
      obtain ⟨hr, hb3⟩ := fin (some (.exit id)) C hk
      exact ⟨_, _, hr, .inr ⟨rfl, ⟨.exit id, (hIx _).putObj _ hi3 (by omega) hb3.1 rfl, bkput hb3⟩, by have := hk.size; simp [World.putObj] at this ⊢; omega, kfin _ C hk⟩⟩
    | goto t =>
      obtain ⟨hk, hi3⟩ := hp
      obtain ⟨hr, hb3⟩ := fin (some (.goto t)) C hk
      exact ⟨_, _, hr, .inr ⟨rfl, ⟨.goto t, (hIx _).putObj _ hi3 (by omega) hb3.1 rfl, bkput hb3⟩, by have := hk.size; simp [World.putObj] at this ⊢; omega, kfin _ C hk⟩⟩
    | panic ch => exact hp.elim
    | outgrown => exact hp.elim
  · rintro e C ⟨⟨v, rfl⟩, (⟨hi, hb⟩ | ⟨pre, hp, c, hi, hb⟩)⟩
    · have h3 := run_endLoop (P := P) hb.1 (by rw [hrc]; simp)
      refine ⟨none, _, by rw [h3, hrc], hdone _ _ (Nat.le_refl _) (hI.putObj _ hi (by omega) hb.1 rfl) ((World.putObj_heap_other (by omega)).trans hb.2)⟩
    · have h3 := run_endLoop (P := P) hb.1 (by rw [hrc]; simp)
      refine ⟨some c, _, by rw [h3, hrc], hstop _ c pre _ (Nat.le_refl _) hp ((hIx c).putObj _ hi (by omega) hb.1 rfl) ((World.putObj_heap_other (by omega)).trans hb.2)⟩
/-- The same where the assignment lays nothing. -/
theorem range_law5 {α : Type} {Pr : World → Prop} {g : Operand} {ps : Array Tmp} {assign body : Code} {Q : Exit → Act → World → Prop} {a : Act} {w : World} (hro : F.round = none) (h1 : 1 ≤ n)
    {gf : Nat} {lf lb : Array Value} (hg : a.eval g = .func (.func gf) lf lb) (hFg : F.fn gf) (eg : ∀ args w, (callFunc gf args).run P w = .ok (.enter gf args) w)
    {encs : α → Array Value} {xs : List α} {κ : Nat} (hit : IterW Pr κ F (n - 1) P gf (fun y => lf ++ #[y] ++ lb) encs xs) (hps : ∀ x, (encs x).size = ps.size)
    (I : List α → World → Prop) (Ix : Code → List α → World → Prop) (hPr : ∀ pre A, I pre A → Pr A) (hIW : ∀ pre A A' r, I pre A → w.heap.size + 2 ≤ r → r < w.heap.size + 2 + κ → A.grownBy A' (some r) → I pre A') (hI : OwnFrom w.heap.size I) (hIx : ∀ c, OwnFrom w.heap.size (Ix c)) (h0 : I [] w) (a₁ : α → Act)
    (hassign : ∀ (l : Nat) (x : α) (W : World) (K : Act → World → Prop), K (a₁ x) W →
      assign.wpIn (F.inRound l) (n - 1 - 1) P (Exit.then K (fun _ _ _ => False)) { tmps := (ps.zip (encs x)).foldl (fun t (p, v) => t.setIfInBounds p v) a.tmps, defers := [] } W)
    (hbody : ∀ (l : Nat) (pre : List α) (x : α) (W : World), I pre W → pre ++ [x] <+: xs → w.heap.size + 2 + κ ≤ W.heap.size → body.wpIn (F.inRound l) (n - 1 - 1) P (ownPostG w.heap.size (KeepsIn (w.heap.size + 2) κ) I Ix (pre ++ [x]) W) (a₁ x) W)
    (hdone : ∀ (D : Nat) (W : World), w.heap.size ≤ D → I xs W → W.heap[D]? = some (.deferred (some [])) → Q .normal { a with defers := { target := .collected D, args := #[] } :: a.defers } W)
    (hstop : ∀ (D : Nat) (c : Code) (pre : List α) (W : World), w.heap.size ≤ D → pre <+: xs → Ix c pre W → W.heap[D]? = some (.deferred (some [])) → c.wpIn F n P Q { a with defers := { target := .collected D, args := #[] } :: a.defers } W) :
    (Code.rangeFunc g ps assign body).wpIn F n P Q a w :=
  range_law4 hro h1 hg hFg eg hit hps I Ix hPr hIW hI hIx h0 (fun x a' _ => a' = a₁ x) (fun _ _ _ _ _ _ h _ _ => h)
    (fun l _ x W K hi _ _ hK => hassign l x W K (hK _ _ (KeepsNew.refl _ _) hi rfl)) (fun l pre x a' W hi ha hp hs => by subst ha; exact hbody l pre x W hi hp hs) hdone hstop
end Go.PM
namespace Go.PW
open Go.PM Go.RowKit
theorem Ent.unique {nx : Nat → Option Nat} {s : Nat} {a b : Option Nat} (h : Ent nx s a) (k : Ent nx s b) : a = b := by
  obtain ⟨D, hD, h⟩ := h
  obtain ⟨E, hE, k⟩ := k
  have := hD.unique hE
  subst this
  rcases h with ⟨rfl, j, hj⟩ | ⟨rfl, h⟩
  · rcases k with ⟨rfl, _⟩ | ⟨rfl, k⟩
    · rfl
    · exact absurd hj (k j)
  · rcases k with ⟨rfl, j, hj⟩ | ⟨rfl, k⟩
    · exact absurd hj (h j)
    · rfl
theorem ent_ex {nx : Nat → Option Nat} (hn : Nice nx) {s : Nat} (hs : s < 19) : ∃ m, Ent nx s m := by
  obtain ⟨D, hD, _⟩ := (way_rho hn hs).stops
  by_cases h : ∃ k, orb nx s k = none
  · exact ⟨none, D, hD, .inl ⟨rfl, h⟩⟩
  · exact ⟨orb nx s D, D, hD, .inr ⟨rfl, fun k hk => h ⟨k, hk⟩⟩⟩
theorem ringsF_pre {nx : Nat → Option Nat} {a b : Nat} (h : a ≤ b) : ringsF nx a <+: ringsF nx b := by
  induction b with
  | zero => have : a = 0 := by omega
            subst this; exact List.prefix_refl _
  | succ b ih =>
    by_cases e : a = b + 1
    · subst e; exact List.prefix_refl _
    · have h1 := ih (by omega)
      by_cases hc : onRb nx b = true ∧ b ∉ (ringsF nx b).flatten
      · rw [ringsF_yes hc.1 hc.2]; exact h1.trans (List.prefix_append _ _)
      · rw [ringsF_no hc]; exact h1
section
variable {P : Program} {C : World → Prop}
/-- two pointers held against each other in a quiet region -/
theorem ptr_step {F : Fence} {n : Nat} {ops : Array Oper} {Q : Act → Prop} {a : Act} {o : Oper} {rest : List Oper} (hgd : Region.wanted o (yielded ops a.tmps) = true) (ty ty2 : TypeId) (x y : Operand) (ho : o.op = .binOp .neq ty x y ty2) (p q : Option Addr) (hx : a.eval x = .pointer p) (hy : a.eval y = .pointer q) (v : Value)
    (hC : ∀ W, C W → (binOp .neq ty (.pointer p) (.pointer q)).run P W = .ok v W) (h : wpQuietIn F n P ops C Q rest (a.put o.dst v)) : wpQuietIn F n P ops C Q (o :: rest) a := by
  refine wpQuietIn_step (fun w _ f hf => by simp [Oper.about, ho] at hf) (fun K hK => ?_)
  rw [if_pos hgd]
  refine ⟨v, fun W hW => ?_, hK _ h⟩
  unfold Oper.quietAtIn
  have hg : (eqGuard .neq ty x y (.pointer p) (.pointer q)).run P W = .ok () W := by
    simp [eqGuard]
  simp only [execOp, ho, hx, hy, hg, Sem.run_bind, hC W hW, Result.andThen_ok, Sem.run_pure]
  exact ⟨rfl, rfl⟩
end
end Go.PW
namespace Go.Proofs.YteadhnpmmpninaaGreat
open Go.RowKit Go.PM Go.PW Go.Lib
attribute [local go_sem] Oper.semAt_some

theorem neqp_nil (w : World) (a : Addr) : (binOp .neq 107 (.pointer none) (.pointer (some a))).run Tryz.prog w = .ok (.bool true) w := by
  have h : ∀ d : Nat, (Op.equalIn (d + 1) 107 (.pointer none) (.pointer (some a))).run Tryz.prog w = .ok false w := fun d => by
    simp [Op.equalIn, run_underlying Tryz.underlying107]
  simp only [binOp]
  simp [Op.equal, Op.maxDepth, h 9999]
theorem entrance_v (b : Nat) (nx : Nat → Option Nat) (hn : Nice nx) (s : Nat) (hs : s < 19) (m : Option Nat) (hm : Ent nx s m) (w : World) (hS : Spots w b nx) :
    Calls Tryz.prog 81 #[spotV b (some s)] w fun e w' => e = .returned (spotV b m) ∧ Below w.heap.size w w' :=
  (entrance_c b nx hn s hs w hS).mono fun e w' ⟨⟨m', e1, e2⟩, e3⟩ => ⟨by rw [e1, hm.unique e2], e3⟩

set_option maxRecDepth 100000 in
set_option maxHeartbeats 1000000 in
theorem rings_iter (b : Nat) (nx : Nat → Option Nat) (hn : Nice nx) :
    IterW (fun W => Spots W b nx) 3 Fence.wide 4 Tryz.prog 41 (fun y => #[.pointer (some ⟨b, 0, none⟩)] ++ #[y] ++ #[]) (fun r : List Nat => #[.string (txt r)]) (ringsF nx 9) := by
  intro l J Jx W hJ hJx hPr hJW hY h0
  change CallsIn _ _ _ _ #[.pointer (some ⟨b, 0, none⟩), .func (.yield l) #[] #[]] W _
  refine callsIn_of_wp_marks Tryz.func41 rfl trivial ?_ rfl
  simp only [Tryz.ntmps41, List.size_toArray, List.length_cons, List.length_nil, Nat.reduceAdd, Nat.reduceSub, Array.replicate_succ, Array.replicate_zero, List.push_toArray, List.append_toArray, List.nil_append, List.cons_append]
  obtain ⟨W0, hW0⟩ : ∃ W0 : World, W0 = ((W.alloc (.cells #[.pointer (some ⟨b, 0, none⟩)] 72)).alloc (.cells #[.func (.yield l) #[] #[]] 101)).alloc (.cells #[.string ⟨#[]⟩] 9) := ⟨_, rfl⟩
  have hS0 : W0.heap.size = W.heap.size + 3 := by rw [hW0]; simp only [World.size_alloc]
  have hA0 : At W0 W.heap.size 72 #[.pointer (some ⟨b, 0, none⟩)] := by rw [hW0]; exact ((At.new _ _ _).alloc _).alloc _
  have hA1 : At W0 (W.heap.size + 1) 101 #[.func (.yield l) #[] #[]] := by
    rw [hW0]; have := At.new (W.alloc (.cells #[.pointer (some ⟨b, 0, none⟩)] 72)) 101 #[.func (.yield l) #[] #[]]
    rw [World.size_alloc] at this
    exact this.alloc _
  have hA2 : At W0 (W.heap.size + 2) 9 #[.string ⟨#[]⟩] := by
    rw [hW0]; have := At.new ((W.alloc (.cells #[.pointer (some ⟨b, 0, none⟩)] 72)).alloc (.cells #[.func (.yield l) #[] #[]] 101)) 9 #[.string ⟨#[]⟩]
    rw [World.size_alloc, World.size_alloc] at this
    exact this
  have hJ0 : J [] W0 := by rw [hW0]; exact hJ.alloc _ (hJ.alloc _ (hJ.alloc _ h0))
  gi_wp2
  rw [← hW0]
  clear hW0
  refine range_law (F := Fence.wide) (gf := 64) (lf := #[.int .i64 9]) (lb := #[]) rfl (by decide) rfl trivial (fun args w => rfl) (encs := fun p : Nat => #[.int .i64 p]) (xs := List.range 9)
    (below_iter _ _ trivial rfl (by decide)) (fun _ => rfl)
    (fun pre A => J (ringsF nx pre.length) A ∧ At A W.heap.size 72 #[.pointer (some ⟨b, 0, none⟩)] ∧ At A (W.heap.size + 1) 101 #[.func (.yield l) #[] #[]] ∧ At A (W.heap.size + 2) 9 #[.string (txt (ringsF nx pre.length).flatten)])
    (fun c pre A => c = .ret ∧ ∃ pre2, pre2 <+: ringsF nx 9 ∧ Jx pre2 A) ?own ?ownx ?start ?a1 ?assign ?body ?done ?stop
  case own =>
    rintro s A A' row ⟨h1, h2, h3, h4⟩ hg hr
    have hr' : ∀ r, row = some r → W.heap.size + 3 ≤ r := fun r e => by have := (hr r e).1; omega
    have hne : ∀ b, b < W.heap.size + 3 → some b ≠ row := fun b hb e => by have := hr' _ e.symm; omega
    exact ⟨hJ _ A A' row h1 hg (fun r e => ⟨by have := hr' r e; omega, (hr r e).2⟩), h2.grown hg (hne _ (by omega)), h3.grown hg (hne _ (by omega)), h4.grown hg (hne _ (by omega))⟩
  case ownx =>
    rintro c s A A' row ⟨h1, pre2, h2, h3⟩ hg hr
    have hr' : ∀ r, row = some r → W.heap.size + 3 ≤ r := fun r e => by have := (hr r e).1; omega
    exact ⟨h1, pre2, h2, hJx _ A A' row h3 hg (fun r e => ⟨by have := hr' r e; omega, (hr r e).2⟩)⟩
  case start => exact ⟨hJ0, hA0, hA1, hA2⟩
  case assign =>
    intro l p W Kc hK
    gi_wp2
    exact hK
  case body =>
    clear hJ0 hA0 hA1 hA2
    rintro l2 pre p A ⟨h1, h2, h3, h4⟩ hp hsz
    obtain ⟨hpl, hp9⟩ := pre_len pre p hp
    rw [hpl] at h1 h4
    have HPL : Hid ((pre ++ [p]).length = p + 1) := by show _ = _; simp [hpl]
    have hSA := hPr _ A h1
    have i0 : (0 : Int) ≤ (p : Int) := by omega
    have i1 : (p : Int) < 19 := by omega
    obtain ⟨m, hm⟩ := ent_ex hn (show p < 19 by omega)
    have HENT := Lib.hid (fun W' hS => entrance_v b nx hn p (by omega) m hm W' hS)
    have hc2 : A.cell? ⟨W.heap.size, 0, none⟩ = some (.pointer (some ⟨b, 0, none⟩)) := h2.cell 0
    have hbA := hSA.lt
    have hENT : ∀ x : Ext A.heap.size A.drew, Calls Tryz.prog 81 #[.pointer (some ⟨b, p * 2, none⟩)] x.val fun e w' => e = .returned (spotV b m) ∧ Below x.val.heap.size x.val w' := fun x => HENT.out x.val (hSA.below ((Below.refl _ _).drew.trans x.property))
    have hSX : ∀ x : Ext A.heap.size A.drew, Spots x.val b nx := fun x => hSA.below ((Below.refl _ _).drew.trans x.property)
    by_cases hon : m = some p
    · subst hon
      have honR : onRb nx p = true := (onRb_iff hn (by omega)).2 ((hm.onR (way_rho hn (by omega))).1 rfl)
      have hlt9 := ringsF_lt hn p (by omega)
      have hmem := txt_mem hlt9.1 (show p < 19 by omega)
      have hszf := txt_size (ringsF nx p).flatten
      have hneq : ∀ W, (∃ x : Ext A.heap.size A.drew, W = x.val) → (binOp .neq 107 (.pointer (some ⟨b, p * 2, none⟩)) (.pointer (some ⟨b, p * 2, none⟩))).run Tryz.prog W = .ok (.bool false) W := by
        rintro W ⟨x, rfl⟩; exact neqp_yes x.val _
      have hx4 : ∀ x : Ext A.heap.size A.drew, x.val.cell? ⟨W.heap.size + 2, 0, none⟩ = some (.string (txt (ringsF nx p).flatten)) := fun x => (x.property.cell (p := ⟨W.heap.size + 2, 0, none⟩) h4.lt).trans (h4.cell 0)
      have hxn : ∀ x : Ext A.heap.size A.drew, x.val.cell? ⟨b, p * 2, none⟩ = some (.string ⟨#[ch p]⟩) := fun x => (hSX x).name p (by omega)
      have hcon : ∀ x : Ext A.heap.size A.drew, Calls Tryz.prog 79 #[.string (txt (ringsF nx p).flatten), .string ⟨#[ch p]⟩] x.val fun e w' => e = .returned (.bool (decide (ch p ∈ (txt (ringsF nx p).flatten).data.toList))) ∧ x.val = w' := fun x =>
        (Tryz.strings_Contains_one _ _ x.val).mono fun _ _ ⟨e1, e2⟩ => ⟨by
          rw [e1]; congr 2; simp only [indexByte_mem], e2.symm⟩
      have hent : ∀ x : Ext A.heap.size A.drew, Calls Tryz.prog 81 #[.pointer (some ⟨b, p * 2, none⟩)] x.val fun e w' => e = .returned (.pointer (some ⟨b, p * 2, none⟩)) ∧ Below x.val.heap.size x.val w' := hENT
      have HWB := Lib.hid (fun W' (hS : Spots W' b nx) => wayBack_c b nx hn p (by omega) W' hS)
      have hwl := (way_rho hn (show p < 19 by omega)).len
      have hwz := txt_size (way nx p)
      clear hENT
      by_cases hin : p ∈ (ringsF nx p).flatten
      · have hd : decide (ch p ∈ (txt (ringsF nx p).flatten).data.toList) = true := by simpa using hmem.2 hin
        have HNO := Lib.hid (ringsF_no (nx := nx) (k := p) (fun h => h.2 hin))
        rw [hd] at hcon
        clear hd hmem hin
        generalize ch p = c at *
        gi_wp2
        refine region_quiet_inRound (F := Fence.wide) (C := fun w' => ∃ x : Ext A.heap.size A.drew, w' = x.val) rfl (by kernel_rfl) (by kernel_rfl) (by kernel_rfl) ⟨⟨_, Below.refl _ _⟩, rfl⟩ ?_
        simp only
        gi_big_quiet_step (fail)
        (refine BigFrame.wpQuietIn_want (fun _ _ _ _ => trivial) rfl (fun K hK => ?_); gi_big_quiet_op; refine ⟨_, fun _ => callsIn_wide.2 (ext_call _ (Nat.le_refl _) (hent _)), hK _ ?_⟩; clear hK K)
        gi_big_quiet_step (fail)
        refine ptr_step rfl 107 _ (.tmp 15) (.tmp 16) rfl (some ⟨b, p * 2, none⟩) (some ⟨b, p * 2, none⟩) (by rfl) (by rfl) (.bool false) hneq ?_
        simp only [Act.put, List.setIfInBounds_toArray, List.set_cons_succ, List.set_cons_zero]
        gi_big_quiet_step (fail)
        gi_big_quiet_step (fail)
        gi_big_quiet_step (fail)
        gi_big_quiet_step (fail)
        gi_big_quiet_step (fail)
        gi_big_quiet_step (fail)
        (refine BigFrame.wpQuietIn_want (fun _ _ _ _ => trivial) rfl (fun K hK => ?_); gi_big_quiet_op; refine ⟨_, fun _ => callsIn_wide.2 (ext_same _ (hcon _)), hK _ ?_⟩; clear hK K)
        gi_big_quiet_step (fail)
        refine wpQuietIn_nil ?_
        rintro W2 ⟨xw, rfl⟩
        have hb2 : Below A.heap.size A xw.val := ((Below.refl _ _).drew).trans xw.property
        clear hx4 hxn hcon hent hSX hneq
        generalize xw.val = W2 at *
        have j1 := hJ _ A W2 none h1 (grown_below hb2 none) (fun r e => by cases e)
        have k2 := h2.keep hb2
        have k3 := h3.keep hb2
        have k4 := h4.keep hb2
        gi_wp2
        exact ⟨keepsFrom_below hb2, KeepsIn.zero hb2.size, by rw [HPL.out, HNO.out]; exact j1, k2, k3, by rw [HPL.out, HNO.out]; exact k4⟩
      · have hd : decide (ch p ∈ (txt (ringsF nx p).flatten).data.toList) = false := by simpa using fun h => hin (hmem.1 h)
        have hyes := ringsF_yes honR hin
        have HYES := Lib.hid hyes
        have HSX2 : Hid (txt (ringsF nx (p + 1)).flatten = txt (ringsF nx p).flatten ++ txt (way nx p)) := by
          show _ = _
          rw [hyes, List.flatten_append, txt_append]; simp
        have hpre : ringsF nx p ++ [way nx p] <+: ringsF nx 9 := by rw [← hyes]; exact ringsF_pre (by omega)
        rw [hd] at hcon
        clear hd hmem hin hyes
        generalize ch p = c at *
        gi_wp2
        refine region_quiet_inRound (F := Fence.wide) (C := fun w' => ∃ x : Ext A.heap.size A.drew, w' = x.val) rfl (by kernel_rfl) (by kernel_rfl) (by kernel_rfl) ⟨⟨_, Below.refl _ _⟩, rfl⟩ ?_
        simp only
        gi_big_quiet_step (fail)
        (refine BigFrame.wpQuietIn_want (fun _ _ _ _ => trivial) rfl (fun K hK => ?_); gi_big_quiet_op; refine ⟨_, fun _ => callsIn_wide.2 (ext_call _ (Nat.le_refl _) (hent _)), hK _ ?_⟩; clear hK K)
        gi_big_quiet_step (fail)
        refine ptr_step rfl 107 _ (.tmp 15) (.tmp 16) rfl (some ⟨b, p * 2, none⟩) (some ⟨b, p * 2, none⟩) (by rfl) (by rfl) (.bool false) hneq ?_
        simp only [Act.put, List.setIfInBounds_toArray, List.set_cons_succ, List.set_cons_zero]
        gi_big_quiet_step (fail)
        gi_big_quiet_step (fail)
        gi_big_quiet_step (fail)
        gi_big_quiet_step (fail)
        gi_big_quiet_step (fail)
        gi_big_quiet_step (fail)
        (refine BigFrame.wpQuietIn_want (fun _ _ _ _ => trivial) rfl (fun K hK => ?_); gi_big_quiet_op; refine ⟨_, fun _ => callsIn_wide.2 (ext_same _ (hcon _)), hK _ ?_⟩; clear hK K)
        gi_big_quiet_step (fail)
        refine wpQuietIn_nil ?_
        rintro W2 ⟨xw, rfl⟩
        have hb2 : Below A.heap.size A xw.val := ((Below.refl _ _).drew).trans xw.property
        have hSW := hSX xw
        clear hx4 hxn hcon hent hSX hneq
        generalize xw.val = W2 at *
        have j1 := hJ _ A W2 none h1 (grown_below hb2 none) (fun r e => by cases e)
        have k2 := h2.keep hb2
        have k3 := h3.keep hb2
        have k4 := h4.keep hb2
        have hz2 := hb2.size
        gi_wp2
        refine ⟨trivial, CallsIn.inRound l2 (callsIn_wide.2 ((HWB.out W2 hSW).mono ?_))⟩
        rintro e W3 ⟨rfl, hb3⟩
        have j3 := hJ _ W2 W3 none j1 (grown_below hb3 none) (fun r e => by cases e)
        have m2 := k2.keep hb3
        have m3 := k3.keep hb3
        have m4 := k4.keep hb3
        have hz3 := hb3.size
        have kf3 : KeepsFrom W0.heap.size A W3 := (keepsFrom_below hb2).trans (keepsFrom_below hb3)
        obtain ⟨fn, tmps, assign, body, hy, hR⟩ := yieldAt_wide (m := 1) (hY (ringsF nx p) (way nx p) W3 j3 (by omega) hpre)
        have hyc : W3.cell? ⟨W.heap.size + 1, 0, none⟩ = some (.func (.yield l) #[] #[]) := m3.cell 0
        clear h1 h2 h3 h4 k2 k3 k4 j1
        gi_wp2
        refine hR.mono ?_
        rintro e A2 (⟨rfl, hJ3, hKN, hKF⟩ | ⟨rfl, hJ3, _, hKF⟩)
        · have q2 : At A2 W.heap.size 72 #[.pointer (some ⟨b, 0, none⟩)] := (hKN.same _ (Nat.le_refl _) (by omega)).trans m2
          have q3 : At A2 (W.heap.size + 1) 101 #[.func (.yield l) #[] #[]] := (hKN.same _ (by omega) (by omega)).trans m3
          have q4 : At A2 (W.heap.size + 2) 9 #[.string (txt (ringsF nx p).flatten)] := (hKN.same _ (by omega) (by omega)).trans m4
          have kN : W3.heap.size ≤ A2.heap.size := hKN.size
          have kF : KeepsFrom W0.heap.size A A2 := kf3.trans ⟨hKF.size, fun k o hk h4 h5 => hKF.same k o (by omega) h4 h5⟩
          have c4 : A2.cell? ⟨W.heap.size + 2, 0, none⟩ = some (.string (txt (ringsF nx p).flatten)) := q4.cell 0
          have f4 : A2.frozen? ⟨W.heap.size + 2, 0, none⟩ = false := q4.frozen 0
          have l4 := q4.lt
          have hgs : A2.grownBy (A2.setCell ⟨W.heap.size + 2, 0, none⟩ (.string (txt (ringsF nx p).flatten ++ txt (way nx p)))) (some (W.heap.size + 2)) := grownBy_setCell' A2 (W.heap.size + 2) _
          have j5 := hJW _ A2 _ (W.heap.size + 2) hJ3 (by omega) (by omega) hgs
          have s2 := q2.far (p := ⟨W.heap.size + 2, 0, none⟩) (by simp) (.string (txt (ringsF nx p).flatten ++ txt (way nx p)))
          have s3 := q3.far (p := ⟨W.heap.size + 2, 0, none⟩) (by simp) (.string (txt (ringsF nx p).flatten ++ txt (way nx p)))
          have s4 := q4.set 0 (.string (txt (ringsF nx p).flatten ++ txt (way nx p)))
          clear hR hY m2 m3 m4 q2 q3 q4 hgs
          gi_wp2
          refine ⟨kF.trans ((KeepsOthers.setCell _ _ _).from _), KeepsIn.zero (by simp [World.size_setCell]; omega), ?_, s2, s3, ?_⟩
          · rw [HPL.out, HYES.out]; exact j5
          · rw [HPL.out, HSX2.out]; exact s4
        · have kF : KeepsFrom W0.heap.size A A2 := kf3.trans ⟨hKF.size, fun k o hk h4 h5 => hKF.same k o (by omega) h4 h5⟩
          clear hR hY m2 m3 m4
          gi_wp2
          exact ⟨kF, rfl, _, hpre, hJ3⟩
    · have hno := ringsF_no (nx := nx) (k := p) (fun h => hon ((hm.onR (way_rho hn (by omega))).2 ((onRb_iff hn (by omega)).1 h.1)))
      have HNO := Lib.hid hno
      have hneq : ∀ x : Ext A.heap.size A.drew, ∃ q, spotV b m = .pointer q ∧ (binOp .neq 107 (.pointer q) (.pointer (some ⟨b, p * 2, none⟩))).run Tryz.prog x.val = .ok (.bool true) x.val := fun x => by
        cases m with
        | none => exact ⟨none, rfl, neqp_nil _ _⟩
        | some y => exact ⟨_, rfl, neqp_no x.val b nx (hSX x) y p (fun e => hon (by rw [e]))⟩
      clear hno hon hm
      gi_wp2
      refine region_quiet_inRound (F := Fence.wide) (C := fun w' => ∃ x : Ext A.heap.size A.drew, w' = x.val) rfl (by kernel_rfl) (by kernel_rfl) (by kernel_rfl) ⟨⟨_, Below.refl _ _⟩, rfl⟩ ?_
      simp only
      gi_big_quiet_step (fail)
      (refine BigFrame.wpQuietIn_want (fun _ _ _ _ => trivial) rfl (fun K hK => ?_); gi_big_quiet_op; refine ⟨_, fun _ => callsIn_wide.2 (ext_call _ (Nat.le_refl _) (hENT _)), hK _ ?_⟩; clear hK K)
      gi_big_quiet_step (fail)
      obtain ⟨q, hq1, hq2⟩ : ∃ q, spotV b m = .pointer q ∧ ∀ W, (∃ x : Ext A.heap.size A.drew, W = x.val) → (binOp .neq 107 (.pointer q) (.pointer (some ⟨b, p * 2, none⟩))).run Tryz.prog W = .ok (.bool true) W := by
        obtain ⟨q, e1, _⟩ := hneq ⟨_, Below.refl _ _⟩
        refine ⟨q, e1, ?_⟩
        rintro W ⟨x, rfl⟩
        obtain ⟨q', e2, e3⟩ := hneq x
        rw [e1] at e2
        cases e2
        exact e3
      clear hneq
      rw [hq1]
      refine ptr_step rfl 107 _ (.tmp 15) (.tmp 16) rfl q (some ⟨b, p * 2, none⟩) (by rfl) (by rfl) (.bool true) hq2 ?_
      simp only [Act.put, List.setIfInBounds_toArray, List.set_cons_succ, List.set_cons_zero]
      repeat (first | gi_big_quiet_step (fail) | (refine BigFrame.wpQuietIn_skip (fun _ _ _ _ => trivial) rfl ?_; simp only [Act.put, List.setIfInBounds_toArray, List.set_cons_succ, List.set_cons_zero]))
      refine wpQuietIn_nil ?_
      rintro W2 ⟨xw, rfl⟩
      have hb2 : Below A.heap.size A xw.val := ((Below.refl _ _).drew).trans xw.property
      clear hENT hSX hq2
      generalize xw.val = W2 at *
      have j1 := hJ _ A W2 none h1 (grown_below hb2 none) (fun r e => by cases e)
      have k2 := h2.keep hb2
      have k3 := h3.keep hb2
      have k4 := h4.keep hb2
      gi_wp2
      exact ⟨keepsFrom_below hb2, KeepsIn.zero hb2.size, by rw [HPL.out, HNO.out]; exact j1, k2, k3, by rw [HPL.out, HNO.out]; exact k4⟩
  case done =>
    clear hJ0 hA0 hA1 hA2 hY
    intro D A hD hI hd
    obtain ⟨h1, h2, h3, h4⟩ := hI
    gi_wp2
    refine ⟨by simp, .inl ⟨D, _, rfl, run_takeDeferred hd, ?_⟩⟩
    refine ⟨_, results_none rfl _ _ _, ⟨_, rfl⟩, .inl ?_⟩
    exact hJ.putObj _ h1 (by omega) hd rfl
  case stop =>
    clear hJ0 hA0 hA1 hA2 hY
    rintro D c pre A hD hp ⟨rfl, pre2, hp2, h1⟩ hd
    gi_wp2
    refine ⟨by simp, .inl ⟨D, _, rfl, run_takeDeferred hd, ?_⟩⟩
    refine ⟨_, results_none rfl _ _ _, ⟨_, rfl⟩, .inr ⟨pre2, hp2, ?_⟩⟩
    exact hJx.putObj _ h1 (by omega) hd rfl
end Go.Proofs.YteadhnpmmpninaaGreat
namespace Go.PW
open Go.PM

/-- two sets become one -/
def joinH (h : Nat → Nat) (a b : Nat) : Nat → Nat := fun q => if h q = h a then h b else h q
/-- which place stands for a place's wheel, when the first k places are joined with their sources -/
def hdF (f : Nat → ByteArray) : Nat → Nat → Nat
  | 0 => id
  | k + 1 => if sx f k < 9 then joinH (hdF f k) k (sx f k) else hdF f k
variable {f : Nat → ByteArray}
theorem hdF_yes {k : Nat} (h : sx f k < 9) : hdF f (k + 1) = joinH (hdF f k) k (sx f k) := by rw [hdF, if_pos h]
theorem hdF_no {k : Nat} (h : ¬ sx f k < 9) : hdF f (k + 1) = hdF f k := by rw [hdF, if_neg h]
theorem hd_sound (S : Nat → Prop) : ∀ k, (∀ p, p < k → sx f p < 9 → (S p ↔ S (sx f p))) → ∀ q r, hdF f k q = hdF f k r → (S q ↔ S r) := by
  intro k
  induction k with
  | zero => intro _ q r e; have : q = r := e; rw [this]
  | succ k ih =>
    intro hS q r e
    have ih := ih (fun p hp => hS p (by omega))
    by_cases h9 : sx f k < 9
    · rw [hdF_yes h9] at e
      have hk := hS k (by omega) h9
      unfold joinH at e
      by_cases h1 : hdF f k q = hdF f k k
      · by_cases h2 : hdF f k r = hdF f k k
        · rw [ih q k h1, ih r k h2]
        · rw [if_pos h1, if_neg h2] at e
          rw [ih q k h1, hk, ih _ r e]
      · by_cases h2 : hdF f k r = hdF f k k
        · rw [if_neg h1, if_pos h2] at e
          rw [ih q _ e, ← hk, ih r k h2]
        · rw [if_neg h1, if_neg h2] at e
          exact ih q r e
    · rw [hdF_no h9] at e
      exact ih q r e
theorem hd_keep {k q r : Nat} (e : hdF f k q = hdF f k r) : hdF f (k + 1) q = hdF f (k + 1) r := by
  by_cases h9 : sx f k < 9
  · rw [hdF_yes h9]; unfold joinH; rw [e]
  · rw [hdF_no h9]; exact e
theorem hd_edge : ∀ k p, p < k → sx f p < 9 → hdF f k p = hdF f k (sx f p) := by
  intro k
  induction k with
  | zero => intro p h; omega
  | succ k ih =>
    intro p hp h9
    rcases Nat.lt_or_ge p k with h1 | h1
    · exact hd_keep (ih p h1 h9)
    · have : p = k := by omega
      subst this
      rw [hdF_yes h9]
      unfold joinH
      rw [if_pos rfl]
      by_cases h2 : hdF f p (sx f p) = hdF f p p
      · rw [if_pos h2]
      · rw [if_neg h2]
theorem hd_lt (k : Nat) (hk : k ≤ 9) : ∀ q, q < 9 → hdF f k q < 9 := by
  induction k with
  | zero => intro q h; exact h
  | succ k ih =>
    intro q hq
    by_cases h9 : sx f k < 9
    · rw [hdF_yes h9]; unfold joinH
      by_cases h1 : hdF f k q = hdF f k k
      · rw [if_pos h1]; exact ih (by omega) _ h9
      · rw [if_neg h1]; exact ih (by omega) _ hq
    · rw [hdF_no h9]; exact ih (by omega) q hq

/-- an array that leads each place to the one that stands for its set -/
structure Forest (w h dp : Nat → Nat) : Prop where
  lt : ∀ q, q < 9 → w q < 9
  hlt : ∀ q, q < 9 → h q < 9
  root : ∀ q, q < 9 → w q = q → h q = q
  up : ∀ q, q < 9 → w q ≠ q → dp (w q) < dp q ∧ h (w q) = h q
  top : ∀ q, q < 9 → w (h q) = h q
theorem Forest.id : Forest (fun q => q) (fun q => q) (fun _ => 0) := ⟨fun _ h => h, fun _ h => h, fun _ _ _ => rfl, fun _ _ h => absurd rfl h, fun _ _ => rfl⟩
theorem Forest.join {w h dp : Nat → Nat} (F : Forest w h dp) {a b : Nat} (ha : a < 9) (hb : b < 9) :
    ∃ dp', Forest (fun q => if q = h a then h b else w q) (joinH h a b) dp' := by
  have hab := F.hlt a ha
  have hbb := F.hlt b hb
  have ta := F.root _ hab (F.top a ha)
  have tb := F.root _ hbb (F.top b hb)
  by_cases he : h a = h b
  · refine ⟨dp, ⟨fun q hq => ?_, fun q hq => ?_, fun q hq e => ?_, fun q hq e => ?_, fun q hq => ?_⟩⟩
    all_goals
      have e1 : ∀ q, (if q = h a then h b else w q) = w q := by
        intro q
        by_cases h1 : q = h a
        · rw [if_pos h1, h1, ← he, F.top a ha]
        · rw [if_neg h1]
      have e2 : ∀ q, joinH h a b q = h q := by
        intro q; unfold joinH
        by_cases h1 : h q = h a
        · rw [if_pos h1, h1, he]
        · rw [if_neg h1]
      simp only [e1, e2] at *
    · exact F.lt q hq
    · exact F.hlt q hq
    · exact F.root q hq e
    · exact F.up q hq e
    · exact F.top q hq
  · refine ⟨fun q => if h q = h a then dp q + dp (h b) + 1 else dp q, ⟨fun q hq => ?_, fun q hq => ?_, fun q hq e => ?_, fun q hq e => ?_, fun q hq => ?_⟩⟩
    · show (if q = h a then h b else w q) < 9
      by_cases h1 : q = h a
      · rw [if_pos h1]; exact hbb
      · rw [if_neg h1]; exact F.lt q hq
    · unfold joinH
      by_cases h1 : h q = h a
      · rw [if_pos h1]; exact hbb
      · rw [if_neg h1]; exact F.hlt q hq
    · have e : (if q = h a then h b else w q) = q := e
      by_cases h1 : q = h a
      · rw [if_pos h1, h1] at e; exact absurd e.symm he
      · rw [if_neg h1] at e
        have := F.root q hq e
        unfold joinH
        rw [if_neg (by rw [this]; exact h1)]; exact this
    · have e : (if q = h a then h b else w q) ≠ q := e
      show (if h (if q = h a then h b else w q) = h a then dp (if q = h a then h b else w q) + dp (h b) + 1 else dp (if q = h a then h b else w q)) < (if h q = h a then dp q + dp (h b) + 1 else dp q) ∧ joinH h a b (if q = h a then h b else w q) = joinH h a b q
      by_cases h1 : q = h a
      · subst h1
        rw [if_pos rfl, if_neg (by rw [tb]; exact fun h => he h.symm), if_pos ta]
        refine ⟨by omega, ?_⟩
        unfold joinH
        rw [if_neg (by rw [tb]; exact fun h => he h.symm), if_pos ta, tb]
      · rw [if_neg h1] at e ⊢
        have u := F.up q hq e
        rw [u.2]
        refine ⟨?_, by unfold joinH; rw [u.2]⟩
        by_cases h2 : h q = h a
        · rw [if_pos h2, if_pos h2]; omega
        · rw [if_neg h2, if_neg h2]; exact u.1
    · show (if joinH h a b q = h a then h b else w (joinH h a b q)) = joinH h a b q
      unfold joinH
      by_cases h1 : h q = h a
      · rw [if_pos h1, if_neg (fun h => he h.symm)]; exact F.top b hb
      · rw [if_neg h1, if_neg h1]; exact F.top q hq

/-- a list of places that hang together with one and from which nothing leads out -/
structure Comp (f : Nat → ByteArray) (p : Nat) (l : List Nat) (done : Nat) : Prop where
  nodup : l.Nodup
  lt : ∀ q ∈ l, q < 9
  has : p ∈ l
  in_ : ∀ q ∈ l, hdF f 9 q = hdF f 9 p
  out : ∀ k q, k < done → l[k]? = some q → (sx f q < 9 → sx f q ∈ l) ∧ ∀ r, r < 9 → sx f r = q → r ∈ l
theorem Comp.all {p : Nat} {l : List Nat} (h : Comp f p l l.length) : ∀ q, q < 9 → (q ∈ l ↔ hdF f 9 q = hdF f 9 p) := by
  intro q hq
  refine ⟨h.in_ q, fun e => ?_⟩
  refine (hd_sound (f := f) (fun x => x ∈ l) 9 (fun r hr h9 => ?_) q p e).2 h.has
  have hin : ∀ x, x ∈ l → (sx f x < 9 → sx f x ∈ l) ∧ ∀ r, r < 9 → sx f r = x → r ∈ l := by
    intro x hx
    obtain ⟨k, hk⟩ := List.getElem?_of_mem hx
    exact h.out k x (List.getElem?_eq_some_iff.1 hk).1 hk
  exact ⟨fun hm => (hin r hm).1 h9, fun hm => (hin _ hm).2 r hr rfl⟩
end Go.PW
namespace Go.PW
open Go.PM
variable {f : Nat → ByteArray}
def wheelH (f : Nat → ByteArray) (p q : Nat) : Bool := decide (hdF f 9 q = hdF f 9 p)
/-- the wheel of a place, in order -/
def wheelL (f : Nat → ByteArray) (p : Nat) : List Nat := (List.range 9).filter (wheelH f p)
theorem wheelL_mem {p q : Nat} : q ∈ wheelL f p ↔ q < 9 ∧ hdF f 9 q = hdF f 9 p := by
  simp [wheelL, wheelH]
theorem wheelL_congr {p q : Nat} (e : hdF f 9 q = hdF f 9 p) : wheelL f q = wheelL f p := by
  unfold wheelL wheelH; rw [e]
theorem wheelL_lt {p : Nat} : ∀ a ∈ wheelL f p, a < 9 := fun _a ha => (wheelL_mem.1 ha).1
theorem wheelL_self {p : Nat} (hp : p < 9) : p ∈ wheelL f p := wheelL_mem.2 ⟨hp, rfl⟩
theorem wheelL_len (p : Nat) : (wheelL f p).length ≤ 9 := by
  have := List.length_filter_le (wheelH f p) (List.range 9)
  simpa [wheelL] using this
theorem head_le : ∀ (l : List Nat), l.Pairwise (· < ·) → ∀ a ∈ l, ∃ h, l.head? = some h ∧ h ≤ a ∧ h ∈ l
  | [], _, a, ha => by cases ha
  | x :: l, hp, a, ha => by
    refine ⟨x, rfl, ?_, by simp⟩
    rw [List.mem_cons] at ha
    rcases ha with rfl | ha
    · exact Nat.le_refl _
    · exact Nat.le_of_lt ((List.pairwise_cons.1 hp).1 a ha)
theorem wheelL_sorted (p : Nat) : (wheelL f p).Pairwise (· < ·) := by
  unfold wheelL
  exact (List.pairwise_lt_range (n := 9)).filter _
theorem wheelL_head {p : Nat} (hp : p < 9) : ∃ h, (wheelL f p).head? = some h ∧ h ≤ p ∧ h ∈ wheelL f p := head_le _ (wheelL_sorted p) p (wheelL_self hp)
/-- whether a place is the first one of a wheel of two places or more -/
def firstW (f : Nat → ByteArray) (p : Nat) : Bool := decide (1 < (wheelL f p).length ∧ (wheelL f p).head? = some p)
/-- the wheels of the first k places -/
def wheelsF (f : Nat → ByteArray) (k : Nat) : List (List Nat) := ((List.range k).filter (firstW f)).map (wheelL f)
theorem wheelsF_yes {k : Nat} (h : firstW f k = true) : wheelsF f (k + 1) = wheelsF f k ++ [wheelL f k] := by simp [wheelsF, List.range_succ, h]
theorem wheelsF_no {k : Nat} (h : firstW f k = false) : wheelsF f (k + 1) = wheelsF f k := by simp [wheelsF, List.range_succ, h]
theorem wheelsF_len (k : Nat) : (wheelsF f k).length ≤ k := by
  unfold wheelsF; rw [List.length_map]
  have := List.length_filter_le (firstW f) (List.range k)
  simpa using this
theorem flat_len : ∀ (l : List (List Nat)), (∀ x ∈ l, x.length ≤ 9) → l.flatten.length ≤ 9 * l.length
  | [], _ => by simp
  | x :: l, h => by
    have := flat_len l fun y hy => h y (by simp [hy])
    have := h x (by simp)
    simp only [List.flatten_cons, List.length_append, List.length_cons]; omega
theorem wheelsF_flat (k : Nat) : (∀ a ∈ (wheelsF f k).flatten, a < 9) ∧ (wheelsF f k).flatten.length ≤ 9 * k := by
  have hm : ∀ x ∈ wheelsF f k, ∃ p, x = wheelL f p := fun x hx => by
    obtain ⟨p, _, e⟩ := List.mem_map.1 hx; exact ⟨p, e.symm⟩
  refine ⟨fun a ha => ?_, ?_⟩
  · obtain ⟨x, hx, ha⟩ := List.mem_flatten.1 ha
    obtain ⟨p, rfl⟩ := hm x hx
    exact wheelL_lt a ha
  · have h1 := flat_len (wheelsF f k) fun x hx => by obtain ⟨p, rfl⟩ := hm x hx; exact wheelL_len p
    have h2 := wheelsF_len (f := f) k
    omega
/-- the first place of a wheel is not in an earlier one exactly if it is the place itself -/
theorem seen_iff {p : Nat} (hp : p < 9) (hl : 1 < (wheelL f p).length) {h : Nat} (hh : (wheelL f p).head? = some h) : h ∉ (wheelsF f p).flatten ↔ h = p := by
  obtain ⟨h', e, hle, hm⟩ := wheelL_head (f := f) hp
  rw [hh] at e; cases e
  have hc := (wheelL_mem.1 hm).2
  constructor
  · intro hn
    rcases Nat.lt_or_ge h p with h1 | h1
    · exfalso
      apply hn
      refine List.mem_flatten.2 ⟨wheelL f h, List.mem_map.2 ⟨h, List.mem_filter.2 ⟨by simpa using h1, ?_⟩, rfl⟩, wheelL_self (by omega)⟩
      unfold firstW
      rw [wheelL_congr hc, decide_eq_true_eq]
      exact ⟨hl, hh⟩
    · omega
  · rintro rfl hin
    obtain ⟨x, hx, ha⟩ := List.mem_flatten.1 hin
    obtain ⟨r, hr, rfl⟩ := List.mem_map.1 hx
    obtain ⟨hr1, hr2⟩ := List.mem_filter.1 hr
    unfold firstW at hr2
    rw [decide_eq_true_eq] at hr2
    have e1 := wheelL_congr (wheelL_mem.1 ha).2
    rw [← e1, hh] at hr2
    have := Option.some.inj hr2.2
    have : r < h := by simpa using hr1
    omega

/-- a ring's places have readers -/
theorem ring_pred {nx : Nat → Option Nat} {i : Nat} (h : OnR nx i) : ∃ j, nx j = some i := by
  obtain ⟨k, hk, e⟩ := h
  obtain ⟨k, rfl⟩ : ∃ m, k = m + 1 := ⟨k - 1, by omega⟩
  simp only [orb, Option.bind_eq_some_iff] at e
  obtain ⟨j, _, e⟩ := e
  exact ⟨j, e⟩
theorem ring_all {nx : Nat → Option Nat} (hn : Nice nx) {s : Nat} (hs : s < 19) (h : OnR nx s) : ∀ i ∈ way nx s, OnR nx i := by
  intro i hi
  have hr := way_rho hn hs
  have e := hr.onR.1 h
  obtain ⟨j, hj⟩ := List.getElem?_of_mem hi
  have hlt := (List.getElem?_eq_some_iff.1 hj).1
  rw [hr.at_ j hlt] at hj
  exact (hr.ring_at hr.pos (by rw [e]; rfl) hj).2 (Nat.zero_le _)
theorem ring_low {nx : Nat → Option Nat} (hn : Nice nx) {i : Nat} (h : OnR nx i) : i < 9 := by
  obtain ⟨k, hk, e⟩ := h
  obtain ⟨k, rfl⟩ : ∃ m, k = m + 1 := ⟨k - 1, by omega⟩
  rw [show k + 1 = 1 + k by omega, orb_add] at e
  cases h1 : orb nx i 1 with
  | none => rw [h1] at e; cases e
  | some j => exact hn.low i j (by simpa [orb] using h1)
/-- how many places read a spot -/
def rcount (f : Nat → ByteArray) (i : Nat) : Nat := (namesW (rdH f (sn i))).size
theorem rcount_pos {f : Nat → ByteArray} (hf : SV f) {i j : Nat} (hi : i < 19) (h : nxT f j = some i) : 1 ≤ rcount f i := by
  have hj := (nice hf).low _ _ h
  have hs : sx f j = i ∧ j ≠ i := by
    unfold nxT at h
    rw [if_pos hj] at h
    by_cases e : sx f j = j
    · rw [if_pos e] at h; cases h
    · rw [if_neg e, Option.some.injEq] at h; exact ⟨h, fun e2 => e (by rw [h, e2])⟩
  have hr : rdH f (sn i) j = true := by
    unfold rdH
    rw [← (sx_lt hf hj).2, hs.1, ← sn_nm j hj]
    simp only [decide_true, Bool.and_true, decide_eq_true_eq]
    exact fun e => hs.2 (sn_inj (by omega) hi e)
  unfold rcount namesW
  have : j ∈ (List.range 9).filter (rdH f (sn i)) := List.mem_filter.2 ⟨by simpa using hj, hr⟩
  have h0 := List.length_pos_of_mem this
  have e : (ByteArray.mk (namesL (rdH f (sn i)) (List.range 9)).toArray).size = ((List.range 9).filter (rdH f (sn i))).length := by simp [ByteArray.size, namesL]
  rw [e]; exact h0
/-- a ring that nobody reads from outside -/
def shut (f : Nat → ByteArray) (l : List Nat) : Bool := l.all fun i => decide (rcount f i ≤ 1)
theorem ring_one {f : Nat → ByteArray} (hf : SV f) {s : Nat} (hs : s < 19) (h : onRb (nxT f) s = true) {i : Nat} (hi : i ∈ way (nxT f) s) : (rcount f i ≤ 1 ↔ rcount f i = 1) := by
  have hn := nice hf
  have h1 := ring_all hn hs ((onRb_iff hn hs).1 h) i hi
  obtain ⟨j, hj⟩ := ring_pred h1
  have := rcount_pos hf ((way_rho hn hs).lt i hi) hj
  omega
end Go.PW
namespace Go.PM
open Go.RowKit
def busyH (xs : List Mv) (p : Nat) : Bool := decide (srcM xs (nm p) ≠ nm p)
/-- the moves that change something, of the first k places in their order -/
def busyF (xs : List Mv) (k : Nat) : List Mv := ((List.range k).filter (busyH xs)).map fun p => (nm p, srcM xs (nm p))
theorem busyF_yes (xs : List Mv) (k : Nat) (h : busyH xs k = true) : busyF xs (k + 1) = busyF xs k ++ [(nm k, srcM xs (nm k))] := by
  simp [busyF, List.range_succ, h]
theorem busyF_no (xs : List Mv) (k : Nat) (h : busyH xs k = false) : busyF xs (k + 1) = busyF xs k := by
  simp [busyF, List.range_succ, h]
theorem busyF_len (xs : List Mv) (k : Nat) : (busyF xs k).length ≤ k := by
  unfold busyF
  rw [List.length_map]
  have := List.length_filter_le (busyH xs) (List.range k)
  simpa using this
theorem key_inj {α β : Type _} {f : α → β} : ∀ {l : List α}, (l.map f).Nodup → ∀ {a b : α}, a ∈ l → b ∈ l → f a = f b → a = b
  | [], _, _, _, ha, _, _ => by cases ha
  | x :: l, h, a, b, ha, hb, e => by
    rw [List.map_cons, List.nodup_cons] at h
    rw [List.mem_cons] at ha hb
    rcases ha with rfl | ha
    · rcases hb with rfl | hb
      · rfl
      · exact absurd (List.mem_map.2 ⟨b, hb, e.symm⟩) h.1
    · rcases hb with rfl | hb
      · exact absurd (List.mem_map.2 ⟨a, ha, e⟩) h.1
      · exact key_inj h.2 ha hb e
theorem srcM_of_mem {xs : List Mv} (h : MV xs) {m : Mv} (hm : m ∈ xs) : srcM xs m.1 = m.2 := by
  unfold srcM
  cases hf : xs.find? (fun x => decide (x.1 = m.1)) with
  | none => exact absurd (List.find?_eq_none.1 hf m hm) (by simp)
  | some x =>
    have e1 : x.1 = m.1 := by simpa using List.find?_some hf
    have := key_inj h.2 (List.mem_of_find?_eq_some hf) hm e1
    subst this; rfl
theorem mem_of_srcM {xs : List Mv} {a : ByteArray} (h : srcM xs a ≠ a) : (a, srcM xs a) ∈ xs := by
  unfold srcM at h ⊢
  cases hf : xs.find? (fun x => decide (x.1 = a)) with
  | none => rw [hf] at h; exact absurd rfl h
  | some x =>
    have e1 : x.1 = a := by simpa using List.find?_some hf
    have e2 := List.mem_of_find?_eq_some hf
    rw [← e1]; exact e2
theorem busy_count {xs : List Mv} (h : MV xs) : (busyM xs).length = (busyF xs 9).length := by
  have n1 : ((busyM xs).map (·.1)).Nodup := h.2.sublist ((List.filter_sublist (l := xs)).map _)
  have n2 : ((busyF xs 9).map (·.1)).Nodup := by
    have e : (busyF xs 9).map (·.1) = ((List.range 9).filter (busyH xs)).map nm := by simp [busyF]
    rw [e]
    have : ∀ l : List Nat, l.Nodup → (∀ p ∈ l, p < 9) → (l.map nm).Nodup := by
      intro l
      induction l with
      | nil => intro _ _; simp
      | cons a l ih =>
        intro h1 h2
        rw [List.nodup_cons] at h1
        rw [List.map_cons, List.nodup_cons]
        refine ⟨fun hm => ?_, ih h1.2 fun p hp => h2 p (by simp [hp])⟩
        obtain ⟨b, hb, e⟩ := List.mem_map.1 hm
        have := nm_inj (h2 b (by simp [hb])) (h2 a (by simp)) e
        subst this; exact h1.1 hb
    exact this _ ((List.nodup_range (n := 9)).sublist List.filter_sublist) (fun p hp => by
      have := (List.mem_filter.1 hp).1; simpa using this)
  have l1 := nodup_le ((busyM xs).map (·.1)) ((busyF xs 9).map (·.1)) n1 (fun a ha => by
    obtain ⟨m, hm, rfl⟩ := List.mem_map.1 ha
    obtain ⟨hm1, hm2⟩ := List.mem_filter.1 hm
    have hok := h.1 m hm1
    unfold mok at hok; rw [Bool.and_eq_true] at hok
    have hp := pidx_spec hok.1
    refine List.mem_map.2 ⟨(nm (pidx m.1), srcM xs (nm (pidx m.1))), ?_, hp.2⟩
    unfold busyF
    refine List.mem_map.2 ⟨pidx m.1, List.mem_filter.2 ⟨by simpa using hp.1, ?_⟩, rfl⟩
    unfold busyH
    rw [hp.2, srcM_of_mem h hm1]
    simp only [decide_eq_true_eq] at hm2 ⊢
    exact fun e => hm2 e.symm)
  have l2 := nodup_le ((busyF xs 9).map (·.1)) ((busyM xs).map (·.1)) n2 (fun a ha => by
    obtain ⟨m, hm, rfl⟩ := List.mem_map.1 ha
    unfold busyF at hm
    obtain ⟨p, hp, rfl⟩ := List.mem_map.1 hm
    obtain ⟨hp1, hp2⟩ := List.mem_filter.1 hp
    unfold busyH at hp2
    have hne : srcM xs (nm p) ≠ nm p := by simpa using hp2
    refine List.mem_map.2 ⟨_, List.mem_filter.2 ⟨mem_of_srcM hne, ?_⟩, rfl⟩
    simp only [decide_eq_true_eq]
    exact fun e => hne e.symm)
  simp only [List.length_map] at l1 l2
  omega
end Go.PM
namespace Go.PM
open Go.RowKit
/-- the moves that give to place p the value of S p, of the first k places -/
def lsH (S : Nat → ByteArray) (p : Nat) : Bool := decide (S p ≠ nm p)
def lsF (S : Nat → ByteArray) (k : Nat) : List Mv := ((List.range k).filter (lsH S)).map fun p => (nm p, S p)
theorem lsF_yes (S : Nat → ByteArray) (k : Nat) (h : lsH S k = true) : lsF S (k + 1) = lsF S k ++ [(nm k, S k)] := by
  simp [lsF, List.range_succ, h]
theorem lsF_no (S : Nat → ByteArray) (k : Nat) (h : lsH S k = false) : lsF S (k + 1) = lsF S k := by
  simp [lsF, List.range_succ, h]
theorem lsF_len (S : Nat → ByteArray) (k : Nat) : (lsF S k).length ≤ k := by
  unfold lsF
  rw [List.length_map]
  have := List.length_filter_le (lsH S) (List.range k)
  simpa using this
theorem lsF_congr {S T : Nat → ByteArray} {k : Nat} (h : ∀ p, p < k → S p = T p) : lsF S k = lsF T k := by
  have e : (List.range k).filter (lsH S) = (List.range k).filter (lsH T) := List.filter_congr fun p hp => by
    have : p < k := by simpa using hp
    rw [lsH, lsH, h p this]
  unfold lsF
  rw [e]
  refine List.map_congr_left fun p hp => ?_
  have : p < k := by have := (List.mem_filter.1 hp).1; simpa using this
  rw [h p this]
theorem lsF_keys (S : Nat → ByteArray) : ((lsF S 9).map (·.1)).Nodup := by
  have e : (lsF S 9).map (·.1) = ((List.range 9).filter (lsH S)).map nm := by simp [lsF]
  rw [e]
  have : ∀ l : List Nat, l.Nodup → (∀ p ∈ l, p < 9) → (l.map nm).Nodup := by
    intro l
    induction l with
    | nil => intro _ _; simp
    | cons a l ih =>
      intro h1 h2
      rw [List.nodup_cons] at h1
      rw [List.map_cons, List.nodup_cons]
      refine ⟨fun hm => ?_, ih h1.2 fun p hp => h2 p (by simp [hp])⟩
      obtain ⟨b, hb, e⟩ := List.mem_map.1 hm
      have := nm_inj (h2 b (by simp [hb])) (h2 a (by simp)) e
      subst this; exact h1.1 hb
  exact this _ ((List.nodup_range (n := 9)).sublist List.filter_sublist) (fun p hp => by
    have := (List.mem_filter.1 hp).1; simpa using this)
theorem lsF_mem {S : Nat → ByteArray} {m : Mv} (h : m ∈ lsF S 9) : ∃ p, p < 9 ∧ S p ≠ nm p ∧ m = (nm p, S p) := by
  obtain ⟨p, hp, rfl⟩ := List.mem_map.1 h
  obtain ⟨h1, h2⟩ := List.mem_filter.1 hp
  exact ⟨p, by simpa using h1, by simpa [lsH] using h2, rfl⟩
/-- a source function whose values are places or digits -/
def SVal (S : Nat → ByteArray) : Prop := ∀ p, p < 9 → isS (S p) = true
theorem lsF_MV {S : Nat → ByteArray} (h : SVal S) : MV (lsF S 9) := by
  refine ⟨fun m hm => ?_, lsF_keys S⟩
  obtain ⟨p, hp, _, rfl⟩ := lsF_mem hm
  unfold mok
  rw [isP_nm hp, h p hp]; rfl
theorem lsF_src (S : Nat → ByteArray) {p : Nat} (hp : p < 9) : srcM (lsF S 9) (nm p) = S p := by
  unfold srcM
  cases hf : (lsF S 9).find? (fun x => decide (x.1 = nm p)) with
  | none =>
    by_cases hh : S p = nm p
    · exact hh.symm
    · refine absurd (List.find?_eq_none.1 hf (nm p, S p) ?_) (by simp)
      exact List.mem_map.2 ⟨p, List.mem_filter.2 ⟨by simpa using hp, by simpa [lsH] using hh⟩, rfl⟩
  | some x =>
    have e1 : x.1 = nm p := by simpa using List.find?_some hf
    obtain ⟨q, hq, _, rfl⟩ := lsF_mem (List.mem_of_find?_eq_some hf)
    have := nm_inj hq hp e1
    subst this; rfl
theorem nm_ne (p : Nat) : nm p ≠ emp := by
  intro h
  have := congrArg ByteArray.size h
  cases this
theorem srcT_ne (f : Nat → ByteArray) (p : Nat) : srcT f p ≠ emp := by
  unfold srcT
  split
  · exact nm_ne p
  · next h => exact h

/-- the source function of one behind the other -/
def cmpF (S T : Nat → ByteArray) (p : Nat) : ByteArray := if isP (T p) then S (pidx (T p)) else T p
def cmpM (xs ys : List Mv) (p : Nat) : ByteArray := cmpF (fun q => srcM xs (nm q)) (fun q => srcM ys (nm q)) p
theorem cmpM_eq (xs ys : List Mv) (p : Nat) : cmpM xs ys p = if isP (srcM ys (nm p)) then srcM xs (srcM ys (nm p)) else srcM ys (nm p) := by
  unfold cmpM cmpF
  by_cases h : isP (srcM ys (nm p)) = true
  · rw [if_pos h, if_pos h]
    show srcM xs (nm (pidx (srcM ys (nm p)))) = _
    rw [(pidx_spec h).2]
  · rw [if_neg h, if_neg h]
theorem cmpF_assoc (A B C : Nat → ByteArray) (p : Nat) : cmpF (cmpF A B) C p = cmpF A (cmpF B C) p := by
  unfold cmpF
  by_cases h : isP (C p) = true
  · rw [if_pos h, if_pos h]
  · rw [if_neg h, if_neg h, if_neg h]
theorem cmpF_id (T : Nat → ByteArray) (p : Nat) : cmpF nm T p = T p := by
  unfold cmpF
  by_cases h : isP (T p) = true
  · rw [if_pos h, (pidx_spec h).2]
  · rw [if_neg h]
theorem cmpF_nm (S : Nat → ByteArray) {p : Nat} (hp : p < 9) : cmpF S nm p = S p := by
  unfold cmpF
  rw [if_pos (isP_nm hp), pidx_nm hp]
theorem cmpF_congr {A B C D : Nat → ByteArray} (h1 : ∀ p, p < 9 → A p = C p) (h2 : ∀ p, p < 9 → B p = D p) {p : Nat} (hp : p < 9) : cmpF A B p = cmpF C D p := by
  unfold cmpF
  rw [h2 p hp]
  by_cases h : isP (D p) = true
  · rw [if_pos h, if_pos h, h1 _ (pidx_spec h).1]
  · rw [if_neg h, if_neg h]
theorem isS_nm {p : Nat} (h : p < 9) : isS (nm p) = true := by unfold isS; rw [isP_nm h]; rfl
theorem SVal_nm : SVal nm := fun _ h => isS_nm h
theorem SVal_cmp {A B : Nat → ByteArray} (ha : SVal A) (hb : SVal B) : SVal (cmpF A B) := by
  intro p hp
  unfold cmpF
  by_cases h : isP (B p) = true
  · rw [if_pos h]; exact ha _ (pidx_spec h).1
  · rw [if_neg h]; exact hb p hp
theorem SVal_M {xs : List Mv} (h : MV xs) : SVal fun q => srcM xs (nm q) := by
  intro p hp
  show isS (srcM xs (nm p)) = true
  unfold srcM
  cases hf : xs.find? (fun m => decide (m.1 = nm p)) with
  | none => exact isS_nm hp
  | some m =>
    have := h.1 m (List.mem_of_find?_eq_some hf)
    unfold mok at this; rw [Bool.and_eq_true] at this
    exact this.2
/-- n times one behind the other -/
def pwF (S : Nat → ByteArray) : Nat → Nat → ByteArray
  | 0 => nm
  | n + 1 => cmpF (pwF S n) S
theorem pwF_left (S : Nat → ByteArray) : ∀ n p, p < 9 → cmpF S (pwF S n) p = pwF S (n + 1) p
  | 0, p, hp => by
    show cmpF S nm p = cmpF nm S p
    rw [cmpF_nm S hp, cmpF_id]
  | n + 1, p, hp => by
    show cmpF S (cmpF (pwF S n) S) p = cmpF (pwF S (n + 1)) S p
    rw [← cmpF_assoc]
    exact cmpF_congr (fun q hq => pwF_left S n q hq) (fun _ _ => rfl) hp
theorem pwF_congr {S T : Nat → ByteArray} (h : ∀ p, p < 9 → S p = T p) : ∀ n p, p < 9 → pwF S n p = pwF T n p
  | 0, _, _ => rfl
  | n + 1, _, hp => cmpF_congr (fun q hq => pwF_congr h n q hq) h hp
theorem pwF_two (S : Nat → ByteArray) : ∀ n p, p < 9 → pwF (cmpF S S) n p = pwF S (2 * n) p
  | 0, _, _ => rfl
  | n + 1, p, hp => by
    show cmpF (pwF (cmpF S S) n) (cmpF S S) p = _
    rw [show 2 * (n + 1) = 2 * n + 1 + 1 by omega]
    show _ = cmpF (cmpF (pwF S (2 * n)) S) S p
    rw [cmpF_assoc]
    exact cmpF_congr (fun q hq => pwF_two S n q hq) (fun _ _ => rfl) hp
theorem SVal_pw {S : Nat → ByteArray} (h : SVal S) : ∀ n, SVal (pwF S n)
  | 0 => SVal_nm
  | n + 1 => SVal_cmp (SVal_pw h n) h
theorem pwF_add (S : Nat → ByteArray) (m : Nat) : ∀ n p, p < 9 → pwF S (m + n) p = cmpF (pwF S m) (pwF S n) p
  | 0, p, hp => (cmpF_nm _ hp).symm
  | n + 1, p, hp => by
    show cmpF (pwF S (m + n)) S p = cmpF (pwF S m) (cmpF (pwF S n) S) p
    rw [← cmpF_assoc]
    exact cmpF_congr (fun q hq => pwF_add S m n q hq) (fun _ _ => rfl) hp

/-- tables: the ones behind the others, and without idle moves -/
def behF (f : Nat → ByteArray) (s : ByteArray) : ByteArray := if isP s then srcT f (pidx s) else s
def thenF (f g : Nat → ByteArray) (p : Nat) : ByteArray := behF f (srcT g p)
theorem thenF_cmp (f g : Nat → ByteArray) (p : Nat) : thenF f g p = cmpF (srcT f) (srcT g) p := rfl
theorem thenF_ne (f g : Nat → ByteArray) (p : Nat) : thenF f g p ≠ emp := by
  unfold thenF behF
  split
  · exact srcT_ne _ _
  · exact srcT_ne _ _
theorem srcT_then (f g : Nat → ByteArray) (p : Nat) : srcT (thenF f g) p = cmpF (srcT f) (srcT g) p := by
  unfold srcT
  rw [if_neg (thenF_ne f g p)]
  rfl
def noIdle (t : Nat → ByteArray) (p : Nat) : ByteArray := if t p = nm p then emp else t p
theorem mvT_idle (t : Nat → ByteArray) : mvT (noIdle t) (List.range 9) = lsF (srcT t) 9 := by
  unfold mvT lsF
  have e : (List.range 9).filter (hasT (noIdle t)) = (List.range 9).filter (lsH (srcT t)) := List.filter_congr fun p _ => by
    unfold hasT lsH noIdle srcT
    by_cases h1 : t p = emp
    · have : ¬ t p = nm p := fun e => nm_ne p (e ▸ h1)
      simp [h1]
    · by_cases h2 : t p = nm p
      · simp [h2]
      · simp [h1, h2]
  rw [e]
  refine List.map_congr_left fun p hp => ?_
  have h := (List.mem_filter.1 hp).2
  unfold lsH at h
  have h : srcT t p ≠ nm p := by simpa using h
  unfold noIdle srcT at *
  by_cases h1 : t p = emp
  · rw [if_pos h1] at h; exact absurd rfl h
  · rw [if_neg h1] at h ⊢
    rw [if_neg h]
theorem srcT_M {xs : List Mv} (h : MV xs) {p : Nat} (hp : p < 9) : srcT (tabOf xs) p = srcM xs (nm p) := srcM_nm h hp
theorem srcT_zero (p : Nat) : srcT (fun _ => emp) p = nm p := rfl

/-- what the functions answer -/
def compM (xs ys : List Mv) : List Mv := if mvalid xs && mvalid ys then lsF (cmpM xs ys) 9 else []
def powM (xs : List Mv) (n : Int) : List Mv := if mvalid xs && (decide (0 ≤ n) && decide (n ≤ 60)) then lsF (pwF (fun q => srcM xs (nm q)) n.toNat) 9 else []
theorem compM_tab {xs ys : List Mv} (h1 : MV xs) (h2 : MV ys) : mvT (noIdle (thenF (tabOf xs) (tabOf ys))) (List.range 9) = compM xs ys := by
  have m1 : mvalid xs = true := by simpa [mvalid] using h1
  have m2 : mvalid ys = true := by simpa [mvalid] using h2
  rw [mvT_idle, compM, m1, m2]
  refine lsF_congr fun p hp => ?_
  rw [srcT_then]
  exact cmpF_congr (fun q hq => srcT_M h1 hq) (fun q hq => srcT_M h2 hq) hp
/-- spec's way: the moves behind moves that are as moves once more -/
theorem cmpM_pw (xs : List Mv) (n : Nat) : lsF (cmpM (lsF (pwF (fun q => srcM xs (nm q)) n) 9) xs) 9 = lsF (pwF (fun q => srcM xs (nm q)) (n + 1)) 9 :=
  lsF_congr fun _ hp => cmpF_congr (fun _ hq => lsF_src _ hq) (fun _ _ => rfl) hp
theorem lsF_nm : lsF nm 9 = [] := by
  unfold lsF
  rw [List.filter_eq_nil_iff.2]
  · rfl
  · intro p _; simp [lsH]
/-- the loop's own invariant: what is done, and what is done n times more -/
def PwInv (f : Nat → ByteArray) (N : Nat) (d x : Nat → ByteArray) (n : Nat) : Prop := ∀ p, p < 9 → cmpF (srcT d) (pwF (srcT x) n) p = pwF (srcT f) N p
theorem PwInv_start (f : Nat → ByteArray) (N : Nat) : PwInv f N (fun _ => emp) f N := fun p _ => cmpF_id _ p
theorem PwInv_odd {f d x : Nat → ByteArray} {N n : Nat} (h : PwInv f N d x n) (h1 : n % 2 = 1) : PwInv f N (thenF d x) (thenF x x) (n / 2) := by
  intro p hp
  rw [← h p hp]
  have e : n = 2 * (n / 2) + 1 := by omega
  have e1 : ∀ q, q < 9 → pwF (srcT (thenF x x)) (n / 2) q = pwF (srcT x) (2 * (n / 2)) q := fun q hq => by
    rw [pwF_congr (fun r _ => srcT_then x x r) _ q hq]
    exact pwF_two _ _ q hq
  rw [cmpF_congr (fun q _ => srcT_then d x q) e1 hp, cmpF_assoc]
  refine cmpF_congr (fun _ _ => rfl) (fun q hq => ?_) hp
  rw [pwF_left _ _ q hq, ← e]
theorem PwInv_even {f d x : Nat → ByteArray} {N n : Nat} (h : PwInv f N d x n) (h1 : n % 2 = 0) : PwInv f N d (thenF x x) (n / 2) := by
  intro p hp
  rw [← h p hp]
  have e : n = 2 * (n / 2) := by omega
  refine cmpF_congr (fun _ _ => rfl) (fun q hq => ?_) hp
  rw [pwF_congr (fun r _ => srcT_then x x r) _ q hq, pwF_two _ _ q hq, ← e]
theorem PwInv_end {f d x : Nat → ByteArray} {N : Nat} (h : PwInv f N d x 0) {p : Nat} (hp : p < 9) : srcT d p = pwF (srcT f) N p := by
  rw [← h p hp]; exact (cmpF_nm _ hp).symm
end Go.PM
namespace Go.Proofs.YteadhnpmmpninaaGreat
open Go.RowKit Go.PM

set_option maxRecDepth 100000 in
set_option maxHeartbeats 1000000 in
theorem l1Busy_c (xs : List Mv) (v : Value) (w : World) (hx : RdM w v xs) :
    Calls Tryz.prog 33 #[v] w fun e w' => ∃ v', e = .returned v' ∧ w'.ownsRow w.heap.size 45 2 v' (busyF xs 9).length (mcells (busyF xs 9)) ∧ Below w.heap.size w w' := by
  have HN : Hid (∀ q, q < 9 → (ByteArray.mk #[97, 98, 99, 100, 101, 102, 65, 66, 67]).extract q (q+1) = nm q) := by
    show ∀ q, _
    intro q hq
    match q, hq with
    | 0, _ | 1, _ | 2, _ | 3, _ | 4, _ | 5, _ | 6, _ | 7, _ | 8, _ => decide +kernel
  have HS := Lib.hid (fun W (hW : RdM W v xs) (p : Nat) => l1Source_c xs v (nm p) W hW)
  have HX := Lib.hid (fun W (hW : Below w.heap.size w W) => hx.below hW)
  have hE := World.ownsRow_lit (e := 45) (base := w.heap.size) (size := 2) w #[] 0 (Nat.le_refl _) (Nat.zero_le _) rfl
  go_enter Tryz.func33, Tryz.ntmps33
  go_wp2
  go_loopw [3, 8] (fun o i wr => ∃ (k : Nat), k ≤ 9 ∧ i = .int .i64 k ∧ wr.ownsRow w.heap.size 45 2 o (busyF xs k).length (mcells (busyF xs k)) ∧ Below w.heap.size w wr) (fun _ i _ => 9 - (intOf i).toNat)
  case atStart => exact ⟨0, by omega, rfl, hE, by (repeat' (first | (with_reducible exact Below.refl _ _) | (with_reducible assumption) | (with_reducible refine Below.alloc ?_ ?_ _) | (with_reducible refine Below.drew ?_) | (with_reducible refine Below.setCell ?_ ?_ _) | (with_reducible exact Nat.le_refl _) | omega | ((repeat (first | rewrite [World.size_alloc] | rewrite [World.size_setCell] | rewrite [World.size_drew])); omega) | (simp; omega) | (simp; done)))⟩
  case round =>
    obtain ⟨k, hk, rfl, ho, hb⟩ := hrel
    have hbs := hb.size
    by_cases hlt : k < 9
    · have hex := HN.out k hlt
      have hxr := HX.out wr hb
      have HY := Lib.hid (busyF_yes xs k)
      have HZ := Lib.hid (busyF_no xs k)
      have HH := Lib.hid (show busyH xs k = decide (srcM xs (nm k) ≠ nm k) from rfl)
      have hle := busyF_len xs k
      have hcall := HS.out wr hxr k
      have HC := Lib.hid hcall
      clear hcall
      generalize srcM xs (nm k) = sk at *
      generalize nm k = q at *
      go_wp2_with fail
      refine HC.out.mono ?_
      rintro e w2 ⟨rfl, hb2⟩
      have hb2s := hb2.size
      have ho2 := own_keep ho hb2
      have hbw := hb.trans (hb2.mono hbs)
      have hbws := hbw.size
      have hnw := two_new w2 (.string q) (.string sk) 45
      go_wp2_with (at_builtin; refine app_mv rfl (.tmp 21) (.tmp 25) rfl w.heap.size u3 (busyF xs k) (q, sk) ⟨w2.heap.size, 0, none⟩ 1 (by rfl) (by rfl) ?hown ?hnew ?hlen ?hbase ?_; rotate_left 4; intro v' w3 hown3 hgrow3)
      case hown => exact own_keep ho2 ((Below.refl _ _).alloc (Nat.le_refl _) _)
      try case hnew => exact hnw
      case hlen => omega
      case hbase => simp; omega
      · have h : (!(sk.toList == q.toList)) = true := by assumption
        rw [bne_str] at h
        have hb3 := below_grown hgrow3 (B := w.heap.size) (by simp; omega) (own_block_ge ho)
        go_roundw
        case rel =>
          refine ⟨k + 1, by omega, by go_num, ?_, ?_⟩
          · rw [HY.out (by rw [HH.out]; exact h)]; exact hown3
          · exact Below.trans (by (repeat' (first | (with_reducible exact Below.refl _ _) | (with_reducible assumption) | (with_reducible refine Below.alloc ?_ ?_ _) | (with_reducible refine Below.drew ?_) | (with_reducible refine Below.setCell ?_ ?_ _) | (with_reducible exact Nat.le_refl _) | omega | ((repeat (first | rewrite [World.size_alloc] | rewrite [World.size_setCell] | rewrite [World.size_drew])); omega) | (simp; omega) | (simp; done)))) hb3
        case measure => simp [intOf]; omega
      · have h : (!(sk.toList == q.toList)) = false := by assumption
        rw [bne_str] at h
        go_roundw
        case rel =>
          refine ⟨k + 1, by omega, by go_num, ?_, by (repeat' (first | (with_reducible exact Below.refl _ _) | (with_reducible assumption) | (with_reducible refine Below.alloc ?_ ?_ _) | (with_reducible refine Below.drew ?_) | (with_reducible refine Below.setCell ?_ ?_ _) | (with_reducible exact Nat.le_refl _) | omega | ((repeat (first | rewrite [World.size_alloc] | rewrite [World.size_setCell] | rewrite [World.size_drew])); omega) | (simp; omega) | (simp; done)))⟩
          rw [HZ.out (by rw [HH.out]; exact h)]; exact ho2
        case measure => simp [intOf]; omega
    · have hk9 : k = 9 := by omega
      subst hk9
      go_wp2
      go_ret
      exact ⟨_, rfl, ho, hb⟩

def countI (xs : List Mv) : Int := if mvalid xs then ((busyF xs 9).length : Int) else -1
set_option maxRecDepth 100000 in
theorem imCountBusy_c (xs : List Mv) (v : Value) (w : World) (hx : RdM w v xs) (hn' : xs.length ≤ 1048576) :
    Calls Tryz.prog 14 #[v] w fun e w' => e = .returned (.int .i64 (countI xs)) ∧ Below w.heap.size w w' := by
  rcases Bool.eq_false_or_eq_true (mvalid xs) with h1 | h1
  · have HO : Hid (((dropM xs).length : Int) = countI xs) := by
      show _ = _
      rw [countI, if_pos h1, dropM, if_pos h1, busy_count (by simpa [mvalid] using h1)]
    go_enter Tryz.func14, Tryz.ntmps14
    go_wp2_with fail
    refine (imDropIdle_c xs v _ hx hn').mono ?_
    rintro e w1 ⟨v', he, ho, hb1⟩
    rw [h1] at he
    subst he
    obtain ⟨A, cap, rfl, _⟩ := Rd.of_own ho
    go_wp2
    go_ret
    exact ⟨by rw [← HO.out]; rfl, hb1⟩
  · have HO : Hid (countI xs = -1) := by show _ = _; rw [countI, h1]; rfl
    go_enter Tryz.func14, Tryz.ntmps14
    go_wp2_with fail
    refine (imDropIdle_c xs v _ hx hn').mono ?_
    rintro e w1 ⟨v', he, ho, hb1⟩
    rw [h1] at he
    subst he
    go_wp2
    go_ret
    exact ⟨by rw [HO.out]; rfl, hb1⟩
end Go.Proofs.YteadhnpmmpninaaGreat
namespace Go.PM
open Go.RowKit
def leafH (f : Nat → ByteArray) (p : Nat) : Bool := decide (srcT f p ≠ nm p) && decide (namesW (rdH f (nm p)) = emp)
def leafM (xs : List Mv) (m : Mv) : Bool := decide (namesW (rsH xs m.1) = emp)
def lvB (xs : List Mv) (ms : List Mv) : ByteArray := ⟨((ms.filter (leafM xs)).flatMap fun m => m.1.data.toList).toArray⟩
theorem lvB_yes (xs ms : List Mv) (m : Mv) (h : leafM xs m = true) : lvB xs (ms ++ [m]) = lvB xs ms ++ m.1 := by
  apply ByteArray.ext
  rw [ByteArray.data_append]
  simp [lvB, h]
theorem lvB_no (xs ms : List Mv) (m : Mv) (h : leafM xs m = false) : lvB xs (ms ++ [m]) = lvB xs ms := by
  simp [lvB, h]
def leavesB (xs : List Mv) : ByteArray := namesW (leafH (tabOf xs))
theorem lvB_all {xs : List Mv} (h : MV xs) : lvB xs (busyF xs 9) = leavesB xs := by
  unfold lvB leavesB namesW namesL busyF
  rw [List.filter_map, List.flatMap_map, List.filter_filter]
  have e1 : ((List.range 9).filter fun p => (leafM xs ∘ fun p => (nm p, srcM xs (nm p))) p && busyH xs p) = (List.range 9).filter (leafH (tabOf xs)) := by
    refine List.filter_congr fun p hp => ?_
    have hp9 : p < 9 := by simpa using hp
    show (leafM xs (nm p, srcM xs (nm p)) && busyH xs p) = leafH (tabOf xs) p
    unfold leafM leafH busyH
    rw [rsH_rdH h, srcM_nm h hp9, Bool.and_comm]
  rw [e1]
  have e2 : ∀ l : List Nat, (l.flatMap fun a => (nm a, srcM xs (nm a)).1.data.toList) = l.map (placesL.getD · 0) := by
    intro l
    induction l with
    | nil => rfl
    | cons a l ih => rw [List.flatMap_cons, ih]; rfl
  rw [e2]
theorem emp_iff (s : ByteArray) : s.toList.isEmpty = decide (s = emp) := by
  rw [ByteArray.toList_eq]
  by_cases h : s = emp
  · subst h; simp
  · cases hl : s.data.toList with
    | nil => exact absurd (Go.WideShapes.bytes_inj (by rw [hl])) h
    | cons a l => simp [h]
theorem busyF_one (xs : List Mv) (k : Nat) (hk : k < (busyF xs 9).length) : (busyF xs 9)[k].1.size = 1 := by
  have := List.getElem_mem hk
  unfold busyF at this
  obtain ⟨p, _, e⟩ := List.mem_map.1 this
  have : (busyF xs 9)[k].1 = nm p := by
    have : (busyF xs 9)[k] = (nm p, srcM xs (nm p)) := e.symm
    rw [this]
  rw [this]; rfl
end Go.PM
namespace Go.Proofs.YteadhnpmmpninaaGreat
open Go.RowKit Go.PM

end Go.Proofs.YteadhnpmmpninaaGreat
namespace Go.PM
open Go.RowKit
theorem namesW_emp {h : Nat → Bool} : namesW h = emp ↔ ∀ p, p < 9 → h p = false := by
  have e : namesW h = emp ↔ (List.range 9).filter h = [] := by
    constructor
    · intro e
      have := congrArg (fun s => s.data.toList.length) e
      simp only [namesW, namesL, List.length_map] at this
      exact List.length_eq_zero_iff.1 this
    · intro e
      rw [namesW, namesL, e]; rfl
  rw [e, List.filter_eq_nil_iff]
  constructor
  · intro g p hp; simpa using g p (by simpa using hp)
  · intro g p hp; simpa using g p (by simpa using hp)
theorem namesW_one {p0 : Nat} (h0 : p0 < 9) : namesW (fun p => decide (p = p0)) = nm p0 := by
  match p0, h0 with
  | 0, _ | 1, _ | 2, _ | 3, _ | 4, _ | 5, _ | 6, _ | 7, _ | 8, _ => decide +kernel
/-- each place is the source of one -/
def Exch (S : Nat → ByteArray) : Prop := ∀ q, q < 9 → ∃ p, p < 9 ∧ S p = nm q
theorem leaf_exch (f : Nat → ByteArray) : namesW (leafH f) = emp ↔ Exch (srcT f) := by
  rw [namesW_emp]
  constructor
  · intro h q hq
    have h1 := h q hq
    unfold leafH at h1
    by_cases h2 : srcT f q = nm q
    · exact ⟨q, hq, h2⟩
    · have h3 : ¬ namesW (rdH f (nm q)) = emp := by simpa [h2] using h1
      rw [namesW_emp] at h3
      obtain ⟨p, h4⟩ := Classical.not_forall.1 h3
      obtain ⟨hp, h5⟩ := Classical.not_imp.1 h4
      have h6 : rdH f (nm q) p = true := by simpa using h5
      unfold rdH at h6
      rw [Bool.and_eq_true] at h6
      exact ⟨p, hp, by simpa using h6.2⟩
  · intro h q hq
    obtain ⟨p, hp, e⟩ := h q hq
    unfold leafH
    by_cases h2 : srcT f q = nm q
    · simp [h2]
    · have hne : nm p ≠ nm q := fun e2 => by
        have := nm_inj hp hq e2
        subst this; exact h2 e
      have : namesW (rdH f (nm q)) ≠ emp := fun h3 => by
        have := namesW_emp.1 h3 p hp
        unfold rdH at this
        simp [hne, e] at this
      simp [this]
theorem Exch.congr {S T : Nat → ByteArray} (h : ∀ p, p < 9 → S p = T p) (e : Exch S) : Exch T := fun q hq => by
  obtain ⟨p, hp, e1⟩ := e q hq
  exact ⟨p, hp, (h p hp).symm.trans e1⟩
theorem exch_drop {S : Nat → ByteArray} {p' : Nat} (hp' : p' < 9) (h : ∀ q, q < 9 → ∃ p, p < 9 ∧ p ≠ p' ∧ S p = nm q) : False := by
  have n1 : ((List.range 9).map nm).Nodup := by decide +kernel
  have h1 := nodup_le ((List.range 9).map nm) (((List.range 9).erase p').map S) n1 (fun a ha => by
    obtain ⟨q, hq, rfl⟩ := List.mem_map.1 ha
    obtain ⟨p, hp, hne, e⟩ := h q (by simpa using hq)
    exact List.mem_map.2 ⟨p, (List.mem_erase_of_ne hne).2 (by simpa using hp), e⟩)
  have h2 := List.length_erase_of_mem (show p' ∈ List.range 9 by simpa using hp')
  simp only [List.length_map, List.length_range] at h1 h2
  omega
theorem Exch.inj {S : Nat → ByteArray} (h : Exch S) {p p' : Nat} (hp : p < 9) (hp' : p' < 9) (e : S p = S p') : p = p' := by
  rcases Nat.decEq p p' with hne | he
  · exfalso
    refine exch_drop (S := S) hp' fun q hq => ?_
    obtain ⟨r, hr, e1⟩ := h q hq
    by_cases h1 : r = p'
    · subst h1; exact ⟨p, hp, hne, e.trans e1⟩
    · exact ⟨r, hr, h1, e1⟩
  · exact he
theorem Exch.place {S : Nat → ByteArray} (h : Exch S) {p : Nat} (hp : p < 9) : isP (S p) = true := by
  rcases Bool.eq_false_or_eq_true (isP (S p)) with h1 | h1
  · exact h1
  · exfalso
    refine exch_drop (S := S) hp fun q hq => ?_
    obtain ⟨r, hr, e1⟩ := h q hq
    refine ⟨r, hr, fun e => ?_, e1⟩
    subst e
    rw [e1, isP_nm hq] at h1
    cases h1
/-- the place that has q as its source -/
def invI (S : Nat → ByteArray) (q : Nat) : Nat := ((List.range 9).find? fun p => decide (S p = nm q)).getD 0
def invF (S : Nat → ByteArray) (q : Nat) : ByteArray := nm (invI S q)
theorem Exch.inv {S : Nat → ByteArray} (h : Exch S) {q : Nat} (hq : q < 9) : invI S q < 9 ∧ S (invI S q) = nm q := by
  obtain ⟨p, hp, e⟩ := h q hq
  unfold invI
  cases hf : (List.range 9).find? (fun p => decide (S p = nm q)) with
  | none => exact absurd (List.find?_eq_none.1 hf p (by simpa using hp)) (by simp [e])
  | some r =>
    have h1 := List.find?_some hf
    have h2 := List.mem_of_find?_eq_some hf
    exact ⟨by simpa using h2, by simpa using h1⟩
theorem Exch.inv_iff {S : Nat → ByteArray} (h : Exch S) {q p : Nat} (hq : q < 9) (hp : p < 9) : S p = nm q ↔ p = invI S q := by
  have h1 := h.inv hq
  exact ⟨fun e => h.inj hp h1.1 (e.trans h1.2.symm), fun e => by rw [e]; exact h1.2⟩
theorem invI_congr {S T : Nat → ByteArray} (h : ∀ p, p < 9 → S p = T p) (q : Nat) : invI S q = invI T q := by
  have key : ∀ l : List Nat, (∀ p ∈ l, p < 9) → l.find? (fun p => decide (S p = nm q)) = l.find? (fun p => decide (T p = nm q)) := by
    intro l
    induction l with
    | nil => intro _; rfl
    | cons a l ih =>
      intro hl
      rw [List.find?_cons, List.find?_cons, h a (hl a (by simp)), ih (fun p hp => hl p (by simp [hp]))]
  unfold invI
  rw [key _ (fun p hp => by simpa using hp)]

/-- impl's table of what gives all back, of the first k places -/
def bkF (f : Nat → ByteArray) : Nat → Nat → ByteArray
  | 0 => fun _ => emp
  | k + 1 => upd (bkF f k) (pidx (srcT f k)) (nm k)
theorem bkF_at {f : Nat → ByteArray} (h : Exch (srcT f)) : ∀ k, k ≤ 9 → ∀ p, p < k → bkF f k (pidx (srcT f p)) = nm p := by
  intro k
  induction k with
  | zero => intro _ p hp; omega
  | succ k ih =>
    intro hk p hp
    show upd (bkF f k) (pidx (srcT f k)) (nm k) (pidx (srcT f p)) = nm p
    unfold upd
    by_cases e : pidx (srcT f p) = pidx (srcT f k)
    · rw [if_pos e]
      have h1 := pidx_spec (h.place (p := p) (by omega))
      have h2 := pidx_spec (h.place (p := k) (by omega))
      have : srcT f p = srcT f k := by rw [← h1.2, ← h2.2, e]
      rw [h.inj (by omega) (by omega) this]
    · rw [if_neg e]
      rcases Nat.lt_or_ge p k with h1 | h1
      · exact ih (by omega) p h1
      · have : p = k := by omega
        subst this; exact absurd rfl e
theorem bkF_inv {f : Nat → ByteArray} (h : Exch (srcT f)) {q : Nat} (hq : q < 9) : srcT (bkF f 9) q = invF (srcT f) q := by
  have h1 := h.inv hq
  have h2 := bkF_at h 9 (Nat.le_refl _) _ h1.1
  rw [h1.2, pidx_nm hq] at h2
  show (if bkF f 9 q = emp then nm q else bkF f 9 q) = _
  rw [h2, if_neg (nm_ne _)]; rfl
/-- spec's list of readers, of the first k places -/
def unH (xs : List Mv) (q : Nat) : Bool := decide (namesW (rsH xs (nm q)) ≠ emp)
def unL (xs : List Mv) (k : Nat) : List Mv := ((List.range k).filter (unH xs)).map fun q => (nm q, namesW (rsH xs (nm q)))
theorem unL_yes (xs : List Mv) (k : Nat) (h : unH xs k = true) : unL xs (k + 1) = unL xs k ++ [(nm k, namesW (rsH xs (nm k)))] := by
  simp [unL, List.range_succ, h]
theorem unL_no (xs : List Mv) (k : Nat) (h : unH xs k = false) : unL xs (k + 1) = unL xs k := by
  simp [unL, List.range_succ, h]
theorem unL_len (xs : List Mv) (k : Nat) : (unL xs k).length ≤ k := by
  unfold unL
  rw [List.length_map]
  have := List.length_filter_le (unH xs) (List.range k)
  simpa using this
theorem rs_inv {xs : List Mv} (h : Exch fun p => srcM xs (nm p)) {q : Nat} (hq : q < 9) :
    namesW (rsH xs (nm q)) = if invI (fun p => srcM xs (nm p)) q = q then emp else invF (fun p => srcM xs (nm p)) q := by
  have h1 := h.inv hq
  have e : ∀ p, p < 9 → rsH xs (nm q) p = (decide (p ≠ q) && decide (p = invI (fun p => srcM xs (nm p)) q)) := fun p hp => by
    unfold rsH
    congr 1
    · exact decide_eq_decide.2 ⟨fun hne e => hne (by rw [e]), fun hne e => hne (nm_inj hp hq e)⟩
    · exact decide_eq_decide.2 (h.inv_iff hq hp)
  rw [namesW_congr e]
  by_cases h2 : invI (fun p => srcM xs (nm p)) q = q
  · rw [if_pos h2, h2]
    refine namesW_emp.2 fun p _ => ?_
    by_cases h3 : p = q <;> simp [h3]
  · rw [if_neg h2]
    refine (namesW_congr (g := fun p => decide (p = invI (fun p => srcM xs (nm p)) q)) fun p _ => ?_).trans (namesW_one h1.1)
    by_cases h3 : p = invI (fun p => srcM xs (nm p)) q
    · rw [h3]; simp [h2]
    · simp [h3]
theorem unL_inv {xs : List Mv} (h : Exch fun p => srcM xs (nm p)) : unL xs 9 = lsF (invF fun p => srcM xs (nm p)) 9 := by
  have e : (List.range 9).filter (unH xs) = (List.range 9).filter (lsH (invF fun p => srcM xs (nm p))) := List.filter_congr fun q hq => by
    have hq : q < 9 := by simpa using hq
    unfold unH lsH
    rw [rs_inv h hq]
    by_cases h2 : invI (fun p => srcM xs (nm p)) q = q
    · rw [if_pos h2]; unfold invF; rw [h2]; simp
    · rw [if_neg h2]
      have h3 : invF (fun p => srcM xs (nm p)) q ≠ nm q := fun e => h2 (nm_inj (h.inv hq).1 hq e)
      have h4 : invF (fun p => srcM xs (nm p)) q ≠ emp := nm_ne _
      simp [h3, h4]
  unfold unL lsF
  rw [e]
  refine List.map_congr_left fun q hq => ?_
  obtain ⟨h1, h2⟩ := List.mem_filter.1 hq
  have hq : q < 9 := by simpa using h1
  unfold lsH at h2
  have h2 : invF (fun p => srcM xs (nm p)) q ≠ nm q := by simpa using h2
  rw [rs_inv h hq, if_neg]
  intro e
  exact h2 (by unfold invF; rw [e])
/-- what the functions answer -/
def exchB (xs : List Mv) : Bool := mvalid xs && decide (leavesB xs = emp)
theorem exchB_iff {xs : List Mv} : exchB xs = true ↔ MV xs ∧ Exch (srcT (tabOf xs)) := by
  unfold exchB leavesB
  rw [Bool.and_eq_true, decide_eq_true_eq, leaf_exch]
  simp [mvalid]
theorem exchB_M {xs : List Mv} (h : exchB xs = true) : Exch fun p => srcM xs (nm p) := by
  obtain ⟨h1, h2⟩ := exchB_iff.1 h
  exact h2.congr fun p hp => srcT_M h1 hp
def undoM (xs : List Mv) : List Mv := if exchB xs then lsF (invF fun p => srcM xs (nm p)) 9 else []
theorem undoM_tab {xs : List Mv} (h : exchB xs = true) : mvT (noIdle (bkF (tabOf xs) 9)) (List.range 9) = undoM xs := by
  obtain ⟨h1, h2⟩ := exchB_iff.1 h
  rw [undoM, if_pos h, mvT_idle]
  refine lsF_congr fun q hq => ?_
  rw [bkF_inv h2 hq, invF, invF, invI_congr (fun p hp => srcT_M h1 hp)]
def lostH (xs : List Mv) (p : Nat) : Bool := decide (srcM xs (nm p) ≠ nm p) && decide (namesW (rsH xs (nm p)) = emp)
theorem lost_leaf {xs : List Mv} (h : MV xs) : namesW (lostH xs) = leavesB xs := by
  refine namesW_congr fun p hp => ?_
  unfold lostH leafH
  rw [rsH_rdH h, srcM_nm h hp]
end Go.PM
namespace Go.PO
open Go.PM Go.RowKit Go.PW
section
variable {f : Nat → ByteArray} {s : Nat}
theorem wb_some (hf : SV f) (hs : s < 19) {i : Nat} (hi : i + 1 < (way (nxT f) s).length) : (way (nxT f) s)[i] < 9 ∧ sx f (way (nxT f) s)[i] = (way (nxT f) s)[i + 1] := by
  have hr := way_rho (nice hf) hs
  obtain ⟨a, t, e1, e2, e3⟩ := hr.step (j := i) hi
  rw [hr.some_ (j := i) (by omega)] at e1
  rw [hr.some_ (j := i + 1) hi] at e3
  obtain rfl := Option.some.inj e1
  obtain rfl := Option.some.inj e3
  have h9 := (nice hf).low _ _ e2
  refine ⟨h9, ?_⟩
  by_cases e : sx f (way (nxT f) s)[i] = (way (nxT f) s)[i]
  · rw [nxT_stay h9 e] at e2; cases e2
  · rw [nxT_some h9 e] at e2; exact Option.some.inj e2
theorem wb_zero (hf : SV f) (hs : s < 19) (h0 : 0 < (way (nxT f) s).length) : (way (nxT f) s)[0] = s := by
  have hr := way_rho (nice hf) hs
  have := hr.some_ h0
  exact (Option.some.inj this).symm
end
section
variable {nx : Nat → Option Nat}
theorem ringsF_in (hn : Nice nx) {q : Nat} (hq : q < 9) (hr : onRb nx q = true) : ∀ k, q < k → q ∈ (ringsF nx k).flatten := by
  intro k
  induction k with
  | zero => intro h; omega
  | succ k ih =>
    intro h
    by_cases hc : onRb nx k = true ∧ k ∉ (ringsF nx k).flatten
    · rw [ringsF_yes hc.1 hc.2, List.flatten_append, List.mem_append]
      rcases Nat.lt_or_ge q k with h1 | h1
      · exact .inl (ih h1)
      · right
        have : q = k := by omega
        subst this
        obtain ⟨l, hl⟩ := way_first nx q hn (by omega)
        simp [hl]
    · rw [ringsF_no hc]
      rcases Nat.lt_or_ge q k with h1 | h1
      · exact ih h1
      · have : q = k := by omega
        subst this
        exact Classical.not_not.1 fun hm => hc ⟨hr, hm⟩
theorem ringsF_mem2 : ∀ k, ∀ l ∈ ringsF nx k, ∃ s, s < k ∧ l = way nx s ∧ onRb nx s = true ∧ s ∉ (ringsF nx s).flatten := by
  intro k
  induction k with
  | zero => intro l h; simp [ringsF] at h
  | succ k ih =>
    intro l h
    by_cases hc : onRb nx k = true ∧ k ∉ (ringsF nx k).flatten
    · rw [ringsF_yes hc.1 hc.2, List.mem_append] at h
      rcases h with h | h
      · obtain ⟨s, h1, h2⟩ := ih l h; exact ⟨s, by omega, h2⟩
      · simp at h; exact ⟨k, by omega, h, hc⟩
    · rw [ringsF_no hc] at h
      obtain ⟨s, h1, h2⟩ := ih l h; exact ⟨s, by omega, h2⟩
theorem ring_next (hn : Nice nx) {s : Nat} (hs : s < 19) (hr : onRb nx s = true) {x y : Nat} (hx : x ∈ way nx s) (h : nx x = some y) : y ∈ way nx s := by
  have ho := way_rho hn hs
  have e := ho.onR.1 ((onRb_iff hn hs).1 hr)
  obtain ⟨j, hj⟩ := List.getElem?_of_mem hx
  have hjl := (List.getElem?_eq_some_iff.1 hj).1
  rw [ho.at_ j hjl] at hj
  have h2 : orb nx s (j + 1) = some y := by simp only [orb, hj, Option.bind_some]; exact h
  by_cases hl : j + 1 < (way nx s).length
  · rw [ho.some_ hl] at h2
    rw [← Option.some.inj h2]; exact List.getElem_mem hl
  · rw [show j + 1 = (way nx s).length by omega, e] at h2
    obtain rfl := Option.some.inj h2
    exact List.mem_of_getElem? (ho.at_ 0 ho.pos)
theorem ring_orb (hn : Nice nx) {s : Nat} (hs : s < 19) (hr : onRb nx s = true) {x : Nat} (hx : x ∈ way nx s) : ∀ k y, orb nx x k = some y → y ∈ way nx s := by
  intro k
  induction k with
  | zero => intro y h; simp only [orb, Option.some.injEq] at h; rw [← h]; exact hx
  | succ k ih =>
    intro y h
    simp only [orb, Option.bind_eq_some_iff] at h
    obtain ⟨z, h1, h2⟩ := h
    exact ring_next hn hs hr (ih z h1) h2
theorem ring_back (hn : Nice nx) {s : Nat} (hs : s < 19) (hr : onRb nx s = true) {x : Nat} (hx : x ∈ way nx s) : ∃ k, orb nx x k = some s := by
  have ho := way_rho hn hs
  have e := ho.onR.1 ((onRb_iff hn hs).1 hr)
  obtain ⟨j, hj⟩ := List.getElem?_of_mem hx
  have hjl := (List.getElem?_eq_some_iff.1 hj).1
  rw [ho.at_ j hjl] at hj
  refine ⟨(way nx s).length - j, ?_⟩
  have := orb_add (nx := nx) s j ((way nx s).length - j)
  rw [show j + ((way nx s).length - j) = (way nx s).length by omega, e, hj] at this
  exact this.symm

/-- rings have no place in common -/
theorem ringsF_nodup (hn : Nice nx) : ∀ k, k ≤ 9 → (ringsF nx k).flatten.Nodup := by
  intro k
  induction k with
  | zero => intro _; simp [ringsF]
  | succ k ih =>
    intro hk
    by_cases hc : onRb nx k = true ∧ k ∉ (ringsF nx k).flatten
    · rw [ringsF_yes hc.1 hc.2, List.flatten_append, List.nodup_append]
      have hr := way_rho hn (show k < 19 by omega)
      refine ⟨ih (by omega), by simpa using hr.nodup, fun a ha b hb e => ?_⟩
      subst e
      have hb : a ∈ way nx k := by simpa using hb
      obtain ⟨l, hl, hal⟩ := List.mem_flatten.1 ha
      obtain ⟨s', hs', rfl, hr', _⟩ := ringsF_mem2 k l hl
      obtain ⟨m, hm⟩ := ring_back hn (show k < 19 by omega) hc.1 hb
      have := ring_orb hn (show s' < 19 by omega) hr' hal m k hm
      exact hc.2 (List.mem_flatten.2 ⟨_, hl, this⟩)
    · rw [ringsF_no hc]; exact ih (by omega)
structure RingQ (f : Nat → ByteArray) (r : List Nat) : Prop where
  two : 2 ≤ r.length
  low : ∀ i (h : i < r.length), r[i] < 9
  next : ∀ i (h : i < r.length), sx f r[i] = r[(i + 1) % r.length]'(Nat.mod_lt _ (by omega))
  nodup : r.Nodup
theorem ringQ (f : Nat → ByteArray) (hf : SV f) {r : List Nat} (h : r ∈ ringsF (nxT f) 9) : RingQ f r := by
  obtain ⟨s, hs, rfl, hr, hfr⟩ := ringsF_mem2 9 r h
  have hn := nice hf
  have hs19 : s < 19 := by omega
  have ho := way_rho hn hs19
  obtain ⟨i0, h1, h2, h3⟩ := ring_last hf hs19
  obtain ⟨h4, h5, h6⟩ := h3.1 hr
  have hall := ring_all hn hs19 ((onRb_iff hn hs19).1 hr)
  have h0 := wb_zero hf hs19 ho.pos
  refine ⟨h4, fun i hi => ring_low hn (hall _ (List.getElem_mem hi)), fun i hi => ?_, ho.nodup⟩
  by_cases hl : i + 1 < (way (nxT f) s).length
  · rw [(wb_some hf hs19 hl).2]
    congr 1
    exact (Nat.mod_eq_of_lt hl).symm
  · have he : i + 1 = (way (nxT f) s).length := by omega
    have h7 : (way (nxT f) s)[i] = i0 := by
      rw [show (way (nxT f) s).length - 1 = i by omega, List.getElem?_eq_getElem hi] at h1
      exact Option.some.inj h1
    rw [h7, h6]
    have h8 : (i + 1) % (way (nxT f) s).length = 0 := by rw [he, Nat.mod_self]
    simp only [h8]
    exact h0.symm
theorem ring_pow {f : Nat → ByteArray} (hf : SV f) {r : List Nat} (h : RingQ f r) : ∀ n i (hi : i < r.length), pwF (srcT f) n r[i] = nm (r[(i + n) % r.length]'(Nat.mod_lt _ (by omega)))
  | 0, i, hi => by
    show nm r[i] = _
    congr 2
    exact (Nat.mod_eq_of_lt hi).symm
  | n + 1, i, hi => by
    have hp := h.low i hi
    have hm : (i + n) % r.length < r.length := Nat.mod_lt _ (by omega)
    have hq := h.low _ hm
    rw [← pwF_left _ _ _ hp]
    unfold cmpF
    rw [ring_pow hf h n i hi, if_pos (isP_nm hq), pidx_nm hq, ← (sx_lt hf hq).2, h.next _ hm]
    have e : ((i + n) % r.length + 1) % r.length = (i + (n + 1)) % r.length := by rw [Nat.mod_add_mod, Nat.add_assoc]
    simp only [e]
    exact sn_nm _ (h.low _ (Nat.mod_lt _ (by omega)))
theorem ring_dvd {f : Nat → ByteArray} (hf : SV f) {r : List Nat} (h : RingQ f r) (n i : Nat) (hi : i < r.length) : pwF (srcT f) n r[i] = nm r[i] ↔ r.length ∣ n := by
  rw [ring_pow hf h n i hi]
  have hm : (i + n) % r.length < r.length := Nat.mod_lt _ (by omega)
  have e1 : nm (r[(i + n) % r.length]'hm) = nm r[i] ↔ (i + n) % r.length = i := by
    constructor
    · intro e
      exact (List.getElem_inj h.nodup).1 (nm_inj (h.low _ hm) (h.low i hi) e)
    · intro e; simp only [e]
  rw [e1]
  constructor
  · intro e
    have h1 := Nat.div_add_mod (i + n) r.length
    rw [e] at h1
    exact ⟨(i + n) / r.length, by omega⟩
  · rintro ⟨k, rfl⟩
    rw [Nat.add_mul_mod_self_left, Nat.mod_eq_of_lt hi]
theorem stay_pow {S : Nat → ByteArray} {p : Nat} (hp : p < 9) (h : S p = nm p) : ∀ n, pwF S n p = nm p
  | 0 => rfl
  | n + 1 => by
    show cmpF (pwF S n) S p = nm p
    unfold cmpF
    rw [h, if_pos (isP_nm hp), pidx_nm hp, stay_pow hp h n]
/-- in an exchange each place that changes is on a ring -/
theorem exch_ring {f : Nat → ByteArray} (hf : SV f) (he : Exch (srcT f)) {p : Nat} (hp : p < 9) (h : srcT f p ≠ nm p) : onRb (nxT f) p = true := by
  have hn := nice hf
  have hs : p < 19 := by omega
  rw [onRb_iff hn hs]
  have ho := way_rho hn hs
  rw [ho.onR]
  have hlow : ∀ i, i < 9 → sx f i < 9 := fun i hi => by
    have h1 := he.place hi
    have h2 := isP_sidx (s := srcT f i) (by unfold isS; rw [h1]; rfl)
    rw [h1] at h2
    exact of_decide_eq_true h2.symm
  have hsrc : ∀ i, i < 9 → srcT f i = nm (sx f i) := fun i hi => by rw [← sn_nm _ (hlow i hi)]; exact (sx_lt hf hi).2.symm
  have hinj : ∀ i j, i < 9 → j < 9 → sx f i = sx f j → i = j := fun i j hi hj e => he.inj hi hj (by rw [hsrc i hi, hsrc j hj, e])
  have hgo : ∀ k, ∃ i, orb (nxT f) p k = some i ∧ i < 9 ∧ sx f i ≠ i := by
    intro k
    induction k with
    | zero => exact ⟨p, rfl, hp, fun e => h (by rw [hsrc p hp, e])⟩
    | succ k ih =>
      obtain ⟨i, h1, h2, h3⟩ := ih
      refine ⟨sx f i, ?_, hlow i h2, fun e => h3 (hinj _ _ (hlow i h2) h2 e)⟩
      simp only [orb, h1, Option.bind_some]
      exact nxT_some h2 h3
  rcases ho.last with h1 | ⟨mu, hmu, h1⟩
  · obtain ⟨i, h2, _⟩ := hgo (way (nxT f) p).length
    rw [h1] at h2; cases h2
  · rcases Nat.eq_zero_or_pos mu with h0 | h0
    · rw [h1, h0]; rfl
    · exfalso
      obtain ⟨m, rfl⟩ : ∃ m, mu = m + 1 := ⟨mu - 1, by omega⟩
      obtain ⟨n, hn2⟩ : ∃ n, (way (nxT f) p).length = n + 1 := ⟨(way (nxT f) p).length - 1, by omega⟩
      rw [hn2] at h1
      obtain ⟨i, e1, e2, e3⟩ := hgo m
      obtain ⟨j, e4, e5, e6⟩ := hgo n
      simp only [orb, e1, e4, Option.bind_some] at h1
      rw [nxT_some e2 e3, nxT_some e5 e6] at h1
      have := hinj _ _ e5 e2 (Option.some.inj h1)
      have := ho.inj (i := m) (j := n) (by omega) (by omega) (by rw [e1, e4, this])
      omega
def lcmL (l : List Nat) : Nat := l.foldl Nat.lcm 1
theorem lcm_fold_dvd : ∀ (l : List Nat) (a n : Nat), l.foldl Nat.lcm a ∣ n ↔ a ∣ n ∧ ∀ b ∈ l, b ∣ n
  | [], a, n => by simp
  | b :: l, a, n => by
    rw [List.foldl_cons, lcm_fold_dvd l]
    constructor
    · rintro ⟨h1, h2⟩
      refine ⟨Nat.dvd_trans (Nat.dvd_lcm_left a b) h1, fun c hc => ?_⟩
      rw [List.mem_cons] at hc
      rcases hc with rfl | hc
      · exact Nat.dvd_trans (Nat.dvd_lcm_right a c) h1
      · exact h2 c hc
    · rintro ⟨h1, h2⟩
      exact ⟨Nat.lcm_dvd h1 (h2 b (by simp)), fun c hc => h2 c (by simp [hc])⟩
theorem lcmL_dvd (l : List Nat) (n : Nat) : lcmL l ∣ n ↔ ∀ b ∈ l, b ∣ n := by
  unfold lcmL
  rw [lcm_fold_dvd]
  simp
theorem lcm1 : ∀ a, a < 10 → lcmL [a] ≤ 20 := by decide +kernel
theorem lcm2 : ∀ a, a < 10 → ∀ b, b < 10 → a + b ≤ 9 → lcmL [a, b] ≤ 20 := by decide +kernel
theorem lcm3 : ∀ a, a < 8 → ∀ b, b < 8 → ∀ c, c < 8 → a + b + c ≤ 9 → lcmL [a, b, c] ≤ 20 := by decide +kernel
theorem lcm4 : ∀ a, a < 4 → ∀ b, b < 4 → ∀ c, c < 4 → ∀ d, d < 4 → a + b + c + d ≤ 9 → lcmL [a, b, c, d] ≤ 20 := by decide +kernel
theorem lcmL_le (l : List Nat) (h2 : ∀ a ∈ l, 2 ≤ a) (hs : l.sum ≤ 9) : lcmL l ≤ 20 := by
  match l, h2, hs with
  | [], _, _ => decide
  | [a], _, hs => simp at hs; exact lcm1 a (by omega)
  | [a, b], _, hs => simp at hs; exact lcm2 a (by omega) b (by omega) (by omega)
  | [a, b, c], h2, hs =>
    simp at hs h2
    exact lcm3 a (by omega) b (by omega) c (by omega) (by omega)
  | [a, b, c, d], h2, hs =>
    simp at hs h2
    exact lcm4 a (by omega) b (by omega) c (by omega) d (by omega) (by omega)
  | a :: b :: c :: d :: e :: l, h2, hs =>
    simp at hs h2
    omega
theorem lcmL_pos {l : List Nat} (h : ∀ a ∈ l, 0 < a) : 0 < lcmL l := by
  have : ∀ (l : List Nat) (a : Nat), 0 < a → (∀ b ∈ l, 0 < b) → 0 < l.foldl Nat.lcm a := by
    intro l
    induction l with
    | nil => intro a h _; exact h
    | cons b l ih =>
      intro a h1 h2
      exact ih _ (Nat.lcm_pos h1 (h2 b (by simp))) fun c hc => h2 c (by simp [hc])
  exact this l 1 (by decide) h
/-- the least number of times -/
def ordN (f : Nat → ByteArray) : Nat := lcmL ((ringsF (nxT f) 9).map List.length)
theorem flatten_len : ∀ l : List (List Nat), l.flatten.length = (l.map List.length).sum
  | [] => rfl
  | a :: l => by simp [flatten_len l]
theorem rings_sum {f : Nat → ByteArray} (hf : SV f) {l : List (List Nat)} (h : l <+: ringsF (nxT f) 9) : (∀ a ∈ l.map List.length, 2 ≤ a) ∧ (l.map List.length).sum ≤ 9 := by
  constructor
  · intro a ha
    obtain ⟨r, hr, rfl⟩ := List.mem_map.1 ha
    exact (ringQ f hf (h.mem hr)).two
  · have h1 : l.flatten.length ≤ 9 := by
      have h2 := ringsF_nodup (nice hf) 9 (Nat.le_refl _)
      obtain ⟨t, ht⟩ := h
      rw [← ht, List.flatten_append] at h2
      refine nodup_le _ 9 (List.nodup_append.1 h2).1 fun a ha => ?_
      obtain ⟨r, hr, har⟩ := List.mem_flatten.1 ha
      obtain ⟨i, hi⟩ := List.getElem?_of_mem har
      have hil := (List.getElem?_eq_some_iff.1 hi).1
      have := (ringQ f hf (ht ▸ List.mem_append_left t hr)).low i hil
      rw [List.getElem?_eq_getElem hil] at hi
      rw [← Option.some.inj hi]; exact this
    rwa [flatten_len] at h1
theorem ord_pre {f : Nat → ByteArray} (hf : SV f) {l : List (List Nat)} (h : l <+: ringsF (nxT f) 9) : 1 ≤ lcmL (l.map List.length) ∧ lcmL (l.map List.length) ≤ 20 := by
  have h1 := rings_sum hf h
  exact ⟨lcmL_pos fun a ha => by have := h1.1 a ha; omega, lcmL_le _ h1.1 h1.2⟩
theorem ordN_le {f : Nat → ByteArray} (hf : SV f) : 1 ≤ ordN f ∧ ordN f ≤ 20 := ord_pre hf (List.prefix_refl _)
theorem lcmL_snoc (l : List Nat) (a : Nat) : lcmL (l ++ [a]) = Nat.lcm (lcmL l) a := by simp [lcmL]
theorem pow_id_iff {f : Nat → ByteArray} (hf : SV f) (he : Exch (srcT f)) (n : Nat) : (∀ p, p < 9 → pwF (srcT f) n p = nm p) ↔ ordN f ∣ n := by
  have hn := nice hf
  unfold ordN
  rw [lcmL_dvd]
  constructor
  · intro h b hb
    obtain ⟨r, hr, rfl⟩ := List.mem_map.1 hb
    have hq := ringQ f hf hr
    have h0 : 0 < r.length := by have := hq.two; omega
    exact (ring_dvd hf hq n 0 h0).1 (h _ (hq.low 0 h0))
  · intro h p hp
    by_cases hst : srcT f p = nm p
    · exact stay_pow hp hst n
    · have h1 := ringsF_in hn hp (exch_ring hf he hp hst) 9 hp
      obtain ⟨r, hr, hpr⟩ := List.mem_flatten.1 h1
      have hq := ringQ f hf hr
      obtain ⟨i, hi⟩ := List.getElem?_of_mem hpr
      have hil := (List.getElem?_eq_some_iff.1 hi).1
      rw [List.getElem?_eq_getElem hil] at hi
      have e := Option.some.inj hi
      have := (ring_dvd hf hq n i hil).2 (h _ (List.mem_map.2 ⟨r, hr, rfl⟩))
      rwa [e] at this
theorem lsF_emp {S : Nat → ByteArray} : lsF S 9 = [] ↔ ∀ p, p < 9 → S p = nm p := by
  unfold lsF
  rw [List.map_eq_nil_iff, List.filter_eq_nil_iff]
  constructor
  · intro h p hp
    have := h p (by simpa using hp)
    simpa [lsH] using this
  · intro h p hp
    have := h p (by simpa using hp)
    simp [lsH, this]
def ordI (xs : List Mv) : Int := if exchB xs then (ordN (tabOf xs) : Int) else -1
theorem ord_list {xs : List Mv} (h : exchB xs = true) (n : Nat) : lsF (pwF (fun q => srcM xs (nm q)) n) 9 = [] ↔ ordN (tabOf xs) ∣ n := by
  obtain ⟨h1, h2⟩ := exchB_iff.1 h
  rw [← pow_id_iff (SV_tab h1) h2, lsF_emp]
  constructor
  · intro g p hp; rw [pwF_congr (fun q hq => srcT_M h1 hq) n p hp]; exact g p hp
  · intro g p hp; rw [← pwF_congr (fun q hq => srcT_M h1 hq) n p hp]; exact g p hp
end
end Go.PO
namespace Go.PS
open Go.PM Go.RowKit Go.PW

/-- two numbers change places -/
def tr (p q x : Nat) : Nat := if x = p then q else if x = q then p else x
def swp (g : Nat → Nat) (p q : Nat) : Nat → Nat := fun x => g (tr p q x)
theorem tr_tr (p q x : Nat) : tr p q (tr p q x) = x := by
  unfold tr
  by_cases h1 : x = p
  · subst h1
    by_cases h2 : q = x
    · subst h2; simp
    · simp [h2]
  · by_cases h2 : x = q
    · subst h2; simp [h1]
    · simp [h1, h2]
theorem tr_lt {p q x : Nat} (hp : p < 9) (hq : q < 9) (hx : x < 9) : tr p q x < 9 := by
  unfold tr; split
  · exact hq
  · split
    · exact hp
    · exact hx
theorem tr_left (p q : Nat) : tr p q p = q := by unfold tr; rw [if_pos rfl]
theorem tr_right (p q : Nat) : tr p q q = p := by
  unfold tr; split
  · next h => exact h
  · rw [if_pos rfl]
theorem tr_ne {p q x : Nat} (h1 : x ≠ p) (h2 : x ≠ q) : tr p q x = x := by unfold tr; rw [if_neg h1, if_neg h2]
theorem tr_comm (p q x : Nat) : tr p q x = tr q p x := by
  unfold tr
  by_cases h1 : x = p
  · by_cases h2 : x = q
    · rw [if_pos h1, if_pos h2, ← h1, ← h2]
    · rw [if_pos h1, if_neg h2, if_pos h1]
  · by_cases h2 : x = q
    · rw [if_neg h1, if_pos h2, if_pos h2]
    · rw [if_neg h1, if_neg h2, if_neg h2, if_neg h1]
theorem swp_comm (g : Nat → Nat) (p q : Nat) : swp g p q = swp g q p := by funext x; unfold swp; rw [tr_comm]
/-- a permutation of the places -/
structure Prm (g : Nat → Nat) : Prop where
  lt : ∀ q, q < 9 → g q < 9
  inj : ∀ q r, q < 9 → r < 9 → g q = g r → q = r
  sur : ∀ p, p < 9 → ∃ q, q < 9 ∧ g q = p
theorem Prm.swp {g : Nat → Nat} (h : Prm g) {p q : Nat} (hp : p < 9) (hq : q < 9) : Prm (swp g p q) := by
  refine ⟨fun x hx => h.lt _ (tr_lt hp hq hx), fun x y hx hy e => ?_, fun x hx => ?_⟩
  · have := h.inj _ _ (tr_lt hp hq hx) (tr_lt hp hq hy) e
    rw [← tr_tr p q x, this, tr_tr]
  · obtain ⟨y, hy, e⟩ := h.sur x hx
    exact ⟨tr p q y, tr_lt hp hq hy, by unfold PS.swp; rw [tr_tr]; exact e⟩
/-- the place that has what a place is to get -/
def hold (g : Nat → Nat) (p : Nat) : Nat := ((List.range 9).find? fun q => decide (g q = p)).getD 0
theorem Prm.hold {g : Nat → Nat} (h : Prm g) {p : Nat} (hp : p < 9) : hold g p < 9 ∧ g (hold g p) = p := by
  obtain ⟨q, hq, e⟩ := h.sur p hp
  unfold PS.hold
  cases hf : (List.range 9).find? (fun q => decide (g q = p)) with
  | none => exact absurd (List.find?_eq_none.1 hf q (by simpa using hq)) (by simp [e])
  | some r =>
    have h1 := List.find?_some hf
    have h2 := List.mem_of_find?_eq_some hf
    exact ⟨by simpa using h2, by simpa using h1⟩
theorem Prm.hold_iff {g : Nat → Nat} (h : Prm g) {p q : Nat} (hp : p < 9) (hq : q < 9) : g q = p ↔ PS.hold g p = q := by
  have h1 := h.hold hp
  exact ⟨fun e => h.inj _ _ h1.1 hq (h1.2.trans e.symm), fun e => by rw [← e]; exact h1.2⟩
theorem filter_less {α : Type _} {P Q : α → Bool} : ∀ {l : List α}, (∀ x ∈ l, P x = true → Q x = true) → (∃ x ∈ l, Q x = true ∧ P x = false) → (l.filter P).length + 1 ≤ (l.filter Q).length
  | [], _, ⟨x, hx, _⟩ => by cases hx
  | a :: l, h, ⟨x, hx, h1, h2⟩ => by
    have hle : (l.filter P).length ≤ (l.filter Q).length := by
      clear hx h1 h2
      have h' : ∀ x ∈ l, P x = true → Q x = true := fun x hx => h x (List.mem_cons_of_mem _ hx)
      clear h
      induction l with
      | nil => simp
      | cons b l ih =>
        have ih := ih (fun x hx => h' x (List.mem_cons_of_mem _ hx))
        have hb := h' b (List.mem_cons_self ..)
        rw [List.filter_cons, List.filter_cons]
        rcases Bool.eq_false_or_eq_true (P b) with h3 | h3
        · rw [if_pos h3, if_pos (hb h3)]; simpa using ih
        · rw [if_neg (by rw [h3]; decide)]
          split
          · simp only [List.length_cons]; omega
          · exact ih
    rw [List.filter_cons, List.filter_cons]
    rcases List.mem_cons.1 hx with rfl | hx
    · rw [if_neg (by rw [h2]; decide), if_pos h1]
      simp only [List.length_cons]; omega
    · have ih := filter_less (fun x hx => h x (List.mem_cons_of_mem _ hx)) ⟨x, hx, h1, h2⟩
      have ha := h a (List.mem_cons_self ..)
      rcases Bool.eq_false_or_eq_true (P a) with h3 | h3
      · rw [if_pos h3, if_pos (ha h3)]
        simp only [List.length_cons]; omega
      · rw [if_neg (by rw [h3]; decide)]
        split
        · simp only [List.length_cons]; omega
        · exact ih
/-- how many places do not have what they are to get -/
def muG (g : Nat → Nat) : Nat := ((List.range 9).filter fun x => decide (g x ≠ x)).length
theorem muG_le (g : Nat → Nat) : muG g ≤ 9 := by
  have := List.length_filter_le (fun x => decide (g x ≠ x)) (List.range 9)
  simpa [muG] using this
theorem muG_step {g : Nat → Nat} (h : Prm g) {p : Nat} (hp : p < 9) (hne : hold g p ≠ p) : muG (swp g p (hold g p)) + 1 ≤ muG g := by
  have h1 := h.hold hp
  refine filter_less (fun x hx h2 => ?_) ⟨p, by simpa using hp, ?_, ?_⟩
  · rw [decide_eq_true_eq] at h2 ⊢
    intro e
    by_cases e1 : x = p
    · subst e1
      have := (h.hold_iff hp hp).1 e
      exact hne this
    · by_cases e2 : x = hold g p
      · rw [e2] at e; rw [h1.2] at e; exact hne e.symm
      · apply h2
        show g (tr p (hold g p) x) = x
        rw [tr_ne e1 e2]; exact e
  · rw [decide_eq_true_eq]; exact fun e => hne ((h.hold_iff hp hp).1 e)
  · rw [decide_eq_false_iff_not, Classical.not_not]
    show g (tr p (hold g p) p) = p
    rw [tr_left]; exact h1.2
/-- the swaps along a ring, from a place on -/
def rsW : Nat → (Nat → Nat) → Nat → List (Nat × Nat) × (Nat → Nat)
  | 0, g, _ => ([], g)
  | n + 1, g, p => if hold g p = p then ([], g) else ((p, hold g p) :: (rsW n (swp g p (hold g p)) (hold g p)).1, (rsW n (swp g p (hold g p)) (hold g p)).2)
theorem rsW_stop (n : Nat) {g : Nat → Nat} {p : Nat} (h : hold g p = p) : rsW n g p = ([], g) := by
  cases n with
  | zero => rfl
  | succ n => rw [rsW, if_pos h]
theorem rsW_go (n : Nat) {g : Nat → Nat} {p : Nat} (h : hold g p ≠ p) : rsW (n + 1) g p = ((p, hold g p) :: (rsW n (swp g p (hold g p)) (hold g p)).1, (rsW n (swp g p (hold g p)) (hold g p)).2) := by
  rw [rsW, if_neg h]
/-- the swaps of the first k places' rings -/
def rsA : Nat → (Nat → Nat) → List (Nat × Nat) × (Nat → Nat)
  | 0, g => ([], g)
  | k + 1, g => ((rsA k g).1 ++ (rsW 9 (rsA k g).2 k).1, (rsW 9 (rsA k g).2 k).2)
theorem rsW_prm : ∀ (n : Nat) (g : Nat → Nat) (p : Nat), Prm g → p < 9 → Prm (rsW n g p).2
  | 0, _, _, h, _ => h
  | n + 1, g, p, h, hp => by
    by_cases e : hold g p = p
    · rw [rsW_stop _ e]; exact h
    · rw [rsW_go _ e]
      have h1 := h.hold hp
      exact rsW_prm n _ _ (h.swp hp h1.1) h1.1
theorem rsA_prm {g : Nat → Nat} (h : Prm g) : ∀ k, k ≤ 9 → Prm (rsA k g).2
  | 0, _ => h
  | k + 1, hk => rsW_prm 9 _ k (rsA_prm h k (by omega)) (by omega)
theorem rsW_len : ∀ (n : Nat) (g : Nat → Nat) (p : Nat), Prm g → p < 9 → (rsW n g p).1.length + muG (rsW n g p).2 ≤ muG g
  | 0, g, p, _, _ => by simp [rsW]
  | n + 1, g, p, h, hp => by
    by_cases e : hold g p = p
    · rw [rsW_stop _ e]; simp
    · rw [rsW_go _ e]
      have h1 := h.hold hp
      have h2 := rsW_len n _ _ (h.swp hp h1.1) h1.1
      have h3 := muG_step h hp e
      simp only [List.length_cons]; omega
theorem rsA_len {g : Nat → Nat} (h : Prm g) : ∀ k, k ≤ 9 → (rsA k g).1.length + muG (rsA k g).2 ≤ muG g
  | 0, _ => by simp [rsA]
  | k + 1, hk => by
    have h1 := rsA_len h k (by omega)
    have h2 := rsW_len 9 _ k (rsA_prm h k (by omega)) (by omega)
    simp only [rsA, List.length_append]; omega
theorem rsA_le {g : Nat → Nat} (h : Prm g) (k : Nat) (hk : k ≤ 9) : (rsA k g).1.length ≤ 9 := by
  have := rsA_len h k hk
  have := muG_le g
  omega

/-- the pairs of each one of a list and the next -/
def prs : List Nat → List (Nat × Nat)
  | a :: b :: l => (a, b) :: prs (b :: l)
  | _ => []
/-- each one of a list is where the next one's value goes, and the last one is e -/
def Chn (g : Nat → Nat) (e : Nat) : Nat → List Nat → Prop
  | a, [] => a = e
  | a, b :: l => g b = a ∧ Chn g e b l
theorem Chn.congr {g g' : Nat → Nat} {e : Nat} : ∀ {l : List Nat} {a : Nat}, (∀ x ∈ l, g x = g' x) → Chn g e a l → Chn g' e a l
  | [], _, _, h => h
  | b :: l, a, he, h => ⟨by rw [← he b (by simp)]; exact h.1, h.2.congr fun x hx => he x (by simp [hx])⟩
theorem Chn.last {g : Nat → Nat} {e : Nat} : ∀ {l : List Nat} {a : Nat}, Chn g e a l → e ∈ a :: l
  | [], a, h => by rw [show a = e from h]; simp
  | b :: l, a, h => List.mem_cons_of_mem _ h.2.last
theorem rsW_chain : ∀ (l : List Nat) (n : Nat) (g : Nat → Nat) (a e : Nat), Prm g → (a :: l).Nodup → (∀ x ∈ a :: l, x < 9) → Chn g e a l → g a = e → l.length ≤ n →
    (rsW n g a).1 = prs (a :: l) ∧ ∀ x, x < 9 → (rsW n g a).2 x = if x ∈ a :: l then x else g x
  | [], n, g, a, e, h, _, hlt, hc, he, _ => by
    have ha := hlt a (by simp)
    have hg : g a = a := he.trans (show a = e from hc).symm
    have hh : hold g a = a := (h.hold_iff ha ha).1 hg
    rw [rsW_stop _ hh]
    refine ⟨rfl, fun x _ => ?_⟩
    by_cases hx : x = a
    · subst hx; simp [hg]
    · simp [hx]
  | b :: l, n, g, a, e, h, hn, hlt, hc, he, hl => by
    obtain ⟨n, rfl⟩ : ∃ m, n = m + 1 := ⟨n - 1, by simp only [List.length_cons] at hl; omega⟩
    have ha := hlt a (by simp)
    have hb := hlt b (by simp)
    rw [List.nodup_cons] at hn
    have hab : b ≠ a := fun e => hn.1 (by rw [← e]; simp)
    have hh : hold g a = b := (h.hold_iff ha hb).1 hc.1
    rw [rsW_go n (by rw [hh]; exact hab), hh]
    have hnb := (List.nodup_cons.1 hn.2).1
    have hc2 : Chn (swp g a b) e b l := hc.2.congr fun x hx => by
      show g x = g (tr a b x)
      rw [tr_ne (fun e => hn.1 (by rw [← e]; simp [hx])) (fun e => hnb (by rw [← e]; exact hx))]
    have he2 : swp g a b b = e := by show g (tr a b b) = e; rw [tr_right]; exact he
    obtain ⟨h1, h2⟩ := rsW_chain l n (swp g a b) b e (h.swp ha hb) hn.2 (fun x hx => hlt x (List.mem_cons_of_mem _ hx)) hc2 he2 (by simp only [List.length_cons] at hl; omega)
    refine ⟨by rw [h1]; rfl, fun x hx => ?_⟩
    rw [h2 x hx]
    by_cases hxl : x ∈ b :: l
    · rw [if_pos hxl, if_pos (List.mem_cons_of_mem _ hxl)]
    · rw [if_neg hxl]
      by_cases hxa : x = a
      · subst hxa
        rw [if_pos (by simp)]
        show g (tr x b x) = x
        rw [tr_left]; exact hc.1
      · rw [if_neg (by rw [List.mem_cons]; exact fun h => h.elim hxa hxl)]
        show g (tr a b x) = g x
        rw [tr_ne hxa (fun e => hxl (by rw [e]; simp))]
theorem chn_of {g : Nat → Nat} : ∀ (l : List Nat) (a : Nat), (∀ i (h : i + 1 < (a :: l).length), g (a :: l)[i + 1] = (a :: l)[i]) → ∃ e, Chn g e a l ∧ (a :: l)[l.length]? = some e
  | [], a, _ => ⟨a, rfl, rfl⟩
  | b :: l, a, h => by
    obtain ⟨e, h1, h2⟩ := chn_of l b fun i hi => by
      have := h (i + 1) (by simp only [List.length_cons] at hi ⊢; omega)
      simpa using this
    exact ⟨e, ⟨by have := h 0 (by simp); simpa using this, h1⟩, by simpa using h2⟩

section
variable {f : Nat → ByteArray}
/-- the goals of an exchange -/
theorem inv_prm (he : Exch (srcT f)) : Prm (invI (srcT f)) := by
  refine ⟨fun q hq => (he.inv hq).1, fun q r hq hr e => ?_, fun p hp => ?_⟩
  · have h1 := (he.inv hq).2
    have h2 := (he.inv hr).2
    rw [e, h2] at h1
    exact (nm_inj hr hq h1).symm
  · have h1 := pidx_spec (he.place hp)
    exact ⟨pidx (srcT f p), h1.1, ((he.inv_iff h1.1 hp).1 h1.2.symm).symm⟩
theorem exch_sx (hf : SV f) (he : Exch (srcT f)) {p : Nat} (hp : p < 9) : sx f p < 9 ∧ srcT f p = nm (sx f p) ∧ invI (srcT f) (sx f p) = p := by
  have h1 := he.place hp
  have h2 := isP_sidx (s := srcT f p) (by unfold isS; rw [h1]; rfl)
  rw [h1] at h2
  have h3 : sx f p < 9 := of_decide_eq_true h2.symm
  have h4 : srcT f p = nm (sx f p) := by rw [← sn_nm _ h3]; exact (sx_lt hf hp).2.symm
  exact ⟨h3, h4, ((he.inv_iff h3 hp).1 h4).symm⟩
theorem exch_fix (hf : SV f) (he : Exch (srcT f)) {p : Nat} (hp : p < 9) : invI (srcT f) p = p ↔ sx f p = p := by
  constructor
  · intro e
    have h1 := (he.inv hp).2
    rw [e] at h1
    have h2 := exch_sx hf he hp
    exact nm_inj h2.1 hp (h2.2.1.symm.trans h1)
  · intro e
    have h2 := exch_sx hf he hp
    rw [e] at h2; exact h2.2.2
theorem rsA_rings (hf : SV f) (he : Exch (srcT f)) : ∀ k, k ≤ 9 → (rsA k (invI (srcT f))).1 = (ringsF (nxT f) k).flatMap prs ∧
    ∀ x, x < 9 → (rsA k (invI (srcT f))).2 x = if x ∈ (ringsF (nxT f) k).flatten then x else invI (srcT f) x
  | 0, _ => ⟨rfl, fun x _ => by simp [ringsF, rsA]⟩
  | k + 1, hk => by
    obtain ⟨h1, h2⟩ := rsA_rings hf he k (by omega)
    have hn := nice hf
    have hk9 : k < 9 := by omega
    have hP := inv_prm he
    have hPk := rsA_prm hP k (by omega)
    by_cases hc : onRb (nxT f) k = true ∧ k ∉ (ringsF (nxT f) k).flatten
    · -- a ring begins here
      have hmem : way (nxT f) k ∈ ringsF (nxT f) (k + 1) := by rw [ringsF_yes hc.1 hc.2]; simp
      have hq : PO.RingQ f (way (nxT f) k) := by
        have hsub : ∀ m, k + 1 ≤ m → way (nxT f) k ∈ ringsF (nxT f) m := by
          intro m
          induction m with
          | zero => intro h; omega
          | succ m ih =>
            intro h
            rcases Nat.lt_or_ge m (k + 1) with h3 | h3
            · have : m = k := by omega
              subst this; exact hmem
            · by_cases hc2 : onRb (nxT f) m = true ∧ m ∉ (ringsF (nxT f) m).flatten
              · rw [ringsF_yes hc2.1 hc2.2]; exact List.mem_append_left _ (ih h3)
              · rw [ringsF_no hc2]; exact ih h3
        exact PO.ringQ f hf (hsub 9 hk)
      have hdis : ∀ x ∈ way (nxT f) k, x ∉ (ringsF (nxT f) k).flatten := fun x hx hx2 => by
        have := PO.ringsF_nodup hn (k + 1) hk
        rw [ringsF_yes hc.1 hc.2, List.flatten_append, List.nodup_append] at this
        exact this.2.2 x hx2 x (by simpa using hx) rfl
      obtain ⟨l, hl⟩ := way_first (nxT f) k hn (by omega)
      rw [hl] at hq hdis
      have hlow : ∀ x ∈ k :: l, x < 9 := fun x hx => by
        obtain ⟨i, hi⟩ := List.getElem?_of_mem hx
        have hil := (List.getElem?_eq_some_iff.1 hi).1
        rw [List.getElem?_eq_getElem hil] at hi
        rw [← Option.some.inj hi]; exact hq.low i hil
      have hgo : ∀ x ∈ k :: l, (rsA k (invI (srcT f))).2 x = invI (srcT f) x := fun x hx => by
        rw [h2 x (hlow x hx), if_neg (hdis x hx)]
      obtain ⟨e, hce, hlast⟩ := chn_of (g := (rsA k (invI (srcT f))).2) l k fun i hi => by
        rw [hgo _ (List.getElem_mem hi)]
        have h3 := hq.next i (by omega)
        have h4 : (i + 1) % (k :: l).length = i + 1 := Nat.mod_eq_of_lt hi
        simp only [h4] at h3
        rw [← h3]
        exact (exch_sx hf he (hq.low i (by omega))).2.2
      have hcl : (rsA k (invI (srcT f))).2 k = e := by
        rw [hgo k (by simp)]
        have h3 := hq.next l.length (by simp)
        have h4 : (l.length + 1) % (k :: l).length = 0 := by simp
        simp only [h4, List.getElem_cons_zero] at h3
        have h5 : (k :: l)[l.length]'(by simp) = e := by
          rw [List.getElem?_eq_getElem (by simp)] at hlast
          exact Option.some.inj hlast
        rw [h5] at h3
        rw [← h3]
        exact (exch_sx hf he (by rw [← h5]; exact hlow _ (List.getElem_mem _))).2.2
      have hlen : l.length ≤ 9 := by
        have := PW.nodup_le (k :: l) 9 hq.nodup hlow
        simp only [List.length_cons] at this; omega
      obtain ⟨c1, c2⟩ := rsW_chain l 9 _ k e hPk hq.nodup hlow hce hcl hlen
      rw [ringsF_yes hc.1 hc.2, hl]
      refine ⟨by simp only [rsA]; rw [c1, h1]; simp, fun x hx => ?_⟩
      show (rsW 9 (rsA k (invI (srcT f))).2 k).2 x = _
      rw [c2 x hx, h2 x hx]
      simp only [List.flatten_append, List.mem_append, List.flatten_cons, List.flatten_nil, List.append_nil]
      by_cases hx1 : x ∈ k :: l
      · rw [if_pos hx1, if_pos (.inr hx1)]
      · by_cases hx2 : x ∈ (ringsF (nxT f) k).flatten
        · rw [if_neg hx1, if_pos hx2, if_pos (.inl hx2)]
        · rw [if_neg hx1, if_neg hx2, if_neg (fun h => h.elim hx2 hx1)]
    · have hfix : (rsA k (invI (srcT f))).2 k = k := by
        rw [h2 k hk9]
        split
        · rfl
        · next hno =>
          have hnr : ¬ onRb (nxT f) k = true := fun h => hc ⟨h, hno⟩
          have : srcT f k = nm k := Classical.not_not.1 fun hne => hnr (PO.exch_ring hf he hk9 hne)
          exact (exch_fix hf he hk9).2 ((src_self hf hk9).1 this)
      have hh := (hPk.hold_iff hk9 hk9).1 hfix
      rw [ringsF_no hc]
      refine ⟨by simp only [rsA]; rw [rsW_stop _ hh, h1]; simp, fun x hx => ?_⟩
      show (rsW 9 (rsA k (invI (srcT f))).2 k).2 x = _
      rw [rsW_stop _ hh]; exact h2 x hx
theorem rsA_id (hf : SV f) (he : Exch (srcT f)) : ∀ x, x < 9 → (rsA 9 (invI (srcT f))).2 x = x := fun x hx => by
  rw [(rsA_rings hf he 9 (Nat.le_refl _)).2 x hx]
  split
  · rfl
  · next hno =>
    refine (exch_fix hf he hx).2 ((src_self hf hx).1 (Classical.not_not.1 fun hne => hno ?_))
    exact PO.ringsF_in (nice hf) hx (PO.exch_ring hf he hx hne) 9 hx
end
end Go.PS
namespace Go.PS
open Go.PM Go.RowKit Go.PW

/-- how many of a list are less than a number; how many pairs of a list descend -/
def cntL (a : Nat) (xs : List Nat) : Nat := (xs.filter fun x => decide (x < a)).length
def invL : List Nat → Nat
  | [] => 0
  | a :: xs => cntL a xs + invL xs
theorem cntL_app (a : Nat) (xs ys : List Nat) : cntL a (xs ++ ys) = cntL a xs + cntL a ys := by simp [cntL]
theorem cntL_cons (a b : Nat) (xs : List Nat) : cntL a (b :: xs) = (if b < a then 1 else 0) + cntL a xs := by
  unfold cntL
  rw [List.filter_cons]
  by_cases h : b < a
  · rw [if_pos (by simpa using h), if_pos h]; simp only [List.length_cons]; omega
  · rw [if_neg (by simpa using h), if_neg h]; omega
theorem cntL_turn (c : Nat) (l r : List Nat) (a b : Nat) : cntL c (l ++ a :: b :: r) = cntL c (l ++ b :: a :: r) := by
  rw [cntL_app, cntL_app, cntL_cons, cntL_cons, cntL_cons, cntL_cons]; omega
theorem invL_adj {a b : Nat} (h : b < a) : ∀ (l r : List Nat), invL (l ++ a :: b :: r) = invL (l ++ b :: a :: r) + 1
  | [], r => by
    simp only [List.nil_append, invL, cntL_cons]
    rw [if_pos h, if_neg (by omega)]; omega
  | c :: l, r => by
    have := invL_adj h l r
    simp only [List.cons_append, invL]
    rw [cntL_turn c l r a b, this]; omega
theorem invL_par {a b : Nat} (h : a ≠ b) (l r : List Nat) : invL (l ++ a :: b :: r) % 2 = (invL (l ++ b :: a :: r) + 1) % 2 := by
  rcases Nat.lt_or_ge b a with h1 | h1
  · rw [invL_adj h1]
  · rw [invL_adj (a := b) (b := a) (by omega) l r]; omega
theorem invL_past (a : Nat) (r : List Nat) : ∀ (m l : List Nat), a ∉ m → invL (l ++ a :: (m ++ r)) % 2 = (invL (l ++ (m ++ a :: r)) + m.length) % 2
  | [], l, _ => by simp
  | c :: m, l, h => by
    have hc : a ≠ c := fun e => h (by rw [e]; simp)
    have h1 := invL_par hc l (m ++ r)
    have h2 := invL_past a r m (l ++ [c]) (fun hm => h (by simp [hm]))
    simp only [List.append_assoc, List.cons_append, List.nil_append] at h1 h2 ⊢
    simp only [List.length_cons]
    omega
/-- two numbers of a list that change places -/
theorem invL_tr {a b : Nat} (hab : a ≠ b) (l m r : List Nat) (ha : a ∉ m) (hb : b ∉ m) : invL (l ++ a :: (m ++ b :: r)) % 2 = (invL (l ++ b :: (m ++ a :: r)) + 1) % 2 := by
  have h1 := invL_past a (b :: r) m l ha
  have h2 := invL_past b (a :: r) m l hb
  have h3 := invL_par hab (l ++ m) r
  simp only [List.append_assoc] at h3
  omega
def gl (g : Nat → Nat) : List Nat := [g 0, g 1, g 2, g 3, g 4, g 5, g 6, g 7, g 8]
def invG (g : Nat → Nat) : Nat := invL (gl g)
theorem swp_at (g : Nat → Nat) (p q : Nat) : swp g p q p = g q ∧ swp g p q q = g p ∧ ∀ x, x ≠ p → x ≠ q → swp g p q x = g x :=
  ⟨by show g (tr p q p) = _; rw [tr_left], by show g (tr p q q) = _; rw [tr_right], fun x h1 h2 => by show g (tr p q x) = _; rw [tr_ne h1 h2]⟩
theorem invG_adj (g : Nat → Nat) (k : Nat) (hk : k < 8) (h : g (k + 1) < g k) : invG g = invG (swp g k (k + 1)) + 1 := by
  obtain ⟨e1, e2, e3⟩ := swp_at g k (k + 1)
  unfold invG gl
  match k, hk with
  | 0, _ => rw [e1, e2, e3 2 (by omega) (by omega), e3 3 (by omega) (by omega), e3 4 (by omega) (by omega), e3 5 (by omega) (by omega), e3 6 (by omega) (by omega), e3 7 (by omega) (by omega), e3 8 (by omega) (by omega)]; exact invL_adj h [] [g 2, g 3, g 4, g 5, g 6, g 7, g 8]
  | 1, _ => rw [e1, e2, e3 0 (by omega) (by omega), e3 3 (by omega) (by omega), e3 4 (by omega) (by omega), e3 5 (by omega) (by omega), e3 6 (by omega) (by omega), e3 7 (by omega) (by omega), e3 8 (by omega) (by omega)]; exact invL_adj h [g 0] [g 3, g 4, g 5, g 6, g 7, g 8]
  | 2, _ => rw [e1, e2, e3 0 (by omega) (by omega), e3 1 (by omega) (by omega), e3 4 (by omega) (by omega), e3 5 (by omega) (by omega), e3 6 (by omega) (by omega), e3 7 (by omega) (by omega), e3 8 (by omega) (by omega)]; exact invL_adj h [g 0, g 1] [g 4, g 5, g 6, g 7, g 8]
  | 3, _ => rw [e1, e2, e3 0 (by omega) (by omega), e3 1 (by omega) (by omega), e3 2 (by omega) (by omega), e3 5 (by omega) (by omega), e3 6 (by omega) (by omega), e3 7 (by omega) (by omega), e3 8 (by omega) (by omega)]; exact invL_adj h [g 0, g 1, g 2] [g 5, g 6, g 7, g 8]
  | 4, _ => rw [e1, e2, e3 0 (by omega) (by omega), e3 1 (by omega) (by omega), e3 2 (by omega) (by omega), e3 3 (by omega) (by omega), e3 6 (by omega) (by omega), e3 7 (by omega) (by omega), e3 8 (by omega) (by omega)]; exact invL_adj h [g 0, g 1, g 2, g 3] [g 6, g 7, g 8]
  | 5, _ => rw [e1, e2, e3 0 (by omega) (by omega), e3 1 (by omega) (by omega), e3 2 (by omega) (by omega), e3 3 (by omega) (by omega), e3 4 (by omega) (by omega), e3 7 (by omega) (by omega), e3 8 (by omega) (by omega)]; exact invL_adj h [g 0, g 1, g 2, g 3, g 4] [g 7, g 8]
  | 6, _ => rw [e1, e2, e3 0 (by omega) (by omega), e3 1 (by omega) (by omega), e3 2 (by omega) (by omega), e3 3 (by omega) (by omega), e3 4 (by omega) (by omega), e3 5 (by omega) (by omega), e3 8 (by omega) (by omega)]; exact invL_adj h [g 0, g 1, g 2, g 3, g 4, g 5] [g 8]
  | 7, _ => rw [e1, e2, e3 0 (by omega) (by omega), e3 1 (by omega) (by omega), e3 2 (by omega) (by omega), e3 3 (by omega) (by omega), e3 4 (by omega) (by omega), e3 5 (by omega) (by omega), e3 6 (by omega) (by omega)]; exact invL_adj h [g 0, g 1, g 2, g 3, g 4, g 5, g 6] []
/-- the places from i on, n of them -/
def seg (g : Nat → Nat) (i : Nat) : Nat → List Nat
  | 0 => []
  | n + 1 => g i :: seg g (i + 1) n
theorem seg_app (g : Nat → Nat) : ∀ (n m i : Nat), seg g i (n + m) = seg g i n ++ seg g (i + n) m
  | 0, m, i => by simp [seg]
  | n + 1, m, i => by
    rw [show n + 1 + m = n + m + 1 by omega]
    simp only [seg, List.cons_append]
    rw [seg_app g n m (i + 1), show i + 1 + n = i + (n + 1) by omega]
theorem seg_congr {g g' : Nat → Nat} : ∀ (n i : Nat), (∀ x, i ≤ x → x < i + n → g x = g' x) → seg g i n = seg g' i n
  | 0, _, _ => rfl
  | n + 1, i, h => by
    simp only [seg]
    rw [h i (Nat.le_refl _) (by omega), seg_congr n (i + 1) fun x h1 h2 => h x (by omega) (by omega)]
theorem seg_mem {g : Nat → Nat} {a : Nat} : ∀ (n i : Nat), a ∈ seg g i n → ∃ x, i ≤ x ∧ x < i + n ∧ g x = a
  | 0, _, h => by cases h
  | n + 1, i, h => by
    rcases List.mem_cons.1 h with rfl | h
    · exact ⟨i, Nat.le_refl _, by omega, rfl⟩
    · obtain ⟨x, h1, h2, h3⟩ := seg_mem n (i + 1) h
      exact ⟨x, by omega, by omega, h3⟩
theorem gl_seg (g : Nat → Nat) : gl g = seg g 0 9 := rfl
theorem gl_split (g : Nat → Nat) {i j : Nat} (hij : i < j) (hj : j < 9) : gl g = seg g 0 i ++ g i :: (seg g (i + 1) (j - i - 1) ++ g j :: seg g (j + 1) (8 - j)) := by
  rw [gl_seg, show 9 = i + (1 + ((j - i - 1) + (1 + (8 - j)))) by omega, seg_app, seg_app, seg_app, seg_app]
  simp only [seg, Nat.zero_add, List.cons_append, List.nil_append]
  rw [show i + 1 + (j - i - 1) = j by omega]
theorem invG_tr {g : Nat → Nat} (h : Prm g) {i j : Nat} (hij : i < j) (hj : j < 9) : invG g % 2 = (invG (swp g i j) + 1) % 2 := by
  obtain ⟨e1, e2, e3⟩ := swp_at g i j
  unfold invG
  rw [gl_split g hij hj, gl_split (swp g i j) hij hj, e1, e2]
  rw [seg_congr (g := swp g i j) (g' := g) i 0 fun x _ h2 => e3 x (by omega) (by omega)]
  rw [seg_congr (g := swp g i j) (g' := g) (j - i - 1) (i + 1) fun x h1 h2 => e3 x (by omega) (by omega)]
  rw [seg_congr (g := swp g i j) (g' := g) (8 - j) (j + 1) fun x h1 h2 => e3 x (by omega) (by omega)]
  refine invL_tr (fun e => ?_) _ _ _ (fun hm => ?_) (fun hm => ?_)
  · have := h.inj i j (by omega) hj e; omega
  · obtain ⟨x, h1, h2, h3⟩ := seg_mem _ _ hm
    have := h.inj x i (by omega) (by omega) h3; omega
  · obtain ⟨x, h1, h2, h3⟩ := seg_mem _ _ hm
    have := h.inj x j (by omega) hj h3; omega
/-- swaps one behind the other, seen by the goals -/
def appS (ps : List (Nat × Nat)) (g : Nat → Nat) : Nat → Nat := ps.foldl (fun g p => swp g p.1 p.2) g
theorem appS_app (ps qs : List (Nat × Nat)) (g : Nat → Nat) : appS (ps ++ qs) g = appS qs (appS ps g) := by unfold appS; rw [List.foldl_append]
/-- swaps of two places -/
def okP (ps : List (Nat × Nat)) : Prop := ∀ p ∈ ps, p.1 < 9 ∧ p.2 < 9 ∧ p.1 ≠ p.2
theorem okP_app {ps qs : List (Nat × Nat)} (h1 : okP ps) (h2 : okP qs) : okP (ps ++ qs) := fun p hp => (List.mem_append.1 hp).elim (h1 p) (h2 p)
theorem appS_par : ∀ (ps : List (Nat × Nat)) (g : Nat → Nat), Prm g → okP ps → invG g % 2 = (invG (appS ps g) + ps.length) % 2 ∧ Prm (appS ps g)
  | [], g, h, _ => ⟨by simp [appS], h⟩
  | p :: ps, g, h, ho => by
    obtain ⟨h1, h2, h3⟩ := ho p (by simp)
    have hs := h.swp h1 h2
    obtain ⟨h4, h5⟩ := appS_par ps (swp g p.1 p.2) hs fun q hq => ho q (by simp [hq])
    refine ⟨?_, h5⟩
    show _ = (invG (appS ps (swp g p.1 p.2)) + (ps.length + 1)) % 2
    have h6 : invG g % 2 = (invG (swp g p.1 p.2) + 1) % 2 := by
      rcases Nat.lt_or_ge p.1 p.2 with hlt | hge
      · exact invG_tr h hlt h2
      · rw [swp_comm]; exact invG_tr h (by omega) h1
    omega
theorem invG_id {g : Nat → Nat} (h : ∀ x, x < 9 → g x = x) : invG g = 0 := by
  have : gl g = gl (fun x => x) := by
    rw [gl_seg, gl_seg]; exact seg_congr 9 0 fun x _ h2 => h x (by omega)
  unfold invG; rw [this]; decide
theorem rsW_app : ∀ (n : Nat) (g : Nat → Nat) (p : Nat), Prm g → p < 9 → appS (rsW n g p).1 g = (rsW n g p).2 ∧ okP (rsW n g p).1
  | 0, _, _, _, _ => ⟨rfl, by simp [okP, rsW]⟩
  | n + 1, g, p, h, hp => by
    by_cases e : hold g p = p
    · rw [rsW_stop _ e]; exact ⟨rfl, by simp [okP]⟩
    · rw [rsW_go _ e]
      have h1 := h.hold hp
      obtain ⟨h2, h3⟩ := rsW_app n _ _ (h.swp hp h1.1) h1.1
      refine ⟨h2, fun q hq => ?_⟩
      rcases List.mem_cons.1 hq with rfl | hq
      · exact ⟨hp, h1.1, fun e2 => e e2.symm⟩
      · exact h3 q hq
theorem rsA_app {g : Nat → Nat} (h : Prm g) : ∀ k, k ≤ 9 → appS (rsA k g).1 g = (rsA k g).2 ∧ okP (rsA k g).1
  | 0, _ => ⟨rfl, by simp [okP, rsA]⟩
  | k + 1, hk => by
    obtain ⟨h1, h2⟩ := rsA_app h k (by omega)
    obtain ⟨h3, h4⟩ := rsW_app 9 _ k (rsA_prm h k (by omega)) (by omega)
    refine ⟨?_, okP_app h2 h4⟩
    show appS ((rsA k g).1 ++ _) g = _
    rw [appS_app, h1, h3]; rfl

/-- going through the first k pairs of neighbours once -/
def pas : Nat → (Nat → Nat) → List (Nat × Nat) × (Nat → Nat)
  | 0, g => ([], g)
  | k + 1, g => if (pas k g).2 (k + 1) < (pas k g).2 k then ((pas k g).1 ++ [(k, k + 1)], swp (pas k g).2 k (k + 1)) else pas k g
theorem pas_yes {k : Nat} {g : Nat → Nat} (h : (pas k g).2 (k + 1) < (pas k g).2 k) : pas (k + 1) g = ((pas k g).1 ++ [(k, k + 1)], swp (pas k g).2 k (k + 1)) := by rw [pas, if_pos h]
theorem pas_no {k : Nat} {g : Nat → Nat} (h : ¬ (pas k g).2 (k + 1) < (pas k g).2 k) : pas (k + 1) g = pas k g := by rw [pas, if_neg h]
theorem pas_facts {g : Nat → Nat} (h : Prm g) : ∀ k, k ≤ 8 → Prm (pas k g).2 ∧ invG g = invG (pas k g).2 + (pas k g).1.length ∧ appS (pas k g).1 g = (pas k g).2 ∧ (∀ p ∈ (pas k g).1, p.1 < 8 ∧ p.2 = p.1 + 1) ∧ (pas k g).1.length ≤ k
  | 0, _ => ⟨h, rfl, rfl, by simp [pas], by simp [pas]⟩
  | k + 1, hk => by
    obtain ⟨h1, h2, h3, h4, h5⟩ := pas_facts h k (by omega)
    by_cases hc : (pas k g).2 (k + 1) < (pas k g).2 k
    · rw [pas_yes hc]
      refine ⟨h1.swp (by omega) (by omega), ?_, ?_, fun p hp => ?_, by simp; omega⟩
      · rw [h2, invG_adj _ k (by omega) hc]; simp; omega
      · show appS (_ ++ _) g = _
        rw [appS_app, h3]; rfl
      · rcases List.mem_append.1 hp with hp | hp
        · exact h4 p hp
        · simp at hp; subst hp; exact ⟨by show k < 8; omega, rfl⟩
    · rw [pas_no hc]; exact ⟨h1, h2, h3, h4, by omega⟩
def dsc (g : Nat → Nat) (k : Nat) : Bool := decide (g (k + 1) < g k)
/-- the first k pairs do not descend -/
def upTo (g : Nat → Nat) (k : Nat) : Prop := ∀ j, j < k → ¬ g (j + 1) < g j
theorem pas_up {g : Nat → Nat} : ∀ k, upTo g k → pas k g = ([], g)
  | 0, _ => rfl
  | k + 1, h => by
    have h1 := pas_up k fun j hj => h j (by omega)
    rw [pas_no (by rw [h1]; exact h k (by omega)), h1]
theorem pas_grows (g : Nat → Nat) : ∀ k j, k ≤ j → (pas k g).1.length ≤ (pas j g).1.length
  | k, 0, h => by have : k = 0 := by omega
                  subst this; exact Nat.le_refl _
  | k, j + 1, h => by
    rcases Nat.lt_or_ge j k with h1 | h1
    · have : k = j + 1 := by omega
      subst this; exact Nat.le_refl _
    · refine Nat.le_trans (pas_grows g k j h1) ?_
      by_cases hc : (pas j g).2 (j + 1) < (pas j g).2 j
      · rw [pas_yes hc]; simp
      · rw [pas_no hc]; exact Nat.le_refl _
/-- where a pair descends, something is swapped -/
theorem pas_some {g : Nat → Nat} {k : Nat} (hk : k < 8) (h : g (k + 1) < g k) : 1 ≤ (pas 8 g).1.length := by
  obtain ⟨m, hm, hup⟩ : ∃ m, (m < 8 ∧ g (m + 1) < g m) ∧ upTo g m := by
    have key : ∀ n, n < 8 → g (n + 1) < g n → ∃ m, (m < 8 ∧ g (m + 1) < g m) ∧ upTo g m := by
      intro n
      induction n using Nat.strongRecOn with
      | ind n ih =>
        intro h8 hn
        by_cases h2 : ∃ j, j < n ∧ g (j + 1) < g j
        · obtain ⟨j, h3, h4⟩ := h2; exact ih j h3 (by omega) h4
        · exact ⟨n, ⟨h8, hn⟩, fun j hj hd => h2 ⟨j, hj, hd⟩⟩
    exact key k hk h
  have h1 := pas_up m hup
  have h2 : (pas (m + 1) g).1.length = 1 := by
    rw [pas_yes (by rw [h1]; exact hm.2), h1]; rfl
  have := pas_grows g (m + 1) 8 (by omega)
  omega
/-- goals in order are those of nothing -/
theorem up_id {g : Nat → Nat} (h : Prm g) (hu : upTo g 8) : ∀ x, x < 9 → g x = x := by
  have hlt : ∀ x, x < 8 → g x < g (x + 1) := fun x hx => by
    have h1 := hu x hx
    have h2 : g x ≠ g (x + 1) := fun e => by have := h.inj _ _ (by omega) (by omega) e; omega
    omega
  have hlo : ∀ x, x < 9 → x ≤ g x := by
    intro x
    induction x with
    | zero => intro _; omega
    | succ x ih => intro hx; have := ih (by omega); have := hlt x (by omega); omega
  have hhi : ∀ d, d < 9 → g (8 - d) + d ≤ 8 := by
    intro d
    induction d with
    | zero => intro _; have := h.lt 8 (by omega); simpa using (by omega : g 8 ≤ 8)
    | succ d ih =>
      intro hd
      have h1 := ih (by omega)
      have h2 := hlt (8 - (d + 1)) (by omega)
      rw [show 8 - (d + 1) + 1 = 8 - d by omega] at h2
      omega
  intro x hx
  have h1 := hlo x hx
  have h2 := hhi (8 - x) (by omega)
  rw [show 8 - (8 - x) = x by omega] at h2
  omega
/-- swaps of neighbours, going through all pairs again and again -/
def nbF : Nat → (Nat → Nat) → List (Nat × Nat)
  | 0, _ => []
  | n + 1, g => if (List.range 8).any (dsc g) then (pas 8 g).1 ++ nbF n (pas 8 g).2 else []
theorem nbF_stop (n : Nat) {g : Nat → Nat} (h : upTo g 8) : nbF n g = [] := by
  cases n with
  | zero => rfl
  | succ n =>
    rw [nbF, if_neg]
    rw [List.any_eq_true]
    rintro ⟨k, hk, hd⟩
    exact h k (by simpa using hk) (by simpa [dsc] using hd)
theorem nbF_go (n : Nat) {g : Nat → Nat} {k : Nat} (hk : k < 8) (h : g (k + 1) < g k) : nbF (n + 1) g = (pas 8 g).1 ++ nbF n (pas 8 g).2 := by
  rw [nbF, if_pos]
  rw [List.any_eq_true]
  exact ⟨k, by simpa using hk, by simpa [dsc] using h⟩
theorem up_or (g : Nat → Nat) : upTo g 8 ∨ ∃ k, k < 8 ∧ g (k + 1) < g k := by
  by_cases h : ∃ k, k < 8 ∧ g (k + 1) < g k
  · exact .inr h
  · exact .inl fun j hj hd => h ⟨j, hj, hd⟩
theorem nbF_facts : ∀ (n : Nat) (g : Nat → Nat), Prm g → invG g ≤ n → (nbF n g).length = invG g ∧ (∀ x, x < 9 → appS (nbF n g) g x = x) ∧ ∀ p ∈ nbF n g, p.1 < 8 ∧ p.2 = p.1 + 1
  | n, g, h, hn => by
    rcases up_or g with hu | ⟨k, hk, hd⟩
    · rw [nbF_stop n hu]
      have hid := up_id h hu
      exact ⟨(invG_id hid).symm, fun x hx => hid x hx, by simp⟩
    · have h1 := pas_some hk hd
      obtain ⟨h2, h3, h4, h5, _⟩ := pas_facts h 8 (Nat.le_refl _)
      match n, hn with
      | 0, hn => omega
      | n + 1, hn =>
        rw [nbF_go n hk hd]
        obtain ⟨h6, h7, h8⟩ := nbF_facts n _ h2 (by omega)
        refine ⟨by rw [List.length_append, h6]; omega, fun x hx => ?_, fun p hp => (List.mem_append.1 hp).elim (h5 p) (h8 p)⟩
        rw [appS_app, h4]; exact h7 x hx
theorem cntL_le (a : Nat) (xs : List Nat) : cntL a xs ≤ xs.length := List.length_filter_le _ _
theorem invG_le (g : Nat → Nat) : invG g ≤ 36 := by
  unfold invG gl
  simp only [invL]
  have h0 := cntL_le (g 0) [g 1, g 2, g 3, g 4, g 5, g 6, g 7, g 8]
  have h1 := cntL_le (g 1) [g 2, g 3, g 4, g 5, g 6, g 7, g 8]
  have h2 := cntL_le (g 2) [g 3, g 4, g 5, g 6, g 7, g 8]
  have h3 := cntL_le (g 3) [g 4, g 5, g 6, g 7, g 8]
  have h4 := cntL_le (g 4) [g 5, g 6, g 7, g 8]
  have h5 := cntL_le (g 5) [g 6, g 7, g 8]
  have h6 := cntL_le (g 6) [g 7, g 8]
  have h7 := cntL_le (g 7) [g 8]
  have h8 := cntL_le (g 8) []
  simp only [List.length_cons, List.length_nil] at h0 h1 h2 h3 h4 h5 h6 h7 h8
  omega
/-- swaps that do the same are of an even number more or less -/
theorem par_same {g : Nat → Nat} (h : Prm g) {ps qs : List (Nat × Nat)} (hp : okP ps) (hq : okP qs) (h1 : ∀ x, x < 9 → appS ps g x = x) (h2 : ∀ x, x < 9 → appS qs g x = x) : ps.length % 2 = qs.length % 2 := by
  have h3 := (appS_par ps g h hp).1
  have h4 := (appS_par qs g h hq).1
  rw [invG_id h1] at h3
  rw [invG_id h2] at h4
  omega
/-- labels that swaps join: as many classes as places less swaps, or more -/
theorem labels : ∀ ps : List (Nat × Nat), ∃ L : Nat → Nat, (∀ p ∈ ps, L p.1 = L p.2) ∧ ∀ R : List Nat, (∀ x, x < 9 → ∃ r ∈ R, L x = L r) → 9 ≤ R.length + ps.length
  | [] => ⟨id, by simp, fun R h => by
      have := PM.nodup_le (List.range 9) R List.nodup_range fun x hx => by
        obtain ⟨r, hr, e⟩ := h x (by simpa using hx)
        have e : x = r := e
        rw [e]; exact hr
      simpa using this⟩
  | p :: ps => by
    obtain ⟨L, h1, h2⟩ := labels ps
    refine ⟨joinH L p.1 p.2, fun q hq => ?_, fun R hR => ?_⟩
    · unfold joinH
      rcases List.mem_cons.1 hq with rfl | hq
      · rw [if_pos rfl]
        split
        · rfl
        · rfl
      · rw [h1 q hq]
    · by_cases hc : ∃ r ∈ R, L r = L p.1
      · have := h2 (p.2 :: R) fun x hx => by
          obtain ⟨r, hr, e⟩ := hR x hx
          unfold joinH at e
          by_cases hx1 : L x = L p.1
          · obtain ⟨r', hr', e'⟩ := hc
            exact ⟨r', by simp [hr'], hx1.trans e'.symm⟩
          · rw [if_neg hx1] at e
            by_cases hr1 : L r = L p.1
            · rw [if_pos hr1] at e; exact ⟨p.2, by simp, e⟩
            · rw [if_neg hr1] at e; exact ⟨r, by simp [hr], e⟩
        simp only [List.length_cons] at this ⊢; omega
      · have := h2 (p.1 :: R) fun x hx => by
          obtain ⟨r, hr, e⟩ := hR x hx
          have hr1 : ¬ L r = L p.1 := fun e => hc ⟨r, hr, e⟩
          unfold joinH at e
          rw [if_neg hr1] at e
          by_cases hx1 : L x = L p.1
          · exact ⟨p.1, by simp, hx1⟩
          · rw [if_neg hx1] at e; exact ⟨r, by simp [hr], e⟩
        simp only [List.length_cons] at this ⊢; omega
theorem labels_goal {L : Nat → Nat} : ∀ (ps : List (Nat × Nat)) (g : Nat → Nat), (∀ p ∈ ps, L p.1 = L p.2) → okP ps → (∀ x, x < 9 → appS ps g x = x) → ∀ x, x < 9 → L (g x) = L x
  | [], g, _, _, h, x, hx => by rw [show g x = x from h x hx]
  | p :: ps, g, hL, ho, h, x, hx => by
    obtain ⟨o1, o2, _⟩ := ho p (by simp)
    have ih := labels_goal ps (swp g p.1 p.2) (fun q hq => hL q (by simp [hq])) (fun q hq => ho q (by simp [hq])) h
    have hp := hL p (by simp)
    have h1 := ih (tr p.1 p.2 x) (tr_lt o1 o2 hx)
    have h2 : swp g p.1 p.2 (tr p.1 p.2 x) = g x := by show g (tr _ _ (tr _ _ x)) = _; rw [tr_tr]
    rw [h2] at h1
    rw [h1]
    unfold tr
    by_cases e1 : x = p.1
    · rw [if_pos e1, e1]; exact hp.symm
    · rw [if_neg e1]
      by_cases e2 : x = p.2
      · rw [if_pos e2, e2]; exact hp
      · rw [if_neg e2]
section
variable {f : Nat → ByteArray}
/-- no fewer swaps are enough -/
theorem swaps_least (hf : SV f) (he : Exch (srcT f)) {ps : List (Nat × Nat)} (ho : okP ps) (h : ∀ x, x < 9 → appS ps (invI (srcT f)) x = x) :
    (ringsF (nxT f) 9).flatten.length ≤ ps.length + (ringsF (nxT f) 9).length := by
  obtain ⟨L, h1, h2⟩ := labels ps
  have hL := labels_goal ps _ h1 ho h
  have hn := nice hf
  have hnd := PO.ringsF_nodup hn 9 (Nat.le_refl _)
  have hlow : ∀ r ∈ ringsF (nxT f) 9, ∀ x ∈ r, x < 9 := fun r hr x hx => by
    have hq := PO.ringQ f hf hr
    obtain ⟨i, hi⟩ := List.getElem?_of_mem hx
    have hil := (List.getElem?_eq_some_iff.1 hi).1
    rw [List.getElem?_eq_getElem hil] at hi
    rw [← Option.some.inj hi]; exact hq.low i hil
  -- all places of a ring have the label of its first one
  have hring : ∀ r (hr : r ∈ ringsF (nxT f) 9), ∀ i (hi : i < r.length), L r[i] = L (r.headD 0) := fun r hr => by
    have hq := PO.ringQ f hf hr
    intro i
    induction i with
    | zero =>
      intro hi
      match r, hi with
      | a :: r, _ => rfl
    | succ i ih =>
      intro hi
      have h3 := ih (by omega)
      have h4 := hq.next i (by omega)
      have h5 : (i + 1) % r.length = i + 1 := Nat.mod_eq_of_lt hi
      simp only [h5] at h4
      have h6 := hL _ (hq.low (i + 1) hi)
      have h7 := (exch_sx hf he (hq.low i (by omega))).2.2
      rw [h4] at h7
      rw [h7] at h6
      rw [← h3]; exact h6.symm
  have := h2 ((ringsF (nxT f) 9).map (fun r => r.headD 0) ++ (List.range 9).filter fun x => decide (x ∉ (ringsF (nxT f) 9).flatten)) fun x hx => by
    by_cases hm : x ∈ (ringsF (nxT f) 9).flatten
    · obtain ⟨r, hr, hxr⟩ := List.mem_flatten.1 hm
      obtain ⟨i, hi⟩ := List.getElem?_of_mem hxr
      have hil := (List.getElem?_eq_some_iff.1 hi).1
      rw [List.getElem?_eq_getElem hil] at hi
      refine ⟨r.headD 0, List.mem_append_left _ (List.mem_map.2 ⟨r, hr, rfl⟩), ?_⟩
      rw [← Option.some.inj hi]; exact hring r hr i hil
    · exact ⟨x, List.mem_append_right _ (List.mem_filter.2 ⟨by simpa using hx, by simpa using hm⟩), rfl⟩
  have hcount : (ringsF (nxT f) 9).flatten.length + ((List.range 9).filter fun x => decide (x ∉ (ringsF (nxT f) 9).flatten)).length ≤ 9 := by
    have h3 : ((ringsF (nxT f) 9).flatten ++ (List.range 9).filter fun x => decide (x ∉ (ringsF (nxT f) 9).flatten)).Nodup := by
      rw [List.nodup_append]
      refine ⟨hnd, List.nodup_range.filter _, fun a ha b hb e => ?_⟩
      subst e
      have := (List.mem_filter.1 hb).2
      simp [ha] at this
    have h4 := PW.nodup_le _ 9 h3 fun a ha => by
      rcases List.mem_append.1 ha with ha | ha
      · obtain ⟨r, hr, har⟩ := List.mem_flatten.1 ha
        exact hlow r hr a har
      · simpa using (List.mem_filter.1 ha).1
    simpa using h4
  simp only [List.length_append, List.length_map] at this
  omega
theorem prs_len : ∀ l : List Nat, (prs l).length = l.length - 1
  | [] => rfl
  | [_] => rfl
  | a :: b :: l => by
    have := prs_len (b :: l)
    simp only [prs, List.length_cons] at this ⊢; omega
theorem prs_count : ∀ rs : List (List Nat), (∀ r ∈ rs, 1 ≤ r.length) → (rs.flatMap prs).length + rs.length = rs.flatten.length
  | [], _ => rfl
  | r :: rs, h => by
    have h1 := prs_count rs fun x hx => h x (by simp [hx])
    have h2 := h r (by simp)
    rw [List.flatMap_cons, List.length_append, prs_len, List.length_cons, List.flatten_cons, List.length_append]
    omega
theorem rings_pos (hf : SV f) : ∀ r ∈ ringsF (nxT f) 9, 1 ≤ r.length := fun r hr => by have := (PO.ringQ f hf hr).two; omega
end
end Go.PS
namespace Go.PM
open Go.RowKit
/-- the table with the sources of the first k places in it -/
def mix (f : Nat → ByteArray) (k : Nat) : Nat → ByteArray := fun q => if q < k then srcT f q else f q
theorem mix_zero (f : Nat → ByteArray) : mix f 0 = f := by funext q; simp [mix]
theorem mix_at (f : Nat → ByteArray) (k : Nat) : srcT (mix f k) k = srcT f k := by simp [srcT, mix]
theorem mix_set (f : Nat → ByteArray) (k : Nat) (hk : k < 9) : (tabA (mix f k)).setIfInBounds k (.string (srcT f k)) = tabA (mix f (k + 1)) := by
  have h := tabC_set (mix f k) k hk (srcT f k)
  have e : (fun q => if q = k then srcT f k else mix f k q) = mix f (k + 1) := by
    funext q
    by_cases hq : q = k
    · subst hq; simp [mix]
    · by_cases h2 : q < k
      · simp [mix, hq, h2, Nat.lt_succ_of_lt h2]
      · have : ¬ q < k + 1 := by omega
        simp [mix, hq, h2, this]
  rw [e] at h
  exact h
end Go.PM
namespace Go.Proofs.YteadhnpmmpninaaGreat
open Go.RowKit Go.PM
attribute [local go_sem] Oper.semAt_some

end Go.Proofs.YteadhnpmmpninaaGreat
namespace Go.PM
open Go.RowKit
/-- a table of which the first k places have turned -/
def mixG (h f : Nat → ByteArray) (k : Nat) : Nat → ByteArray := fun q => if q < k then h q else f q
theorem mixG_zero (h f : Nat → ByteArray) : mixG h f 0 = f := by funext q; simp [mixG]
theorem mixG_at (h f : Nat → ByteArray) (k : Nat) : mixG h f k k = f k := by simp [mixG]
theorem mixG_src (h f : Nat → ByteArray) (k : Nat) : srcT (mixG h f k) k = srcT f k := by simp [srcT, mixG]
theorem mixG_set (h f : Nat → ByteArray) (k : Nat) (hk : k < 9) : (tabA (mixG h f k)).setIfInBounds k (.string (h k)) = tabA (mixG h f (k + 1)) := by
  have h1 := tabC_set (mixG h f k) k hk (h k)
  have e : (fun q => if q = k then h k else mixG h f k q) = mixG h f (k + 1) := by
    funext q
    by_cases hq : q = k
    · subst hq; simp [mixG]
    · by_cases h2 : q < k
      · simp [mixG, hq, h2, Nat.lt_succ_of_lt h2]
      · have : ¬ q < k + 1 := by omega
        simp [mixG, hq, h2, this]
  rw [e] at h1
  exact h1
theorem mixG_same (h f : Nat → ByteArray) (k : Nat) (e : h k = f k) : mixG h f (k + 1) = mixG h f k := by
  funext q
  by_cases hq : q = k
  · subst hq; simp [mixG, e]
  · by_cases h2 : q < k
    · simp [mixG, h2, Nat.lt_succ_of_lt h2]
    · have : ¬ q < k + 1 := by omega
      simp [mixG, h2, this]
theorem tabC_all (f : Nat → ByteArray) : (tabC f).all (·.oneCell') = true := by simp [tabC, Value.oneCell']
theorem tabX_mixG (h f : Nat → ByteArray) : tabX (mixG h f 9) = tabX h := rfl
end Go.PM
namespace Go.Proofs.YteadhnpmmpninaaGreat
open Go.RowKit Go.PM Go.Lib
attribute [local go_sem] Oper.semAt_some

end Go.Proofs.YteadhnpmmpninaaGreat
namespace Go.Proofs.YteadhnpmmpninaaGreat
open Go.RowKit Go.PM Go.Lib
attribute [local go_sem] Oper.semAt_some

set_option maxRecDepth 100000 in
set_option maxHeartbeats 4000000 in
theorem idle_c (f : Nat → ByteArray) (w : World) :
    Calls Tryz.prog 27 #[tabX f] w fun e w' => e = .returned (tabX (mixG (noIdle f) f 9)) ∧ Below w.heap.size w w' := by
  refine (callsIn_wide (n := 5)).1 ?_
  refine callsIn_of_wp_marks Tryz.func27 rfl trivial ?_ rfl
  simp only [Tryz.ntmps27, List.size_toArray, List.length_cons, List.length_nil, Nat.reduceAdd, Nat.reduceSub, Array.replicate_succ, Array.replicate_zero, List.push_toArray, List.append_toArray, List.nil_append, List.cons_append]
  gi_wp2
  refine range_law (F := Fence.wide) (gf := 64) (lf := #[.int .i64 9]) (lb := #[]) rfl (by decide) rfl trivial (fun args w => rfl) (encs := fun p : Nat => #[.int .i64 p]) (xs := List.range 9)
    (below_iter _ _ trivial rfl (by decide)) (fun _ => rfl)
    (fun pre W => At W w.heap.size 51 (tabA (mixG (noIdle f) f pre.length)) ∧ At W (w.heap.size + 1) 51 zA ∧ Below w.heap.size w W)
    (fun _ _ _ => False) ?_ (fun _ => ownFrom_pure _ _) ?_ (fun p => { tmps := #[tabX f, .pointer (some ⟨w.heap.size, 0, none⟩), .pointer (some ⟨w.heap.size + 1, 0, none⟩), .int .i64 p, .func (.func 64) #[.int .i64 9] #[], .int .i64 p, undef, undef, undef, undef, undef, undef, undef, undef, undef], defers := [] }) ?_ ?_ ?_ ?_
  · rintro s A A' row ⟨h1, h2, h3⟩ hg hr
    have hr' : ∀ r, row = some r → w.heap.size + 2 ≤ r := fun r e => by have := (hr r e).1; simp only [World.size_alloc] at this; omega
    refine ⟨(hg.block _ h1.lt (fun e => ?_)).trans h1, (hg.block _ h2.lt (fun e => ?_)).trans h2, h3.trans (below_grown hg h3.size (fun g e => ?_))⟩
    · have := hr' _ e.symm; omega
    · have := hr' _ e.symm; omega
    · have := hr' _ e; omega
  · refine ⟨?_, ?_, ?_⟩
    · rw [List.length_nil, mixG_zero]
      exact (At.new w _ _).alloc _
    · have := At.new (w.alloc (.cells (tabA f) 51)) 51 zA
      rwa [World.size_alloc] at this
    · exact ((Below.refl _ _).alloc (Nat.le_refl _) _).alloc (by simp [World.size_alloc]) _
  · intro l p W Kc hK
    gi_wp2
    exact hK
  · rintro l pre p W ⟨h1, h2, h3⟩ hp hsz
    obtain ⟨hl, hp9⟩ := pre_len pre p hp
    rw [hl] at h1
    have HL : Hid ((pre ++ [p]).length = p + 1) := by show _ = _; simp [hl]
    have HMS := Lib.hid (mixG_set (noIdle f) f p hp9)
    have HSM := Lib.hid (mixG_same (noIdle f) f p)
    have HNI : Hid (noIdle f p = if f p = nm p then emp else f p) := rfl
    clear hl
    have hpc : (tabA (mixG (noIdle f) f p))[p]? = some (.string (f p)) := by rw [← mixG_at (noIdle f) f p]; exact tabC_at _ p hp9
    have hnm := fun W' => name_c p hp9 W'
    generalize hgm : mixG (noIdle f) f p = g' at *
    have i0 : (0 : Int) ≤ (p : Int) := by omega
    have i1 : (p : Int) < 9 := by omega
    have kl := h1.lt
    have kf : W.drew.frozen? ⟨w.heap.size, p, none⟩ = false := h1.frozen p
    have kc : W.drew.cell? ⟨w.heap.size, p, none⟩ = some (.string (f p)) := (h1.cell p).trans hpc
    generalize nm p = q at *
    generalize f p = s at *
    rcases Bool.eq_false_or_eq_true (s.toList == q.toList) with hd | hd
    all_goals
      have hd' := hd
      rw [beq_str] at hd'
      have HD := Lib.hid hd'
      clear hd'
      gi_wp2
      refine region_quiet_inRound (F := Fence.wide) (C := fun w' => w' = W.drew) rfl (by kernel_rfl) (by kernel_rfl) (by kernel_rfl) rfl ?_
      simp only
      gi_big_quiet_step (fail)
      gi_big_quiet_step (fail)
      gi_big_quiet_step (fail)
      gi_big_quiet_step (fail)
      refine BigFrame.wpQuietIn_want (fun _ _ _ _ => trivial) rfl (fun K hK => ?_)
      gi_big_quiet_op
      refine ⟨_, callsIn_wide.2 ((hnm _).mono (fun e w' h => ⟨h.1, h.2.symm⟩)), hK _ ?_⟩
      clear hK K
      gi_big_quiet_step (fail)
      refine wpQuietIn_nil ?_
      intro w' hw'
      subst hw'
      gi_wp2
    · have hs : s = q := by have := HD.out; rwa [decide_eq_true_eq] at this
      refine ⟨(KeepsNew.drew W).from.trans ((KeepsOthers.setCell _ _ _).from _), KeepsIn.zero (by simp [World.size_setCell]), ?_, At.far (w := W.drew) h2 (by simp) _, Below.setCell (w := W.drew) h3.drew (by show w.heap.size ≤ w.heap.size; omega) _⟩
      rw [HL.out, ← HMS.out, HNI.out, if_pos hs]
      exact At.set (w := W.drew) h1 p _
    · have hs : ¬ s = q := by have := HD.out; rwa [decide_eq_false_iff_not] at this
      refine ⟨(KeepsNew.drew W).from, KeepsIn.zero (Nat.le_refl _), ?_, h2, h3.drew⟩
      rw [HL.out, HSM.out (by rw [HNI.out, if_neg hs])]
      exact h1
  · intro D W hD hI hd
    obtain ⟨h1, h2, h3⟩ := hI
    replace h1 : At W (w.heap.size) 51 (tabC (mixG (noIdle f) f 9)) := h1
    have hl1 := h1.lt
    have hl2 := h2.lt
    have hDD : w.heap.size + 2 ≤ D := by first | omega | simpa [World.size_alloc, Nat.add_assoc] using hD
    generalize hg9 : mixG (noIdle f) f 9 = g9 at *
    have HG9 := Lib.hid hg9
    clear hg9
    gi_wp2_with (first | (refine ldIn_row rfl 51 (.tmp 1) rfl (w.heap.size) 51 (tabC g9) h1 (by rfl) 9 9 Tryz.underlying51 (by kernel_rfl) ?_) | (refine stIn_row rfl 51 (.tmp 2) (.tmp 14) rfl rfl (w.heap.size + 1) 51 zA (tabC g9) h2 (by rfl) (by rfl) (by kernel_rfl) rfl (tabC_all _) ?_; intro W6 hA6 hg6))
    have d6 : W6.heap[D]? = some (.deferred (some [])) := (hg6.block D (Array.getElem?_eq_some_iff.1 hd).1 (by simp; omega)).trans hd
    have bel : Below w.heap.size w W6 := h3.trans (below_grown hg6 h3.size (fun g hg => by cases hg; omega))
    simp only [Act.put, List.setIfInBounds_toArray, List.set_cons_succ, List.set_cons_zero]
    have fin : LeavesInM Fence.wide 5 Tryz.prog Tryz.f27 #[tabX f, .pointer (some ⟨w.heap.size, 0, none⟩), .pointer (some ⟨w.heap.size + 1, 0, none⟩), undef, .func (.func 64) #[.int .i64 9] #[], undef, undef, undef, undef, undef, undef, undef, undef, undef, .agg (tabC g9)]
        (fun e w' => e = Ending.returned (tabX (mixG (noIdle f) f 9)) ∧ Below w.heap.size w w') [] .returning (W6.putObj D (.deferred none)) := by
      exact ⟨_, results_row1 Tryz.results27 _ _ (w.heap.size + 1) 51 (tabC g9) (by rfl) ((World.putObj_heap_other (by omega)).trans hA6) 9 9 Tryz.underlying51 (by kernel_rfl), by rw [HG9.out]; rfl, bel.trans ⟨rfl, rfl, rfl, by simp [World.putObj], fun k hk => World.putObj_heap_other (by omega)⟩⟩
    exact ⟨by simp, .inl ⟨D, _, rfl, run_takeDeferred d6, fin⟩⟩
  · intro _ _ _ _ _ _ hf
    exact hf.elim
end Go.Proofs.YteadhnpmmpninaaGreat
namespace Go.Proofs.YteadhnpmmpninaaGreat
open Go.RowKit Go.PM Go.Lib
attribute [local go_sem] Oper.semAt_some

set_option maxRecDepth 100000 in
set_option maxHeartbeats 4000000 in
theorem undone_c (f : Nat → ByteArray) (hE : Exch (srcT f)) (w : World) :
    Calls Tryz.prog 68 #[tabX f] w fun e w' => e = .returned (tabX (bkF f 9)) ∧ Below w.heap.size w w' := by
  refine (callsIn_wide (n := 5)).1 ?_
  refine callsIn_of_wp_marks Tryz.func68 rfl trivial ?_ rfl
  simp only [Tryz.ntmps68, List.size_toArray, List.length_cons, List.length_nil, Nat.reduceAdd, Nat.reduceSub, Array.replicate_succ, Array.replicate_zero, List.push_toArray, List.append_toArray, List.nil_append, List.cons_append]
  gi_wp2
  obtain ⟨W0, hW0⟩ : ∃ W0 : World, W0 = ((w.alloc (.cells (tabA f) 51)).alloc (.cells zA 51)).alloc (.cells zA 51) := ⟨_, rfl⟩
  have hS0 : W0.heap.size = w.heap.size + 3 := by rw [hW0]; simp only [World.size_alloc]
  have hB0 : Below w.heap.size w W0 := by rw [hW0]; (repeat' (first | (with_reducible exact Below.refl _ _) | (with_reducible assumption) | (with_reducible refine Below.alloc ?_ ?_ _) | (with_reducible refine Below.drew ?_) | (with_reducible refine Below.setCell ?_ ?_ _) | (with_reducible exact Nat.le_refl _) | omega | ((repeat (first | rewrite [World.size_alloc] | rewrite [World.size_setCell] | rewrite [World.size_drew])); omega) | (simp; omega) | (simp; done)))
  have hA0 : At W0 w.heap.size 51 (tabA f) := by rw [hW0]; exact ((At.new _ _ _).alloc _).alloc _
  have hA1 : At W0 (w.heap.size + 1) 51 zA := by
    rw [hW0]; have := (At.new (w.alloc (.cells (tabA f) 51)) 51 zA).alloc (.cells zA 51)
    rwa [World.size_alloc] at this
  have hA2 : At W0 (w.heap.size + 1 + 1) 51 zA := by
    rw [hW0]; have := At.new ((w.alloc (.cells (tabA f) 51)).alloc (.cells zA 51)) 51 zA
    rwa [World.size_alloc, World.size_alloc] at this
  rw [← hW0]
  clear hW0
  refine range_law (F := Fence.wide) (gf := 64) (lf := #[.int .i64 9]) (lb := #[]) rfl (by decide) rfl trivial (fun args w => rfl) (encs := fun p : Nat => #[.int .i64 p]) (xs := List.range 9)
    (below_iter _ _ trivial rfl (by decide)) (fun _ => rfl)
    (fun pre W => At W (w.heap.size + 1 + 1) 51 (tabA (bkF f pre.length)) ∧ At W (w.heap.size + 1) 51 zA ∧ Below w.heap.size w W ∧ At W w.heap.size 51 (tabA f))
    (fun _ _ _ => False) ?_ (fun _ => ownFrom_pure _ _) ?_ (fun p => { tmps := #[tabX f, .pointer (some ⟨w.heap.size, 0, none⟩), .pointer (some ⟨w.heap.size + 1, 0, none⟩), .pointer (some ⟨w.heap.size + 1 + 1, 0, none⟩), .int .i64 p, undef, undef, .func (.func 64) #[.int .i64 9] #[], .int .i64 p, undef, undef, undef, undef, undef, undef, undef, undef, undef, undef, undef, undef], defers := [] }) ?_ ?_ ?_ ?_
  · rintro s A A' row ⟨h1, h2, h3, h4⟩ hg hr
    have hr' : ∀ r, row = some r → w.heap.size + 3 ≤ r := fun r e => by have := (hr r e).1; omega
    refine ⟨(hg.block _ h1.lt (fun e => ?_)).trans h1, (hg.block _ h2.lt (fun e => ?_)).trans h2, h3.trans (below_grown hg h3.size (fun g e => ?_)), (hg.block _ h4.lt (fun e => ?_)).trans h4⟩
    · have := hr' _ e.symm; omega
    · have := hr' _ e.symm; omega
    · have := hr' _ e; omega
    · have := hr' _ e.symm; omega
  · exact ⟨hA2, hA1, hB0, hA0⟩
  · intro l p W Kc hK
    gi_wp2
    exact hK
  · clear hA0 hA1 hA2 hB0
    rintro l pre p W ⟨h1, h2, h3, h4⟩ hp hsz
    obtain ⟨hl, hp9⟩ := pre_len pre p hp
    rw [hl] at h1
    have HL : Hid ((pre ++ [p]).length = p + 1) := by show _ = _; simp [hl]
    have HBK : Hid (bkF f (p + 1) = upd (bkF f p) (pidx (srcT f p)) (nm p)) := rfl
    have hip := hE.place hp9
    have hi9 := (pidx_spec hip).1
    have HTS := Lib.hid (tabC_set (bkF f p) (pidx (srcT f p)) hi9 (nm p))
    have hsrc := source_c f p hp9 W
    have HIX := Lib.hid (fun W' => indexOf_yes (srcT f p) hip W')
    have HNM := Lib.hid (fun W' => name_c p hp9 W')
    have hpc : (tabA (bkF f p))[pidx (srcT f p)]? = some (.string (bkF f p (pidx (srcT f p)))) := tabC_at _ _ hi9
    clear hl hip
    generalize hgm : bkF f p = g' at *
    generalize nm p = q at *
    generalize pidx (srcT f p) = j at *
    have HSRC := Lib.hid hsrc
    clear hsrc
    have i0 : (0 : Int) ≤ (j : Int) := by omega
    have i1 : (j : Int) < 9 := by omega
    have l1 := h1.lt
    have l2 := h2.lt
    have l4 := h4.lt
    have q0 : W.cell? ⟨w.heap.size, 0, none⟩ = some (.string (f 0)) := h4.cell 0
    have q1 : W.cell? ⟨w.heap.size, 1, none⟩ = some (.string (f 1)) := h4.cell 1
    have q2 : W.cell? ⟨w.heap.size, 2, none⟩ = some (.string (f 2)) := h4.cell 2
    have q3 : W.cell? ⟨w.heap.size, 3, none⟩ = some (.string (f 3)) := h4.cell 3
    have q4 : W.cell? ⟨w.heap.size, 4, none⟩ = some (.string (f 4)) := h4.cell 4
    have q5 : W.cell? ⟨w.heap.size, 5, none⟩ = some (.string (f 5)) := h4.cell 5
    have q6 : W.cell? ⟨w.heap.size, 6, none⟩ = some (.string (f 6)) := h4.cell 6
    have q7 : W.cell? ⟨w.heap.size, 7, none⟩ = some (.string (f 7)) := h4.cell 7
    have q8 : W.cell? ⟨w.heap.size, 8, none⟩ = some (.string (f 8)) := h4.cell 8
    gi_wp2
    refine ⟨trivial, ?_⟩
    refine CallsIn.inRound l (callsIn_wide.2 (HSRC.out.mono ?_))
    rintro e w2 ⟨rfl, hb2⟩
    clear q0 q1 q2 q3 q4 q5 q6 q7 q8
    gi_wp2
    refine ⟨trivial, ?_⟩
    refine CallsIn.inRound l (callsIn_wide.2 ((HIX.out _).mono ?_))
    rintro e w3 ⟨rfl, rfl⟩
    have k1 : At w2 (w.heap.size + 1 + 1) 51 (tabA g') := h1.keep hb2
    have k2 : At w2 (w.heap.size + 1) 51 zA := h2.keep hb2
    have k3 : Below w.heap.size w w2 := h3.trans (hb2.mono h3.size)
    have k4 : At w2 w.heap.size 51 (tabA f) := h4.keep hb2
    have kf := k1.frozen j
    have kc : w2.cell? ⟨w.heap.size + 1 + 1, j, none⟩ = some (.string (g' j)) := (k1.cell j).trans hpc
    have kl := k1.lt
    have kF : KeepsFrom W0.heap.size W w2 := keepsFrom_below hb2
    have kS : W.heap.size ≤ w2.heap.size := hb2.size
    clear h1 h2 h3 h4 hb2
    gi_wp2
    refine ⟨trivial, ?_⟩
    refine CallsIn.inRound l (callsIn_wide.2 ((HNM.out _).mono ?_))
    rintro e w3 ⟨rfl, rfl⟩
    gi_wp2
    refine ⟨kF.trans ((KeepsOthers.setCell _ _ _).from _), KeepsIn.zero (by simp [World.size_setCell]; exact kS), ?_, k2.far (by first | (simp; done) | (simp; omega)) _, k3.setCell (by show w.heap.size ≤ w.heap.size + 1 + 1; omega) _, k4.far (by first | (simp; done) | (simp; omega)) _⟩
    rw [HL.out, HBK.out]
    have := k1.set j (.string q)
    rw [show (tabA g').setIfInBounds j (.string q) = tabA (upd g' j q) from HTS.out] at this
    exact this
  · intro D W hD hI hd
    obtain ⟨h1, h2, h3, h4⟩ := hI
    clear hA0 hA1 hA2 hB0 h4
    replace h1 : At W (w.heap.size + 1 + 1) 51 (tabC (bkF f 9)) := h1
    have hl1 := h1.lt
    have hl2 := h2.lt
    have hDD : w.heap.size + 3 ≤ D := by first | omega | simpa [World.size_alloc, Nat.add_assoc] using hD
    generalize hg9 : bkF f 9 = g9 at *
    have HG9 := Lib.hid hg9
    clear hg9
    gi_wp2_with (first | (refine ldIn_row rfl 51 (.tmp 3) rfl (w.heap.size + 1 + 1) 51 (tabC g9) h1 (by rfl) 9 9 Tryz.underlying51 (by kernel_rfl) ?_) | (refine stIn_row rfl 51 (.tmp 2) (.tmp 20) rfl rfl (w.heap.size + 1) 51 zA (tabC g9) h2 (by rfl) (by rfl) (by kernel_rfl) rfl (tabC_all _) ?_; intro W6 hA6 hg6))
    have d6 : W6.heap[D]? = some (.deferred (some [])) := (hg6.block D (Array.getElem?_eq_some_iff.1 hd).1 (by simp; omega)).trans hd
    have bel : Below w.heap.size w W6 := h3.trans (below_grown hg6 h3.size (fun g hg => by cases hg; omega))
    simp only [Act.put, List.setIfInBounds_toArray, List.set_cons_succ, List.set_cons_zero]
    have fin : LeavesInM Fence.wide 5 Tryz.prog Tryz.f68 #[tabX f, .pointer (some ⟨w.heap.size, 0, none⟩), .pointer (some ⟨w.heap.size + 1, 0, none⟩), .pointer (some ⟨w.heap.size + 1 + 1, 0, none⟩), undef, undef, undef, .func (.func 64) #[.int .i64 9] #[], undef, undef, undef, undef, undef, undef, undef, undef, undef, undef, undef, undef, .agg (tabC g9)]
        (fun e w' => e = Ending.returned (tabX (bkF f 9)) ∧ Below w.heap.size w w') [] .returning (W6.putObj D (.deferred none)) := by
      exact ⟨_, results_row1 Tryz.results68 _ _ (w.heap.size + 1) 51 (tabC g9) (by rfl) ((World.putObj_heap_other (by omega)).trans hA6) 9 9 Tryz.underlying51 (by kernel_rfl), by rw [HG9.out]; rfl, bel.trans ⟨rfl, rfl, rfl, by simp [World.putObj], fun k hk => World.putObj_heap_other (by omega)⟩⟩
    exact ⟨by simp, .inl ⟨D, _, rfl, run_takeDeferred d6, fin⟩⟩
  · intro _ _ _ _ _ _ hf
    exact hf.elim
end Go.Proofs.YteadhnpmmpninaaGreat
namespace Go.PM
open Go.RowKit
theorem own_box_ne' {w : World} {base : Nat} {e t : TypeId} {size n b : Nat} {v : Value} {cs : List Value} {c : Array Value} (h : w.ownsRow base e size v n cs) (hA : At w b t c) (hne : e ≠ t) : some b ≠ v.ownBlock := by
  rcases h.2 with ⟨rfl, _⟩ | ⟨g, cap, cur, rfl, _, hg, _⟩
  · simp [Value.ownBlock]
  · intro e'
    simp only [Value.ownBlock, Option.some.injEq] at e'
    subst e'
    unfold At at hA
    rw [hA] at hg
    cases hg
    exact hne rfl
theorem own_turn' {w w' : World} {base : Nat} {e : TypeId} {size n : Nat} {v : Value} {cs : List Value} {row : Option Nat} (h : w.ownsRow base e size v n cs) (hg : w.grownBy w' row) (hr : ∀ r, row = some r → ∃ o : Obj, w.heap[r]? = some o ∧ o.isCells = false) : w'.ownsRow base e size v n cs := by
  refine h.kept hg ?_
  rcases h.2 with ⟨rfl, _⟩ | ⟨g, cap, cur, rfl, _, hh, _⟩
  · exact .inl rfl
  · refine .inr fun e' => ?_
    obtain ⟨o, ho, hc⟩ := hr g e'.symm
    rw [hh] at ho
    cases ho
    cases hc
theorem at_turn' {w w' : World} {b : Nat} {t : TypeId} {c : Array Value} {row : Option Nat} (h : At w b t c) (hg : w.grownBy w' row) (hr : ∀ r, row = some r → ∃ o : Obj, w.heap[r]? = some o ∧ o.isCells = false) : At w' b t c := by
  refine (hg.block b h.lt fun e' => ?_).trans h
  obtain ⟨o, ho, hc⟩ := hr b e'.symm
  unfold At at h
  rw [h] at ho
  cases ho
  cases hc
theorem at_grown' {w w' : World} {b : Nat} {t : TypeId} {cs : Array Value} {row : Option Nat} (h : At w b t cs) (hg : w.grownBy w' row) (hne : some b ≠ row) : At w' b t cs := (hg.block b h.lt hne).trans h
end Go.PM
