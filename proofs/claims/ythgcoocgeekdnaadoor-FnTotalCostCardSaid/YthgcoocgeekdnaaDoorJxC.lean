import Derived.Test.YthgcoocgeekdnaaDoorIm3
import Derived.Test.YthgcoocgeekdnaaDoorM2
import Derived.Test.YthgcoocgeekdnaaDoorTail
import Derived.BigQuiet
import Derived.ChangeAlike
import Derived.RegionTactic
import Derived.Test.YthgcoocgeekdnaaDoorClP
import Derived.Test.YthgcoocgeekdnaaDoorJxB
import Derived.Test.YthgcoocgeekdnaaDoorIm2
import Derived.Test.YthgcoocgeekdnaaDoorMoves
import Derived.Test.YthgcoocgeekdnaaDoorHold
import Derived.Test.YthgcoocgeekdnaaDoorHar
import Derived.Test.YthgcoocgeekdnaaDoorAhd
import Derived.Laws.CopyOwn
import Derived.Outline
import Derived.Laws.EntriesVeiled
import Derived.Test.YthgcoocgeekdnaaDoorNames
import Derived.Test.YthgcoocgeekdnaaDoorSpS2
import Derived.Test.YthgcoocgeekdnaaDoorNamesIn
import Derived.Test.YthgcoocgeekdnaaDoorSource
namespace Go.PM
open Go.RowKit
def zS : Nat → UInt8 := fun _ => 0
abbrev zSA : Array Value := #[.int .u8 0, .int .u8 0, .int .u8 0, .int .u8 0, .int .u8 0, .int .u8 0, .int .u8 0, .int .u8 0, .int .u8 0, .int .u8 0, .int .u8 0]
theorem stC_zS : stC zS = zSA := by simp [stC, zS]
def stOf (s : ByteArray) : Nat → UInt8 := if stateV s then ofB s else zS
theorem stOf_yes {s : ByteArray} (h : stateV s = true) : stOf s = ofB s := if_pos h
theorem stOf_no {s : ByteArray} (h : stateV s = false) : stOf s = zS := if_neg (by rw [h]; decide)
def valL (l : List UInt8) (k : Nat) : Bool := (l.take k).all isV
theorem valL_succ (l : List UInt8) (k : Nat) (hk : k < l.length) : valL l (k + 1) = (valL l k && isV l[k]) := by
  unfold valL; rw [take_snoc l k hk, List.all_append]; simp
def mixS (s : ByteArray) (k : Nat) : Nat → UInt8 := fun p => if p < k then ofB s p else 0
theorem mixS_zero (s : ByteArray) : mixS s 0 = zS := by funext p; simp [mixS, zS]
theorem mixS_succ (s : ByteArray) (k : Nat) : updS (mixS s k) k (ofB s k) = mixS s (k + 1) := by
  funext p
  unfold updS mixS
  by_cases h : p = k
  · subst h; simp
  · by_cases h2 : p < k
    · simp [h, h2, Nat.lt_succ_of_lt h2]
    · have : ¬ p < k + 1 := by omega
      simp [h, h2, this]
theorem mixS_full (s : ByteArray) : stC (mixS s 11) = stC (ofB s) := stC_congr fun p hp => by simp [mixS, hp]
end Go.PM
namespace Go.Proofs.YthgcoocgeekdnaaDoor
open Go.RowKit Go.PM

end Go.Proofs.YthgcoocgeekdnaaDoor
namespace Go.Proofs.YthgcoocgeekdnaaDoor
open Go.RowKit Go.PM

/-- a whole array is read in a quiet region: the step -/
theorem row_step {P : Program} {ops : Array Oper} {C : World → Prop} {Q : Act → Prop} {a : Act} {o : Oper} {rest : List Oper} (hw : Region.wanted o (yielded ops a.tmps) = true) (ty : TypeId) (x : Operand) (ho : o.op = .load ty x) (b : Nat) (t : TypeId) (cs : Array Value)
    (hx : a.eval x = .pointer (some ⟨b, 0, none⟩)) (hC : ∀ W, C W → At W b t cs) (k : Nat) (e : TypeId) (hu : P.underlying ty = some (.array k e)) (hi : (P.info? ty).map (·.size) = some cs.size) (h : wpQuiet P ops C Q rest (a.put o.dst (.agg cs))) : wpQuiet P ops C Q (o :: rest) a :=
  BigFrame.wpQuiet_want hw fun _ hK => quiet_row ty x ho b t cs hx hC k e hu hi (hK _ h)

end Go.Proofs.YthgcoocgeekdnaaDoor
namespace Go.PF
open Go.PM Go.PD Go.RowKit Go.Lib
theorem all_pre {α : Type} {p : α → Bool} {pre xs : List α} (h : pre <+: xs) (hn : pre.all p = false) : xs.all p = false := by
  obtain ⟨r, rfl⟩ := h
  rw [List.all_append, hn]; rfl
theorem kf_cells {B : Nat} {A A' : World} {row : Option Nat} (hg : A.grownBy A' row) (hr : ∀ g o, row = some g → B ≤ g → A.heap[g]? = some o → o.isCells = true) : KeepsFrom B A A' :=
  ⟨hg.size, fun k o hk h1 h2 => (hg.block k (Array.getElem?_eq_some_iff.1 h1).1 (fun e => by have := hr k o e.symm hk h1; rw [h2] at this; cases this)).trans h1⟩
theorem all_snoc {α : Type} (p : α → Bool) (pre : List α) (x : α) : (pre ++ [x]).all p = (pre.all p && p x) := by simp
end Go.PF
namespace Go.Proofs.YthgcoocgeekdnaaDoor
open Go.RowKit Go.PM Go.PD Go.PF Go.Lib
attribute [local go_sem] Oper.semAt_some

theorem parValid_c (s : ByteArray) (w : World) :
    Calls Tryd.prog 33 #[.string s] w fun e w' => e = .returned (.bool (parOk s.data.toList)) ∧ w = w' := by
  have HR := Lib.hid (fun W => areReg_c s W)
  have HO : Hid (parOk s.data.toList = (decide (1 ≤ s.size ∧ s.size ≤ 4) && decide (s.data.toList.Nodup ∧ ∀ c ∈ s.data.toList, c ∈ regsL))) := by
    show _ = _
    unfold parOk
    rw [size_data]
  generalize parOk s.data.toList = po at *
  generalize decide (s.data.toList.Nodup ∧ ∀ c ∈ s.data.toList, c ∈ regsL) = rr at *
  by_cases h1 : 1 ≤ s.size
  · by_cases h2 : s.size ≤ 4
    · have t1 : (1 : Int) ≤ (s.size : Int) := by omega
      have t2 : (s.size : Int) ≤ 4 := by omega
      have HO2 : Hid (po = rr) := by show _ = _; rw [HO.out, decide_eq_true ⟨h1, h2⟩]; rfl
      clear HO h1 h2
      go_enter Tryd.func33, Tryd.ntmps33
      go_wp2_with (go_at_call 50; refine (HR.out _).mono ?_; rintro e w' ⟨rfl, rfl⟩)
      go_ret
      exact ⟨by rw [HO2.out]; rfl, rfl⟩
    · have t1 : (1 : Int) ≤ (s.size : Int) := by omega
      have t2 : ¬ (s.size : Int) ≤ 4 := by omega
      have HO2 : Hid (po = false) := by show _ = _; rw [HO.out, decide_eq_false (fun h => h2 h.2)]; rfl
      clear HO h1 h2
      go_enter Tryd.func33, Tryd.ntmps33
      go_wp2
      go_ret
      exact ⟨by rw [HO2.out]; rfl, rfl⟩
  · have t1 : ¬ (1 : Int) ≤ (s.size : Int) := by omega
    have HO2 : Hid (po = false) := by show _ = _; rw [HO.out, decide_eq_false (fun h => h1 h.1)]; rfl
    clear HO h1
    go_enter Tryd.func33, Tryd.ntmps33
    go_wp2
    go_ret
    exact ⟨by rw [HO2.out]; rfl, rfl⟩
theorem parName_c (s : ByteArray) (k : Nat) (hk : k < s.size) (hs : s.size ≤ 1048576) (w : World) :
    Calls Tryd.prog 75 #[.string s, .int .i64 k] w fun e w' => e = .returned (.string (s.extract k (k + 1))) ∧ w = w' := by
  have i0 : (0 : Int) ≤ (k : Int) := by omega
  have i1 : (k : Int) < (s.size : Int) := by omega
  have i2 : (k : Int) + 1 ≤ (s.size : Int) := by omega
  go_enter Tryd.func75, Tryd.ntmps75
  go_wp2
  go_ret
  exact ⟨rfl, rfl⟩
end Go.Proofs.YthgcoocgeekdnaaDoor
namespace Go.Proofs.YthgcoocgeekdnaaDoor
open Go.RowKit Go.PM Go.PD Go.PF
attribute [local go_sem] Oper.semAt_some

set_option maxRecDepth 100000 in
set_option maxHeartbeats 2000000 in
theorem parCall_c (s : ByteArray) (qs : List ByteArray) (A : Option Addr) (cap : Nat) (hs : s.size ≤ 1048576) (w : World) (hx : RdT w (.slice A qs.length cap) qs) (hq : qs.length ≤ 1048576) :
    Calls Tryd.prog 54 #[.string s, .slice A qs.length cap] w fun e w' => ∃ v', e = .returned (.tuple #[v', .bool (callOk s.data.toList qs)]) ∧ w'.ownsRow w.heap.size 98 2 v' (callL s.data.toList qs).length (mcells (callL s.data.toList qs)) ∧ Below w.heap.size w w' := by
  have HV := Lib.hid (fun W => parValid_c s W)
  have HOK : Hid (callOk s.data.toList qs = ((parOk s.data.toList && decide (qs.length = s.size)) && qs.all isS)) := by
    show _ = _
    unfold callOk
    rw [size_data]
  have HN0 := Lib.hid (fun h => callL_no (ps := s.data.toList) (qs := qs) h)
  have HY0 := Lib.hid (fun h => callL_yes (ps := s.data.toList) (qs := qs) h)
  have hown0 : ∀ W : World, W.ownsRow w.heap.size 98 2 (.slice none 0 0) ([] : List Mv).length (mcells []) := fun W => ⟨rfl, .inl ⟨rfl, rfl⟩⟩
  rcases Bool.eq_false_or_eq_true (parOk s.data.toList) with h1 | h1
  · by_cases h2 : qs.length = s.size
    · have hl4 : s.size ≤ 4 := by have := (par_len h1).2; rwa [size_data] at this
      have HXS : Hid (∀ k (hk : k < (pcM s.data.toList qs).length) (h2 : k < qs.length) (h3 : k < s.size), (pcM s.data.toList qs)[k] = (s.extract k (k + 1), qs[k])) := fun k hk h2 h3 => by
        have h4 : k < s.data.toList.length := by rw [size_data]; exact h3
        rw [pcM_at k hk h4 h2, extract_one s k h3, List.getD_eq_getElem?_getD, List.getElem?_eq_getElem h4]; rfl
      have HXL : Hid ((pcM s.data.toList qs).length = qs.length) := by show _ = _; rw [pcM_len (by rw [size_data]; exact h2), size_data, h2]
      have HOK2 : Hid (callOk s.data.toList qs = qs.all isS) := by show _ = _; rw [HOK.out, h1, decide_eq_true h2]; rfl
      have HNO : Hid (∀ k (hk : k < qs.length), isS qs[k] = false → callOk s.data.toList qs = false) := fun k hk h => by
        rw [HOK2.out, List.all_eq_false]
        exact ⟨_, List.getElem_mem hk, by rw [h]; decide⟩
      have HYES : Hid ((∀ k (hk : k < qs.length), isS qs[k] = true) → callOk s.data.toList qs = true) := fun h => by
        rw [HOK2.out, List.all_eq_true]
        intro q hq
        obtain ⟨k, hk, rfl⟩ := List.getElem_of_mem hq
        exact h k hk
      have HNM := Lib.hid (fun k hk W => parName_c s k hk hs W)
      rw [h1] at HV
      obtain ⟨A', cap', hA, hn, hc, hcell⟩ := hx.open
      obtain ⟨rfl, -, rfl⟩ : A = A' ∧ qs.length = qs.length ∧ cap = cap' := by
        injection hA with a1 a2 a3
        exact ⟨a1, a2, by omega⟩
      clear hx h1 HOK HOK2 hA
      generalize callOk s.data.toList qs = ok at *
      generalize callL s.data.toList qs = cl at *
      generalize pcM s.data.toList qs = xs at *
      obtain ⟨i0, hi0, hz0, hz1, hz2⟩ := info_parts infoMv
      have hmk := fun W : World => run_make (P := Tryd.prog) W 47 98 i0 _ Tryd.underlying47 hi0 hz0 .i64 .i64 qs.length qs.length (by omega) (Int.le_refl _) (by rw [hz2]; omega) (by omega)
      simp only [Int.toNat_natCast, hz1] at hmk
      have hO := own_made w w.heap.size 98 #[Value.string ⟨#[]⟩, Value.string ⟨#[]⟩] 2 qs.length rfl (by omega) (by omega) (Nat.le_refl _)
      have hB : Below w.heap.size w (w.alloc (Obj.cells (madeCells #[Value.string ⟨#[]⟩, Value.string ⟨#[]⟩] (qs.length * 2)) 98)) := (Below.refl _ _).alloc (Nat.le_refl _) _
      have HZ0 : Hid (half xs 0 = (List.replicate qs.length [Value.string ⟨#[]⟩, Value.string ⟨#[]⟩]).flatten) := by show _ = _; rw [half_zero, HXL.out]
      have t2 : (((qs.length : Nat) : Int) == ((s.size : Nat) : Int)) = true := by simp [h2]
      have t3 : (((qs.length : Nat) : Int) != ((s.size : Nat) : Int)) = false := by simp [h2]
      have H2 := Lib.hid h2
      clear h2
      go_enter Tryd.func54, Tryd.ntmps54
      go_wp2_with (go_at_call 33; refine (HV.out _).mono ?_; rintro e w' ⟨rfl, rfl⟩)
      generalize (w.alloc (Obj.cells (madeCells #[Value.string ⟨#[]⟩, Value.string ⟨#[]⟩] (qs.length * 2)) 98)) = W1 at *
      go_loopw [7, 8, 24] (fun _ _ i wr => ∃ (k : Nat), k ≤ qs.length ∧ i = .int .i64 k ∧ Hid (∀ j (hj : j < qs.length), j < k → isS qs[j] = true) ∧ wr.ownsRow w.heap.size 98 2 (.slice (some ⟨w.heap.size, 0, none⟩) qs.length qs.length) qs.length (half xs k) ∧ Below w.heap.size w wr) (fun _ _ i _ => qs.length - (RowKit.intOf i).toNat)
      case atStart => exact ⟨0, by omega, rfl, fun j _ hj => absurd hj (Nat.not_lt_zero j), by rw [HZ0.out]; exact hO, hB⟩
      case round =>
        clear hO hB
        obtain ⟨k, hk, rfl, hall, ho, hb⟩ := hrel
        have hbs := hb.size
        by_cases hlt : k < qs.length
        · obtain ⟨b, off, rfl, hbl, hc1⟩ := hcell k hlt
          have hd1 := (hb.cell (p := ⟨b, off + k, none⟩) hbl).trans hc1
          have hks : k < s.size := by have := H2.out; omega
          have hkx : k < xs.length := by rw [HXL.out]; exact hlt
          have hxk := HXS.out k hkx hlt hks
          have hset := half_set xs k hkx
          have hat := half_at xs k hkx
          rw [hxk] at hset
          have HSET := Lib.hid hset
          have HNK := Lib.hid (HNO.out k hlt)
          have HNX : Hid (isS qs[k] = true → ∀ j (hj : j < qs.length), j < k + 1 → isS qs[j] = true) := fun h j hj hjk => by
            by_cases e : j = k
            · subst e; exact h
            · exact hall.out j hj (by omega)
          have HIS := Lib.hid (fun W => isSource_c qs[k] W)
          have HNA := Lib.hid (HNM.out k hks)
          clear hc1 hcell hset hxk
          have hf1 := ho.frozenAt (k * 2)
          have hf2 := ho.frozenAt (k * 2 + 1)
          have hg1 := (ho.cellAt (k * 2) (by omega)).trans hat.1
          have hg2 := (ho.cellAt (k * 2 + 1) (by omega)).trans hat.2
          have hol := (own_lt ho).1
          have i0' : (0 : Int) ≤ (k : Int) := by omega
          have i1' : (k : Int) < (qs.length : Int) := by omega
          clear hat
          generalize qs[k] = q at *
          generalize s.extract k (k + 1) = nmk at *
          rcases Bool.eq_false_or_eq_true (isS q) with hs1 | hs1
          · rw [hs1] at HIS
            have HK := Lib.hid (HNX.out hs1)
            clear hs1
            go_wp2_with (first | (go_at_call 74; refine (HIS.out _).mono ?_; rintro e w' ⟨rfl, rfl⟩) | (go_at_call 75; refine (HNA.out _).mono ?_; rintro e w' ⟨rfl, rfl⟩))
            go_roundw
            case rel =>
              refine ⟨k + 1, by omega, by go_num, HK, ?_, ?_⟩
              · rw [← HSET.out]
                exact ((ho.stored (k * 2) _).1.stored (k * 2 + 1) _).1
              · exact (hb.setCell (Nat.le_refl _) _).setCell (Nat.le_refl _) _
            case measure => simp [RowKit.intOf]; omega
          · rw [hs1] at HIS
            have HK := Lib.hid (HNK.out hs1)
            clear hs1
            go_wp2_with (first | (go_at_call 74; refine (HIS.out _).mono ?_; rintro e w' ⟨rfl, rfl⟩))
            go_ret2
            exact ⟨_, by rw [HK.out]; rfl, by rw [HN0.out HK.out]; exact hown0 _, hb⟩
        · have HT : Hid (ok = true) := HYES.out fun j hj => hall.out j hj (by omega)
          have hk' : k = qs.length := by omega
          have ho2 := ho
          rw [hk', ← HXL.out, half_full] at ho2
          have HO3 : Hid (wr.ownsRow w.heap.size 98 2 (.slice (some ⟨w.heap.size, 0, none⟩) qs.length qs.length) xs.length (mcells xs)) := by
            have := ho2
            rw [show (Value.slice (some ⟨w.heap.size, 0, none⟩) xs.length xs.length) = (Value.slice (some ⟨w.heap.size, 0, none⟩) qs.length qs.length) by rw [HXL.out]] at this
            exact this
          have i1' : ¬ (k : Int) < (qs.length : Int) := by omega
          clear hcell ho2 ho hk'
          go_wp2
          go_ret2
          exact ⟨_, by rw [HT.out]; rfl, by rw [HY0.out HT.out]; exact HO3.out, hb⟩
    · have HK : Hid (callOk s.data.toList qs = false) := by show _ = _; rw [HOK.out, h1, decide_eq_false h2]; rfl
      have t2 : (((qs.length : Nat) : Int) == ((s.size : Nat) : Int)) = false := by simp; omega
      have t3 : (((qs.length : Nat) : Int) != ((s.size : Nat) : Int)) = true := by simp; omega
      rw [h1] at HV
      clear h1 h2 HOK
      go_enter Tryd.func54, Tryd.ntmps54
      go_wp2_with (go_at_call 33; refine (HV.out _).mono ?_; rintro e w' ⟨rfl, rfl⟩)
      go_ret2
      exact ⟨_, by rw [HK.out]; rfl, by rw [HN0.out HK.out]; exact hown0 _, Below.refl _ _⟩
  · have HK : Hid (callOk s.data.toList qs = false) := by show _ = _; rw [HOK.out, h1]; rfl
    rw [h1] at HV
    clear h1 HOK
    go_enter Tryd.func54, Tryd.ntmps54
    go_wp2_with (go_at_call 33; refine (HV.out _).mono ?_; rintro e w' ⟨rfl, rfl⟩)
    go_ret2
    exact ⟨_, by rw [HK.out]; rfl, by rw [HN0.out HK.out]; exact hown0 _, Below.refl _ _⟩
set_option maxHeartbeats 800000 in
theorem imMovesFor_c (ps az : ByteArray) (hp : ps.size ≤ 1048576) (ha : az.size ≤ 1048576) (w : World) (hT : U8w w) :
    Calls Tryd.prog 37 #[.string ps, .string az] w fun e w' => ∃ v', e = .returned (.tuple #[v', .bool (clOk ps.data.toList az.data.toList)]) ∧ w'.ownsRow w.heap.size 98 2 v' (clL ps.data.toList az.data.toList).length (mcells (clL ps.data.toList az.data.toList)) ∧ Below w.heap.size w w' := by
  have HS := Lib.hid (split_c az ha w hT)
  go_enter Tryd.func37, Tryd.ntmps37
  go_wp2_with fail
  refine HS.out.mono ?_
  rintro e w1 ⟨A, qs, rfl, hR, hq, hP, hb1⟩
  have hs1 := hb1.size
  obtain ⟨e1, e2⟩ := call_eq (ps := ps.data.toList) hP
  have HC := Lib.hid (parCall_c ps qs A qs.length hp w1 hR hq)
  rw [e1, e2] at HC
  clear hR hP e1 e2 hq
  go_wp2_with fail
  refine HC.out.mono ?_
  rintro e w2 ⟨v', rfl, ho, hb2⟩
  go_wp2
  go_ret2
  exact ⟨_, rfl, own_more ho hs1, hb1.trans (hb2.mono hs1)⟩
theorem imCallValid_c (ps az : ByteArray) (hp : ps.size ≤ 1048576) (ha : az.size ≤ 1048576) (w : World) (hT : U8w w) :
    Calls Tryd.prog 17 #[.string ps, .string az] w fun e w' => e = .returned (.bool (clOk ps.data.toList az.data.toList)) ∧ Below w.heap.size w w' := by
  have HS := Lib.hid (imMovesFor_c ps az hp ha w hT)
  generalize clOk ps.data.toList az.data.toList = ok at *
  go_enter Tryd.func17, Tryd.ntmps17
  go_wp2_with fail
  refine HS.out.mono ?_
  rintro e w1 ⟨v', rfl, ho, hb1⟩
  go_wp2
  go_ret
  exact ⟨rfl, hb1⟩
end Go.Proofs.YthgcoocgeekdnaaDoor
namespace Go.Proofs.YthgcoocgeekdnaaDoor
open Go.RowKit Go.PM Go.PD Go.PF
attribute [local go_sem] Oper.semAt_some

end Go.Proofs.YthgcoocgeekdnaaDoor
namespace Go.PF
open Go.PM Go.PD Go.RowKit Go.Lib
theorem mv_sz {xs : List Mv} (h : MV xs) : ∀ m ∈ xs, m.1.size ≤ 9223372036854775807 ∧ m.2.size ≤ 9223372036854775807 := fun m hm => by
  have := h.1 m hm
  unfold mok at this
  rw [Bool.and_eq_true] at this
  rw [isP_size this.1, isS_size this.2]
  decide
def sdOk (ps az : ByteArray) : Bool := clOk ps.data.toList az.data.toList && decide (ps = az)
def ag0 (ps : List UInt8) (xs : List Mv) (k : Nat) : Prop := ∀ j (_ : j < k) (hj : j < xs.length), (decide (xs[j].1 = xs[j].2) || inPs ps xs[j]) = true
theorem arB_one {ps : List UInt8} (hp : parOk ps = true) {xs : List Mv} (h : MV xs) : ∀ c ∈ ps, (srcM xs (ch c)).size = 1 := fun c hc => src_one h (par_place hp c hc)
end Go.PF
namespace Go.Proofs.YthgcoocgeekdnaaDoor
open Go.RowKit Go.PM Go.PD Go.PF Go.Lib
attribute [local go_sem] Oper.semAt_some
def coI (ps az : List UInt8) : Int := if clOk ps az then cioI (clM ps az) else -1

end Go.Proofs.YthgcoocgeekdnaaDoor
namespace Go.Proofs.YthgcoocgeekdnaaDoor
open Go.RowKit Go.PM Go.PD Go.PF Go.Lib
attribute [local go_sem] Oper.semAt_some
theorem clL_MV (ps az : List UInt8) : MV (clL ps az) := by
  unfold clL
  split
  · next h => exact cl_MV h
  · exact MV_nil
theorem ca_one {ps : List UInt8} (hp : parOk ps = true) {f : Nat → ByteArray} (hf : SVal (srcT f)) : ∀ c ∈ ps, (behF f (ch c)).size = 1 := fun c hc => by
  unfold behF
  rw [if_pos (par_place hp c hc)]
  exact isS_size (hf _ (ch_nm (par_place hp c hc)).1)

set_option maxHeartbeats 800000 in
theorem imCallCost_c (ps az : ByteArray) (hp : ps.size ≤ 1048576) (ha : az.size ≤ 1048576) (w : World) (hT : U8w w) :
    Calls Tryd.prog 18 #[.string ps, .string az] w fun e w' => e = .returned (.int .i64 (coI ps.data.toList az.data.toList)) ∧ Below w.heap.size w w' := by
  have HV := Lib.hid (imMovesFor_c ps az hp ha w hT)
  rcases Bool.eq_false_or_eq_true (clOk ps.data.toList az.data.toList) with h1 | h1
  · have HC := Lib.hid (fun v W hx => imCountInOrder_c (clM ps.data.toList az.data.toList) v W hx (by have := MV_len (cl_MV h1); omega))
    have HO : Hid (coI ps.data.toList az.data.toList = cioI (clM ps.data.toList az.data.toList)) := if_pos h1
    rw [clL_yes h1, h1] at HV
    clear h1
    generalize coI ps.data.toList az.data.toList = co at *
    generalize clM ps.data.toList az.data.toList = xs at *
    go_enter Tryd.func18, Tryd.ntmps18
    go_wp2_with fail
    refine HV.out.mono ?_
    rintro e w1 ⟨v', rfl, ho, hb1⟩
    have hs1 := hb1.size
    have hR : RdM w1 v' xs := Rd.of_own ho
    go_wp2_with fail
    refine (HC.out _ _ hR).mono ?_
    rintro e w3 ⟨rfl, hb3⟩
    go_wp2
    go_ret
    exact ⟨by rw [HO.out]; rfl, hb1.trans (hb3.mono hs1)⟩
  · have HO : Hid (coI ps.data.toList az.data.toList = -1) := by show _ = _; unfold coI; rw [h1]; rfl
    rw [h1] at HV
    clear h1
    generalize coI ps.data.toList az.data.toList = co at *
    go_enter Tryd.func18, Tryd.ntmps18
    go_wp2_with fail
    refine HV.out.mono ?_
    rintro e w1 ⟨v', rfl, ho, hb1⟩
    go_wp2
    go_ret
    exact ⟨by rw [HO.out]; rfl, hb1⟩
end Go.Proofs.YthgcoocgeekdnaaDoor
namespace Go.Proofs.YthgcoocgeekdnaaDoor
open Go.PM Go.PD Go.PF Go.PW Go.RowKit Go.Lib
/-- what is no register -/
def noReg (a : UInt8) : Bool := !decide (a ∈ regsL)
theorem flt_add {α : Type _} (p : α → Bool) : ∀ l : List α, (l.filter p).length + (l.filter fun x => !p x).length = l.length
  | [] => rfl
  | a :: l => by
    have := flt_add p l
    cases h : p a <;> simp [h] <;> omega
theorem clM_rng {ps az : List UInt8} (h : az.length = ps.length) : clM ps az = (List.range ps.length).map fun i => (ch (ps.getD i 0), ch (az.getD i 0)) := by
  apply List.ext_getElem
  · simp [clM, h]
  · intro i h1 h2
    have h3 : i < ps.length := by simpa using h2
    rw [clM_at i h1 h3 (by omega)]
    simp [List.getElem?_eq_getElem h3, List.getElem?_eq_getElem (show i < az.length by omega)]
theorem cost_is {ps az : List UInt8} (h : clOk ps az = true) : cioI (clM ps az) = (((List.range ps.length).filter fun i => !sdH ps az i).length : Int) + ((closedB (clM ps az)).length : Int) := by
  have e : cioI (clM ps az) = ((busyF (clM ps az) 9).length : Int) + ((closedB (clM ps az)).length : Int) := by
    unfold cioI; rw [cl_mv h]; rfl
  rw [e, ← busy_count (cl_MV h)]
  unfold busyM
  rw [clM_rng (cl_len h), List.filter_map, List.length_map]
  have e : ((fun m : Mv => decide (m.1 ≠ m.2)) ∘ fun i => ((ch (ps.getD i 0), ch (az.getD i 0)) : Mv)) = fun i => !sdH ps az i := by
    funext i
    unfold sdH
    show decide (ch (ps.getD i 0) ≠ ch (az.getD i 0)) = _
    by_cases he : ps.getD i 0 = az.getD i 0
    · rw [he]; simp
    · rw [decide_eq_true (p := ch (ps.getD i 0) ≠ ch (az.getD i 0)) (fun e => he (ch_inj e)), decide_eq_false he]; rfl
  rw [e]
theorem cnt_range (p : UInt8 → Bool) (az : List UInt8) : ((List.range az.length).filter fun i => p (az.getD i 0)).length = az.countP p := by
  have e : az = (List.range az.length).map fun i => az.getD i 0 := by
    apply List.ext_getElem
    · simp
    · intro i h1 h2
      simp [List.getElem?_eq_getElem h1]
  conv => rhs; rw [e]
  rw [List.countP_map, List.countP_eq_length_filter]
  rfl
theorem filter_le {α : Type _} (p q : α → Bool) (l : List α) (h : ∀ a ∈ l, p a = true → q a = true) : (l.filter p).length ≤ (l.filter q).length := by
  rw [← List.countP_eq_length_filter, ← List.countP_eq_length_filter]
  exact List.countP_mono_left h
theorem cost_must {ps az : List UInt8} (h : clOk ps az = true) : 0 ≤ cioI (clM ps az) ∧ (az.countP noReg : Int) ≤ cioI (clM ps az) := by
  have h1 := cost_is h
  have h2 := filter_le (fun i => noReg (az.getD i 0)) (fun i => !sdH ps az i) (List.range ps.length) (fun i hi hn => by
    have hi : i < ps.length := List.mem_range.1 hi
    unfold noReg at hn
    unfold sdH
    rw [Bool.not_eq_true', decide_eq_false_iff_not] at hn
    rw [Bool.not_eq_true', decide_eq_false_iff_not]
    intro e
    refine hn ?_
    rw [← e, List.getD_eq_getElem?_getD, List.getElem?_eq_getElem hi]
    exact par_reg (cl_par h) _ (List.getElem_mem hi))
  have h3 := cnt_range noReg az
  rw [cl_len h] at h3
  omega
/-- what any parameters need at the least -/
def mustN (cs : List ByteArray) : Nat := (cs.map fun c => c.data.toList.countP noReg).sum
theorem tot_must (ps : List UInt8) : ∀ cs : List ByteArray, (∀ c ∈ cs, clOk ps c.data.toList = true) → 0 ≤ totI ps cs ∧ (mustN cs : Int) ≤ totI ps cs
  | [], _ => by simp [totI, mustN]
  | c :: cs, h => by
    have h1 := tot_must ps cs (fun d hd => h d (List.mem_cons_of_mem _ hd))
    have h2 := cost_must (h c (List.mem_cons_self ..))
    have e : totI ps (c :: cs) = cioI (clM ps c.data.toList) + totI ps cs := by simp [totI]
    have e2 : mustN (c :: cs) = c.data.toList.countP noReg + mustN cs := by simp [mustN]
    rw [e, e2]
    omega
/-- what has been seen: the first of the best -/
def Good (cs : List ByteArray) (s : List (List UInt8)) (x : Cho) : Prop := x.best ∈ s ∧ x.least = totI x.best cs ∧ (∀ q ∈ s, x.least ≤ totI q cs) ∧ 1 ≤ x.count
theorem good_step {cs : List ByteArray} {s : List (List UInt8)} {x : Cho} (h : Good cs s x) (h0 : 0 ≤ x.least) (p : List UInt8) : Good cs (s ++ [p]) (vis cs x p) := by
  obtain ⟨h1, h2, h3, h4⟩ := h
  unfold vis
  split
  · rename_i hl
    refine ⟨by simp, rfl, fun q hq => ?_, Nat.le_refl _⟩
    show totI p cs ≤ _
    rcases List.mem_append.1 hq with hq | hq
    · have := h3 q hq; omega
    · have e : q = p := by simpa using hq
      rw [e]; exact Int.le_refl _
  · rename_i hl
    split
    · rename_i he
      refine ⟨List.mem_append_left _ h1, h2, fun q hq => ?_, by show 1 ≤ x.count + 1; omega⟩
      show x.least ≤ _
      rcases List.mem_append.1 hq with hq | hq
      · exact h3 q hq
      · have e : q = p := by simpa using hq
        rw [e]; omega
    · refine ⟨List.mem_append_left _ h1, h2, fun q hq => ?_, h4⟩
      rcases List.mem_append.1 hq with hq | hq
      · exact h3 q hq
      · have e : q = p := by simpa using hq
        rw [e]; omega
theorem good_fold {cs : List ByteArray} : ∀ (l s : List (List UInt8)) (x : Cho), Good cs s x → (∀ q ∈ s ++ l, 0 ≤ totI q cs) → Good cs (s ++ l) (l.foldl (vis cs) x)
  | [], s, x, h, _ => by rw [List.append_nil]; exact h
  | a :: l, s, x, h, hq => by
    have h0 : 0 ≤ x.least := by rw [h.2.1]; exact hq _ (List.mem_append_left _ h.1)
    have e : s ++ a :: l = (s ++ [a]) ++ l := by simp
    rw [e] at hq ⊢
    exact good_fold l (s ++ [a]) (vis cs x a) (good_step h h0 a) hq
theorem good_all {cs : List ByteArray} {l : List (List UInt8)} (hl : l ≠ []) (hq : ∀ q ∈ l, 0 ≤ totI q cs) : Good cs l (l.foldl (vis cs) cho0) := by
  cases l with
  | nil => exact absurd rfl hl
  | cons a l =>
    have h1 : Good cs [a] (vis cs cho0 a) := by
      have e : vis cs cho0 a = ⟨a, totI a cs, 1⟩ := if_pos (.inl (by decide))
      rw [e]
      exact ⟨by simp, rfl, fun q hq => by have e : q = a := by simpa using hq
                                          rw [e]; exact Int.le_refl _, Nat.le_refl _⟩
    exact good_fold l [a] (vis cs cho0 a) h1 hq
theorem best_good {n : Int} {cs : List ByteArray} (h : csOk n cs = true) : parOk (choF n cs).best = true ∧ ((choF n cs).best.length : Int) = n ∧ (choF n cs).least = totI (choF n cs).best cs ∧ 0 ≤ (choF n cs).least ∧ (∀ ps, parOk ps = true → (ps.length : Int) = n → (choF n cs).least ≤ totI ps cs) ∧ 1 ≤ (choF n cs).count ∧ (mustN cs : Int) ≤ (choF n cs).least := by
  obtain ⟨h1, h4, h5, _⟩ := cs_at h
  have hm : ∀ qs, qs ∈ arrs n.toNat [] ↔ (parOk qs = true ∧ qs.length = n.toNat) := fun qs => arrs_par (by omega) (by omega) qs
  have hne : arrs n.toNat [] ≠ [] := fun e => by
    have h2 := abc_par (n := n.toNat) (by omega) (by omega)
    have := (hm (abc n.toNat)).2 h2
    rw [e] at this; cases this
  have hq : ∀ q ∈ arrs n.toNat [], 0 ≤ totI q cs ∧ (mustN cs : Int) ≤ totI q cs := fun q hq => by
    obtain ⟨k1, k2⟩ := (hm q).1 hq
    exact tot_must q cs (cs_cl h k1 (by omega))
  have hg := good_all hne (fun q hx => (hq q hx).1)
  have e : choF n cs = (arrs n.toNat []).foldl (vis cs) cho0 := by unfold choF; rw [if_pos h]; rfl
  rw [← e] at hg
  obtain ⟨g1, g2, g3, g4⟩ := hg
  obtain ⟨k1, k2⟩ := (hm _).1 g1
  have k3 := hq _ g1
  exact ⟨k1, by omega, g2, by omega, fun ps p1 p2 => g3 ps ((hm ps).2 ⟨p1, by omega⟩), g4, by omega⟩
theorem reg_mem (k : Nat) (hk : k < 6) : regsL.getD k 0 ∈ regsL := by
  match k, hk with
  | 0, _ | 1, _ | 2, _ | 3, _ | 4, _ | 5, _ => decide
theorem grS_in {cs : List ByteArray} {i : Nat} {ps b : List UInt8} {k : Nat} (hk : k < 6) (h : ∀ d ∈ b, d ∈ regsL ∧ d ∉ ps) : ∀ d ∈ grS cs i ps b k, d ∈ regsL ∧ d ∉ ps := by
  unfold grS
  split
  · exact h
  · rename_i hn
    have h1 : ∀ d ∈ [regsL.getD k 0], d ∈ regsL ∧ d ∉ ps := fun d hd => by
      have e : d = regsL.getD k 0 := by simpa using hd
      rw [e]; exact ⟨reg_mem k hk, hn⟩
    split
    · exact h1
    · split
      · exact h1
      · exact h
theorem grK_in {cs : List ByteArray} {i : Nat} {ps : List UInt8} : ∀ k, k ≤ 6 → ∀ d ∈ grK cs i ps k, d ∈ regsL ∧ d ∉ ps
  | 0, _ => fun d hd => by cases hd
  | k + 1, hk => grS_in (by omega) (grK_in k (by omega))
theorem grS_one {cs : List ByteArray} {i : Nat} {ps b : List UInt8} {k : Nat} (h : b.length = 1 ∨ (b = [] ∧ regsL.getD k 0 ∉ ps)) : (grS cs i ps b k).length = 1 := by
  unfold grS
  split
  · rename_i hn
    rcases h with h | h
    · exact h
    · exact absurd hn h.2
  · split
    · rfl
    · split
      · rfl
      · rcases h with h | h
        · exact h
        · cases h.1
theorem grK_one {cs : List ByteArray} {i : Nat} {ps : List UInt8} (j : Nat) (hj : regsL.getD j 0 ∉ ps) : ∀ k, j < k → (grK cs i ps k).length = 1
  | 0, h => by omega
  | k + 1, h => by
    refine grS_one ?_
    by_cases e : j = k
    · subst e
      have hl := grK_le cs i ps j
      cases hb : grK cs i ps j with
      | nil => exact .inr ⟨rfl, hj⟩
      | cons a l =>
        rw [hb] at hl
        left
        simp at hl ⊢
        exact hl
    · exact .inl (grK_one j hj k (by omega))
where
  grK_le (cs : List ByteArray) (i : Nat) (ps : List UInt8) : ∀ k, (grK cs i ps k).length ≤ 1
  | 0 => Nat.zero_le _
  | k + 1 => by
    have h := grK_le cs i ps k
    show (grS cs i ps (grK cs i ps k) k).length ≤ 1
    unfold grS
    split
    · exact h
    · split
      · exact Nat.le_refl _
      · split
        · exact Nat.le_refl _
        · exact h
theorem reg_free {ps : List UInt8} (h : ps.length ≤ 5) : ∃ j, j < 6 ∧ regsL.getD j 0 ∉ ps := by
  by_cases hc : ∃ j, j < 6 ∧ regsL.getD j 0 ∉ ps
  · exact hc
  · exfalso
    have h2 : ∀ a ∈ regsL, a ∈ ps := fun a ha => by
      obtain ⟨j, hj, rfl⟩ := List.getElem_of_mem ha
      have hj6 : j < 6 := hj
      refine Classical.byContradiction fun hn => hc ⟨j, hj6, ?_⟩
      rw [List.getD_eq_getElem?_getD, List.getElem?_eq_getElem hj]
      exact hn
    have := Go.PM.nodup_le regsL ps (by decide) h2
    have e : regsL.length = 6 := rfl
    omega
theorem grF_good (cs : List ByteArray) : ∀ i, i ≤ 4 → (grF cs i).Nodup ∧ (∀ c ∈ grF cs i, c ∈ regsL) ∧ (grF cs i).length = i
  | 0, _ => ⟨List.nodup_nil, (fun c hc => by cases hc), rfl⟩
  | i + 1, hi => by
    obtain ⟨h1, h2, h3⟩ := grF_good cs i (by omega)
    obtain ⟨j, hj, hn⟩ := reg_free (ps := grF cs i) (by omega)
    have h4 := grK_one (cs := cs) (i := i) j hn 6 hj
    have h5 := grK_in (cs := cs) (i := i) (ps := grF cs i) 6 (Nat.le_refl _)
    show (grF cs i ++ grK cs i (grF cs i) 6).Nodup ∧ (∀ c ∈ grF cs i ++ grK cs i (grF cs i) 6, c ∈ regsL) ∧ (grF cs i ++ grK cs i (grF cs i) 6).length = i + 1
    generalize grK cs i (grF cs i) 6 = b at *
    match b, h4 with
    | [d], _ =>
      have h6 := h5 d (by simp)
      refine ⟨List.nodup_append.2 ⟨h1, by simp, fun a ha x hx e => ?_⟩, fun c hc => ?_, by simp [h3]⟩
      · have e2 : x = d := by simpa using hx
        subst e2; subst e; exact h6.2 ha
      · rcases List.mem_append.1 hc with hc | hc
        · exact h2 c hc
        · have e2 : c = d := by simpa using hc
          rw [e2]; exact h6.1
theorem gre_good {n : Int} {cs : List ByteArray} (h : csOk n cs = true) : parOk (grF cs n.toNat) = true ∧ ((grF cs n.toNat).length : Int) = n := by
  obtain ⟨h1, h4, _, _⟩ := cs_at h
  obtain ⟨k1, k2, k3⟩ := grF_good cs n.toNat (by omega)
  refine ⟨?_, by omega⟩
  unfold parOk
  rw [Bool.and_eq_true, decide_eq_true_eq, decide_eq_true_eq]
  exact ⟨by omega, k1, k2⟩
/-- the best parameters, in the words of the answers -/
theorem cho_no {n : Int} {cs : List ByteArray} (h : csOk n cs = false) : choF n cs = cho0 := by unfold choF; rw [h]; rfl
theorem lc_ok (n : Int) (cs : List ByteArray) : decide (0 ≤ lcI n cs) = csOk n cs := by
  cases h : csOk n cs with
  | true => exact decide_eq_true (best_good h).2.2.2.1
  | false =>
    have : lcI n cs = -1 := by unfold lcI; rw [cho_no h]; rfl
    rw [this]; rfl
theorem tc_best {n : Int} {cs : List ByteArray} (h : csOk n cs = true) : tcI (bpB n cs).data.toList cs = lcI n cs ∧ ibB (bpB n cs) cs = true := by
  obtain ⟨k1, k2, k3, k4, _⟩ := best_good h
  have e : (bpB n cs).data.toList = (choF n cs).best := by simp [bpB]
  have e2 : ((bpB n cs).size : Int) = n := by rw [← size_data, e]; exact k2
  have h1 : tcI (bpB n cs).data.toList cs = lcI n cs := by
    rw [e]
    unfold tcI
    rw [k1, k2, h]
    exact k3.symm
  refine ⟨h1, ?_⟩
  unfold ibB
  rw [h1, e2, decide_eq_true (p := lcI n cs = lcI n cs) rfl, Bool.and_true]
  exact decide_eq_true k4
theorem tc_greedy {n : Int} {cs : List ByteArray} (h : csOk n cs = true) : lcI n cs ≤ tcI (gpB n cs).data.toList cs ∧ ibB (gpB n cs) cs = decide (tcI (gpB n cs).data.toList cs = lcI n cs) := by
  obtain ⟨k1, k2⟩ := gre_good h
  obtain ⟨_, _, _, k4, k5, _⟩ := best_good h
  have e0 : gpB n cs = ⟨(grF cs n.toNat).toArray⟩ := by unfold gpB; rw [h]; rfl
  have e : (gpB n cs).data.toList = grF cs n.toNat := by rw [e0]
  have e2 : ((gpB n cs).size : Int) = n := by rw [← size_data, e]; exact k2
  have h1 : tcI (gpB n cs).data.toList cs = totI (grF cs n.toNat) cs := by
    rw [e]
    unfold tcI
    rw [k1, k2, h]; rfl
  have h2 := k5 _ k1 k2
  have h3 : lcI n cs = (choF n cs).least := rfl
  refine ⟨by omega, ?_⟩
  unfold ibB
  rw [e2, decide_eq_true (p := 0 ≤ tcI (gpB n cs).data.toList cs) (by omega), Bool.true_and]
theorem tc_pos {ps : List UInt8} {cs : List ByteArray} (h : 0 ≤ tcI ps cs) : parOk ps = true ∧ csOk (ps.length : Int) cs = true ∧ tcI ps cs = totI ps cs ∧ lcI (ps.length : Int) cs ≤ tcI ps cs := by
  cases h1 : parOk ps with
  | false =>
    have e : tcI ps cs = -1 := by unfold tcI; rw [h1]; rfl
    omega
  | true => cases h2 : csOk (ps.length : Int) cs with
    | false =>
      have e : tcI ps cs = -1 := by unfold tcI; rw [h1, h2]; rfl
      omega
    | true =>
      have e : tcI ps cs = totI ps cs := by unfold tcI; rw [h1, h2]; rfl
      refine ⟨rfl, rfl, e, ?_⟩
      rw [e]
      exact (best_good h2).2.2.2.2.1 ps h1 rfl
theorem tc_neg {ps : List UInt8} {cs : List ByteArray} (h : tcI ps cs < 0) : csOk (ps.length : Int) cs = false ∨ parOk ps = false := by
  cases h1 : parOk ps with
  | false => exact .inr rfl
  | true => cases h2 : csOk (ps.length : Int) cs with
    | false => exact .inl rfl
    | true =>
      have e : tcI ps cs = totI ps cs := by unfold tcI; rw [h1, h2]; rfl
      have := (tot_must ps cs (cs_cl h2 h1 rfl)).1
      omega
theorem cl_no_par {ps az : List UInt8} (h : parOk ps = false) : clOk ps az = false := by
  cases hb : clOk ps az with
  | false => rfl
  | true => rw [cl_par hb] at h; cases h
theorem totI_take (ps : List UInt8) (cs : List ByteArray) (k : Nat) (hk : k < cs.length) : totI ps (cs.take (k + 1)) = totI ps (cs.take k) + cioI (clM ps cs[k].data.toList) := by rw [take_snoc cs k hk, totI_snoc]
end Go.Proofs.YthgcoocgeekdnaaDoor
namespace Go.PM
open Go.RowKit
/-- place p is the first one of a ring of moves that are read once each -/
def Clo (ws : List Mv) (p : Nat) : Prop := ∃ (n : Nat) (o : Nat → ByteArray), 0 < n ∧ o 0 = nm p ∧ o n = nm p ∧ ∀ k, k < n → (o k, o (k + 1)) ∈ ws ∧ rdN ws (o k) = 1 ∧ p ≤ pidx (o k)
theorem ring_wrap {o : Nat → ByteArray} {n k : Nat} (_h0 : 0 < n) (e : o n = o 0) (hk : k < n) : ∃ j, j < n ∧ o (k + 1) = o j := by
  by_cases h : k + 1 < n
  · exact ⟨k + 1, h, rfl⟩
  · exact ⟨0, by omega, by rw [show k + 1 = n by omega, e]⟩
theorem ring_prev {o : Nat → ByteArray} {n k : Nat} (h0 : 0 < n) (e : o n = o 0) (hk : k < n) : ∃ j, j < n ∧ o (j + 1) = o k := by
  by_cases h : k = 0
  · exact ⟨n - 1, by omega, by rw [show n - 1 + 1 = n by omega, e, h]⟩
  · exact ⟨k - 1, by omega, by rw [show k - 1 + 1 = k by omega]⟩
theorem one_reader {ws : List Mv} {a : ByteArray} (h : rdN ws a = 1) {x y : Mv} (hx : x ∈ ws) (hy : y ∈ ws) (ex : x.2 = a) (ey : y.2 = a) : x = y := by
  obtain ⟨i, hi, rfl⟩ := List.getElem_of_mem hx
  have h1 := rdN_erase ws i hi a
  rw [if_pos ex, h] at h1
  have h2 := rdN_zero.1 (show rdN (ws.eraseIdx i) a = 0 by omega)
  rcases erase_or hi hy with e | e
  · exact e.symm
  · exact absurd ey (h2 y e)
theorem redM_rdN {ws : List Mv} {m : Mv} (hne : m.1 ≠ m.2) {a : ByteArray} (h1 : a ≠ m.1) (h2 : a ≠ m.2) : rdN (redM m ws) a = rdN ws a := by
  unfold redM; split
  · rfl
  · exact (instM_rdN m.2 m.1 hne ws).2.2 a h2 h1
/-- a ring of moves that are read once each is what it was when one is done that can be done ahead of all others -/
theorem Clo.some_ {ws : List Mv} (hw : Wt ws) {i : Nat} (hi : i < ws.length) (hf : rdN ws ws[i].1 = 0) (p : Nat) : Clo (redM ws[i] (ws.eraseIdx i)) p ↔ Clo ws p := by
  have hm := List.getElem_mem hi
  have hne := hw.ne _ hm
  have hk1 := erase_key hw.keys hi
  constructor
  · rintro ⟨n, o, hn, e0, en, h⟩
    have een : o n = o 0 := en.trans e0.symm
    have hkey : ∀ k, k < n → (∃ x ∈ ws.eraseIdx i, x.1 = o k) := fun k hk => by
      have h1 := List.mem_map_of_mem (f := (·.1)) (h k hk).1
      rw [redM_keys] at h1
      obtain ⟨x, hx, e⟩ := List.mem_map.1 h1
      exact ⟨x, hx, e⟩
    have hnk : ∀ k, k < n → o k ≠ ws[i].1 := fun k hk e => by
      obtain ⟨x, hx, ex⟩ := hkey k hk
      exact hk1 x hx (ex.trans e)
    have hnm : ∀ k, k < n → o k ≠ ws[i].2 := fun k hk e => by
      obtain ⟨x, hx, ex⟩ := hkey k hk
      have hp := hw.to_ x (erase_mem hx)
      rw [ex, e] at hp
      have hr := (h k hk).2.1
      unfold redM at hr
      rw [if_neg (by rw [(isP_cases hp).1]; decide), e, (instM_rdN ws[i].2 ws[i].1 hne _).1] at hr
      cases hr
    refine ⟨n, o, hn, e0, en, fun k hk => ⟨?_, ?_, (h k hk).2.2⟩⟩
    · have hmem := (h k hk).1
      obtain ⟨j, hj, ej⟩ := ring_wrap hn een hk
      unfold redM at hmem
      split at hmem
      · exact erase_mem hmem
      · obtain ⟨x, hx, e1, (⟨e2, e3⟩ | ⟨e2, e3⟩)⟩ := instM_mem hmem
        · exact absurd (ej ▸ e3) (hnk j hj)
        · rw [e3]; exact erase_mem hx
    · have hr := (h k hk).2.1
      rw [redM_rdN hne (hnk k hk) (hnm k hk)] at hr
      rw [rdN_erase ws i hi, hr, if_neg (fun e => hnm k hk e.symm)]
  · rintro ⟨n, o, hn, e0, en, h⟩
    have een : o n = o 0 := en.trans e0.symm
    have hnk : ∀ k, k < n → o k ≠ ws[i].1 := fun k hk e => by
      have := (h k hk).2.1
      rw [e, hf] at this; cases this
    have hnm : ∀ k, k < n → o k ≠ ws[i].2 := fun k hk e => by
      obtain ⟨j, hj, ej⟩ := ring_prev hn een hk
      have := one_reader (h k hk).2.1 (h j hj).1 hm ej e.symm
      exact hnk j hj (by rw [← this])
    refine ⟨n, o, hn, e0, en, fun k hk => ⟨?_, ?_, (h k hk).2.2⟩⟩
    · have hmem : (o k, o (k + 1)) ∈ ws.eraseIdx i := by
        rcases erase_or hi (h k hk).1 with e | e
        · exact absurd (by rw [← e]) (hnk k hk)
        · exact e
      obtain ⟨j, hj, ej⟩ := ring_wrap hn een hk
      unfold redM
      split
      · exact hmem
      · unfold instM
        refine List.mem_map.2 ⟨_, hmem, ?_⟩
        rw [if_neg]
        show ¬ o (k + 1) = _
        rw [ej]; exact hnm j hj
    · rw [redM_rdN hne (hnk k hk) (hnm k hk)]
      have := rdN_erase ws i hi (o k)
      rw [if_neg (fun e => hnm k hk e.symm), (h k hk).2.1] at this
      omega
/-- the moves stand in the order of their places -/
def Srt (ws : List Mv) : Prop := ws.Pairwise fun a b => pidx a.1 < pidx b.1
theorem Srt.of_keys {ws vs : List Mv} (h : Srt ws) (e : vs.map (·.1) = ws.map (·.1)) : Srt vs := by
  have h1 : (ws.map (·.1)).Pairwise fun a b => pidx a < pidx b := List.pairwise_map.2 h
  rw [← e] at h1
  exact (List.pairwise_map (f := fun m : Mv => m.1) (R := fun a b => pidx a < pidx b)).1 h1
theorem Srt.erase {ws : List Mv} (h : Srt ws) (i : Nat) : Srt (ws.eraseIdx i) := List.Pairwise.sublist (List.eraseIdx_sublist ws i) h
theorem Srt.first {ws : List Mv} (h : Srt ws) (h0 : 0 < ws.length) : ∀ m ∈ ws, pidx ws[0].1 ≤ pidx m.1 := by
  cases ws with
  | nil => simp at h0
  | cons x xs =>
    intro m hm
    rw [List.mem_cons] at hm
    rcases hm with rfl | hm
    · exact Nat.le_refl _
    · exact Nat.le_of_lt ((List.pairwise_cons.1 h).1 m hm)
theorem pidx_inj {a b : ByteArray} (ha : isP a = true) (hb : isP b = true) (e : pidx a = pidx b) : a = b := by
  rw [← (pidx_spec ha).2, e, (pidx_spec hb).2]
theorem Clo.none_other {ws : List Mv} (hw : Wt ws) (hs : Srt ws) (h0 : 0 < ws.length) (hn : aheadI ws = none) {p : Nat} (hp : nm p ≠ ws[0].1) (hp9 : p < 9) : Clo (redM (spT, ws[0].1) ws) p ↔ Clo ws p := by
  obtain ⟨f1, f2, f3⟩ := hw.full hn
  have hm := List.getElem_mem h0
  have hc := isP_cases (hw.to_ _ hm)
  have hne : (spT : ByteArray) ≠ ws[0].1 := fun e => hc.2 e.symm
  have hr : redM (spT, ws[0].1) ws = instM ws[0].1 spT ws := by
    unfold redM; rw [if_neg (by show ¬ isD ws[0].1 = true; rw [hc.1]; decide)]
  rw [hr]
  obtain ⟨r1, _, r3⟩ := instM_rdN ws[0].1 spT hne ws
  constructor
  · rintro ⟨n, o, hn', e0, en, h⟩
    have een : o n = o 0 := en.trans e0.symm
    have hkey : ∀ k, k < n → (∃ x ∈ ws, x.1 = o k) := fun k hk => by
      have h1 := List.mem_map_of_mem (f := (·.1)) (h k hk).1
      rw [instM_keys] at h1
      obtain ⟨x, hx, e⟩ := List.mem_map.1 h1
      exact ⟨x, hx, e⟩
    have hnt : ∀ k, k < n → o k ≠ spT := fun k hk e => by
      obtain ⟨x, hx, ex⟩ := hkey k hk
      exact (isP_cases (hw.to_ x hx)).2 (ex.trans e)
    have hnm : ∀ k, k < n → o k ≠ ws[0].1 := fun k hk e => by
      have := (h k hk).2.1
      rw [e, r1] at this; cases this
    refine ⟨n, o, hn', e0, en, fun k hk => ⟨?_, ?_, (h k hk).2.2⟩⟩
    · obtain ⟨j, hj, ej⟩ := ring_wrap hn' een hk
      obtain ⟨x, hx, e1, (⟨e2, e3⟩ | ⟨e2, e3⟩)⟩ := instM_mem (h k hk).1
      · exact absurd (ej ▸ e3) (hnt j hj)
      · rw [e3]; exact hx
    · have := (h k hk).2.1
      rwa [r3 _ (hnm k hk) (hnt k hk)] at this
  · rintro ⟨n, o, hn', e0, en, h⟩
    have een : o n = o 0 := en.trans e0.symm
    have hnm : ∀ k, k < n → o k ≠ ws[0].1 := fun k hk e => by
      have h1 := (h k hk).2.2
      have h2 := hs.first h0 _ (h 0 hn').1
      simp only [e0, pidx_nm hp9] at h2
      rw [e] at h1
      exact hp (pidx_inj (isP_nm hp9) (hw.to_ _ hm) (by rw [pidx_nm hp9]; omega))
    have hnt : ∀ k, k < n → o k ≠ spT := fun k hk e => by
      exact (isP_cases (hw.to_ _ (h k hk).1)).2 e
    refine ⟨n, o, hn', e0, en, fun k hk => ⟨?_, ?_, (h k hk).2.2⟩⟩
    · obtain ⟨j, hj, ej⟩ := ring_wrap hn' een hk
      unfold instM
      refine List.mem_map.2 ⟨_, (h k hk).1, ?_⟩
      rw [if_neg]
      show ¬ o (k + 1) = _
      rw [ej]; exact hnm j hj
    · rw [r3 _ (hnm k hk) (hnt k hk)]; exact (h k hk).2.1
theorem pigeon : ∀ (n : Nat) (f : Nat → Nat), (∀ k, k ≤ n → f k < n) → ∃ i j, i < j ∧ j ≤ n ∧ f i = f j := by
  intro n f h
  refine Classical.byContradiction fun hno => ?_
  have hnd : ((List.range (n + 1)).map f).Nodup := by
    rw [List.nodup_iff_pairwise_ne, List.pairwise_map]
    refine List.Pairwise.imp_of_mem ?_ (List.pairwise_lt_range (n := n + 1))
    intro a b _ hb hab e
    exact hno ⟨a, b, hab, by have := List.mem_range.1 hb; omega, e⟩
  have := nodup_le ((List.range (n + 1)).map f) (List.range n) hnd (fun a ha => by
    obtain ⟨k, hk, rfl⟩ := List.mem_map.1 ha
    exact List.mem_range.2 (h k (by have := List.mem_range.1 hk; omega)))
  simp at this
  omega
theorem Clo.none_self {ws : List Mv} (hw : Wt ws) (hs : Srt ws) (h0 : 0 < ws.length) (hn : aheadI ws = none) : Clo ws (pidx ws[0].1) ∧ ¬ Clo (redM (spT, ws[0].1) ws) (pidx ws[0].1) := by
  obtain ⟨f1, f2, f3⟩ := hw.full hn
  have hm := List.getElem_mem h0
  have hP := hw.to_ _ hm
  have hc := isP_cases hP
  have hne : (spT : ByteArray) ≠ ws[0].1 := fun e => hc.2 e.symm
  have hnm := (pidx_spec hP).2
  constructor
  · -- go round
    let nx : ByteArray → ByteArray := fun a => srcM ws a
    have hMV : MV ws := ⟨fun m hm => by
      unfold mok isS
      rw [hw.to_ m hm, Bool.true_and, Bool.or_eq_true]
      rcases hw.from_ m hm with h | h | h
      · exact .inl h
      · exact .inr h
      · exact absurd h (rdN_zero.1 f3 m hm), hw.keys⟩
    have hnx : ∀ m ∈ ws, nx m.1 = m.2 := fun m hm => srcM_of_mem hMV hm
    obtain ⟨o, ho0, hos⟩ : ∃ o : Nat → ByteArray, o 0 = ws[0].1 ∧ ∀ k, o (k + 1) = nx (o k) := ⟨fun k => Nat.rec ws[0].1 (fun _ a => nx a) k, rfl, fun _ => rfl⟩
    have hin : ∀ k, (o k, o (k + 1)) ∈ ws := by
      intro k
      induction k with
      | zero =>
        rw [hos, ho0, hnx _ hm]; exact hm
      | succ k ih =>
        obtain ⟨x, hx, ex⟩ := f2 _ ih
        have e1 : x.1 = o (k + 1) := ex
        rw [hos (k + 1), ← e1, hnx x hx]; exact hx
    have hisP : ∀ k, isP (o k) = true := fun k => hw.to_ _ (hin k)
    obtain ⟨i, j, hij, hj, e⟩ := pigeon 9 (fun k => pidx (o k)) (fun k _ => (pidx_spec (hisP k)).1)
    have e' : o i = o j := pidx_inj (hisP i) (hisP j) e
    have back : ∀ d, d ≤ i → o (i - d) = o (j - d) := by
      intro d
      induction d with
      | zero => intro _; exact e'
      | succ d ih =>
        intro hd
        have h1 := ih (by omega)
        have a1 := hin (i - (d + 1))
        have a2 := hin (j - (d + 1))
        have a3 := hin (i - d)
        rw [show i - (d + 1) + 1 = i - d by omega] at a1
        rw [show j - (d + 1) + 1 = j - d by omega, ← h1] at a2
        have := one_reader (f1 _ a3) a1 a2 rfl rfl
        exact congrArg (·.1) this
    have e0 := back i (Nat.le_refl _)
    rw [Nat.sub_self] at e0
    refine ⟨j - i, o, by omega, ho0.trans hnm.symm, by rw [← e0, ho0, hnm], fun k hk => ⟨hin k, f1 _ (hin k), hs.first h0 _ (hin k)⟩⟩
  · rintro ⟨n, o, hn', e0, en, h⟩
    have hr : redM (spT, ws[0].1) ws = instM ws[0].1 spT ws := by
      unfold redM; rw [if_neg (by show ¬ isD ws[0].1 = true; rw [hc.1]; decide)]
    have := (h 0 hn').2.1
    rw [e0, hnm, hr, (instM_rdN ws[0].1 spT hne ws).1] at this
    cases this
noncomputable def cloB (ws : List Mv) (p : Nat) : Bool := @decide (Clo ws p) (Classical.propDecidable _)
theorem cloB_iff {ws : List Mv} {p : Nat} : cloB ws p = true ↔ Clo ws p := @decide_eq_true_iff _ (Classical.propDecidable _)
theorem cloB_no {ws : List Mv} {p : Nat} : cloB ws p = false ↔ ¬ Clo ws p := @decide_eq_false_iff_not _ (Classical.propDecidable _)
theorem cloB_eq {ws vs : List Mv} {p : Nat} (h : Clo ws p ↔ Clo vs p) : cloB ws p = cloB vs p := by
  rw [Bool.eq_iff_iff, cloB_iff, cloB_iff]; exact h
noncomputable def cloN (ws : List Mv) : Nat := ((List.range 9).filter (cloB ws)).length
theorem cloN_congr {ws vs : List Mv} (h : ∀ p, p < 9 → (Clo ws p ↔ Clo vs p)) : cloN ws = cloN vs := by
  unfold cloN
  congr 1
  exact List.filter_congr fun p hp => cloB_eq (h p (List.mem_range.1 hp))
theorem filter_less {α : Type _} [DecidableEq α] (P Q : α → Bool) (a : α) : ∀ l : List α, l.Nodup → a ∈ l → P a = true → Q a = false → (∀ b ∈ l, b ≠ a → Q b = P b) → (l.filter P).length = (l.filter Q).length + 1
  | [], _, h, _, _, _ => by cases h
  | x :: l, hn, ha, hP, hQ, hb => by
    rw [List.nodup_cons] at hn
    by_cases e : x = a
    · subst e
      have e2 : l.filter P = l.filter Q := List.filter_congr fun b hbm => ((hb b (by simp [hbm])) fun e => hn.1 (e ▸ hbm)).symm
      simp [hP, hQ, e2]
    · have ha' : a ∈ l := by
        rw [List.mem_cons] at ha
        exact ha.resolve_left fun e' => e e'.symm
      have ih := filter_less P Q a l hn.2 ha' hP hQ fun b hbm => hb b (by simp [hbm])
      have hx := hb x (by simp) e
      rw [List.filter_cons, List.filter_cons, hx]
      split
      · simp only [List.length_cons]; omega
      · exact ih
/-- an order takes a step for each move and one for each closed ring -/
theorem ordF_count : ∀ (n : Nat) (ws : List Mv), Wt ws → Srt ws → muW ws ≤ n → (ordF n ws).length = ws.length + cloN ws ∧ ((ordF n ws).any (fun m => decide (m.1 = spT)) = decide (0 < cloN ws)) := by
  have hz : cloN [] = 0 := by
    unfold cloN
    rw [List.length_eq_zero_iff, List.filter_eq_nil_iff]
    intro p _ h
    obtain ⟨n, o, hn, _, _, h⟩ := cloB_iff.1 h
    cases (h 0 hn).1
  intro n
  induction n with
  | zero =>
    intro ws _ _ hmu
    have : ws = [] := List.length_eq_zero_iff.1 (by unfold muW at hmu; omega)
    subst this
    rw [hz]; exact ⟨rfl, rfl⟩
  | succ n ih =>
    intro ws hw hs hmu
    by_cases h0 : 0 < ws.length
    · cases ha : aheadI ws with
      | some i =>
        obtain ⟨hi, hf⟩ := aheadI_some ha
        have e := cloN_congr fun p _ => Clo.some_ hw hi hf p
        obtain ⟨i1, i2⟩ := ih _ (hw.some_ hi hf) ((hs.erase i).of_keys (redM_keys _ _)) (by have := muW_some hi ws[i]; omega)
        rw [e, redM_len, List.length_eraseIdx_of_lt hi] at i1
        rw [e] at i2
        rw [ordF_some hi ha, List.length_cons, List.any_cons, i2, i1]
        refine ⟨by omega, ?_⟩
        have : ¬ ws[i].1 = spT := (isP_cases (hw.to_ _ (List.getElem_mem hi))).2
        simp [this]
      | none =>
        have hself := Clo.none_self hw hs h0 ha
        have hP := hw.to_ _ (List.getElem_mem h0)
        have hp := pidx_spec hP
        have e : cloN ws = cloN (redM (spT, ws[0].1) ws) + 1 := by
          unfold cloN
          refine filter_less _ _ (pidx ws[0].1) _ List.nodup_range (List.mem_range.2 hp.1) (cloB_iff.2 hself.1) (cloB_no.2 hself.2) fun b hb hne => ?_
          have hb9 := List.mem_range.1 hb
          refine cloB_eq (Clo.none_other hw hs h0 ha (fun e => hne ?_) hb9)
          rw [← e, pidx_nm hb9]
        obtain ⟨i1, _⟩ := ih _ (hw.none_ h0 ha).1 (hs.of_keys (redM_keys _ _)) (by have := muW_none hw h0 ha; omega)
        rw [redM_len] at i1
        rw [ordF_none h0 ha, List.length_cons, List.any_cons, i1]
        refine ⟨by omega, ?_⟩
        have : 0 < cloN ws := by omega
        simp [this]
    · have : ws = [] := List.length_eq_zero_iff.1 (by omega)
      subst this
      rw [ordF_nil, hz]; exact ⟨rfl, rfl⟩
theorem busyF_Srt (xs : List Mv) : Srt (busyF xs 9) := by
  unfold Srt busyF
  rw [List.pairwise_map]
  refine List.Pairwise.imp_of_mem ?_ ((List.pairwise_lt_range (n := 9)).filter (busyH xs))
  intro a b ha hb hab
  have h1 := List.mem_range.1 (List.mem_filter.1 ha).1
  have h2 := List.mem_range.1 (List.mem_filter.1 hb).1
  show pidx (nm a) < pidx (nm b)
  rw [pidx_nm h1, pidx_nm h2]; exact hab
end Go.PM
namespace Go.PM
open Go.RowKit
section
variable {P : Program} {ops : Array Oper} {rest : List Oper} {o : Oper} {a : Act} {w : World} {Q : Exit → Act → World → Prop}
def bytesC (s : ByteArray) : Array Value := s.data.map fun b => .int .u8 b.toNat
theorem bytesC_size (s : ByteArray) : (bytesC s).size = s.size := by simp [bytesC]
/-- a string is copied over a whole row -/
theorem run_copy_text (dT sT ty elem : TypeId) (hu : P.underlying dT = some (.slice elem)) (hsz : (P.info? elem).map (·.size) = some 1) (b : Nat) (t : TypeId) (cur : Array Value) (hA : At w b t cur) (cap : Nat) (s : ByteArray) (hcur : cur.size = s.size) :
    (Builtin.copy_ #[dT, sT] ty #[.slice (some ⟨b, 0, none⟩) s.size cap, .string s]).run P w = .ok (goInt s.size) (w.setRow b (bytesC s)) := by
  have h1 : ∀ v ∈ (bytesC s).toList, v.oneCell' = true := by
    intro v hv
    simp [bytesC] at hv
    obtain ⟨x, _, rfl⟩ := hv
    rfl
  have hst := run_storeCells_at P b 0 t (bytesC s).toList 0 cur w hA (by simp [bytesC_size, hcur]) h1
  have e : (cur.toList.take (0 + 0) ++ (bytesC s).toList ++ cur.toList.drop (0 + 0 + (bytesC s).toList.length)).toArray = bytesC s := by
    have : cur.toList.drop (0 + 0 + (bytesC s).toList.length) = [] := by
      rw [List.drop_eq_nil_iff]; simp [bytesC_size, hcur]
    rw [this]; simp
  cases hq : P.info? elem with
  | none => simp [hq] at hsz
  | some i =>
    have hi : i.size = 1 := by simpa [hq] using hsz
    rw [e] at hst
    have hx : List.take s.size (List.map (fun b : UInt8 => Value.int .u8 (b.toNat : Int)) s.data.toList) = (bytesC s).toList := by
      rw [List.take_of_length_le (by simp)]
      simp [bytesC]
    unfold Builtin.copy_
    simp [run_underlying hu w, Builtin.lenOf, Builtin.firstCells, sizeOf, typeInfo, hq]
    rw [hx, hst]
    rfl
theorem cp_text (hgd : o.guard = none) (d s : Operand) (dT sT : TypeId) (ho : o.op = .call { callee := .builtin .copy, args := #[d, s], argTypes := #[dT, sT] }) (elem : TypeId) (hu : P.underlying dT = some (.slice elem)) (hsz : (P.info? elem).map (·.size) = some 1)
    (b : Nat) (t : TypeId) (cur : Array Value) (hA : At w b t cur) (cap : Nat) (x : ByteArray) (hd : a.eval d = .slice (some ⟨b, 0, none⟩) x.size cap) (hs : a.eval s = .string x) (hcur : cur.size = x.size)
    (h : ∀ w', At w' b t (bytesC x) → w.grownBy w' (some b) → wpList P ops Q rest (a.put o.dst (goInt x.size)) w') : wpList P ops Q (o :: rest) a w := by
  refine wpList_plain hgd fun K hK => ?_
  have hrun := run_copy_text (P := P) dT sT o.type elem hu hsz b t cur hA cap x hcur
  unfold Oper.wp
  simp [execOp, ho, resolve, invoke, builtin, hd, hs, hrun, Result.andThen]
  exact hK _ _ (h _ (At.setRow hA _) (grown_setRow _ _ _))
end
end Go.PM
namespace Go.PM
open Go.RowKit
def nmS : Nat → UInt8 := fun q => cellsL.getD q 0
theorem bytes_nmS : bytesC cellsB = stC nmS := by simp [bytesC, cellsB, stC, nmS, cellsL]
def wspS (f g : Nat → UInt8) : Nat → UInt8 := fun q => if q < 9 then f q else g q
end Go.PM
namespace Go.Proofs.YthgcoocgeekdnaaDoor
open Go.RowKit Go.PM

end Go.Proofs.YthgcoocgeekdnaaDoor
namespace Go.Proofs.YthgcoocgeekdnaaDoor
open Go.RowKit Go.PM

end Go.Proofs.YthgcoocgeekdnaaDoor
namespace Go.PM
open Go.RowKit
def aoP (t : Nat → ByteArray) (f : Nat → UInt8) (n : Nat) : Nat → UInt8 := fun q => if q < n then rdS f (srcT t q) else f q
theorem aoP_zero (t : Nat → ByteArray) (f : Nat → UInt8) : aoP t f 0 = f := by funext q; simp [aoP]
theorem aoP_nine (t : Nat → ByteArray) (f : Nat → UInt8) : aoP t f 9 = aoS t f := rfl
theorem aoP_succ (t : Nat → ByteArray) (f : Nat → UInt8) (p : Nat) : updS (aoP t f p) p (rdS f (srcT t p)) = aoP t f (p + 1) := by
  funext q
  unfold updS aoP
  by_cases h : q = p
  · subst h; simp
  · by_cases h2 : q < p
    · simp [h, h2, Nat.lt_succ_of_lt h2]
    · have : ¬ q < p + 1 := by omega
      simp [h, h2, this]
end Go.PM
namespace Go.Proofs.YthgcoocgeekdnaaDoor
open Go.RowKit Go.PM
attribute [local go_sem] Oper.semAt_some

end Go.Proofs.YthgcoocgeekdnaaDoor
namespace Go.PM
open Go.RowKit
theorem src_okC {xs : List Mv} (h : MV xs) : ∀ p, p < 9 → okC (srcT (tabOf xs) p) = true := by
  intro p hp
  rw [srcM_nm h hp]
  unfold srcM
  cases hf : xs.find? (fun m => decide (m.1 = nm p)) with
  | none =>
    show okC (nm p) = true
    unfold okC; rw [(cidx_nm hp).1]; rfl
  | some m =>
    have hm := List.mem_of_find?_eq_some hf
    have h1 := h.1 m hm
    unfold mok at h1; rw [Bool.and_eq_true] at h1
    exact isS_okC h1.2
def aoB (xs : List Mv) (s : ByteArray) : ByteArray := okS (mvalid xs && stateV s) (stB (aoS (tabOf xs) (ofB s)))
def ioB (xs : List St) (s : ByteArray) : ByteArray := okS (svalid xs && stateV s) (stB (runS xs xs.length (ofB s)))
theorem okS_yes (s : ByteArray) : okS true s = s := rfl
theorem okS_no (s : ByteArray) : okS false s = ⟨#[]⟩ := rfl
end Go.PM
namespace Go.Proofs.YthgcoocgeekdnaaDoor
open Go.RowKit Go.PM

end Go.Proofs.YthgcoocgeekdnaaDoor
namespace Go.Proofs.YthgcoocgeekdnaaDoor
open Go.RowKit Go.PM

end Go.Proofs.YthgcoocgeekdnaaDoor
namespace Go.PM
def sameAt (xs ys : List Mv) (p : Nat) : Bool := decide (srcM xs (nm p) = srcM ys (nm p))
def sameM (xs ys : List Mv) : Bool := mvalid xs && mvalid ys && (List.range 9).all (sameAt xs ys)
theorem sameM_no {xs ys : List Mv} (k : Nat) (hk : k < 9) (h : sameAt xs ys k = false) : sameM xs ys = false := by
  have : (List.range 9).all (sameAt xs ys) = false := by
    rw [List.all_eq_false]
    exact ⟨k, by simpa using hk, by rw [h]; decide⟩
  rw [sameM, this, Bool.and_false]
theorem sameM_all {xs ys : List Mv} (h : ∀ p, p < 9 → sameAt xs ys p = true) : sameM xs ys = (mvalid xs && mvalid ys) := by
  have : (List.range 9).all (sameAt xs ys) = true := by
    rw [List.all_eq_true]
    intro p hp
    exact h p (by simpa using hp)
  rw [sameM, this, Bool.and_true]
end Go.PM
namespace Go.Proofs.YthgcoocgeekdnaaDoor
open Go.RowKit Go.PM

end Go.Proofs.YthgcoocgeekdnaaDoor
