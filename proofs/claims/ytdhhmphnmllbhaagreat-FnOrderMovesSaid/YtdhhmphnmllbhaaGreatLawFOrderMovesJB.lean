import Derived.Test.YtdhhmphnmllbhaaGreatLawFOrderMovesJA
import Derived.Test.YtdhhmphnmllbhaaGreatCut
import Derived.Test.YtdhhmphnmllbhaaGreatRange
import Derived.Test.YtdhhmphnmllbhaaGreatHold
import Derived.Deep.AppendLies
import Derived.Scope
import Derived.WalkMore
import Derived.Test.YtdhhmphnmllbhaaGreatRow
import Derived.Test.YtdhhmphnmllbhaaGreatBusyP
import Derived.Test.YtdhhmphnmllbhaaGreatAhd
import Derived.Test.YtdhhmphnmllbhaaGreatIm2
import Derived.Test.YtdhhmphnmllbhaaGreatSp1
import Derived.Test.YtdhhmphnmllbhaaGreatAhdC
import Derived.Test.YtdhhmphnmllbhaaGreatIm3
import Derived.Test.YtdhhmphnmllbhaaGreatSpS2
import Derived.Test.YtdhhmphnmllbhaaGreatNamesIn
import Derived.Test.YtdhhmphnmllbhaaGreatTop3
import Derived.Test.YtdhhmphnmllbhaaGreatNames
import Derived.ChangeKeysEq
import Derived.Test.YtdhhmphnmllbhaaGreatHar
import Derived.Test.YtdhhmphnmllbhaaGreatP2
import Derived.Test.YtdhhmphnmllbhaaGreatComp
import Derived.Test.YtdhhmphnmllbhaaGreatTail
namespace Go.PM
open Go.RowKit
def tcells (ts : List ByteArray) : List Value := ts.map Value.string
theorem tcells_length (ts : List ByteArray) : (tcells ts).length = ts.length := by simp [tcells]
theorem tcells_append (a b : List ByteArray) : tcells (a ++ b) = tcells a ++ tcells b := by simp [tcells]
def RdT (w : World) (v : Value) (ts : List ByteArray) : Prop := Rd w 1 v ts.length (tcells ts)
theorem RdT.below {w w' : World} {v : Value} {ts : List ByteArray} (h : RdT w v ts) (hb : Below w.heap.size w w') : RdT w' v ts := Rd.below h hb
theorem RdT.open {w : World} {v : Value} {ts : List ByteArray} (h : RdT w v ts) : ∃ A cap, v = .slice A ts.length cap ∧ ts.length ≤ 9223372036854775807 ∧ ts.length ≤ cap ∧
    ∀ k (hk : k < ts.length), ∃ b off, A = some ⟨b, off, none⟩ ∧ b < w.heap.size ∧ w.cell? ⟨b, off + k, none⟩ = some (.string ts[k]) := by
  obtain ⟨A, cap, e, hc, hn, hl, hr⟩ := h
  refine ⟨A, cap, e, hn, hc, fun k hk => ?_⟩
  obtain ⟨b, off, eA, hb, hcell⟩ := hr (by omega)
  exact ⟨b, off, eA, hb, hcell _ _ (by unfold tcells; rw [List.getElem?_map, List.getElem?_eq_getElem hk]; rfl)⟩
/-- n marked texts, the first mark being number k -/
def tmarks : Nat → Nat → List ByteArray
  | 0, _ => []
  | n + 1, k => mT k :: tmarks n (k + 1)
theorem tmarks_length (n k : Nat) : (tmarks n k).length = n := by
  induction n generalizing k with
  | zero => rfl
  | succ n ih => simp [tmarks, ih]
theorem tmarks_at (n k i : Nat) (h : i < (tmarks n k).length) : (tmarks n k)[i] = mT (k + i) := by
  induction n generalizing k i with
  | zero => simp [tmarks] at h
  | succ n ih =>
    cases i with
    | zero => rfl
    | succ i =>
      simp only [tmarks, List.getElem_cons_succ]
      rw [ih]
      congr 1; omega
def tmix (ts : List ByteArray) (i k : Nat) : List ByteArray := tmarks i k ++ ts.drop i
theorem tmarks_snoc (i k : Nat) : tmarks (i + 1) k = tmarks i k ++ [mT (k + i)] := by
  induction i generalizing k with
  | zero => rfl
  | succ i ih =>
    rw [tmarks, ih (k + 1)]
    simp only [tmarks, List.cons_append]
    rw [show k + 1 + i = k + (i + 1) by omega]
theorem tmix_length (ts : List ByteArray) (i k : Nat) (h : i ≤ ts.length) : (tmix ts i k).length = ts.length := by
  simp [tmix, tmarks_length]; omega
theorem tmix_set (ts : List ByteArray) (i k : Nat) (h : i < ts.length) : (tcells (tmix ts i k)).set i (.string (mT (k + i))) = tcells (tmix ts (i + 1) k) := by
  have hl : (tcells (tmarks i k)).length = i := by rw [tcells_length, tmarks_length]
  unfold tmix
  rw [tmarks_snoc, List.drop_eq_getElem_cons h, tcells_append, tcells_append, tcells_append]
  rw [List.set_append_right _ _ (by omega), hl, Nat.sub_self]
  simp only [tcells, List.map_cons, List.map_nil, List.set_cons_zero, List.append_assoc, List.cons_append, List.nil_append]
end Go.PM
namespace Go.Proofs.YtdhhmphnmllbhaaGreat
open Go.RowKit Go.PM

end Go.Proofs.YtdhhmphnmllbhaaGreat
namespace Go.PW
open Go.PM
def ringsT (nx : Nat → Option Nat) (k : Nat) : List ByteArray := (ringsF nx k).map txt
def ringsB (xs : List Mv) : List ByteArray := if mvalid xs then ringsT (nxT (tabOf xs)) 9 else []
theorem ringsB_len (xs : List Mv) : (ringsB xs).length ≤ 1000 := by
  unfold ringsB
  by_cases h : mvalid xs = true
  · rw [if_pos h]
    have := (ringsF_lt (nice (SV_tab (by simpa [mvalid] using h))) 9 (by omega)).2.1
    unfold ringsT; rw [List.length_map]; omega
  · rw [if_neg h]; simp
theorem way_first (nx : Nat → Option Nat) (s : Nat) (hn : Nice nx) (hs : s < 19) : ∃ l, way nx s = s :: l := by
  have hr := way_rho hn hs
  have h1 := hr.at_ 0 hr.pos
  cases hw : way nx s with
  | nil => have := hr.pos; rw [hw] at this; simp at this
  | cons a l =>
    rw [hw] at h1
    simp only [List.getElem?_cons_zero, orb, Option.some.injEq] at h1
    subst h1; exact ⟨l, rfl⟩
end Go.PW
namespace Go.Proofs.YtdhhmphnmllbhaaGreat
open Go.RowKit Go.PM Go.PW Go.Lib

set_option maxRecDepth 100000 in
set_option maxHeartbeats 1000000 in
theorem l3Rings_c (xs : List Mv) (h1 : MV xs) (v : Value) (w : World) (hx : RdM w v xs) :
    Calls Tryz.prog 80 #[v] w fun e w' => ∃ v', e = .returned v' ∧ w'.ownsRow w.heap.size 9 1 v' (ringsT (nxT (tabOf xs)) 9).length (tcells (ringsT (nxT (tabOf xs)) 9)) ∧ Below w.heap.size w w' := by
  have hf := SV_tab h1
  have hn := nice hf
  have HN : Hid (∀ q, q < 9 → (ByteArray.mk #[97, 98, 99, 100, 101, 102, 65, 66, 67]).extract q (q+1) = sn q) := by
    show ∀ q, _
    intro q hq
    match q, hq with
    | 0, _ | 1, _ | 2, _ | 3, _ | 4, _ | 5, _ | 6, _ | 7, _ | 8, _ => decide +kernel
  have HRG := Lib.hid (fun i (hi : i < 19) W (hW : RdM W v xs) => l3Ring_c xs h1 v i hi W hW)
  have HX := Lib.hid (fun W (hW : Below w.heap.size w W) => hx.below hW)
  have hE := World.ownsRow_lit (e := 9) (base := w.heap.size) (size := 1) w #[] 0 (Nat.le_refl _) (Nat.zero_le _) rfl
  have HLT := Lib.hid (fun k (hk : k ≤ 9) => ringsF_lt hn k hk)
  have HYES := Lib.hid (fun k => ringsF_yes (nx := nxT (tabOf xs)) (k := k))
  have HNO := Lib.hid (fun k => ringsF_no (nx := nxT (tabOf xs)) (k := k))
  have HON := Lib.hid (fun s (h : onRb (nxT (tabOf xs)) s = true) => show ringL (nxT (tabOf xs)) s = way (nxT (tabOf xs)) s by rw [ringL, if_pos h])
  have HOFF := Lib.hid (fun s (h : ¬ onRb (nxT (tabOf xs)) s = true) => show ringL (nxT (tabOf xs)) s = [] by rw [ringL, if_neg h])
  have HFI := Lib.hid (fun s hs => way_first (nxT (tabOf xs)) s hn hs)
  have HWL := Lib.hid (fun s (hs : s < 19) => (way_rho hn hs).len)
  have HT : Hid (∀ k, ringsT (nxT (tabOf xs)) k = (ringsF (nxT (tabOf xs)) k).map txt) := fun _ => rfl
  have H0 : Hid (ringsF (nxT (tabOf xs)) 0 = []) := rfl
  clear hf hn
  generalize nxT (tabOf xs) = nx at *
  go_enter Tryz.func80, Tryz.ntmps80
  go_wp2
  go_loopw [3, 4, 5, 6, 8] (fun o sn _ _ i wr => ∃ (k : Nat), k ≤ 9 ∧ i = .int .i64 k ∧ wr.ownsRow w.heap.size 9 1 o (ringsT nx k).length (tcells (ringsT nx k)) ∧ sn = .string (txt (ringsF nx k).flatten) ∧ Below w.heap.size w wr) (fun _ _ _ _ i _ => 9 - (RowKit.intOf i).toNat)
  case atStart => exact ⟨0, by omega, rfl, by rw [HT.out, H0.out]; exact hE, by rw [H0.out]; rfl, by (repeat' (first | (with_reducible exact Below.refl _ _) | (with_reducible assumption) | (with_reducible refine Below.alloc ?_ ?_ _) | (with_reducible refine Below.drew ?_) | (with_reducible refine Below.setCell ?_ ?_ _) | (with_reducible exact Nat.le_refl _) | omega | ((repeat (first | rewrite [World.size_alloc] | rewrite [World.size_setCell] | rewrite [World.size_drew])); omega) | (simp; omega) | (simp; done)))⟩
  case round =>
    obtain ⟨k, hk, rfl, ho, rfl, hb⟩ := hrel
    have hbs := hb.size
    by_cases hlt : k < 9
    · have hex := HN.out k hlt
      have hxr := HX.out wr hb
      have hrg := HRG.out k (by omega) wr hxr
      by_cases hon : onRb nx k = true
      · rw [HON.out k hon] at hrg
        obtain ⟨l, hl⟩ := HFI.out k (by omega)
        have hwl := HWL.out k (by omega)
        have hsz := txt_size (way nx k)
        have hfl := HLT.out k hk
        have hfz := txt_size (ringsF nx k).flatten
        have hmem := txt_mem hfl.1 (show k < 19 by omega)
        have ht0 : ∀ h : 0 < (txt (way nx k)).size, (txt (way nx k))[0] = ch k := by
          rw [hl]; intro h; rfl
        have hpos : 0 < (way nx k).length := by rw [hl]; simp
        have HRX := Lib.hid hrg
        have HME := Lib.hid hmem
        clear hrg hmem hl
        by_cases hin : k ∈ (ringsF nx k).flatten
        · have hno := HNO.out k (fun h => h.2 hin)
          have HNX := Lib.hid hno
          have HIX : Hid ((0 : Int) ≤ indexByte (txt (ringsF nx k).flatten).data.toList (ch k)) := (indexByte_mem _ _).2 (HME.out.2 hin)
          clear hno hin
          generalize txt (way nx k) = t at *
          generalize ch k = c at *
          generalize hsfe : txt (ringsF nx k).flatten = sf at *
          have HSF := Lib.hid hsfe
          clear hsfe
          have hne : t.toList.isEmpty = false := by
            rw [ByteArray.toList_eq]
            cases hl : t.data.toList with
            | nil => have := size_data t; rw [hl] at this; simp at this; omega
            | cons a l => rfl
          have htp : 0 < t.size := by omega
          have ht1 := ht0 htp
          clear ht0
          have hsf : sf.size ≤ 9223372036854775807 := by have := hfl.2.2; omega
          go_wp2_with fail
          refine HRX.out.mono ?_
          rintro e w2 ⟨rfl, hb2⟩
          have ho2 := own_keep ho hb2
          have hbw := hb.trans (hb2.mono hbs)
          have hbws := hbw.size
          clear hb2 ho
          have hix := HIX.out
          go_wp2_with (go_at_call 51; refine (l13Find_c sf c _ hsf).mono ?_; rintro e w' ⟨rfl, rfl⟩)
          go_roundw
          case rel => exact ⟨k + 1, by omega, by go_num, by rw [HT.out, HNX.out, ← HT.out]; exact ho2, by rw [HNX.out, HSF.out], hbw⟩
          case measure => simp [RowKit.intOf]; omega
        · have hyes := HYES.out k hon hin
          have HNX := Lib.hid hyes
          have HIX : Hid (¬ (0 : Int) ≤ indexByte (txt (ringsF nx k).flatten).data.toList (ch k)) := fun h => hin (HME.out.1 ((indexByte_mem _ _).1 h))
          have HTX : Hid (ringsT nx (k + 1) = ringsT nx k ++ [txt (way nx k)]) := by show _ = _; rw [HT.out, HT.out, hyes]; simp
          have HSX : Hid (txt (ringsF nx (k + 1)).flatten = txt (ringsF nx k).flatten ++ txt (way nx k)) := by
            show _ = _
            rw [hyes, List.flatten_append, txt_append]; simp
          have hrl : (ringsT nx k).length ≤ 9 := by rw [HT.out, List.length_map]; have := hfl.2.1; omega
          clear hyes hin
          generalize txt (way nx k) = t at *
          generalize ch k = c at *
          generalize hsfe : txt (ringsF nx k).flatten = sf at *
          have HSF := Lib.hid hsfe
          clear hsfe
          have hne : t.toList.isEmpty = false := by
            rw [ByteArray.toList_eq]
            cases hl : t.data.toList with
            | nil => have := size_data t; rw [hl] at this; simp at this; omega
            | cons a l => rfl
          have htp : 0 < t.size := by omega
          have ht1 := ht0 htp
          clear ht0
          have hsf : sf.size ≤ 9223372036854775807 := by have := hfl.2.2; omega
          go_wp2_with fail
          refine HRX.out.mono ?_
          rintro e w2 ⟨rfl, hb2⟩
          have ho2 := own_keep ho hb2
          have hbw := hb.trans (hb2.mono hbs)
          have hbws := hbw.size
          have hix := HIX.out
          have hlt0 : indexByte sf.data.toList c < 0 := by omega
          have hnw := one_new w2 (.string t) 9
          have hown0 := own_keep ho2 ((Below.refl _ _).alloc (Nat.le_refl _) (.cells #[.string t] 9))
          go_wp2_with (first | (go_at_call 51; refine (l13Find_c sf c _ hsf).mono ?_; rintro e w' ⟨rfl, rfl⟩) | (at_builtin; refine app_str rfl (.tmp 26) (.tmp 28) rfl w.heap.size u3 (ringsT nx k) t ⟨w2.heap.size, 0, none⟩ 1 (by rfl) (by rfl) hown0 hnw (by omega) (by simp; omega) ?_; intro v' w3 hown3 hgrow3))
          have hb3 := below_grown hgrow3 (B := w.heap.size) (by simp; omega) (own_block_ge ho)
          have hbw3 := (hbw.alloc hbws (.cells #[.string t] 9)).trans hb3
          go_roundw
          case rel =>
            refine ⟨k + 1, by omega, by go_num, ?_, by rw [HSX.out], hbw3⟩
            rw [HTX.out]; exact hown3
          case measure => simp [RowKit.intOf]; omega
      · rw [HOFF.out k hon] at hrg
        have HRX := Lib.hid hrg
        have HNX := Lib.hid (HNO.out k (fun h => hon h.1))
        clear hrg
        go_wp2_with fail
        refine HRX.out.mono ?_
        rintro e w2 ⟨rfl, hb2⟩
        rw [show txt [] = ⟨#[]⟩ from rfl]
        have ho2 := own_keep ho hb2
        have hbw := hb.trans (hb2.mono hbs)
        clear hb2 ho
        go_wp2
        go_roundw
        case rel => exact ⟨k + 1, by omega, by go_num, by rw [HT.out, HNX.out, ← HT.out]; exact ho2, by rw [HNX.out], hbw⟩
        case measure => simp [RowKit.intOf]; omega
    · have hk9 : k = 9 := by omega
      subst hk9
      go_wp2
      go_ret
      exact ⟨_, rfl, ho, hb⟩

end Go.Proofs.YtdhhmphnmllbhaaGreat
namespace Go.PM
open Go.RowKit
variable {F : Fence} {n : Nat} {P : Program}
/-- the same contract, of a function that reads what the caller keeps and writes to blocks of its own -/
def IterW {α : Type} (Pr : World → Prop) (κ : Nat) (F : Fence) (n : Nat) (P : Program) (gf : Nat) (mk : Value → Array Value) (encs : α → Array Value) (xs : List α) : Prop :=
  ∀ (l : Nat) (J Jx : List α → World → Prop) (W : World),
    OwnFrom W.heap.size J → OwnFrom W.heap.size Jx → (∀ pre A, J pre A → Pr A) → (∀ pre A A' r, J pre A → W.heap.size ≤ r → r < W.heap.size + κ → A.grownBy A' (some r) → J pre A') →
    (∀ pre x A, J pre A → W.heap.size + κ ≤ A.heap.size → pre ++ [x] <+: xs → YieldAt F (n - 1) P l (encs x) A fun e A' =>
      (e = .returned (.bool true) ∧ J (pre ++ [x]) A' ∧ KeepsIn W.heap.size κ A A' ∧ KeepsFrom W.heap.size A A') ∨ (e = .returned (.bool false) ∧ Jx (pre ++ [x]) A' ∧ A.heap.size ≤ A'.heap.size ∧ KeepsFrom W.heap.size A A')) →
    J [] W →
    CallsIn F n P gf (mk (.func (.yield l) #[] #[])) W fun e W' => (∃ v, e = .returned v) ∧ (J xs W' ∨ ∃ pre, pre <+: xs ∧ Jx pre W')
theorem range_law4 {α : Type} {Pr : World → Prop} {g : Operand} {ps : Array Tmp} {assign body : Code} {Q : Exit → Act → World → Prop} {a : Act} {w : World} (hro : F.round = none) (h1 : 1 ≤ n)
    {gf : Nat} {lf lb : Array Value} (hg : a.eval g = .func (.func gf) lf lb) (hFg : F.fn gf) (eg : ∀ args w, (callFunc gf args).run P w = .ok (.enter gf args) w)
    {encs : α → Array Value} {xs : List α} {κ : Nat} (hit : IterW Pr κ F (n - 1) P gf (fun y => lf ++ #[y] ++ lb) encs xs) (hps : ∀ x, (encs x).size = ps.size)
    (I : List α → World → Prop) (Ix : Code → List α → World → Prop) (hPr : ∀ pre A, I pre A → Pr A) (hIW : ∀ pre A A' r, I pre A → w.heap.size + 2 ≤ r → r < w.heap.size + 2 + κ → A.grownBy A' (some r) → I pre A') (hI : OwnFrom w.heap.size I) (hIx : ∀ c, OwnFrom w.heap.size (Ix c)) (h0 : I [] w) (Ax : α → Act → World → Prop) (hAx : ∀ x a', OwnFrom w.heap.size (fun (_ : Unit) W => Ax x a' W))
    (hassign : ∀ (l : Nat) (pre : List α) (x : α) (W : World) (K : Act → World → Prop), I pre W → pre ++ [x] <+: xs → w.heap.size + 2 + κ ≤ W.heap.size → (∀ a' W', KeepsNew w.heap.size W W' → I pre W' → Ax x a' W' → K a' W') →
      assign.wpIn (F.inRound l) (n - 1 - 1) P (Exit.then K (fun _ _ _ => False)) { tmps := (ps.zip (encs x)).foldl (fun t (p, v) => t.setIfInBounds p v) a.tmps, defers := [] } W)
    (hbody : ∀ (l : Nat) (pre : List α) (x : α) (a' : Act) (W : World), I pre W → Ax x a' W → pre ++ [x] <+: xs → w.heap.size + 2 + κ ≤ W.heap.size → body.wpIn (F.inRound l) (n - 1 - 1) P (ownPostG w.heap.size (KeepsIn (w.heap.size + 2) κ) I Ix (pre ++ [x]) W) a' W)
    (hdone : ∀ (D : Nat) (W : World), w.heap.size ≤ D → I xs W → W.heap[D]? = some (.deferred (some [])) → Q .normal { a with defers := { target := .collected D, args := #[] } :: a.defers } W)
    (hstop : ∀ (D : Nat) (c : Code) (pre : List α) (W : World), w.heap.size ≤ D → pre <+: xs → Ix c pre W → W.heap[D]? = some (.deferred (some [])) → c.wpIn F n P Q { a with defers := { target := .collected D, args := #[] } :: a.defers } W) :
    (Code.rangeFunc g ps assign body).wpIn F n P Q a w := by
  refine wpIn_rangeFunc fun fn hfn => ?_
  rw [hro]
  have key : ∃ rc : LoopState → Option Code → Loop, rc = fun s j => { state := s, pending := j, fn, tmps := a.tmps, params := ps, assign, body, defers := w.heap.size } := ⟨_, rfl⟩
  obtain ⟨rc, hrc⟩ := key
  let V := (w.alloc (.deferred (some []))).alloc (.loop (rc .ready none))
  -- the two blocks of book-keeping, and that the caller's own facts outlast what is done to them
  let Bk : LoopState → Option Code → World → Prop := fun s j A => A.heap[w.heap.size + 1]? = some (.loop (rc s j)) ∧ A.heap[w.heap.size]? = some (.deferred (some []))
  have bkput : ∀ {s j s' j' A}, Bk s j A → Bk s' j' (A.putObj (w.heap.size + 1) (.loop (rc s' j'))) := fun h =>
    ⟨World.putObj_heap_same (Array.getElem?_eq_some_iff.1 h.1).1, (World.putObj_heap_other (by omega)).trans h.2⟩
  have hVs : V.heap.size = w.heap.size + 2 := by simp [V, World.size_alloc]
  have bknew : ∀ {s j A A' row}, Bk s j A → A.grownBy A' row → (∀ r, row = some r → V.heap.size ≤ r ∧ ∃ o : Obj, A.heap[r]? = some o ∧ o.isCells = false) → Bk s j A' := fun h hg' hr =>
    ⟨(hg'.block _ (Array.getElem?_eq_some_iff.1 h.1).1 (fun e => by have := (hr _ e.symm).1; omega)).trans h.1, (hg'.block _ (Array.getElem?_eq_some_iff.1 h.2).1 (fun e => by have := (hr _ e.symm).1; omega)).trans h.2⟩
  have hV : Bk .ready none V := by
    refine ⟨?_, ?_⟩
    · have := World.alloc_heap_new (w.alloc (.deferred (some []))) (.loop (rc .ready none)); rwa [World.size_alloc] at this
    · exact (Below.heap_alloc _ _ _ (by simp)).trans (World.alloc_heap_new w _)
  have hIV : I [] V := hI.alloc _ (hI.alloc _ h0)
  refine ⟨w.heap.size + 1, [{ target := .collected w.heap.size, args := #[] }], V, { target := .fn (.func gf) lb, args := lf ++ #[.func (.yield (w.heap.size + 1)) #[] #[]] }, V, gf,
    lf ++ #[.func (.yield (w.heap.size + 1)) #[] #[]] ++ lb, V, ?_, ?_, ?_, ?_, fun _ => h1, ?_⟩
  · have := run_enterLoop_outer (P := P) (w := w) fn a.tmps ps assign body
    rw [this]; simp only [V, hrc]
  · simp only [resolve, hg]
    simp [go_sem]
  · intro f' hf'
    simp [Target.leads] at hf'
    subst hf'; exact hFg
  · simp [invoke, go_sem, eg]
  refine (hit (w.heap.size + 1) (fun pre A => I pre A ∧ Bk .ready none A) (fun pre A => ∃ c, Ix c pre A ∧ Bk .done (some c) A) V
    (fun pre A A' row h hg' hr => ⟨hI pre A A' row h.1 hg' (fun r e => ⟨by have := (hr r e).1; omega, (hr r e).2⟩), bknew h.2 hg' hr⟩)
    (fun pre A A' row ⟨c, h, hb⟩ hg' hr => ⟨c, hIx c pre A A' row h hg' (fun r e => ⟨by have := (hr r e).1; omega, (hr r e).2⟩), bknew hb hg' hr⟩) (fun pre A h => hPr pre A h.1) (fun pre A A' r h h1 h2 hg' => ⟨hIW pre A A' r h.1 (by omega) (by omega) hg', (hg'.block _ (Array.getElem?_eq_some_iff.1 h.2.1).1 (fun e => by cases e; omega)).trans h.2.1, (hg'.block _ (Array.getElem?_eq_some_iff.1 h.2.2).1 (fun e => by cases e; omega)).trans h.2.2⟩) ?_ ⟨hIV, hV⟩).mono ?_
  · rintro pre x A ⟨hi, hb⟩ hsz hpx
    have hy := run_yield (P := P) (args := encs x) hb.1 (by rw [hrc]; exact hps x)
    rw [hrc] at hy
    refine ⟨fn, _, assign, body, hy, roundIn_of_wpIn hfn (hassign _ pre x A _ hi hpx (by omega) ?_)⟩
    intro a' Wa hkn hia hax
    have hlt := (Array.getElem?_eq_some_iff.1 hb.1).1
    replace hb : Bk .ready none Wa := ⟨(hkn.same _ (by omega) hlt).trans hb.1, (hkn.same _ (Nat.le_refl _) (by omega)).trans hb.2⟩
    clear hy hi
    refine ⟨_, run_beginRound hb.1 (by rw [hrc]), ?_⟩
    have hknV : KeepsIn V.heap.size κ A Wa := hkn.toIn (by omega) hsz
    have hkfV : KeepsFrom V.heap.size A Wa := (hkn.mono (by omega)).from
    have hszA : A.heap.size ≤ Wa.heap.size := hkn.size
    replace hsz := Nat.le_trans hsz hszA
    clear hkn
    revert hknV hkfV hszA
    generalize A = A0
    intro hknV hkfV hszA
    obtain ⟨A, rfl⟩ : ∃ A, A = Wa := ⟨_, rfl⟩
    have hb2 : Bk .busy none (A.putObj (w.heap.size + 1) (.loop (rc .busy none))) := bkput hb
    have e2 : ({ rc .ready none with state := .busy } : Loop) = rc .busy none := by rw [hrc]
    rw [e2]
    refine wpIn_mono (hbody _ pre x a' _ (hI.putObj _ hia (by omega) hb.1 rfl) ((hAx x a').putObj (s := ()) _ hax (by omega) hb.1 rfl) hpx (by simp [World.putObj]; omega)) ?_
    have fin : ∀ (j : Option Code) (C : World), KeepsFrom w.heap.size (A.putObj (w.heap.size + 1) (.loop (rc .busy none))) C →
        (Instr.endRound (w.heap.size + 1) j).run P C = .ok (.bool j.isNone) (C.putObj (w.heap.size + 1) (.loop (rc (if j.isNone then .ready else .done) j))) ∧ Bk .busy none C := fun j C hk => by
      have h1 := hk.same _ _ (by omega) hb2.1 rfl
      have h2 := hk.same _ _ (Nat.le_refl _) hb2.2 rfl
      have h3 := run_endRound (P := P) j h1
      refine ⟨?_, h1, h2⟩
      rw [h3]; rw [hrc]
    have kfin : ∀ (o : Obj) (C : World), KeepsFrom w.heap.size (A.putObj (w.heap.size + 1) (.loop (rc .busy none))) C → KeepsFrom V.heap.size A0 (C.putObj (w.heap.size + 1) o) := fun o C hk => by
      refine hkfV.trans ?_
      refine ⟨by have := hk.size; simp [World.putObj] at this ⊢; omega, fun k x hk1 hk2 hk3 => ?_⟩
      rw [World.putObj_heap_other (by omega)]
      exact hk.same k x (by omega) (by rw [World.putObj_heap_other (by omega)]; exact hk2) hk3
    rintro e a3 C hp
    cases e with
    | normal =>
      obtain ⟨hk, hkn, hi3⟩ := hp
      obtain ⟨hr, hb3⟩ := fin none C hk
      refine ⟨_, _, hr, .inl ⟨rfl, ⟨hI.putObj _ hi3 (by omega) hb3.1 rfl, bkput hb3⟩, ?_, kfin _ C hk⟩⟩
      refine ⟨by have := hkn.size; simp [World.putObj] at this ⊢; omega, fun k hk1 hk2 => ?_⟩
      rw [World.putObj_heap_other (by omega), hkn.same k (by omega) (by omega), World.putObj_heap_other (by omega)]
      exact hknV.same k hk1 hk2
    | ret =>
      obtain ⟨hk, hi3⟩ := hp
      obtain ⟨hr, hb3⟩ := fin (some .ret) C hk
      exact ⟨_, _, hr, .inr ⟨rfl, ⟨.ret, (hIx _).putObj _ hi3 (by omega) hb3.1 rfl, bkput hb3⟩, by have := hk.size; simp [World.putObj] at this ⊢; omega, kfin _ C hk⟩⟩
    | exit id =>
      obtain ⟨hk, hi3⟩ := hp
      obtain ⟨hr, hb3⟩ := fin (some (.exit id)) C hk
      exact ⟨_, _, hr, .inr ⟨rfl, ⟨.exit id, (hIx _).putObj _ hi3 (by omega) hb3.1 rfl, bkput hb3⟩, by have := hk.size; simp [World.putObj] at this ⊢; omega, kfin _ C hk⟩⟩
    | goto t =>
      obtain ⟨hk, hi3⟩ := hp
      obtain ⟨hr, hb3⟩ := fin (some (.goto t)) C hk
      exact ⟨_, _, hr, .inr ⟨rfl, ⟨.goto t, (hIx _).putObj _ hi3 (by omega) hb3.1 rfl, bkput hb3⟩, by have := hk.size; simp [World.putObj] at this ⊢; omega, kfin _ C hk⟩⟩
    | panic ch => exact hp.elim
    | outgrown => exact hp.elim
  · rintro e C ⟨⟨v, rfl⟩, (⟨hi, hb⟩ | ⟨pre, hp, c, hi, hb⟩)⟩
    · have h3 := run_endLoop (P := P) hb.1 (by rw [hrc]; simp)
      refine ⟨none, _, by rw [h3, hrc], hdone _ _ (Nat.le_refl _) (hI.putObj _ hi (by omega) hb.1 rfl) ((World.putObj_heap_other (by omega)).trans hb.2)⟩
    · have h3 := run_endLoop (P := P) hb.1 (by rw [hrc]; simp)
      refine ⟨some c, _, by rw [h3, hrc], hstop _ c pre _ (Nat.le_refl _) hp ((hIx c).putObj _ hi (by omega) hb.1 rfl) ((World.putObj_heap_other (by omega)).trans hb.2)⟩
/-- The same where the assignment lays nothing. -/
theorem range_law5 {α : Type} {Pr : World → Prop} {g : Operand} {ps : Array Tmp} {assign body : Code} {Q : Exit → Act → World → Prop} {a : Act} {w : World} (hro : F.round = none) (h1 : 1 ≤ n)
    {gf : Nat} {lf lb : Array Value} (hg : a.eval g = .func (.func gf) lf lb) (hFg : F.fn gf) (eg : ∀ args w, (callFunc gf args).run P w = .ok (.enter gf args) w)
    {encs : α → Array Value} {xs : List α} {κ : Nat} (hit : IterW Pr κ F (n - 1) P gf (fun y => lf ++ #[y] ++ lb) encs xs) (hps : ∀ x, (encs x).size = ps.size)
    (I : List α → World → Prop) (Ix : Code → List α → World → Prop) (hPr : ∀ pre A, I pre A → Pr A) (hIW : ∀ pre A A' r, I pre A → w.heap.size + 2 ≤ r → r < w.heap.size + 2 + κ → A.grownBy A' (some r) → I pre A') (hI : OwnFrom w.heap.size I) (hIx : ∀ c, OwnFrom w.heap.size (Ix c)) (h0 : I [] w) (a₁ : α → Act)
    (hassign : ∀ (l : Nat) (x : α) (W : World) (K : Act → World → Prop), K (a₁ x) W →
      assign.wpIn (F.inRound l) (n - 1 - 1) P (Exit.then K (fun _ _ _ => False)) { tmps := (ps.zip (encs x)).foldl (fun t (p, v) => t.setIfInBounds p v) a.tmps, defers := [] } W)
    (hbody : ∀ (l : Nat) (pre : List α) (x : α) (W : World), I pre W → pre ++ [x] <+: xs → w.heap.size + 2 + κ ≤ W.heap.size → body.wpIn (F.inRound l) (n - 1 - 1) P (ownPostG w.heap.size (KeepsIn (w.heap.size + 2) κ) I Ix (pre ++ [x]) W) (a₁ x) W)
    (hdone : ∀ (D : Nat) (W : World), w.heap.size ≤ D → I xs W → W.heap[D]? = some (.deferred (some [])) → Q .normal { a with defers := { target := .collected D, args := #[] } :: a.defers } W)
    (hstop : ∀ (D : Nat) (c : Code) (pre : List α) (W : World), w.heap.size ≤ D → pre <+: xs → Ix c pre W → W.heap[D]? = some (.deferred (some [])) → c.wpIn F n P Q { a with defers := { target := .collected D, args := #[] } :: a.defers } W) :
    (Code.rangeFunc g ps assign body).wpIn F n P Q a w :=
  range_law4 hro h1 hg hFg eg hit hps I Ix hPr hIW hI hIx h0 (fun x a' _ => a' = a₁ x) (fun _ _ _ _ _ _ h _ _ => h)
    (fun l _ x W K hi _ _ hK => hassign l x W K (hK _ _ (KeepsNew.refl _ _) hi rfl)) (fun l pre x a' W hi ha hp hs => by subst ha; exact hbody l pre x W hi hp hs) hdone hstop
end Go.PM
namespace Go.PW
open Go.PM Go.RowKit
theorem Ent.unique {nx : Nat → Option Nat} {s : Nat} {a b : Option Nat} (h : Ent nx s a) (k : Ent nx s b) : a = b := by
  obtain ⟨D, hD, h⟩ := h
  obtain ⟨E, hE, k⟩ := k
  have := hD.unique hE
  subst this
  rcases h with ⟨rfl, j, hj⟩ | ⟨rfl, h⟩
  · rcases k with ⟨rfl, _⟩ | ⟨rfl, k⟩
    · rfl
    · exact absurd hj (k j)
  · rcases k with ⟨rfl, j, hj⟩ | ⟨rfl, k⟩
    · exact absurd hj (h j)
    · rfl
theorem ent_ex {nx : Nat → Option Nat} (hn : Nice nx) {s : Nat} (hs : s < 19) : ∃ m, Ent nx s m := by
  obtain ⟨D, hD, _⟩ := (way_rho hn hs).stops
  by_cases h : ∃ k, orb nx s k = none
  · exact ⟨none, D, hD, .inl ⟨rfl, h⟩⟩
  · exact ⟨orb nx s D, D, hD, .inr ⟨rfl, fun k hk => h ⟨k, hk⟩⟩⟩
theorem ringsF_pre {nx : Nat → Option Nat} {a b : Nat} (h : a ≤ b) : ringsF nx a <+: ringsF nx b := by
  induction b with
  | zero => have : a = 0 := by omega
            subst this; exact List.prefix_refl _
  | succ b ih =>
    by_cases e : a = b + 1
    · subst e; exact List.prefix_refl _
    · have h1 := ih (by omega)
      by_cases hc : onRb nx b = true ∧ b ∉ (ringsF nx b).flatten
      · rw [ringsF_yes hc.1 hc.2]; exact h1.trans (List.prefix_append _ _)
      · rw [ringsF_no hc]; exact h1
section
variable {P : Program} {C : World → Prop}
/-- two pointers held against each other in a quiet region -/
theorem ptr_step {F : Fence} {n : Nat} {ops : Array Oper} {Q : Act → Prop} {a : Act} {o : Oper} {rest : List Oper} (hgd : Region.wanted o (yielded ops a.tmps) = true) (ty ty2 : TypeId) (x y : Operand) (ho : o.op = .binOp .neq ty x y ty2) (p q : Option Addr) (hx : a.eval x = .pointer p) (hy : a.eval y = .pointer q) (v : Value)
    (hC : ∀ W, C W → (binOp .neq ty (.pointer p) (.pointer q)).run P W = .ok v W) (h : wpQuietIn F n P ops C Q rest (a.put o.dst v)) : wpQuietIn F n P ops C Q (o :: rest) a := by
  refine wpQuietIn_step (fun w _ f hf => by simp [Oper.about, ho] at hf) (fun K hK => ?_)
  rw [if_pos hgd]
  refine ⟨v, fun W hW => ?_, hK _ h⟩
  unfold Oper.quietAtIn
  have hg : (eqGuard .neq ty x y (.pointer p) (.pointer q)).run P W = .ok () W := by
    simp [eqGuard]
  simp only [execOp, ho, hx, hy, hg, Sem.run_bind, hC W hW, Result.andThen_ok, Sem.run_pure]
  exact ⟨rfl, rfl⟩
end
end Go.PW
namespace Go.Proofs.YtdhhmphnmllbhaaGreat
open Go.RowKit Go.PM Go.PW Go.Lib
attribute [local go_sem] Oper.semAt_some

theorem neqp_nil (w : World) (a : Addr) : (binOp .neq 88 (.pointer none) (.pointer (some a))).run Tryz.prog w = .ok (.bool true) w := by
  have h : ∀ d : Nat, (Op.equalIn (d + 1) 88 (.pointer none) (.pointer (some a))).run Tryz.prog w = .ok false w := fun d => by
    simp [Op.equalIn, run_underlying Tryz.underlying88]
  simp only [binOp]
  simp [Op.equal, Op.maxDepth, h 9999]
theorem entrance_v (b : Nat) (nx : Nat → Option Nat) (hn : Nice nx) (s : Nat) (hs : s < 19) (m : Option Nat) (hm : Ent nx s m) (w : World) (hS : Spots w b nx) :
    Calls Tryz.prog 63 #[spotV b (some s)] w fun e w' => e = .returned (spotV b m) ∧ Below w.heap.size w w' :=
  (entrance_c b nx hn s hs w hS).mono fun e w' ⟨⟨m', e1, e2⟩, e3⟩ => ⟨by rw [e1, hm.unique e2], e3⟩

set_option maxRecDepth 100000 in
set_option maxHeartbeats 1000000 in
theorem rings_iter (b : Nat) (nx : Nat → Option Nat) (hn : Nice nx) :
    IterW (fun W => Spots W b nx) 3 Fence.wide 4 Tryz.prog 33 (fun y => #[.pointer (some ⟨b, 0, none⟩)] ++ #[y] ++ #[]) (fun r : List Nat => #[.string (txt r)]) (ringsF nx 9) := by
  intro l J Jx W hJ hJx hPr hJW hY h0
  change CallsIn _ _ _ _ #[.pointer (some ⟨b, 0, none⟩), .func (.yield l) #[] #[]] W _
  refine callsIn_of_wp_marks Tryz.func33 rfl trivial ?_ rfl
  simp only [Tryz.ntmps33, List.size_toArray, List.length_cons, List.length_nil, Nat.reduceAdd, Nat.reduceSub, Array.replicate_succ, Array.replicate_zero, List.push_toArray, List.append_toArray, List.nil_append, List.cons_append]
  obtain ⟨W0, hW0⟩ : ∃ W0 : World, W0 = ((W.alloc (.cells #[.pointer (some ⟨b, 0, none⟩)] 63)).alloc (.cells #[.func (.yield l) #[] #[]] 81)).alloc (.cells #[.string ⟨#[]⟩] 9) := ⟨_, rfl⟩
  have hS0 : W0.heap.size = W.heap.size + 3 := by rw [hW0]; simp only [World.size_alloc]
  have hA0 : At W0 W.heap.size 63 #[.pointer (some ⟨b, 0, none⟩)] := by rw [hW0]; exact ((At.new _ _ _).alloc _).alloc _
  have hA1 : At W0 (W.heap.size + 1) 81 #[.func (.yield l) #[] #[]] := by
    rw [hW0]; have := At.new (W.alloc (.cells #[.pointer (some ⟨b, 0, none⟩)] 63)) 81 #[.func (.yield l) #[] #[]]
    rw [World.size_alloc] at this
    exact this.alloc _
  have hA2 : At W0 (W.heap.size + 2) 9 #[.string ⟨#[]⟩] := by
    rw [hW0]; have := At.new ((W.alloc (.cells #[.pointer (some ⟨b, 0, none⟩)] 63)).alloc (.cells #[.func (.yield l) #[] #[]] 81)) 9 #[.string ⟨#[]⟩]
    rw [World.size_alloc, World.size_alloc] at this
    exact this
  have hJ0 : J [] W0 := by rw [hW0]; exact hJ.alloc _ (hJ.alloc _ (hJ.alloc _ h0))
  gi_wp2
  rw [← hW0]
  clear hW0
  refine range_law (F := Fence.wide) (gf := 59) (lf := #[.int .i64 9]) (lb := #[]) rfl (by decide) rfl trivial (fun args w => rfl) (encs := fun p : Nat => #[.int .i64 p]) (xs := List.range 9)
    (below_iter _ _ trivial rfl (by decide)) (fun _ => rfl)
    (fun pre A => J (ringsF nx pre.length) A ∧ At A W.heap.size 63 #[.pointer (some ⟨b, 0, none⟩)] ∧ At A (W.heap.size + 1) 81 #[.func (.yield l) #[] #[]] ∧ At A (W.heap.size + 2) 9 #[.string (txt (ringsF nx pre.length).flatten)])
    (fun c pre A => c = .ret ∧ ∃ pre2, pre2 <+: ringsF nx 9 ∧ Jx pre2 A) ?own ?ownx ?start ?a1 ?assign ?body ?done ?stop
  case own =>
    rintro s A A' row ⟨h1, h2, h3, h4⟩ hg hr
    have hr' : ∀ r, row = some r → W.heap.size + 3 ≤ r := fun r e => by have := (hr r e).1; omega
    have hne : ∀ b, b < W.heap.size + 3 → some b ≠ row := fun b hb e => by have := hr' _ e.symm; omega
    exact ⟨hJ _ A A' row h1 hg (fun r e => ⟨by have := hr' r e; omega, (hr r e).2⟩), h2.grown hg (hne _ (by omega)), h3.grown hg (hne _ (by omega)), h4.grown hg (hne _ (by omega))⟩
  case ownx =>
    rintro c s A A' row ⟨h1, pre2, h2, h3⟩ hg hr
    have hr' : ∀ r, row = some r → W.heap.size + 3 ≤ r := fun r e => by have := (hr r e).1; omega
    exact ⟨h1, pre2, h2, hJx _ A A' row h3 hg (fun r e => ⟨by have := hr' r e; omega, (hr r e).2⟩)⟩
  case start => exact ⟨hJ0, hA0, hA1, hA2⟩
  case assign =>
    intro l p W Kc hK
    gi_wp2
    exact hK
  case body =>
    clear hJ0 hA0 hA1 hA2
    rintro l2 pre p A ⟨h1, h2, h3, h4⟩ hp hsz
    obtain ⟨hpl, hp9⟩ := pre_len pre p hp
    rw [hpl] at h1 h4
    have HPL : Hid ((pre ++ [p]).length = p + 1) := by show _ = _; simp [hpl]
    have hSA := hPr _ A h1
    have i0 : (0 : Int) ≤ (p : Int) := by omega
    have i1 : (p : Int) < 19 := by omega
    obtain ⟨m, hm⟩ := ent_ex hn (show p < 19 by omega)
    have HENT := Lib.hid (fun W' hS => entrance_v b nx hn p (by omega) m hm W' hS)
    have hc2 : A.cell? ⟨W.heap.size, 0, none⟩ = some (.pointer (some ⟨b, 0, none⟩)) := h2.cell 0
    have hbA := hSA.lt
    have hENT : ∀ x : Ext A.heap.size A.drew, Calls Tryz.prog 63 #[.pointer (some ⟨b, p * 2, none⟩)] x.val fun e w' => e = .returned (spotV b m) ∧ Below x.val.heap.size x.val w' := fun x => HENT.out x.val (hSA.below ((Below.refl _ _).drew.trans x.property))
    have hSX : ∀ x : Ext A.heap.size A.drew, Spots x.val b nx := fun x => hSA.below ((Below.refl _ _).drew.trans x.property)
    by_cases hon : m = some p
    · subst hon
      have honR : onRb nx p = true := (onRb_iff hn (by omega)).2 ((hm.onR (way_rho hn (by omega))).1 rfl)
      have hlt9 := ringsF_lt hn p (by omega)
      have hmem := txt_mem hlt9.1 (show p < 19 by omega)
      have hszf := txt_size (ringsF nx p).flatten
      have hneq : ∀ W, (∃ x : Ext A.heap.size A.drew, W = x.val) → (binOp .neq 88 (.pointer (some ⟨b, p * 2, none⟩)) (.pointer (some ⟨b, p * 2, none⟩))).run Tryz.prog W = .ok (.bool false) W := by
        rintro W ⟨x, rfl⟩; exact neqp_yes x.val _
      have hx4 : ∀ x : Ext A.heap.size A.drew, x.val.cell? ⟨W.heap.size + 2, 0, none⟩ = some (.string (txt (ringsF nx p).flatten)) := fun x => (x.property.cell (p := ⟨W.heap.size + 2, 0, none⟩) h4.lt).trans (h4.cell 0)
      have hxn : ∀ x : Ext A.heap.size A.drew, x.val.cell? ⟨b, p * 2, none⟩ = some (.string ⟨#[ch p]⟩) := fun x => (hSX x).name p (by omega)
      have hcon : ∀ x : Ext A.heap.size A.drew, Calls Tryz.prog 57 #[.string (txt (ringsF nx p).flatten), .string ⟨#[ch p]⟩] x.val fun e w' => e = .returned (.bool (decide (ch p ∈ (txt (ringsF nx p).flatten).data.toList))) ∧ x.val = w' := fun x =>
        (Tryz.strings_Contains_one _ _ x.val).mono fun _ _ ⟨e1, e2⟩ => ⟨by
          rw [e1]; congr 2; simp only [indexByte_mem], e2.symm⟩
      have hent : ∀ x : Ext A.heap.size A.drew, Calls Tryz.prog 63 #[.pointer (some ⟨b, p * 2, none⟩)] x.val fun e w' => e = .returned (.pointer (some ⟨b, p * 2, none⟩)) ∧ Below x.val.heap.size x.val w' := hENT
      have HWB := Lib.hid (fun W' (hS : Spots W' b nx) => wayBack_c b nx hn p (by omega) W' hS)
      have hwl := (way_rho hn (show p < 19 by omega)).len
      have hwz := txt_size (way nx p)
      clear hENT
      by_cases hin : p ∈ (ringsF nx p).flatten
      · have hd : decide (ch p ∈ (txt (ringsF nx p).flatten).data.toList) = true := by simpa using hmem.2 hin
        have HNO := Lib.hid (ringsF_no (nx := nx) (k := p) (fun h => h.2 hin))
        rw [hd] at hcon
        clear hd hmem hin
        generalize ch p = c at *
        gi_wp2
        refine region_quiet_inRound (F := Fence.wide) (C := fun w' => ∃ x : Ext A.heap.size A.drew, w' = x.val) rfl (by kernel_rfl) (by kernel_rfl) (by kernel_rfl) ⟨⟨_, Below.refl _ _⟩, rfl⟩ ?_
        simp only
        gi_big_quiet_step (fail)
        (refine BigFrame.wpQuietIn_want (fun _ _ _ _ => trivial) rfl (fun K hK => ?_); gi_big_quiet_op; refine ⟨_, fun _ => callsIn_wide.2 (ext_call _ (Nat.le_refl _) (hent _)), hK _ ?_⟩; clear hK K)
        gi_big_quiet_step (fail)
        refine ptr_step rfl 88 _ (.tmp 15) (.tmp 16) rfl (some ⟨b, p * 2, none⟩) (some ⟨b, p * 2, none⟩) (by rfl) (by rfl) (.bool false) hneq ?_
        simp only [Act.put, List.setIfInBounds_toArray, List.set_cons_succ, List.set_cons_zero]
        gi_big_quiet_step (fail)
        gi_big_quiet_step (fail)
        gi_big_quiet_step (fail)
        gi_big_quiet_step (fail)
        gi_big_quiet_step (fail)
        gi_big_quiet_step (fail)
        (refine BigFrame.wpQuietIn_want (fun _ _ _ _ => trivial) rfl (fun K hK => ?_); gi_big_quiet_op; refine ⟨_, fun _ => callsIn_wide.2 (ext_same _ (hcon _)), hK _ ?_⟩; clear hK K)
        gi_big_quiet_step (fail)
        refine wpQuietIn_nil ?_
        rintro W2 ⟨xw, rfl⟩
        have hb2 : Below A.heap.size A xw.val := ((Below.refl _ _).drew).trans xw.property
        clear hx4 hxn hcon hent hSX hneq
        generalize xw.val = W2 at *
        have j1 := hJ _ A W2 none h1 (grown_below hb2 none) (fun r e => by cases e)
        have k2 := h2.keep hb2
        have k3 := h3.keep hb2
        have k4 := h4.keep hb2
        gi_wp2
        exact ⟨keepsFrom_below hb2, KeepsIn.zero hb2.size, by rw [HPL.out, HNO.out]; exact j1, k2, k3, by rw [HPL.out, HNO.out]; exact k4⟩
      · have hd : decide (ch p ∈ (txt (ringsF nx p).flatten).data.toList) = false := by simpa using fun h => hin (hmem.1 h)
        have hyes := ringsF_yes honR hin
        have HYES := Lib.hid hyes
        have HSX2 : Hid (txt (ringsF nx (p + 1)).flatten = txt (ringsF nx p).flatten ++ txt (way nx p)) := by
          show _ = _
          rw [hyes, List.flatten_append, txt_append]; simp
        have hpre : ringsF nx p ++ [way nx p] <+: ringsF nx 9 := by rw [← hyes]; exact ringsF_pre (by omega)
        rw [hd] at hcon
        clear hd hmem hin hyes
        generalize ch p = c at *
        gi_wp2
        refine region_quiet_inRound (F := Fence.wide) (C := fun w' => ∃ x : Ext A.heap.size A.drew, w' = x.val) rfl (by kernel_rfl) (by kernel_rfl) (by kernel_rfl) ⟨⟨_, Below.refl _ _⟩, rfl⟩ ?_
        simp only
        gi_big_quiet_step (fail)
        (refine BigFrame.wpQuietIn_want (fun _ _ _ _ => trivial) rfl (fun K hK => ?_); gi_big_quiet_op; refine ⟨_, fun _ => callsIn_wide.2 (ext_call _ (Nat.le_refl _) (hent _)), hK _ ?_⟩; clear hK K)
        gi_big_quiet_step (fail)
        refine ptr_step rfl 88 _ (.tmp 15) (.tmp 16) rfl (some ⟨b, p * 2, none⟩) (some ⟨b, p * 2, none⟩) (by rfl) (by rfl) (.bool false) hneq ?_
        simp only [Act.put, List.setIfInBounds_toArray, List.set_cons_succ, List.set_cons_zero]
        gi_big_quiet_step (fail)
        gi_big_quiet_step (fail)
        gi_big_quiet_step (fail)
        gi_big_quiet_step (fail)
        gi_big_quiet_step (fail)
        gi_big_quiet_step (fail)
        (refine BigFrame.wpQuietIn_want (fun _ _ _ _ => trivial) rfl (fun K hK => ?_); gi_big_quiet_op; refine ⟨_, fun _ => callsIn_wide.2 (ext_same _ (hcon _)), hK _ ?_⟩; clear hK K)
        gi_big_quiet_step (fail)
        refine wpQuietIn_nil ?_
        rintro W2 ⟨xw, rfl⟩
        have hb2 : Below A.heap.size A xw.val := ((Below.refl _ _).drew).trans xw.property
        have hSW := hSX xw
        clear hx4 hxn hcon hent hSX hneq
        generalize xw.val = W2 at *
        have j1 := hJ _ A W2 none h1 (grown_below hb2 none) (fun r e => by cases e)
        have k2 := h2.keep hb2
        have k3 := h3.keep hb2
        have k4 := h4.keep hb2
        have hz2 := hb2.size
        gi_wp2
        refine ⟨trivial, CallsIn.inRound l2 (callsIn_wide.2 ((HWB.out W2 hSW).mono ?_))⟩
        rintro e W3 ⟨rfl, hb3⟩
        have j3 := hJ _ W2 W3 none j1 (grown_below hb3 none) (fun r e => by cases e)
        have m2 := k2.keep hb3
        have m3 := k3.keep hb3
        have m4 := k4.keep hb3
        have hz3 := hb3.size
        have kf3 : KeepsFrom W0.heap.size A W3 := (keepsFrom_below hb2).trans (keepsFrom_below hb3)
        obtain ⟨fn, tmps, assign, body, hy, hR⟩ := yieldAt_wide (m := 1) (hY (ringsF nx p) (way nx p) W3 j3 (by omega) hpre)
        have hyc : W3.cell? ⟨W.heap.size + 1, 0, none⟩ = some (.func (.yield l) #[] #[]) := m3.cell 0
        clear h1 h2 h3 h4 k2 k3 k4 j1
        gi_wp2
        refine hR.mono ?_
        rintro e A2 (⟨rfl, hJ3, hKN, hKF⟩ | ⟨rfl, hJ3, _, hKF⟩)
        · have q2 : At A2 W.heap.size 63 #[.pointer (some ⟨b, 0, none⟩)] := (hKN.same _ (Nat.le_refl _) (by omega)).trans m2
          have q3 : At A2 (W.heap.size + 1) 81 #[.func (.yield l) #[] #[]] := (hKN.same _ (by omega) (by omega)).trans m3
          have q4 : At A2 (W.heap.size + 2) 9 #[.string (txt (ringsF nx p).flatten)] := (hKN.same _ (by omega) (by omega)).trans m4
          have kN : W3.heap.size ≤ A2.heap.size := hKN.size
          have kF : KeepsFrom W0.heap.size A A2 := kf3.trans ⟨hKF.size, fun k o hk h4 h5 => hKF.same k o (by omega) h4 h5⟩
          have c4 : A2.cell? ⟨W.heap.size + 2, 0, none⟩ = some (.string (txt (ringsF nx p).flatten)) := q4.cell 0
          have f4 : A2.frozen? ⟨W.heap.size + 2, 0, none⟩ = false := q4.frozen 0
          have l4 := q4.lt
          have hgs : A2.grownBy (A2.setCell ⟨W.heap.size + 2, 0, none⟩ (.string (txt (ringsF nx p).flatten ++ txt (way nx p)))) (some (W.heap.size + 2)) := grownBy_setCell' A2 (W.heap.size + 2) _
          have j5 := hJW _ A2 _ (W.heap.size + 2) hJ3 (by omega) (by omega) hgs
          have s2 := q2.far (p := ⟨W.heap.size + 2, 0, none⟩) (by simp) (.string (txt (ringsF nx p).flatten ++ txt (way nx p)))
          have s3 := q3.far (p := ⟨W.heap.size + 2, 0, none⟩) (by simp) (.string (txt (ringsF nx p).flatten ++ txt (way nx p)))
          have s4 := q4.set 0 (.string (txt (ringsF nx p).flatten ++ txt (way nx p)))
          clear hR hY m2 m3 m4 q2 q3 q4 hgs
          gi_wp2
          refine ⟨kF.trans ((KeepsOthers.setCell _ _ _).from _), KeepsIn.zero (by simp [World.size_setCell]; omega), ?_, s2, s3, ?_⟩
          · rw [HPL.out, HYES.out]; exact j5
          · rw [HPL.out, HSX2.out]; exact s4
        · have kF : KeepsFrom W0.heap.size A A2 := kf3.trans ⟨hKF.size, fun k o hk h4 h5 => hKF.same k o (by omega) h4 h5⟩
          clear hR hY m2 m3 m4
          gi_wp2
          exact ⟨kF, rfl, _, hpre, hJ3⟩
    · have hno := ringsF_no (nx := nx) (k := p) (fun h => hon ((hm.onR (way_rho hn (by omega))).2 ((onRb_iff hn (by omega)).1 h.1)))
      have HNO := Lib.hid hno
      have hneq : ∀ x : Ext A.heap.size A.drew, ∃ q, spotV b m = .pointer q ∧ (binOp .neq 88 (.pointer q) (.pointer (some ⟨b, p * 2, none⟩))).run Tryz.prog x.val = .ok (.bool true) x.val := fun x => by
        cases m with
        | none => exact ⟨none, rfl, neqp_nil _ _⟩
        | some y => exact ⟨_, rfl, neqp_no x.val b nx (hSX x) y p (fun e => hon (by rw [e]))⟩
      clear hno hon hm
      gi_wp2
      refine region_quiet_inRound (F := Fence.wide) (C := fun w' => ∃ x : Ext A.heap.size A.drew, w' = x.val) rfl (by kernel_rfl) (by kernel_rfl) (by kernel_rfl) ⟨⟨_, Below.refl _ _⟩, rfl⟩ ?_
      simp only
      gi_big_quiet_step (fail)
      (refine BigFrame.wpQuietIn_want (fun _ _ _ _ => trivial) rfl (fun K hK => ?_); gi_big_quiet_op; refine ⟨_, fun _ => callsIn_wide.2 (ext_call _ (Nat.le_refl _) (hENT _)), hK _ ?_⟩; clear hK K)
      gi_big_quiet_step (fail)
      obtain ⟨q, hq1, hq2⟩ : ∃ q, spotV b m = .pointer q ∧ ∀ W, (∃ x : Ext A.heap.size A.drew, W = x.val) → (binOp .neq 88 (.pointer q) (.pointer (some ⟨b, p * 2, none⟩))).run Tryz.prog W = .ok (.bool true) W := by
        obtain ⟨q, e1, _⟩ := hneq ⟨_, Below.refl _ _⟩
        refine ⟨q, e1, ?_⟩
        rintro W ⟨x, rfl⟩
        obtain ⟨q', e2, e3⟩ := hneq x
        rw [e1] at e2
        cases e2
        exact e3
      clear hneq
      rw [hq1]
      refine ptr_step rfl 88 _ (.tmp 15) (.tmp 16) rfl q (some ⟨b, p * 2, none⟩) (by rfl) (by rfl) (.bool true) hq2 ?_
      simp only [Act.put, List.setIfInBounds_toArray, List.set_cons_succ, List.set_cons_zero]
      repeat (first | gi_big_quiet_step (fail) | (refine BigFrame.wpQuietIn_skip (fun _ _ _ _ => trivial) rfl ?_; simp only [Act.put, List.setIfInBounds_toArray, List.set_cons_succ, List.set_cons_zero]))
      refine wpQuietIn_nil ?_
      rintro W2 ⟨xw, rfl⟩
      have hb2 : Below A.heap.size A xw.val := ((Below.refl _ _).drew).trans xw.property
      clear hENT hSX hq2
      generalize xw.val = W2 at *
      have j1 := hJ _ A W2 none h1 (grown_below hb2 none) (fun r e => by cases e)
      have k2 := h2.keep hb2
      have k3 := h3.keep hb2
      have k4 := h4.keep hb2
      gi_wp2
      exact ⟨keepsFrom_below hb2, KeepsIn.zero hb2.size, by rw [HPL.out, HNO.out]; exact j1, k2, k3, by rw [HPL.out, HNO.out]; exact k4⟩
  case done =>
    clear hJ0 hA0 hA1 hA2 hY
    intro D A hD hI hd
    obtain ⟨h1, h2, h3, h4⟩ := hI
    gi_wp2
    refine ⟨by simp, .inl ⟨D, _, rfl, run_takeDeferred hd, ?_⟩⟩
    refine ⟨_, results_none rfl _ _ _, ⟨_, rfl⟩, .inl ?_⟩
    exact hJ.putObj _ h1 (by omega) hd rfl
  case stop =>
    clear hJ0 hA0 hA1 hA2 hY
    rintro D c pre A hD hp ⟨rfl, pre2, hp2, h1⟩ hd
    gi_wp2
    refine ⟨by simp, .inl ⟨D, _, rfl, run_takeDeferred hd, ?_⟩⟩
    refine ⟨_, results_none rfl _ _ _, ⟨_, rfl⟩, .inr ⟨pre2, hp2, ?_⟩⟩
    exact hJx.putObj _ h1 (by omega) hd rfl
end Go.Proofs.YtdhhmphnmllbhaaGreat
namespace Go.PW
open Go.RowKit Go.PM
theorem Spots.of_at {w w' : World} {b : Nat} {nx : Nat → Option Nat} (h : Spots w b nx) (hk : ∀ t cs, At w b t cs → At w' b t cs) : Spots w' b nx := by
  obtain ⟨t, cs, hA⟩ := h.row
  have hB := hk t cs hA
  exact ⟨⟨t, cs, hB⟩, fun i hi => by rw [hB.cell, ← hA.cell]; exact h.name i hi, fun i hi => by rw [hB.cell, ← hA.cell]; exact h.src i hi⟩
end Go.PW
namespace Go.Proofs.YtdhhmphnmllbhaaGreat
open Go.RowKit Go.PM Go.PW Go.Lib
attribute [local go_sem] Oper.semAt_some

theorem appIn_str {F : Fence} {k : Nat} {ops : Array Oper} {rest : List Oper} {o : Oper} {a : Act} {Q : Exit → Act → World → Prop} {w : World} (hgd : o.guard = none) (s x : Operand)
    (ho : o.op = .call { callee := .builtin .append, args := #[s, x], argTypes := #[33, 33] })
    (base : Nat) (v : Value) (ys : List ByteArray) (m : ByteArray) (ad : Addr) (c : Nat) (hs : a.eval s = v) (hx : a.eval x = .slice (some ad) 1 c)
    (hown : w.ownsRow base 9 1 v ys.length (tcells ys)) (hnew : ∀ j u, [Value.string m][j]? = some u → w.cell? (ad.add j) = some u)
    (hlen : ys.length ≤ 1048576) (hbase : base ≤ w.heap.size)
    (h : ∀ v' w', w'.ownsRow base 9 1 v' (ys ++ [m]).length (tcells (ys ++ [m])) → w.grownBy w' v.ownBlock → wpListIn F k Tryz.prog ops Q rest (a.put o.dst v') w') : wpListIn F k Tryz.prog ops Q (o :: rest) a w := by
  obtain ⟨i0, hi0, hz0, hz1, hz2⟩ := info_parts infoStr
  refine wpListIn_append_own w hgd s x _ ho base 9 i0 _ 1 16 Tryz.underlying33 hi0 hz0 hz1 hz2 rfl (by omega) v ys.length (tcells ys) hs hown ad 1 c [Value.string m] hx rfl hnew
    (by intro u hu; simp at hu; subst hu; rfl) (by simp only [maxLen]; omega) (by omega) hbase ?_
  intro v' w' h2 h3 _
  refine h v' w' ?_ h3
  rw [tcells_append, List.length_append]
  simpa [tcells] using h2

end Go.Proofs.YtdhhmphnmllbhaaGreat
namespace Go.PW
open Go.PM
def shut1 (f : Nat → ByteArray) (l : List Nat) : Bool := l.all fun i => decide (rcount f i = 1)
theorem ringsF_mem {nx : Nat → Option Nat} : ∀ k, ∀ l ∈ ringsF nx k, ∃ s, s < k ∧ l = way nx s ∧ onRb nx s = true := by
  intro k
  induction k with
  | zero => intro l h; simp [ringsF] at h
  | succ k ih =>
    intro l h
    by_cases hc : onRb nx k = true ∧ k ∉ (ringsF nx k).flatten
    · rw [ringsF_yes hc.1 hc.2, List.mem_append] at h
      rcases h with h | h
      · obtain ⟨s, h1, h2⟩ := ih l h; exact ⟨s, by omega, h2⟩
      · simp at h; exact ⟨k, by omega, h, hc.1⟩
    · rw [ringsF_no hc] at h
      obtain ⟨s, h1, h2⟩ := ih l h; exact ⟨s, by omega, h2⟩
theorem all_eq {α : Type _} {p q : α → Bool} : ∀ (l : List α), (∀ i ∈ l, p i = q i) → l.all p = l.all q
  | [], _ => rfl
  | a :: l, h => by rw [List.all_cons, List.all_cons, h a (by simp), all_eq l fun i hi => h i (by simp [hi])]
theorem shut_iff {f : Nat → ByteArray} (hf : SV f) {l : List Nat} (hl : l ∈ ringsF (nxT f) 9) : shut f l = shut1 f l := by
  obtain ⟨s, hs, rfl, hon⟩ := ringsF_mem 9 l hl
  unfold shut shut1
  have h : ∀ i ∈ way (nxT f) s, decide (rcount f i ≤ 1) = decide (rcount f i = 1) := fun i hi => by
    rw [decide_eq_decide]; exact ring_one hf (by omega) hon hi
  exact all_eq _ h
theorem closed_take {f : Nat → ByteArray} {l : List Nat} {j : Nat} (hj : j < l.length) : shut1 f (l.take (j + 1)) = (shut1 f (l.take j) && decide (rcount f l[j] = 1)) := by
  unfold shut1
  rw [take_snoc l j hj, List.all_append]; simp
def closedT (f : Nat → ByteArray) (rs : List (List Nat)) : List ByteArray := (rs.filter (shut1 f)).map txt
theorem closedT_yes {f : Nat → ByteArray} {rs : List (List Nat)} {l : List Nat} (h : shut1 f l = true) : closedT f (rs ++ [l]) = closedT f rs ++ [txt l] := by simp [closedT, h]
theorem closedT_no {f : Nat → ByteArray} {rs : List (List Nat)} {l : List Nat} (h : shut1 f l = false) : closedT f (rs ++ [l]) = closedT f rs := by simp [closedT, h]
theorem closedT_len {f : Nat → ByteArray} (rs : List (List Nat)) : (closedT f rs).length ≤ rs.length := by
  unfold closedT; rw [List.length_map]; exact List.length_filter_le _ _
def closedB (xs : List Mv) : List ByteArray := if mvalid xs then closedT (tabOf xs) (ringsF (nxT (tabOf xs)) 9) else []
theorem closedB_len (xs : List Mv) : (closedB xs).length ≤ 1000 := by
  unfold closedB
  by_cases h : mvalid xs = true
  · rw [if_pos h]
    have h1 := (ringsF_lt (nice (SV_tab (by simpa [mvalid] using h))) 9 (by omega)).2.1
    have h2 := closedT_len (f := tabOf xs) (ringsF (nxT (tabOf xs)) 9)
    omega
  · rw [if_neg h]; simp
end Go.PW
namespace Go.Proofs.YtdhhmphnmllbhaaGreat
open Go.RowKit Go.PM Go.PW Go.Lib

theorem app_strL {ops : Array Oper} {rest : List Oper} {o : Oper} {a : Act} {Q : Exit → Act → World → Prop} {w : World} (hgd : o.guard = none) (s x : Operand)
    (ho : o.op = .call { callee := .builtin .append, args := #[s, x], argTypes := #[33, 33] })
    (base : Nat) (v : Value) (ys : List ByteArray) (m : ByteArray) (ad : Addr) (c : Nat) (hs : a.eval s = v) (hx : a.eval x = .slice (some ad) 1 c)
    (hown : w.ownsRow base 9 1 v ys.length (tcells ys)) (hnew : ∀ j u, [Value.string m][j]? = some u → w.cell? (ad.add j) = some u)
    (hlen : ys.length ≤ 1048576) (hbase : base ≤ w.heap.size)
    (h : ∀ v' w', w'.ownsRow base 9 1 v' (ys ++ [m]).length (tcells (ys ++ [m])) → w.grownBy w' v.ownBlock → (∀ g, v'.ownBlock = some g → v.ownBlock = some g ∨ g = w.heap.size) → wpList Tryz.prog ops Q rest (a.put o.dst v') w') : wpList Tryz.prog ops Q (o :: rest) a w := by
  obtain ⟨i0, hi0, hz0, hz1, hz2⟩ := info_parts infoStr
  refine wpList_append_lies w hgd s x _ ho base 9 i0 _ 1 16 Tryz.underlying33 hi0 hz0 hz1 hz2 rfl (by omega) v ys.length (tcells ys) hs hown ad 1 c [Value.string m] hx rfl hnew
    (by intro u hu; simp at hu; subst hu; rfl) (by omega) (by simp only [maxLen]; omega) (by omega) hbase _ rfl ?_
  intro g cap w' h2 h3 h4 _
  refine h _ w' ?_ h3 (fun g' e => by cases e; exact h4)
  rw [tcells_append, List.length_append]
  simpa [tcells] using h2
set_option maxRecDepth 100000 in
set_option maxHeartbeats 1600000 in
theorem l3Closed_c (xs : List Mv) (h1 : MV xs) (v : Value) (w : World) (hx : RdM w v xs) :
    Calls Tryz.prog 54 #[v] w fun e w' => ∃ v', e = .returned v' ∧ w'.ownsRow w.heap.size 9 1 v' (closedT (tabOf xs) (ringsF (nxT (tabOf xs)) 9)).length (tcells (closedT (tabOf xs) (ringsF (nxT (tabOf xs)) 9))) ∧ Below w.heap.size w w' := by
  have hf := SV_tab h1
  have hn := nice hf
  have HL := Lib.hid (fun W (hW : RdM W v xs) => l3Rings_c xs h1 v W hW)
  have HX := Lib.hid (fun W (hW : Below w.heap.size w W) => hx.below hW)
  have HRD := Lib.hid (fun W (hW : RdM W v xs) (i : Nat) => show Calls Tryz.prog 81 #[v, .string (sn i)] W fun e w' => e = .returned (.string (namesW (rdH (tabOf xs) (sn i)))) ∧ Below W.heap.size W w' from by
    have := l1Readers_c xs v (sn i) W hW
    rwa [rsH_rdH h1] at this)
  have HRC : Hid (∀ i, rcount (tabOf xs) i = (namesW (rdH (tabOf xs) (sn i))).size) := fun _ => rfl
  have hE := World.ownsRow_lit (e := 9) (base := w.heap.size) (size := 1) w #[] 0 (Nat.le_refl _) (Nat.zero_le _) rfl
  have hlt9 := ringsF_lt hn 9 (by omega)
  have HWL : Hid (∀ l ∈ ringsF (nxT (tabOf xs)) 9, l.length ≤ 19) := fun l hl => by
    obtain ⟨s, hs, rfl, _⟩ := ringsF_mem 9 l hl
    exact (way_rho hn (by omega)).len
  have HRT : Hid (ringsT (nxT (tabOf xs)) 9 = (ringsF (nxT (tabOf xs)) 9).map txt) := rfl
  clear hf hn
  generalize tabOf xs = f at *
  generalize hrs : ringsF (nxT f) 9 = rs at *
  generalize ringsT (nxT f) 9 = rt at *
  go_enter Tryz.func54, Tryz.ntmps54
  go_wp2_with fail
  refine (HL.out _ (HX.out _ ((Below.refl _ _).alloc (Nat.le_refl _) _))).mono ?_
  rintro e w1 ⟨v', rfl, ho, hb1⟩
  have hb1w : Below w.heap.size w w1 := ((Below.refl _ _).alloc (Nat.le_refl _) _).trans (hb1.mono (by simp))
  have hE1 := own_keep hE hb1
  have hge : ∀ g, v'.ownBlock = some g → w.heap.size + 1 ≤ g := fun g e => by have := own_block_ge ho g e; simpa using this
  have hs1 := hb1w.size
  have hr1 : RdT w1 v' rt := Rd.of_own ho
  rw [HRT.out] at hr1
  obtain ⟨A, cap, rfl, hn1, hc1, hcell⟩ := hr1.open
  have hcel : ∀ k (hk : k < rs.length), ∃ b off, A = some ⟨b, off, none⟩ ∧ b < w1.heap.size ∧ w1.cell? ⟨b, off + k, none⟩ = some (.string (txt rs[k])) := fun k hk => by
    have := hcell k (by simpa using hk)
    simpa using this
  rw [List.length_map] at hn1 hc1
  have HBG : Hid (∀ b off, A = some ⟨b, off, none⟩ → rs.length ≠ 0 → w.heap.size + 1 ≤ b) := fun b off e hne => by
    rcases ho.2 with ⟨h0, _⟩ | ⟨g, cap', cur, h0, _⟩
    · injection h0 with e1 _ _
      rw [e1] at e; cases e
    · injection h0 with e1 _ _
      rw [e1] at e
      cases e
      exact hge _ (by rw [e1]; rfl)
  clear hr1 ho hb1 hcell hge
  have hlen : (rs.map txt).length = rs.length := List.length_map ..
  rw [hlen]
  go_wp2
  go_loopw [3, 5, 6, 7, 12] (fun o _ _ _ i wr => ∃ (k : Nat), k ≤ rs.length ∧ i = .int .i64 k ∧ wr.ownsRow w.heap.size 9 1 o (closedT f (rs.take k)).length (tcells (closedT f (rs.take k))) ∧ Hid (∀ g, o.ownBlock = some g → g < w.heap.size + 1 ∨ w1.heap.size ≤ g) ∧ Below w.heap.size w wr ∧ KeepsNew (w.heap.size + 1) w1 wr) (fun _ _ _ _ i _ => rs.length - (RowKit.intOf i).toNat)
  case atStart => exact ⟨0, by omega, rfl, hE1, (fun g e => by cases e; exact .inl (Nat.lt_succ_self _)), hb1w, KeepsNew.refl _ _⟩
  case round =>
    obtain ⟨k, hk, rfl, ho, HOB, hbw, hkn⟩ := hrel
    have hbs := hkn.size
    have hbws := hbw.size
    by_cases hlt : k < rs.length
    · obtain ⟨b, off, rfl, hbl, hc⟩ := hcel k hlt
      have hbge := HBG.out b off rfl (by omega)
      have hbl2 : b < wr.heap.size := by omega
      have hd : wr.cell? ⟨b, off + k, none⟩ = some (.string (txt rs[k])) := by
        rw [← hc]; unfold World.cell?; rw [hkn.same b hbge hbl]
      have hl19 := HWL.out rs[k] (List.getElem_mem hlt)
      have hlt19 : ∀ i ∈ rs[k], i < 19 := fun i hi => hlt9.1 i (List.mem_flatten.2 ⟨rs[k], List.getElem_mem hlt, hi⟩)
      have hle := closedT_len (f := f) (rs.take k)
      rw [List.length_take] at hle
      have hrl : rs.length ≤ 9 := hlt9.2.1
      have HY := Lib.hid (fun (h : shut1 f rs[k] = true) => closedT_yes (f := f) (rs := rs.take k) (l := rs[k]) h)
      have HN := Lib.hid (fun (h : shut1 f rs[k] = false) => closedT_no (f := f) (rs := rs.take k) (l := rs[k]) h)
      have HTK := Lib.hid (take_snoc rs k hlt)
      clear hc hcel
      generalize rs[k] = r at *
      have htz := txt_size r
      have hcz : (txt r).size = r.length := htz
      have HEX : Hid (∀ j (hj : j < r.length), (txt r).extract j (j + 1) = sn r[j]) := fun j hj => by
        rw [extract_one _ _ (by rw [hcz]; exact hj), txt_list, List.getD_eq_getElem?_getD, List.getElem?_map, List.getElem?_eq_getElem hj]; rfl
      have HCT := Lib.hid (fun j (hj : j < r.length) => closed_take (f := f) (l := r) (j := j) hj)
      have HALL : Hid (r.take r.length = r) := List.take_length
      generalize htr : txt r = t at *
      have HTR := Lib.hid htr
      clear htr
      go_wp2
      rename World => wo
      go_loopw [6, 7, 18] (fun cl _ i W => ∃ (j : Nat), j ≤ r.length ∧ i = .int .i64 j ∧ cl = .bool (shut1 f (r.take j)) ∧ Below wo.heap.size wo W) (fun _ _ i _ => r.length - (RowKit.intOf i).toNat)
      case atStart => exact ⟨0, by omega, rfl, rfl, Below.refl _ _⟩
      case round =>
        obtain ⟨j, hj, rfl, rfl, hbi⟩ := hrel
        have hbis := hbi.size
        have hbiw := hbw.trans (hbi.mono hbws)
        have hbiws := hbiw.size
        by_cases hjl : j < r.length
        · have hex := HEX.out j hjl
          have hct := HCT.out j hjl
          rcases Bool.eq_false_or_eq_true (shut1 f (r.take j)) with hsh | hsh
          · have hxr := HX.out _ hbiw
            have hrd := HRD.out _ hxr r[j]
            have hrc := HRC.out r[j]
            rw [hsh, Bool.true_and] at hct
            generalize namesW (rdH f (sn r[j])) = q at *
            have HRX := Lib.hid hrd
            have HC2 := Lib.hid hct
            have HR2 := Lib.hid hrc
            clear hrd hct hrc hxr
            rw [hsh]
            generalize sn r[j] = sr at *
            by_cases hq : q.size = 1
            · have hqq : ((q.size : Int) == 1) = true := by rw [hq]; rfl
              have HF : Hid (shut1 f (r.take (j + 1)) = true) := by show _ = _; rw [HC2.out, HR2.out]; simpa using hq
              clear hq hsh
              go_wp2_with fail
              refine HRX.out.mono ?_
              rintro e w4 ⟨rfl, hb4⟩
              have hbi4 := hbi.trans (hb4.mono hbis)
              clear hb4
              go_wp2
              go_roundw
              case rel => exact ⟨j + 1, by omega, by go_num, by rw [HF.out], hbi4⟩
              case measure => simp [RowKit.intOf]; omega
            · have hqq : ((q.size : Int) == 1) = false := by simp; omega
              have HF : Hid (shut1 f (r.take (j + 1)) = false) := by show _ = _; rw [HC2.out, HR2.out]; simpa using hq
              clear hq hsh
              go_wp2_with fail
              refine HRX.out.mono ?_
              rintro e w4 ⟨rfl, hb4⟩
              have hbi4 := hbi.trans (hb4.mono hbis)
              clear hb4
              go_wp2
              go_roundw
              case rel => exact ⟨j + 1, by omega, by go_num, by rw [HF.out], hbi4⟩
              case measure => simp [RowKit.intOf]; omega
          · rw [hsh, Bool.false_and] at hct
            have HF := Lib.hid hct
            clear hct
            rw [hsh]
            clear hsh
            go_wp2
            go_roundw
            case rel => exact ⟨j + 1, by omega, by go_num, by rw [HF.out], hbi⟩
            case measure => simp [RowKit.intOf]; omega
        · have hj' : j = r.length := by omega
          subst hj'
          rw [HALL.out]
          have hb5 := hbw.trans (hbi.mono hbws)
          have hk5 : KeepsNew (w.heap.size + 1) w1 wr := hkn.trans (KeepsNew.below hbi)
          have hk5s := hk5.size
          have ho5 := own_keep ho hbi
          rcases Bool.eq_false_or_eq_true (shut1 f r) with hsh | hsh
          · have hyy := HY.out hsh
            rw [← HTK.out] at hyy
            have HF := Lib.hid hyy
            rw [hsh]
            have hnw := one_new wr (.string t) 9
            have hown0 := own_keep ho5 ((Below.refl _ _).alloc (Nat.le_refl _) (.cells #[.string t] 9))
            clear hyy hsh
            go_wp2_with (at_builtin; refine app_strL rfl (.tmp 35) (.tmp 37) rfl w.heap.size u3 (closedT f (rs.take k)) t ⟨wr.heap.size, 0, none⟩ 1 (by rfl) (by rfl) hown0 hnw (by omega) (by simp; omega) ?_; intro v' w3 hown3 hgrow3 hlies3)
            have hb3 := below_grown hgrow3 (B := w.heap.size) (by have := hb5.size; simp; omega) (own_block_ge ho5)
            have hk6 : KeepsNew (w.heap.size + 1) w1 w3 := ⟨by have := hgrow3.size; simp at this; omega, fun x hx1 hx2 => by
              rw [hgrow3.block x (by simp; omega) (fun e => by have := HOB.out x e.symm; omega), Below.heap_alloc _ _ _ (by omega)]
              exact hk5.same x hx1 hx2⟩
            have HOB3 : Hid (∀ g, Value.ownBlock v' = some g → g < w.heap.size + 1 ∨ w1.heap.size ≤ g) := fun g e => by
              rcases hlies3 g e with h | h
              · exact HOB.out g h
              · right; simp at h; omega
            clear hlies3
            go_roundw
            case rel =>
              refine ⟨k + 1, by omega, by go_num, ?_, HOB3, (hb5.alloc hb5.size _).trans hb3, hk6⟩
              rw [HF.out]; exact hown3
            case measure => simp [RowKit.intOf]; omega
          · have hnn := HN.out hsh
            rw [← HTK.out] at hnn
            have HF := Lib.hid hnn
            rw [hsh]
            clear hnn hsh
            go_wp2
            go_roundw
            case rel => exact ⟨k + 1, by omega, by go_num, by rw [HF.out]; exact ho5, HOB, hb5, hk5⟩
            case measure => simp [RowKit.intOf]; omega
    · have hk' : k = rs.length := by omega
      have ho2 := ho
      rw [hk', List.take_of_length_le (Nat.le_refl _)] at ho2
      clear hk' ho
      go_wp2
      go_ret
      exact ⟨_, rfl, ho2, hbw⟩

theorem spClosedRings_c (xs : List Mv) (v : Value) (w : World) (hx : RdM w v xs) (hz : ∀ m ∈ xs, m.1.size ≤ 9223372036854775807 ∧ m.2.size ≤ 9223372036854775807) (hn' : xs.length ≤ 1048576) :
    Calls Tryz.prog 26 #[v] w fun e w' => ∃ v', e = .returned (.tuple #[v', .bool (mvalid xs)]) ∧ w'.ownsRow w.heap.size 9 1 v' (closedB xs).length (tcells (closedB xs)) ∧ Below w.heap.size w w' := by
  rcases Bool.eq_false_or_eq_true (mvalid xs) with h1 | h1
  · rw [h1, show closedB xs = closedT (tabOf xs) (ringsF (nxT (tabOf xs)) 9) from if_pos h1]
    have HL := Lib.hid (fun W (hW : RdM W v xs) => l3Closed_c xs (by simpa [mvalid] using h1) v W hW)
    go_enter Tryz.func26, Tryz.ntmps26
    go_wp2_with fail
    refine (spMovesValid_c xs v _ hx hz hn').mono ?_
    rintro e w1 ⟨he, hb1⟩
    rw [h1] at he
    subst he
    have hs1 := hb1.size
    go_wp2_with fail
    refine (HL.out _ (hx.below hb1)).mono ?_
    rintro e w2 ⟨v', rfl, ho, hb2⟩
    have ho2 := own_more ho hs1
    go_wp2
    go_ret2
    exact ⟨_, rfl, ho2, hb1.trans (hb2.mono hs1)⟩
  · rw [h1, show closedB xs = [] from if_neg (by rw [h1]; decide)]
    go_enter Tryz.func26, Tryz.ntmps26
    go_wp2_with fail
    refine (spMovesValid_c xs v _ hx hz hn').mono ?_
    rintro e w1 ⟨he, hb1⟩
    rw [h1] at he
    subst he
    have hs1 := hb1.size
    have hE := World.ownsRow_lit (e := 9) (base := w.heap.size) (size := 1) w1 #[] 0 hs1 (Nat.zero_le _) rfl
    go_wp2
    go_ret2
    exact ⟨_, rfl, hE, by (repeat' (first | (with_reducible exact Below.refl _ _) | (with_reducible assumption) | (with_reducible refine Below.alloc ?_ ?_ _) | (with_reducible refine Below.drew ?_) | (with_reducible refine Below.setCell ?_ ?_ _) | (with_reducible exact Nat.le_refl _) | omega | ((repeat (first | rewrite [World.size_alloc] | rewrite [World.size_setCell] | rewrite [World.size_drew])); omega) | (simp; omega) | (simp; done)))⟩
end Go.Proofs.YtdhhmphnmllbhaaGreat
namespace Go.PM
section
variable {F : Fence} {n : Nat} {P : Program} {b : Frame} {a : Act} {k : List Item} {cs : List Frame} {w : World} {Q : Exit → Act → World → Prop}
theorem stepR_scope {c : Code} : step P (lone (b.atR a (.code (.scope c) :: k)) cs w) = .next (lone (b.atR a (.code c :: .inScope c :: k)) cs w) :=
  step_lone_go (by simp [stepG, stepG.exec, Frame.atR])
theorem stepR_inScope {c : Code} : step P (lone (b.atR a (.inScope c :: k)) cs w) = .next (lone (b.atR a k) cs w) :=
  step_lone_go (by simp [stepG, stepG.exec, Frame.atR])
/-- a scope through which the run goes without a goto, inside a fence -/
theorem wpIn_scope {c : Code} (h : c.wpIn F n P (Exit.noGoto Q) a w) : (Code.scope c).wpIn F n P Q a w := by
  intro b k cs hro hb hr
  have h0 : (lone (b.atR a (.code (.scope c) :: k)) cs w).fenced P F := fenced_calm hb hr rfl
  obtain ⟨e, a₁, w₁, hq, harr⟩ := h b (.inScope c :: k) cs hro hb hr
  cases e with
  | normal => exact ⟨.normal, a₁, w₁, hq, .head h0 stepR_scope (StepsIn.trans harr (.one (fenced_calm hb hr rfl) stepR_inScope))⟩
  | exit id' =>
    have hx : exitTo id' (.inScope c :: k) = exitTo id' k := by simp [exitTo]
    exact ⟨.exit id', a₁, w₁, hq, fun k' hk => .head h0 stepR_scope (harr.1 k' (by rw [hx]; exact hk)),
      fun hr' hk => let ⟨k₁, h1, h2⟩ := harr.2 hr' (by rw [hx]; exact hk); ⟨k₁, h1, .head h0 stepR_scope h2⟩⟩
  | goto l => exact hq.elim
  | ret => exact ⟨_, a₁, w₁, hq, .of_steps (.one h0 stepR_scope) harr⟩
  | panic ch => exact ⟨_, a₁, w₁, hq, .of_steps (.one h0 stepR_scope) harr⟩
  | outgrown => exact ⟨_, a₁, w₁, hq, .of_steps (.one h0 stepR_scope) harr⟩
end
end Go.PM
namespace Go.PW
open Go.RowKit Go.PM
def closedS (f : Nat → ByteArray) (rs : List (List Nat)) : List ByteArray := (rs.filter (shut f)).map txt
theorem closedS_yes {f : Nat → ByteArray} {rs : List (List Nat)} {l : List Nat} (h : shut f l = true) : closedS f (rs ++ [l]) = closedS f rs ++ [txt l] := by simp [closedS, h]
theorem closedS_no {f : Nat → ByteArray} {rs : List (List Nat)} {l : List Nat} (h : shut f l = false) : closedS f (rs ++ [l]) = closedS f rs := by simp [closedS, h]
theorem closedS_len {f : Nat → ByteArray} (rs : List (List Nat)) : (closedS f rs).length ≤ rs.length := by
  unfold closedS; rw [List.length_map]; exact List.length_filter_le _ _
theorem closedS_T {f : Nat → ByteArray} (hf : SV f) : closedS f (ringsF (nxT f) 9) = closedT f (ringsF (nxT f) 9) := by
  unfold closedS closedT
  congr 1
  exact List.filter_congr fun l hl => shut_iff hf hl
theorem shut_take {f : Nat → ByteArray} {l : List Nat} {j : Nat} (hj : j < l.length) : shut f (l.take (j + 1)) = (shut f (l.take j) && decide (rcount f l[j] ≤ 1)) := by
  unfold shut
  rw [take_snoc l j hj, List.all_append]; simp
theorem shut_bad {f : Nat → ByteArray} {l : List Nat} {j : Nat} (hj : j < l.length) (h : ¬ rcount f l[j] ≤ 1) : shut f l = false := by
  unfold shut
  rw [List.all_eq_false]
  exact ⟨l[j], List.getElem_mem hj, by simpa using h⟩
end Go.PW
namespace Go.Proofs.YtdhhmphnmllbhaaGreat
open Go.RowKit Go.PM Go.PW Go.Lib
attribute [local go_sem] Oper.semAt_some

set_option maxRecDepth 100000 in
set_option maxHeartbeats 2000000 in
theorem imClosedRings_c (xs : List Mv) (v : Value) (w : World) (hx : RdM w v xs) :
    Calls Tryz.prog 13 #[v] w fun e w' => ∃ v', e = .returned (.tuple #[v', .bool (mvalid xs)]) ∧ w'.ownsRow w.heap.size 9 1 v' (closedB xs).length (tcells (closedB xs)) ∧ Below w.heap.size w w' := by
  by_cases h1 : MV xs
  · have HT := Lib.hid (tableOf_yes xs h1 v w hx)
    have hm1 : mvalid xs = true := by simpa [mvalid] using h1
    have HM := Lib.hid hm1
    have HS := Lib.hid (show closedB xs = closedS (tabOf xs) (ringsF (nxT (tabOf xs)) 9) by rw [closedB, if_pos hm1, closedS_T (SV_tab h1)])
    have hlt9 := ringsF_lt (nice (SV_tab h1)) 9 (by omega)
    have HRC : Hid (∀ i, rcount (tabOf xs) i = (namesW (rdH (tabOf xs) (sn i))).size) := fun _ => rfl
    have hn := nice (SV_tab h1)
    have HSP := Lib.hid (fun W => spotsOf_c (tabOf xs) (SV_tab h1) W)
    have HLE := Lib.hid (fun k (hk : k ≤ 9) => (ringsF_lt hn k hk).2.1)
    clear h1 hx hm1
    generalize nxT (tabOf xs) = nx at *
    generalize tabOf xs = t at *
    refine (callsIn_wide (n := 5)).1 ?_
    refine callsIn_of_wp_marks Tryz.func13 rfl trivial ?_ rfl
    simp only [Tryz.ntmps13, List.size_toArray, List.length_cons, List.length_nil, Nat.reduceAdd, Nat.reduceSub, Array.replicate_succ, Array.replicate_zero, List.push_toArray, List.append_toArray, List.nil_append, List.cons_append]
    gi_wp2_with fail
    refine wpIn_scope ?_
    gi_wp2_with fail
    refine ⟨trivial, callsIn_wide.2 (HT.out.mono ?_)⟩
    rintro e w1 ⟨rfl, hb1⟩
    have hs1 := hb1.size
    gi_wp2
    obtain ⟨W0, hW0⟩ : ∃ W0 : World, W0 = (w1.alloc (.cells (tabA t) 59)).alloc (.cells #[.slice none 0 0] 33) := ⟨_, rfl⟩
    have hS0 : W0.heap.size = w1.heap.size + 2 := by rw [hW0]; simp only [World.size_alloc]
    have hB0 : Below w.heap.size w W0 := by rw [hW0]; (repeat' (first | (with_reducible exact Below.refl _ _) | (with_reducible assumption) | (with_reducible refine Below.alloc ?_ ?_ _) | (with_reducible refine Below.drew ?_) | (with_reducible refine Below.setCell ?_ ?_ _) | (with_reducible exact Nat.le_refl _) | omega | ((repeat (first | rewrite [World.size_alloc] | rewrite [World.size_setCell] | rewrite [World.size_drew])); omega) | (simp; omega) | (simp; done)))
    have hA0 : At W0 (w1.heap.size + 1) 33 #[.slice none 0 0] := by
      rw [hW0]; have := At.new (w1.alloc (.cells (tabA t) 59)) 33 #[.slice none 0 0]
      rwa [World.size_alloc] at this
    have hT0 : At W0 w1.heap.size 59 (tabA t) := by rw [hW0]; exact (At.new _ _ _).alloc _
    refine wpIn_label ?_
    gi_wp2_with fail
    refine ⟨trivial, callsIn_wide.2 ?_⟩
    rw [← hW0]
    clear hW0
    refine (HSP.out W0).mono ?_
    rintro e W1 ⟨⟨bs, rfl, hbs, hSW⟩, hb2⟩
    have hA1 := hA0.keep hb2
    have hT1 := hT0.keep hb2
    have hB1 : Below w.heap.size w W1 := hB0.trans (hb2.mono hB0.size)
    have hS1 := hb2.size
    have hbl := hSW.lt
    clear hA0 hb2 hB0
    gi_wp2
    refine range_law5 (F := Fence.wide) (gf := 33) (lf := #[.pointer (some ⟨bs, 0, none⟩)]) (lb := #[]) rfl (by decide) rfl trivial (fun args w => rfl) (encs := fun r : List Nat => #[.string (txt r)]) (xs := ringsF nx 9) (κ := 3)
      (rings_iter bs nx hn) (fun _ => rfl)
      (fun pre W => ∃ o, At W (w1.heap.size + 1) 33 #[o] ∧ W.ownsRow (W1.heap.size + 5) 9 1 o (closedS t pre).length (tcells (closedS t pre)) ∧ Spots W bs nx ∧ Below w.heap.size w W ∧ At W w1.heap.size 59 (tabA t))
      (fun _ _ _ => False) ?pr ?iw ?own (fun _ => ownFrom_pure _ _) ?start ?a1 ?assign ?body ?done ?stop
    case pr => rintro pre A ⟨o, _, _, h, _, _⟩; exact h
    case iw =>
      rintro pre A A' r ⟨o, k1, k2, k3, k4, k5⟩ hr1 hr2 hg
      have hge := own_block_ge k2
      refine ⟨o, at_grown' k1 hg (fun e => by cases e; omega), own_grown k2 hg (.inl fun e => ?_), k3.of_at fun t' cs h => at_grown' h hg (fun e => by cases e; omega), k4.trans (below_grown hg k4.size (fun g e => by cases e; have := hB1.size; omega)), at_grown' k5 hg (fun e => by cases e; omega)⟩
      have := hge r e; omega
    case own =>
      rintro s A A' row ⟨o, k1, k2, k3, k4, k5⟩ hg hr
      exact ⟨o, at_turn' k1 hg (fun r e => (hr r e).2), own_turn' k2 hg (fun r e => (hr r e).2), k3.of_at fun t' cs h => at_turn' h hg (fun r e => (hr r e).2), k4.trans (below_grown hg k4.size (fun g e => by have := (hr g e).1; have := hB1.size; omega)), at_turn' k5 hg (fun r e => (hr r e).2)⟩
    case start => exact ⟨_, hA1, ⟨rfl, .inl ⟨rfl, rfl⟩⟩, hSW, hB1, hT1⟩
    case assign =>
      intro l p W Kc hK
      gi_wp2
      exact hK
    case body =>
      rintro l pre r W ⟨o, k1, k2, k3, k4, k5⟩ hp hsz
      have hrmem : r ∈ ringsF nx 9 := hp.mem (by simp)
      have hlt19 : ∀ i ∈ r, i < 19 := fun i hi => hlt9.1 i (List.mem_flatten.2 ⟨r, hrmem, hi⟩)
      have hlen : (closedS t pre).length ≤ 9 := by
        have h1 := hp.length_le
        have h2 := hlt9.2.1
        have h3 := closedS_len (f := t) pre
        simp at h1; omega
      have hrl : r.length ≤ 171 := by
        have h2 := hlt9.2.2
        obtain ⟨a, b, hab⟩ := List.append_of_mem hrmem
        rw [hab] at h2
        simp only [List.flatten_append, List.flatten_cons, List.length_append] at h2
        omega
      have HYES := Lib.hid (fun (h : shut t r = true) => closedS_yes (rs := pre) h)
      have HNO := Lib.hid (fun (h : shut t r = false) => closedS_no (rs := pre) h)
      have HST := Lib.hid (fun j (hj : j < r.length) => shut_take (f := t) hj)
      have HBAD := Lib.hid (fun j (hj : j < r.length) => shut_bad (f := t) hj)
      have HALL : Hid (r.take r.length = r) := List.take_length
      have htz := txt_size r
      have HEX : Hid (∀ j (hj : j < r.length), (txt r).extract j (j + 1) = sn r[j]) := fun j hj => by
        rw [extract_one _ _ (by rw [htz]; exact hj), txt_list, List.getD_eq_getElem?_getD, List.getElem?_map, List.getElem?_eq_getElem hj]; rfl
      clear hp hrmem
      generalize txt r = s at *
      gi_wp2
      gi_loopw [8, 22] (fun _ i A => ∃ (j : Nat), j ≤ r.length ∧ i = .int .i64 j ∧ Hid (shut t (r.take j) = true) ∧ Below W.heap.size W A) (fun _ i _ => r.length - (RowKit.intOf i).toNat)
      case atStart => exact ⟨0, by omega, rfl, rfl, Below.refl _ _⟩
      case round =>
        obtain ⟨j, hj, rfl, hsh, hbA⟩ := hrel
        have hbAs := hbA.size
        rename World => A
        have m1 := k1.keep hbA
        have m2 := own_keep k2 hbA
        have m3 := k3.below hbA
        have m4 := k4.trans (hbA.mono k4.size)
        have m5 := k5.keep hbA
        by_cases hjl : j < r.length
        · have hex := HEX.out j hjl
          have hrd := fun W' => readers_c t (sn r[j]) W'
          have hrc := HRC.out r[j]
          have hst := HST.out j hjl
          have hbad := HBAD.out j hjl
          rw [hsh.out, Bool.true_and] at hst
          generalize namesW (rdH t (sn r[j])) = q at *
          generalize sn r[j] = sr at *
          generalize rcount t r[j] = rc at *
          have HRX := Lib.hid hrd
          have hC := At.ext (W := A.drew) (B := A.heap.size) m5 m5.lt
          have hR : ∀ x : Ext A.heap.size A.drew, Calls Tryz.prog 34 #[tabX t, .string sr] x.val fun e w' => e = .returned (.string q) ∧ Below x.val.heap.size x.val w' := fun x => hrd x.val
          have i0 : (0 : Int) ≤ (j : Int) := by omega
          have i1 : (j : Int) < r.length := by omega
          have HST2 := Lib.hid hst
          have HBAD2 := Lib.hid hbad
          have HRC2 := Lib.hid hrc
          clear hst hbad hrc hrd
          gi_wp2
          refine region_quiet_inRound (F := Fence.wide) (C := fun w' => ∃ x : Ext A.heap.size A.drew, w' = x.val) rfl (by kernel_rfl) (by kernel_rfl) (by kernel_rfl) ⟨⟨_, Below.refl _ _⟩, rfl⟩ ?_
          simp only
          refine rowIn_step rfl 59 (.tmp 4) rfl w1.heap.size 59 (tabA t) (by rfl) hC 9 9 Tryz.underlying59 (by kernel_rfl) ?_
          simp only [Act.put, List.setIfInBounds_toArray, List.set_cons_succ, List.set_cons_zero]
          gi_big_quiet_step (fail)
          gi_big_quiet_step (fail)
          gi_big_quiet_step (fail)
          gi_big_quiet_step (fail)
          gi_big_quiet_step (fail)
          (refine BigFrame.wpQuietIn_want (fun _ _ _ _ => trivial) rfl (fun K hK => ?_); gi_big_quiet_op; refine ⟨_, fun _ => callsIn_wide.2 (ext_call _ (Nat.le_refl _) (hR _)), hK _ ?_⟩; clear hK K)
          gi_big_quiet_step (fail)
          gi_big_quiet_step (fail)
          refine wpQuietIn_nil ?_
          rintro A2 ⟨xw, rfl⟩
          have hb2 : Below A.heap.size A xw.val := ((Below.refl _ _).drew).trans xw.property
          clear hC hR
          generalize xw.val = A2 at *
          by_cases hq : q.size ≤ 1
          · have hq2 : ¬ (1 : Int) < (q.size : Int) := by omega
            have hsh2 : Hid (shut t (r.take (j + 1)) = true) := by show _ = _; rw [HST2.out, HRC2.out]; simpa using hq
            have hbA2 := hbA.trans (hb2.mono hbAs)
            clear m1 m2 m3 m4 m5 hq
            gi_wp2
            go_roundw
            case rel => exact ⟨j + 1, by omega, by go_num, hsh2, hbA2⟩
            case measure => simp [RowKit.intOf]; omega
          · have hq2 : (1 : Int) < (q.size : Int) := by omega
            have hbd := HBAD2.out (by rw [HRC2.out]; exact hq)
            have hno := HNO.out hbd
            have HF := Lib.hid hno
            have hbA2 := hbA.trans (hb2.mono hbAs)
            have n1 := m1.keep hb2
            have n2 := own_keep m2 hb2
            have n3 := m3.below hb2
            have n4 := m4.trans (hb2.mono m4.size)
            have n5 := m5.keep hb2
            clear m1 m2 m3 m4 m5 hq hbd hno k1 k2 k3 k4 k5
            gi_wp2
            exact ⟨keepsFrom_below hbA2, (KeepsNew.below (B := W1.heap.size + 2) hbA2).toIn (Nat.le_refl _) (by omega), _, n1, by rw [HF.out]; exact n2, n3, n4, n5⟩
        · have hjr : j = r.length := by omega
          subst hjr
          have hall := hsh.out
          rw [HALL.out] at hall
          have HY := Lib.hid (HYES.out hall)
          clear hall hsh
          have hsA : W1.heap.size + 5 ≤ A.heap.size := by omega
          have c3 : A.cell? ⟨w1.heap.size + 1, 0, none⟩ = some o := m1.cell 0
          have hl1 := m1.lt
          have hnw := one_new A (.string s) 9
          have hzw := hB1.size
          generalize closedS t pre = ys at *
          gi_wp2_with (gi_at_builtin; refine held ?_)
          unfold Held
          refine appIn_str rfl (.tmp 35) (.tmp 37) rfl (W1.heap.size + 5) o ys s ⟨A.heap.size, 0, none⟩ 1 (by rfl) (by rfl) (own_keep m2 ((Below.refl _ _).alloc (Nat.le_refl _) _)) hnw (by omega) (by simp; omega) ?_
          intro o' W3 hown3 hgrow3
          have j1 : At W3 (w1.heap.size + 1) 33 #[o] := at_grown' (m1.alloc (.cells #[.string s] 9)) hgrow3 (own_box_ne' m2 m1 (by decide))
          have d1 := j1.cell 0
          have d2 := j1.frozen 0
          have hge := own_block_ge m2
          have hK3 : KeepsFrom W1.heap.size A W3 := by
            refine ⟨Nat.le_trans (by simp) hgrow3.size, fun x ob hx1 hx2 hx3 => ?_⟩
            have hx4 := (Array.getElem?_eq_some_iff.1 hx2).1
            refine (hgrow3.block x (by simp; omega) (fun e => ?_)).trans ((Below.heap_alloc _ _ _ hx4).trans hx2)
            rcases m2.2 with ⟨rfl, _⟩ | ⟨g, cap, cur, rfl, _, hh, _⟩
            · cases e
            · cases e
              rw [hh] at hx2
              cases hx2
              cases hx3
          have hI3 : KeepsIn (W1.heap.size + 2) 3 A W3 := by
            refine ⟨Nat.le_trans (by simp) hgrow3.size, fun x hx1 hx2 => ?_⟩
            refine (hgrow3.block x (by simp; omega) (fun e => ?_)).trans (Below.heap_alloc _ _ _ (by omega))
            have := hge x e.symm
            omega
          have hKA : KeepsFrom W1.heap.size W W3 := (keepsFrom_below hbA).trans hK3
          have hIA : KeepsIn (W1.heap.size + 2) 3 W W3 := ⟨Nat.le_trans hbAs hI3.size, fun x hx1 hx2 => (hI3.same x hx1 hx2).trans (hbA.block x (by omega))⟩
          have hSP3 : Spots W3 bs nx := m3.of_at fun t' cs h => at_grown' (h.alloc (.cells #[.string s] 9)) hgrow3 (fun e => by have := hge bs e.symm; omega)
          have hT3 : At W3 w1.heap.size 59 (tabA t) := at_grown' (m5.alloc (.cells #[.string s] 9)) hgrow3 (fun e => by have := hge _ e.symm; omega)
          have hB3 : Below w.heap.size w W3 := (m4.alloc m4.size _).trans (below_grown hgrow3 (by have := m4.size; simp; omega) (fun g e => by have := hge g e; omega))
          have hne3 := own_box_ne' hown3 j1 (by decide)
          have hpn : (ys ++ [s]).length = ys.length + 1 := by simp
          rw [hpn] at hown3
          obtain ⟨A3, cap3, rfl, _⟩ := Rd.of_own hown3
          have q1 : At (W3.setCell ⟨w1.heap.size + 1, 0, none⟩ (.slice A3 (ys.length + 1) cap3)) (w1.heap.size + 1) 33 #[.slice A3 (ys.length + 1) cap3] := j1.set 0 _
          have qS : Spots (W3.setCell ⟨w1.heap.size + 1, 0, none⟩ (.slice A3 (ys.length + 1) cap3)) bs nx := hSP3.of_at fun t' cs h => h.far (by show bs ≠ w1.heap.size + 1; omega) _
          have qT := hT3.far (p := ⟨w1.heap.size + 1, 0, none⟩) (by show w1.heap.size ≠ w1.heap.size + 1; omega) (.slice A3 (ys.length + 1) cap3)
          clear hnw c3 k1 k2 k3 k4 k5 m1 m2 m3 m4 m5 hgrow3 hge hSP3 hK3 hI3
          gi_wp2
          refine ⟨hKA.trans ((KeepsOthers.setCell _ _ _).from _), ⟨by simp [World.size_setCell]; exact hIA.size, fun x hx1 hx2 => (heap_setCell_other _ _ _ _ (by simp; omega)).trans (hIA.same x hx1 hx2)⟩, _, q1, ?_, qS, hB3.setCell (by simp; omega) _, qT⟩
          rw [HY.out, hpn]
          exact hown3.kept (grownBy_setCell' W3 (w1.heap.size + 1) _) (.inr hne3.symm)
    case done =>
      intro D W hD hI hd
      obtain ⟨o, k1, k2, k3, k4, k5⟩ := hI
      have c3 : W.cell? ⟨w1.heap.size + 1, 0, none⟩ = some o := k1.cell 0
      have hown := own_more k2 (show w.heap.size ≤ W1.heap.size + 5 by have := hB1.size; omega)
      have hzw := hB1.size
      clear k1 k2 k3 k5
      gi_wp2
      refine ⟨by simp, .inl ⟨D, _, rfl, run_takeDeferred hd, ?_⟩⟩
      have hW2 : (W.putObj D (.deferred none)).ownsRow w.heap.size 9 1 o (closedB xs).length (tcells (closedB xs)) := by
        rw [HS.out]
        exact own_turn' hown (grownBy_putObj' W D _) (fun r e => by cases e; exact ⟨_, hd, rfl⟩)
      have hR : ∀ tmps : Array Value, tmps.getD 2 undef = o → tmps.getD 3 undef = .bool true → (results Tryz.f13 tmps).run Tryz.prog (W.putObj D (.deferred none)) = .ok (.tuple #[o, .bool true]) (W.putObj D (.deferred none)) := fun tmps h2 h3 => by
        have h2' : tmps[2]?.getD undef = o := by simpa using h2
        have h3' : tmps[3]?.getD undef = .bool true := by simpa using h3
        simp [results, Tryz.results13, h2', h3']
      exact ⟨_, hR _ rfl rfl, _, by rw [HM.out], hW2, k4.trans ⟨rfl, rfl, rfl, by simp [World.putObj], fun k hk => World.putObj_heap_other (by have := k4.size; omega)⟩⟩
    case stop =>
      intro _ _ _ _ _ _ hf
      exact hf.elim
  · have hm0 : mvalid xs = false := by simpa [mvalid] using h1
    have HM := Lib.hid hm0
    have HS := Lib.hid (show closedB xs = [] from if_neg (by rw [hm0]; decide))
    have HT := Lib.hid (tableOf_no xs h1 v w hx)
    clear h1 hx hm0
    go_enter Tryz.func13, Tryz.ntmps13
    go_wp2_with fail
    go_step3
    go_wp2_with fail
    refine HT.out.mono ?_
    rintro e w1 ⟨rfl, hb1⟩
    have hs1 := hb1.size
    go_wp2
    rw [Exit.noGoto_ret]
    go_ret2
    exact ⟨_, by rw [HM.out]; rfl, by rw [HS.out]; exact ⟨rfl, .inl ⟨rfl, rfl⟩⟩, by (repeat' (first | (with_reducible exact Below.refl _ _) | (with_reducible assumption) | (with_reducible refine Below.alloc ?_ ?_ _) | (with_reducible refine Below.drew ?_) | (with_reducible refine Below.setCell ?_ ?_ _) | (with_reducible exact Nat.le_refl _) | omega | ((repeat (first | rewrite [World.size_alloc] | rewrite [World.size_setCell] | rewrite [World.size_drew])); omega) | (simp; omega) | (simp; done)))⟩
end Go.Proofs.YtdhhmphnmllbhaaGreat
namespace Go.PW
open Go.PM Go.RowKit
variable {nx : Nat → Option Nat}
theorem ringsF_in (hn : Nice nx) {q : Nat} (hq : q < 9) (hr : onRb nx q = true) : ∀ k, q < k → q ∈ (ringsF nx k).flatten := by
  intro k
  induction k with
  | zero => intro h; omega
  | succ k ih =>
    intro h
    by_cases hc : onRb nx k = true ∧ k ∉ (ringsF nx k).flatten
    · rw [ringsF_yes hc.1 hc.2, List.flatten_append, List.mem_append]
      rcases Nat.lt_or_ge q k with h1 | h1
      · exact .inl (ih h1)
      · right
        have : q = k := by omega
        subst this
        obtain ⟨l, hl⟩ := way_first nx q hn (by omega)
        simp [hl]
    · rw [ringsF_no hc]
      rcases Nat.lt_or_ge q k with h1 | h1
      · exact ih h1
      · have : q = k := by omega
        subst this
        exact Classical.not_not.1 fun hm => hc ⟨hr, hm⟩
theorem ringsF_mem2 : ∀ k, ∀ l ∈ ringsF nx k, ∃ s, s < k ∧ l = way nx s ∧ onRb nx s = true ∧ s ∉ (ringsF nx s).flatten := by
  intro k
  induction k with
  | zero => intro l h; simp [ringsF] at h
  | succ k ih =>
    intro l h
    by_cases hc : onRb nx k = true ∧ k ∉ (ringsF nx k).flatten
    · rw [ringsF_yes hc.1 hc.2, List.mem_append] at h
      rcases h with h | h
      · obtain ⟨s, h1, h2⟩ := ih l h; exact ⟨s, by omega, h2⟩
      · simp at h; exact ⟨k, by omega, h, hc⟩
    · rw [ringsF_no hc] at h
      obtain ⟨s, h1, h2⟩ := ih l h; exact ⟨s, by omega, h2⟩
theorem ring_next (hn : Nice nx) {s : Nat} (hs : s < 19) (hr : onRb nx s = true) {x y : Nat} (hx : x ∈ way nx s) (h : nx x = some y) : y ∈ way nx s := by
  have ho := way_rho hn hs
  have e := ho.onR.1 ((onRb_iff hn hs).1 hr)
  obtain ⟨j, hj⟩ := List.getElem?_of_mem hx
  have hjl := (List.getElem?_eq_some_iff.1 hj).1
  rw [ho.at_ j hjl] at hj
  have h2 : orb nx s (j + 1) = some y := by simp only [orb, hj, Option.bind_some]; exact h
  by_cases hl : j + 1 < (way nx s).length
  · rw [ho.some_ hl] at h2
    rw [← Option.some.inj h2]; exact List.getElem_mem hl
  · rw [show j + 1 = (way nx s).length by omega, e] at h2
    obtain rfl := Option.some.inj h2
    exact List.mem_of_getElem? (ho.at_ 0 ho.pos)
theorem ring_orb (hn : Nice nx) {s : Nat} (hs : s < 19) (hr : onRb nx s = true) {x : Nat} (hx : x ∈ way nx s) : ∀ k y, orb nx x k = some y → y ∈ way nx s := by
  intro k
  induction k with
  | zero => intro y h; simp only [orb, Option.some.injEq] at h; rw [← h]; exact hx
  | succ k ih =>
    intro y h
    simp only [orb, Option.bind_eq_some_iff] at h
    obtain ⟨z, h1, h2⟩ := h
    exact ring_next hn hs hr (ih z h1) h2
theorem ring_back (hn : Nice nx) {s : Nat} (hs : s < 19) (hr : onRb nx s = true) {x : Nat} (hx : x ∈ way nx s) : ∃ k, orb nx x k = some s := by
  have ho := way_rho hn hs
  have e := ho.onR.1 ((onRb_iff hn hs).1 hr)
  obtain ⟨j, hj⟩ := List.getElem?_of_mem hx
  have hjl := (List.getElem?_eq_some_iff.1 hj).1
  rw [ho.at_ j hjl] at hj
  refine ⟨(way nx s).length - j, ?_⟩
  have := orb_add (nx := nx) s j ((way nx s).length - j)
  rw [show j + ((way nx s).length - j) = (way nx s).length by omega, e, hj] at this
  exact this.symm
/-- the first place of a ring is its least -/
theorem ring_min (hn : Nice nx) {s : Nat} (hs : s < 9) (hr : onRb nx s = true) (hf : s ∉ (ringsF nx s).flatten) : ∀ q ∈ way nx s, s ≤ q := by
  intro q hq
  rcases Nat.lt_or_ge q s with hlt | hge
  · exfalso
    have hoq := ring_all hn (by omega) ((onRb_iff hn (by omega)).1 hr) q hq
    have hrq := (onRb_iff hn (show q < 19 by omega)).2 hoq
    have h1 := ringsF_in hn (by omega) hrq s hlt
    obtain ⟨l, hl, hql⟩ := List.mem_flatten.1 h1
    obtain ⟨s', hs', rfl, hr', _⟩ := ringsF_mem2 s l hl
    obtain ⟨k, hk⟩ := ring_back hn (show s < 19 by omega) hr hq
    have := ring_orb hn (show s' < 19 by omega) hr' hql k s hk
    exact hf (List.mem_flatten.2 ⟨_, hl, this⟩)
  · exact hge
theorem ringsF_sorted (hn : Nice nx) : ∀ k, k ≤ 9 → (ringsF nx k).Pairwise (fun a b => ∀ x y, a.head? = some x → b.head? = some y → x < y) := by
  intro k
  induction k with
  | zero => intro _; simp [ringsF]
  | succ k ih =>
    intro hk
    by_cases hc : onRb nx k = true ∧ k ∉ (ringsF nx k).flatten
    · rw [ringsF_yes hc.1 hc.2, List.pairwise_append]
      refine ⟨ih (by omega), by simp, fun a ha b hb x y hx hy => ?_⟩
      simp at hb
      subst hb
      obtain ⟨l, hl⟩ := way_first nx k hn (by omega)
      rw [hl] at hy
      simp at hy
      obtain ⟨s, hs, rfl, _⟩ := ringsF_mem2 k a ha
      obtain ⟨l2, hl2⟩ := way_first nx s hn (by omega)
      rw [hl2] at hx
      simp at hx
      omega
    · rw [ringsF_no hc]; exact ih (by omega)
theorem filter_at {α : Type _} (p : α → Bool) : ∀ (l : List α) (n : Nat) (h : n < l.length), p l[n] = true → (l.filter p)[((l.take n).filter p).length]? = some l[n]
  | [], n, h, _ => by simp at h
  | a :: l, 0, _, hp => by
    have hp : p a = true := hp
    simp [hp]
  | a :: l, n + 1, h, hp => by
    have h' : n < l.length := by simpa using h
    have hp : p l[n] = true := hp
    have ih := filter_at p l n h' hp
    by_cases ha : p a = true
    · simp [ha]; exact ih
    · simp [ha]; exact ih
/-- what there is to say of a ring -/
structure RingR (f : Nat → ByteArray) (r : List Nat) : Prop where
  two : 2 ≤ r.length
  le : r.length ≤ 19
  low : ∀ i (h : i < r.length), r[i] < 9
  next : ∀ i (h : i < r.length), sx f r[i] = r[(i + 1) % r.length]'(Nat.mod_lt _ (by omega))
  dep : ∀ i (h : i < r.length), depN (nxT f) r[i] = 0
  min : ∀ i (h : i < r.length), r[0]'(by omega) ≤ r[i]
theorem ringR (f : Nat → ByteArray) (hf : SV f) {r : List Nat} (h : r ∈ ringsF (nxT f) 9) : RingR f r := by
  obtain ⟨s, hs, rfl, hr, hfr⟩ := ringsF_mem2 9 r h
  have hn := nice hf
  have hs19 : s < 19 := by omega
  have ho := way_rho hn hs19
  obtain ⟨i0, h1, h2, h3⟩ := ring_last hf hs19
  obtain ⟨h4, h5, h6⟩ := h3.1 hr
  have hall := ring_all hn hs19 ((onRb_iff hn hs19).1 hr)
  have h0 := wb_zero hf hs19 ho.pos
  refine ⟨h4, ho.len, fun i hi => ring_low hn (hall _ (List.getElem_mem hi)), fun i hi => ?_, fun i hi => ?_, fun i hi => ?_⟩
  · by_cases hl : i + 1 < (way (nxT f) s).length
    · rw [(wb_some hf hs19 hl).2]
      congr 1
      exact (Nat.mod_eq_of_lt hl).symm
    · have he : i + 1 = (way (nxT f) s).length := by omega
      have h7 : (way (nxT f) s)[i] = i0 := by
        rw [show (way (nxT f) s).length - 1 = i by omega, List.getElem?_eq_getElem hi] at h1
        exact Option.some.inj h1
      rw [h7, h6]
      have h8 : (i + 1) % (way (nxT f) s).length = 0 := by rw [he, Nat.mod_self]
      simp only [h8]
      exact h0.symm
  · have h7 := hall _ (List.getElem_mem hi)
    have hx := ho.lt _ (List.getElem_mem hi)
    refine (depN_stops hn hx).unique ⟨by omega, fun j hj => by omega, _, rfl, .inr h7⟩
  · rw [h0]; exact ring_min hn hs hr hfr _ (List.getElem_mem hi)
end Go.PW
namespace Go.Proofs.YtdhhmphnmllbhaaGreat
open Go.RowKit Go.PM

set_option maxRecDepth 100000 in
set_option maxHeartbeats 1000000 in
theorem l1Busy_c (xs : List Mv) (v : Value) (w : World) (hx : RdM w v xs) :
    Calls Tryz.prog 27 #[v] w fun e w' => ∃ v', e = .returned v' ∧ w'.ownsRow w.heap.size 47 2 v' (busyF xs 9).length (mcells (busyF xs 9)) ∧ Below w.heap.size w w' := by
  have HN : Hid (∀ q, q < 9 → (ByteArray.mk #[97, 98, 99, 100, 101, 102, 65, 66, 67]).extract q (q+1) = nm q) := by
    show ∀ q, _
    intro q hq
    match q, hq with
    | 0, _ | 1, _ | 2, _ | 3, _ | 4, _ | 5, _ | 6, _ | 7, _ | 8, _ => decide +kernel
  have HS := Lib.hid (fun W (hW : RdM W v xs) (p : Nat) => l1Source_c xs v (nm p) W hW)
  have HX := Lib.hid (fun W (hW : Below w.heap.size w W) => hx.below hW)
  have hE := World.ownsRow_lit (e := 47) (base := w.heap.size) (size := 2) w #[] 0 (Nat.le_refl _) (Nat.zero_le _) rfl
  go_enter Tryz.func27, Tryz.ntmps27
  go_wp2
  go_loopw [3, 8] (fun o i wr => ∃ (k : Nat), k ≤ 9 ∧ i = .int .i64 k ∧ wr.ownsRow w.heap.size 47 2 o (busyF xs k).length (mcells (busyF xs k)) ∧ Below w.heap.size w wr) (fun _ i _ => 9 - (intOf i).toNat)
  case atStart => exact ⟨0, by omega, rfl, hE, by (repeat' (first | (with_reducible exact Below.refl _ _) | (with_reducible assumption) | (with_reducible refine Below.alloc ?_ ?_ _) | (with_reducible refine Below.drew ?_) | (with_reducible refine Below.setCell ?_ ?_ _) | (with_reducible exact Nat.le_refl _) | omega | ((repeat (first | rewrite [World.size_alloc] | rewrite [World.size_setCell] | rewrite [World.size_drew])); omega) | (simp; omega) | (simp; done)))⟩
  case round =>
    obtain ⟨k, hk, rfl, ho, hb⟩ := hrel
    have hbs := hb.size
    by_cases hlt : k < 9
    · have hex := HN.out k hlt
      have hxr := HX.out wr hb
      have HY := Lib.hid (busyF_yes xs k)
      have HZ := Lib.hid (busyF_no xs k)
      have HH := Lib.hid (show busyH xs k = decide (srcM xs (nm k) ≠ nm k) from rfl)
      have hle := busyF_len xs k
      have hcall := HS.out wr hxr k
      have HC := Lib.hid hcall
      clear hcall
      generalize srcM xs (nm k) = sk at *
      generalize nm k = q at *
      go_wp2_with fail
      refine HC.out.mono ?_
      rintro e w2 ⟨rfl, hb2⟩
      have hb2s := hb2.size
      have ho2 := own_keep ho hb2
      have hbw := hb.trans (hb2.mono hbs)
      have hbws := hbw.size
      have hnw := two_new w2 (.string q) (.string sk) 47
      go_wp2_with (at_builtin; refine app_mv rfl (.tmp 21) (.tmp 25) rfl w.heap.size u3 (busyF xs k) (q, sk) ⟨w2.heap.size, 0, none⟩ 1 (by rfl) (by rfl) ?hown ?hnew ?hlen ?hbase ?_; rotate_left 4; intro v' w3 hown3 hgrow3)
      case hown => exact own_keep ho2 ((Below.refl _ _).alloc (Nat.le_refl _) _)
      try case hnew => exact hnw
      case hlen => omega
      case hbase => simp; omega
      · have h : (!(sk.toList == q.toList)) = true := by assumption
        rw [bne_str] at h
        have hb3 := below_grown hgrow3 (B := w.heap.size) (by simp; omega) (own_block_ge ho)
        go_roundw
        case rel =>
          refine ⟨k + 1, by omega, by go_num, ?_, ?_⟩
          · rw [HY.out (by rw [HH.out]; exact h)]; exact hown3
          · exact Below.trans (by (repeat' (first | (with_reducible exact Below.refl _ _) | (with_reducible assumption) | (with_reducible refine Below.alloc ?_ ?_ _) | (with_reducible refine Below.drew ?_) | (with_reducible refine Below.setCell ?_ ?_ _) | (with_reducible exact Nat.le_refl _) | omega | ((repeat (first | rewrite [World.size_alloc] | rewrite [World.size_setCell] | rewrite [World.size_drew])); omega) | (simp; omega) | (simp; done)))) hb3
        case measure => simp [intOf]; omega
      · have h : (!(sk.toList == q.toList)) = false := by assumption
        rw [bne_str] at h
        go_roundw
        case rel =>
          refine ⟨k + 1, by omega, by go_num, ?_, by (repeat' (first | (with_reducible exact Below.refl _ _) | (with_reducible assumption) | (with_reducible refine Below.alloc ?_ ?_ _) | (with_reducible refine Below.drew ?_) | (with_reducible refine Below.setCell ?_ ?_ _) | (with_reducible exact Nat.le_refl _) | omega | ((repeat (first | rewrite [World.size_alloc] | rewrite [World.size_setCell] | rewrite [World.size_drew])); omega) | (simp; omega) | (simp; done)))⟩
          rw [HZ.out (by rw [HH.out]; exact h)]; exact ho2
        case measure => simp [intOf]; omega
    · have hk9 : k = 9 := by omega
      subst hk9
      go_wp2
      go_ret
      exact ⟨_, rfl, ho, hb⟩

def countI (xs : List Mv) : Int := if mvalid xs then ((busyF xs 9).length : Int) else -1
set_option maxRecDepth 100000 in
theorem imCountBusy_c (xs : List Mv) (v : Value) (w : World) (hx : RdM w v xs) (hn' : xs.length ≤ 1048576) :
    Calls Tryz.prog 16 #[v] w fun e w' => e = .returned (.int .i64 (countI xs)) ∧ Below w.heap.size w w' := by
  rcases Bool.eq_false_or_eq_true (mvalid xs) with h1 | h1
  · have HO : Hid (((dropM xs).length : Int) = countI xs) := by
      show _ = _
      rw [countI, if_pos h1, dropM, if_pos h1, busy_count (by simpa [mvalid] using h1)]
    go_enter Tryz.func16, Tryz.ntmps16
    go_wp2_with fail
    refine (imDropIdle_c xs v _ hx hn').mono ?_
    rintro e w1 ⟨v', he, ho, hb1⟩
    rw [h1] at he
    subst he
    obtain ⟨A, cap, rfl, _⟩ := Rd.of_own ho
    go_wp2
    go_ret
    exact ⟨by rw [← HO.out]; rfl, hb1⟩
  · have HO : Hid (countI xs = -1) := by show _ = _; rw [countI, h1]; rfl
    go_enter Tryz.func16, Tryz.ntmps16
    go_wp2_with fail
    refine (imDropIdle_c xs v _ hx hn').mono ?_
    rintro e w1 ⟨v', he, ho, hb1⟩
    rw [h1] at he
    subst he
    go_wp2
    go_ret
    exact ⟨by rw [HO.out]; rfl, hb1⟩
end Go.Proofs.YtdhhmphnmllbhaaGreat
namespace Go.PM
open Go.PW
open Go.RowKit
def needB (xs : List Mv) : Bool := decide (0 < (closedB xs).length)
def cioI (xs : List Mv) : Int := if mvalid xs then ((busyF xs 9).length : Int) + ((closedB xs).length : Int) else -1
theorem closedB_no {xs : List Mv} (h : mvalid xs = false) : closedB xs = [] := by
  unfold closedB; rw [h]; rfl
end Go.PM
namespace Go.Proofs.YtdhhmphnmllbhaaGreat
open Go.RowKit Go.PM Go.PW

set_option maxRecDepth 100000 in
set_option maxHeartbeats 800000 in
theorem imNeedsSpare_c (xs : List Mv) (v : Value) (w : World) (hx : RdM w v xs) :
    Calls Tryz.prog 8 #[v] w fun e w' => e = .returned (.bool (needB xs)) ∧ Below w.heap.size w w' := by
  have HN : Hid (needB xs = decide (0 < (closedB xs).length)) := rfl
  have HNO : Hid (mvalid xs = false → needB xs = false) := fun h => by unfold needB; rw [closedB_no h]; rfl
  have HC := Lib.hid (imClosedRings_c xs v w hx)
  go_enter Tryz.func8, Tryz.ntmps8
  go_wp2_with fail
  refine HC.out.mono ?_
  rintro e w1 ⟨v', rfl, ho, hb⟩
  obtain ⟨A, cap, rfl, _⟩ := Rd.of_own ho
  clear ho HC hx
  rcases Bool.eq_false_or_eq_true (mvalid xs) with h1 | h1
  · generalize (closedB xs).length = n at *
    go_wp2
    go_ret
    refine ⟨?_, hb⟩
    rw [HN.out]
    have : decide ((0 : Int) < (n : Int)) = decide (0 < n) := by rw [decide_eq_decide]; omega
    first | rfl | (rw [← this]; rfl) | (simp; done)
  · have HF := Lib.hid (HNO.out h1)
    go_wp2
    go_ret
    exact ⟨by rw [HF.out]; rfl, hb⟩
set_option maxRecDepth 100000 in
set_option maxHeartbeats 800000 in
theorem spNeedsSpare_c (xs : List Mv) (v : Value) (w : World) (hx : RdM w v xs) (hz : ∀ m ∈ xs, m.1.size ≤ 9223372036854775807 ∧ m.2.size ≤ 9223372036854775807) (hn' : xs.length ≤ 1048576) :
    Calls Tryz.prog 11 #[v] w fun e w' => e = .returned (.bool (needB xs)) ∧ Below w.heap.size w w' := by
  have HN : Hid (needB xs = decide (0 < (closedB xs).length)) := rfl
  have HC := Lib.hid (spClosedRings_c xs v w hx hz hn')
  go_enter Tryz.func11, Tryz.ntmps11
  go_wp2_with fail
  refine HC.out.mono ?_
  rintro e w1 ⟨v', rfl, ho, hb⟩
  obtain ⟨A, cap, rfl, _⟩ := Rd.of_own ho
  clear ho HC hx
  generalize (closedB xs).length = n at *
  go_wp2
  go_ret
  refine ⟨?_, hb⟩
  rw [HN.out]
  have : decide ((0 : Int) < (n : Int)) = decide (0 < n) := by rw [decide_eq_decide]; omega
  first | rfl | (rw [← this]; rfl) | (simp; done)
set_option maxRecDepth 100000 in
set_option maxHeartbeats 800000 in
theorem imCountInOrder_c (xs : List Mv) (v : Value) (w : World) (hx : RdM w v xs) (hn' : xs.length ≤ 1048576) :
    Calls Tryz.prog 7 #[v] w fun e w' => e = .returned (.int .i64 (cioI xs)) ∧ Below w.heap.size w w' := by
  have HN : Hid (cioI xs = if mvalid xs then ((busyF xs 9).length : Int) + ((closedB xs).length : Int) else -1) := rfl
  have HI : Hid (countI xs = if mvalid xs then ((busyF xs 9).length : Int) else -1) := rfl
  have hl1 := busyF_len xs 9
  have hl2 := closedB_len xs
  have HC := Lib.hid (imClosedRings_c xs v w hx)
  have HB := Lib.hid (fun W (hW : Below w.heap.size w W) => imCountBusy_c xs v W (hx.below hW) hn')
  go_enter Tryz.func7, Tryz.ntmps7
  go_wp2_with fail
  refine HC.out.mono ?_
  rintro e w1 ⟨v', rfl, ho, hb⟩
  obtain ⟨A, cap, rfl, _⟩ := Rd.of_own ho
  clear ho HC hx
  have hs1 := hb.size
  rcases Bool.eq_false_or_eq_true (mvalid xs) with h1 | h1
  · have hci := HI.out
    rw [h1, if_pos rfl] at hci
    have hcb := HB.out _ hb
    rw [hci] at hcb
    generalize (closedB xs).length = n at *
    generalize (busyF xs 9).length = m at *
    go_wp2_with (go_at_call 16; refine hcb.mono ?_; rintro e w2 ⟨rfl, hb2⟩; refine held ?_)
    unfold Held
    have hb3 := hb.trans (hb2.mono hs1)
    clear hb2 hcb hci
    go_wp2
    go_ret
    exact ⟨by rw [HN.out, h1, if_pos rfl]; rfl, hb3⟩
  · go_wp2
    go_ret
    exact ⟨by rw [HN.out, h1]; rfl, hb⟩
set_option maxRecDepth 100000 in
set_option maxHeartbeats 800000 in
theorem spCountInOrder_c (xs : List Mv) (v : Value) (w : World) (hx : RdM w v xs) (hz : ∀ m ∈ xs, m.1.size ≤ 9223372036854775807 ∧ m.2.size ≤ 9223372036854775807) (hn' : xs.length ≤ 1048576) :
    Calls Tryz.prog 10 #[v] w fun e w' => e = .returned (.int .i64 (cioI xs)) ∧ Below w.heap.size w w' := by
  have HN : Hid (cioI xs = if mvalid xs then ((busyF xs 9).length : Int) + ((closedB xs).length : Int) else -1) := rfl
  have hl1 := busyF_len xs 9
  have hl2 := closedB_len xs
  have HC := Lib.hid (spClosedRings_c xs v w hx hz hn')
  have HB := Lib.hid (fun W (hW : Below w.heap.size w W) => l1Busy_c xs v W (hx.below hW))
  go_enter Tryz.func10, Tryz.ntmps10
  go_wp2_with fail
  refine HC.out.mono ?_
  rintro e w1 ⟨v', rfl, ho, hb⟩
  obtain ⟨A, cap, rfl, _⟩ := Rd.of_own ho
  clear ho HC hx
  have hs1 := hb.size
  rcases Bool.eq_false_or_eq_true (mvalid xs) with h1 | h1
  · have hcb := HB.out _ hb
    go_wp2_with (go_at_call 27; refine hcb.mono ?_; rintro e w2 ⟨v2, rfl, ho2, hb2⟩; refine held ?_)
    unfold Held
    have hb3 := hb.trans (hb2.mono hs1)
    obtain ⟨A2, cap2, rfl, _⟩ := Rd.of_own ho2
    clear hb2 hcb ho2
    generalize (closedB xs).length = n at *
    generalize (busyF xs 9).length = m at *
    go_wp2
    go_ret
    exact ⟨by rw [HN.out, h1, if_pos rfl]; rfl, hb3⟩
  · go_wp2
    go_ret
    exact ⟨by rw [HN.out, h1]; rfl, hb⟩
end Go.Proofs.YtdhhmphnmllbhaaGreat
namespace Go.PM
open Go.RowKit
/-- an array of nine numbers -/
def cntC (f : Nat → Nat) : Array Value := #[.int .i64 (f 0 : Nat), .int .i64 (f 1 : Nat), .int .i64 (f 2 : Nat), .int .i64 (f 3 : Nat), .int .i64 (f 4 : Nat), .int .i64 (f 5 : Nat), .int .i64 (f 6 : Nat), .int .i64 (f 7 : Nat), .int .i64 (f 8 : Nat)]
theorem cntC_at (f : Nat → Nat) (p : Nat) (hp : p < 9) : (cntC f)[p]? = some (.int .i64 (f p : Nat)) := by
  match p, hp with
  | 0, _ | 1, _ | 2, _ | 3, _ | 4, _ | 5, _ | 6, _ | 7, _ | 8, _ => rfl
theorem cntC_set (f : Nat → Nat) (p : Nat) (hp : p < 9) (n : Nat) : (cntC f).setIfInBounds p (.int .i64 (n : Nat)) = cntC (fun q => if q = p then n else f q) := by
  match p, hp with
  | 0, _ | 1, _ | 2, _ | 3, _ | 4, _ | 5, _ | 6, _ | 7, _ | 8, _ => simp [cntC]
theorem cntC_congr {f g : Nat → Nat} (h : ∀ p, p < 9 → f p = g p) : cntC f = cntC g := by
  unfold cntC
  rw [h 0 (by omega), h 1 (by omega), h 2 (by omega), h 3 (by omega), h 4 (by omega), h 5 (by omega), h 6 (by omega), h 7 (by omega), h 8 (by omega)]
theorem cntC_one (f : Nat → Nat) : (cntC f).all (·.oneCell') = true := by simp [cntC, Value.oneCell']
/-- how many of the moves read each place -/
def cntF (xs : List Mv) (p : Nat) : Nat := rdN xs (nm p)
theorem rdN_snoc (xs : List Mv) (x : Mv) (a : ByteArray) : rdN (xs ++ [x]) a = rdN xs a + if x.2 = a then 1 else 0 := by
  unfold rdN
  rw [List.map_append, List.count_append, List.map_cons, List.map_nil, List.count_cons]
  simp
theorem rdN_le (xs : List Mv) (a : ByteArray) : rdN xs a ≤ xs.length := by
  unfold rdN
  have := List.count_le_length (a := a) (l := xs.map (·.2))
  simpa using this
theorem cntF_yes (xs : List Mv) (x : Mv) (h : isP x.2 = true) : cntC (fun q => if q = pidx x.2 then cntF xs (pidx x.2) + 1 else cntF xs q) = cntC (cntF (xs ++ [x])) := by
  refine cntC_congr fun p hp => ?_
  have hx := pidx_spec h
  unfold cntF
  rw [rdN_snoc]
  by_cases e : p = pidx x.2
  · subst e
    rw [if_pos rfl, if_pos hx.2.symm]
  · rw [if_neg e, if_neg (fun e2 => e (by rw [e2, pidx_nm hp]))]; rfl
theorem cntF_no (xs : List Mv) (x : Mv) (h : isP x.2 = false) : cntC (cntF xs) = cntC (cntF (xs ++ [x])) := by
  refine cntC_congr fun p hp => ?_
  unfold cntF
  rw [rdN_snoc, if_neg (fun e => by rw [e, isP_nm hp] at h; cases h)]; rfl
end Go.PM
namespace Go.Proofs.YtdhhmphnmllbhaaGreat
open Go.RowKit Go.PM

set_option maxRecDepth 100000 in
set_option maxHeartbeats 1600000 in
theorem countReaders_c (xs : List Mv) (v : Value) (w : World) (hx : RdM w v xs) (hn' : xs.length ≤ 1048576) :
    Calls Tryz.prog 75 #[v] w fun e w' => e = .returned (.agg (cntC (cntF xs))) ∧ Below w.heap.size w w' := by
  obtain ⟨A, cap, rfl, hn, hc, hcell⟩ := hx.open
  have hz : (#[.int .i64 0, .int .i64 0, .int .i64 0, .int .i64 0, .int .i64 0, .int .i64 0, .int .i64 0, .int .i64 0, .int .i64 0] : Array Value) = cntC (cntF []) := rfl
  go_enter Tryz.func75, Tryz.ntmps75
  go_wp2
  clear hz
  obtain ⟨W0, hW0⟩ : ∃ W0 : World, W0 = (w.alloc (Obj.cells (cntC (cntF [])) 112)).alloc (Obj.cells (cntC (cntF [])) 112) := ⟨_, rfl⟩
  have hB0 : Below w.heap.size w W0 := by rw [hW0]; (repeat' (first | (with_reducible exact Below.refl _ _) | (with_reducible assumption) | (with_reducible refine Below.alloc ?_ ?_ _) | (with_reducible refine Below.drew ?_) | (with_reducible refine Below.setCell ?_ ?_ _) | (with_reducible exact Nat.le_refl _) | omega | ((repeat (first | rewrite [World.size_alloc] | rewrite [World.size_setCell] | rewrite [World.size_drew])); omega) | (simp; omega) | (simp; done)))
  have hA0 : At W0 w.heap.size 112 (cntC (cntF [])) := by rw [hW0]; exact (At.new _ _ _).alloc _
  have hA1 : At W0 (w.heap.size + 1) 112 (cntC (cntF [])) := by
    rw [hW0]; have := At.new (w.alloc (Obj.cells (cntC (cntF [])) 112)) 112 (cntC (cntF []))
    rwa [World.size_alloc] at this
  rw [← hW0]
  clear hW0
  go_loopw [5, 6, 7, 10] (fun _ _ _ i wr => ∃ (k : Nat), k ≤ xs.length ∧ i = .int .i64 k ∧ Below w.heap.size w wr ∧ At wr w.heap.size 112 (cntC (cntF [])) ∧ At wr (w.heap.size + 1) 112 (cntC (cntF (xs.take k)))) (fun _ _ _ i _ => xs.length - (RowKit.intOf i).toNat)
  case atStart => exact ⟨0, by omega, rfl, hB0, hA0, by simpa using hA1⟩
  case round =>
    obtain ⟨k, hk, rfl, hb, hA2, hA4⟩ := hrel
    have hbs := hb.size
    have hlt4 := hA4.lt
    by_cases hlt : k < xs.length
    · obtain ⟨b, off, rfl, hbl, hc1, hc2⟩ := hcell k hlt
      have hd1 := (hb.cell (p := ⟨b, off + k * 2, none⟩) hbl).trans hc1
      have hd2 := (hb.cell (p := ⟨b, off + k * 2 + 1, none⟩) hbl).trans hc2
      clear hc1 hc2 hcell
      have hsn := take_snoc xs k hlt
      have hY := cntF_yes (xs.take k) xs[k]
      have hN := cntF_no (xs.take k) xs[k]
      have hle : ∀ p, cntF (xs.take k) p ≤ 1048576 := fun p => by
        have := rdN_le (xs.take k) (nm p)
        rw [List.length_take] at this
        unfold cntF; omega
      rw [← hsn] at hY hN
      clear hsn
      generalize xs[k].1 = a at *
      generalize xs[k].2 = b2 at *
      have HY := Lib.hid hY
      have HN := Lib.hid hN
      generalize hG : cntF (xs.take k) = G at *
      clear hY hN hG
      rcases Bool.eq_false_or_eq_true (isP b2) with hp | hp
      · have hp9 := (pidx_spec hp).1
        have HS := Lib.hid ((cntC_set G (pidx b2) hp9 (G (pidx b2) + 1)).trans (HY.out hp))
        have hkc : At (wr.alloc (.cells #[.string a, .string b2] 47)) (w.heap.size + 1) 112 (cntC G) := hA4.alloc _
        have c4 := (hkc.cell (pidx b2)).trans (cntC_at G _ hp9)
        have z4 := hkc.frozen (pidx b2)
        have hgl := hle (pidx b2)
        have i0 : (0 : Int) ≤ (pidx b2 : Int) := by omega
        have i1 : (pidx b2 : Int) < 9 := by omega
        have HI := Lib.hid (fun W => indexOf_yes b2 hp W)
        generalize pidx b2 = q at *
        generalize G q = gq at *
        go_wp2_with (go_at_call 84; refine (HI.out _).mono ?_; rintro e w' ⟨rfl, rfl⟩)
        go_roundw
        case rel =>
          refine ⟨k + 1, by omega, by go_num, by (repeat' (first | (with_reducible exact Below.refl _ _) | (with_reducible assumption) | (with_reducible refine Below.alloc ?_ ?_ _) | (with_reducible refine Below.drew ?_) | (with_reducible refine Below.setCell ?_ ?_ _) | (with_reducible exact Nat.le_refl _) | omega | ((repeat (first | rewrite [World.size_alloc] | rewrite [World.size_setCell] | rewrite [World.size_drew])); omega) | (simp; omega) | (simp; done))), (At.far hA2 (by simp) _).alloc _, ?_⟩
          rw [← HS.out]
          exact (hA4.set q _).alloc _
        case measure => simp [RowKit.intOf]; omega
      · go_wp2_with (go_at_call 84; refine (indexOf_no b2 hp _).mono ?_; rintro e w' ⟨rfl, rfl⟩)
        go_roundw
        case rel =>
          refine ⟨k + 1, by omega, by go_num, by (repeat' (first | (with_reducible exact Below.refl _ _) | (with_reducible assumption) | (with_reducible refine Below.alloc ?_ ?_ _) | (with_reducible refine Below.drew ?_) | (with_reducible refine Below.setCell ?_ ?_ _) | (with_reducible exact Nat.le_refl _) | omega | ((repeat (first | rewrite [World.size_alloc] | rewrite [World.size_setCell] | rewrite [World.size_drew])); omega) | (simp; omega) | (simp; done))), hA2.alloc _, ?_⟩
          rw [← HN.out hp]
          exact hA4.alloc _
        case measure => simp [RowKit.intOf]; omega
    · have hk' : k = xs.length := by omega
      rw [hk', List.take_of_length_le (Nat.le_refl _)] at hA4
      clear hk' hcell
      have hGG := Lib.hid (fun (e : Ending) (h : e = Ending.returned (.agg (cntC (cntF xs)))) => h)
      obtain ⟨G, hG⟩ : ∃ G, G = cntF xs := ⟨_, rfl⟩
      rw [← hG] at hA4
      have HG := Lib.hid hG
      clear hG hGG
      have hl2 := hA2.lt
      go_wp2_with (first | (refine ld_row rfl 112 (.tmp 3) rfl (w.heap.size + 1) 112 (cntC G) hA4 (by rfl) 9 3 Tryz.underlying112 (by kernel_rfl) ?_) | (refine st_row rfl 112 (.tmp 2) (.tmp 27) rfl rfl w.heap.size 112 (cntC (cntF [])) (cntC G) hA2 (by rfl) (by rfl) (by kernel_rfl) rfl (cntC_one _) ?_; intro W6 hA6 hg6))
      have bel : Below w.heap.size w W6 := hb.trans (below_grown hg6 hbs (fun g hg => by cases hg; omega))
      exact bodyPost_ret (v := .agg (cntC G)) (results_row1 Tryz.results75 _ _ w.heap.size 112 (cntC G) (by rfl) hA6 9 3 Tryz.underlying112 (by kernel_rfl)) rfl ⟨by rw [HG.out], bel⟩

/-- whether a move can be done ahead of those that are counted -/
def aheadP (xs : List Mv) (m : Mv) : Bool := decide (rdN xs m.1 = 0)
set_option maxRecDepth 100000 in
set_option maxHeartbeats 1600000 in
theorem ahead_c (xs : List Mv) (m : Mv) (hp : isP m.1 = true) (w : World) (hle : xs.length ≤ 1048576) :
    Calls Tryz.prog 76 #[.agg (cntC (cntF xs)), .agg #[.string m.1, .string m.2]] w fun e w' => e = .returned (.bool (freeB xs m)) ∧ Below w.heap.size w w' := by
  have hp9 := (pidx_spec hp).1
  have hf : Hid (freeB xs m = ((cntF xs (pidx m.1) : Int) == 0)) := by
    show _ = _
    unfold freeB cntF
    rw [(pidx_spec hp).2]
    rw [Bool.eq_iff_iff]; simp
  have hcn := cntC_at (cntF xs) (pidx m.1) hp9
  have hg0 : cntF xs (pidx m.1) ≤ 1048576 := by have := rdN_le xs (nm (pidx m.1)); unfold cntF; omega
  have hnew := At.new w 112 (cntC (cntF xs))
  have hnew2 := hnew.alloc (.cells #[.string m.1, .string m.2] 47)
  have c4 := (hnew2.cell (pidx m.1)).trans hcn
  have hl := hnew2.lt
  have i0 : (0 : Int) ≤ (pidx m.1 : Int) := by omega
  have i1 : (pidx m.1 : Int) < 9 := by omega
  have HY := Lib.hid (fun W => indexOf_yes m.1 hp W)
  generalize cntF xs (pidx m.1) = n0 at *
  generalize cntC (cntF xs) = G at *
  generalize pidx m.1 = q at *
  clear hcn
  go_enter Tryz.func76, Tryz.ntmps76
  go_wp2_with (go_at_call 84; refine (HY.out _).mono ?_; rintro e w' ⟨rfl, rfl⟩)
  go_ret
  exact ⟨by rw [hf.out]; rfl, by (repeat' (first | (with_reducible exact Below.refl _ _) | (with_reducible assumption) | (with_reducible refine Below.alloc ?_ ?_ _) | (with_reducible refine Below.drew ?_) | (with_reducible refine Below.setCell ?_ ?_ _) | (with_reducible exact Nat.le_refl _) | omega | ((repeat (first | rewrite [World.size_alloc] | rewrite [World.size_setCell] | rewrite [World.size_drew])); omega) | (simp; omega) | (simp; done)))⟩
end Go.Proofs.YtdhhmphnmllbhaaGreat
namespace Go.PM
open Go.RowKit
/-- a move that changes what a later one reads -/
def BadO (x m : Mv) : Prop := x.1 = m.2 ∧ x.2 ≠ m.2 ∧ isD m.2 = false
instance (x m : Mv) : Decidable (BadO x m) := inferInstanceAs (Decidable (_ ∧ _))
def GoodO (xs : List Mv) : Prop := xs.Pairwise fun x m => ¬ BadO x m
instance (xs : List Mv) : Decidable (GoodO xs) := inferInstanceAs (Decidable (List.Pairwise _ _))
def ordB (xs : List Mv) : Bool := mvalid xs && decide (GoodO xs)
theorem GoodO_step (xs : List Mv) (k : Nat) (hk : k < xs.length) : GoodO (xs.take (k + 1)) ↔ GoodO (xs.take k) ∧ ∀ x ∈ xs.take k, ¬ BadO x xs[k] := by
  unfold GoodO
  rw [take_snoc xs k hk, List.pairwise_append]
  simp
theorem GoodO_take {xs : List Mv} (h : GoodO xs) (k : Nat) : GoodO (xs.take k) := List.Pairwise.sublist (List.take_sublist _ _) h
theorem ordB_no {xs : List Mv} {k : Nat} (h : ¬ GoodO (xs.take k)) : ordB xs = false := by
  unfold ordB
  rw [decide_eq_false (fun hg => h (GoodO_take hg k)), Bool.and_false]
/-- which places the moves change -/
def chgF (xs : List Mv) (q : Nat) : Bool := xs.any fun x => decide (x.1 = nm q ∧ x.1 ≠ x.2)
def boolC (f : Nat → Bool) : Array Value := #[.bool (f 0), .bool (f 1), .bool (f 2), .bool (f 3), .bool (f 4), .bool (f 5), .bool (f 6), .bool (f 7), .bool (f 8)]
theorem boolC_at (f : Nat → Bool) (p : Nat) (hp : p < 9) : (boolC f)[p]? = some (.bool (f p)) := by
  match p, hp with
  | 0, _ | 1, _ | 2, _ | 3, _ | 4, _ | 5, _ | 6, _ | 7, _ | 8, _ => rfl
theorem boolC_set (f : Nat → Bool) (p : Nat) (hp : p < 9) (b : Bool) : (boolC f).setIfInBounds p (.bool b) = boolC (fun q => if q = p then b else f q) := by
  match p, hp with
  | 0, _ | 1, _ | 2, _ | 3, _ | 4, _ | 5, _ | 6, _ | 7, _ | 8, _ => simp [boolC]
theorem boolC_congr {f g : Nat → Bool} (h : ∀ p, p < 9 → f p = g p) : boolC f = boolC g := by
  unfold boolC
  rw [h 0 (by omega), h 1 (by omega), h 2 (by omega), h 3 (by omega), h 4 (by omega), h 5 (by omega), h 6 (by omega), h 7 (by omega), h 8 (by omega)]
theorem chgF_step {xs : List Mv} (h : MV xs) (k : Nat) (hk : k < xs.length) : boolC (fun q => if q = pidx xs[k].1 then decide (xs[k].1 ≠ xs[k].2) else chgF (xs.take k) q) = boolC (chgF (xs.take (k + 1))) := by
  have hm := h.1 _ (List.getElem_mem hk)
  unfold mok at hm; rw [Bool.and_eq_true] at hm
  have hp := pidx_spec hm.1
  have hkey := ((MV_step k hk).1 (MV_take h (k + 1))).2.2
  refine boolC_congr fun q hq => ?_
  unfold chgF
  rw [take_snoc xs k hk, List.any_append, List.any_cons, List.any_nil, Bool.or_false]
  by_cases e : q = pidx xs[k].1
  · subst e
    rw [if_pos rfl, hp.2]
    have h0 : (xs.take k).any (fun x => decide (x.1 = xs[k].1 ∧ x.1 ≠ x.2)) = false := by
      rw [List.any_eq_false]
      intro x hx e2
      rw [decide_eq_true_eq] at e2
      exact hkey (List.mem_map.2 ⟨x, hx, e2.1⟩)
    rw [h0, Bool.false_or, decide_eq_decide]
    exact ⟨fun h => ⟨rfl, h⟩, fun h => h.2⟩
  · rw [if_neg e]
    have : decide (xs[k].1 = nm q ∧ xs[k].1 ≠ xs[k].2) = false := by
      rw [decide_eq_false_iff_not]
      intro h2
      exact e (by rw [h2.1, pidx_nm hq])
    rw [this, Bool.or_false]
theorem chg_bad {xs : List Mv} (k : Nat) (hk : k < xs.length) (hp : isP xs[k].2 = true) (hc : chgF (xs.take k) (pidx xs[k].2) = true) : ¬ GoodO (xs.take (k + 1)) := by
  rw [GoodO_step xs k hk]
  rintro ⟨_, h⟩
  unfold chgF at hc
  rw [(pidx_spec hp).2, List.any_eq_true] at hc
  obtain ⟨x, hx, e⟩ := hc
  rw [decide_eq_true_eq] at e
  exact h x hx ⟨e.1, fun e2 => e.2 (e.1.trans e2.symm), (isP_cases hp).1⟩
theorem chg_good {xs : List Mv} (k : Nat) (hk : k < xs.length) (hg : GoodO (xs.take k)) (hc : isP xs[k].2 = true → chgF (xs.take k) (pidx xs[k].2) = false) (hs : isS xs[k].2 = true) : GoodO (xs.take (k + 1)) := by
  rw [GoodO_step xs k hk]
  refine ⟨hg, fun x hx hb => ?_⟩
  unfold isS at hs
  rw [Bool.or_eq_true] at hs
  rcases hs with hp | hd
  · have := hc hp
    unfold chgF at this
    rw [(pidx_spec hp).2, List.any_eq_false] at this
    exact this x hx (by rw [decide_eq_true_eq]; exact ⟨hb.1, fun e => hb.2.1 (e.symm.trans hb.1)⟩)
  · rw [hb.2.2] at hd; cases hd
end Go.PM
namespace Go.Proofs.YtdhhmphnmllbhaaGreat
open Go.RowKit Go.PM

end Go.Proofs.YtdhhmphnmllbhaaGreat
namespace Go.PM
open Go.RowKit Go.PW
/-- moves that can be done as they stand do themselves -/
theorem ord_run {xs : List Mv} (h : MV xs) (hg : GoodO xs) : ∀ k, k ≤ xs.length → ∀ p, p < 9 → runM (xs.take k) nmT p = if nm p ∈ (xs.take k).map (·.1) then rdS nmT (srcM xs (nm p)) else nmT p := by
  intro k
  induction k with
  | zero => intro _ p _; simp [runM]
  | succ k ih =>
    intro hk p hp
    have hlt : k < xs.length := by omega
    have ih := ih (by omega)
    have hm := h.1 _ (List.getElem_mem hlt)
    unfold mok at hm; rw [Bool.and_eq_true] at hm
    have hP := pidx_spec hm.1
    have hC := cidx_P hm.1
    have hsrc : srcM xs xs[k].1 = xs[k].2 := srcM_of_mem h (List.getElem_mem hlt)
    have hgk := (GoodO_step xs k hlt).1 (GoodO_take hg (k + 1))
    -- what the move reads is as at the start
    have hrd : rdS (runM (xs.take k) nmT) xs[k].2 = rdS nmT xs[k].2 := by
      rcases Bool.eq_false_or_eq_true (isC xs[k].2) with hc | hc
      · rw [rdS_cell hc, rdS_cell hc]
        have hp2 : isP xs[k].2 = true := by
          have hs := hm.2
          unfold isS at hs
          rw [Bool.or_eq_true] at hs
          rcases hs with hs | hs
          · exact hs
          · rw [isD_notC hs] at hc; cases hc
        have hq := cidx_P hp2
        rw [ih _ hq.2.1, hq.2.2]
        split
        · next hin =>
          obtain ⟨x, hx, ex⟩ := List.mem_map.1 hin
          have hnb := hgk.2 x hx
          have hx2 : x.2 = xs[k].2 := Classical.not_not.1 fun hne => hnb ⟨ex, hne, (isP_cases hp2).1⟩
          have hxs : srcM xs x.1 = x.2 := srcM_of_mem h (List.mem_of_mem_take hx)
          have ex' : x.1 = xs[k].2 := ex
          rw [ex'] at hxs
          rw [hxs, hx2, rdS_cell hc]
        · rfl
      · rw [rdS_digit hc, rdS_digit hc]
    have hrun : runM (xs.take (k + 1)) nmT = updS (runM (xs.take k) nmT) (cidx xs[k].1) (rdS (runM (xs.take k) nmT) xs[k].2) := by
      unfold runM
      rw [take_snoc xs k hlt, List.foldl_append]; rfl
    rw [hrun, hrd]
    have hkeys : nm p ∈ (xs.take (k + 1)).map (·.1) ↔ nm p ∈ (xs.take k).map (·.1) ∨ nm p = xs[k].1 := by
      rw [take_snoc xs k hlt, List.map_append, List.mem_append]; simp
    by_cases e : nm p = xs[k].1
    · have hpc : cidx xs[k].1 = p := by rw [← e, (cidx_nm hp).2]
      rw [updS, if_pos hpc.symm, if_pos (hkeys.2 (.inr e)), e, hsrc]
    · have hpc : p ≠ cidx xs[k].1 := fun e2 => e (by rw [e2]; exact hC.2.2)
      rw [updS, if_neg hpc, ih p hp]
      by_cases hin : nm p ∈ (xs.take k).map (·.1)
      · rw [if_pos hin, if_pos (hkeys.2 (.inl hin))]
      · rw [if_neg hin, if_neg (fun h2 => (hkeys.1 h2).elim hin e)]
theorem ord_right {xs : List Mv} (h : ordB xs = true) : irB (stL xs) xs = true := by
  unfold ordB at h
  rw [Bool.and_eq_true, decide_eq_true_eq] at h
  have hMV : MV xs := by simpa [mvalid] using h.1
  have hl := MV_len hMV
  refine right_of_run (svalid_stL (by omega) fun m hm => ?_) hMV fun p hp => ?_
  · have := hMV.1 m hm
    unfold mok isS at this
    rw [Bool.and_eq_true, Bool.or_eq_true] at this
    refine ⟨.inl this.1, ?_⟩
    rcases this.2 with h2 | h2
    · exact .inl h2
    · exact .inr (.inl h2)
  · have := ord_run hMV h.2 xs.length (Nat.le_refl _) p hp
    rw [List.take_length] at this
    rw [this]
    split
    · rfl
    · next hn =>
      have : srcM xs (nm p) = nm p := srcM_none hn
      rw [this, rdS_nm nmT hp]
/-- what is taken ahead: no taken move's place is read by a later one -/
theorem takF_facts : ∀ (n : Nat) (ws : List Mv), (ws.map (·.1)).Nodup → (takF n ws).Pairwise (fun x m => x.1 ≠ m.2) ∧ ((takF n ws).map (·.1)).Nodup ∧ (∀ m ∈ takF n ws, m ∈ ws) ∧ (ws.length ≤ n → (takF n ws).length = ws.length → ∀ m ∈ ws, m ∈ takF n ws)
  | 0, ws, _ => by
    refine ⟨List.Pairwise.nil, List.nodup_nil, fun m h => (by cases h), fun h _ m hm => ?_⟩
    have : ws = [] := List.length_eq_zero_iff.1 (by omega)
    rw [this] at hm; cases hm
  | n + 1, ws, hk => by
    cases ha : aheadI ws with
    | none =>
      rw [takF_none ha]
      refine ⟨List.Pairwise.nil, List.nodup_nil, fun m h => (by cases h), fun _ h m hm => ?_⟩
      have : ws = [] := List.length_eq_zero_iff.1 h.symm
      rw [this] at hm; cases hm
    | some i =>
      obtain ⟨hi, hf⟩ := aheadI_some ha
      rw [takF_some hi ha]
      have hk2 : ((ws.eraseIdx i).map (·.1)).Nodup := hk.sublist ((List.eraseIdx_sublist ws i).map _)
      obtain ⟨f1, f2, f3, f4⟩ := takF_facts n (ws.eraseIdx i) hk2
      refine ⟨List.Pairwise.cons (fun m hm e => rdN_zero.1 hf m (erase_mem (f3 m hm)) e.symm) f1, ?_, fun m hm => ?_, fun hl he m hm => ?_⟩
      · rw [List.map_cons, List.nodup_cons]
        refine ⟨fun hmem => ?_, f2⟩
        obtain ⟨x, hx, e⟩ := List.mem_map.1 hmem
        exact erase_key hk hi x (f3 x hx) e
      · rw [List.mem_cons] at hm
        rcases hm with rfl | hm
        · exact List.getElem_mem hi
        · exact erase_mem (f3 m hm)
      · rw [List.length_cons] at he
        have hle : (ws.eraseIdx i).length = ws.length - 1 := List.length_eraseIdx_of_lt hi
        rw [List.mem_cons]
        rcases erase_or hi hm with h2 | h2
        · exact .inl h2
        · exact .inr (f4 (by omega) (by omega) m h2)
theorem busyF_MV {xs : List Mv} (h : MV xs) : MV (busyF xs 9) := by
  have hl : busyF xs 9 = lsF (fun p => srcM xs (nm p)) 9 := rfl
  rw [hl]; exact lsF_MV (SVal_M h)
theorem busyF_mem {xs : List Mv} (h : MV xs) (m : Mv) : m ∈ busyF xs 9 ↔ m ∈ xs ∧ m.1 ≠ m.2 := by
  have hl : busyF xs 9 = lsF (fun p => srcM xs (nm p)) 9 := rfl
  rw [hl]
  constructor
  · intro hm
    obtain ⟨p, _, hne, e⟩ := lsF_mem hm
    rw [e]
    exact ⟨mem_of_srcM hne, fun e => hne e.symm⟩
  · rintro ⟨hm, hne⟩
    have hok := h.1 m hm
    unfold mok at hok; rw [Bool.and_eq_true] at hok
    have hp := pidx_spec hok.1
    have hs := srcM_of_mem h hm
    refine List.mem_map.2 ⟨pidx m.1, List.mem_filter.2 ⟨List.mem_range.2 hp.1, ?_⟩, ?_⟩
    · unfold lsH
      simp only [hp.2, hs, decide_eq_true_eq]
      exact fun e => hne e.symm
    · simp only [hp.2, hs]
theorem wsp_good {xs : List Mv} (h : wspB xs = true) : ordB (wspM xs) = true ∧ sameM (wspM xs) xs = true := by
  have hw : wspM xs = takM xs := by unfold wspM; rw [if_pos h]
  unfold wspB at h
  rw [Bool.and_eq_true, decide_eq_true_eq] at h
  have hMV : MV xs := by simpa [mvalid] using h.1
  have hB := busyF_MV hMV
  obtain ⟨f1, f2, f3, f4⟩ := takF_facts 9 (busyF xs 9) hB.2
  have hT : MV (takM xs) := ⟨fun m hm => hB.1 m (f3 m hm), f2⟩
  rw [hw]
  constructor
  · unfold ordB
    rw [Bool.and_eq_true, decide_eq_true_eq]
    refine ⟨by simpa [mvalid] using hT, List.Pairwise.imp ?_ f1⟩
    intro x m hne hb
    exact hne hb.1
  · have h4 := f4 (busyF_len xs 9) h.2
    have key : ∀ a, srcM (takM xs) a = srcM xs a := fun a => by
      by_cases h0 : srcM (takM xs) a = a
      · by_cases h1 : srcM xs a = a
        · rw [h0, h1]
        · have h3 := mem_of_srcM h1
          exact srcM_of_mem hT (h4 _ ((busyF_mem hMV (a, srcM xs a)).2 ⟨h3, fun e => h1 e.symm⟩))
      · have h3 := f3 _ (mem_of_srcM h0)
        exact (srcM_of_mem hMV ((busyF_mem hMV _).1 h3).1).symm
    unfold sameM
    rw [show mvalid (takM xs) = true by simpa [mvalid] using hT, h.1, Bool.true_and, Bool.true_and, List.all_eq_true]
    intro p _
    unfold sameAt
    rw [key, decide_eq_true rfl]
/-- moves that wait for one another are never taken -/
theorem takF_ring (R : Mv → Prop) : ∀ (n : Nat) (ws : List Mv), (∃ m, R m) → (∀ m, R m → m ∈ ws ∧ ∃ x, R x ∧ x.2 = m.1) → (takF n ws).length < ws.length
  | 0, ws, ⟨m, hm⟩, hR => by
    have := List.length_pos_of_mem (hR m hm).1
    exact this
  | n + 1, ws, hne, hR => by
    cases ha : aheadI ws with
    | none =>
      rw [takF_none ha]
      obtain ⟨m, hm⟩ := hne
      exact List.length_pos_of_mem (hR m hm).1
    | some i =>
      obtain ⟨hi, hf⟩ := aheadI_some ha
      rw [takF_some hi ha, List.length_cons]
      have hz := rdN_zero.1 hf
      have := takF_ring R n (ws.eraseIdx i) hne (fun m hm => by
        obtain ⟨h1, x, hx, ex⟩ := hR m hm
        refine ⟨?_, x, hx, ex⟩
        rcases erase_or hi h1 with e | e
        · exact absurd (by rw [ex, e]) (hz x (hR x hx).1)
        · exact e)
      rw [List.length_eraseIdx_of_lt hi] at this
      omega
/-- where not all are taken, some wait for one another -/
theorem takF_left : ∀ (n : Nat) (ws : List Mv), Wt ws → ws.length ≤ n → (takF n ws).length < ws.length → ∃ vs : List Mv, vs ≠ [] ∧ (∀ m ∈ vs, m ∈ ws) ∧ ∀ m ∈ vs, ∃ x ∈ vs, x.1 = m.2
  | 0, ws, _, hl, h => by omega
  | n + 1, ws, hw, hl, h => by
    cases ha : aheadI ws with
    | none =>
      rw [takF_none ha] at h
      refine ⟨ws, fun e => by rw [e] at h; simp at h, fun m hm => hm, (hw.full ha).2.1⟩
    | some i =>
      obtain ⟨hi, hf⟩ := aheadI_some ha
      rw [takF_some hi ha, List.length_cons] at h
      have hle : (ws.eraseIdx i).length = ws.length - 1 := List.length_eraseIdx_of_lt hi
      obtain ⟨vs, h1, h2, h3⟩ := takF_left n (ws.eraseIdx i) (hw.erase i) (by omega) (by omega)
      exact ⟨vs, h1, fun m hm => erase_mem (h2 m hm), h3⟩
theorem busy_nx {xs : List Mv} (h : MV xs) {m : Mv} (hm : m ∈ busyF xs 9) : nxT (tabOf xs) (pidx m.1) = some (sidx m.2) ∧ isP m.1 = true ∧ m.2 = sn (sidx m.2) ∧ sidx m.2 < 19 := by
  have hB := (busyF_MV h).1 m hm
  unfold mok at hB; rw [Bool.and_eq_true] at hB
  have hp := pidx_spec hB.1
  have hs := sidx_spec hB.2
  have hx := (busyF_mem h m).1 hm
  have hsrc : srcT (tabOf xs) (pidx m.1) = m.2 := by rw [srcM_place h hB.1, srcM_of_mem h hx.1]
  have hsx : sx (tabOf xs) (pidx m.1) = sidx m.2 := by unfold sx; rw [hsrc]
  refine ⟨?_, hB.1, hs.2.symm, hs.1⟩
  rw [nxT_some hp.1 (by rw [hsx]; intro e; apply hx.2; rw [← hp.2, ← hs.2, e, sn_nm _ hp.1]), hsx]
theorem wsp_rings {xs : List Mv} (h : MV xs) : wspB xs = decide (ringsF (nxT (tabOf xs)) 9 = []) := by
  have hf := SV_tab h
  have hn := nice hf
  have hw : wspB xs = decide ((takM xs).length = (busyF xs 9).length) := by
    unfold wspB; rw [show mvalid xs = true by simpa [mvalid] using h]; rfl
  rw [hw, decide_eq_decide]
  constructor
  · intro heq
    refine Classical.byContradiction fun hne => ?_
    obtain ⟨l, hl⟩ := List.exists_mem_of_ne_nil _ hne
    obtain ⟨s, hs9, rfl, hon, _⟩ := ringsF_mem2 9 l hl
    have hs19 : s < 19 := by omega
    have hO := (onRb_iff hn hs19).1 hon
    have hall := ring_all hn hs19 hO
    -- the moves of the ring
    have hmv : ∀ p, p ∈ way (nxT (tabOf xs)) s → p < 9 ∧ (nm p, srcM xs (nm p)) ∈ busyF xs 9 ∧ nxT (tabOf xs) p = some (sx (tabOf xs) p) := fun p hp => by
      have hp9 := ring_low hn (hall p hp)
      have hne2 : sx (tabOf xs) p ≠ p := fun e => by
        obtain ⟨k, hk, ek⟩ := hall p hp
        obtain ⟨k, rfl⟩ : ∃ m, k = m + 1 := ⟨k - 1, by omega⟩
        rw [show k + 1 = 1 + k by omega, orb_add] at ek
        simp only [orb, Option.bind_some, nxT_stay hp9 e] at ek
        cases ek
      refine ⟨hp9, ?_, nxT_some hp9 hne2⟩
      have hsrc : srcM xs (nm p) ≠ nm p := fun e => by
        rw [← srcM_nm h hp9] at e
        exact hne2 ((src_self hf hp9).1 e)
      exact (busyF_mem h _).2 ⟨mem_of_srcM hsrc, fun e => hsrc e.symm⟩
    have := takF_ring (fun m => ∃ p, p ∈ way (nxT (tabOf xs)) s ∧ m = (nm p, srcM xs (nm p))) 9 (busyF xs 9)
      ⟨_, s, List.mem_of_getElem? ((way_rho hn hs19).at_ 0 (way_rho hn hs19).pos), rfl⟩ (by
        rintro m ⟨p, hp, rfl⟩
        refine ⟨(hmv p hp).2.1, ?_⟩
        -- its reader on the ring
        obtain ⟨k, hk, ek⟩ := hall p hp
        obtain ⟨k, rfl⟩ : ∃ m, k = m + 1 := ⟨k - 1, by omega⟩
        have ek' := ek
        simp only [orb, Option.bind_eq_some_iff] at ek'
        obtain ⟨q, hq1, hq2⟩ := ek'
        have hqw := ring_orb hn hs19 hon hp k q hq1
        obtain ⟨hq9, _, hqn⟩ := hmv q hqw
        rw [hqn] at hq2
        have hsxq : sx (tabOf xs) q = p := Option.some.inj hq2
        refine ⟨(nm q, srcM xs (nm q)), ⟨q, hqw, rfl⟩, ?_⟩
        show srcM xs (nm q) = nm p
        rw [← srcM_nm h hq9, ← (sx_lt hf hq9).2, hsxq, sn_nm p (hmv p hp).1])
    unfold takM at heq
    omega
  · intro hr
    refine Classical.byContradiction fun hne => ?_
    have hlt : (takF 9 (busyF xs 9)).length < (busyF xs 9).length := by
      have := takF_len 9 (busyF xs 9)
      unfold takM at hne
      omega
    obtain ⟨vs, hv0, hv1, hv2⟩ := takF_left 9 (busyF xs 9) (busyF_Wt h) (busyF_len xs 9) hlt
    obtain ⟨m0, hm0⟩ := List.exists_mem_of_ne_nil _ hv0
    -- the way from there never ends
    have hway : ∀ k, ∃ m ∈ vs, orb (nxT (tabOf xs)) (pidx m0.1) k = some (pidx m.1) := by
      intro k
      induction k with
      | zero => exact ⟨m0, hm0, rfl⟩
      | succ k ih =>
        obtain ⟨m, hm, e⟩ := ih
        obtain ⟨x, hx, ex⟩ := hv2 m hm
        have hb := busy_nx h (hv1 m hm)
        have hxP := (busy_nx h (hv1 x hx)).2.1
        refine ⟨x, hx, ?_⟩
        simp only [orb, e, Option.bind_some, hb.1]
        rw [ex, Option.some.injEq]
        exact sidx_pidx (by rw [← ex]; exact hxP)
    have hlt9 : ∀ k, k ≤ 9 → ((orb (nxT (tabOf xs)) (pidx m0.1) k).getD 0) < 9 := fun k _ => by
      obtain ⟨m, hm, e⟩ := hway k
      rw [e]
      exact (pidx_spec (busy_nx h (hv1 m hm)).2.1).1
    obtain ⟨i, j, hij, _, e⟩ := pigeon 9 (fun k => (orb (nxT (tabOf xs)) (pidx m0.1) k).getD 0) hlt9
    obtain ⟨mi, hmi, ei⟩ := hway i
    obtain ⟨mj, hmj, ej⟩ := hway j
    simp only [ei, ej, Option.getD_some] at e
    have hq9 := (pidx_spec (busy_nx h (hv1 mi hmi)).2.1).1
    have hon : OnR (nxT (tabOf xs)) (pidx mi.1) := by
      refine ⟨j - i, by omega, ?_⟩
      have := orb_add (nx := nxT (tabOf xs)) (pidx m0.1) i (j - i)
      rw [show i + (j - i) = j by omega, ej, ei] at this
      rw [e]
      simpa [e] using this.symm
    have := ringsF_in hn hq9 ((onRb_iff hn (by omega)).2 hon) 9 hq9
    rw [hr] at this
    cases this
end Go.PM
namespace Go.PM
open Go.RowKit Go.Lib
def wrB (x : St) : ByteArray := if x.1 = 1 then x.2.1 ++ x.2.2 else x.2.1
theorem wrB_move (k : Int) (a b : ByteArray) (h : ¬ k = 1) : wrB (k, a, b) = a := if_neg h
theorem wrB_swap (a b : ByteArray) : wrB (1, a, b) = a ++ b := if_pos rfl
def wrL (xs : List St) : List UInt8 := xs.flatMap fun x => (wrB x).data.toList
def wrT (xs : List St) : ByteArray := ⟨(wrL xs).toArray⟩
theorem wrT_step (xs : List St) (k : Nat) (hk : k < xs.length) : wrT (xs.take k) ++ wrB xs[k] = wrT (xs.take (k + 1)) := by
  apply ByteArray.ext
  rw [ByteArray.data_append, wrT, wrT, take_snoc xs k hk]
  unfold wrL
  rw [List.flatMap_append]
  simp
theorem wrB_size {x : St} (h : stOk x = true) : (wrB x).size ≤ 2 := by
  obtain ⟨k, a, b⟩ := x
  rcases stOk_kind h with rfl | rfl
  · rw [wrB_move 0 a b (by decide)]
    have := isC_size (stOk_move h).1
    omega
  · rw [wrB_swap, ByteArray.size_append]
    have h1 := isC_size (stOk_swap h).1
    have h2 := isC_size (stOk_swap h).2
    omega
theorem wrT_size {xs : List St} (h : svalid xs = true) (k : Nat) : (wrT (xs.take k)).size ≤ 2 * k := by
  induction k with
  | zero => exact Nat.le_refl _
  | succ k ih =>
    by_cases hk : k < xs.length
    · rw [← wrT_step xs k hk, ByteArray.size_append]
      have := wrB_size (svalid_at h k hk)
      omega
    · rw [List.take_of_length_le (by omega)] at ih ⊢
      omega
def tcH (xs : List St) (p : Nat) : Bool := inTx cellsL (wrL xs) p
def tcB (xs : List St) : ByteArray := okS (svalid xs) (pickB cellsL (tcH xs) 11)
/-- the spec's test of one step -/
def tq (p : Nat) : ByteArray := ⟨#[cellsL.getD p 0]⟩
def tcX (p : Nat) (x : St) : Bool := decide (x.2.1 = tq p) || (decide (x.1 = 1) && decide (x.2.2 = tq p))
def tcI (xs : List St) (p k : Nat) : Bool := (xs.take k).any (tcX p)
theorem tcI_zero (xs : List St) (p : Nat) : tcI xs p 0 = false := by simp [tcI]
theorem tcI_succ (xs : List St) (p k : Nat) (hk : k < xs.length) : tcI xs p (k + 1) = (tcI xs p k || tcX p xs[k]) := by
  unfold tcI; rw [take_snoc xs k hk, List.any_append]; simp
theorem mem_one {a : ByteArray} (h : a.size = 1) (p : Nat) : cellsL.getD p 0 ∈ a.data.toList ↔ a = tq p := by
  obtain ⟨c, rfl⟩ := one_of_size h
  constructor
  · intro h'
    simp at h'
    rw [tq, ← h']; simp
  · intro h'
    rw [h']; simp [tq]
theorem tcI_full {xs : List St} (h : svalid xs = true) (p : Nat) : tcI xs p xs.length = tcH xs p := by
  unfold tcI tcH inTx
  rw [List.take_length, Bool.eq_iff_iff, List.any_eq_true, decide_eq_true_eq, wrL, List.mem_flatMap]
  have key : ∀ x ∈ xs, tcX p x = true ↔ cellsL.getD p 0 ∈ (wrB x).data.toList := fun x hx => by
    obtain ⟨k, hk, rfl⟩ := List.getElem_of_mem hx
    have hv := svalid_at h k hk
    generalize xs[k] = y at *
    obtain ⟨k, a, b⟩ := y
    rcases stOk_kind hv with rfl | rfl
    · rw [wrB_move 0 a b (by decide), mem_one (isC_size (stOk_move hv).1)]
      simp [tcX]
    · rw [wrB_swap]
      have h1 := mem_one (isC_size (stOk_swap hv).1) p
      have h2 := mem_one (isC_size (stOk_swap hv).2) p
      simp only [ByteArray.data_append, Array.toList_append, List.mem_append, h1, h2]
      simp [tcX]
  constructor
  · rintro ⟨x, hx, e⟩; exact ⟨x, hx, (key x hx).1 e⟩
  · rintro ⟨x, hx, e⟩; exact ⟨x, hx, (key x hx).2 e⟩
end Go.PM
namespace Go.Proofs.YtdhhmphnmllbhaaGreat
open Go.RowKit Go.PM

theorem writes_c (k : Int) (a b : ByteArray) (ha : a.size ≤ 100) (hb : b.size ≤ 100) (w : World) :
    Calls Tryz.prog 29 #[.agg #[.int .i64 k, .string a, .string b]] w fun e w' => e = .returned (.string (wrB (k, a, b))) ∧ Below w.heap.size w w' := by
  by_cases h : k = 1
  · subst h
    have HW := Lib.hid (wrB_swap a b)
    go_enter Tryz.func29, Tryz.ntmps29
    go_wp2
    go_ret
    exact ⟨by rw [HW.out]; rfl, by (repeat' (first | (with_reducible exact Below.refl _ _) | (with_reducible assumption) | (with_reducible refine Below.alloc ?_ ?_ _) | (with_reducible refine Below.drew ?_) | (with_reducible refine Below.setCell ?_ ?_ _) | (with_reducible exact Nat.le_refl _) | omega | ((repeat (first | rewrite [World.size_alloc] | rewrite [World.size_setCell] | rewrite [World.size_drew])); omega) | (simp; omega) | (simp; done)))⟩
  · have HW := Lib.hid (wrB_move k a b h)
    have t1 : (k == 1) = false := by simpa using h
    clear h
    go_enter Tryz.func29, Tryz.ntmps29
    go_wp2
    go_ret
    exact ⟨by rw [HW.out]; rfl, by (repeat' (first | (with_reducible exact Below.refl _ _) | (with_reducible assumption) | (with_reducible refine Below.alloc ?_ ?_ _) | (with_reducible refine Below.drew ?_) | (with_reducible refine Below.setCell ?_ ?_ _) | (with_reducible exact Nat.le_refl _) | omega | ((repeat (first | rewrite [World.size_alloc] | rewrite [World.size_setCell] | rewrite [World.size_drew])); omega) | (simp; omega) | (simp; done)))⟩
set_option maxRecDepth 100000 in
set_option maxHeartbeats 1000000 in
theorem imTouchedBy_c (xs : List St) (v : Value) (w : World) (hx : RdS w v xs) :
    Calls Tryz.prog 12 #[v] w fun e w' => e = .returned (.tuple #[.string (tcB xs), .bool (svalid xs)]) ∧ Below w.heap.size w w' := by
  have hsv := Lib.hid (imSequenceValid_c xs v w hx)
  rcases Bool.eq_false_or_eq_true (svalid xs) with h1 | h1
  · have HT : Hid (tcB xs = pickB cellsL (tcH xs) 11) := by show _ = _; rw [tcB, h1]; rfl
    have HSZ := Lib.hid (fun k => wrT_size h1 k)
    have HST := Lib.hid (fun k hk => wrT_step xs k hk)
    have HOK := Lib.hid (fun k hk => svalid_at h1 k hk)
    have hlen := svalid_len h1
    have HPL : ∀ W, Calls Tryz.prog 30 #[.string ⟨#[97, 98, 99, 100, 101, 102, 65, 66, 67, 116, 117]⟩, .string (wrT xs)] W fun e w' => e = .returned (.string (tcB xs)) ∧ W = w' := fun W => by
      have := namesIn_c cellsB (wrT xs) (by decide) W
      rw [HT.out]
      have e : inTx cellsB.data.toList (wrT xs).data.toList = tcH xs := by funext p; simp [inTx, tcH, wrT, cellsB, cellsL]
      rw [e] at this
      exact this
    have HPL2 := Lib.hid HPL
    have H1 := Lib.hid h1
    clear h1 HPL
    go_enter Tryz.func12, Tryz.ntmps12
    go_wp2_with fail
    refine hsv.out.mono ?_
    rintro e w1 ⟨rfl, hb1⟩
    rw [H1.out]
    have hs1 := hb1.size
    have hx1 := hx.below hb1
    obtain ⟨A, cap, rfl, hn, hc, hcell⟩ := hx1.open
    clear hx1
    go_wp2
    go_loopw [4, 6, 12] (fun o _ i wr => ∃ (k : Nat), k ≤ xs.length ∧ i = .int .i64 k ∧ o = .string (wrT (xs.take k)) ∧ Below w1.heap.size w1 wr) (fun _ _ i _ => xs.length - (intOf i).toNat)
    case atStart => exact ⟨0, by omega, rfl, rfl, Below.refl _ _⟩
    case round =>
      obtain ⟨k, hk, rfl, rfl, hb⟩ := hrel
      have hbs := hb.size
      by_cases hlt : k < xs.length
      · obtain ⟨b, off, rfl, hbl, hc1, hc2, hc3⟩ := hcell k hlt
        have hd1 := (hb.cell (p := ⟨b, off + k * 3, none⟩) hbl).trans hc1
        have hd2 := (hb.cell (p := ⟨b, off + k * 3 + 1, none⟩) hbl).trans hc2
        have hd3 := (hb.cell (p := ⟨b, off + k * 3 + 2, none⟩) hbl).trans hc3
        clear hc1 hc2 hc3 hcell
        have hsz := HSZ.out k
        have hok : stOk (xs[k].1, xs[k].2.1, xs[k].2.2) = true := HOK.out k hlt
        have hst : wrT (xs.take k) ++ wrB (xs[k].1, xs[k].2.1, xs[k].2.2) = wrT (xs.take (k + 1)) := HST.out k hlt
        generalize xs[k].1 = x1 at *
        generalize xs[k].2.1 = x2 at *
        generalize xs[k].2.2 = x3 at *
        have hwz := wrB_size hok
        have hz2 : x2.size ≤ 100 ∧ x3.size ≤ 100 := by
          rcases stOk_kind hok with rfl | rfl
          · have h2 := isC_size (stOk_move hok).1
            have h3 := okC_size (stOk_move hok).2
            omega
          · have h2 := isC_size (stOk_swap hok).1
            have h3 := isC_size (stOk_swap hok).2
            omega
        have hw := fun W => writes_c x1 x2 x3 hz2.1 hz2.2 W
        have HST2 := Lib.hid hst
        clear hst hok hz2
        generalize wrB (x1, x2, x3) = q at *
        generalize wrT (xs.take k) = tk at *
        go_wp2_with fail
        refine (hw _).mono ?_
        rintro e w2 ⟨rfl, hb2⟩
        have hb3 : Below w1.heap.size w1 w2 := (hb.alloc hbs _).trans (hb2.mono (by simp; omega))
        go_wp2
        go_roundw
        case rel => exact ⟨k + 1, by omega, by go_num, by rw [← HST2.out], hb3⟩
        case measure => simp [intOf]; omega
      · have hk' : k = xs.length := by omega
        have HE : Hid (wrT (xs.take k) = wrT xs) := by show _ = _; rw [hk', List.take_length]
        rw [HE.out]
        clear hcell
        go_wp2_with (go_at_call 30; refine (HPL2.out _).mono ?_; rintro e w' ⟨rfl, rfl⟩)
        go_ret2
        exact ⟨by rw [H1.out]; rfl, hb1.trans (hb.mono hs1)⟩
  · have HT : Hid (tcB xs = ⟨#[]⟩) := by show _ = _; rw [tcB, h1]; rfl
    have H1 := Lib.hid h1
    clear h1
    go_enter Tryz.func12, Tryz.ntmps12
    go_wp2_with fail
    refine hsv.out.mono ?_
    rintro e w1 ⟨rfl, hb1⟩
    rw [H1.out]
    go_wp2
    go_ret2
    exact ⟨by rw [H1.out, HT.out]; rfl, hb1⟩
end Go.Proofs.YtdhhmphnmllbhaaGreat
namespace Go.PM
open Go.RowKit
theorem cell_inj : ∀ p < 11, ∀ q < 11, cellsL.getD q 0 = cellsL.getD p 0 → q = p := by decide +kernel
theorem pmH_pick (h : Nat → Bool) (p : Nat) (hp : p < 11) : pmH (pickB cellsL h 11) ⟨#[cellsL.getD p 0]⟩ = h p := by
  rw [pmH_one, Bool.eq_iff_iff, decide_eq_true_eq]
  unfold pickB pickL
  simp only [List.mem_map, List.mem_filter, List.mem_range]
  constructor
  · rintro ⟨q, ⟨hq, hh⟩, e⟩
    rw [cell_inj p hp q hq e] at hh; exact hh
  · intro hh; exact ⟨p, ⟨hp, hh⟩, rfl⟩
theorem nm_tq {p : Nat} (hp : p < 9) : nm p = tq p := by
  match p, hp with
  | 0, _ | 1, _ | 2, _ | 3, _ | 4, _ | 5, _ | 6, _ | 7, _ | 8, _ => decide +kernel
theorem tq_cell {p : Nat} (hp : p < 11) : isC (tq p) = true ∧ cidx (tq p) = p := by
  match p, hp with
  | 0, _ | 1, _ | 2, _ | 3, _ | 4, _ | 5, _ | 6, _ | 7, _ | 8, _ | 9, _ | 10, _ => decide +kernel
theorem tq_of {a : ByteArray} (h : isC a = true) : tq (cidx a) = a := by
  obtain ⟨c, rfl⟩ := one_of_size (isC_size h)
  have h2 : c ∈ cellsL := by simpa [isC] using h
  show (⟨#[cellsL.getD (cidx ⟨#[c]⟩) 0]⟩ : ByteArray) = _
  rw [(cidx_one h2).2.2]
theorem st_kind {x : St} (h : stOk x = true) : (x.1 = 0 ∧ isC x.2.1 = true ∧ okC x.2.2 = true) ∨ (x.1 = 1 ∧ isC x.2.1 = true ∧ isC x.2.2 = true) := by
  unfold stOk at h
  rw [Bool.or_eq_true] at h
  rcases h with h | h
  · simp only [Bool.and_eq_true, decide_eq_true_eq] at h
    exact .inl ⟨h.1, h.2.1, h.2.2⟩
  · simp only [Bool.and_eq_true, decide_eq_true_eq] at h
    exact .inr ⟨h.1, h.2.1, h.2.2⟩
/-- steps give in every state what they give to names -/
theorem run_names (xs : List St) (h : svalid xs = true) (f : Nat → UInt8) : ∀ k, k ≤ xs.length → ∀ p, p < 11 → runS xs k f p = rdS f ⟨#[runS xs k nmT p]⟩ := by
  intro k
  induction k with
  | zero =>
    intro _ p hp
    rw [runS_zero, runS_zero]
    have := tq_cell hp
    show f p = rdS f (tq p)
    rw [rdS_cell this.1, this.2]
  | succ k ih =>
    intro hk p hp
    have ih := ih (by omega)
    have hkl : k < xs.length := by omega
    rw [runS_succ xs k hkl, runS_succ xs k hkl]
    have hv := svalid_at h k hkl
    generalize xs[k] = x at hv
    generalize runS xs k f = f1 at ih
    generalize runS xs k nmT = g1 at ih
    unfold doS
    rcases st_kind hv with ⟨h1, h2, h3⟩ | ⟨h1, h2, h3⟩
    · rw [if_neg (by omega), if_neg (by omega)]
      unfold updS
      by_cases hpq : p = cidx x.2.1
      · rw [if_pos hpq, if_pos hpq]
        by_cases hc : isC x.2.2 = true
        · rw [rdS_cell hc, rdS_cell hc, ih _ (cidx_lt hc)]
        · have hc' : isC x.2.2 = false := by simpa using hc
          have h4 := fc_one (okC_size h3)
          rw [rdS_digit hc', rdS_digit hc', ← h4, rdS_digit hc']
      · rw [if_neg hpq, if_neg hpq]; exact ih p hp
    · rw [if_pos h1, if_pos h1]
      unfold swS
      by_cases hp1 : p = cidx x.2.1
      · rw [if_pos hp1, if_pos hp1]; exact ih _ (cidx_lt h3)
      · rw [if_neg hp1, if_neg hp1]
        by_cases hp2 : p = cidx x.2.2
        · rw [if_pos hp2, if_pos hp2]; exact ih _ (cidx_lt h2)
        · rw [if_neg hp2, if_neg hp2]; exact ih p hp
/-- what is not touched stays -/
theorem run_stays (xs : List St) (h : svalid xs = true) (f : Nat → UInt8) {p : Nat} (_hp : p < 11) : ∀ k, k ≤ xs.length → tcI xs p k = false → runS xs k f p = f p := by
  intro k
  induction k with
  | zero => intro _ _; rw [runS_zero]
  | succ k ih =>
    intro hk ht
    have hkl : k < xs.length := by omega
    rw [tcI_succ xs p k hkl, Bool.or_eq_false_iff] at ht
    have ih := ih (by omega) ht.1
    rw [runS_succ xs k hkl]
    have hv := svalid_at h k hkl
    have ht2 := ht.2
    generalize xs[k] = x at hv ht2
    generalize runS xs k f = f1 at ih
    unfold tcX at ht2
    rw [Bool.or_eq_false_iff, decide_eq_false_iff_not] at ht2
    have hne : ∀ a, isC a = true → a ≠ tq p → p ≠ cidx a := fun a ha hn e => hn (by rw [e, tq_of ha])
    unfold doS
    rcases st_kind hv with ⟨h1, h2, h3⟩ | ⟨h1, h2, h3⟩
    · rw [if_neg (by omega)]
      unfold updS
      rw [if_neg (hne _ h2 ht2.1)]; exact ih
    · rw [if_pos h1]
      have h4 : x.2.2 ≠ tq p := by simpa [h1] using ht2.2
      unfold swS
      rw [if_neg (hne _ h2 ht2.1), if_neg (hne _ h3 h4)]; exact ih
theorem tcB_pmH {xs : List St} (h : svalid xs = true) {p : Nat} (hp : p < 9) : pmH (tcB xs) (nm p) = tcH xs p := by
  have e : tcB xs = pickB cellsL (tcH xs) 11 := by unfold tcB; rw [h]; rfl
  rw [e, nm_tq hp]
  exact pmH_pick (tcH xs) p (by omega)
/-- the moves that steps do are of touched places -/
theorem eff_touched (xs : List St) : ∀ m ∈ effM xs, m.1 ≠ m.2 ∧ pmH (tcB xs) m.1 = true := by
  intro m hm
  rcases Bool.eq_false_or_eq_true (effOk xs) with ho | ho
  · rw [effM_yes ho] at hm
    have hv : svalid xs = true := by unfold effOk at ho; rw [Bool.and_eq_true] at ho; exact ho.1
    obtain ⟨h1, h2⟩ := List.mem_filter.1 hm
    have h2 : m.1 ≠ m.2 := by simpa using h2
    refine ⟨h2, ?_⟩
    obtain ⟨p, hp, rfl⟩ := List.mem_map.1 h1
    have hp9 : p < 9 := by simpa using hp
    show pmH (tcB xs) (nm p) = true
    rw [tcB_pmH hv hp9, ← tcI_full hv p]
    rcases Bool.eq_false_or_eq_true (tcI xs p xs.length) with ht | ht
    · exact ht
    · exfalso
      have := run_stays xs hv nmT (show p < 11 by omega) xs.length (Nat.le_refl _) ht
      apply h2
      show nm p = ⟨#[effG xs p]⟩
      rw [nm_tq hp9]
      show tq p = ⟨#[runS xs xs.length nmT p]⟩
      rw [this]; rfl
  · rw [effM_no ho] at hm; cases hm
/-- done at once they give to places what the steps give -/
theorem eff_once {xs : List St} (ho : effOk xs = true) {s : ByteArray} (hs : stateV s = true) :
    (mvalid (effM xs) && stateV s) = true ∧ (aoB (effM xs) s).extract 0 9 = (ioB xs s).extract 0 9 ∧ irB xs (effM xs) = true ∧ (aoB (effM xs) s).size = 11 ∧ (ioB xs s).size = 11 := by
  have hv : svalid xs = true := by unfold effOk at ho; rw [Bool.and_eq_true] at ho; exact ho.1
  have hmv : MV (effL (effG xs) 9) := by
    unfold effOk at ho; rw [Bool.and_eq_true] at ho
    simpa [mvalid] using ho.2
  have hM : MV (effM xs) := by rw [effM_yes ho]; exact busyM_MV hmv
  have m1 : mvalid (effM xs) = true := by simpa [mvalid] using hM
  have e1 : aoB (effM xs) s = stB (aoS (tabOf (effM xs)) (ofB s)) := by unfold aoB; rw [m1, hs]; rfl
  have e2 : ioB xs s = stB (runS xs xs.length (ofB s)) := by unfold ioB; rw [hv, hs]; rfl
  refine ⟨by rw [m1, hs]; rfl, ?_, ?_, by rw [e1]; rfl, by rw [e2]; rfl⟩
  · have key : ∀ p, p < 9 → aoS (tabOf (effM xs)) (ofB s) p = runS xs xs.length (ofB s) p := fun p hp => by
      have hk : srcM (effM xs) (nm p) = ⟨#[effG xs p]⟩ := by rw [effM_yes ho, srcM_busy _ _ hmv.2, srcM_effL _ p hp]
      unfold aoS
      rw [if_pos hp, srcM_nm hM hp, hk, run_names xs hv (ofB s) xs.length (Nat.le_refl _) p (by omega)]
      rfl
    rw [e1, e2]
    have e3 : ∀ f : Nat → UInt8, (stB f).extract 0 9 = ⟨#[f 0, f 1, f 2, f 3, f 4, f 5, f 6, f 7, f 8]⟩ := fun f => by
      apply ByteArray.ext
      simp [stB, ByteArray.data_extract]
    rw [e3, e3, key 0 (by omega), key 1 (by omega), key 2 (by omega), key 3 (by omega), key 4 (by omega), key 5 (by omega), key 6 (by omega), key 7 (by omega), key 8 (by omega)]
  · unfold irB sameM
    rw [ho, m1, Bool.true_and, Bool.true_and, Bool.true_and, List.all_eq_true]
    intro p _
    unfold sameAt
    exact decide_eq_true rfl
theorem effM_len (xs : List St) : (effM xs).length ≤ 9 := by
  rcases Bool.eq_false_or_eq_true (effOk xs) with h | h
  · rw [effM_yes h]; exact busyE_le _ 9
  · rw [effM_no h]; exact Nat.zero_le _
theorem ioB_out (xs : List St) (s : ByteArray) (h : (svalid xs && stateV s) = false) : ioB xs s = ⟨#[]⟩ := by unfold ioB; rw [h]; rfl
theorem tcB_size (xs : List St) : (tcB xs).size ≤ 11 := by
  unfold tcB okS
  split
  · exact pickB_size _ _ _
  · exact Nat.zero_le _
end Go.PM
namespace Go.PW
open Go.PM Go.RowKit
/-- the first place of a ring -/
def firstR (nx : Nat → Option Nat) (s : Nat) : Bool := onRb nx s && decide (s ∉ (ringsF nx s).flatten)
theorem ringsF_map (nx : Nat → Option Nat) : ∀ k, ringsF nx k = ((List.range k).filter (firstR nx)).map (way nx) := by
  intro k
  induction k with
  | zero => rfl
  | succ k ih =>
    rw [List.range_succ, List.filter_append, List.map_append, ← ih]
    by_cases hc : onRb nx k = true ∧ k ∉ (ringsF nx k).flatten
    · have hf : firstR nx k = true := by unfold firstR; rw [hc.1, decide_eq_true hc.2]; rfl
      rw [ringsF_yes hc.1 hc.2]; simp [hf]
    · have hf : firstR nx k = false := by
        unfold firstR
        rcases Bool.eq_false_or_eq_true (onRb nx k) with h1 | h1
        · rw [h1, decide_eq_false (fun h2 => hc ⟨h1, h2⟩)]; rfl
        · rw [h1]; rfl
      rw [ringsF_no hc]; simp [hf]
theorem closedB_count {xs : List Mv} (h : MV xs) : (closedB xs).length = ((List.range 9).filter fun s => firstR (nxT (tabOf xs)) s && shut1 (tabOf xs) (way (nxT (tabOf xs)) s)).length := by
  unfold closedB closedT
  rw [if_pos (by simpa [mvalid] using h), List.length_map, ringsF_map, List.filter_map, List.length_map, List.filter_filter]
  congr 1
  refine List.filter_congr fun s _ => ?_
  exact Bool.and_comm _ _
theorem rcount_rdN {xs : List Mv} (h : MV xs) {q : Nat} (hq : q < 9) : rdN (busyF xs 9) (nm q) = rcount (tabOf xs) q := by
  have e1 : rcount (tabOf xs) q = ((List.range 9).filter (rdH (tabOf xs) (sn q))).length := by
    unfold rcount namesW
    simp [ByteArray.size, namesL]
  have e2 : rdN (busyF xs 9) (nm q) = ((List.range 9).filter fun p => busyH xs p && (srcM xs (nm p) == nm q)).length := by
    unfold rdN busyF
    rw [List.map_map, List.count_eq_countP, List.countP_map, List.countP_eq_length_filter, List.filter_filter]
    congr 1
    refine List.filter_congr fun p _ => ?_
    exact Bool.and_comm _ _
  rw [e1, e2]
  congr 1
  refine List.filter_congr fun p hp => ?_
  have hp9 := List.mem_range.1 hp
  have e3 : srcT (tabOf xs) p = srcM xs (nm p) := srcT_M h hp9
  unfold busyH rdH
  rw [e3, sn_nm q hq, Bool.eq_iff_iff, Bool.and_eq_true, Bool.and_eq_true, decide_eq_true_eq, beq_iff_eq, decide_eq_true_eq, decide_eq_true_eq]
  constructor
  · rintro ⟨h1, h2⟩; exact ⟨fun e => h1 (by rw [h2, e]), h2⟩
  · rintro ⟨h1, h2⟩; exact ⟨fun e => h1 (by rw [← e, h2]), h2⟩
theorem busy_next {xs : List Mv} (h : MV xs) {p : Nat} (hp : p < 9) {b : ByteArray} (hb : (nm p, b) ∈ busyF xs 9) : ∃ j, nxT (tabOf xs) p = some j ∧ sn j = b ∧ sidx b = j := by
  obtain ⟨h1, h2⟩ := (busyF_mem h _).1 hb
  have hs : srcM xs (nm p) = b := srcM_of_mem h h1
  have e3 : srcT (tabOf xs) p = srcM xs (nm p) := srcT_M h hp
  have hf := SV_tab h
  have hx := sx_lt hf hp
  rw [e3, hs] at hx
  have hne : sx (tabOf xs) p ≠ p := fun e => by
    rw [e, sn_nm p hp] at hx
    exact h2 hx.2
  exact ⟨_, nxT_some hp hne, hx.2, by rw [← hx.2, sidx_sn hx.1]⟩
theorem next_busy {xs : List Mv} (h : MV xs) {p j : Nat} (hn : nxT (tabOf xs) p = some j) : p < 9 ∧ (nm p, sn j) ∈ busyF xs 9 := by
  have hf := SV_tab h
  have hp : p < 9 := (nice hf).low p j hn
  refine ⟨hp, ?_⟩
  unfold nxT at hn
  rw [if_pos hp] at hn
  by_cases e : sx (tabOf xs) p = p
  · rw [if_pos e] at hn; cases hn
  · rw [if_neg e, Option.some.injEq] at hn
    have hx := sx_lt hf hp
    have e3 : srcT (tabOf xs) p = srcM xs (nm p) := srcT_M h hp
    rw [e3, hn] at hx
    have hj : j ≠ p := fun e2 => e (by rw [hn, e2])
    have hne : srcM xs (nm p) ≠ nm p := by
      rw [← hx.2, ← sn_nm p hp]
      exact fun e2 => hj (sn_inj hx.1 (by omega) e2)
    rw [hx.2]
    exact (busyF_mem h _).2 ⟨mem_of_srcM hne, fun e2 => hne e2.symm⟩
theorem clo_bridge {xs : List Mv} (h : MV xs) {p : Nat} (hp : p < 9) :
    Clo (busyF xs 9) p ↔ (firstR (nxT (tabOf xs)) p && shut1 (tabOf xs) (way (nxT (tabOf xs)) p)) = true := by
  have hf := SV_tab h
  have hn := nice hf
  have hr := way_rho hn (show p < 19 by omega)
  rw [Bool.and_eq_true]
  unfold firstR shut1
  rw [Bool.and_eq_true, decide_eq_true_eq, List.all_eq_true]
  constructor
  · rintro ⟨n, o, h0, o0, on, hk⟩
    have hoP : ∀ k, k < n → isP (o k) = true := fun k hkn => by
      have h1 := ((busyF_mem h _).1 (hk k hkn).1).1
      have := h.1 _ h1
      unfold mok at this; rw [Bool.and_eq_true] at this; exact this.1
    have hstep : ∀ k, k < n → ∃ j, j < n ∧ nxT (tabOf xs) (pidx (o k)) = some (pidx (o j)) ∧ o j = o (k + 1) := fun k hkn => by
      obtain ⟨j, hj, e⟩ := ring_wrap h0 (on.trans o0.symm) hkn
      have hs := pidx_spec (hoP k hkn)
      have hb := (hk k hkn).1
      rw [← hs.2] at hb
      obtain ⟨t, ht1, ht2, ht3⟩ := busy_next h hs.1 hb
      refine ⟨j, hj, ?_, e.symm⟩
      rw [ht1, ← ht3, e, sidx_pidx (hoP j hj)]
    have horb : ∀ k, ∃ j, j < n ∧ orb (nxT (tabOf xs)) p k = some (pidx (o j)) := by
      intro k
      induction k with
      | zero => exact ⟨0, h0, by rw [o0, pidx_nm hp]; rfl⟩
      | succ k ih =>
        obtain ⟨j, hj, e⟩ := ih
        obtain ⟨j', hj', e', _⟩ := hstep j hj
        exact ⟨j', hj', by simp only [orb, e, Option.bind_some]; exact e'⟩
    have horb2 : ∀ k, k < n → orb (nxT (tabOf xs)) p k = some (pidx (o k)) := by
      intro k
      induction k with
      | zero => intro _; rw [o0, pidx_nm hp]; rfl
      | succ k ih =>
        intro hk1
        obtain ⟨j', hj', e', e2⟩ := hstep k (by omega)
        simp only [orb, ih (by omega), Option.bind_some]
        rw [e', e2]
    have hon : OnR (nxT (tabOf xs)) p := by
      refine ⟨n, h0, ?_⟩
      obtain ⟨m, rfl⟩ : ∃ m, n = m + 1 := ⟨n - 1, by omega⟩
      obtain ⟨j', hj', e', e2⟩ := hstep m (by omega)
      simp only [orb, horb2 m (by omega), Option.bind_some]
      rw [e', e2, on, pidx_nm hp]
    have hrb := (onRb_iff hn (show p < 19 by omega)).2 hon
    have hway : ∀ i ∈ way (nxT (tabOf xs)) p, ∃ j, j < n ∧ i = pidx (o j) := fun i hi => by
      obtain ⟨k, hk1⟩ := List.getElem?_of_mem hi
      have hkl := (List.getElem?_eq_some_iff.1 hk1).1
      rw [hr.at_ k hkl] at hk1
      obtain ⟨j, hj, e⟩ := horb k
      rw [hk1] at e
      exact ⟨j, hj, Option.some.inj e⟩
    refine ⟨⟨hrb, fun hm => ?_⟩, fun i hi => ?_⟩
    · obtain ⟨l, hl, hpl⟩ := List.mem_flatten.1 hm
      obtain ⟨s, hs, rfl, hr', _⟩ := ringsF_mem2 p l hl
      obtain ⟨k, hk1⟩ := ring_back hn (show s < 19 by omega) hr' hpl
      obtain ⟨j, hj, e⟩ := horb k
      rw [hk1] at e
      have := (hk j hj).2.2
      have := Option.some.inj e
      omega
    · obtain ⟨j, hj, rfl⟩ := hway i hi
      have hs := pidx_spec (hoP j hj)
      rw [decide_eq_true_eq, ← rcount_rdN h hs.1, hs.2]
      exact (hk j hj).2.1
  · rintro ⟨⟨hrb, hfi⟩, hsh⟩
    have hon := (onRb_iff hn (show p < 19 by omega)).1 hrb
    have hend := hr.onR.1 hon
    have hmin := ring_min hn hp hrb hfi
    refine ⟨(way (nxT (tabOf xs)) p).length, fun k => sn ((orb (nxT (tabOf xs)) p k).getD 0), hr.pos, sn_nm p hp, ?_, fun k hk => ?_⟩
    · show sn ((orb (nxT (tabOf xs)) p (way (nxT (tabOf xs)) p).length).getD 0) = nm p
      rw [hend]; exact sn_nm p hp
    · have hk1 := hr.some_ hk
      have hmem : (way (nxT (tabOf xs)) p)[k] ∈ way (nxT (tabOf xs)) p := List.getElem_mem hk
      generalize (way (nxT (tabOf xs)) p)[k] = i at hk1 hmem
      have hi := ring_low hn (ring_all hn (show p < 19 by omega) hon i hmem)
      have hnx : ∃ j, nxT (tabOf xs) i = some j := by
        have := ring_all hn (show p < 19 by omega) hon i hmem
        obtain ⟨k', hk', e⟩ := this
        obtain ⟨k', rfl⟩ : ∃ m, k' = m + 1 := ⟨k' - 1, by omega⟩
        rw [show k' + 1 = 1 + k' by omega, orb_add] at e
        cases h1 : nxT (tabOf xs) i with
        | none => rw [show orb (nxT (tabOf xs)) i 1 = none by simp only [orb, Option.bind_some]; exact h1] at e; cases e
        | some j => exact ⟨j, rfl⟩
      obtain ⟨j, hj⟩ := hnx
      have hk2 : orb (nxT (tabOf xs)) p (k + 1) = some j := by simp only [orb, hk1, Option.bind_some]; exact hj
      refine ⟨?_, ?_, ?_⟩
      · show (sn ((orb (nxT (tabOf xs)) p k).getD 0), sn ((orb (nxT (tabOf xs)) p (k + 1)).getD 0)) ∈ _
        rw [hk1, hk2]
        show (sn i, sn j) ∈ _
        rw [sn_nm i hi]
        exact (next_busy h hj).2
      · show rdN _ (sn ((orb (nxT (tabOf xs)) p k).getD 0)) = 1
        rw [hk1]
        show rdN _ (sn i) = 1
        rw [sn_nm i hi, rcount_rdN h hi]
        have := hsh i hmem
        simpa using this
      · show p ≤ pidx (sn ((orb (nxT (tabOf xs)) p k).getD 0))
        rw [hk1]
        show p ≤ pidx (sn i)
        rw [sn_nm i hi, pidx_nm hi]
        exact hmin i hmem
theorem clo_closed {xs : List Mv} (h : MV xs) : cloN (busyF xs 9) = (closedB xs).length := by
  rw [closedB_count h]
  unfold cloN
  congr 1
  refine List.filter_congr fun p hp => ?_
  rw [Bool.eq_iff_iff, cloB_iff]
  exact clo_bridge h (List.mem_range.1 hp)
theorem wrB_stp (m : Mv) : wrB (stpM m) = m.1 := wrB_move 0 m.1 m.2 (by decide)
theorem wrL_stL (ms : List Mv) : wrL (stL ms) = ms.flatMap fun m => m.1.data.toList := by
  unfold wrL stL
  rw [List.flatMap_map]
  congr 1
theorem sp_byte {a : ByteArray} (h : isP a = true ∨ a = spT) : (116 ∈ a.data.toList ↔ a = spT) ∧ 117 ∉ a.data.toList := by
  rcases h with h | rfl
  · obtain ⟨p, hp, rfl⟩ := nm_of_isP h
    match p, hp with
    | 0, _ | 1, _ | 2, _ | 3, _ | 4, _ | 5, _ | 6, _ | 7, _ | 8, _ => decide +kernel
  · decide +kernel
theorem tcH_stL {ms : List Mv} (hm : ∀ m ∈ ms, isP m.1 = true ∨ m.1 = spT) : tcH (stL ms) 9 = ms.any (fun m => decide (m.1 = spT)) ∧ tcH (stL ms) 10 = false := by
  unfold tcH inTx
  rw [wrL_stL]
  constructor
  · rw [Bool.eq_iff_iff, decide_eq_true_eq, List.any_eq_true, List.mem_flatMap]
    constructor
    · rintro ⟨m, h1, h2⟩; exact ⟨m, h1, decide_eq_true ((sp_byte (hm m h1)).1.1 h2)⟩
    · rintro ⟨m, h1, h2⟩; exact ⟨m, h1, (sp_byte (hm m h1)).1.2 (of_decide_eq_true h2)⟩
  · rw [decide_eq_false_iff_not, List.mem_flatMap]
    rintro ⟨m, h1, h2⟩
    exact (sp_byte (hm m h1)).2 h2
/-- what FnOrderMoves asks of the answers -/
theorem ord_facts {xs : List Mv} (h : MV xs) : ((ordM xs).length : Int) = cioI xs ∧ cioI xs = ((busyF xs 9).length : Int) + ((closedB xs).length : Int) ∧
    pmH (tcB (stL (ordM xs))) ⟨#[116]⟩ = needB xs ∧ pmH (tcB (stL (ordM xs))) ⟨#[117]⟩ = false := by
  have hm : mvalid xs = true := by simpa [mvalid] using h
  have hw := ordF_count 19 (busyF xs 9) (busyF_Wt h) (busyF_Srt xs) busy_mu
  have hv := ordM_valid h
  have ho := ordF_ok 19 (busyF xs 9) (busyF_Wt h)
  have ht := tcH_stL (ms := ordF 19 (busyF xs 9)) fun m hm => (ho m hm).1
  have e : tcB (stL (ordM xs)) = pickB cellsL (tcH (stL (ordM xs))) 11 := by unfold tcB; rw [hv]; rfl
  refine ⟨?_, ?_, ?_, ?_⟩
  · rw [ordM_yes h, hw.1, clo_closed h]
    unfold cioI; rw [if_pos hm]; omega
  · unfold cioI; rw [if_pos hm]
  · rw [e, ordM_yes h]
    have := pmH_pick (tcH (stL (ordF 19 (busyF xs 9)))) 9 (by omega)
    rw [ht.1, hw.2, clo_closed h] at this
    exact this
  · rw [e, ordM_yes h]
    have := pmH_pick (tcH (stL (ordF 19 (busyF xs 9)))) 10 (by omega)
    rw [ht.2] at this
    exact this
end Go.PW
namespace Go.PM
open Go.RowKit
/-- the table with the sources of the first k places in it -/
def mix (f : Nat → ByteArray) (k : Nat) : Nat → ByteArray := fun q => if q < k then srcT f q else f q
theorem mix_zero (f : Nat → ByteArray) : mix f 0 = f := by funext q; simp [mix]
theorem mix_at (f : Nat → ByteArray) (k : Nat) : srcT (mix f k) k = srcT f k := by simp [srcT, mix]
theorem mix_set (f : Nat → ByteArray) (k : Nat) (hk : k < 9) : (tabA (mix f k)).setIfInBounds k (.string (srcT f k)) = tabA (mix f (k + 1)) := by
  have h := tabC_set (mix f k) k hk (srcT f k)
  have e : (fun q => if q = k then srcT f k else mix f k q) = mix f (k + 1) := by
    funext q
    by_cases hq : q = k
    · subst hq; simp [mix]
    · by_cases h2 : q < k
      · simp [mix, hq, h2, Nat.lt_succ_of_lt h2]
      · have : ¬ q < k + 1 := by omega
        simp [mix, hq, h2, this]
  rw [e] at h
  exact h
end Go.PM
namespace Go.Proofs.YtdhhmphnmllbhaaGreat
open Go.RowKit Go.PM
attribute [local go_sem] Oper.semAt_some

end Go.Proofs.YtdhhmphnmllbhaaGreat
namespace Go.Proofs.YtdhhmphnmllbhaaGreat
open Go.RowKit Go.PM
set_option maxRecDepth 100000 in
set_option maxHeartbeats 2000000 in
theorem eq_str (d : Nat) (a b : ByteArray) (W : World) : (Op.equalIn (d + 1) 9 (.string a) (.string b)).run Tryz.prog W = .ok (a == b) W := by
  simp [Op.equalIn, go_sem]
theorem eq_items (f g : Nat → ByteArray) (W : World) : ∀ is : List Nat, (∀ i ∈ is, i < 9) → (Op.eqItems 9999 9 1 (tabA f) (tabA g) is).run Tryz.prog W = .ok (is.all fun p => f p == g p) W := by
  intro is
  induction is with
  | nil => intro _; rfl
  | cons i is ih =>
    intro h
    have hi := h i (List.mem_cons_self ..)
    have h1 : (part 9 (tabA f) (i * 1)).run Tryz.prog W = .ok (.string (f i)) W := run_part_plain (P := Tryz.prog) W (by kernel_rfl) (by rw [Nat.mul_one]; exact tabC_at f i hi)
    have h2 : (part 9 (tabA g) (i * 1)).run Tryz.prog W = .ok (.string (g i)) W := run_part_plain (P := Tryz.prog) W (by kernel_rfl) (by rw [Nat.mul_one]; exact tabC_at g i hi)
    have h3 := eq_str 9998 (f i) (g i) W
    rw [Op.eqItems, Sem.run_bind, h1, Result.andThen_ok, Sem.run_bind, h2, Result.andThen_ok, Sem.run_bind, h3, Result.andThen_ok, List.all_cons]
    cases hb : (f i == g i)
    · rfl
    · rw [if_neg (by decide), ih (fun j hj => h j (List.mem_cons_of_mem _ hj)), Bool.true_and]
theorem eq_tab (f g : Nat → ByteArray) (W : World) : (Op.equal 59 (tabX f) (tabX g)).run Tryz.prog W = .ok ((List.range 9).all fun p => f p == g p) W := by
  have his : (Tryz.prog.info? 9).isSome = true := by kernel_rfl
  obtain ⟨i, hi⟩ := Option.isSome_iff_exists.1 his
  have hc : Tryz.prog.cellsOf 9 = 1 := by kernel_rfl
  have h := run_equalIn_array (P := Tryz.prog) (w := W) 9999 (t := 59) (e := 9) (n := 9) (tabA f) (tabA g) Tryz.underlying59 hi
  rw [hc] at h
  exact h.trans (eq_items f g W _ (fun i hi => by simpa using hi))
theorem beq_ba (a b : ByteArray) : (a == b) = decide (a = b) := by
  cases a with | mk a =>
  cases b with | mk b =>
  have h : ((ByteArray.mk a) == (ByteArray.mk b)) = (a == b) := rfl
  rw [h]
  by_cases e : a = b
  · subst e; simp
  · have : ¬ (ByteArray.mk a) = (ByteArray.mk b) := fun x => e (congrArg ByteArray.data x)
    simp [e]
theorem all_beq (f g : Nat → ByteArray) (l : List Nat) : (l.all fun p => f p == g p) = l.all fun p => decide (f p = g p) := by
  have : (fun p => f p == g p) = fun p => decide (f p = g p) := by funext p; exact beq_ba _ _
  rw [this]
end Go.Proofs.YtdhhmphnmllbhaaGreat
namespace Go.Proofs.YtdhhmphnmllbhaaGreat
open Go.RowKit Go.PM

set_option maxRecDepth 100000 in
set_option maxHeartbeats 1000000 in
/-- two moves as values are compared text by text -/
theorem eq_mv (a b c d : ByteArray) (W : World) : (Op.equalIn 10000 47 (.agg #[.string a, .string b]) (.agg #[.string c, .string d])).run Tryz.prog W = .ok (mvEq a b c d) W := by
  have hs : Tryz.prog.stoodInHeld 47 = false := by kernel_rfl
  have e1 : (a == c) = decide (a = c) := beq_ba _ _
  have e2 : (b == d) = decide (b = d) := beq_ba _ _
  have q1 := eq_str 9998 a c
  have q2 := eq_str 9998 b d
  rw [Op.equalIn]
  generalize hE : Op.equalIn 9999 = E at *
  simp only [mvEq]
  rw [e1] at q1
  rw [e2] at q2
  clear e1 e2 hE
  by_cases h1 : a = c
  · by_cases h2 : b = d
    · subst h1; subst h2
      simp at q1 q2
      simp [go_sem, hs, q1, q2]
    · subst h1
      simp [h2] at q1 q2
      simp [go_sem, hs, q1, q2, h2]
  · simp [h1] at q1
    simp [go_sem, hs, q1, h1]

end Go.Proofs.YtdhhmphnmllbhaaGreat
namespace Go.PM
def stEq (a b : St) : Bool := decide (a = b)
theorem stEq_no {a b : St} (h : (!stEq a b) = true) : a ≠ b := by simpa [stEq] using h
theorem stEq_yes {a b : St} (h : (!stEq a b) = false) : a = b := by simpa [stEq] using h
end Go.PM
namespace Go.Proofs.YtdhhmphnmllbhaaGreat
open Go.RowKit Go.PM

set_option maxRecDepth 100000 in
set_option maxHeartbeats 1000000 in
theorem eq_mvD (d : Nat) (a b c e : ByteArray) (W : World) : (Op.equalIn (d + 2) 47 (.agg #[.string a, .string b]) (.agg #[.string c, .string e])).run Tryz.prog W = .ok (mvEq a b c e) W := by
  have hs : Tryz.prog.stoodInHeld 47 = false := by kernel_rfl
  have e1 : (a == c) = decide (a = c) := beq_ba _ _
  have e2 : (b == e) = decide (b = e) := beq_ba _ _
  have q1 := eq_str d a c
  have q2 := eq_str d b e
  rw [Op.equalIn]
  generalize hE : Op.equalIn (d + 1) = E at *
  simp only [mvEq]
  rw [e1] at q1
  rw [e2] at q2
  clear e1 e2 hE
  by_cases h1 : a = c
  · by_cases h2 : b = e
    · subst h1; subst h2
      simp at q1 q2
      simp [go_sem, hs, q1, q2]
    · subst h1
      simp [h2] at q1 q2
      simp [go_sem, hs, q1, q2, h2]
  · simp [h1] at q1
    simp [go_sem, hs, q1, h1]
theorem eq_i64 (d : Nat) (a b : Int) (W : World) : (Op.equalIn (d + 1) 3 (.int .i64 a) (.int .i64 b)).run Tryz.prog W = .ok (decide (a = b)) W := by
  have : (a == b) = decide (a = b) := by rw [Bool.eq_iff_iff, beq_iff_eq, decide_eq_true_eq]
  simp [Op.equalIn, go_sem, this]
set_option maxRecDepth 100000 in
set_option maxHeartbeats 1000000 in
/-- two steps as values are compared kind by kind and text by text -/
theorem eq_stp (x y : St) (W : World) : (Op.equalIn 10000 49 (.agg #[.int .i64 x.1, .string x.2.1, .string x.2.2]) (.agg #[.int .i64 y.1, .string y.2.1, .string y.2.2])).run Tryz.prog W = .ok (stEq x y) W := by
  obtain ⟨k, a, b⟩ := x
  obtain ⟨l, c, e⟩ := y
  have hs : Tryz.prog.stoodInHeld 49 = false := by kernel_rfl
  have q0 := eq_i64 9998 k l
  have q1 := eq_mvD 9997 a b c e
  rw [Op.equalIn]
  generalize hE : Op.equalIn 9999 = E at *
  clear hE
  by_cases h1 : k = l
  · by_cases h2 : a = c ∧ b = e
    · obtain ⟨h2, h3⟩ := h2
      subst h1; subst h2; subst h3
      simp [mvEq] at q0 q1
      simp [go_sem, hs, q0, q1, stEq]
    · subst h1
      have h3 : mvEq a b c e = false := by unfold mvEq; exact decide_eq_false h2
      have h4 : stEq (k, a, b) (k, c, e) = false := by
        unfold stEq
        rw [decide_eq_false_iff_not]
        intro e; cases e; exact h2 ⟨rfl, rfl⟩
      rw [h3] at q1
      simp at q0
      simp [go_sem, hs, q0, q1, h4]
  · have h4 : stEq (k, a, b) (l, c, e) = false := by
      unfold stEq
      rw [decide_eq_false_iff_not]
      intro e; cases e; exact h1 rfl
    simp [h1] at q0
    simp [go_sem, hs, q0, h4]

set_option maxRecDepth 100000 in
set_option maxHeartbeats 1600000 in
theorem pmSteps_c (xs ys : List St) (v u : Value) (w : World) (hx : RdS w v xs) (hy : RdS w u ys) :
    Calls Tryz.prog 9 #[v, u] w fun e w' => e = .returned (.bool (decide (xs = ys))) ∧ Below w.heap.size w w' := by
  obtain ⟨A, cap, rfl, hn, hc, hcell⟩ := hx.open
  obtain ⟨A', cap', rfl, hn', hc', hcell'⟩ := hy.open
  clear hx hy
  rcases Nat.lt_or_ge ys.length xs.length with hle | hle
  · have hm : min (xs.length : Int) (ys.length : Int) = ys.length := by omega
    have HLE := Lib.hid hle
    clear hle
    go_enter Tryz.func9, Tryz.ntmps9
    go_wp2
    go_loopw [11] (fun i wr => ∃ (k : Nat), k ≤ ys.length ∧ i = .int .i64 k ∧ Hid (xs.take k = ys.take k) ∧ Below w.heap.size w wr) (fun i _ => ys.length - (intOf i).toNat)
    case atStart => exact ⟨0, by omega, rfl, by show _ = _; simp, Below.refl _ _⟩
    case round =>
      obtain ⟨k, hk, rfl, ht, hb⟩ := hrel
      by_cases hlt : k < ys.length
      · have hlt1 : k < xs.length := by have := HLE.out; omega
        have hlt2 : k < ys.length := by have := HLE.out; omega
        obtain ⟨b, off, rfl, hbl, hc0, hc1, hc2⟩ := hcell k hlt1
        obtain ⟨b', off', rfl, hbl', hc0', hc1', hc2'⟩ := hcell' k hlt2
        have hd0 := (hb.cell (p := ⟨b, off + k * 3, none⟩) hbl).trans hc0
        have hd1 := (hb.cell (p := ⟨b, off + k * 3 + 1, none⟩) hbl).trans hc1
        have hd2 := (hb.cell (p := ⟨b, off + k * 3 + 2, none⟩) hbl).trans hc2
        have hd5 := (hb.cell (p := ⟨b', off' + k * 3, none⟩) hbl').trans hc0'
        have hd3 := (hb.cell (p := ⟨b', off' + k * 3 + 1, none⟩) hbl').trans hc1'
        have hd4 := (hb.cell (p := ⟨b', off' + k * 3 + 2, none⟩) hbl').trans hc2'
        clear hc0 hc1 hc2 hcell hc0' hc1' hc2' hcell'
        have i1 : (k : Int) < (ys.length : Int) := by omega
        go_wp2
        have hx0 : ∀ x : Ext w.heap.size wr, x.val.cell? ⟨b, off + k * 3, none⟩ = some (.int .i64 xs[k].1) := fun x => (x.property.cell (p := ⟨b, _, none⟩) hbl).trans hd0
        have hx1 : ∀ x : Ext w.heap.size wr, x.val.cell? ⟨b, off + k * 3 + 1, none⟩ = some (.string xs[k].2.1) := fun x => (x.property.cell (p := ⟨b, _, none⟩) hbl).trans hd1
        have hx2 : ∀ x : Ext w.heap.size wr, x.val.cell? ⟨b, off + k * 3 + 2, none⟩ = some (.string xs[k].2.2) := fun x => (x.property.cell (p := ⟨b, _, none⟩) hbl).trans hd2
        have hx5 : ∀ x : Ext w.heap.size wr, x.val.cell? ⟨b', off' + k * 3, none⟩ = some (.int .i64 ys[k].1) := fun x => (x.property.cell (p := ⟨b', _, none⟩) hbl').trans hd5
        have hx3 : ∀ x : Ext w.heap.size wr, x.val.cell? ⟨b', off' + k * 3 + 1, none⟩ = some (.string ys[k].2.1) := fun x => (x.property.cell (p := ⟨b', _, none⟩) hbl').trans hd3
        have hx4 : ∀ x : Ext w.heap.size wr, x.val.cell? ⟨b', off' + k * 3 + 2, none⟩ = some (.string ys[k].2.2) := fun x => (x.property.cell (p := ⟨b', _, none⟩) hbl').trans hd4
        clear hd0 hd1 hd2 hd3 hd4 hd5
        have i0 : (0 : Int) ≤ (k : Int) := by omega
        have i2 : (k : Int) < xs.length := by omega
        have i3 : (k : Int) < ys.length := by omega
        have hE := fun W => eq_stp xs[k] ys[k] W
        refine wp_region_ext w.heap.size (by kernel_rfl) (by kernel_rfl) ?_
        repeat (go_big_quiet_step (fail))
        refine wpQuiet_nil ?_
        intro w2 hw'
        obtain ⟨xw, hxw⟩ := hw'
        have hb2 := xw.property
        rw [← hxw] at hb2
        clear hxw xw
        clear hx0 hx1 hx2 hx3 hx4 hx5 hE
        go_wp2
        · have h : (!stEq xs[k] ys[k]) = true := by assumption
          go_ret
          refine ⟨?_, hb.trans hb2⟩
          have : ¬ xs = ys := by
            intro e; subst e; exact stEq_no h rfl
          simp [this]
        · have h : (!stEq xs[k] ys[k]) = false := by assumption
          go_roundw
          case rel =>
            refine ⟨k + 1, by omega, by go_num, ?_, hb.trans hb2⟩
            show _ = _
            rw [take_snoc xs k hlt1, take_snoc ys k hlt2, ht.out, stEq_yes h]
          case measure => simp [intOf]; omega
      · have hk' : k = ys.length := by omega
        have h2 := ht.out
        have h3 := HLE.out
        rw [hk'] at h2
        have HD : Hid (((xs.length : Int) == (ys.length : Int)) = decide (xs = ys)) := by
          show _ = _
          by_cases he : xs.length = ys.length
          · rw [List.take_of_length_le (by omega), List.take_of_length_le (by omega)] at h2
            rw [h2]; simp
          · have h4 : ¬ xs = ys := fun e => he (by rw [e])
            have h5 : ¬ ((xs.length : Int) = (ys.length : Int)) := by omega
            rw [decide_eq_false h4]
            simpa using h5
        clear h2 h3 ht
        go_wp2
        go_ret
        exact ⟨by rw [← HD.out]; rfl, hb⟩
  · have hm : min (xs.length : Int) (ys.length : Int) = xs.length := by omega
    have HLE := Lib.hid hle
    clear hle
    go_enter Tryz.func9, Tryz.ntmps9
    go_wp2
    go_loopw [11] (fun i wr => ∃ (k : Nat), k ≤ xs.length ∧ i = .int .i64 k ∧ Hid (xs.take k = ys.take k) ∧ Below w.heap.size w wr) (fun i _ => xs.length - (intOf i).toNat)
    case atStart => exact ⟨0, by omega, rfl, by show _ = _; simp, Below.refl _ _⟩
    case round =>
      obtain ⟨k, hk, rfl, ht, hb⟩ := hrel
      by_cases hlt : k < xs.length
      · have hlt1 : k < xs.length := by have := HLE.out; omega
        have hlt2 : k < ys.length := by have := HLE.out; omega
        obtain ⟨b, off, rfl, hbl, hc0, hc1, hc2⟩ := hcell k hlt1
        obtain ⟨b', off', rfl, hbl', hc0', hc1', hc2'⟩ := hcell' k hlt2
        have hd0 := (hb.cell (p := ⟨b, off + k * 3, none⟩) hbl).trans hc0
        have hd1 := (hb.cell (p := ⟨b, off + k * 3 + 1, none⟩) hbl).trans hc1
        have hd2 := (hb.cell (p := ⟨b, off + k * 3 + 2, none⟩) hbl).trans hc2
        have hd5 := (hb.cell (p := ⟨b', off' + k * 3, none⟩) hbl').trans hc0'
        have hd3 := (hb.cell (p := ⟨b', off' + k * 3 + 1, none⟩) hbl').trans hc1'
        have hd4 := (hb.cell (p := ⟨b', off' + k * 3 + 2, none⟩) hbl').trans hc2'
        clear hc0 hc1 hc2 hcell hc0' hc1' hc2' hcell'
        have i1 : (k : Int) < (xs.length : Int) := by omega
        go_wp2
        have hx0 : ∀ x : Ext w.heap.size wr, x.val.cell? ⟨b, off + k * 3, none⟩ = some (.int .i64 xs[k].1) := fun x => (x.property.cell (p := ⟨b, _, none⟩) hbl).trans hd0
        have hx1 : ∀ x : Ext w.heap.size wr, x.val.cell? ⟨b, off + k * 3 + 1, none⟩ = some (.string xs[k].2.1) := fun x => (x.property.cell (p := ⟨b, _, none⟩) hbl).trans hd1
        have hx2 : ∀ x : Ext w.heap.size wr, x.val.cell? ⟨b, off + k * 3 + 2, none⟩ = some (.string xs[k].2.2) := fun x => (x.property.cell (p := ⟨b, _, none⟩) hbl).trans hd2
        have hx5 : ∀ x : Ext w.heap.size wr, x.val.cell? ⟨b', off' + k * 3, none⟩ = some (.int .i64 ys[k].1) := fun x => (x.property.cell (p := ⟨b', _, none⟩) hbl').trans hd5
        have hx3 : ∀ x : Ext w.heap.size wr, x.val.cell? ⟨b', off' + k * 3 + 1, none⟩ = some (.string ys[k].2.1) := fun x => (x.property.cell (p := ⟨b', _, none⟩) hbl').trans hd3
        have hx4 : ∀ x : Ext w.heap.size wr, x.val.cell? ⟨b', off' + k * 3 + 2, none⟩ = some (.string ys[k].2.2) := fun x => (x.property.cell (p := ⟨b', _, none⟩) hbl').trans hd4
        clear hd0 hd1 hd2 hd3 hd4 hd5
        have i0 : (0 : Int) ≤ (k : Int) := by omega
        have i2 : (k : Int) < xs.length := by omega
        have i3 : (k : Int) < ys.length := by omega
        have hE := fun W => eq_stp xs[k] ys[k] W
        refine wp_region_ext w.heap.size (by kernel_rfl) (by kernel_rfl) ?_
        repeat (go_big_quiet_step (fail))
        refine wpQuiet_nil ?_
        intro w2 hw'
        obtain ⟨xw, hxw⟩ := hw'
        have hb2 := xw.property
        rw [← hxw] at hb2
        clear hxw xw
        clear hx0 hx1 hx2 hx3 hx4 hx5 hE
        go_wp2
        · have h : (!stEq xs[k] ys[k]) = true := by assumption
          go_ret
          refine ⟨?_, hb.trans hb2⟩
          have : ¬ xs = ys := by
            intro e; subst e; exact stEq_no h rfl
          simp [this]
        · have h : (!stEq xs[k] ys[k]) = false := by assumption
          go_roundw
          case rel =>
            refine ⟨k + 1, by omega, by go_num, ?_, hb.trans hb2⟩
            show _ = _
            rw [take_snoc xs k hlt1, take_snoc ys k hlt2, ht.out, stEq_yes h]
          case measure => simp [intOf]; omega
      · have hk' : k = xs.length := by omega
        have h2 := ht.out
        have h3 := HLE.out
        rw [hk'] at h2
        have HD : Hid (((xs.length : Int) == (ys.length : Int)) = decide (xs = ys)) := by
          show _ = _
          by_cases he : xs.length = ys.length
          · rw [List.take_of_length_le (by omega), List.take_of_length_le (by omega)] at h2
            rw [h2]; simp
          · have h4 : ¬ xs = ys := fun e => he (by rw [e])
            have h5 : ¬ ((xs.length : Int) = (ys.length : Int)) := by omega
            rw [decide_eq_false h4]
            simpa using h5
        clear h2 h3 ht
        go_wp2
        go_ret
        exact ⟨by rw [← HD.out]; rfl, hb⟩
end Go.Proofs.YtdhhmphnmllbhaaGreat
namespace Go.PM
open Go.RowKit
def leafH (f : Nat → ByteArray) (p : Nat) : Bool := decide (srcT f p ≠ nm p) && decide (namesW (rdH f (nm p)) = emp)
def leafM (xs : List Mv) (m : Mv) : Bool := decide (namesW (rsH xs m.1) = emp)
def lvB (xs : List Mv) (ms : List Mv) : ByteArray := ⟨((ms.filter (leafM xs)).flatMap fun m => m.1.data.toList).toArray⟩
theorem lvB_yes (xs ms : List Mv) (m : Mv) (h : leafM xs m = true) : lvB xs (ms ++ [m]) = lvB xs ms ++ m.1 := by
  apply ByteArray.ext
  rw [ByteArray.data_append]
  simp [lvB, h]
theorem lvB_no (xs ms : List Mv) (m : Mv) (h : leafM xs m = false) : lvB xs (ms ++ [m]) = lvB xs ms := by
  simp [lvB, h]
def leavesB (xs : List Mv) : ByteArray := namesW (leafH (tabOf xs))
theorem lvB_all {xs : List Mv} (h : MV xs) : lvB xs (busyF xs 9) = leavesB xs := by
  unfold lvB leavesB namesW namesL busyF
  rw [List.filter_map, List.flatMap_map, List.filter_filter]
  have e1 : ((List.range 9).filter fun p => (leafM xs ∘ fun p => (nm p, srcM xs (nm p))) p && busyH xs p) = (List.range 9).filter (leafH (tabOf xs)) := by
    refine List.filter_congr fun p hp => ?_
    have hp9 : p < 9 := by simpa using hp
    show (leafM xs (nm p, srcM xs (nm p)) && busyH xs p) = leafH (tabOf xs) p
    unfold leafM leafH busyH
    rw [rsH_rdH h, srcM_nm h hp9, Bool.and_comm]
  rw [e1]
  have e2 : ∀ l : List Nat, (l.flatMap fun a => (nm a, srcM xs (nm a)).1.data.toList) = l.map (placesL.getD · 0) := by
    intro l
    induction l with
    | nil => rfl
    | cons a l ih => rw [List.flatMap_cons, ih]; rfl
  rw [e2]
theorem emp_iff (s : ByteArray) : s.toList.isEmpty = decide (s = emp) := by
  rw [ByteArray.toList_eq]
  by_cases h : s = emp
  · subst h; simp
  · cases hl : s.data.toList with
    | nil => exact absurd (Go.WideShapes.bytes_inj (by rw [hl])) h
    | cons a l => simp [h]
theorem busyF_one (xs : List Mv) (k : Nat) (hk : k < (busyF xs 9).length) : (busyF xs 9)[k].1.size = 1 := by
  have := List.getElem_mem hk
  unfold busyF at this
  obtain ⟨p, _, e⟩ := List.mem_map.1 this
  have : (busyF xs 9)[k].1 = nm p := by
    have : (busyF xs 9)[k] = (nm p, srcM xs (nm p)) := e.symm
    rw [this]
  rw [this]; rfl
end Go.PM
namespace Go.Proofs.YtdhhmphnmllbhaaGreat
open Go.RowKit Go.PM

end Go.Proofs.YtdhhmphnmllbhaaGreat
namespace Go.PM
open Go.RowKit
theorem namesW_emp {h : Nat → Bool} : namesW h = emp ↔ ∀ p, p < 9 → h p = false := by
  have e : namesW h = emp ↔ (List.range 9).filter h = [] := by
    constructor
    · intro e
      have := congrArg (fun s => s.data.toList.length) e
      simp only [namesW, namesL, List.length_map] at this
      exact List.length_eq_zero_iff.1 this
    · intro e
      rw [namesW, namesL, e]; rfl
  rw [e, List.filter_eq_nil_iff]
  constructor
  · intro g p hp; simpa using g p (by simpa using hp)
  · intro g p hp; simpa using g p (by simpa using hp)
theorem namesW_one {p0 : Nat} (h0 : p0 < 9) : namesW (fun p => decide (p = p0)) = nm p0 := by
  match p0, h0 with
  | 0, _ | 1, _ | 2, _ | 3, _ | 4, _ | 5, _ | 6, _ | 7, _ | 8, _ => decide +kernel
/-- each place is the source of one -/
def Exch (S : Nat → ByteArray) : Prop := ∀ q, q < 9 → ∃ p, p < 9 ∧ S p = nm q
theorem leaf_exch (f : Nat → ByteArray) : namesW (leafH f) = emp ↔ Exch (srcT f) := by
  rw [namesW_emp]
  constructor
  · intro h q hq
    have h1 := h q hq
    unfold leafH at h1
    by_cases h2 : srcT f q = nm q
    · exact ⟨q, hq, h2⟩
    · have h3 : ¬ namesW (rdH f (nm q)) = emp := by simpa [h2] using h1
      rw [namesW_emp] at h3
      obtain ⟨p, h4⟩ := Classical.not_forall.1 h3
      obtain ⟨hp, h5⟩ := Classical.not_imp.1 h4
      have h6 : rdH f (nm q) p = true := by simpa using h5
      unfold rdH at h6
      rw [Bool.and_eq_true] at h6
      exact ⟨p, hp, by simpa using h6.2⟩
  · intro h q hq
    obtain ⟨p, hp, e⟩ := h q hq
    unfold leafH
    by_cases h2 : srcT f q = nm q
    · simp [h2]
    · have hne : nm p ≠ nm q := fun e2 => by
        have := nm_inj hp hq e2
        subst this; exact h2 e
      have : namesW (rdH f (nm q)) ≠ emp := fun h3 => by
        have := namesW_emp.1 h3 p hp
        unfold rdH at this
        simp [hne, e] at this
      simp [this]
theorem Exch.congr {S T : Nat → ByteArray} (h : ∀ p, p < 9 → S p = T p) (e : Exch S) : Exch T := fun q hq => by
  obtain ⟨p, hp, e1⟩ := e q hq
  exact ⟨p, hp, (h p hp).symm.trans e1⟩
theorem exch_drop {S : Nat → ByteArray} {p' : Nat} (hp' : p' < 9) (h : ∀ q, q < 9 → ∃ p, p < 9 ∧ p ≠ p' ∧ S p = nm q) : False := by
  have n1 : ((List.range 9).map nm).Nodup := by decide +kernel
  have h1 := nodup_le ((List.range 9).map nm) (((List.range 9).erase p').map S) n1 (fun a ha => by
    obtain ⟨q, hq, rfl⟩ := List.mem_map.1 ha
    obtain ⟨p, hp, hne, e⟩ := h q (by simpa using hq)
    exact List.mem_map.2 ⟨p, (List.mem_erase_of_ne hne).2 (by simpa using hp), e⟩)
  have h2 := List.length_erase_of_mem (show p' ∈ List.range 9 by simpa using hp')
  simp only [List.length_map, List.length_range] at h1 h2
  omega
theorem Exch.inj {S : Nat → ByteArray} (h : Exch S) {p p' : Nat} (hp : p < 9) (hp' : p' < 9) (e : S p = S p') : p = p' := by
  rcases Nat.decEq p p' with hne | he
  · exfalso
    refine exch_drop (S := S) hp' fun q hq => ?_
    obtain ⟨r, hr, e1⟩ := h q hq
    by_cases h1 : r = p'
    · subst h1; exact ⟨p, hp, hne, e.trans e1⟩
    · exact ⟨r, hr, h1, e1⟩
  · exact he
theorem Exch.place {S : Nat → ByteArray} (h : Exch S) {p : Nat} (hp : p < 9) : isP (S p) = true := by
  rcases Bool.eq_false_or_eq_true (isP (S p)) with h1 | h1
  · exact h1
  · exfalso
    refine exch_drop (S := S) hp fun q hq => ?_
    obtain ⟨r, hr, e1⟩ := h q hq
    refine ⟨r, hr, fun e => ?_, e1⟩
    subst e
    rw [e1, isP_nm hq] at h1
    cases h1
/-- the place that has q as its source -/
def invI (S : Nat → ByteArray) (q : Nat) : Nat := ((List.range 9).find? fun p => decide (S p = nm q)).getD 0
def invF (S : Nat → ByteArray) (q : Nat) : ByteArray := nm (invI S q)
theorem Exch.inv {S : Nat → ByteArray} (h : Exch S) {q : Nat} (hq : q < 9) : invI S q < 9 ∧ S (invI S q) = nm q := by
  obtain ⟨p, hp, e⟩ := h q hq
  unfold invI
  cases hf : (List.range 9).find? (fun p => decide (S p = nm q)) with
  | none => exact absurd (List.find?_eq_none.1 hf p (by simpa using hp)) (by simp [e])
  | some r =>
    have h1 := List.find?_some hf
    have h2 := List.mem_of_find?_eq_some hf
    exact ⟨by simpa using h2, by simpa using h1⟩
theorem Exch.inv_iff {S : Nat → ByteArray} (h : Exch S) {q p : Nat} (hq : q < 9) (hp : p < 9) : S p = nm q ↔ p = invI S q := by
  have h1 := h.inv hq
  exact ⟨fun e => h.inj hp h1.1 (e.trans h1.2.symm), fun e => by rw [e]; exact h1.2⟩
theorem invI_congr {S T : Nat → ByteArray} (h : ∀ p, p < 9 → S p = T p) (q : Nat) : invI S q = invI T q := by
  have key : ∀ l : List Nat, (∀ p ∈ l, p < 9) → l.find? (fun p => decide (S p = nm q)) = l.find? (fun p => decide (T p = nm q)) := by
    intro l
    induction l with
    | nil => intro _; rfl
    | cons a l ih =>
      intro hl
      rw [List.find?_cons, List.find?_cons, h a (hl a (by simp)), ih (fun p hp => hl p (by simp [hp]))]
  unfold invI
  rw [key _ (fun p hp => by simpa using hp)]

/-- impl's table of what gives all back, of the first k places -/
def bkF (f : Nat → ByteArray) : Nat → Nat → ByteArray
  | 0 => fun _ => emp
  | k + 1 => upd (bkF f k) (pidx (srcT f k)) (nm k)
theorem bkF_at {f : Nat → ByteArray} (h : Exch (srcT f)) : ∀ k, k ≤ 9 → ∀ p, p < k → bkF f k (pidx (srcT f p)) = nm p := by
  intro k
  induction k with
  | zero => intro _ p hp; omega
  | succ k ih =>
    intro hk p hp
    show upd (bkF f k) (pidx (srcT f k)) (nm k) (pidx (srcT f p)) = nm p
    unfold upd
    by_cases e : pidx (srcT f p) = pidx (srcT f k)
    · rw [if_pos e]
      have h1 := pidx_spec (h.place (p := p) (by omega))
      have h2 := pidx_spec (h.place (p := k) (by omega))
      have : srcT f p = srcT f k := by rw [← h1.2, ← h2.2, e]
      rw [h.inj (by omega) (by omega) this]
    · rw [if_neg e]
      rcases Nat.lt_or_ge p k with h1 | h1
      · exact ih (by omega) p h1
      · have : p = k := by omega
        subst this; exact absurd rfl e
theorem bkF_inv {f : Nat → ByteArray} (h : Exch (srcT f)) {q : Nat} (hq : q < 9) : srcT (bkF f 9) q = invF (srcT f) q := by
  have h1 := h.inv hq
  have h2 := bkF_at h 9 (Nat.le_refl _) _ h1.1
  rw [h1.2, pidx_nm hq] at h2
  show (if bkF f 9 q = emp then nm q else bkF f 9 q) = _
  rw [h2, if_neg (nm_ne _)]; rfl
/-- spec's list of readers, of the first k places -/
def unH (xs : List Mv) (q : Nat) : Bool := decide (namesW (rsH xs (nm q)) ≠ emp)
def unL (xs : List Mv) (k : Nat) : List Mv := ((List.range k).filter (unH xs)).map fun q => (nm q, namesW (rsH xs (nm q)))
theorem unL_yes (xs : List Mv) (k : Nat) (h : unH xs k = true) : unL xs (k + 1) = unL xs k ++ [(nm k, namesW (rsH xs (nm k)))] := by
  simp [unL, List.range_succ, h]
theorem unL_no (xs : List Mv) (k : Nat) (h : unH xs k = false) : unL xs (k + 1) = unL xs k := by
  simp [unL, List.range_succ, h]
theorem unL_len (xs : List Mv) (k : Nat) : (unL xs k).length ≤ k := by
  unfold unL
  rw [List.length_map]
  have := List.length_filter_le (unH xs) (List.range k)
  simpa using this
theorem rs_inv {xs : List Mv} (h : Exch fun p => srcM xs (nm p)) {q : Nat} (hq : q < 9) :
    namesW (rsH xs (nm q)) = if invI (fun p => srcM xs (nm p)) q = q then emp else invF (fun p => srcM xs (nm p)) q := by
  have h1 := h.inv hq
  have e : ∀ p, p < 9 → rsH xs (nm q) p = (decide (p ≠ q) && decide (p = invI (fun p => srcM xs (nm p)) q)) := fun p hp => by
    unfold rsH
    congr 1
    · exact decide_eq_decide.2 ⟨fun hne e => hne (by rw [e]), fun hne e => hne (nm_inj hp hq e)⟩
    · exact decide_eq_decide.2 (h.inv_iff hq hp)
  rw [namesW_congr e]
  by_cases h2 : invI (fun p => srcM xs (nm p)) q = q
  · rw [if_pos h2, h2]
    refine namesW_emp.2 fun p _ => ?_
    by_cases h3 : p = q <;> simp [h3]
  · rw [if_neg h2]
    refine (namesW_congr (g := fun p => decide (p = invI (fun p => srcM xs (nm p)) q)) fun p _ => ?_).trans (namesW_one h1.1)
    by_cases h3 : p = invI (fun p => srcM xs (nm p)) q
    · rw [h3]; simp [h2]
    · simp [h3]
theorem unL_inv {xs : List Mv} (h : Exch fun p => srcM xs (nm p)) : unL xs 9 = lsF (invF fun p => srcM xs (nm p)) 9 := by
  have e : (List.range 9).filter (unH xs) = (List.range 9).filter (lsH (invF fun p => srcM xs (nm p))) := List.filter_congr fun q hq => by
    have hq : q < 9 := by simpa using hq
    unfold unH lsH
    rw [rs_inv h hq]
    by_cases h2 : invI (fun p => srcM xs (nm p)) q = q
    · rw [if_pos h2]; unfold invF; rw [h2]; simp
    · rw [if_neg h2]
      have h3 : invF (fun p => srcM xs (nm p)) q ≠ nm q := fun e => h2 (nm_inj (h.inv hq).1 hq e)
      have h4 : invF (fun p => srcM xs (nm p)) q ≠ emp := nm_ne _
      simp [h3, h4]
  unfold unL lsF
  rw [e]
  refine List.map_congr_left fun q hq => ?_
  obtain ⟨h1, h2⟩ := List.mem_filter.1 hq
  have hq : q < 9 := by simpa using h1
  unfold lsH at h2
  have h2 : invF (fun p => srcM xs (nm p)) q ≠ nm q := by simpa using h2
  rw [rs_inv h hq, if_neg]
  intro e
  exact h2 (by unfold invF; rw [e])
/-- what the functions answer -/
def exchB (xs : List Mv) : Bool := mvalid xs && decide (leavesB xs = emp)
theorem exchB_iff {xs : List Mv} : exchB xs = true ↔ MV xs ∧ Exch (srcT (tabOf xs)) := by
  unfold exchB leavesB
  rw [Bool.and_eq_true, decide_eq_true_eq, leaf_exch]
  simp [mvalid]
theorem exchB_M {xs : List Mv} (h : exchB xs = true) : Exch fun p => srcM xs (nm p) := by
  obtain ⟨h1, h2⟩ := exchB_iff.1 h
  exact h2.congr fun p hp => srcT_M h1 hp
def undoM (xs : List Mv) : List Mv := if exchB xs then lsF (invF fun p => srcM xs (nm p)) 9 else []
theorem undoM_tab {xs : List Mv} (h : exchB xs = true) : mvT (noIdle (bkF (tabOf xs) 9)) (List.range 9) = undoM xs := by
  obtain ⟨h1, h2⟩ := exchB_iff.1 h
  rw [undoM, if_pos h, mvT_idle]
  refine lsF_congr fun q hq => ?_
  rw [bkF_inv h2 hq, invF, invF, invI_congr (fun p hp => srcT_M h1 hp)]
def lostH (xs : List Mv) (p : Nat) : Bool := decide (srcM xs (nm p) ≠ nm p) && decide (namesW (rsH xs (nm p)) = emp)
theorem lost_leaf {xs : List Mv} (h : MV xs) : namesW (lostH xs) = leavesB xs := by
  refine namesW_congr fun p hp => ?_
  unfold lostH leafH
  rw [rsH_rdH h, srcM_nm h hp]
end Go.PM
namespace Go.PM
open Go.RowKit
/-- a table of which the first k places have turned -/
def mixG (h f : Nat → ByteArray) (k : Nat) : Nat → ByteArray := fun q => if q < k then h q else f q
theorem mixG_zero (h f : Nat → ByteArray) : mixG h f 0 = f := by funext q; simp [mixG]
theorem mixG_at (h f : Nat → ByteArray) (k : Nat) : mixG h f k k = f k := by simp [mixG]
theorem mixG_src (h f : Nat → ByteArray) (k : Nat) : srcT (mixG h f k) k = srcT f k := by simp [srcT, mixG]
theorem mixG_set (h f : Nat → ByteArray) (k : Nat) (hk : k < 9) : (tabA (mixG h f k)).setIfInBounds k (.string (h k)) = tabA (mixG h f (k + 1)) := by
  have h1 := tabC_set (mixG h f k) k hk (h k)
  have e : (fun q => if q = k then h k else mixG h f k q) = mixG h f (k + 1) := by
    funext q
    by_cases hq : q = k
    · subst hq; simp [mixG]
    · by_cases h2 : q < k
      · simp [mixG, hq, h2, Nat.lt_succ_of_lt h2]
      · have : ¬ q < k + 1 := by omega
        simp [mixG, hq, h2, this]
  rw [e] at h1
  exact h1
theorem mixG_same (h f : Nat → ByteArray) (k : Nat) (e : h k = f k) : mixG h f (k + 1) = mixG h f k := by
  funext q
  by_cases hq : q = k
  · subst hq; simp [mixG, e]
  · by_cases h2 : q < k
    · simp [mixG, h2, Nat.lt_succ_of_lt h2]
    · have : ¬ q < k + 1 := by omega
      simp [mixG, h2, this]
theorem tabC_all (f : Nat → ByteArray) : (tabC f).all (·.oneCell') = true := by simp [tabC, Value.oneCell']
theorem tabX_mixG (h f : Nat → ByteArray) : tabX (mixG h f 9) = tabX h := rfl
end Go.PM
namespace Go.Proofs.YtdhhmphnmllbhaaGreat
open Go.RowKit Go.PM Go.Lib
attribute [local go_sem] Oper.semAt_some

end Go.Proofs.YtdhhmphnmllbhaaGreat
