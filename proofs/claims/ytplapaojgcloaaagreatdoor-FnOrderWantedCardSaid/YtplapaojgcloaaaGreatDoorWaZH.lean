import Derived.Test.YtplapaojgcloaaaGreatDoorWaZG
import Derived.Test.YtplapaojgcloaaaGreatDoorRow
import Derived.Test.YtplapaojgcloaaaGreatDoorReaders
import Derived.Test.YtplapaojgcloaaaGreatDoorHar
import Derived.Test.YtplapaojgcloaaaGreatDoorWaZA
import Derived.Test.YtplapaojgcloaaaGreatDoorWaZF
import Derived.Test.YtplapaojgcloaaaGreatDoorCut
import Derived.Test.YtplapaojgcloaaaGreatDoorRange
import Derived.Test.YtplapaojgcloaaaGreatDoorHold
import Derived.Deep.AppendLies
import Derived.Scope
import Derived.WalkMore
import Derived.Test.YtplapaojgcloaaaGreatDoorWaZB
import Derived.Test.YtplapaojgcloaaaGreatDoorSp1
import Derived.Test.YtplapaojgcloaaaGreatDoorTouch
namespace Go.Proofs.YtplapaojgcloaaaGreatDoor
open Go.RowKit Go.PM Go.PW Go.Lib

end Go.Proofs.YtplapaojgcloaaaGreatDoor
namespace Go.PW
open Go.RowKit Go.PM
abbrev zW : Array Value := #[.int .i64 0, .int .i64 0, .int .i64 0, .int .i64 0, .int .i64 0, .int .i64 0, .int .i64 0, .int .i64 0, .int .i64 0]
theorem zW_eq : zW = whA (fun _ => 0) := rfl
/-- the first k places lead to themselves -/
def idK (k : Nat) : Nat → Nat := fun q => if q < k then q else 0
theorem idK_zero : whA (idK 0) = zW := by simp [idK, whA, zW]
theorem idK_succ (k : Nat) : (fun r => if r = k then k else idK k r) = idK (k + 1) := by
  funext q
  unfold idK
  by_cases h : q = k
  · subst h; simp
  · by_cases h2 : q < k
    · simp [h, h2, Nat.lt_succ_of_lt h2]
    · have : ¬ q < k + 1 := by omega
      simp [h, h2, this]
theorem idK_nine : whA (idK 9) = whA (fun q => q) := by simp [idK, whA]
theorem isP_sn' {a : ByteArray} (h : isP a = true) : a = sn (pidx a) := by
  have := pidx_spec h
  rw [sn_nm _ this.1, this.2]
end Go.PW
namespace Go.Proofs.YtplapaojgcloaaaGreatDoor
open Go.RowKit Go.PM Go.PW
attribute [local go_sem] Oper.semAt_some

def whB (xs : List Mv) (a : ByteArray) : ByteArray := txt (wheelL (tabOf xs) (pidx a))
end Go.Proofs.YtplapaojgcloaaaGreatDoor
namespace Go.PM
open Go.RowKit
theorem place_of {a : ByteArray} (h : isP a = true) : ∃ p, p < 9 ∧ a = nm p := ⟨pidx a, (pidx_spec h).1, (pidx_spec h).2.symm⟩
def pmI (s : ByteArray) : Int := if isP s then (pidx s : Int) else -1
theorem pmI_yes {p : Nat} (hp : p < 9) {s : ByteArray} (h : nm p = s) : pmI s = p := by
  subst h
  rw [pmI, if_pos (isP_nm hp), pidx_nm hp]
theorem pmI_no {s : ByteArray} (h : ∀ p, p < 9 → ¬ nm p = s) : pmI s = -1 := by
  refine if_neg fun hp => ?_
  obtain ⟨p, hp9, e⟩ := place_of hp
  exact h p hp9 e.symm
end Go.PM
namespace Go.Proofs.YtplapaojgcloaaaGreatDoor
open Go.RowKit Go.PM
set_option maxHeartbeats 800000 in
theorem pmIndex_c (s : ByteArray) (w : World) :
    Calls Tryz.prog 17 #[.string s] w fun e w' => e = .returned (.int .i64 (pmI s)) ∧ Below w.heap.size w w' := by
  have HNM : Hid (∀ q, q < 9 → (ByteArray.mk #[97, 98, 99, 100, 101, 102, 65, 66, 67]).extract q (q+1) = nm q) := by
    show ∀ q, _
    intro q hq
    match q, hq with
    | 0, _ | 1, _ | 2, _ | 3, _ | 4, _ | 5, _ | 6, _ | 7, _ | 8, _ => decide +kernel
  have HY := Lib.hid (fun p hp h => pmI_yes (s := s) (p := p) hp h)
  have HN := Lib.hid (pmI_no (s := s))
  go_enter Tryz.func17, Tryz.ntmps17
  go_wp2
  go_loopw [4, 7] (fun _ i wr => ∃ (k : Nat), k ≤ 9 ∧ i = .int .i64 k ∧ Hid (∀ p, p < k → ¬ nm p = s) ∧ Below w.heap.size w wr) (fun _ i _ => 9 - (intOf i).toNat)
  case atStart => exact ⟨0, by omega, rfl, fun p hp => absurd hp (Nat.not_lt_zero p), Below.refl _ _⟩
  case round =>
    obtain ⟨k, hk, rfl, hp, hb⟩ := hrel
    have hbs := hb.size
    by_cases hlt : k < 9
    · have i1 : (k : Int) < 9 := by omega
      have hex := HNM.out k hlt
      have H1 := Lib.hid (HY.out k hlt)
      have H2 : Hid (¬ nm k = s → ∀ p, p < k + 1 → ¬ nm p = s) := fun h p hpk => by
        rcases Nat.lt_succ_iff_lt_or_eq.1 hpk with h2 | h2
        · exact hp.out p h2
        · subst h2; exact h
      generalize nm k = q at *
      have tq := beq_str q s
      by_cases he : q = s
      · rw [decide_eq_true he] at tq
        have H3 := Lib.hid (H1.out he)
        clear he
        go_wp2
        go_ret
        exact ⟨by rw [H3.out]; rfl, hb⟩
      · rw [decide_eq_false he] at tq
        have H3 := Lib.hid (H2.out he)
        clear he
        go_wp2
        go_roundw
        case rel => exact ⟨k + 1, by omega, by go_num, H3.out, hb⟩
        case measure => simp [intOf] <;> omega
    · have H1 := Lib.hid (HN.out (fun p hp9 => hp.out p (by omega)))
      go_wp2
      go_ret
      exact ⟨by rw [H1.out]; rfl, hb⟩
end Go.Proofs.YtplapaojgcloaaaGreatDoor
namespace Go.PW
open Go.PM Go.RowKit Go.Lib
variable {f : Nat → ByteArray} {s : Nat}
theorem wb_some (hf : SV f) (hs : s < 19) {i : Nat} (hi : i + 1 < (way (nxT f) s).length) : (way (nxT f) s)[i] < 9 ∧ sx f (way (nxT f) s)[i] = (way (nxT f) s)[i + 1] := by
  have hr := way_rho (nice hf) hs
  obtain ⟨a, t, e1, e2, e3⟩ := hr.step (j := i) hi
  rw [hr.some_ (j := i) (by omega)] at e1
  rw [hr.some_ (j := i + 1) hi] at e3
  obtain rfl := Option.some.inj e1
  obtain rfl := Option.some.inj e3
  have h9 := (nice hf).low _ _ e2
  refine ⟨h9, ?_⟩
  by_cases e : sx f (way (nxT f) s)[i] = (way (nxT f) s)[i]
  · rw [nxT_stay h9 e] at e2; cases e2
  · rw [nxT_some h9 e] at e2; exact Option.some.inj e2
theorem wb_zero (hf : SV f) (hs : s < 19) (h0 : 0 < (way (nxT f) s).length) : (way (nxT f) s)[0] = s := by
  have hr := way_rho (nice hf) hs
  have := hr.some_ h0
  exact (Option.some.inj this).symm
theorem wb_wheel (hf : SV f) (hs : s < 9) : ∀ i (hi : i < (way (nxT f) s).length), (way (nxT f) s)[i] < 9 → (way (nxT f) s)[i] ∈ wheelL f s := by
  intro i
  induction i with
  | zero => intro hi h9; rw [wb_zero hf (by omega) hi]; exact wheelL_self hs
  | succ i ih =>
    intro hi h9
    have h1 := wb_some hf (show s < 19 by omega) hi
    have h2 := ih (by omega) h1.1
    refine wheelL_mem.2 ⟨h9, ?_⟩
    rw [← (wheelL_mem.1 h2).2, ← h1.2]
    exact (hd_edge (f := f) 9 _ h1.1 (by rw [h1.2]; exact h9)).symm
theorem wb_fresh (hf : SV f) (hs : s < 19) {i : Nat} (hi : i < (way (nxT f) s).length) : (way (nxT f) s)[i] ∉ (way (nxT f) s).take i := by
  intro hm
  have hr := way_rho (nice hf) hs
  obtain ⟨j, hj⟩ := List.getElem?_of_mem hm
  have hjl := (List.getElem?_eq_some_iff.1 hj).1
  rw [List.length_take] at hjl
  have h2 : (way (nxT f) s)[j]? = some (way (nxT f) s)[i] := by
    rw [List.getElem?_take] at hj
    rw [if_pos (by omega)] at hj
    exact hj
  obtain ⟨h3, h4⟩ := List.getElem?_eq_some_iff.1 h2
  have := (List.getElem_inj hr.nodup).1 h4
  omega
theorem wb_last (hf : SV f) (hs : s < 19) {i : Nat} (hl : (way (nxT f) s)[(way (nxT f) s).length - 1]? = some i) (hi : i < 9) : sx f i ∈ way (nxT f) s := by
  have hr := way_rho (nice hf) hs
  have hp := hr.pos
  have h1 : orb (nxT f) s ((way (nxT f) s).length - 1) = some i := by rw [← hr.at_ _ (by omega)]; exact hl
  have h2 : orb (nxT f) s (way (nxT f) s).length = nxT f i := by
    have : orb (nxT f) s ((way (nxT f) s).length - 1 + 1) = (orb (nxT f) s ((way (nxT f) s).length - 1)).bind (nxT f) := rfl
    rw [show (way (nxT f) s).length - 1 + 1 = (way (nxT f) s).length by omega, h1] at this
    exact this
  by_cases e : sx f i = i
  · rw [e]; exact List.mem_of_getElem? hl
  · rw [nxT_some hi e] at h2
    rcases hr.last with h3 | ⟨mu, hmu, h3⟩
    · rw [h2] at h3; cases h3
    · rw [h2, hr.some_ hmu] at h3
      rw [Option.some.inj h3]
      exact List.getElem_mem hmu
theorem wb_depth (hf : SV f) (hs : s < 19) : depN (nxT f) s < (way (nxT f) s).length := by
  have hr := way_rho (nice hf) hs
  obtain ⟨D, hD, hc⟩ := hr.stops
  have := (depN_stops (nice hf) hs).unique hD
  rcases hc with ⟨_, h⟩ | ⟨h, _⟩ <;> omega
theorem pmH_txt {l : List Nat} (hl : ∀ a ∈ l, a < 19) {i : Nat} (hi : i < 19) : pmH (txt l) (sn i) = decide (i ∈ l) := by
  show pmH (txt l) ⟨#[ch i]⟩ = _
  rw [pmH_one, decide_eq_decide]
  exact txt_mem hl hi
theorem pmI_sn {i : Nat} (hi : i < 19) : pmI (sn i) = if i < 9 then (i : Int) else -1 := by
  unfold pmI
  rw [(ch_all i hi).2.2.1]
  by_cases h : i < 9
  · rw [if_pos (by simpa using h), if_pos h, sn_nm i h, pidx_nm h]
  · rw [if_neg (by simpa using h), if_neg h]
theorem txt_extract (l : List Nat) (j : Nat) (hj : j < l.length) : (txt l).extract j (j + 1) = sn l[j] := by
  have hz := txt_size l
  rw [extract_one _ _ (by omega), txt_list, List.getD_eq_getElem?_getD, List.getElem?_map, List.getElem?_eq_getElem hj]; rfl
theorem txt_take (l : List Nat) (j : Nat) : (txt l).extract 0 j = txt (l.take j) := by
  apply ByteArray.ext
  rw [ByteArray.data_extract]
  apply Array.ext'
  simp [txt, List.extract_eq_take_drop, List.map_take]
end Go.PW
namespace Go.Proofs.YtplapaojgcloaaaGreatDoor
open Go.RowKit Go.PM Go.PW
theorem wb_all {xs : List Mv} (h : MV xs) {a : ByteArray} (ha : isP a = true) : ∃ (wy wh : List Nat) (s0 D : Nat), s0 < 9 ∧ a = sn s0 ∧ wayB xs a = txt wy ∧ whB xs a = txt wh ∧ depthI xs a = (D : Int) ∧ wy.length ≤ 19 ∧ 0 < wy.length ∧ (∀ x ∈ wy, x < 19) ∧
    (∀ i (hi : i + 1 < wy.length), wy[i] < 9 ∧ sx (tabOf xs) wy[i] = wy[i + 1]) ∧ (∀ i (hi : i < wy.length), wy[i] < 9 → wy[i] ∈ wh) ∧ (∀ i (hi : i < wy.length), wy[i] ∉ wy.take i) ∧
    (∀ i, wy[wy.length - 1]? = some i → i < 9 → sx (tabOf xs) i ∈ wy) ∧ (∀ hi : 0 < wy.length, wy[0] = s0) ∧ D < wy.length ∧ (∀ x ∈ wh, x < 19) ∧ wh.length ≤ 9 := by
  have hf := SV_tab h
  have hs9 := (pidx_spec ha).1
  have hs : pidx a < 19 := by omega
  have hm : mvalid xs = true := by simpa [mvalid] using h
  have hr := way_rho (nice hf) hs
  refine ⟨way (nxT (tabOf xs)) (pidx a), wheelL (tabOf xs) (pidx a), pidx a, depN (nxT (tabOf xs)) (pidx a), hs9, isP_sn ha, rfl, rfl, ?_, hr.len, hr.pos, hr.lt, fun i hi => wb_some hf hs hi, wb_wheel hf hs9, fun i hi => wb_fresh hf hs hi, fun i hl hi => wb_last hf hs hl hi, fun hi => wb_zero hf hs hi, wb_depth hf hs, fun x hx => by have := wheelL_lt x hx; omega, wheelL_len _⟩
  unfold depthI
  rw [hm, ha]; rfl
end Go.Proofs.YtplapaojgcloaaaGreatDoor
namespace Go.PM
open Go.RowKit
def tcells (ts : List ByteArray) : List Value := ts.map Value.string
theorem tcells_length (ts : List ByteArray) : (tcells ts).length = ts.length := by simp [tcells]
theorem tcells_append (a b : List ByteArray) : tcells (a ++ b) = tcells a ++ tcells b := by simp [tcells]
def RdT (w : World) (v : Value) (ts : List ByteArray) : Prop := Rd w 1 v ts.length (tcells ts)
theorem RdT.below {w w' : World} {v : Value} {ts : List ByteArray} (h : RdT w v ts) (hb : Below w.heap.size w w') : RdT w' v ts := Rd.below h hb
theorem RdT.open {w : World} {v : Value} {ts : List ByteArray} (h : RdT w v ts) : ∃ A cap, v = .slice A ts.length cap ∧ ts.length ≤ 9223372036854775807 ∧ ts.length ≤ cap ∧
    ∀ k (hk : k < ts.length), ∃ b off, A = some ⟨b, off, none⟩ ∧ b < w.heap.size ∧ w.cell? ⟨b, off + k, none⟩ = some (.string ts[k]) := by
  obtain ⟨A, cap, e, hc, hn, hl, hr⟩ := h
  refine ⟨A, cap, e, hn, hc, fun k hk => ?_⟩
  obtain ⟨b, off, eA, hb, hcell⟩ := hr (by omega)
  exact ⟨b, off, eA, hb, hcell _ _ (by unfold tcells; rw [List.getElem?_map, List.getElem?_eq_getElem hk]; rfl)⟩
/-- n marked texts, the first mark being number k -/
def tmarks : Nat → Nat → List ByteArray
  | 0, _ => []
  | n + 1, k => mT k :: tmarks n (k + 1)
theorem tmarks_length (n k : Nat) : (tmarks n k).length = n := by
  induction n generalizing k with
  | zero => rfl
  | succ n ih => simp [tmarks, ih]
theorem tmarks_at (n k i : Nat) (h : i < (tmarks n k).length) : (tmarks n k)[i] = mT (k + i) := by
  induction n generalizing k i with
  | zero => simp [tmarks] at h
  | succ n ih =>
    cases i with
    | zero => rfl
    | succ i =>
      simp only [tmarks, List.getElem_cons_succ]
      rw [ih]
      congr 1; omega
def tmix (ts : List ByteArray) (i k : Nat) : List ByteArray := tmarks i k ++ ts.drop i
theorem tmarks_snoc (i k : Nat) : tmarks (i + 1) k = tmarks i k ++ [mT (k + i)] := by
  induction i generalizing k with
  | zero => rfl
  | succ i ih =>
    rw [tmarks, ih (k + 1)]
    simp only [tmarks, List.cons_append]
    rw [show k + 1 + i = k + (i + 1) by omega]
theorem tmix_length (ts : List ByteArray) (i k : Nat) (h : i ≤ ts.length) : (tmix ts i k).length = ts.length := by
  simp [tmix, tmarks_length]; omega
theorem tmix_set (ts : List ByteArray) (i k : Nat) (h : i < ts.length) : (tcells (tmix ts i k)).set i (.string (mT (k + i))) = tcells (tmix ts (i + 1) k) := by
  have hl : (tcells (tmarks i k)).length = i := by rw [tcells_length, tmarks_length]
  unfold tmix
  rw [tmarks_snoc, List.drop_eq_getElem_cons h, tcells_append, tcells_append, tcells_append]
  rw [List.set_append_right _ _ (by omega), hl, Nat.sub_self]
  simp only [tcells, List.map_cons, List.map_nil, List.set_cons_zero, List.append_assoc, List.cons_append, List.nil_append]
end Go.PM
namespace Go.Proofs.YtplapaojgcloaaaGreatDoor
open Go.RowKit Go.PM

end Go.Proofs.YtplapaojgcloaaaGreatDoor
namespace Go.PW
open Go.PM
def ringsT (nx : Nat → Option Nat) (k : Nat) : List ByteArray := (ringsF nx k).map txt
def ringsB (xs : List Mv) : List ByteArray := if mvalid xs then ringsT (nxT (tabOf xs)) 9 else []
theorem ringsB_len (xs : List Mv) : (ringsB xs).length ≤ 1000 := by
  unfold ringsB
  by_cases h : mvalid xs = true
  · rw [if_pos h]
    have := (ringsF_lt (nice (SV_tab (by simpa [mvalid] using h))) 9 (by omega)).2.1
    unfold ringsT; rw [List.length_map]; omega
  · rw [if_neg h]; simp
theorem way_first (nx : Nat → Option Nat) (s : Nat) (hn : Nice nx) (hs : s < 19) : ∃ l, way nx s = s :: l := by
  have hr := way_rho hn hs
  have h1 := hr.at_ 0 hr.pos
  cases hw : way nx s with
  | nil => have := hr.pos; rw [hw] at this; simp at this
  | cons a l =>
    rw [hw] at h1
    simp only [List.getElem?_cons_zero, orb, Option.some.injEq] at h1
    subst h1; exact ⟨l, rfl⟩
end Go.PW
namespace Go.Proofs.YtplapaojgcloaaaGreatDoor
open Go.RowKit Go.PM Go.PW Go.Lib

end Go.Proofs.YtplapaojgcloaaaGreatDoor
namespace Go.PM
open Go.RowKit
variable {F : Fence} {n : Nat} {P : Program}
/-- the same contract, of a function that reads what the caller keeps and writes to blocks of its own -/
def IterW {α : Type} (Pr : World → Prop) (κ : Nat) (F : Fence) (n : Nat) (P : Program) (gf : Nat) (mk : Value → Array Value) (encs : α → Array Value) (xs : List α) : Prop :=
  ∀ (l : Nat) (J Jx : List α → World → Prop) (W : World),
    OwnFrom W.heap.size J → OwnFrom W.heap.size Jx → (∀ pre A, J pre A → Pr A) → (∀ pre A A' r, J pre A → W.heap.size ≤ r → r < W.heap.size + κ → A.grownBy A' (some r) → J pre A') →
    (∀ pre x A, J pre A → W.heap.size + κ ≤ A.heap.size → pre ++ [x] <+: xs → YieldAt F (n - 1) P l (encs x) A fun e A' =>
      (e = .returned (.bool true) ∧ J (pre ++ [x]) A' ∧ KeepsIn W.heap.size κ A A' ∧ KeepsFrom W.heap.size A A') ∨ (e = .returned (.bool false) ∧ Jx (pre ++ [x]) A' ∧ A.heap.size ≤ A'.heap.size ∧ KeepsFrom W.heap.size A A')) →
    J [] W →
    CallsIn F n P gf (mk (.func (.yield l) #[] #[])) W fun e W' => (∃ v, e = .returned v) ∧ (J xs W' ∨ ∃ pre, pre <+: xs ∧ Jx pre W')
theorem range_law4 {α : Type} {Pr : World → Prop} {g : Operand} {ps : Array Tmp} {assign body : Code} {Q : Exit → Act → World → Prop} {a : Act} {w : World} (hro : F.round = none) (h1 : 1 ≤ n)
    {gf : Nat} {lf lb : Array Value} (hg : a.eval g = .func (.func gf) lf lb) (hFg : F.fn gf) (eg : ∀ args w, (callFunc gf args).run P w = .ok (.enter gf args) w)
    {encs : α → Array Value} {xs : List α} {κ : Nat} (hit : IterW Pr κ F (n - 1) P gf (fun y => lf ++ #[y] ++ lb) encs xs) (hps : ∀ x, (encs x).size = ps.size)
    (I : List α → World → Prop) (Ix : Code → List α → World → Prop) (hPr : ∀ pre A, I pre A → Pr A) (hIW : ∀ pre A A' r, I pre A → w.heap.size + 2 ≤ r → r < w.heap.size + 2 + κ → A.grownBy A' (some r) → I pre A') (hI : OwnFrom w.heap.size I) (hIx : ∀ c, OwnFrom w.heap.size (Ix c)) (h0 : I [] w) (Ax : α → Act → World → Prop) (hAx : ∀ x a', OwnFrom w.heap.size (fun (_ : Unit) W => Ax x a' W))
    (hassign : ∀ (l : Nat) (pre : List α) (x : α) (W : World) (K : Act → World → Prop), I pre W → pre ++ [x] <+: xs → w.heap.size + 2 + κ ≤ W.heap.size → (∀ a' W', KeepsNew w.heap.size W W' → I pre W' → Ax x a' W' → K a' W') →
      assign.wpIn (F.inRound l) (n - 1 - 1) P (Exit.then K (fun _ _ _ => False)) { tmps := (ps.zip (encs x)).foldl (fun t (p, v) => t.setIfInBounds p v) a.tmps, defers := [] } W)
    (hbody : ∀ (l : Nat) (pre : List α) (x : α) (a' : Act) (W : World), I pre W → Ax x a' W → pre ++ [x] <+: xs → w.heap.size + 2 + κ ≤ W.heap.size → body.wpIn (F.inRound l) (n - 1 - 1) P (ownPostG w.heap.size (KeepsIn (w.heap.size + 2) κ) I Ix (pre ++ [x]) W) a' W)
    (hdone : ∀ (D : Nat) (W : World), w.heap.size ≤ D → I xs W → W.heap[D]? = some (.deferred (some [])) → Q .normal { a with defers := { target := .collected D, args := #[] } :: a.defers } W)
    (hstop : ∀ (D : Nat) (c : Code) (pre : List α) (W : World), w.heap.size ≤ D → pre <+: xs → Ix c pre W → W.heap[D]? = some (.deferred (some [])) → c.wpIn F n P Q { a with defers := { target := .collected D, args := #[] } :: a.defers } W) :
    (Code.rangeFunc g ps assign body).wpIn F n P Q a w := by
  refine wpIn_rangeFunc fun fn hfn => ?_
  rw [hro]
  have key : ∃ rc : LoopState → Option Code → Loop, rc = fun s j => { state := s, pending := j, fn, tmps := a.tmps, params := ps, assign, body, defers := w.heap.size } := ⟨_, rfl⟩
  obtain ⟨rc, hrc⟩ := key
  let V := (w.alloc (.deferred (some []))).alloc (.loop (rc .ready none))
  -- the two blocks of book-keeping, and that the caller's own facts outlast what is done to them
  let Bk : LoopState → Option Code → World → Prop := fun s j A => A.heap[w.heap.size + 1]? = some (.loop (rc s j)) ∧ A.heap[w.heap.size]? = some (.deferred (some []))
  have bkput : ∀ {s j s' j' A}, Bk s j A → Bk s' j' (A.putObj (w.heap.size + 1) (.loop (rc s' j'))) := fun h =>
    ⟨World.putObj_heap_same (Array.getElem?_eq_some_iff.1 h.1).1, (World.putObj_heap_other (by omega)).trans h.2⟩
  have hVs : V.heap.size = w.heap.size + 2 := by simp [V, World.size_alloc]
  have bknew : ∀ {s j A A' row}, Bk s j A → A.grownBy A' row → (∀ r, row = some r → V.heap.size ≤ r ∧ ∃ o : Obj, A.heap[r]? = some o ∧ o.isCells = false) → Bk s j A' := fun h hg' hr =>
    ⟨(hg'.block _ (Array.getElem?_eq_some_iff.1 h.1).1 (fun e => by have := (hr _ e.symm).1; omega)).trans h.1, (hg'.block _ (Array.getElem?_eq_some_iff.1 h.2).1 (fun e => by have := (hr _ e.symm).1; omega)).trans h.2⟩
  have hV : Bk .ready none V := by
    refine ⟨?_, ?_⟩
    · have := World.alloc_heap_new (w.alloc (.deferred (some []))) (.loop (rc .ready none)); rwa [World.size_alloc] at this
    · exact (Below.heap_alloc _ _ _ (by simp)).trans (World.alloc_heap_new w _)
  have hIV : I [] V := hI.alloc _ (hI.alloc _ h0)
  refine ⟨w.heap.size + 1, [{ target := .collected w.heap.size, args := #[] }], V, { target := .fn (.func gf) lb, args := lf ++ #[.func (.yield (w.heap.size + 1)) #[] #[]] }, V, gf,
    lf ++ #[.func (.yield (w.heap.size + 1)) #[] #[]] ++ lb, V, ?_, ?_, ?_, ?_, fun _ => h1, ?_⟩
  · have := run_enterLoop_outer (P := P) (w := w) fn a.tmps ps assign body
    rw [this]; simp only [V, hrc]
  · simp only [resolve, hg]
    simp [go_sem]
  · intro f' hf'
    simp [Target.leads] at hf'
    subst hf'; exact hFg
  · simp [invoke, go_sem, eg]
  refine (hit (w.heap.size + 1) (fun pre A => I pre A ∧ Bk .ready none A) (fun pre A => ∃ c, Ix c pre A ∧ Bk .done (some c) A) V
    (fun pre A A' row h hg' hr => ⟨hI pre A A' row h.1 hg' (fun r e => ⟨by have := (hr r e).1; omega, (hr r e).2⟩), bknew h.2 hg' hr⟩)
    (fun pre A A' row ⟨c, h, hb⟩ hg' hr => ⟨c, hIx c pre A A' row h hg' (fun r e => ⟨by have := (hr r e).1; omega, (hr r e).2⟩), bknew hb hg' hr⟩) (fun pre A h => hPr pre A h.1) (fun pre A A' r h h1 h2 hg' => ⟨hIW pre A A' r h.1 (by omega) (by omega) hg', (hg'.block _ (Array.getElem?_eq_some_iff.1 h.2.1).1 (fun e => by cases e; omega)).trans h.2.1, (hg'.block _ (Array.getElem?_eq_some_iff.1 h.2.2).1 (fun e => by cases e; omega)).trans h.2.2⟩) ?_ ⟨hIV, hV⟩).mono ?_
  · rintro pre x A ⟨hi, hb⟩ hsz hpx
    have hy := run_yield (P := P) (args := encs x) hb.1 (by rw [hrc]; exact hps x)
    rw [hrc] at hy
    refine ⟨fn, _, assign, body, hy, roundIn_of_wpIn hfn (hassign _ pre x A _ hi hpx (by omega) ?_)⟩
    intro a' Wa hkn hia hax
    have hlt := (Array.getElem?_eq_some_iff.1 hb.1).1
    replace hb : Bk .ready none Wa := ⟨(hkn.same _ (by omega) hlt).trans hb.1, (hkn.same _ (Nat.le_refl _) (by omega)).trans hb.2⟩
    clear hy hi
    refine ⟨_, run_beginRound hb.1 (by rw [hrc]), ?_⟩
    have hknV : KeepsIn V.heap.size κ A Wa := hkn.toIn (by omega) hsz
    have hkfV : KeepsFrom V.heap.size A Wa := (hkn.mono (by omega)).from
    have hszA : A.heap.size ≤ Wa.heap.size := hkn.size
    replace hsz := Nat.le_trans hsz hszA
    clear hkn
    revert hknV hkfV hszA
    generalize A = A0
    intro hknV hkfV hszA
    obtain ⟨A, rfl⟩ : ∃ A, A = Wa := ⟨_, rfl⟩
    have hb2 : Bk .busy none (A.putObj (w.heap.size + 1) (.loop (rc .busy none))) := bkput hb
    have e2 : ({ rc .ready none with state := .busy } : Loop) = rc .busy none := by rw [hrc]
    rw [e2]
    refine wpIn_mono (hbody _ pre x a' _ (hI.putObj _ hia (by omega) hb.1 rfl) ((hAx x a').putObj (s := ()) _ hax (by omega) hb.1 rfl) hpx (by simp [World.putObj]; omega)) ?_
    have fin : ∀ (j : Option Code) (C : World), KeepsFrom w.heap.size (A.putObj (w.heap.size + 1) (.loop (rc .busy none))) C →
        (Instr.endRound (w.heap.size + 1) j).run P C = .ok (.bool j.isNone) (C.putObj (w.heap.size + 1) (.loop (rc (if j.isNone then .ready else .done) j))) ∧ Bk .busy none C := fun j C hk => by
      have h1 := hk.same _ _ (by omega) hb2.1 rfl
      have h2 := hk.same _ _ (Nat.le_refl _) hb2.2 rfl
      have h3 := run_endRound (P := P) j h1
      refine ⟨?_, h1, h2⟩
      rw [h3]; rw [hrc]
    have kfin : ∀ (o : Obj) (C : World), KeepsFrom w.heap.size (A.putObj (w.heap.size + 1) (.loop (rc .busy none))) C → KeepsFrom V.heap.size A0 (C.putObj (w.heap.size + 1) o) := fun o C hk => by
      refine hkfV.trans ?_
      refine ⟨by have := hk.size; simp [World.putObj] at this ⊢; omega, fun k x hk1 hk2 hk3 => ?_⟩
      rw [World.putObj_heap_other (by omega)]
      exact hk.same k x (by omega) (by rw [World.putObj_heap_other (by omega)]; exact hk2) hk3
    rintro e a3 C hp
    cases e with
    | normal =>
      obtain ⟨hk, hkn, hi3⟩ := hp
      obtain ⟨hr, hb3⟩ := fin none C hk
      refine ⟨_, _, hr, .inl ⟨rfl, ⟨hI.putObj _ hi3 (by omega) hb3.1 rfl, bkput hb3⟩, ?_, kfin _ C hk⟩⟩
      refine ⟨by have := hkn.size; simp [World.putObj] at this ⊢; omega, fun k hk1 hk2 => ?_⟩
      rw [World.putObj_heap_other (by omega), hkn.same k (by omega) (by omega), World.putObj_heap_other (by omega)]
      exact hknV.same k hk1 hk2
    | ret =>
      obtain ⟨hk, hi3⟩ := hp
      obtain ⟨hr, hb3⟩ := fin (some .ret) C hk
      exact ⟨_, _, hr, .inr ⟨rfl, ⟨.ret, (hIx _).putObj _ hi3 (by omega) hb3.1 rfl, bkput hb3⟩, by have := hk.size; simp [World.putObj] at this ⊢; omega, kfin _ C hk⟩⟩
    | exit id =>
      obtain ⟨hk, hi3⟩ := hp
      obtain ⟨hr, hb3⟩ := fin (some (.exit id)) C hk
      exact ⟨_, _, hr, .inr ⟨rfl, ⟨.exit id, (hIx _).putObj _ hi3 (by omega) hb3.1 rfl, bkput hb3⟩, by have := hk.size; simp [World.putObj] at this ⊢; omega, kfin _ C hk⟩⟩
    | goto t =>
      obtain ⟨hk, hi3⟩ := hp
      obtain ⟨hr, hb3⟩ := fin (some (.goto t)) C hk
      exact ⟨_, _, hr, .inr ⟨rfl, ⟨.goto t, (hIx _).putObj _ hi3 (by omega) hb3.1 rfl, bkput hb3⟩, by have := hk.size; simp [World.putObj] at this ⊢; omega, kfin _ C hk⟩⟩
    | panic ch => exact hp.elim
    | outgrown => exact hp.elim
  · rintro e C ⟨⟨v, rfl⟩, (⟨hi, hb⟩ | ⟨pre, hp, c, hi, hb⟩)⟩
    · have h3 := run_endLoop (P := P) hb.1 (by rw [hrc]; simp)
      refine ⟨none, _, by rw [h3, hrc], hdone _ _ (Nat.le_refl _) (hI.putObj _ hi (by omega) hb.1 rfl) ((World.putObj_heap_other (by omega)).trans hb.2)⟩
    · have h3 := run_endLoop (P := P) hb.1 (by rw [hrc]; simp)
      refine ⟨some c, _, by rw [h3, hrc], hstop _ c pre _ (Nat.le_refl _) hp ((hIx c).putObj _ hi (by omega) hb.1 rfl) ((World.putObj_heap_other (by omega)).trans hb.2)⟩
/-- The same where the assignment lays nothing. -/
theorem range_law5 {α : Type} {Pr : World → Prop} {g : Operand} {ps : Array Tmp} {assign body : Code} {Q : Exit → Act → World → Prop} {a : Act} {w : World} (hro : F.round = none) (h1 : 1 ≤ n)
    {gf : Nat} {lf lb : Array Value} (hg : a.eval g = .func (.func gf) lf lb) (hFg : F.fn gf) (eg : ∀ args w, (callFunc gf args).run P w = .ok (.enter gf args) w)
    {encs : α → Array Value} {xs : List α} {κ : Nat} (hit : IterW Pr κ F (n - 1) P gf (fun y => lf ++ #[y] ++ lb) encs xs) (hps : ∀ x, (encs x).size = ps.size)
    (I : List α → World → Prop) (Ix : Code → List α → World → Prop) (hPr : ∀ pre A, I pre A → Pr A) (hIW : ∀ pre A A' r, I pre A → w.heap.size + 2 ≤ r → r < w.heap.size + 2 + κ → A.grownBy A' (some r) → I pre A') (hI : OwnFrom w.heap.size I) (hIx : ∀ c, OwnFrom w.heap.size (Ix c)) (h0 : I [] w) (a₁ : α → Act)
    (hassign : ∀ (l : Nat) (x : α) (W : World) (K : Act → World → Prop), K (a₁ x) W →
      assign.wpIn (F.inRound l) (n - 1 - 1) P (Exit.then K (fun _ _ _ => False)) { tmps := (ps.zip (encs x)).foldl (fun t (p, v) => t.setIfInBounds p v) a.tmps, defers := [] } W)
    (hbody : ∀ (l : Nat) (pre : List α) (x : α) (W : World), I pre W → pre ++ [x] <+: xs → w.heap.size + 2 + κ ≤ W.heap.size → body.wpIn (F.inRound l) (n - 1 - 1) P (ownPostG w.heap.size (KeepsIn (w.heap.size + 2) κ) I Ix (pre ++ [x]) W) (a₁ x) W)
    (hdone : ∀ (D : Nat) (W : World), w.heap.size ≤ D → I xs W → W.heap[D]? = some (.deferred (some [])) → Q .normal { a with defers := { target := .collected D, args := #[] } :: a.defers } W)
    (hstop : ∀ (D : Nat) (c : Code) (pre : List α) (W : World), w.heap.size ≤ D → pre <+: xs → Ix c pre W → W.heap[D]? = some (.deferred (some [])) → c.wpIn F n P Q { a with defers := { target := .collected D, args := #[] } :: a.defers } W) :
    (Code.rangeFunc g ps assign body).wpIn F n P Q a w :=
  range_law4 hro h1 hg hFg eg hit hps I Ix hPr hIW hI hIx h0 (fun x a' _ => a' = a₁ x) (fun _ _ _ _ _ _ h _ _ => h)
    (fun l _ x W K hi _ _ hK => hassign l x W K (hK _ _ (KeepsNew.refl _ _) hi rfl)) (fun l pre x a' W hi ha hp hs => by subst ha; exact hbody l pre x W hi hp hs) hdone hstop
end Go.PM
namespace Go.PW
open Go.PM Go.RowKit
theorem Ent.unique {nx : Nat → Option Nat} {s : Nat} {a b : Option Nat} (h : Ent nx s a) (k : Ent nx s b) : a = b := by
  obtain ⟨D, hD, h⟩ := h
  obtain ⟨E, hE, k⟩ := k
  have := hD.unique hE
  subst this
  rcases h with ⟨rfl, j, hj⟩ | ⟨rfl, h⟩
  · rcases k with ⟨rfl, _⟩ | ⟨rfl, k⟩
    · rfl
    · exact absurd hj (k j)
  · rcases k with ⟨rfl, j, hj⟩ | ⟨rfl, k⟩
    · exact absurd hj (h j)
    · rfl
theorem ent_ex {nx : Nat → Option Nat} (hn : Nice nx) {s : Nat} (hs : s < 19) : ∃ m, Ent nx s m := by
  obtain ⟨D, hD, _⟩ := (way_rho hn hs).stops
  by_cases h : ∃ k, orb nx s k = none
  · exact ⟨none, D, hD, .inl ⟨rfl, h⟩⟩
  · exact ⟨orb nx s D, D, hD, .inr ⟨rfl, fun k hk => h ⟨k, hk⟩⟩⟩
theorem ringsF_pre {nx : Nat → Option Nat} {a b : Nat} (h : a ≤ b) : ringsF nx a <+: ringsF nx b := by
  induction b with
  | zero => have : a = 0 := by omega
            subst this; exact List.prefix_refl _
  | succ b ih =>
    by_cases e : a = b + 1
    · subst e; exact List.prefix_refl _
    · have h1 := ih (by omega)
      by_cases hc : onRb nx b = true ∧ b ∉ (ringsF nx b).flatten
      · rw [ringsF_yes hc.1 hc.2]; exact h1.trans (List.prefix_append _ _)
      · rw [ringsF_no hc]; exact h1
section
variable {P : Program} {C : World → Prop}
/-- two pointers held against each other in a quiet region -/
theorem ptr_step {F : Fence} {n : Nat} {ops : Array Oper} {Q : Act → Prop} {a : Act} {o : Oper} {rest : List Oper} (hgd : Region.wanted o (yielded ops a.tmps) = true) (ty ty2 : TypeId) (x y : Operand) (ho : o.op = .binOp .neq ty x y ty2) (p q : Option Addr) (hx : a.eval x = .pointer p) (hy : a.eval y = .pointer q) (v : Value)
    (hC : ∀ W, C W → (binOp .neq ty (.pointer p) (.pointer q)).run P W = .ok v W) (h : wpQuietIn F n P ops C Q rest (a.put o.dst v)) : wpQuietIn F n P ops C Q (o :: rest) a := by
  refine wpQuietIn_step (fun w _ f hf => by simp [Oper.about, ho] at hf) (fun K hK => ?_)
  rw [if_pos hgd]
  refine ⟨v, fun W hW => ?_, hK _ h⟩
  unfold Oper.quietAtIn
  have hg : (eqGuard .neq ty x y (.pointer p) (.pointer q)).run P W = .ok () W := by
    simp [eqGuard]
  simp only [execOp, ho, hx, hy, hg, Sem.run_bind, hC W hW, Result.andThen_ok, Sem.run_pure]
  exact ⟨rfl, rfl⟩
end
end Go.PW
namespace Go.Proofs.YtplapaojgcloaaaGreatDoor
open Go.RowKit Go.PM Go.PW Go.Lib
attribute [local go_sem] Oper.semAt_some

theorem neqp_nil (w : World) (a : Addr) : (binOp .neq 128 (.pointer none) (.pointer (some a))).run Tryz.prog w = .ok (.bool true) w := by
  have h : ∀ d : Nat, (Op.equalIn (d + 1) 128 (.pointer none) (.pointer (some a))).run Tryz.prog w = .ok false w := fun d => by
    simp [Op.equalIn, run_underlying Tryz.underlying128]
  simp only [binOp]
  simp [Op.equal, Op.maxDepth, h 9999]
theorem entrance_v (b : Nat) (nx : Nat → Option Nat) (hn : Nice nx) (s : Nat) (hs : s < 19) (m : Option Nat) (hm : Ent nx s m) (w : World) (hS : Spots w b nx) :
    Calls Tryz.prog 93 #[spotV b (some s)] w fun e w' => e = .returned (spotV b m) ∧ Below w.heap.size w w' :=
  (entrance_c b nx hn s hs w hS).mono fun e w' ⟨⟨m', e1, e2⟩, e3⟩ => ⟨by rw [e1, hm.unique e2], e3⟩

set_option maxRecDepth 100000 in
set_option maxHeartbeats 1000000 in
theorem rings_iter (b : Nat) (nx : Nat → Option Nat) (hn : Nice nx) :
    IterW (fun W => Spots W b nx) 3 Fence.wide 4 Tryz.prog 71 (fun y => #[.pointer (some ⟨b, 0, none⟩)] ++ #[y] ++ #[]) (fun r : List Nat => #[.string (txt r)]) (ringsF nx 9) := by
  intro l J Jx W hJ hJx hPr hJW hY h0
  change CallsIn _ _ _ _ #[.pointer (some ⟨b, 0, none⟩), .func (.yield l) #[] #[]] W _
  refine callsIn_of_wp_marks Tryz.func71 rfl trivial ?_ rfl
  simp only [Tryz.ntmps71, List.size_toArray, List.length_cons, List.length_nil, Nat.reduceAdd, Nat.reduceSub, Array.replicate_succ, Array.replicate_zero, List.push_toArray, List.append_toArray, List.nil_append, List.cons_append]
  obtain ⟨W0, hW0⟩ : ∃ W0 : World, W0 = ((W.alloc (.cells #[.pointer (some ⟨b, 0, none⟩)] 108)).alloc (.cells #[.func (.yield l) #[] #[]] 62)).alloc (.cells #[.string ⟨#[]⟩] 9) := ⟨_, rfl⟩
  have hS0 : W0.heap.size = W.heap.size + 3 := by rw [hW0]; simp only [World.size_alloc]
  have hA0 : At W0 W.heap.size 108 #[.pointer (some ⟨b, 0, none⟩)] := by rw [hW0]; exact ((At.new _ _ _).alloc _).alloc _
  have hA1 : At W0 (W.heap.size + 1) 62 #[.func (.yield l) #[] #[]] := by
    rw [hW0]; have := At.new (W.alloc (.cells #[.pointer (some ⟨b, 0, none⟩)] 108)) 62 #[.func (.yield l) #[] #[]]
    rw [World.size_alloc] at this
    exact this.alloc _
  have hA2 : At W0 (W.heap.size + 2) 9 #[.string ⟨#[]⟩] := by
    rw [hW0]; have := At.new ((W.alloc (.cells #[.pointer (some ⟨b, 0, none⟩)] 108)).alloc (.cells #[.func (.yield l) #[] #[]] 62)) 9 #[.string ⟨#[]⟩]
    rw [World.size_alloc, World.size_alloc] at this
    exact this
  have hJ0 : J [] W0 := by rw [hW0]; exact hJ.alloc _ (hJ.alloc _ (hJ.alloc _ h0))
  gi_wp2
  rw [← hW0]
  clear hW0
  refine range_law (F := Fence.wide) (gf := 58) (lf := #[.int .i64 9]) (lb := #[]) rfl (by decide) rfl trivial (fun args w => rfl) (encs := fun p : Nat => #[.int .i64 p]) (xs := List.range 9)
    (below_iter _ _ trivial rfl (by decide)) (fun _ => rfl)
    (fun pre A => J (ringsF nx pre.length) A ∧ At A W.heap.size 108 #[.pointer (some ⟨b, 0, none⟩)] ∧ At A (W.heap.size + 1) 62 #[.func (.yield l) #[] #[]] ∧ At A (W.heap.size + 2) 9 #[.string (txt (ringsF nx pre.length).flatten)])
    (fun c pre A => c = .ret ∧ ∃ pre2, pre2 <+: ringsF nx 9 ∧ Jx pre2 A) ?own ?ownx ?start ?a1 ?assign ?body ?done ?stop
  case own =>
    rintro s A A' row ⟨h1, h2, h3, h4⟩ hg hr
    have hr' : ∀ r, row = some r → W.heap.size + 3 ≤ r := fun r e => by have := (hr r e).1; omega
    have hne : ∀ b, b < W.heap.size + 3 → some b ≠ row := fun b hb e => by have := hr' _ e.symm; omega
    exact ⟨hJ _ A A' row h1 hg (fun r e => ⟨by have := hr' r e; omega, (hr r e).2⟩), h2.grown hg (hne _ (by omega)), h3.grown hg (hne _ (by omega)), h4.grown hg (hne _ (by omega))⟩
  case ownx =>
    rintro c s A A' row ⟨h1, pre2, h2, h3⟩ hg hr
    have hr' : ∀ r, row = some r → W.heap.size + 3 ≤ r := fun r e => by have := (hr r e).1; omega
    exact ⟨h1, pre2, h2, hJx _ A A' row h3 hg (fun r e => ⟨by have := hr' r e; omega, (hr r e).2⟩)⟩
  case start => exact ⟨hJ0, hA0, hA1, hA2⟩
  case assign =>
    intro l p W Kc hK
    gi_wp2
    exact hK
  case body =>
    clear hJ0 hA0 hA1 hA2
    rintro l2 pre p A ⟨h1, h2, h3, h4⟩ hp hsz
    obtain ⟨hpl, hp9⟩ := pre_len pre p hp
    rw [hpl] at h1 h4
    have HPL : Hid ((pre ++ [p]).length = p + 1) := by show _ = _; simp [hpl]
    have hSA := hPr _ A h1
    have i0 : (0 : Int) ≤ (p : Int) := by omega
    have i1 : (p : Int) < 19 := by omega
    obtain ⟨m, hm⟩ := ent_ex hn (show p < 19 by omega)
    have HENT := Lib.hid (fun W' hS => entrance_v b nx hn p (by omega) m hm W' hS)
    have hc2 : A.cell? ⟨W.heap.size, 0, none⟩ = some (.pointer (some ⟨b, 0, none⟩)) := h2.cell 0
    have hbA := hSA.lt
    have hENT : ∀ x : Ext A.heap.size A.drew, Calls Tryz.prog 93 #[.pointer (some ⟨b, p * 2, none⟩)] x.val fun e w' => e = .returned (spotV b m) ∧ Below x.val.heap.size x.val w' := fun x => HENT.out x.val (hSA.below ((Below.refl _ _).drew.trans x.property))
    have hSX : ∀ x : Ext A.heap.size A.drew, Spots x.val b nx := fun x => hSA.below ((Below.refl _ _).drew.trans x.property)
    by_cases hon : m = some p
    · subst hon
      have honR : onRb nx p = true := (onRb_iff hn (by omega)).2 ((hm.onR (way_rho hn (by omega))).1 rfl)
      have hlt9 := ringsF_lt hn p (by omega)
      have hmem := txt_mem hlt9.1 (show p < 19 by omega)
      have hszf := txt_size (ringsF nx p).flatten
      have hneq : ∀ W, (∃ x : Ext A.heap.size A.drew, W = x.val) → (binOp .neq 128 (.pointer (some ⟨b, p * 2, none⟩)) (.pointer (some ⟨b, p * 2, none⟩))).run Tryz.prog W = .ok (.bool false) W := by
        rintro W ⟨x, rfl⟩; exact neqp_yes x.val _
      have hx4 : ∀ x : Ext A.heap.size A.drew, x.val.cell? ⟨W.heap.size + 2, 0, none⟩ = some (.string (txt (ringsF nx p).flatten)) := fun x => (x.property.cell (p := ⟨W.heap.size + 2, 0, none⟩) h4.lt).trans (h4.cell 0)
      have hxn : ∀ x : Ext A.heap.size A.drew, x.val.cell? ⟨b, p * 2, none⟩ = some (.string ⟨#[ch p]⟩) := fun x => (hSX x).name p (by omega)
      have hcon : ∀ x : Ext A.heap.size A.drew, Calls Tryz.prog 65 #[.string (txt (ringsF nx p).flatten), .string ⟨#[ch p]⟩] x.val fun e w' => e = .returned (.bool (decide (ch p ∈ (txt (ringsF nx p).flatten).data.toList))) ∧ x.val = w' := fun x =>
        (Tryz.strings_Contains_one _ _ x.val).mono fun _ _ ⟨e1, e2⟩ => ⟨by
          rw [e1]; congr 2; simp only [indexByte_mem], e2.symm⟩
      have hent : ∀ x : Ext A.heap.size A.drew, Calls Tryz.prog 93 #[.pointer (some ⟨b, p * 2, none⟩)] x.val fun e w' => e = .returned (.pointer (some ⟨b, p * 2, none⟩)) ∧ Below x.val.heap.size x.val w' := hENT
      have HWB := Lib.hid (fun W' (hS : Spots W' b nx) => wayBack_c b nx hn p (by omega) W' hS)
      have hwl := (way_rho hn (show p < 19 by omega)).len
      have hwz := txt_size (way nx p)
      clear hENT
      by_cases hin : p ∈ (ringsF nx p).flatten
      · have hd : decide (ch p ∈ (txt (ringsF nx p).flatten).data.toList) = true := by simpa using hmem.2 hin
        have HNO := Lib.hid (ringsF_no (nx := nx) (k := p) (fun h => h.2 hin))
        rw [hd] at hcon
        clear hd hmem hin
        generalize ch p = c at *
        gi_wp2
        refine region_quiet_inRound (F := Fence.wide) (C := fun w' => ∃ x : Ext A.heap.size A.drew, w' = x.val) rfl (by kernel_rfl) (by kernel_rfl) (by kernel_rfl) ⟨⟨_, Below.refl _ _⟩, rfl⟩ ?_
        simp only
        gi_big_quiet_step (fail)
        (refine BigFrame.wpQuietIn_want (fun _ _ _ _ => trivial) rfl (fun K hK => ?_); gi_big_quiet_op; refine ⟨_, fun _ => callsIn_wide.2 (ext_call _ (Nat.le_refl _) (hent _)), hK _ ?_⟩; clear hK K)
        gi_big_quiet_step (fail)
        refine ptr_step rfl 128 _ (.tmp 15) (.tmp 16) rfl (some ⟨b, p * 2, none⟩) (some ⟨b, p * 2, none⟩) (by rfl) (by rfl) (.bool false) hneq ?_
        simp only [Act.put, List.setIfInBounds_toArray, List.set_cons_succ, List.set_cons_zero]
        gi_big_quiet_step (fail)
        gi_big_quiet_step (fail)
        gi_big_quiet_step (fail)
        gi_big_quiet_step (fail)
        gi_big_quiet_step (fail)
        gi_big_quiet_step (fail)
        (refine BigFrame.wpQuietIn_want (fun _ _ _ _ => trivial) rfl (fun K hK => ?_); gi_big_quiet_op; refine ⟨_, fun _ => callsIn_wide.2 (ext_same _ (hcon _)), hK _ ?_⟩; clear hK K)
        gi_big_quiet_step (fail)
        refine wpQuietIn_nil ?_
        rintro W2 ⟨xw, rfl⟩
        have hb2 : Below A.heap.size A xw.val := ((Below.refl _ _).drew).trans xw.property
        clear hx4 hxn hcon hent hSX hneq
        generalize xw.val = W2 at *
        have j1 := hJ _ A W2 none h1 (grown_below hb2 none) (fun r e => by cases e)
        have k2 := h2.keep hb2
        have k3 := h3.keep hb2
        have k4 := h4.keep hb2
        gi_wp2
        exact ⟨keepsFrom_below hb2, KeepsIn.zero hb2.size, by rw [HPL.out, HNO.out]; exact j1, k2, k3, by rw [HPL.out, HNO.out]; exact k4⟩
      · have hd : decide (ch p ∈ (txt (ringsF nx p).flatten).data.toList) = false := by simpa using fun h => hin (hmem.1 h)
        have hyes := ringsF_yes honR hin
        have HYES := Lib.hid hyes
        have HSX2 : Hid (txt (ringsF nx (p + 1)).flatten = txt (ringsF nx p).flatten ++ txt (way nx p)) := by
          show _ = _
          rw [hyes, List.flatten_append, txt_append]; simp
        have hpre : ringsF nx p ++ [way nx p] <+: ringsF nx 9 := by rw [← hyes]; exact ringsF_pre (by omega)
        rw [hd] at hcon
        clear hd hmem hin hyes
        generalize ch p = c at *
        gi_wp2
        refine region_quiet_inRound (F := Fence.wide) (C := fun w' => ∃ x : Ext A.heap.size A.drew, w' = x.val) rfl (by kernel_rfl) (by kernel_rfl) (by kernel_rfl) ⟨⟨_, Below.refl _ _⟩, rfl⟩ ?_
        simp only
        gi_big_quiet_step (fail)
        (refine BigFrame.wpQuietIn_want (fun _ _ _ _ => trivial) rfl (fun K hK => ?_); gi_big_quiet_op; refine ⟨_, fun _ => callsIn_wide.2 (ext_call _ (Nat.le_refl _) (hent _)), hK _ ?_⟩; clear hK K)
        gi_big_quiet_step (fail)
        refine ptr_step rfl 128 _ (.tmp 15) (.tmp 16) rfl (some ⟨b, p * 2, none⟩) (some ⟨b, p * 2, none⟩) (by rfl) (by rfl) (.bool false) hneq ?_
        simp only [Act.put, List.setIfInBounds_toArray, List.set_cons_succ, List.set_cons_zero]
        gi_big_quiet_step (fail)
        gi_big_quiet_step (fail)
        gi_big_quiet_step (fail)
        gi_big_quiet_step (fail)
        gi_big_quiet_step (fail)
        gi_big_quiet_step (fail)
        (refine BigFrame.wpQuietIn_want (fun _ _ _ _ => trivial) rfl (fun K hK => ?_); gi_big_quiet_op; refine ⟨_, fun _ => callsIn_wide.2 (ext_same _ (hcon _)), hK _ ?_⟩; clear hK K)
        gi_big_quiet_step (fail)
        refine wpQuietIn_nil ?_
        rintro W2 ⟨xw, rfl⟩
        have hb2 : Below A.heap.size A xw.val := ((Below.refl _ _).drew).trans xw.property
        have hSW := hSX xw
        clear hx4 hxn hcon hent hSX hneq
        generalize xw.val = W2 at *
        have j1 := hJ _ A W2 none h1 (grown_below hb2 none) (fun r e => by cases e)
        have k2 := h2.keep hb2
        have k3 := h3.keep hb2
        have k4 := h4.keep hb2
        have hz2 := hb2.size
        gi_wp2
        refine ⟨trivial, CallsIn.inRound l2 (callsIn_wide.2 ((HWB.out W2 hSW).mono ?_))⟩
        rintro e W3 ⟨rfl, hb3⟩
        have j3 := hJ _ W2 W3 none j1 (grown_below hb3 none) (fun r e => by cases e)
        have m2 := k2.keep hb3
        have m3 := k3.keep hb3
        have m4 := k4.keep hb3
        have hz3 := hb3.size
        have kf3 : KeepsFrom W0.heap.size A W3 := (keepsFrom_below hb2).trans (keepsFrom_below hb3)
        obtain ⟨fn, tmps, assign, body, hy, hR⟩ := yieldAt_wide (m := 1) (hY (ringsF nx p) (way nx p) W3 j3 (by omega) hpre)
        have hyc : W3.cell? ⟨W.heap.size + 1, 0, none⟩ = some (.func (.yield l) #[] #[]) := m3.cell 0
        clear h1 h2 h3 h4 k2 k3 k4 j1
        gi_wp2
        refine hR.mono ?_
        rintro e A2 (⟨rfl, hJ3, hKN, hKF⟩ | ⟨rfl, hJ3, _, hKF⟩)
        · have q2 : At A2 W.heap.size 108 #[.pointer (some ⟨b, 0, none⟩)] := (hKN.same _ (Nat.le_refl _) (by omega)).trans m2
          have q3 : At A2 (W.heap.size + 1) 62 #[.func (.yield l) #[] #[]] := (hKN.same _ (by omega) (by omega)).trans m3
          have q4 : At A2 (W.heap.size + 2) 9 #[.string (txt (ringsF nx p).flatten)] := (hKN.same _ (by omega) (by omega)).trans m4
          have kN : W3.heap.size ≤ A2.heap.size := hKN.size
          have kF : KeepsFrom W0.heap.size A A2 := kf3.trans ⟨hKF.size, fun k o hk h4 h5 => hKF.same k o (by omega) h4 h5⟩
          have c4 : A2.cell? ⟨W.heap.size + 2, 0, none⟩ = some (.string (txt (ringsF nx p).flatten)) := q4.cell 0
          have f4 : A2.frozen? ⟨W.heap.size + 2, 0, none⟩ = false := q4.frozen 0
          have l4 := q4.lt
          have hgs : A2.grownBy (A2.setCell ⟨W.heap.size + 2, 0, none⟩ (.string (txt (ringsF nx p).flatten ++ txt (way nx p)))) (some (W.heap.size + 2)) := grownBy_setCell' A2 (W.heap.size + 2) _
          have j5 := hJW _ A2 _ (W.heap.size + 2) hJ3 (by omega) (by omega) hgs
          have s2 := q2.far (p := ⟨W.heap.size + 2, 0, none⟩) (by simp) (.string (txt (ringsF nx p).flatten ++ txt (way nx p)))
          have s3 := q3.far (p := ⟨W.heap.size + 2, 0, none⟩) (by simp) (.string (txt (ringsF nx p).flatten ++ txt (way nx p)))
          have s4 := q4.set 0 (.string (txt (ringsF nx p).flatten ++ txt (way nx p)))
          clear hR hY m2 m3 m4 q2 q3 q4 hgs
          gi_wp2
          refine ⟨kF.trans ((KeepsOthers.setCell _ _ _).from _), KeepsIn.zero (by simp [World.size_setCell]; omega), ?_, s2, s3, ?_⟩
          · rw [HPL.out, HYES.out]; exact j5
          · rw [HPL.out, HSX2.out]; exact s4
        · have kF : KeepsFrom W0.heap.size A A2 := kf3.trans ⟨hKF.size, fun k o hk h4 h5 => hKF.same k o (by omega) h4 h5⟩
          clear hR hY m2 m3 m4
          gi_wp2
          exact ⟨kF, rfl, _, hpre, hJ3⟩
    · have hno := ringsF_no (nx := nx) (k := p) (fun h => hon ((hm.onR (way_rho hn (by omega))).2 ((onRb_iff hn (by omega)).1 h.1)))
      have HNO := Lib.hid hno
      have hneq : ∀ x : Ext A.heap.size A.drew, ∃ q, spotV b m = .pointer q ∧ (binOp .neq 128 (.pointer q) (.pointer (some ⟨b, p * 2, none⟩))).run Tryz.prog x.val = .ok (.bool true) x.val := fun x => by
        cases m with
        | none => exact ⟨none, rfl, neqp_nil _ _⟩
        | some y => exact ⟨_, rfl, neqp_no x.val b nx (hSX x) y p (fun e => hon (by rw [e]))⟩
      clear hno hon hm
      gi_wp2
      refine region_quiet_inRound (F := Fence.wide) (C := fun w' => ∃ x : Ext A.heap.size A.drew, w' = x.val) rfl (by kernel_rfl) (by kernel_rfl) (by kernel_rfl) ⟨⟨_, Below.refl _ _⟩, rfl⟩ ?_
      simp only
      gi_big_quiet_step (fail)
      (refine BigFrame.wpQuietIn_want (fun _ _ _ _ => trivial) rfl (fun K hK => ?_); gi_big_quiet_op; refine ⟨_, fun _ => callsIn_wide.2 (ext_call _ (Nat.le_refl _) (hENT _)), hK _ ?_⟩; clear hK K)
      gi_big_quiet_step (fail)
      obtain ⟨q, hq1, hq2⟩ : ∃ q, spotV b m = .pointer q ∧ ∀ W, (∃ x : Ext A.heap.size A.drew, W = x.val) → (binOp .neq 128 (.pointer q) (.pointer (some ⟨b, p * 2, none⟩))).run Tryz.prog W = .ok (.bool true) W := by
        obtain ⟨q, e1, _⟩ := hneq ⟨_, Below.refl _ _⟩
        refine ⟨q, e1, ?_⟩
        rintro W ⟨x, rfl⟩
        obtain ⟨q', e2, e3⟩ := hneq x
        rw [e1] at e2
        cases e2
        exact e3
      clear hneq
      rw [hq1]
      refine ptr_step rfl 128 _ (.tmp 15) (.tmp 16) rfl q (some ⟨b, p * 2, none⟩) (by rfl) (by rfl) (.bool true) hq2 ?_
      simp only [Act.put, List.setIfInBounds_toArray, List.set_cons_succ, List.set_cons_zero]
      repeat (first | gi_big_quiet_step (fail) | (refine BigFrame.wpQuietIn_skip (fun _ _ _ _ => trivial) rfl ?_; simp only [Act.put, List.setIfInBounds_toArray, List.set_cons_succ, List.set_cons_zero]))
      refine wpQuietIn_nil ?_
      rintro W2 ⟨xw, rfl⟩
      have hb2 : Below A.heap.size A xw.val := ((Below.refl _ _).drew).trans xw.property
      clear hENT hSX hq2
      generalize xw.val = W2 at *
      have j1 := hJ _ A W2 none h1 (grown_below hb2 none) (fun r e => by cases e)
      have k2 := h2.keep hb2
      have k3 := h3.keep hb2
      have k4 := h4.keep hb2
      gi_wp2
      exact ⟨keepsFrom_below hb2, KeepsIn.zero hb2.size, by rw [HPL.out, HNO.out]; exact j1, k2, k3, by rw [HPL.out, HNO.out]; exact k4⟩
  case done =>
    clear hJ0 hA0 hA1 hA2 hY
    intro D A hD hI hd
    obtain ⟨h1, h2, h3, h4⟩ := hI
    gi_wp2
    refine ⟨by simp, .inl ⟨D, _, rfl, run_takeDeferred hd, ?_⟩⟩
    refine ⟨_, results_none rfl _ _ _, ⟨_, rfl⟩, .inl ?_⟩
    exact hJ.putObj _ h1 (by omega) hd rfl
  case stop =>
    clear hJ0 hA0 hA1 hA2 hY
    rintro D c pre A hD hp ⟨rfl, pre2, hp2, h1⟩ hd
    gi_wp2
    refine ⟨by simp, .inl ⟨D, _, rfl, run_takeDeferred hd, ?_⟩⟩
    refine ⟨_, results_none rfl _ _ _, ⟨_, rfl⟩, .inr ⟨pre2, hp2, ?_⟩⟩
    exact hJx.putObj _ h1 (by omega) hd rfl
end Go.Proofs.YtplapaojgcloaaaGreatDoor
namespace Go.PW
open Go.RowKit Go.PM
theorem Spots.of_at {w w' : World} {b : Nat} {nx : Nat → Option Nat} (h : Spots w b nx) (hk : ∀ t cs, At w b t cs → At w' b t cs) : Spots w' b nx := by
  obtain ⟨t, cs, hA⟩ := h.row
  have hB := hk t cs hA
  exact ⟨⟨t, cs, hB⟩, fun i hi => by rw [hB.cell, ← hA.cell]; exact h.name i hi, fun i hi => by rw [hB.cell, ← hA.cell]; exact h.src i hi⟩
end Go.PW
namespace Go.Proofs.YtplapaojgcloaaaGreatDoor
open Go.RowKit Go.PM Go.PW Go.Lib
attribute [local go_sem] Oper.semAt_some

theorem appIn_str {F : Fence} {k : Nat} {ops : Array Oper} {rest : List Oper} {o : Oper} {a : Act} {Q : Exit → Act → World → Prop} {w : World} (hgd : o.guard = none) (s x : Operand)
    (ho : o.op = .call { callee := .builtin .append, args := #[s, x], argTypes := #[77, 77] })
    (base : Nat) (v : Value) (ys : List ByteArray) (m : ByteArray) (ad : Addr) (c : Nat) (hs : a.eval s = v) (hx : a.eval x = .slice (some ad) 1 c)
    (hown : w.ownsRow base 9 1 v ys.length (tcells ys)) (hnew : ∀ j u, [Value.string m][j]? = some u → w.cell? (ad.add j) = some u)
    (hlen : ys.length ≤ 1048576) (hbase : base ≤ w.heap.size)
    (h : ∀ v' w', w'.ownsRow base 9 1 v' (ys ++ [m]).length (tcells (ys ++ [m])) → w.grownBy w' v.ownBlock → wpListIn F k Tryz.prog ops Q rest (a.put o.dst v') w') : wpListIn F k Tryz.prog ops Q (o :: rest) a w := by
  obtain ⟨i0, hi0, hz0, hz1, hz2⟩ := info_parts infoStr
  refine wpListIn_append_own w hgd s x _ ho base 9 i0 _ 1 16 Tryz.underlying77 hi0 hz0 hz1 hz2 rfl (by omega) v ys.length (tcells ys) hs hown ad 1 c [Value.string m] hx rfl hnew
    (by intro u hu; simp at hu; subst hu; rfl) (by simp only [maxLen]; omega) (by omega) hbase ?_
  intro v' w' h2 h3 _
  refine h v' w' ?_ h3
  rw [tcells_append, List.length_append]
  simpa [tcells] using h2

end Go.Proofs.YtplapaojgcloaaaGreatDoor
namespace Go.PW
open Go.PM
def shut1 (f : Nat → ByteArray) (l : List Nat) : Bool := l.all fun i => decide (rcount f i = 1)
theorem ringsF_mem {nx : Nat → Option Nat} : ∀ k, ∀ l ∈ ringsF nx k, ∃ s, s < k ∧ l = way nx s ∧ onRb nx s = true := by
  intro k
  induction k with
  | zero => intro l h; simp [ringsF] at h
  | succ k ih =>
    intro l h
    by_cases hc : onRb nx k = true ∧ k ∉ (ringsF nx k).flatten
    · rw [ringsF_yes hc.1 hc.2, List.mem_append] at h
      rcases h with h | h
      · obtain ⟨s, h1, h2⟩ := ih l h; exact ⟨s, by omega, h2⟩
      · simp at h; exact ⟨k, by omega, h, hc.1⟩
    · rw [ringsF_no hc] at h
      obtain ⟨s, h1, h2⟩ := ih l h; exact ⟨s, by omega, h2⟩
theorem all_eq {α : Type _} {p q : α → Bool} : ∀ (l : List α), (∀ i ∈ l, p i = q i) → l.all p = l.all q
  | [], _ => rfl
  | a :: l, h => by rw [List.all_cons, List.all_cons, h a (by simp), all_eq l fun i hi => h i (by simp [hi])]
theorem shut_iff {f : Nat → ByteArray} (hf : SV f) {l : List Nat} (hl : l ∈ ringsF (nxT f) 9) : shut f l = shut1 f l := by
  obtain ⟨s, hs, rfl, hon⟩ := ringsF_mem 9 l hl
  unfold shut shut1
  have h : ∀ i ∈ way (nxT f) s, decide (rcount f i ≤ 1) = decide (rcount f i = 1) := fun i hi => by
    rw [decide_eq_decide]; exact ring_one hf (by omega) hon hi
  exact all_eq _ h
theorem closed_take {f : Nat → ByteArray} {l : List Nat} {j : Nat} (hj : j < l.length) : shut1 f (l.take (j + 1)) = (shut1 f (l.take j) && decide (rcount f l[j] = 1)) := by
  unfold shut1
  rw [take_snoc l j hj, List.all_append]; simp
def closedT (f : Nat → ByteArray) (rs : List (List Nat)) : List ByteArray := (rs.filter (shut1 f)).map txt
theorem closedT_yes {f : Nat → ByteArray} {rs : List (List Nat)} {l : List Nat} (h : shut1 f l = true) : closedT f (rs ++ [l]) = closedT f rs ++ [txt l] := by simp [closedT, h]
theorem closedT_no {f : Nat → ByteArray} {rs : List (List Nat)} {l : List Nat} (h : shut1 f l = false) : closedT f (rs ++ [l]) = closedT f rs := by simp [closedT, h]
theorem closedT_len {f : Nat → ByteArray} (rs : List (List Nat)) : (closedT f rs).length ≤ rs.length := by
  unfold closedT; rw [List.length_map]; exact List.length_filter_le _ _
def closedB (xs : List Mv) : List ByteArray := if mvalid xs then closedT (tabOf xs) (ringsF (nxT (tabOf xs)) 9) else []
theorem closedB_len (xs : List Mv) : (closedB xs).length ≤ 1000 := by
  unfold closedB
  by_cases h : mvalid xs = true
  · rw [if_pos h]
    have h1 := (ringsF_lt (nice (SV_tab (by simpa [mvalid] using h))) 9 (by omega)).2.1
    have h2 := closedT_len (f := tabOf xs) (ringsF (nxT (tabOf xs)) 9)
    omega
  · rw [if_neg h]; simp
end Go.PW
namespace Go.Proofs.YtplapaojgcloaaaGreatDoor
open Go.RowKit Go.PM Go.PW Go.Lib

theorem app_strL {ops : Array Oper} {rest : List Oper} {o : Oper} {a : Act} {Q : Exit → Act → World → Prop} {w : World} (hgd : o.guard = none) (s x : Operand)
    (ho : o.op = .call { callee := .builtin .append, args := #[s, x], argTypes := #[77, 77] })
    (base : Nat) (v : Value) (ys : List ByteArray) (m : ByteArray) (ad : Addr) (c : Nat) (hs : a.eval s = v) (hx : a.eval x = .slice (some ad) 1 c)
    (hown : w.ownsRow base 9 1 v ys.length (tcells ys)) (hnew : ∀ j u, [Value.string m][j]? = some u → w.cell? (ad.add j) = some u)
    (hlen : ys.length ≤ 1048576) (hbase : base ≤ w.heap.size)
    (h : ∀ v' w', w'.ownsRow base 9 1 v' (ys ++ [m]).length (tcells (ys ++ [m])) → w.grownBy w' v.ownBlock → (∀ g, v'.ownBlock = some g → v.ownBlock = some g ∨ g = w.heap.size) → wpList Tryz.prog ops Q rest (a.put o.dst v') w') : wpList Tryz.prog ops Q (o :: rest) a w := by
  obtain ⟨i0, hi0, hz0, hz1, hz2⟩ := info_parts infoStr
  refine wpList_append_lies w hgd s x _ ho base 9 i0 _ 1 16 Tryz.underlying77 hi0 hz0 hz1 hz2 rfl (by omega) v ys.length (tcells ys) hs hown ad 1 c [Value.string m] hx rfl hnew
    (by intro u hu; simp at hu; subst hu; rfl) (by omega) (by simp only [maxLen]; omega) (by omega) hbase _ rfl ?_
  intro g cap w' h2 h3 h4 _
  refine h _ w' ?_ h3 (fun g' e => by cases e; exact h4)
  rw [tcells_append, List.length_append]
  simpa [tcells] using h2
end Go.Proofs.YtplapaojgcloaaaGreatDoor
namespace Go.PM
section
variable {F : Fence} {n : Nat} {P : Program} {b : Frame} {a : Act} {k : List Item} {cs : List Frame} {w : World} {Q : Exit → Act → World → Prop}
theorem stepR_scope {c : Code} : step P (lone (b.atR a (.code (.scope c) :: k)) cs w) = .next (lone (b.atR a (.code c :: .inScope c :: k)) cs w) :=
  step_lone_go (by simp [stepG, stepG.exec, Frame.atR])
theorem stepR_inScope {c : Code} : step P (lone (b.atR a (.inScope c :: k)) cs w) = .next (lone (b.atR a k) cs w) :=
  step_lone_go (by simp [stepG, stepG.exec, Frame.atR])
/-- a scope through which the run goes without a goto, inside a fence -/
theorem wpIn_scope {c : Code} (h : c.wpIn F n P (Exit.noGoto Q) a w) : (Code.scope c).wpIn F n P Q a w := by
  intro b k cs hro hb hr
  have h0 : (lone (b.atR a (.code (.scope c) :: k)) cs w).fenced P F := fenced_calm hb hr rfl
  obtain ⟨e, a₁, w₁, hq, harr⟩ := h b (.inScope c :: k) cs hro hb hr
  cases e with
  | normal => exact ⟨.normal, a₁, w₁, hq, .head h0 stepR_scope (StepsIn.trans harr (.one (fenced_calm hb hr rfl) stepR_inScope))⟩
  | exit id' =>
    have hx : exitTo id' (.inScope c :: k) = exitTo id' k := by simp [exitTo]
    exact ⟨.exit id', a₁, w₁, hq, fun k' hk => .head h0 stepR_scope (harr.1 k' (by rw [hx]; exact hk)),
      fun hr' hk => let ⟨k₁, h1, h2⟩ := harr.2 hr' (by rw [hx]; exact hk); ⟨k₁, h1, .head h0 stepR_scope h2⟩⟩
  | goto l => exact hq.elim
  | ret => exact ⟨_, a₁, w₁, hq, .of_steps (.one h0 stepR_scope) harr⟩
  | panic ch => exact ⟨_, a₁, w₁, hq, .of_steps (.one h0 stepR_scope) harr⟩
  | outgrown => exact ⟨_, a₁, w₁, hq, .of_steps (.one h0 stepR_scope) harr⟩
end
end Go.PM
namespace Go.PW
open Go.RowKit Go.PM
def closedS (f : Nat → ByteArray) (rs : List (List Nat)) : List ByteArray := (rs.filter (shut f)).map txt
theorem closedS_yes {f : Nat → ByteArray} {rs : List (List Nat)} {l : List Nat} (h : shut f l = true) : closedS f (rs ++ [l]) = closedS f rs ++ [txt l] := by simp [closedS, h]
theorem closedS_no {f : Nat → ByteArray} {rs : List (List Nat)} {l : List Nat} (h : shut f l = false) : closedS f (rs ++ [l]) = closedS f rs := by simp [closedS, h]
theorem closedS_len {f : Nat → ByteArray} (rs : List (List Nat)) : (closedS f rs).length ≤ rs.length := by
  unfold closedS; rw [List.length_map]; exact List.length_filter_le _ _
theorem closedS_T {f : Nat → ByteArray} (hf : SV f) : closedS f (ringsF (nxT f) 9) = closedT f (ringsF (nxT f) 9) := by
  unfold closedS closedT
  congr 1
  exact List.filter_congr fun l hl => shut_iff hf hl
theorem shut_take {f : Nat → ByteArray} {l : List Nat} {j : Nat} (hj : j < l.length) : shut f (l.take (j + 1)) = (shut f (l.take j) && decide (rcount f l[j] ≤ 1)) := by
  unfold shut
  rw [take_snoc l j hj, List.all_append]; simp
theorem shut_bad {f : Nat → ByteArray} {l : List Nat} {j : Nat} (hj : j < l.length) (h : ¬ rcount f l[j] ≤ 1) : shut f l = false := by
  unfold shut
  rw [List.all_eq_false]
  exact ⟨l[j], List.getElem_mem hj, by simpa using h⟩
end Go.PW
namespace Go.Proofs.YtplapaojgcloaaaGreatDoor
open Go.RowKit Go.PM Go.PW Go.Lib
attribute [local go_sem] Oper.semAt_some

set_option maxRecDepth 100000 in
set_option maxHeartbeats 2000000 in
theorem imClosedRings_c (xs : List Mv) (v : Value) (w : World) (hx : RdM w v xs) :
    Calls Tryz.prog 45 #[v] w fun e w' => ∃ v', e = .returned (.tuple #[v', .bool (mvalid xs)]) ∧ w'.ownsRow w.heap.size 9 1 v' (closedB xs).length (tcells (closedB xs)) ∧ Below w.heap.size w w' := by
  by_cases h1 : MV xs
  · have HT := Lib.hid (tableOf_yes xs h1 v w hx)
    have hm1 : mvalid xs = true := by simpa [mvalid] using h1
    have HM := Lib.hid hm1
    have HS := Lib.hid (show closedB xs = closedS (tabOf xs) (ringsF (nxT (tabOf xs)) 9) by rw [closedB, if_pos hm1, closedS_T (SV_tab h1)])
    have hlt9 := ringsF_lt (nice (SV_tab h1)) 9 (by omega)
    have HRC : Hid (∀ i, rcount (tabOf xs) i = (namesW (rdH (tabOf xs) (sn i))).size) := fun _ => rfl
    have hn := nice (SV_tab h1)
    have HSP := Lib.hid (fun W => spotsOf_c (tabOf xs) (SV_tab h1) W)
    have HLE := Lib.hid (fun k (hk : k ≤ 9) => (ringsF_lt hn k hk).2.1)
    clear h1 hx hm1
    generalize nxT (tabOf xs) = nx at *
    generalize tabOf xs = t at *
    refine (callsIn_wide (n := 5)).1 ?_
    refine callsIn_of_wp_marks Tryz.func45 rfl trivial ?_ rfl
    simp only [Tryz.ntmps45, List.size_toArray, List.length_cons, List.length_nil, Nat.reduceAdd, Nat.reduceSub, Array.replicate_succ, Array.replicate_zero, List.push_toArray, List.append_toArray, List.nil_append, List.cons_append]
    gi_wp2_with fail
    refine wpIn_scope ?_
    gi_wp2_with fail
    refine ⟨trivial, callsIn_wide.2 (HT.out.mono ?_)⟩
    rintro e w1 ⟨rfl, hb1⟩
    have hs1 := hb1.size
    gi_wp2
    obtain ⟨W0, hW0⟩ : ∃ W0 : World, W0 = (w1.alloc (.cells (tabA t) 53)).alloc (.cells #[.slice none 0 0] 77) := ⟨_, rfl⟩
    have hS0 : W0.heap.size = w1.heap.size + 2 := by rw [hW0]; simp only [World.size_alloc]
    have hB0 : Below w.heap.size w W0 := by rw [hW0]; (repeat' (first | (with_reducible exact Below.refl _ _) | (with_reducible assumption) | (with_reducible refine Below.alloc ?_ ?_ _) | (with_reducible refine Below.drew ?_) | (with_reducible refine Below.setCell ?_ ?_ _) | (with_reducible exact Nat.le_refl _) | omega | ((repeat (first | rewrite [World.size_alloc] | rewrite [World.size_setCell] | rewrite [World.size_drew])); omega) | (simp; omega) | (simp; done)))
    have hA0 : At W0 (w1.heap.size + 1) 77 #[.slice none 0 0] := by
      rw [hW0]; have := At.new (w1.alloc (.cells (tabA t) 53)) 77 #[.slice none 0 0]
      rwa [World.size_alloc] at this
    have hT0 : At W0 w1.heap.size 53 (tabA t) := by rw [hW0]; exact (At.new _ _ _).alloc _
    refine wpIn_label ?_
    gi_wp2_with fail
    refine ⟨trivial, callsIn_wide.2 ?_⟩
    rw [← hW0]
    clear hW0
    refine (HSP.out W0).mono ?_
    rintro e W1 ⟨⟨bs, rfl, hbs, hSW⟩, hb2⟩
    have hA1 := hA0.keep hb2
    have hT1 := hT0.keep hb2
    have hB1 : Below w.heap.size w W1 := hB0.trans (hb2.mono hB0.size)
    have hS1 := hb2.size
    have hbl := hSW.lt
    clear hA0 hb2 hB0
    gi_wp2
    refine range_law5 (F := Fence.wide) (gf := 71) (lf := #[.pointer (some ⟨bs, 0, none⟩)]) (lb := #[]) rfl (by decide) rfl trivial (fun args w => rfl) (encs := fun r : List Nat => #[.string (txt r)]) (xs := ringsF nx 9) (κ := 3)
      (rings_iter bs nx hn) (fun _ => rfl)
      (fun pre W => ∃ o, At W (w1.heap.size + 1) 77 #[o] ∧ W.ownsRow (W1.heap.size + 5) 9 1 o (closedS t pre).length (tcells (closedS t pre)) ∧ Spots W bs nx ∧ Below w.heap.size w W ∧ At W w1.heap.size 53 (tabA t))
      (fun _ _ _ => False) ?pr ?iw ?own (fun _ => ownFrom_pure _ _) ?start ?a1 ?assign ?body ?done ?stop
    case pr => rintro pre A ⟨o, _, _, h, _, _⟩; exact h
    case iw =>
      rintro pre A A' r ⟨o, k1, k2, k3, k4, k5⟩ hr1 hr2 hg
      have hge := own_block_ge k2
      refine ⟨o, at_grown' k1 hg (fun e => by cases e; omega), own_grown k2 hg (.inl fun e => ?_), k3.of_at fun t' cs h => at_grown' h hg (fun e => by cases e; omega), k4.trans (below_grown hg k4.size (fun g e => by cases e; have := hB1.size; omega)), at_grown' k5 hg (fun e => by cases e; omega)⟩
      have := hge r e; omega
    case own =>
      rintro s A A' row ⟨o, k1, k2, k3, k4, k5⟩ hg hr
      exact ⟨o, at_turn' k1 hg (fun r e => (hr r e).2), own_turn' k2 hg (fun r e => (hr r e).2), k3.of_at fun t' cs h => at_turn' h hg (fun r e => (hr r e).2), k4.trans (below_grown hg k4.size (fun g e => by have := (hr g e).1; have := hB1.size; omega)), at_turn' k5 hg (fun r e => (hr r e).2)⟩
    case start => exact ⟨_, hA1, ⟨rfl, .inl ⟨rfl, rfl⟩⟩, hSW, hB1, hT1⟩
    case assign =>
      intro l p W Kc hK
      gi_wp2
      exact hK
    case body =>
      rintro l pre r W ⟨o, k1, k2, k3, k4, k5⟩ hp hsz
      have hrmem : r ∈ ringsF nx 9 := hp.mem (by simp)
      have hlt19 : ∀ i ∈ r, i < 19 := fun i hi => hlt9.1 i (List.mem_flatten.2 ⟨r, hrmem, hi⟩)
      have hlen : (closedS t pre).length ≤ 9 := by
        have h1 := hp.length_le
        have h2 := hlt9.2.1
        have h3 := closedS_len (f := t) pre
        simp at h1; omega
      have hrl : r.length ≤ 171 := by
        have h2 := hlt9.2.2
        obtain ⟨a, b, hab⟩ := List.append_of_mem hrmem
        rw [hab] at h2
        simp only [List.flatten_append, List.flatten_cons, List.length_append] at h2
        omega
      have HYES := Lib.hid (fun (h : shut t r = true) => closedS_yes (rs := pre) h)
      have HNO := Lib.hid (fun (h : shut t r = false) => closedS_no (rs := pre) h)
      have HST := Lib.hid (fun j (hj : j < r.length) => shut_take (f := t) hj)
      have HBAD := Lib.hid (fun j (hj : j < r.length) => shut_bad (f := t) hj)
      have HALL : Hid (r.take r.length = r) := List.take_length
      have htz := txt_size r
      have HEX : Hid (∀ j (hj : j < r.length), (txt r).extract j (j + 1) = sn r[j]) := fun j hj => by
        rw [extract_one _ _ (by rw [htz]; exact hj), txt_list, List.getD_eq_getElem?_getD, List.getElem?_map, List.getElem?_eq_getElem hj]; rfl
      clear hp hrmem
      generalize txt r = s at *
      gi_wp2
      gi_loopw [8, 22] (fun _ i A => ∃ (j : Nat), j ≤ r.length ∧ i = .int .i64 j ∧ Hid (shut t (r.take j) = true) ∧ Below W.heap.size W A) (fun _ i _ => r.length - (RowKit.intOf i).toNat)
      case atStart => exact ⟨0, by omega, rfl, rfl, Below.refl _ _⟩
      case round =>
        obtain ⟨j, hj, rfl, hsh, hbA⟩ := hrel
        have hbAs := hbA.size
        rename World => A
        have m1 := k1.keep hbA
        have m2 := own_keep k2 hbA
        have m3 := k3.below hbA
        have m4 := k4.trans (hbA.mono k4.size)
        have m5 := k5.keep hbA
        by_cases hjl : j < r.length
        · have hex := HEX.out j hjl
          have hrd := fun W' => readers_c t (sn r[j]) W'
          have hrc := HRC.out r[j]
          have hst := HST.out j hjl
          have hbad := HBAD.out j hjl
          rw [hsh.out, Bool.true_and] at hst
          generalize namesW (rdH t (sn r[j])) = q at *
          generalize sn r[j] = sr at *
          generalize rcount t r[j] = rc at *
          have HRX := Lib.hid hrd
          have hC := At.ext (W := A.drew) (B := A.heap.size) m5 m5.lt
          have hR : ∀ x : Ext A.heap.size A.drew, Calls Tryz.prog 72 #[tabX t, .string sr] x.val fun e w' => e = .returned (.string q) ∧ Below x.val.heap.size x.val w' := fun x => hrd x.val
          have i0 : (0 : Int) ≤ (j : Int) := by omega
          have i1 : (j : Int) < r.length := by omega
          have HST2 := Lib.hid hst
          have HBAD2 := Lib.hid hbad
          have HRC2 := Lib.hid hrc
          clear hst hbad hrc hrd
          gi_wp2
          refine region_quiet_inRound (F := Fence.wide) (C := fun w' => ∃ x : Ext A.heap.size A.drew, w' = x.val) rfl (by kernel_rfl) (by kernel_rfl) (by kernel_rfl) ⟨⟨_, Below.refl _ _⟩, rfl⟩ ?_
          simp only
          refine rowIn_step rfl 53 (.tmp 4) rfl w1.heap.size 53 (tabA t) (by rfl) hC 9 9 Tryz.underlying53 (by kernel_rfl) ?_
          simp only [Act.put, List.setIfInBounds_toArray, List.set_cons_succ, List.set_cons_zero]
          gi_big_quiet_step (fail)
          gi_big_quiet_step (fail)
          gi_big_quiet_step (fail)
          gi_big_quiet_step (fail)
          gi_big_quiet_step (fail)
          (refine BigFrame.wpQuietIn_want (fun _ _ _ _ => trivial) rfl (fun K hK => ?_); gi_big_quiet_op; refine ⟨_, fun _ => callsIn_wide.2 (ext_call _ (Nat.le_refl _) (hR _)), hK _ ?_⟩; clear hK K)
          gi_big_quiet_step (fail)
          gi_big_quiet_step (fail)
          refine wpQuietIn_nil ?_
          rintro A2 ⟨xw, rfl⟩
          have hb2 : Below A.heap.size A xw.val := ((Below.refl _ _).drew).trans xw.property
          clear hC hR
          generalize xw.val = A2 at *
          by_cases hq : q.size ≤ 1
          · have hq2 : ¬ (1 : Int) < (q.size : Int) := by omega
            have hsh2 : Hid (shut t (r.take (j + 1)) = true) := by show _ = _; rw [HST2.out, HRC2.out]; simpa using hq
            have hbA2 := hbA.trans (hb2.mono hbAs)
            clear m1 m2 m3 m4 m5 hq
            gi_wp2
            go_roundw
            case rel => exact ⟨j + 1, by omega, by go_num, hsh2, hbA2⟩
            case measure => simp [RowKit.intOf]; omega
          · have hq2 : (1 : Int) < (q.size : Int) := by omega
            have hbd := HBAD2.out (by rw [HRC2.out]; exact hq)
            have hno := HNO.out hbd
            have HF := Lib.hid hno
            have hbA2 := hbA.trans (hb2.mono hbAs)
            have n1 := m1.keep hb2
            have n2 := own_keep m2 hb2
            have n3 := m3.below hb2
            have n4 := m4.trans (hb2.mono m4.size)
            have n5 := m5.keep hb2
            clear m1 m2 m3 m4 m5 hq hbd hno k1 k2 k3 k4 k5
            gi_wp2
            exact ⟨keepsFrom_below hbA2, (KeepsNew.below (B := W1.heap.size + 2) hbA2).toIn (Nat.le_refl _) (by omega), _, n1, by rw [HF.out]; exact n2, n3, n4, n5⟩
        · have hjr : j = r.length := by omega
          subst hjr
          have hall := hsh.out
          rw [HALL.out] at hall
          have HY := Lib.hid (HYES.out hall)
          clear hall hsh
          have hsA : W1.heap.size + 5 ≤ A.heap.size := by omega
          have c3 : A.cell? ⟨w1.heap.size + 1, 0, none⟩ = some o := m1.cell 0
          have hl1 := m1.lt
          have hnw := one_new A (.string s) 9
          have hzw := hB1.size
          generalize closedS t pre = ys at *
          gi_wp2_with (gi_at_builtin; refine held ?_)
          unfold Held
          refine appIn_str rfl (.tmp 35) (.tmp 37) rfl (W1.heap.size + 5) o ys s ⟨A.heap.size, 0, none⟩ 1 (by rfl) (by rfl) (own_keep m2 ((Below.refl _ _).alloc (Nat.le_refl _) _)) hnw (by omega) (by simp; omega) ?_
          intro o' W3 hown3 hgrow3
          have j1 : At W3 (w1.heap.size + 1) 77 #[o] := at_grown' (m1.alloc (.cells #[.string s] 9)) hgrow3 (own_box_ne' m2 m1 (by decide))
          have d1 := j1.cell 0
          have d2 := j1.frozen 0
          have hge := own_block_ge m2
          have hK3 : KeepsFrom W1.heap.size A W3 := by
            refine ⟨Nat.le_trans (by simp) hgrow3.size, fun x ob hx1 hx2 hx3 => ?_⟩
            have hx4 := (Array.getElem?_eq_some_iff.1 hx2).1
            refine (hgrow3.block x (by simp; omega) (fun e => ?_)).trans ((Below.heap_alloc _ _ _ hx4).trans hx2)
            rcases m2.2 with ⟨rfl, _⟩ | ⟨g, cap, cur, rfl, _, hh, _⟩
            · cases e
            · cases e
              rw [hh] at hx2
              cases hx2
              cases hx3
          have hI3 : KeepsIn (W1.heap.size + 2) 3 A W3 := by
            refine ⟨Nat.le_trans (by simp) hgrow3.size, fun x hx1 hx2 => ?_⟩
            refine (hgrow3.block x (by simp; omega) (fun e => ?_)).trans (Below.heap_alloc _ _ _ (by omega))
            have := hge x e.symm
            omega
          have hKA : KeepsFrom W1.heap.size W W3 := (keepsFrom_below hbA).trans hK3
          have hIA : KeepsIn (W1.heap.size + 2) 3 W W3 := ⟨Nat.le_trans hbAs hI3.size, fun x hx1 hx2 => (hI3.same x hx1 hx2).trans (hbA.block x (by omega))⟩
          have hSP3 : Spots W3 bs nx := m3.of_at fun t' cs h => at_grown' (h.alloc (.cells #[.string s] 9)) hgrow3 (fun e => by have := hge bs e.symm; omega)
          have hT3 : At W3 w1.heap.size 53 (tabA t) := at_grown' (m5.alloc (.cells #[.string s] 9)) hgrow3 (fun e => by have := hge _ e.symm; omega)
          have hB3 : Below w.heap.size w W3 := (m4.alloc m4.size _).trans (below_grown hgrow3 (by have := m4.size; simp; omega) (fun g e => by have := hge g e; omega))
          have hne3 := own_box_ne' hown3 j1 (by decide)
          have hpn : (ys ++ [s]).length = ys.length + 1 := by simp
          rw [hpn] at hown3
          obtain ⟨A3, cap3, rfl, _⟩ := Rd.of_own hown3
          have q1 : At (W3.setCell ⟨w1.heap.size + 1, 0, none⟩ (.slice A3 (ys.length + 1) cap3)) (w1.heap.size + 1) 77 #[.slice A3 (ys.length + 1) cap3] := j1.set 0 _
          have qS : Spots (W3.setCell ⟨w1.heap.size + 1, 0, none⟩ (.slice A3 (ys.length + 1) cap3)) bs nx := hSP3.of_at fun t' cs h => h.far (by show bs ≠ w1.heap.size + 1; omega) _
          have qT := hT3.far (p := ⟨w1.heap.size + 1, 0, none⟩) (by show w1.heap.size ≠ w1.heap.size + 1; omega) (.slice A3 (ys.length + 1) cap3)
          clear hnw c3 k1 k2 k3 k4 k5 m1 m2 m3 m4 m5 hgrow3 hge hSP3 hK3 hI3
          gi_wp2
          refine ⟨hKA.trans ((KeepsOthers.setCell _ _ _).from _), ⟨by simp [World.size_setCell]; exact hIA.size, fun x hx1 hx2 => (heap_setCell_other _ _ _ _ (by simp; omega)).trans (hIA.same x hx1 hx2)⟩, _, q1, ?_, qS, hB3.setCell (by simp; omega) _, qT⟩
          rw [HY.out, hpn]
          exact hown3.kept (grownBy_setCell' W3 (w1.heap.size + 1) _) (.inr hne3.symm)
    case done =>
      intro D W hD hI hd
      obtain ⟨o, k1, k2, k3, k4, k5⟩ := hI
      have c3 : W.cell? ⟨w1.heap.size + 1, 0, none⟩ = some o := k1.cell 0
      have hown := own_more k2 (show w.heap.size ≤ W1.heap.size + 5 by have := hB1.size; omega)
      have hzw := hB1.size
      clear k1 k2 k3 k5
      gi_wp2
      refine ⟨by simp, .inl ⟨D, _, rfl, run_takeDeferred hd, ?_⟩⟩
      have hW2 : (W.putObj D (.deferred none)).ownsRow w.heap.size 9 1 o (closedB xs).length (tcells (closedB xs)) := by
        rw [HS.out]
        exact own_turn' hown (grownBy_putObj' W D _) (fun r e => by cases e; exact ⟨_, hd, rfl⟩)
      have hR : ∀ tmps : Array Value, tmps.getD 2 undef = o → tmps.getD 3 undef = .bool true → (results Tryz.f45 tmps).run Tryz.prog (W.putObj D (.deferred none)) = .ok (.tuple #[o, .bool true]) (W.putObj D (.deferred none)) := fun tmps h2 h3 => by
        have h2' : tmps[2]?.getD undef = o := by simpa using h2
        have h3' : tmps[3]?.getD undef = .bool true := by simpa using h3
        simp [results, Tryz.results45, h2', h3']
      exact ⟨_, hR _ rfl rfl, _, by rw [HM.out], hW2, k4.trans ⟨rfl, rfl, rfl, by simp [World.putObj], fun k hk => World.putObj_heap_other (by have := k4.size; omega)⟩⟩
    case stop =>
      intro _ _ _ _ _ _ hf
      exact hf.elim
  · have hm0 : mvalid xs = false := by simpa [mvalid] using h1
    have HM := Lib.hid hm0
    have HS := Lib.hid (show closedB xs = [] from if_neg (by rw [hm0]; decide))
    have HT := Lib.hid (tableOf_no xs h1 v w hx)
    clear h1 hx hm0
    go_enter Tryz.func45, Tryz.ntmps45
    go_wp2_with fail
    go_step3
    go_wp2_with fail
    refine HT.out.mono ?_
    rintro e w1 ⟨rfl, hb1⟩
    have hs1 := hb1.size
    go_wp2
    rw [Exit.noGoto_ret]
    go_ret2
    exact ⟨_, by rw [HM.out]; rfl, by rw [HS.out]; exact ⟨rfl, .inl ⟨rfl, rfl⟩⟩, by (repeat' (first | (with_reducible exact Below.refl _ _) | (with_reducible assumption) | (with_reducible refine Below.alloc ?_ ?_ _) | (with_reducible refine Below.drew ?_) | (with_reducible refine Below.setCell ?_ ?_ _) | (with_reducible exact Nat.le_refl _) | omega | ((repeat (first | rewrite [World.size_alloc] | rewrite [World.size_setCell] | rewrite [World.size_drew])); omega) | (simp; omega) | (simp; done)))⟩
end Go.Proofs.YtplapaojgcloaaaGreatDoor
namespace Go.PW
open Go.PM Go.RowKit
variable {nx : Nat → Option Nat}
theorem ringsF_in (hn : Nice nx) {q : Nat} (hq : q < 9) (hr : onRb nx q = true) : ∀ k, q < k → q ∈ (ringsF nx k).flatten := by
  intro k
  induction k with
  | zero => intro h; omega
  | succ k ih =>
    intro h
    by_cases hc : onRb nx k = true ∧ k ∉ (ringsF nx k).flatten
    · rw [ringsF_yes hc.1 hc.2, List.flatten_append, List.mem_append]
      rcases Nat.lt_or_ge q k with h1 | h1
      · exact .inl (ih h1)
      · right
        have : q = k := by omega
        subst this
        obtain ⟨l, hl⟩ := way_first nx q hn (by omega)
        simp [hl]
    · rw [ringsF_no hc]
      rcases Nat.lt_or_ge q k with h1 | h1
      · exact ih h1
      · have : q = k := by omega
        subst this
        exact Classical.not_not.1 fun hm => hc ⟨hr, hm⟩
theorem ringsF_mem2 : ∀ k, ∀ l ∈ ringsF nx k, ∃ s, s < k ∧ l = way nx s ∧ onRb nx s = true ∧ s ∉ (ringsF nx s).flatten := by
  intro k
  induction k with
  | zero => intro l h; simp [ringsF] at h
  | succ k ih =>
    intro l h
    by_cases hc : onRb nx k = true ∧ k ∉ (ringsF nx k).flatten
    · rw [ringsF_yes hc.1 hc.2, List.mem_append] at h
      rcases h with h | h
      · obtain ⟨s, h1, h2⟩ := ih l h; exact ⟨s, by omega, h2⟩
      · simp at h; exact ⟨k, by omega, h, hc⟩
    · rw [ringsF_no hc] at h
      obtain ⟨s, h1, h2⟩ := ih l h; exact ⟨s, by omega, h2⟩
theorem ring_next (hn : Nice nx) {s : Nat} (hs : s < 19) (hr : onRb nx s = true) {x y : Nat} (hx : x ∈ way nx s) (h : nx x = some y) : y ∈ way nx s := by
  have ho := way_rho hn hs
  have e := ho.onR.1 ((onRb_iff hn hs).1 hr)
  obtain ⟨j, hj⟩ := List.getElem?_of_mem hx
  have hjl := (List.getElem?_eq_some_iff.1 hj).1
  rw [ho.at_ j hjl] at hj
  have h2 : orb nx s (j + 1) = some y := by simp only [orb, hj, Option.bind_some]; exact h
  by_cases hl : j + 1 < (way nx s).length
  · rw [ho.some_ hl] at h2
    rw [← Option.some.inj h2]; exact List.getElem_mem hl
  · rw [show j + 1 = (way nx s).length by omega, e] at h2
    obtain rfl := Option.some.inj h2
    exact List.mem_of_getElem? (ho.at_ 0 ho.pos)
theorem ring_orb (hn : Nice nx) {s : Nat} (hs : s < 19) (hr : onRb nx s = true) {x : Nat} (hx : x ∈ way nx s) : ∀ k y, orb nx x k = some y → y ∈ way nx s := by
  intro k
  induction k with
  | zero => intro y h; simp only [orb, Option.some.injEq] at h; rw [← h]; exact hx
  | succ k ih =>
    intro y h
    simp only [orb, Option.bind_eq_some_iff] at h
    obtain ⟨z, h1, h2⟩ := h
    exact ring_next hn hs hr (ih z h1) h2
theorem ring_back (hn : Nice nx) {s : Nat} (hs : s < 19) (hr : onRb nx s = true) {x : Nat} (hx : x ∈ way nx s) : ∃ k, orb nx x k = some s := by
  have ho := way_rho hn hs
  have e := ho.onR.1 ((onRb_iff hn hs).1 hr)
  obtain ⟨j, hj⟩ := List.getElem?_of_mem hx
  have hjl := (List.getElem?_eq_some_iff.1 hj).1
  rw [ho.at_ j hjl] at hj
  refine ⟨(way nx s).length - j, ?_⟩
  have := orb_add (nx := nx) s j ((way nx s).length - j)
  rw [show j + ((way nx s).length - j) = (way nx s).length by omega, e, hj] at this
  exact this.symm
/-- the first place of a ring is its least -/
theorem ring_min (hn : Nice nx) {s : Nat} (hs : s < 9) (hr : onRb nx s = true) (hf : s ∉ (ringsF nx s).flatten) : ∀ q ∈ way nx s, s ≤ q := by
  intro q hq
  rcases Nat.lt_or_ge q s with hlt | hge
  · exfalso
    have hoq := ring_all hn (by omega) ((onRb_iff hn (by omega)).1 hr) q hq
    have hrq := (onRb_iff hn (show q < 19 by omega)).2 hoq
    have h1 := ringsF_in hn (by omega) hrq s hlt
    obtain ⟨l, hl, hql⟩ := List.mem_flatten.1 h1
    obtain ⟨s', hs', rfl, hr', _⟩ := ringsF_mem2 s l hl
    obtain ⟨k, hk⟩ := ring_back hn (show s < 19 by omega) hr hq
    have := ring_orb hn (show s' < 19 by omega) hr' hql k s hk
    exact hf (List.mem_flatten.2 ⟨_, hl, this⟩)
  · exact hge
theorem ringsF_sorted (hn : Nice nx) : ∀ k, k ≤ 9 → (ringsF nx k).Pairwise (fun a b => ∀ x y, a.head? = some x → b.head? = some y → x < y) := by
  intro k
  induction k with
  | zero => intro _; simp [ringsF]
  | succ k ih =>
    intro hk
    by_cases hc : onRb nx k = true ∧ k ∉ (ringsF nx k).flatten
    · rw [ringsF_yes hc.1 hc.2, List.pairwise_append]
      refine ⟨ih (by omega), by simp, fun a ha b hb x y hx hy => ?_⟩
      simp at hb
      subst hb
      obtain ⟨l, hl⟩ := way_first nx k hn (by omega)
      rw [hl] at hy
      simp at hy
      obtain ⟨s, hs, rfl, _⟩ := ringsF_mem2 k a ha
      obtain ⟨l2, hl2⟩ := way_first nx s hn (by omega)
      rw [hl2] at hx
      simp at hx
      omega
    · rw [ringsF_no hc]; exact ih (by omega)
theorem filter_at {α : Type _} (p : α → Bool) : ∀ (l : List α) (n : Nat) (h : n < l.length), p l[n] = true → (l.filter p)[((l.take n).filter p).length]? = some l[n]
  | [], n, h, _ => by simp at h
  | a :: l, 0, _, hp => by
    have hp : p a = true := hp
    simp [hp]
  | a :: l, n + 1, h, hp => by
    have h' : n < l.length := by simpa using h
    have hp : p l[n] = true := hp
    have ih := filter_at p l n h' hp
    by_cases ha : p a = true
    · simp [ha]; exact ih
    · simp [ha]; exact ih
/-- what there is to say of a ring -/
structure RingR (f : Nat → ByteArray) (r : List Nat) : Prop where
  two : 2 ≤ r.length
  le : r.length ≤ 19
  low : ∀ i (h : i < r.length), r[i] < 9
  next : ∀ i (h : i < r.length), sx f r[i] = r[(i + 1) % r.length]'(Nat.mod_lt _ (by omega))
  dep : ∀ i (h : i < r.length), depN (nxT f) r[i] = 0
  min : ∀ i (h : i < r.length), r[0]'(by omega) ≤ r[i]
theorem ringR (f : Nat → ByteArray) (hf : SV f) {r : List Nat} (h : r ∈ ringsF (nxT f) 9) : RingR f r := by
  obtain ⟨s, hs, rfl, hr, hfr⟩ := ringsF_mem2 9 r h
  have hn := nice hf
  have hs19 : s < 19 := by omega
  have ho := way_rho hn hs19
  obtain ⟨i0, h1, h2, h3⟩ := ring_last hf hs19
  obtain ⟨h4, h5, h6⟩ := h3.1 hr
  have hall := ring_all hn hs19 ((onRb_iff hn hs19).1 hr)
  have h0 := wb_zero hf hs19 ho.pos
  refine ⟨h4, ho.len, fun i hi => ring_low hn (hall _ (List.getElem_mem hi)), fun i hi => ?_, fun i hi => ?_, fun i hi => ?_⟩
  · by_cases hl : i + 1 < (way (nxT f) s).length
    · rw [(wb_some hf hs19 hl).2]
      congr 1
      exact (Nat.mod_eq_of_lt hl).symm
    · have he : i + 1 = (way (nxT f) s).length := by omega
      have h7 : (way (nxT f) s)[i] = i0 := by
        rw [show (way (nxT f) s).length - 1 = i by omega, List.getElem?_eq_getElem hi] at h1
        exact Option.some.inj h1
      rw [h7, h6]
      have h8 : (i + 1) % (way (nxT f) s).length = 0 := by rw [he, Nat.mod_self]
      simp only [h8]
      exact h0.symm
  · have h7 := hall _ (List.getElem_mem hi)
    have hx := ho.lt _ (List.getElem_mem hi)
    refine (depN_stops hn hx).unique ⟨by omega, fun j hj => by omega, _, rfl, .inr h7⟩
  · rw [h0]; exact ring_min hn hs hr hfr _ (List.getElem_mem hi)
end Go.PW
namespace Go.PM
open Go.PW
open Go.RowKit
def needB (xs : List Mv) : Bool := decide (0 < (closedB xs).length)
def cioI (xs : List Mv) : Int := if mvalid xs then ((busyF xs 9).length : Int) + ((closedB xs).length : Int) else -1
theorem closedB_no {xs : List Mv} (h : mvalid xs = false) : closedB xs = [] := by
  unfold closedB; rw [h]; rfl
end Go.PM
namespace Go.Proofs.YtplapaojgcloaaaGreatDoor
open Go.RowKit Go.PM Go.PW

set_option maxRecDepth 100000 in
set_option maxHeartbeats 800000 in
theorem imCountInOrder_c (xs : List Mv) (v : Value) (w : World) (hx : RdM w v xs) (hn' : xs.length ≤ 1048576) :
    Calls Tryz.prog 19 #[v] w fun e w' => e = .returned (.int .i64 (cioI xs)) ∧ Below w.heap.size w w' := by
  have HN : Hid (cioI xs = if mvalid xs then ((busyF xs 9).length : Int) + ((closedB xs).length : Int) else -1) := rfl
  have HI : Hid (countI xs = if mvalid xs then ((busyF xs 9).length : Int) else -1) := rfl
  have hl1 := busyF_len xs 9
  have hl2 := closedB_len xs
  have HC := Lib.hid (imClosedRings_c xs v w hx)
  have HB := Lib.hid (fun W (hW : Below w.heap.size w W) => imCountBusy_c xs v W (hx.below hW) hn')
  go_enter Tryz.func19, Tryz.ntmps19
  go_wp2_with fail
  refine HC.out.mono ?_
  rintro e w1 ⟨v', rfl, ho, hb⟩
  obtain ⟨A, cap, rfl, _⟩ := Rd.of_own ho
  clear ho HC hx
  have hs1 := hb.size
  rcases Bool.eq_false_or_eq_true (mvalid xs) with h1 | h1
  · have hci := HI.out
    rw [h1, if_pos rfl] at hci
    have hcb := HB.out _ hb
    rw [hci] at hcb
    generalize (closedB xs).length = n at *
    generalize (busyF xs 9).length = m at *
    go_wp2_with (go_at_call 46; refine hcb.mono ?_; rintro e w2 ⟨rfl, hb2⟩; refine held ?_)
    unfold Held
    have hb3 := hb.trans (hb2.mono hs1)
    clear hb2 hcb hci
    go_wp2
    go_ret
    exact ⟨by rw [HN.out, h1, if_pos rfl]; rfl, hb3⟩
  · go_wp2
    go_ret
    exact ⟨by rw [HN.out, h1]; rfl, hb⟩
end Go.Proofs.YtplapaojgcloaaaGreatDoor
namespace Go.PM
open Go.RowKit
/-- a move that changes what a later one reads -/
def BadO (x m : Mv) : Prop := x.1 = m.2 ∧ x.2 ≠ m.2 ∧ isD m.2 = false
instance (x m : Mv) : Decidable (BadO x m) := inferInstanceAs (Decidable (_ ∧ _))
def GoodO (xs : List Mv) : Prop := xs.Pairwise fun x m => ¬ BadO x m
instance (xs : List Mv) : Decidable (GoodO xs) := inferInstanceAs (Decidable (List.Pairwise _ _))
def ordB (xs : List Mv) : Bool := mvalid xs && decide (GoodO xs)
theorem GoodO_step (xs : List Mv) (k : Nat) (hk : k < xs.length) : GoodO (xs.take (k + 1)) ↔ GoodO (xs.take k) ∧ ∀ x ∈ xs.take k, ¬ BadO x xs[k] := by
  unfold GoodO
  rw [take_snoc xs k hk, List.pairwise_append]
  simp
theorem GoodO_take {xs : List Mv} (h : GoodO xs) (k : Nat) : GoodO (xs.take k) := List.Pairwise.sublist (List.take_sublist _ _) h
theorem ordB_no {xs : List Mv} {k : Nat} (h : ¬ GoodO (xs.take k)) : ordB xs = false := by
  unfold ordB
  rw [decide_eq_false (fun hg => h (GoodO_take hg k)), Bool.and_false]
/-- which places the moves change -/
def chgF (xs : List Mv) (q : Nat) : Bool := xs.any fun x => decide (x.1 = nm q ∧ x.1 ≠ x.2)
def boolC (f : Nat → Bool) : Array Value := #[.bool (f 0), .bool (f 1), .bool (f 2), .bool (f 3), .bool (f 4), .bool (f 5), .bool (f 6), .bool (f 7), .bool (f 8)]
theorem boolC_at (f : Nat → Bool) (p : Nat) (hp : p < 9) : (boolC f)[p]? = some (.bool (f p)) := by
  match p, hp with
  | 0, _ | 1, _ | 2, _ | 3, _ | 4, _ | 5, _ | 6, _ | 7, _ | 8, _ => rfl
theorem boolC_set (f : Nat → Bool) (p : Nat) (hp : p < 9) (b : Bool) : (boolC f).setIfInBounds p (.bool b) = boolC (fun q => if q = p then b else f q) := by
  match p, hp with
  | 0, _ | 1, _ | 2, _ | 3, _ | 4, _ | 5, _ | 6, _ | 7, _ | 8, _ => simp [boolC]
theorem boolC_congr {f g : Nat → Bool} (h : ∀ p, p < 9 → f p = g p) : boolC f = boolC g := by
  unfold boolC
  rw [h 0 (by omega), h 1 (by omega), h 2 (by omega), h 3 (by omega), h 4 (by omega), h 5 (by omega), h 6 (by omega), h 7 (by omega), h 8 (by omega)]
theorem chgF_step {xs : List Mv} (h : MV xs) (k : Nat) (hk : k < xs.length) : boolC (fun q => if q = pidx xs[k].1 then decide (xs[k].1 ≠ xs[k].2) else chgF (xs.take k) q) = boolC (chgF (xs.take (k + 1))) := by
  have hm := h.1 _ (List.getElem_mem hk)
  unfold mok at hm; rw [Bool.and_eq_true] at hm
  have hp := pidx_spec hm.1
  have hkey := ((MV_step k hk).1 (MV_take h (k + 1))).2.2
  refine boolC_congr fun q hq => ?_
  unfold chgF
  rw [take_snoc xs k hk, List.any_append, List.any_cons, List.any_nil, Bool.or_false]
  by_cases e : q = pidx xs[k].1
  · subst e
    rw [if_pos rfl, hp.2]
    have h0 : (xs.take k).any (fun x => decide (x.1 = xs[k].1 ∧ x.1 ≠ x.2)) = false := by
      rw [List.any_eq_false]
      intro x hx e2
      rw [decide_eq_true_eq] at e2
      exact hkey (List.mem_map.2 ⟨x, hx, e2.1⟩)
    rw [h0, Bool.false_or, decide_eq_decide]
    exact ⟨fun h => ⟨rfl, h⟩, fun h => h.2⟩
  · rw [if_neg e]
    have : decide (xs[k].1 = nm q ∧ xs[k].1 ≠ xs[k].2) = false := by
      rw [decide_eq_false_iff_not]
      intro h2
      exact e (by rw [h2.1, pidx_nm hq])
    rw [this, Bool.or_false]
theorem chg_bad {xs : List Mv} (k : Nat) (hk : k < xs.length) (hp : isP xs[k].2 = true) (hc : chgF (xs.take k) (pidx xs[k].2) = true) : ¬ GoodO (xs.take (k + 1)) := by
  rw [GoodO_step xs k hk]
  rintro ⟨_, h⟩
  unfold chgF at hc
  rw [(pidx_spec hp).2, List.any_eq_true] at hc
  obtain ⟨x, hx, e⟩ := hc
  rw [decide_eq_true_eq] at e
  exact h x hx ⟨e.1, fun e2 => e.2 (e.1.trans e2.symm), (isP_cases hp).1⟩
theorem chg_good {xs : List Mv} (k : Nat) (hk : k < xs.length) (hg : GoodO (xs.take k)) (hc : isP xs[k].2 = true → chgF (xs.take k) (pidx xs[k].2) = false) (hs : isS xs[k].2 = true) : GoodO (xs.take (k + 1)) := by
  rw [GoodO_step xs k hk]
  refine ⟨hg, fun x hx hb => ?_⟩
  unfold isS at hs
  rw [Bool.or_eq_true] at hs
  rcases hs with hp | hd
  · have := hc hp
    unfold chgF at this
    rw [(pidx_spec hp).2, List.any_eq_false] at this
    exact this x hx (by rw [decide_eq_true_eq]; exact ⟨hb.1, fun e => hb.2.1 (e.symm.trans hb.1)⟩)
  · rw [hb.2.2] at hd; cases hd
end Go.PM
namespace Go.Proofs.YtplapaojgcloaaaGreatDoor
open Go.RowKit Go.PM

end Go.Proofs.YtplapaojgcloaaaGreatDoor
namespace Go.PM
open Go.RowKit Go.PW
/-- moves that can be done as they stand do themselves -/
theorem ord_run {xs : List Mv} (h : MV xs) (hg : GoodO xs) : ∀ k, k ≤ xs.length → ∀ p, p < 9 → runM (xs.take k) nmT p = if nm p ∈ (xs.take k).map (·.1) then rdS nmT (srcM xs (nm p)) else nmT p := by
  intro k
  induction k with
  | zero => intro _ p _; simp [runM]
  | succ k ih =>
    intro hk p hp
    have hlt : k < xs.length := by omega
    have ih := ih (by omega)
    have hm := h.1 _ (List.getElem_mem hlt)
    unfold mok at hm; rw [Bool.and_eq_true] at hm
    have hP := pidx_spec hm.1
    have hC := cidx_P hm.1
    have hsrc : srcM xs xs[k].1 = xs[k].2 := srcM_of_mem h (List.getElem_mem hlt)
    have hgk := (GoodO_step xs k hlt).1 (GoodO_take hg (k + 1))
    -- what the move reads is as at the start
    have hrd : rdS (runM (xs.take k) nmT) xs[k].2 = rdS nmT xs[k].2 := by
      rcases Bool.eq_false_or_eq_true (isC xs[k].2) with hc | hc
      · rw [rdS_cell hc, rdS_cell hc]
        have hp2 : isP xs[k].2 = true := by
          have hs := hm.2
          unfold isS at hs
          rw [Bool.or_eq_true] at hs
          rcases hs with hs | hs
          · exact hs
          · rw [isD_notC hs] at hc; cases hc
        have hq := cidx_P hp2
        rw [ih _ hq.2.1, hq.2.2]
        split
        · next hin =>
          obtain ⟨x, hx, ex⟩ := List.mem_map.1 hin
          have hnb := hgk.2 x hx
          have hx2 : x.2 = xs[k].2 := Classical.not_not.1 fun hne => hnb ⟨ex, hne, (isP_cases hp2).1⟩
          have hxs : srcM xs x.1 = x.2 := srcM_of_mem h (List.mem_of_mem_take hx)
          have ex' : x.1 = xs[k].2 := ex
          rw [ex'] at hxs
          rw [hxs, hx2, rdS_cell hc]
        · rfl
      · rw [rdS_digit hc, rdS_digit hc]
    have hrun : runM (xs.take (k + 1)) nmT = updS (runM (xs.take k) nmT) (cidx xs[k].1) (rdS (runM (xs.take k) nmT) xs[k].2) := by
      unfold runM
      rw [take_snoc xs k hlt, List.foldl_append]; rfl
    rw [hrun, hrd]
    have hkeys : nm p ∈ (xs.take (k + 1)).map (·.1) ↔ nm p ∈ (xs.take k).map (·.1) ∨ nm p = xs[k].1 := by
      rw [take_snoc xs k hlt, List.map_append, List.mem_append]; simp
    by_cases e : nm p = xs[k].1
    · have hpc : cidx xs[k].1 = p := by rw [← e, (cidx_nm hp).2]
      rw [updS, if_pos hpc.symm, if_pos (hkeys.2 (.inr e)), e, hsrc]
    · have hpc : p ≠ cidx xs[k].1 := fun e2 => e (by rw [e2]; exact hC.2.2)
      rw [updS, if_neg hpc, ih p hp]
      by_cases hin : nm p ∈ (xs.take k).map (·.1)
      · rw [if_pos hin, if_pos (hkeys.2 (.inl hin))]
      · rw [if_neg hin, if_neg (fun h2 => (hkeys.1 h2).elim hin e)]
theorem ord_right {xs : List Mv} (h : ordB xs = true) : irB (stL xs) xs = true := by
  unfold ordB at h
  rw [Bool.and_eq_true, decide_eq_true_eq] at h
  have hMV : MV xs := by simpa [mvalid] using h.1
  have hl := MV_len hMV
  refine right_of_run (svalid_stL (by omega) fun m hm => ?_) hMV fun p hp => ?_
  · have := hMV.1 m hm
    unfold mok isS at this
    rw [Bool.and_eq_true, Bool.or_eq_true] at this
    refine ⟨.inl this.1, ?_⟩
    rcases this.2 with h2 | h2
    · exact .inl h2
    · exact .inr (.inl h2)
  · have := ord_run hMV h.2 xs.length (Nat.le_refl _) p hp
    rw [List.take_length] at this
    rw [this]
    split
    · rfl
    · next hn =>
      have : srcM xs (nm p) = nm p := srcM_none hn
      rw [this, rdS_nm nmT hp]
/-- what is taken ahead: no taken move's place is read by a later one -/
theorem takF_facts : ∀ (n : Nat) (ws : List Mv), (ws.map (·.1)).Nodup → (takF n ws).Pairwise (fun x m => x.1 ≠ m.2) ∧ ((takF n ws).map (·.1)).Nodup ∧ (∀ m ∈ takF n ws, m ∈ ws) ∧ (ws.length ≤ n → (takF n ws).length = ws.length → ∀ m ∈ ws, m ∈ takF n ws)
  | 0, ws, _ => by
    refine ⟨List.Pairwise.nil, List.nodup_nil, fun m h => (by cases h), fun h _ m hm => ?_⟩
    have : ws = [] := List.length_eq_zero_iff.1 (by omega)
    rw [this] at hm; cases hm
  | n + 1, ws, hk => by
    cases ha : aheadI ws with
    | none =>
      rw [takF_none ha]
      refine ⟨List.Pairwise.nil, List.nodup_nil, fun m h => (by cases h), fun _ h m hm => ?_⟩
      have : ws = [] := List.length_eq_zero_iff.1 h.symm
      rw [this] at hm; cases hm
    | some i =>
      obtain ⟨hi, hf⟩ := aheadI_some ha
      rw [takF_some hi ha]
      have hk2 : ((ws.eraseIdx i).map (·.1)).Nodup := hk.sublist ((List.eraseIdx_sublist ws i).map _)
      obtain ⟨f1, f2, f3, f4⟩ := takF_facts n (ws.eraseIdx i) hk2
      refine ⟨List.Pairwise.cons (fun m hm e => rdN_zero.1 hf m (erase_mem (f3 m hm)) e.symm) f1, ?_, fun m hm => ?_, fun hl he m hm => ?_⟩
      · rw [List.map_cons, List.nodup_cons]
        refine ⟨fun hmem => ?_, f2⟩
        obtain ⟨x, hx, e⟩ := List.mem_map.1 hmem
        exact erase_key hk hi x (f3 x hx) e
      · rw [List.mem_cons] at hm
        rcases hm with rfl | hm
        · exact List.getElem_mem hi
        · exact erase_mem (f3 m hm)
      · rw [List.length_cons] at he
        have hle : (ws.eraseIdx i).length = ws.length - 1 := List.length_eraseIdx_of_lt hi
        rw [List.mem_cons]
        rcases erase_or hi hm with h2 | h2
        · exact .inl h2
        · exact .inr (f4 (by omega) (by omega) m h2)
theorem busyF_MV {xs : List Mv} (h : MV xs) : MV (busyF xs 9) := by
  have hl : busyF xs 9 = lsF (fun p => srcM xs (nm p)) 9 := rfl
  rw [hl]; exact lsF_MV (SVal_M h)
theorem busyF_mem {xs : List Mv} (h : MV xs) (m : Mv) : m ∈ busyF xs 9 ↔ m ∈ xs ∧ m.1 ≠ m.2 := by
  have hl : busyF xs 9 = lsF (fun p => srcM xs (nm p)) 9 := rfl
  rw [hl]
  constructor
  · intro hm
    obtain ⟨p, _, hne, e⟩ := lsF_mem hm
    rw [e]
    exact ⟨mem_of_srcM hne, fun e => hne e.symm⟩
  · rintro ⟨hm, hne⟩
    have hok := h.1 m hm
    unfold mok at hok; rw [Bool.and_eq_true] at hok
    have hp := pidx_spec hok.1
    have hs := srcM_of_mem h hm
    refine List.mem_map.2 ⟨pidx m.1, List.mem_filter.2 ⟨List.mem_range.2 hp.1, ?_⟩, ?_⟩
    · unfold lsH
      simp only [hp.2, hs, decide_eq_true_eq]
      exact fun e => hne e.symm
    · simp only [hp.2, hs]
theorem wsp_good {xs : List Mv} (h : wspB xs = true) : ordB (wspM xs) = true ∧ sameM (wspM xs) xs = true := by
  have hw : wspM xs = takM xs := by unfold wspM; rw [if_pos h]
  unfold wspB at h
  rw [Bool.and_eq_true, decide_eq_true_eq] at h
  have hMV : MV xs := by simpa [mvalid] using h.1
  have hB := busyF_MV hMV
  obtain ⟨f1, f2, f3, f4⟩ := takF_facts 9 (busyF xs 9) hB.2
  have hT : MV (takM xs) := ⟨fun m hm => hB.1 m (f3 m hm), f2⟩
  rw [hw]
  constructor
  · unfold ordB
    rw [Bool.and_eq_true, decide_eq_true_eq]
    refine ⟨by simpa [mvalid] using hT, List.Pairwise.imp ?_ f1⟩
    intro x m hne hb
    exact hne hb.1
  · have h4 := f4 (busyF_len xs 9) h.2
    have key : ∀ a, srcM (takM xs) a = srcM xs a := fun a => by
      by_cases h0 : srcM (takM xs) a = a
      · by_cases h1 : srcM xs a = a
        · rw [h0, h1]
        · have h3 := mem_of_srcM h1
          exact srcM_of_mem hT (h4 _ ((busyF_mem hMV (a, srcM xs a)).2 ⟨h3, fun e => h1 e.symm⟩))
      · have h3 := f3 _ (mem_of_srcM h0)
        exact (srcM_of_mem hMV ((busyF_mem hMV _).1 h3).1).symm
    unfold sameM
    rw [show mvalid (takM xs) = true by simpa [mvalid] using hT, h.1, Bool.true_and, Bool.true_and, List.all_eq_true]
    intro p _
    unfold sameAt
    rw [key, decide_eq_true rfl]
/-- moves that wait for one another are never taken -/
theorem takF_ring (R : Mv → Prop) : ∀ (n : Nat) (ws : List Mv), (∃ m, R m) → (∀ m, R m → m ∈ ws ∧ ∃ x, R x ∧ x.2 = m.1) → (takF n ws).length < ws.length
  | 0, ws, ⟨m, hm⟩, hR => by
    have := List.length_pos_of_mem (hR m hm).1
    exact this
  | n + 1, ws, hne, hR => by
    cases ha : aheadI ws with
    | none =>
      rw [takF_none ha]
      obtain ⟨m, hm⟩ := hne
      exact List.length_pos_of_mem (hR m hm).1
    | some i =>
      obtain ⟨hi, hf⟩ := aheadI_some ha
      rw [takF_some hi ha, List.length_cons]
      have hz := rdN_zero.1 hf
      have := takF_ring R n (ws.eraseIdx i) hne (fun m hm => by
        obtain ⟨h1, x, hx, ex⟩ := hR m hm
        refine ⟨?_, x, hx, ex⟩
        rcases erase_or hi h1 with e | e
        · exact absurd (by rw [ex, e]) (hz x (hR x hx).1)
        · exact e)
      rw [List.length_eraseIdx_of_lt hi] at this
      omega
/-- where not all are taken, some wait for one another -/
theorem takF_left : ∀ (n : Nat) (ws : List Mv), Wt ws → ws.length ≤ n → (takF n ws).length < ws.length → ∃ vs : List Mv, vs ≠ [] ∧ (∀ m ∈ vs, m ∈ ws) ∧ ∀ m ∈ vs, ∃ x ∈ vs, x.1 = m.2
  | 0, ws, _, hl, h => by omega
  | n + 1, ws, hw, hl, h => by
    cases ha : aheadI ws with
    | none =>
      rw [takF_none ha] at h
      refine ⟨ws, fun e => by rw [e] at h; simp at h, fun m hm => hm, (hw.full ha).2.1⟩
    | some i =>
      obtain ⟨hi, hf⟩ := aheadI_some ha
      rw [takF_some hi ha, List.length_cons] at h
      have hle : (ws.eraseIdx i).length = ws.length - 1 := List.length_eraseIdx_of_lt hi
      obtain ⟨vs, h1, h2, h3⟩ := takF_left n (ws.eraseIdx i) (hw.erase i) (by omega) (by omega)
      exact ⟨vs, h1, fun m hm => erase_mem (h2 m hm), h3⟩
theorem busy_nx {xs : List Mv} (h : MV xs) {m : Mv} (hm : m ∈ busyF xs 9) : nxT (tabOf xs) (pidx m.1) = some (sidx m.2) ∧ isP m.1 = true ∧ m.2 = sn (sidx m.2) ∧ sidx m.2 < 19 := by
  have hB := (busyF_MV h).1 m hm
  unfold mok at hB; rw [Bool.and_eq_true] at hB
  have hp := pidx_spec hB.1
  have hs := sidx_spec hB.2
  have hx := (busyF_mem h m).1 hm
  have hsrc : srcT (tabOf xs) (pidx m.1) = m.2 := by rw [srcM_place h hB.1, srcM_of_mem h hx.1]
  have hsx : sx (tabOf xs) (pidx m.1) = sidx m.2 := by unfold sx; rw [hsrc]
  refine ⟨?_, hB.1, hs.2.symm, hs.1⟩
  rw [nxT_some hp.1 (by rw [hsx]; intro e; apply hx.2; rw [← hp.2, ← hs.2, e, sn_nm _ hp.1]), hsx]
theorem wsp_rings {xs : List Mv} (h : MV xs) : wspB xs = decide (ringsF (nxT (tabOf xs)) 9 = []) := by
  have hf := SV_tab h
  have hn := nice hf
  have hw : wspB xs = decide ((takM xs).length = (busyF xs 9).length) := by
    unfold wspB; rw [show mvalid xs = true by simpa [mvalid] using h]; rfl
  rw [hw, decide_eq_decide]
  constructor
  · intro heq
    refine Classical.byContradiction fun hne => ?_
    obtain ⟨l, hl⟩ := List.exists_mem_of_ne_nil _ hne
    obtain ⟨s, hs9, rfl, hon, _⟩ := ringsF_mem2 9 l hl
    have hs19 : s < 19 := by omega
    have hO := (onRb_iff hn hs19).1 hon
    have hall := ring_all hn hs19 hO
    -- the moves of the ring
    have hmv : ∀ p, p ∈ way (nxT (tabOf xs)) s → p < 9 ∧ (nm p, srcM xs (nm p)) ∈ busyF xs 9 ∧ nxT (tabOf xs) p = some (sx (tabOf xs) p) := fun p hp => by
      have hp9 := ring_low hn (hall p hp)
      have hne2 : sx (tabOf xs) p ≠ p := fun e => by
        obtain ⟨k, hk, ek⟩ := hall p hp
        obtain ⟨k, rfl⟩ : ∃ m, k = m + 1 := ⟨k - 1, by omega⟩
        rw [show k + 1 = 1 + k by omega, orb_add] at ek
        simp only [orb, Option.bind_some, nxT_stay hp9 e] at ek
        cases ek
      refine ⟨hp9, ?_, nxT_some hp9 hne2⟩
      have hsrc : srcM xs (nm p) ≠ nm p := fun e => by
        rw [← srcM_nm h hp9] at e
        exact hne2 ((src_self hf hp9).1 e)
      exact (busyF_mem h _).2 ⟨mem_of_srcM hsrc, fun e => hsrc e.symm⟩
    have := takF_ring (fun m => ∃ p, p ∈ way (nxT (tabOf xs)) s ∧ m = (nm p, srcM xs (nm p))) 9 (busyF xs 9)
      ⟨_, s, List.mem_of_getElem? ((way_rho hn hs19).at_ 0 (way_rho hn hs19).pos), rfl⟩ (by
        rintro m ⟨p, hp, rfl⟩
        refine ⟨(hmv p hp).2.1, ?_⟩
        -- its reader on the ring
        obtain ⟨k, hk, ek⟩ := hall p hp
        obtain ⟨k, rfl⟩ : ∃ m, k = m + 1 := ⟨k - 1, by omega⟩
        have ek' := ek
        simp only [orb, Option.bind_eq_some_iff] at ek'
        obtain ⟨q, hq1, hq2⟩ := ek'
        have hqw := ring_orb hn hs19 hon hp k q hq1
        obtain ⟨hq9, _, hqn⟩ := hmv q hqw
        rw [hqn] at hq2
        have hsxq : sx (tabOf xs) q = p := Option.some.inj hq2
        refine ⟨(nm q, srcM xs (nm q)), ⟨q, hqw, rfl⟩, ?_⟩
        show srcM xs (nm q) = nm p
        rw [← srcM_nm h hq9, ← (sx_lt hf hq9).2, hsxq, sn_nm p (hmv p hp).1])
    unfold takM at heq
    omega
  · intro hr
    refine Classical.byContradiction fun hne => ?_
    have hlt : (takF 9 (busyF xs 9)).length < (busyF xs 9).length := by
      have := takF_len 9 (busyF xs 9)
      unfold takM at hne
      omega
    obtain ⟨vs, hv0, hv1, hv2⟩ := takF_left 9 (busyF xs 9) (busyF_Wt h) (busyF_len xs 9) hlt
    obtain ⟨m0, hm0⟩ := List.exists_mem_of_ne_nil _ hv0
    -- the way from there never ends
    have hway : ∀ k, ∃ m ∈ vs, orb (nxT (tabOf xs)) (pidx m0.1) k = some (pidx m.1) := by
      intro k
      induction k with
      | zero => exact ⟨m0, hm0, rfl⟩
      | succ k ih =>
        obtain ⟨m, hm, e⟩ := ih
        obtain ⟨x, hx, ex⟩ := hv2 m hm
        have hb := busy_nx h (hv1 m hm)
        have hxP := (busy_nx h (hv1 x hx)).2.1
        refine ⟨x, hx, ?_⟩
        simp only [orb, e, Option.bind_some, hb.1]
        rw [ex, Option.some.injEq]
        exact sidx_pidx (by rw [← ex]; exact hxP)
    have hlt9 : ∀ k, k ≤ 9 → ((orb (nxT (tabOf xs)) (pidx m0.1) k).getD 0) < 9 := fun k _ => by
      obtain ⟨m, hm, e⟩ := hway k
      rw [e]
      exact (pidx_spec (busy_nx h (hv1 m hm)).2.1).1
    obtain ⟨i, j, hij, _, e⟩ := pigeon 9 (fun k => (orb (nxT (tabOf xs)) (pidx m0.1) k).getD 0) hlt9
    obtain ⟨mi, hmi, ei⟩ := hway i
    obtain ⟨mj, hmj, ej⟩ := hway j
    simp only [ei, ej, Option.getD_some] at e
    have hq9 := (pidx_spec (busy_nx h (hv1 mi hmi)).2.1).1
    have hon : OnR (nxT (tabOf xs)) (pidx mi.1) := by
      refine ⟨j - i, by omega, ?_⟩
      have := orb_add (nx := nxT (tabOf xs)) (pidx m0.1) i (j - i)
      rw [show i + (j - i) = j by omega, ej, ei] at this
      rw [e]
      simpa [e] using this.symm
    have := ringsF_in hn hq9 ((onRb_iff hn (by omega)).2 hon) 9 hq9
    rw [hr] at this
    cases this
end Go.PM
namespace Go.PW
open Go.PM Go.RowKit
/-- the first place of a ring -/
def firstR (nx : Nat → Option Nat) (s : Nat) : Bool := onRb nx s && decide (s ∉ (ringsF nx s).flatten)
theorem ringsF_map (nx : Nat → Option Nat) : ∀ k, ringsF nx k = ((List.range k).filter (firstR nx)).map (way nx) := by
  intro k
  induction k with
  | zero => rfl
  | succ k ih =>
    rw [List.range_succ, List.filter_append, List.map_append, ← ih]
    by_cases hc : onRb nx k = true ∧ k ∉ (ringsF nx k).flatten
    · have hf : firstR nx k = true := by unfold firstR; rw [hc.1, decide_eq_true hc.2]; rfl
      rw [ringsF_yes hc.1 hc.2]; simp [hf]
    · have hf : firstR nx k = false := by
        unfold firstR
        rcases Bool.eq_false_or_eq_true (onRb nx k) with h1 | h1
        · rw [h1, decide_eq_false (fun h2 => hc ⟨h1, h2⟩)]; rfl
        · rw [h1]; rfl
      rw [ringsF_no hc]; simp [hf]
theorem closedB_count {xs : List Mv} (h : MV xs) : (closedB xs).length = ((List.range 9).filter fun s => firstR (nxT (tabOf xs)) s && shut1 (tabOf xs) (way (nxT (tabOf xs)) s)).length := by
  unfold closedB closedT
  rw [if_pos (by simpa [mvalid] using h), List.length_map, ringsF_map, List.filter_map, List.length_map, List.filter_filter]
  congr 1
  refine List.filter_congr fun s _ => ?_
  exact Bool.and_comm _ _
theorem rcount_rdN {xs : List Mv} (h : MV xs) {q : Nat} (hq : q < 9) : rdN (busyF xs 9) (nm q) = rcount (tabOf xs) q := by
  have e1 : rcount (tabOf xs) q = ((List.range 9).filter (rdH (tabOf xs) (sn q))).length := by
    unfold rcount namesW
    simp [ByteArray.size, namesL]
  have e2 : rdN (busyF xs 9) (nm q) = ((List.range 9).filter fun p => busyH xs p && (srcM xs (nm p) == nm q)).length := by
    unfold rdN busyF
    rw [List.map_map, List.count_eq_countP, List.countP_map, List.countP_eq_length_filter, List.filter_filter]
    congr 1
    refine List.filter_congr fun p _ => ?_
    exact Bool.and_comm _ _
  rw [e1, e2]
  congr 1
  refine List.filter_congr fun p hp => ?_
  have hp9 := List.mem_range.1 hp
  have e3 : srcT (tabOf xs) p = srcM xs (nm p) := srcT_M h hp9
  unfold busyH rdH
  rw [e3, sn_nm q hq, Bool.eq_iff_iff, Bool.and_eq_true, Bool.and_eq_true, decide_eq_true_eq, beq_iff_eq, decide_eq_true_eq, decide_eq_true_eq]
  constructor
  · rintro ⟨h1, h2⟩; exact ⟨fun e => h1 (by rw [h2, e]), h2⟩
  · rintro ⟨h1, h2⟩; exact ⟨fun e => h1 (by rw [← e, h2]), h2⟩
theorem busy_next {xs : List Mv} (h : MV xs) {p : Nat} (hp : p < 9) {b : ByteArray} (hb : (nm p, b) ∈ busyF xs 9) : ∃ j, nxT (tabOf xs) p = some j ∧ sn j = b ∧ sidx b = j := by
  obtain ⟨h1, h2⟩ := (busyF_mem h _).1 hb
  have hs : srcM xs (nm p) = b := srcM_of_mem h h1
  have e3 : srcT (tabOf xs) p = srcM xs (nm p) := srcT_M h hp
  have hf := SV_tab h
  have hx := sx_lt hf hp
  rw [e3, hs] at hx
  have hne : sx (tabOf xs) p ≠ p := fun e => by
    rw [e, sn_nm p hp] at hx
    exact h2 hx.2
  exact ⟨_, nxT_some hp hne, hx.2, by rw [← hx.2, sidx_sn hx.1]⟩
theorem next_busy {xs : List Mv} (h : MV xs) {p j : Nat} (hn : nxT (tabOf xs) p = some j) : p < 9 ∧ (nm p, sn j) ∈ busyF xs 9 := by
  have hf := SV_tab h
  have hp : p < 9 := (nice hf).low p j hn
  refine ⟨hp, ?_⟩
  unfold nxT at hn
  rw [if_pos hp] at hn
  by_cases e : sx (tabOf xs) p = p
  · rw [if_pos e] at hn; cases hn
  · rw [if_neg e, Option.some.injEq] at hn
    have hx := sx_lt hf hp
    have e3 : srcT (tabOf xs) p = srcM xs (nm p) := srcT_M h hp
    rw [e3, hn] at hx
    have hj : j ≠ p := fun e2 => e (by rw [hn, e2])
    have hne : srcM xs (nm p) ≠ nm p := by
      rw [← hx.2, ← sn_nm p hp]
      exact fun e2 => hj (sn_inj hx.1 (by omega) e2)
    rw [hx.2]
    exact (busyF_mem h _).2 ⟨mem_of_srcM hne, fun e2 => hne e2.symm⟩
theorem clo_bridge {xs : List Mv} (h : MV xs) {p : Nat} (hp : p < 9) :
    Clo (busyF xs 9) p ↔ (firstR (nxT (tabOf xs)) p && shut1 (tabOf xs) (way (nxT (tabOf xs)) p)) = true := by
  have hf := SV_tab h
  have hn := nice hf
  have hr := way_rho hn (show p < 19 by omega)
  rw [Bool.and_eq_true]
  unfold firstR shut1
  rw [Bool.and_eq_true, decide_eq_true_eq, List.all_eq_true]
  constructor
  · rintro ⟨n, o, h0, o0, on, hk⟩
    have hoP : ∀ k, k < n → isP (o k) = true := fun k hkn => by
      have h1 := ((busyF_mem h _).1 (hk k hkn).1).1
      have := h.1 _ h1
      unfold mok at this; rw [Bool.and_eq_true] at this; exact this.1
    have hstep : ∀ k, k < n → ∃ j, j < n ∧ nxT (tabOf xs) (pidx (o k)) = some (pidx (o j)) ∧ o j = o (k + 1) := fun k hkn => by
      obtain ⟨j, hj, e⟩ := ring_wrap h0 (on.trans o0.symm) hkn
      have hs := pidx_spec (hoP k hkn)
      have hb := (hk k hkn).1
      rw [← hs.2] at hb
      obtain ⟨t, ht1, ht2, ht3⟩ := busy_next h hs.1 hb
      refine ⟨j, hj, ?_, e.symm⟩
      rw [ht1, ← ht3, e, sidx_pidx (hoP j hj)]
    have horb : ∀ k, ∃ j, j < n ∧ orb (nxT (tabOf xs)) p k = some (pidx (o j)) := by
      intro k
      induction k with
      | zero => exact ⟨0, h0, by rw [o0, pidx_nm hp]; rfl⟩
      | succ k ih =>
        obtain ⟨j, hj, e⟩ := ih
        obtain ⟨j', hj', e', _⟩ := hstep j hj
        exact ⟨j', hj', by simp only [orb, e, Option.bind_some]; exact e'⟩
    have horb2 : ∀ k, k < n → orb (nxT (tabOf xs)) p k = some (pidx (o k)) := by
      intro k
      induction k with
      | zero => intro _; rw [o0, pidx_nm hp]; rfl
      | succ k ih =>
        intro hk1
        obtain ⟨j', hj', e', e2⟩ := hstep k (by omega)
        simp only [orb, ih (by omega), Option.bind_some]
        rw [e', e2]
    have hon : OnR (nxT (tabOf xs)) p := by
      refine ⟨n, h0, ?_⟩
      obtain ⟨m, rfl⟩ : ∃ m, n = m + 1 := ⟨n - 1, by omega⟩
      obtain ⟨j', hj', e', e2⟩ := hstep m (by omega)
      simp only [orb, horb2 m (by omega), Option.bind_some]
      rw [e', e2, on, pidx_nm hp]
    have hrb := (onRb_iff hn (show p < 19 by omega)).2 hon
    have hway : ∀ i ∈ way (nxT (tabOf xs)) p, ∃ j, j < n ∧ i = pidx (o j) := fun i hi => by
      obtain ⟨k, hk1⟩ := List.getElem?_of_mem hi
      have hkl := (List.getElem?_eq_some_iff.1 hk1).1
      rw [hr.at_ k hkl] at hk1
      obtain ⟨j, hj, e⟩ := horb k
      rw [hk1] at e
      exact ⟨j, hj, Option.some.inj e⟩
    refine ⟨⟨hrb, fun hm => ?_⟩, fun i hi => ?_⟩
    · obtain ⟨l, hl, hpl⟩ := List.mem_flatten.1 hm
      obtain ⟨s, hs, rfl, hr', _⟩ := ringsF_mem2 p l hl
      obtain ⟨k, hk1⟩ := ring_back hn (show s < 19 by omega) hr' hpl
      obtain ⟨j, hj, e⟩ := horb k
      rw [hk1] at e
      have := (hk j hj).2.2
      have := Option.some.inj e
      omega
    · obtain ⟨j, hj, rfl⟩ := hway i hi
      have hs := pidx_spec (hoP j hj)
      rw [decide_eq_true_eq, ← rcount_rdN h hs.1, hs.2]
      exact (hk j hj).2.1
  · rintro ⟨⟨hrb, hfi⟩, hsh⟩
    have hon := (onRb_iff hn (show p < 19 by omega)).1 hrb
    have hend := hr.onR.1 hon
    have hmin := ring_min hn hp hrb hfi
    refine ⟨(way (nxT (tabOf xs)) p).length, fun k => sn ((orb (nxT (tabOf xs)) p k).getD 0), hr.pos, sn_nm p hp, ?_, fun k hk => ?_⟩
    · show sn ((orb (nxT (tabOf xs)) p (way (nxT (tabOf xs)) p).length).getD 0) = nm p
      rw [hend]; exact sn_nm p hp
    · have hk1 := hr.some_ hk
      have hmem : (way (nxT (tabOf xs)) p)[k] ∈ way (nxT (tabOf xs)) p := List.getElem_mem hk
      generalize (way (nxT (tabOf xs)) p)[k] = i at hk1 hmem
      have hi := ring_low hn (ring_all hn (show p < 19 by omega) hon i hmem)
      have hnx : ∃ j, nxT (tabOf xs) i = some j := by
        have := ring_all hn (show p < 19 by omega) hon i hmem
        obtain ⟨k', hk', e⟩ := this
        obtain ⟨k', rfl⟩ : ∃ m, k' = m + 1 := ⟨k' - 1, by omega⟩
        rw [show k' + 1 = 1 + k' by omega, orb_add] at e
        cases h1 : nxT (tabOf xs) i with
        | none => rw [show orb (nxT (tabOf xs)) i 1 = none by simp only [orb, Option.bind_some]; exact h1] at e; cases e
        | some j => exact ⟨j, rfl⟩
      obtain ⟨j, hj⟩ := hnx
      have hk2 : orb (nxT (tabOf xs)) p (k + 1) = some j := by simp only [orb, hk1, Option.bind_some]; exact hj
      refine ⟨?_, ?_, ?_⟩
      · show (sn ((orb (nxT (tabOf xs)) p k).getD 0), sn ((orb (nxT (tabOf xs)) p (k + 1)).getD 0)) ∈ _
        rw [hk1, hk2]
        show (sn i, sn j) ∈ _
        rw [sn_nm i hi]
        exact (next_busy h hj).2
      · show rdN _ (sn ((orb (nxT (tabOf xs)) p k).getD 0)) = 1
        rw [hk1]
        show rdN _ (sn i) = 1
        rw [sn_nm i hi, rcount_rdN h hi]
        have := hsh i hmem
        simpa using this
      · show p ≤ pidx (sn ((orb (nxT (tabOf xs)) p k).getD 0))
        rw [hk1]
        show p ≤ pidx (sn i)
        rw [sn_nm i hi, pidx_nm hi]
        exact hmin i hmem
theorem clo_closed {xs : List Mv} (h : MV xs) : cloN (busyF xs 9) = (closedB xs).length := by
  rw [closedB_count h]
  unfold cloN
  congr 1
  refine List.filter_congr fun p hp => ?_
  rw [Bool.eq_iff_iff, cloB_iff]
  exact clo_bridge h (List.mem_range.1 hp)
theorem wrB_stp (m : Mv) : wrB (stpM m) = m.1 := wrB_move 0 m.1 m.2 (by decide)
theorem wrL_stL (ms : List Mv) : wrL (stL ms) = ms.flatMap fun m => m.1.data.toList := by
  unfold wrL stL
  rw [List.flatMap_map]
  congr 1
theorem sp_byte {a : ByteArray} (h : isP a = true ∨ a = spT) : (116 ∈ a.data.toList ↔ a = spT) ∧ 117 ∉ a.data.toList := by
  rcases h with h | rfl
  · obtain ⟨p, hp, rfl⟩ := nm_of_isP h
    match p, hp with
    | 0, _ | 1, _ | 2, _ | 3, _ | 4, _ | 5, _ | 6, _ | 7, _ | 8, _ => decide +kernel
  · decide +kernel
theorem tcH_stL {ms : List Mv} (hm : ∀ m ∈ ms, isP m.1 = true ∨ m.1 = spT) : tcH (stL ms) 9 = ms.any (fun m => decide (m.1 = spT)) ∧ tcH (stL ms) 10 = false := by
  unfold tcH inTx
  rw [wrL_stL]
  constructor
  · rw [Bool.eq_iff_iff, decide_eq_true_eq, List.any_eq_true, List.mem_flatMap]
    constructor
    · rintro ⟨m, h1, h2⟩; exact ⟨m, h1, decide_eq_true ((sp_byte (hm m h1)).1.1 h2)⟩
    · rintro ⟨m, h1, h2⟩; exact ⟨m, h1, (sp_byte (hm m h1)).1.2 (of_decide_eq_true h2)⟩
  · rw [decide_eq_false_iff_not, List.mem_flatMap]
    rintro ⟨m, h1, h2⟩
    exact (sp_byte (hm m h1)).2 h2
/-- what FnOrderMoves asks of the answers -/
theorem ord_facts {xs : List Mv} (h : MV xs) : ((ordM xs).length : Int) = cioI xs ∧ cioI xs = ((busyF xs 9).length : Int) + ((closedB xs).length : Int) ∧
    pmH (tcB (stL (ordM xs))) ⟨#[116]⟩ = needB xs ∧ pmH (tcB (stL (ordM xs))) ⟨#[117]⟩ = false := by
  have hm : mvalid xs = true := by simpa [mvalid] using h
  have hw := ordF_count 19 (busyF xs 9) (busyF_Wt h) (busyF_Srt xs) busy_mu
  have hv := ordM_valid h
  have ho := ordF_ok 19 (busyF xs 9) (busyF_Wt h)
  have ht := tcH_stL (ms := ordF 19 (busyF xs 9)) fun m hm => (ho m hm).1
  have e : tcB (stL (ordM xs)) = pickB cellsL (tcH (stL (ordM xs))) 11 := by unfold tcB; rw [hv]; rfl
  refine ⟨?_, ?_, ?_, ?_⟩
  · rw [ordM_yes h, hw.1, clo_closed h]
    unfold cioI; rw [if_pos hm]; omega
  · unfold cioI; rw [if_pos hm]
  · rw [e, ordM_yes h]
    have := pmH_pick (tcH (stL (ordF 19 (busyF xs 9)))) 9 (by omega)
    rw [ht.1, hw.2, clo_closed h] at this
    exact this
  · rw [e, ordM_yes h]
    have := pmH_pick (tcH (stL (ordF 19 (busyF xs 9)))) 10 (by omega)
    rw [ht.2] at this
    exact this
end Go.PW
