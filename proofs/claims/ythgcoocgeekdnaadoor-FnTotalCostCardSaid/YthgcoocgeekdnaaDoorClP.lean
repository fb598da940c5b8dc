import Derived.Test.YthgcoocgeekdnaaDoorSlF
import Derived.Test.YthgcoocgeekdnaaDoorBusyP
import Derived.Test.YthgcoocgeekdnaaDoorComp
namespace Go.PF
open Go.PM Go.PD Go.RowKit Go.Lib
/-- a text of one letter -/
abbrev ch (c : UInt8) : ByteArray := ⟨#[c]⟩
theorem ch_inj {c d : UInt8} (h : ch c = ch d) : c = d := by
  have := congrArg (fun s : ByteArray => s.data.toList.headD 0) h
  simpa using this
theorem ch_size (c : UInt8) : (ch c).size = 1 := rfl
theorem isP_reg {c : UInt8} (h : c ∈ regsL) : isP (ch c) = true := by
  simp only [regsL, List.mem_cons, List.not_mem_nil, or_false] at h
  rcases h with rfl | rfl | rfl | rfl | rfl | rfl <;> decide +kernel
theorem ch_nm {c : UInt8} (h : isP (ch c) = true) : pidx (ch c) < 9 ∧ nm (pidx (ch c)) = ch c := pidx_spec h
theorem isS_ascii {c : UInt8} (h : isS (ch c) = true) : c.toNat < 128 := by
  unfold isS at h
  rw [Bool.or_eq_true] at h
  rcases h with h | h
  · have h2 : c ∈ placesL := by simpa [isP] using h
    simp only [placesL, List.mem_cons, List.not_mem_nil, or_false] at h2
    rcases h2 with rfl | rfl | rfl | rfl | rfl | rfl | rfl | rfl | rfl <;> decide
  · have h2 : 48 ≤ c.toNat ∧ c.toNat ≤ 57 := by simpa [isD] using h
    omega
/-- parameters -/
def parOk (l : List UInt8) : Bool := decide (1 ≤ l.length ∧ l.length ≤ 4) && decide (l.Nodup ∧ ∀ c ∈ l, c ∈ regsL)
theorem par_len {l : List UInt8} (h : parOk l = true) : 1 ≤ l.length ∧ l.length ≤ 4 := by
  unfold parOk at h
  rw [Bool.and_eq_true, decide_eq_true_eq] at h
  exact h.1
theorem par_nodup {l : List UInt8} (h : parOk l = true) : l.Nodup := by
  unfold parOk at h
  rw [Bool.and_eq_true, decide_eq_true_eq, decide_eq_true_eq] at h
  exact h.2.1
theorem par_reg {l : List UInt8} (h : parOk l = true) : ∀ c ∈ l, c ∈ regsL := by
  unfold parOk at h
  rw [Bool.and_eq_true, decide_eq_true_eq, decide_eq_true_eq] at h
  exact h.2.2
theorem par_place {l : List UInt8} (h : parOk l = true) : ∀ c ∈ l, isP (ch c) = true := fun c hc => isP_reg (par_reg h c hc)
/-- whether a text is one of arguments -/
def arsOk (az : List UInt8) : Bool := az.all fun c => isS (ch c)
def clOk (ps az : List UInt8) : Bool := arsOk az && (parOk ps && decide (az.length = ps.length))
def clM (ps az : List UInt8) : List Mv := (ps.zip az).map fun x => (ch x.1, ch x.2)
def clL (ps az : List UInt8) : List Mv := if clOk ps az then clM ps az else []
theorem cl_par {ps az : List UInt8} (h : clOk ps az = true) : parOk ps = true := by
  unfold clOk at h; rw [Bool.and_eq_true, Bool.and_eq_true] at h; exact h.2.1
theorem cl_len {ps az : List UInt8} (h : clOk ps az = true) : az.length = ps.length := by
  unfold clOk at h; rw [Bool.and_eq_true, Bool.and_eq_true, decide_eq_true_eq] at h; exact h.2.2
theorem cl_src {ps az : List UInt8} (h : clOk ps az = true) : ∀ c ∈ az, isS (ch c) = true := by
  unfold clOk at h; rw [Bool.and_eq_true] at h
  exact fun c hc => List.all_eq_true.1 h.1 c hc
theorem cl_mk {ps az : List UInt8} (h1 : parOk ps = true) (h2 : az.length = ps.length) (h3 : ∀ c ∈ az, isS (ch c) = true) : clOk ps az = true := by
  unfold clOk arsOk
  rw [List.all_eq_true.2 h3, h1, decide_eq_true h2]; rfl
theorem clL_yes {ps az : List UInt8} (h : clOk ps az = true) : clL ps az = clM ps az := if_pos h
theorem clL_no {ps az : List UInt8} (h : clOk ps az = false) : clL ps az = [] := by unfold clL; rw [h]; rfl
theorem clM_len (ps az : List UInt8) (h : az.length = ps.length) : (clM ps az).length = ps.length := by simp [clM, h]
theorem clM_at {ps az : List UInt8} (k : Nat) (hk : k < (clM ps az).length) (h1 : k < ps.length) (h2 : k < az.length) : (clM ps az)[k] = (ch ps[k], ch az[k]) := by
  simp [clM]
theorem clM_keys (ps az : List UInt8) (h : az.length = ps.length) : (clM ps az).map (·.1) = ps.map ch := by
  unfold clM
  rw [List.map_map]
  have e : ((fun m : Mv => m.1) ∘ fun x : UInt8 × UInt8 => (ch x.1, ch x.2)) = ch ∘ Prod.fst := rfl
  rw [e, ← List.map_map, List.map_fst_zip (by omega)]
theorem map_ch_nodup {l : List UInt8} (h : l.Nodup) : (l.map ch).Nodup := by
  induction l with
  | nil => simp
  | cons a l ih =>
    rw [List.nodup_cons] at h
    rw [List.map_cons, List.nodup_cons]
    refine ⟨fun hm => ?_, ih h.2⟩
    obtain ⟨b, hb, e⟩ := List.mem_map.1 hm
    have := ch_inj e
    subst this; exact h.1 hb
theorem cl_MV {ps az : List UInt8} (h : clOk ps az = true) : MV (clM ps az) := by
  refine ⟨fun m hm => ?_, ?_⟩
  · obtain ⟨x, hx, rfl⟩ := List.mem_map.1 hm
    have h1 := (List.of_mem_zip hx).1
    have h2 := (List.of_mem_zip hx).2
    unfold mok
    rw [par_place (cl_par h) _ h1, cl_src h _ h2]; rfl
  · rw [clM_keys ps az (cl_len h)]
    exact map_ch_nodup (par_nodup (cl_par h))
theorem cl_mv {ps az : List UInt8} (h : clOk ps az = true) : mvalid (clM ps az) = true := by simpa [mvalid] using cl_MV h
theorem clL_short (ps az : List UInt8) : (clL ps az).length ≤ 4 := by
  unfold clL
  split
  · next h => rw [clM_len _ _ (cl_len h)]; exact (par_len (cl_par h)).2
  · simp
theorem cl_at {ps az : List UInt8} (h : clOk ps az = true) (k : Nat) (h1 : k < ps.length) (h2 : k < az.length) : srcM (clM ps az) (ch ps[k]) = ch az[k] := by
  have hk : k < (clM ps az).length := by rw [clM_len _ _ (cl_len h)]; exact h1
  have e := clM_at k hk h1 h2
  have := srcM_of_mem (cl_MV h) (List.getElem_mem hk)
  rw [e] at this
  exact this
theorem cl_other {ps az : List UInt8} (h : clOk ps az = true) {c : UInt8} (hc : c ∉ ps) : srcM (clM ps az) (ch c) = ch c := by
  by_cases e : srcM (clM ps az) (ch c) = ch c
  · exact e
  · have := mem_of_srcM e
    have h2 : ch c ∈ (clM ps az).map (·.1) := List.mem_map.2 ⟨_, this, rfl⟩
    rw [clM_keys _ _ (cl_len h)] at h2
    obtain ⟨d, hd, e2⟩ := List.mem_map.1 h2
    have := ch_inj e2
    subst this; exact absurd hd hc
/-- from where parameters get their values -/
def arL (S : ByteArray → ByteArray) (ps : List UInt8) : List UInt8 := ps.flatMap fun c => (S (ch c)).data.toList
def arB (S : ByteArray → ByteArray) (ps : List UInt8) : ByteArray := ⟨(arL S ps).toArray⟩
theorem arB_list (S : ByteArray → ByteArray) (ps : List UInt8) : (arB S ps).data.toList = arL S ps := by simp [arB]
theorem arB_nil (S : ByteArray → ByteArray) : arB S [] = ⟨#[]⟩ := rfl
theorem arB_step (S : ByteArray → ByteArray) (l : ByteArray) (k : Nat) (hk : k < l.size) : arB S (l.data.toList.take k) ++ S (l.extract k (k + 1)) = arB S (l.data.toList.take (k + 1)) := by
  have hl : k < l.data.toList.length := by rw [size_data]; exact hk
  apply ByteArray.ext
  rw [ByteArray.data_append, extract_one l k hk, List.getD_eq_getElem?_getD, List.getElem?_eq_getElem hl, take_snoc _ k hl]
  simp [arB, arL]
theorem arL_congr {S T : ByteArray → ByteArray} {ps : List UInt8} (h : ∀ c ∈ ps, S (ch c) = T (ch c)) : arL S ps = arL T ps := by
  induction ps with
  | nil => rfl
  | cons a l ih =>
    have h1 := h a (List.mem_cons_self ..)
    have h2 := ih fun c hc => h c (List.mem_cons_of_mem _ hc)
    unfold arL at h2 ⊢
    rw [List.flatMap_cons, List.flatMap_cons, h1, h2]
theorem arB_congr {S T : ByteArray → ByteArray} {ps : List UInt8} (h : ∀ c ∈ ps, S (ch c) = T (ch c)) : arB S ps = arB T ps := by unfold arB; rw [arL_congr h]
theorem arL_len {S : ByteArray → ByteArray} : ∀ {ps : List UInt8}, (∀ c ∈ ps, (S (ch c)).size = 1) → (arL S ps).length = ps.length
  | [], _ => rfl
  | a :: l, h => by
    have h1 := h a (List.mem_cons_self ..)
    have h2 := arL_len (ps := l) fun c hc => h c (List.mem_cons_of_mem _ hc)
    unfold arL at h2 ⊢
    rw [List.flatMap_cons, List.length_append, h2, size_data, h1, List.length_cons]; omega
theorem arB_size {S : ByteArray → ByteArray} {ps : List UInt8} (h : ∀ c ∈ ps, (S (ch c)).size = 1) : (arB S ps).size = ps.length := by
  have := size_data (arB S ps)
  rw [arB_list, arL_len h] at this
  exact this.symm
/-- arguments whose number is that of parameters, letter by letter -/
theorem arL_at {S : ByteArray → ByteArray} : ∀ {ps : List UInt8} (_ : ∀ c ∈ ps, (S (ch c)).size = 1) (k : Nat) (h1 : k < ps.length) (h2 : k < (arL S ps).length), ch (arL S ps)[k] = S (ch ps[k])
  | [], _, k, h1, _ => absurd h1 (Nat.not_lt_zero _)
  | a :: l, h, 0, _, h2 => by
    obtain ⟨d, hd⟩ := one_of_size (h a (List.mem_cons_self ..))
    have e : arL S (a :: l) = d :: arL S l := by unfold arL; rw [List.flatMap_cons, hd]; rfl
    simp only [e, List.getElem_cons_zero]
    exact hd.symm
  | a :: l, h, k + 1, h1, h2 => by
    obtain ⟨d, hd⟩ := one_of_size (h a (List.mem_cons_self ..))
    have e : arL S (a :: l) = d :: arL S l := by unfold arL; rw [List.flatMap_cons, hd]; rfl
    have := arL_at (ps := l) (fun c hc => h c (List.mem_cons_of_mem _ hc)) k (by simpa using h1) (by rw [e] at h2; simpa using h2)
    simp only [e, List.getElem_cons_succ]
    exact this
/-- the arguments of a call are those that its moves give -/
theorem cl_args {ps az : List UInt8} (h : clOk ps az = true) : arL (srcM (clM ps az)) ps = az := by
  have hs : ∀ c ∈ ps, (srcM (clM ps az) (ch c)).size = 1 := fun c hc => by
    obtain ⟨k, hk, rfl⟩ := List.getElem_of_mem hc
    rw [cl_at h k hk (by rw [cl_len h]; exact hk)]; rfl
  have hl := arL_len hs
  apply List.ext_getElem
  · rw [hl, cl_len h]
  · intro k h1 h2
    have h3 : k < ps.length := by omega
    have e1 := arL_at hs k h3 h1
    rw [cl_at h k h3 h2] at e1
    exact ch_inj e1
/-- pieces of a text -/
def pcM (ps : List UInt8) (qs : List ByteArray) : List Mv := (ps.zip qs).map fun x => (ch x.1, x.2)
def callOk (ps : List UInt8) (qs : List ByteArray) : Bool := (parOk ps && decide (qs.length = ps.length)) && qs.all isS
def callL (ps : List UInt8) (qs : List ByteArray) : List Mv := if callOk ps qs then pcM ps qs else []
theorem pcM_len {ps : List UInt8} {qs : List ByteArray} (h : qs.length = ps.length) : (pcM ps qs).length = ps.length := by simp [pcM, h]
theorem pcM_at {ps : List UInt8} {qs : List ByteArray} (k : Nat) (hk : k < (pcM ps qs).length) (h1 : k < ps.length) (h2 : k < qs.length) : (pcM ps qs)[k] = (ch ps[k], qs[k]) := by
  simp [pcM]
theorem callL_yes {ps : List UInt8} {qs : List ByteArray} (h : callOk ps qs = true) : callL ps qs = pcM ps qs := if_pos h
theorem callL_no {ps : List UInt8} {qs : List ByteArray} (h : callOk ps qs = false) : callL ps qs = [] := by unfold callL; rw [h]; rfl
def Pcs (az : List UInt8) (qs : List ByteArray) : Prop := qs = az.map ch ∨ ((∃ c ∈ az, ¬ c.toNat < 128) ∧ (qs = [] ∨ qs.flatMap (·.data.toList) = az))
theorem call_eq {ps az : List UInt8} {qs : List ByteArray} (h : Pcs az qs) : callOk ps qs = clOk ps az ∧ callL ps qs = clL ps az := by
  rcases h with rfl | ⟨⟨c, hc, hn⟩, h⟩
  · have e : callOk ps (az.map ch) = clOk ps az := by
      unfold callOk clOk arsOk
      rw [List.length_map, List.all_map, Bool.and_comm]; rfl
    refine ⟨e, ?_⟩
    unfold callL clL
    rw [e]
    have e2 : pcM ps (az.map ch) = clM ps az := by
      unfold pcM clM
      rw [List.zip_map_right, List.map_map]; rfl
    rw [e2]
  · have e1 : clOk ps az = false := by
      cases hb : clOk ps az with
      | false => rfl
      | true => exact absurd (isS_ascii (cl_src hb c hc)) hn
    have e2 : callOk ps qs = false := by
      cases hb : callOk ps qs with
      | false => rfl
      | true =>
        unfold callOk at hb
        rw [Bool.and_eq_true, Bool.and_eq_true, decide_eq_true_eq] at hb
        obtain ⟨⟨h1, h2⟩, h3⟩ := hb
        rcases h with rfl | rfl
        · have := (par_len h1).1
          rw [← h2] at this
          exact absurd this (by simp)
        · obtain ⟨q, hq, hcq⟩ := List.mem_flatMap.1 hc
          have hs := List.all_eq_true.1 h3 q hq
          obtain ⟨d, rfl⟩ := one_of_size (isS_size hs)
          have : c = d := by simpa using hcq
          subst this
          exact absurd (isS_ascii hs) hn
    exact ⟨by rw [e1, e2], by rw [clL_no e1, callL_no e2]⟩
/-- moves that change parameters alone -/
def hd1 (s : ByteArray) : UInt8 := s.data.toList.headD 0
def inPs (ps : List UInt8) (m : Mv) : Bool := decide (hd1 m.1 ∈ ps)
def agS (ps : List UInt8) (xs : List Mv) : Bool := xs.all fun m => decide (m.1 = m.2) || inPs ps m
def agI (ps : List UInt8) (xs : List Mv) : Bool := (lsF (srcT (tabOf xs)) 9).all (inPs ps)
def agOk (ps : List UInt8) (xs : List Mv) : Bool := (parOk ps && mvalid xs) && agS ps xs
def agB (ps : List UInt8) (xs : List Mv) : ByteArray := okS (agOk ps xs) (arB (srcM xs) ps)
theorem agI_S (ps : List UInt8) {xs : List Mv} (h : MV xs) : agI ps xs = agS ps xs := by
  unfold agI agS
  rw [Bool.eq_iff_iff, List.all_eq_true, List.all_eq_true]
  constructor
  · intro h1 m hm
    by_cases e : m.1 = m.2
    · rw [decide_eq_true e]; rfl
    · rw [decide_eq_false e, Bool.false_or]
      obtain ⟨hp, en⟩ := pidx_spec (s := m.1) (by have := h.1 m hm; unfold mok at this; rw [Bool.and_eq_true] at this; exact this.1)
      have e2 := srcM_of_mem h hm
      have e3 : srcT (tabOf xs) (pidx m.1) = m.2 := by rw [srcT_M h hp, en]; exact e2
      have hmem : (nm (pidx m.1), srcT (tabOf xs) (pidx m.1)) ∈ lsF (srcT (tabOf xs)) 9 := by
        unfold lsF
        refine List.mem_map.2 ⟨pidx m.1, ?_, rfl⟩
        rw [List.mem_filter, List.mem_range]
        refine ⟨hp, ?_⟩
        unfold lsH
        rw [decide_eq_true_eq, e3, en]
        exact fun he => e he.symm
      have := h1 _ hmem
      unfold inPs at this ⊢
      rw [en] at this
      exact this
  · intro h1 m hm
    obtain ⟨p, hp, hne, rfl⟩ := lsF_mem hm
    rw [srcT_M h hp] at hne
    have := h1 _ (mem_of_srcM hne)
    rw [decide_eq_false (fun e => hne e.symm), Bool.false_or] at this
    exact this
theorem agS_in {ps : List UInt8} {xs : List Mv} (h : agS ps xs = true) {a : ByteArray} (hne : srcM xs a ≠ a) : hd1 a ∈ ps := by
  have := List.all_eq_true.1 h _ (mem_of_srcM hne)
  rw [decide_eq_false (fun e => hne e.symm), Bool.false_or] at this
  exact of_decide_eq_true this
/-- what tables and lists tell of parameters -/
theorem beh_src {ps : List UInt8} (h : parOk ps = true) {xs : List Mv} (hx : MV xs) : arB (behF (tabOf xs)) ps = arB (srcM xs) ps :=
  arB_congr fun c hc => by
    have hp := par_place h c hc
    unfold behF
    rw [if_pos hp]
    exact srcM_place hx hp
def caS (xs ys : List Mv) (a : ByteArray) : ByteArray := cmpM xs ys (pidx a)
theorem beh_then {ps : List UInt8} (h : parOk ps = true) {xs ys : List Mv} (hx : MV xs) (hy : MV ys) : arB (behF (thenF (tabOf xs) (tabOf ys))) ps = arB (caS xs ys) ps :=
  arB_congr fun c hc => by
    have hp := par_place h c hc
    unfold behF caS
    rw [if_pos hp, srcT_then]
    exact cmpF_congr (fun q hq => srcT_M hx hq) (fun q hq => srcT_M hy hq) (ch_nm hp).1
theorem src_comp {ps : List UInt8} (h : parOk ps = true) (xs ys : List Mv) : arB (srcM (lsF (cmpM xs ys) 9)) ps = arB (caS xs ys) ps :=
  arB_congr fun c hc => by
    have hp := ch_nm (par_place h c hc)
    have := lsF_src (cmpM xs ys) hp.1
    rw [hp.2] at this
    exact this
def laS (xs : List Mv) (n : Nat) (a : ByteArray) : ByteArray := pwF (fun q => srcM xs (nm q)) n (pidx a)
theorem beh_pow {ps : List UInt8} (h : parOk ps = true) {xs : List Mv} (hx : MV xs) {d : Nat → ByteArray} {n : Nat} (hd : ∀ p, p < 9 → srcT d p = pwF (srcT (tabOf xs)) n p) : arB (behF d) ps = arB (laS xs n) ps :=
  arB_congr fun c hc => by
    have hp := par_place h c hc
    unfold behF laS
    rw [if_pos hp, hd _ (ch_nm hp).1]
    exact pwF_congr (fun q hq => srcT_M hx hq) n _ (ch_nm hp).1
theorem src_pow {ps : List UInt8} (h : parOk ps = true) (xs : List Mv) (n : Nat) : arB (srcM (lsF (pwF (fun q => srcM xs (nm q)) n) 9)) ps = arB (laS xs n) ps :=
  arB_congr fun c hc => by
    have hp := ch_nm (par_place h c hc)
    have := lsF_src (pwF (fun q => srcM xs (nm q)) n) hp.1
    rw [hp.2] at this
    exact this
def caOk (ps az bs : List UInt8) : Bool := clOk ps az && clOk ps bs
def caB (ps az bs : List UInt8) : ByteArray := okS (caOk ps az bs) (arB (caS (clM ps az) (clM ps bs)) ps)
def laOk (ps az : List UInt8) (n : Int) : Bool := clOk ps az && (decide (0 ≤ n) && decide (n ≤ 60))
def laB (ps az : List UInt8) (n : Int) : ByteArray := okS (laOk ps az n) (arB (laS (clM ps az) n.toNat) ps)
/-- parameters that keep what they have -/
def sdH (ps az : List UInt8) (i : Nat) : Bool := decide (ps.getD i 0 = az.getD i 0)
def sdT (ps az : List UInt8) : ByteArray := pickB ps (sdH ps az) ps.length
def sdB (ps az : List UInt8) : ByteArray := okS (clOk ps az) (sdT ps az)
end Go.PF
