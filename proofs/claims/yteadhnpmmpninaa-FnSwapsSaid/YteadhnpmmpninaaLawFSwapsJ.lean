/- Proved: for every input of the form's own reach the law FnSwaps answers true and its arguments read afterwards as before; no further condition. -/
import Derived.Test.YteadhnpmmpninaaLawFSwapsJB
import Derived.Test.YteadhnpmmpninaaLawFSwapsJA
import Derived.ChangeKeysEq
import Derived.Test.YteadhnpmmpninaaHar
import Derived.Test.YteadhnpmmpninaaDrawE
import Derived.Test.YteadhnpmmpninaaLawFSwapsJC
import Derived.Test.YteadhnpmmpninaaMarkT
namespace Go.PS
open Go.PM Go.RowKit Go.PW
/-- the goals of the first i places, as cells -/
def rowL (g : Nat → Nat) (i : Nat) : List Value := (List.range i).map fun q => Value.int .i64 (g q : Nat)
theorem rowL_succ (g : Nat → Nat) (i : Nat) : rowL g (i + 1) = rowL g i ++ [Value.int .i64 (g i : Nat)] := by simp [rowL, List.range_succ]
theorem rowL_len (g : Nat → Nat) (i : Nat) : (rowL g i).length = i := by simp [rowL]
theorem rowL_at (g : Nat → Nat) (i q : Nat) (h : q < i) : (rowL g i)[q]? = some (.int .i64 (g q : Nat)) := by
  unfold rowL; rw [List.getElem?_map, List.getElem?_range h]; rfl
theorem rowL_set (g : Nat → Nat) (i p x : Nat) : (rowL g i).set p (.int .i64 (x : Nat)) = rowL (setN g p x) i := by
  apply List.ext_getElem?
  intro j
  rcases Nat.lt_or_ge j i with h | h
  · rw [rowL_at _ i j h, List.getElem?_set]
    by_cases hp : p = j
    · subst hp
      rw [if_pos rfl, if_pos (by rw [rowL_len]; exact h)]
      show _ = some (Value.int .i64 ((if p = p then x else g p : Nat) : Int))
      rw [if_pos rfl]
    · rw [if_neg hp, rowL_at g i j h]
      show _ = some (Value.int .i64 ((if j = p then x else g j : Nat) : Int))
      rw [if_neg (fun e => hp e.symm)]
  · rw [List.getElem?_eq_none (by rw [List.length_set, rowL_len]; exact h), List.getElem?_eq_none (by rw [rowL_len]; exact h)]
/-- the row while the readers of place i are looked for among the first k places -/
def rowK (g : Nat → Nat) (i k : Nat) : List Value := rowL g i ++ (if g i < k then [Value.int .i64 (g i : Nat)] else [])
theorem rowK_zero (g : Nat → Nat) (i : Nat) : rowK g i 0 = rowL g i := by simp [rowK]
theorem rowK_nine (g : Nat → Nat) (i : Nat) (h : g i < 9) : rowK g i 9 = rowL g (i + 1) := by rw [rowK, if_pos h, rowL_succ]
theorem rowK_hit (g : Nat → Nat) (i k : Nat) (h : g i = k) : rowK g i (k + 1) = rowK g i k ++ [Value.int .i64 (k : Nat)] := by
  unfold rowK; rw [if_pos (by omega), if_neg (by omega), h]; simp
theorem rowK_miss (g : Nat → Nat) (i k : Nat) (h : g i ≠ k) : rowK g i (k + 1) = rowK g i k := by
  unfold rowK
  by_cases h2 : g i < k
  · rw [if_pos (by omega), if_pos h2]
  · rw [if_neg (by omega), if_neg h2]
theorem rowK_len (g : Nat → Nat) (i k : Nat) : (rowK g i k).length ≤ i + 1 := by
  unfold rowK; rw [List.length_append, rowL_len]; split <;> simp
theorem goM_iff {xs : List Mv} (h : exchB xs = true) {i k : Nat} (hi : i < 9) (hk : k < 9) : srcM xs (nm k) = nm i ↔ goM xs i = k := by
  obtain ⟨h1, h2⟩ := exchB_iff.1 h
  rw [← srcM_nm h1 hk, h2.inv_iff hi hk]
  exact ⟨fun e => e.symm, fun e => e.symm⟩
theorem pas_desc {g : Nat → Nat} (h : (pas 8 g).1.isEmpty = false) : ∃ k, k < 8 ∧ g (k + 1) < g k := by
  rcases up_or g with hu | hd
  · rw [pas_up 8 hu] at h; cases h
  · exact hd
theorem pas_calm {g : Nat → Nat} (h : (pas 8 g).1.isEmpty = true) : upTo g 8 := by
  rcases up_or g with hu | ⟨k, hk, hd⟩
  · exact hu
  · have := pas_some hk hd
    rw [List.isEmpty_iff] at h
    rw [h] at this; simp at this
/-- what the specification's passes hold: k passes or fewer are left -/
def NbQ (t1 t2 : TypeId) (w : World) (tot : List (Nat × Nat)) (rb cap k : Nat) (o ag : Value) (A : World) : Prop :=
  ∃ (c : Bool) (ps : List (Nat × Nat)) (g : Nat → Nat), ag = .bool c ∧ Prm g ∧ (c = true → invG g + 1 ≤ k ∧ ps ++ nbF (k - 1) g = tot) ∧ (c = false → ps = tot) ∧
    A.ownsRow w.heap.size t1 3 o (swL ps).length (scells (swL ps)) ∧ A.ownsRow w.heap.size t2 1 (.slice (some ⟨rb, 0, none⟩) 9 cap) 9 (rowL g 9) ∧ Below w.heap.size w A
theorem nbq_next {t1 t2 : TypeId} {w : World} {tot ps : List (Nat × Nat)} {rb cap k : Nat} {o : Value} {A : World} {g : Nat → Nat} {c : Bool} (hP : Prm g) (h1 : invG g ≤ k) (h2 : ps ++ nbF k g = tot) (hc : c = !(pas 8 g).1.isEmpty)
    (ho : A.ownsRow w.heap.size t1 3 o (swL (ps ++ (pas 8 g).1)).length (scells (swL (ps ++ (pas 8 g).1)))) (hr : A.ownsRow w.heap.size t2 1 (.slice (some ⟨rb, 0, none⟩) 9 cap) 9 (rowL (pas 8 g).2 9)) (hb : Below w.heap.size w A) :
    NbQ t1 t2 w tot rb cap k o (.bool c) A := by
  obtain ⟨f1, f2, f3, f4, f5⟩ := pas_facts hP 8 (Nat.le_refl _)
  refine ⟨c, ps ++ (pas 8 g).1, (pas 8 g).2, rfl, f1, fun e => ?_, fun e => ?_, ho, hr, hb⟩
  · rw [hc] at e
    have he : (pas 8 g).1.isEmpty = false := by simpa using e
    obtain ⟨j, hj, hd⟩ := pas_desc he
    have h3 := pas_some hj hd
    obtain ⟨k, rfl⟩ : ∃ k', k = k' + 1 := ⟨k - 1, by omega⟩
    refine ⟨by omega, ?_⟩
    rw [← h2, nbF_go k hj hd]; simp
  · rw [hc] at e
    have he : (pas 8 g).1.isEmpty = true := by simpa using e
    rw [← h2, nbF_stop k (pas_calm he), List.isEmpty_iff.1 he]
end Go.PS
namespace Go.Proofs.Yteadhnpmmpninaa
open Go.RowKit Go.PM Go.PS Go.PW Go.Lib

theorem infoInt : (Try.prog.info? 3).map (fun i => (i.zero, i.size, i.bytes)) = some (some (.int .i64 0), 1, 8) := by kernel_rfl
theorem app_int {ops : Array Oper} {rest : List Oper} {o : Oper} {a : Act} {Q : Exit → Act → World → Prop} {w : World} (hgd : o.guard = none) (s x : Operand)
    (ho : o.op = .call { callee := .builtin .append, args := #[s, x], argTypes := #[64, 64] })
    (base : Nat) (v : Value) (cs : List Value) (m : Int) (ad : Addr) (c : Nat) (hs : a.eval s = v) (hx : a.eval x = .slice (some ad) 1 c)
    (hown : w.ownsRow base 3 1 v cs.length cs) (hnew : ∀ j u, [Value.int .i64 m][j]? = some u → w.cell? (ad.add j) = some u)
    (hlen : cs.length ≤ 1048576) (hbase : base ≤ w.heap.size)
    (h : ∀ v' w', w'.ownsRow base 3 1 v' (cs ++ [Value.int .i64 m]).length (cs ++ [Value.int .i64 m]) → w.grownBy w' v.ownBlock → wpList Try.prog ops Q rest (a.put o.dst v') w') : wpList Try.prog ops Q (o :: rest) a w := by
  obtain ⟨i0, hi0, hz0, hz1, hz2⟩ := info_parts infoInt
  refine wpList_append_own w hgd s x _ ho base 3 i0 _ 1 8 Try.underlying64 hi0 hz0 hz1 hz2 rfl (by omega) v cs.length cs hs hown ad 1 c [Value.int .i64 m] hx rfl hnew
    (by intro u hu; simp at hu; subst hu; rfl) (by simp only [maxLen]; omega) (by omega) hbase ?_
  intro v' w' h2 h3 _
  refine h v' w' ?_ h3
  rw [List.length_append]; exact h2

set_option maxRecDepth 100000 in
set_option maxHeartbeats 4000000 in
theorem spNeighbourSwaps_c (xs : List Mv) (v : Value) (w : World) (hx : RdM w v xs) (hz : ∀ m ∈ xs, m.1.size ≤ 9223372036854775807 ∧ m.2.size ≤ 9223372036854775807) (hn' : xs.length ≤ 1048576) :
    Calls Try.prog 16 #[v] w fun e w' => ∃ v', e = .returned (.tuple #[v', .bool (exchB xs)]) ∧ w'.ownsRow w.heap.size 33 3 v' (swL (nbM xs)).length (scells (swL (nbM xs))) ∧ Below w.heap.size w w' := by
  have hE := World.ownsRow_lit (e := 33) (base := w.heap.size) (size := 3) w #[] 0 (Nat.le_refl _) (Nat.zero_le _) rfl
  have hb0 : Below w.heap.size w (w.alloc (.cells #[] 33)) := (Below.refl _ _).alloc (Nat.le_refl _) _
  have HX := Lib.hid (fun W (hW : Below w.heap.size w W) => hx.below hW)
  have HV := Lib.hid (spIsExchange_c xs v _ (HX.out _ hb0) hz hn')
  rcases Bool.eq_false_or_eq_true (exchB xs) with h0 | h0
  · have HS := Lib.hid (fun W (hW : Below w.heap.size w W) a => l1Source_c xs v a W (HX.out W hW))
    have HG := Lib.hid (fun i k hi hk => goM_iff h0 (i := i) (k := k) hi hk)
    have HN : Hid (∀ q, q < 9 → (ByteArray.mk #[97, 98, 99, 100, 101, 102, 65, 66, 67]).extract q (q+1) = nm q) := by
      show ∀ q, _
      intro q hq
      match q, hq with
      | 0, _ | 1, _ | 2, _ | 3, _ | 4, _ | 5, _ | 6, _ | 7, _ | 8, _ => decide +kernel
    have hP := goM_prm h0
    have HP := Lib.hid hP
    have HT := Lib.hid (nbM_yes h0)
    have H0 := Lib.hid h0
    rw [h0] at HV
    have HLT := Lib.hid (nbM_le xs)
    clear hx hz h0
    generalize goM xs = g at *
    generalize htot : nbM xs = tot at *
    go_enter Try.func16, Try.ntmps16
    go_wp2_with fail
    refine HV.out.mono ?_
    rintro e w1 ⟨rfl, hb1⟩
    have hE1 := own_keep hE hb1
    have hB1 := hb0.trans (hb1.mono hb0.size)
    have hs1 := hB1.size
    have hR1 := World.ownsRow_lit (e := 3) (base := w.heap.size) (size := 1) w1 #[] 0 hs1 (Nat.zero_le _) rfl
    have hE2 := own_keep hE1 ((Below.refl w1.heap.size w1).alloc (Nat.le_refl _) (.cells #[] 3))
    have hB2 := hB1.alloc hs1 (.cells #[] 3)
    clear hE hb0 HV hb1 hE1
    go_wp2
    go_loopw [5, 6, 7, 17] (fun r _ _ i wr => ∃ (k : Nat), k ≤ 9 ∧ i = .int .i64 k ∧ wr.ownsRow w.heap.size 3 1 r (rowL g k).length (rowL g k) ∧ wr.ownsRow w.heap.size 33 3 (.slice (some ⟨w.heap.size, 0, none⟩) 0 0) 0 [] ∧ Below w.heap.size w wr) (fun _ _ _ i _ => 9 - (RowKit.intOf i).toNat)
    case atStart => exact ⟨0, by omega, rfl, hR1, hE2, hB2⟩
    case round =>
      obtain ⟨i, hi, rfl, hr, hE, hb⟩ := hrel
      have hbs := hb.size
      by_cases hlt : i < 9
      · have hgl := HP.out.lt i hlt
        have h9 := rowK_nine g i hgl
        have H9 := Lib.hid h9
        clear h9
        go_wp2
        rw [show decide ((i : Int) < 9) = true from decide_eq_true (by omega)]
        rename World => wo
        go_loopw [5, 7, 20] (fun r _ j wr => ∃ (k : Nat), k ≤ 9 ∧ j = .int .i64 k ∧ wr.ownsRow w.heap.size 3 1 r (rowK g i k).length (rowK g i k) ∧ wr.ownsRow w.heap.size 33 3 (.slice (some ⟨w.heap.size, 0, none⟩) 0 0) 0 [] ∧ Below w.heap.size w wr) (fun _ _ j _ => 9 - (RowKit.intOf j).toNat)
        case atStart => exact ⟨0, by omega, rfl, by rw [rowK_zero]; exact hr, hE, hb⟩
        case round =>
          obtain ⟨k, hk, rfl, hrk, hEk, hbk⟩ := hrel
          have hbks := hbk.size
          by_cases hkl : k < 9
          · have hexk := HN.out k hkl
            have hexi := HN.out i hlt
            have hsr : ∀ x : Ext wr.heap.size wr.drew, Calls Try.prog 50 #[v, .string (nm k)] x.val fun e w' => e = .returned (.string (srcM xs (nm k))) ∧ Below x.val.heap.size x.val w' := fun x => HS.out x.val (hbk.drew.trans (x.property.mono hbks)) (nm k)
            have HIF := Lib.hid (HG.out i k hlt hkl)
            have HY := Lib.hid (rowK_hit g i k)
            have HM := Lib.hid (rowK_miss g i k)
            have hlen := rowK_len g i k
            have n0 : (0 : Int) ≤ (k : Int) := by omega
            have n1 : (k : Int) < 9 := by omega
            have n2 : IntKind.i64.wrap ((k : Int) + 1) = (k : Int) + 1 := IntWalk.i64_in _ ⟨by omega, by omega⟩
            have n3 : ((k : Int) + 1).toNat = k + 1 := by omega
            have n4 : (0 : Int) ≤ (i : Int) := by omega
            have n5 : (i : Int) < 9 := by omega
            have n6 : IntKind.i64.wrap ((i : Int) + 1) = (i : Int) + 1 := IntWalk.i64_in _ ⟨by omega, by omega⟩
            have n7 : ((i : Int) + 1).toNat = i + 1 := by omega
            generalize srcM xs (nm k) = sk at *
            generalize nm k = qk at *
            generalize nm i = qi at *
            generalize rowK g i k = rk at *
            obtain ⟨rk1, hrk1⟩ : ∃ rk1, rk1 = rowK g i (k + 1) := ⟨_, rfl⟩
            have HRK : Hid (rowK g i (k + 1) = rk1) := hrk1.symm
            rw [← hrk1] at HY HM
            clear hrk1
            have hd0 := beq_str sk qi
            rcases Bool.eq_false_or_eq_true (sk.toList == qi.toList) with hd | hd
            · have HD : Hid (sk = qi) := by
                rw [hd] at hd0
                have := of_decide_eq_true hd0.symm
                exact this
              clear hd0
              go_wp2
              refine wp_region_quiet (C := fun w' => ∃ x : Ext wr.heap.size wr.drew, w' = x.val) (by kernel_rfl) (by kernel_rfl) ⟨⟨_, Below.refl _ _⟩, rfl⟩ ?_
              simp only
              repeat (first | go_big_quiet_step (fail) | go_big_quiet_step ((exact ext_call _ (Nat.le_refl _) (hsr _))))
              refine wpQuiet_nil ?_
              rintro w6 ⟨xw, rfl⟩
              have hB6 : Below w.heap.size w xw.val := hbk.drew.trans (xw.property.mono hbks)
              have hrk6 := own_keep (show wr.drew.ownsRow w.heap.size 3 1 u5 rk.length rk from hrk) xw.property
              have hE6 := own_keep (show wr.drew.ownsRow w.heap.size 33 3 (.slice (some ⟨w.heap.size, 0, none⟩) 0 0) 0 [] from hEk) xw.property
              generalize xw.val = w6 at *
              have hs6 := hB6.size
              have hnw := one_new w6 (.int .i64 k) 3
              clear hrk hEk hbk hsr xw
              go_wp2_with (at_builtin; refine held ?_)
              unfold Held
              refine app_int rfl (.tmp 34) (.tmp 36) rfl w.heap.size u5 rk k ⟨w6.heap.size, 0, none⟩ 1 (by rfl) (by rfl) (own_keep hrk6 ((Below.refl _ _).alloc (Nat.le_refl _) _)) hnw (by omega) (by simp; omega) ?_
              intro v' w7 hown7 hgrow7
              have hB7 := (hB6.alloc hs6 (.cells #[.int .i64 k] 3)).trans (below_grown hgrow7 (B := w.heap.size) (by simp; omega) (own_block_ge hrk6))
              have hE7 := own_grown (own_keep hE6 ((Below.refl w6.heap.size w6).alloc (Nat.le_refl _) (.cells #[.int .i64 k] 3))) hgrow7 (rows_neS hE6 hrk6 (by decide))
              rw [← HY.out (HIF.out.1 HD.out)] at hown7
              clear hgrow7 hnw hrk6 hE6 hB6
              go_wp2
              go_roundw
              case rel =>
                exact ⟨k + 1, by omega, by go_num, by rw [HRK.out]; exact hown7, hE7, hB7⟩
              case measure => simp [RowKit.intOf]; omega
            · have HD : Hid (sk ≠ qi) := by
                rw [hd] at hd0
                have := of_decide_eq_false hd0.symm
                exact this
              clear hd0
              go_wp2
              refine wp_region_quiet (C := fun w' => ∃ x : Ext wr.heap.size wr.drew, w' = x.val) (by kernel_rfl) (by kernel_rfl) ⟨⟨_, Below.refl _ _⟩, rfl⟩ ?_
              simp only
              repeat (first | go_big_quiet_step (fail) | go_big_quiet_step ((exact ext_call _ (Nat.le_refl _) (hsr _))))
              refine wpQuiet_nil ?_
              rintro w6 ⟨xw, rfl⟩
              have hB6 : Below w.heap.size w xw.val := hbk.drew.trans (xw.property.mono hbks)
              have hrk6 := own_keep (show wr.drew.ownsRow w.heap.size 3 1 u5 rk.length rk from hrk) xw.property
              have hE6 := own_keep (show wr.drew.ownsRow w.heap.size 33 3 (.slice (some ⟨w.heap.size, 0, none⟩) 0 0) 0 [] from hEk) xw.property
              generalize xw.val = w6 at *
              rw [← HM.out (fun e => HD.out (HIF.out.2 e))] at hrk6
              clear hrk hEk hbk hsr xw
              go_wp2
              go_roundw
              case rel => exact ⟨k + 1, by omega, by go_num, by rw [HRK.out]; exact hrk6, hE6, hB6⟩
              case measure => simp [RowKit.intOf]; omega
          · have hke : k = 9 := by omega
            subst hke
            rw [H9.out] at hrk
            go_wp2
            go_roundw
            case rel => exact ⟨i + 1, by omega, by go_num, hrk, hEk, hbk⟩
            case measure => simp [RowKit.intOf]; omega
      · have hke : i = 9 := by omega
        subst hke
        have hRW : Hid (wr.ownsRow w.heap.size 3 1 u5 9 (rowL g 9)) := by
          have := hr
          rw [rowL_len] at this
          exact this
        obtain ⟨rb, rcap, hu5, _, hrbl⟩ := hRW.out.form (by decide)
        have hrr := hRW.out
        subst hu5
        have hQ0 : NbQ 33 3 w tot rb rcap 37 (.slice (some ⟨w.heap.size, 0, none⟩) 0 0) (.bool true) wr :=
          ⟨true, [], g, rfl, HP.out, fun _ => ⟨by have := invG_le g; omega, HT.out.symm⟩, fun e => (by cases e), hE, hrr, hb⟩
        clear hr hE hRW hrr hb hbs HS HG HX hP hrbl
        go_wp2
        rw [show ((9 : Nat) : Int) = (9 : Int) from rfl]
        rename World => wo
        go_loopw [4, 8, 9, 10] (fun o ag _ _ wr => ∃ k, NbQ 33 3 w tot rb rcap k o ag wr) (fun o ag _ _ wr => PW.least (fun k => NbQ 33 3 w tot rb rcap k o ag wr))
        case atStart => exact ⟨37, hQ0⟩
        case round =>
          obtain ⟨hru, _⟩ := PW.least_spec hrel
          generalize hkk : PW.least (fun k => NbQ 33 3 w tot rb rcap k u4 u8 wr) = kk at *
          have HKK := Lib.hid hkk
          clear hrel hkk hQ0
          obtain ⟨c, ps, g1, rfl, hP1, hc1, hc2, ho, hr, hb⟩ := hru
          have hbs := hb.size
          cases c with
          | false =>
            have hpt := hc2 rfl
            rw [hpt] at ho
            have HO := Lib.hid ho
            clear hc1 hc2 ho hr
            go_wp2
            go_ret2
            exact ⟨_, by rw [H0.out]; rfl, HO.out, hb⟩
          | true =>
            obtain ⟨hk1, htt⟩ := hc1 rfl
            obtain ⟨k, rfl⟩ : ∃ k', kk = k' + 1 := ⟨kk - 1, by omega⟩
            have hinv : invG g1 ≤ k := by omega
            have htt' : ps ++ nbF k g1 = tot := htt
            have hpl : ps.length ≤ 36 := by
              have h1 := congrArg List.length htt'
              rw [List.length_append] at h1
              have := HLT.out; omega
            have HNQ := Lib.hid (fun (cc : Bool) (o : Value) (A : World) (h1 : cc = !(pas 8 g1).1.isEmpty) h2 h3 h4 => nbq_next (t1 := 33) (t2 := 3) (w := w) (tot := tot) (ps := ps) (rb := rb) (cap := rcap) (k := k) (o := o) (A := A) (g := g1) (c := cc) hP1 hinv htt' h1 h2 h3 h4)
            have HPF := Lib.hid (fun m hm => (pas_facts hP1 m hm))
            clear hc1 hc2 htt htt' hk1 hinv
            go_wp2
            rename World => wo2
            go_loopw [4, 8, 9, 10] (fun o ag i _ wr => ∃ (m : Nat) (cc : Bool), m ≤ 8 ∧ i = .int .i64 m ∧ ag = .bool cc ∧ Hid (cc = !(pas m g1).1.isEmpty) ∧ wr.ownsRow w.heap.size 33 3 o (swL (ps ++ (pas m g1).1)).length (scells (swL (ps ++ (pas m g1).1))) ∧ wr.ownsRow w.heap.size 3 1 (.slice (some ⟨rb, 0, none⟩) 9 rcap) 9 (rowL (pas m g1).2 9) ∧ Below w.heap.size w wr) (fun _ _ i _ _ => 8 - (RowKit.intOf i).toNat)
            case atStart => exact ⟨0, false, by omega, rfl, rfl, rfl, by simpa [pas] using ho, hr, hb⟩
            case round =>
              obtain ⟨m, cc, hm, rfl, rfl, HC, hom, hrm, hbm⟩ := hrel
              have hbms := hbm.size
              by_cases hml : m < 8
              · obtain ⟨f1, f2, f3, f4, f5⟩ := HPF.out m (by omega)
                have hPY := Lib.hid (pas_yes (k := m) (g := g1))
                have hPN := Lib.hid (pas_no (k := m) (g := g1))
                obtain ⟨nx, hnx⟩ : ∃ nx, nx = pas (m + 1) g1 := ⟨_, rfl⟩
                have HA1 : Hid (pas (m + 1) g1 = nx) := hnx.symm
                rw [← hnx] at hPY hPN
                clear hnx f2 f3 f4
                have hex1 := HN.out m (by omega)
                have hex2 := HN.out (m + 1) (by omega)
                generalize hpm : (pas m g1).1 = pm at *
                generalize hgm : (pas m g1).2 = gm at *
                have c1 : wr.cell? ⟨rb, m, none⟩ = some (.int .i64 (gm m : Nat)) := (hrm.cellAt m (by omega)).trans (rowL_at gm 9 m (by omega))
                have c2 : wr.cell? ⟨rb, m + 1, none⟩ = some (.int .i64 (gm (m + 1) : Nat)) := (hrm.cellAt (m + 1) (by omega)).trans (rowL_at gm 9 (m + 1) (by omega))
                have c1d : wr.drew.cell? ⟨rb, m, none⟩ = some (.int .i64 (gm m : Nat)) := c1
                have c2d : wr.drew.cell? ⟨rb, m + 1, none⟩ = some (.int .i64 (gm (m + 1) : Nat)) := c2
                have z1 : wr.drew.frozen? ⟨rb, m, none⟩ = false := hrm.frozenAt m
                have z2 : wr.drew.frozen? ⟨rb, m + 1, none⟩ = false := hrm.frozenAt (m + 1)
                have hrbl : rb < wr.heap.size := (own_lt hrm).1
                have n0 : (0 : Int) ≤ (m : Int) := by omega
                have n1 : (m : Int) + 1 < 9 := by omega
                have n2 : IntKind.i64.wrap ((m : Int) + 1) = (m : Int) + 1 := IntWalk.i64_in _ ⟨by omega, by omega⟩
                have n3 : ((m : Int) + 1).toNat = m + 1 := by omega
                have n4 : IntKind.i64.wrap ((m : Int) + 2) = (m : Int) + 2 := IntWalk.i64_in _ ⟨by omega, by omega⟩
                have n5 : ((m : Int) + 2).toNat = m + 1 + 1 := by omega
                have n6 : (0 : Int) ≤ (m : Int) + 1 := by omega
                have n7 : (m : Int) < 9 := by omega
                by_cases hd : gm (m + 1) < gm m
                · have hnxe := hPY.out hd
                  have HN1 : Hid (nx.1 = pm ++ [(m, m + 1)]) := by show _ = _; rw [hnxe]
                  have HN2 : Hid (nx.2 = swp gm m (m + 1)) := by show _ = _; rw [hnxe]
                  have HCC : Hid (true = !(pas (m + 1) g1).1.isEmpty) := by show _ = _; rw [HA1.out, hnxe]; simp
                  have le1 : ¬ (gm m : Int) ≤ (gm (m + 1) : Int) := by omega
                  obtain ⟨r1, q1⟩ := (show wr.drew.ownsRow w.heap.size 3 1 (.slice (some ⟨rb, 0, none⟩) 9 rcap) 9 (rowL gm 9) from hrm).stored (m + 1) (.int .i64 (gm m : Nat))
                  obtain ⟨r2, q2⟩ := r1.stored m (.int .i64 (gm (m + 1) : Nat))
                  rw [rowL_set, rowL_set, swp_set, swp_comm] at r2
                  have hneo := rows_neS hom hrm (by decide)
                  have hneo' : u4.ownBlock ≠ some rb := by
                    rcases hneo with h | h
                    · exact h
                    · cases h
                  have o2 := own_grown (own_grown (show wr.drew.ownsRow w.heap.size 33 3 u4 (swL (ps ++ pm)).length (scells (swL (ps ++ pm))) from hom) q1 (.inl hneo')) q2 (.inl hneo')
                  have hbrb : w.heap.size ≤ rb := (own_lt hrm).2
                  have hB2 : Below w.heap.size w ((wr.drew.setCell ⟨rb, m + 1, none⟩ (.int .i64 (gm m : Nat))).setCell ⟨rb, m, none⟩ (.int .i64 (gm (m + 1) : Nat))) := (hbm.drew.setCell hbrb _).setCell hbrb _
                  have HSW : Hid (swL (ps ++ (pas (m + 1) g1).1) = swL (ps ++ pm) ++ [((1, nm m, nm (m + 1)) : St)]) := by
                    show _ = _
                    rw [HA1.out, HN1.out, ← List.append_assoc, swL_app _ [_]]; rfl
                  have HRW : Hid (rowL (pas (m + 1) g1).2 9 = rowL (swp gm m (m + 1)) 9) := by show _ = _; rw [HA1.out, HN2.out]
                  have hsl : (swL (ps ++ pm)).length ≤ 100 := by rw [swL_len, List.length_append]; omega
                  have W2 : ∃ W2, W2 = ((wr.setCell ⟨rb, m + 1, none⟩ (.int .i64 (gm m : Nat))).setCell ⟨rb, m, none⟩ (.int .i64 (gm (m + 1) : Nat))).drew := ⟨_, rfl⟩
                  obtain ⟨W2, hW2⟩ := W2
                  have hWW : ((wr.drew.setCell ⟨rb, m + 1, none⟩ (.int .i64 (gm m : Nat))).setCell ⟨rb, m, none⟩ (.int .i64 (gm (m + 1) : Nat))) = W2 := by rw [hW2]; rfl
                  rw [hWW] at r2 o2 hB2
                  have z1' : wr.frozen? ⟨rb, m, none⟩ = false := z1
                  have z2' : wr.frozen? ⟨rb, m + 1, none⟩ = false := z2
                  have hs2 := hB2.size
                  clear hd hnxe hPY hPN r1 q1 q2 hWW hneo hneo' hom hrm hbm HN1 HN2 f1 hpm hgm HC
                  generalize swL (ps ++ pm) = ys at *
                  generalize nm m = a1 at *
                  generalize nm (m + 1) = a2 at *
                  generalize rowL (swp gm m (m + 1)) 9 = rw2 at *
                  generalize gm (m + 1) = y at *
                  generalize gm m = x at *
                  go_wp2
                  refine wp_region_quiet (C := fun w' => w' = wr.drew) (by kernel_rfl) (by kernel_rfl) rfl ?_
                  simp only
                  repeat (go_big_quiet_step (fail))
                  refine wpQuiet_nil ?_
                  intro w2' hw'
                  subst hw'
                  go_wp2
                  rw [← hW2]
                  clear hW2 z1 z2 z1' z2' c1 c2 c1d c2d
                  refine wpIn_wide.1 (region_late2 (m := 0) (F := Fence.wide) (C := fun w' => w' = W2.drew) (D := fun _ => True) 10 2 rfl (by kernel_rfl) (by kernel_rfl) _ (by rfl) (by simp) u4 (by intro _ _ _ h; exact h) (yieldsD_move (by rfl) _ (by rfl) u4 (by rfl)) (fun _ _ => trivial) rfl ?_)
                  simp only [List.take_succ_cons, List.take_zero, List.drop_succ_cons, List.drop_zero, Nat.reduceSub, Nat.reduceAdd]
                  simp only [Act.put, List.setIfInBounds_toArray, List.set_cons_succ, List.set_cons_zero]
                  repeat (gi_big_quiet_step (fail))
                  refine wpQuietIn_nil ?_
                  intro w' hw'
                  subst hw'
                  refine ⟨trivial, op_k (fun K hK => ?_)⟩
                  go_simp
                  refine ⟨trivial, rfl, callsIn_wide.2 ((l7Swap_c _ _ _).mono ?_)⟩
                  rintro e w3 ⟨rfl, hb3⟩
                  refine hK _ _ ?_
                  clear hK K
                  refine ⟨trivial, ?_⟩
                  refine sliceIn_st (.tmp 85) rfl 1 a1 a2 (by rfl) ?_
                  refine ⟨trivial, ?_⟩
                  have hB3 := hB2.drew.trans (hb3.mono hs2)
                  have hal : Below w3.heap.size w3 (w3.alloc (.cells #[.int .i64 1, .string a1, .string a2] 33)) := (Below.refl _ _).alloc (Nat.le_refl _) _
                  have o3 := own_keep (own_keep (show W2.drew.ownsRow w.heap.size 33 3 u4 ys.length (scells ys) from o2) hb3) hal
                  have r3 := own_keep (own_keep (show W2.drew.ownsRow w.heap.size 3 1 (.slice (some ⟨rb, 0, none⟩) 9 rcap) 9 rw2 from r2) hb3) hal
                  have hs3 := hB3.size
                  refine listIn_st rfl (.tmp 75) (.tmp 86) rfl w.heap.size u4 ys (1, a1, a2) ⟨w3.heap.size, 0, none⟩ 1 (by rfl) (by rfl) o3 (three_new w3 _ _ _ _) (by omega) (by simp; omega) ?_
                  intro v' w5 hown5 hgrow5
                  have hb5 := (hB3.alloc hs3 (.cells #[.int .i64 1, .string a1, .string a2] 33)).trans (below_grown hgrow5 (B := w.heap.size) (by simp; omega) (own_block_ge o2))
                  have r5 := own_grown r3 hgrow5 (rows_neS r3 o3 (by decide))
                  clear hgrow5 o3 r3 hal hB3 hb3 o2 r2 hB2
                  gi_wp2
                  go_wp2
                  go_roundw
                  case rel => exact ⟨m + 1, true, by omega, by go_num, rfl, HCC, by rw [HSW.out]; exact hown5, by rw [HRW.out]; exact r5, hb5⟩
                  case measure => simp [RowKit.intOf]; omega
                · have hnxe := hPN.out hd
                  have HCC : Hid (cc = !(pas (m + 1) g1).1.isEmpty) := by
                    show _ = _; rw [HA1.out, hnxe, hpm]; exact HC.out
                  have le1 : (gm m : Int) ≤ (gm (m + 1) : Int) := by omega
                  have H1 : Hid (wr.drew.ownsRow w.heap.size 33 3 u4 (swL (ps ++ (pas (m + 1) g1).1)).length (scells (swL (ps ++ (pas (m + 1) g1).1)))) := by
                    show World.ownsRow _ _ _ _ _ _ _
                    rw [HA1.out, hnxe, hpm]; exact hom
                  have H2 : Hid (wr.drew.ownsRow w.heap.size 3 1 (.slice (some ⟨rb, 0, none⟩) 9 rcap) 9 (rowL (pas (m + 1) g1).2 9)) := by
                    show World.ownsRow _ _ _ _ _ _ _
                    rw [HA1.out, hnxe, hgm]; exact hrm
                  have hbd : Below w.heap.size w wr.drew := hbm.drew
                  clear hd hnxe hPY hPN hom hrm f1 hpm hgm HC z1 z2
                  generalize gm (m + 1) = y at *
                  generalize gm m = x at *
                  go_wp2
                  refine wp_region_quiet (C := fun w' => w' = wr.drew) (by kernel_rfl) (by kernel_rfl) rfl ?_
                  simp only
                  repeat (go_big_quiet_step (fail))
                  refine wpQuiet_nil ?_
                  intro w2' hw'
                  subst hw'
                  go_wp2
                  go_roundw
                  case rel => exact ⟨m + 1, cc, by omega, by go_num, rfl, HCC, H1.out, H2.out, hbd⟩
                  case measure => simp [RowKit.intOf]; omega
              · have hme : m = 8 := by omega
                subst hme
                have hQ := HNQ.out _ _ _ HC.out hom hrm hbm
                clear hom hrm
                go_wp2
                go_roundw
                case rel => exact ⟨k, hQ⟩
                case measure =>
                  rw [HKK.out]
                  have := (PW.least_spec (P := fun k => NbQ 33 3 w tot rb rcap k _ _ wr) ⟨k, hQ⟩).2 _ hQ
                  omega
  · have HNO : Hid (swL (nbM xs) = []) := by show _ = _; rw [nbM_no h0]; rfl
    have H0 := Lib.hid h0
    rw [h0] at HV
    clear hx hz h0
    go_enter Try.func16, Try.ntmps16
    go_wp2_with fail
    refine HV.out.mono ?_
    rintro e w1 ⟨rfl, hb1⟩
    have hE1 := own_keep hE hb1
    have hB1 := hb0.trans (hb1.mono hb0.size)
    go_wp2
    go_ret2
    exact ⟨_, by rw [H0.out]; rfl, by rw [HNO.out]; exact hE1, hB1⟩
end Go.Proofs.Yteadhnpmmpninaa
namespace Go.Proofs.Yteadhnpmmpninaa
open Go.RowKit Go.PM
set_option maxRecDepth 100000 in
set_option maxHeartbeats 2000000 in
theorem eq_str (d : Nat) (a b : ByteArray) (W : World) : (Op.equalIn (d + 1) 9 (.string a) (.string b)).run Try.prog W = .ok (a == b) W := by
  simp [Op.equalIn, go_sem]
theorem eq_items (f g : Nat → ByteArray) (W : World) : ∀ is : List Nat, (∀ i ∈ is, i < 9) → (Op.eqItems 9999 9 1 (tabA f) (tabA g) is).run Try.prog W = .ok (is.all fun p => f p == g p) W := by
  intro is
  induction is with
  | nil => intro _; rfl
  | cons i is ih =>
    intro h
    have hi := h i (List.mem_cons_self ..)
    have h1 : (part 9 (tabA f) (i * 1)).run Try.prog W = .ok (.string (f i)) W := run_part_plain (P := Try.prog) W (by kernel_rfl) (by rw [Nat.mul_one]; exact tabC_at f i hi)
    have h2 : (part 9 (tabA g) (i * 1)).run Try.prog W = .ok (.string (g i)) W := run_part_plain (P := Try.prog) W (by kernel_rfl) (by rw [Nat.mul_one]; exact tabC_at g i hi)
    have h3 := eq_str 9998 (f i) (g i) W
    rw [Op.eqItems, Sem.run_bind, h1, Result.andThen_ok, Sem.run_bind, h2, Result.andThen_ok, Sem.run_bind, h3, Result.andThen_ok, List.all_cons]
    cases hb : (f i == g i)
    · rfl
    · rw [if_neg (by decide), ih (fun j hj => h j (List.mem_cons_of_mem _ hj)), Bool.true_and]
theorem eq_tab (f g : Nat → ByteArray) (W : World) : (Op.equal 56 (tabX f) (tabX g)).run Try.prog W = .ok ((List.range 9).all fun p => f p == g p) W := by
  have his : (Try.prog.info? 9).isSome = true := by kernel_rfl
  obtain ⟨i, hi⟩ := Option.isSome_iff_exists.1 his
  have hc : Try.prog.cellsOf 9 = 1 := by kernel_rfl
  have h := run_equalIn_array (P := Try.prog) (w := W) 9999 (t := 56) (e := 9) (n := 9) (tabA f) (tabA g) Try.underlying56 hi
  rw [hc] at h
  exact h.trans (eq_items f g W _ (fun i hi => by simpa using hi))
theorem beq_ba (a b : ByteArray) : (a == b) = decide (a = b) := by
  cases a with | mk a =>
  cases b with | mk b =>
  have h : ((ByteArray.mk a) == (ByteArray.mk b)) = (a == b) := rfl
  rw [h]
  by_cases e : a = b
  · subst e; simp
  · have : ¬ (ByteArray.mk a) = (ByteArray.mk b) := fun x => e (congrArg ByteArray.data x)
    simp [e]
theorem all_beq (f g : Nat → ByteArray) (l : List Nat) : (l.all fun p => f p == g p) = l.all fun p => decide (f p = g p) := by
  have : (fun p => f p == g p) = fun p => decide (f p = g p) := by funext p; exact beq_ba _ _
  rw [this]
end Go.Proofs.Yteadhnpmmpninaa
namespace Go.Proofs.Yteadhnpmmpninaa
open Go.RowKit Go.PM

set_option maxRecDepth 100000 in
set_option maxHeartbeats 1000000 in
/-- two moves as values are compared text by text -/
theorem eq_mv (a b c d : ByteArray) (W : World) : (Op.equalIn 10000 31 (.agg #[.string a, .string b]) (.agg #[.string c, .string d])).run Try.prog W = .ok (mvEq a b c d) W := by
  have hs : Try.prog.stoodInHeld 31 = false := by kernel_rfl
  have e1 : (a == c) = decide (a = c) := beq_ba _ _
  have e2 : (b == d) = decide (b = d) := beq_ba _ _
  have q1 := eq_str 9998 a c
  have q2 := eq_str 9998 b d
  rw [Op.equalIn]
  generalize hE : Op.equalIn 9999 = E at *
  simp only [mvEq]
  rw [e1] at q1
  rw [e2] at q2
  clear e1 e2 hE
  by_cases h1 : a = c
  · by_cases h2 : b = d
    · subst h1; subst h2
      simp at q1 q2
      simp [go_sem, hs, q1, q2]
    · subst h1
      simp [h2] at q1 q2
      simp [go_sem, hs, q1, q2, h2]
  · simp [h1] at q1
    simp [go_sem, hs, q1, h1]

end Go.Proofs.Yteadhnpmmpninaa
namespace Go.PM
def stpEq (a b : St) : Bool := decide (a = b)
theorem stpEq_no {a b : St} (h : (!stpEq a b) = true) : a ≠ b := by simpa [stpEq] using h
theorem stpEq_yes {a b : St} (h : (!stpEq a b) = false) : a = b := by simpa [stpEq] using h
end Go.PM
namespace Go.Proofs.Yteadhnpmmpninaa
open Go.RowKit Go.PM

set_option maxRecDepth 100000 in
set_option maxHeartbeats 1000000 in
theorem eq_mvD (d : Nat) (a b c e : ByteArray) (W : World) : (Op.equalIn (d + 2) 31 (.agg #[.string a, .string b]) (.agg #[.string c, .string e])).run Try.prog W = .ok (mvEq a b c e) W := by
  have hs : Try.prog.stoodInHeld 31 = false := by kernel_rfl
  have e1 : (a == c) = decide (a = c) := beq_ba _ _
  have e2 : (b == e) = decide (b = e) := beq_ba _ _
  have q1 := eq_str d a c
  have q2 := eq_str d b e
  rw [Op.equalIn]
  generalize hE : Op.equalIn (d + 1) = E at *
  simp only [mvEq]
  rw [e1] at q1
  rw [e2] at q2
  clear e1 e2 hE
  by_cases h1 : a = c
  · by_cases h2 : b = e
    · subst h1; subst h2
      simp at q1 q2
      simp [go_sem, hs, q1, q2]
    · subst h1
      simp [h2] at q1 q2
      simp [go_sem, hs, q1, q2, h2]
  · simp [h1] at q1
    simp [go_sem, hs, q1, h1]
theorem eq_i64 (d : Nat) (a b : Int) (W : World) : (Op.equalIn (d + 1) 3 (.int .i64 a) (.int .i64 b)).run Try.prog W = .ok (decide (a = b)) W := by
  have : (a == b) = decide (a = b) := by rw [Bool.eq_iff_iff, beq_iff_eq, decide_eq_true_eq]
  simp [Op.equalIn, go_sem, this]
set_option maxRecDepth 100000 in
set_option maxHeartbeats 1000000 in
/-- two steps as values are compared kind by kind and text by text -/
theorem eq_stp (x y : St) (W : World) : (Op.equalIn 10000 33 (.agg #[.int .i64 x.1, .string x.2.1, .string x.2.2]) (.agg #[.int .i64 y.1, .string y.2.1, .string y.2.2])).run Try.prog W = .ok (stpEq x y) W := by
  obtain ⟨k, a, b⟩ := x
  obtain ⟨l, c, e⟩ := y
  have hs : Try.prog.stoodInHeld 33 = false := by kernel_rfl
  have q0 := eq_i64 9998 k l
  have q1 := eq_mvD 9997 a b c e
  rw [Op.equalIn]
  generalize hE : Op.equalIn 9999 = E at *
  clear hE
  by_cases h1 : k = l
  · by_cases h2 : a = c ∧ b = e
    · obtain ⟨h2, h3⟩ := h2
      subst h1; subst h2; subst h3
      simp [mvEq] at q0 q1
      simp [go_sem, hs, q0, q1, stpEq]
    · subst h1
      have h3 : mvEq a b c e = false := by unfold mvEq; exact decide_eq_false h2
      have h4 : stpEq (k, a, b) (k, c, e) = false := by
        unfold stpEq
        rw [decide_eq_false_iff_not]
        intro e; cases e; exact h2 ⟨rfl, rfl⟩
      rw [h3] at q1
      simp at q0
      simp [go_sem, hs, q0, q1, h4]
  · have h4 : stpEq (k, a, b) (l, c, e) = false := by
      unfold stpEq
      rw [decide_eq_false_iff_not]
      intro e; cases e; exact h1 rfl
    simp [h1] at q0
    simp [go_sem, hs, q0, h4]

set_option maxRecDepth 100000 in
set_option maxHeartbeats 1600000 in
theorem pmSteps_c (xs ys : List St) (v u : Value) (w : World) (hx : RdS w v xs) (hy : RdS w u ys) :
    Calls Try.prog 19 #[v, u] w fun e w' => e = .returned (.bool (decide (xs = ys))) ∧ Below w.heap.size w w' := by
  obtain ⟨A, cap, rfl, hn, hc, hcell⟩ := hx.open
  obtain ⟨A', cap', rfl, hn', hc', hcell'⟩ := hy.open
  clear hx hy
  rcases Nat.lt_or_ge ys.length xs.length with hle | hle
  · have hm : min (xs.length : Int) (ys.length : Int) = ys.length := by omega
    have HLE := Lib.hid hle
    clear hle
    go_enter Try.func19, Try.ntmps19
    go_wp2
    go_loopw [11] (fun i wr => ∃ (k : Nat), k ≤ ys.length ∧ i = .int .i64 k ∧ Hid (xs.take k = ys.take k) ∧ Below w.heap.size w wr) (fun i _ => ys.length - (intOf i).toNat)
    case atStart => exact ⟨0, by omega, rfl, by show _ = _; simp, Below.refl _ _⟩
    case round =>
      obtain ⟨k, hk, rfl, ht, hb⟩ := hrel
      by_cases hlt : k < ys.length
      · have hlt1 : k < xs.length := by have := HLE.out; omega
        have hlt2 : k < ys.length := by have := HLE.out; omega
        obtain ⟨b, off, rfl, hbl, hc0, hc1, hc2⟩ := hcell k hlt1
        obtain ⟨b', off', rfl, hbl', hc0', hc1', hc2'⟩ := hcell' k hlt2
        have hd0 := (hb.cell (p := ⟨b, off + k * 3, none⟩) hbl).trans hc0
        have hd1 := (hb.cell (p := ⟨b, off + k * 3 + 1, none⟩) hbl).trans hc1
        have hd2 := (hb.cell (p := ⟨b, off + k * 3 + 2, none⟩) hbl).trans hc2
        have hd5 := (hb.cell (p := ⟨b', off' + k * 3, none⟩) hbl').trans hc0'
        have hd3 := (hb.cell (p := ⟨b', off' + k * 3 + 1, none⟩) hbl').trans hc1'
        have hd4 := (hb.cell (p := ⟨b', off' + k * 3 + 2, none⟩) hbl').trans hc2'
        clear hc0 hc1 hc2 hcell hc0' hc1' hc2' hcell'
        have i1 : (k : Int) < (ys.length : Int) := by omega
        go_wp2
        have hx0 : ∀ x : Ext w.heap.size wr, x.val.cell? ⟨b, off + k * 3, none⟩ = some (.int .i64 xs[k].1) := fun x => (x.property.cell (p := ⟨b, _, none⟩) hbl).trans hd0
        have hx1 : ∀ x : Ext w.heap.size wr, x.val.cell? ⟨b, off + k * 3 + 1, none⟩ = some (.string xs[k].2.1) := fun x => (x.property.cell (p := ⟨b, _, none⟩) hbl).trans hd1
        have hx2 : ∀ x : Ext w.heap.size wr, x.val.cell? ⟨b, off + k * 3 + 2, none⟩ = some (.string xs[k].2.2) := fun x => (x.property.cell (p := ⟨b, _, none⟩) hbl).trans hd2
        have hx5 : ∀ x : Ext w.heap.size wr, x.val.cell? ⟨b', off' + k * 3, none⟩ = some (.int .i64 ys[k].1) := fun x => (x.property.cell (p := ⟨b', _, none⟩) hbl').trans hd5
        have hx3 : ∀ x : Ext w.heap.size wr, x.val.cell? ⟨b', off' + k * 3 + 1, none⟩ = some (.string ys[k].2.1) := fun x => (x.property.cell (p := ⟨b', _, none⟩) hbl').trans hd3
        have hx4 : ∀ x : Ext w.heap.size wr, x.val.cell? ⟨b', off' + k * 3 + 2, none⟩ = some (.string ys[k].2.2) := fun x => (x.property.cell (p := ⟨b', _, none⟩) hbl').trans hd4
        clear hd0 hd1 hd2 hd3 hd4 hd5
        have i0 : (0 : Int) ≤ (k : Int) := by omega
        have i2 : (k : Int) < xs.length := by omega
        have i3 : (k : Int) < ys.length := by omega
        have hE := fun W => eq_stp xs[k] ys[k] W
        refine wp_region_ext w.heap.size (by kernel_rfl) (by kernel_rfl) ?_
        repeat (go_big_quiet_step (fail))
        refine wpQuiet_nil ?_
        intro w2 hw'
        obtain ⟨xw, hxw⟩ := hw'
        have hb2 := xw.property
        rw [← hxw] at hb2
        clear hxw xw
        clear hx0 hx1 hx2 hx3 hx4 hx5 hE
        go_wp2
        · have h : (!stpEq xs[k] ys[k]) = true := by assumption
          go_ret
          refine ⟨?_, hb.trans hb2⟩
          have : ¬ xs = ys := by
            intro e; subst e; exact stpEq_no h rfl
          simp [this]
        · have h : (!stpEq xs[k] ys[k]) = false := by assumption
          go_roundw
          case rel =>
            refine ⟨k + 1, by omega, by go_num, ?_, hb.trans hb2⟩
            show _ = _
            rw [take_snoc xs k hlt1, take_snoc ys k hlt2, ht.out, stpEq_yes h]
          case measure => simp [intOf]; omega
      · have hk' : k = ys.length := by omega
        have h2 := ht.out
        have h3 := HLE.out
        rw [hk'] at h2
        have HD : Hid (((xs.length : Int) == (ys.length : Int)) = decide (xs = ys)) := by
          show _ = _
          by_cases he : xs.length = ys.length
          · rw [List.take_of_length_le (by omega), List.take_of_length_le (by omega)] at h2
            rw [h2]; simp
          · have h4 : ¬ xs = ys := fun e => he (by rw [e])
            have h5 : ¬ ((xs.length : Int) = (ys.length : Int)) := by omega
            rw [decide_eq_false h4]
            simpa using h5
        clear h2 h3 ht
        go_wp2
        go_ret
        exact ⟨by rw [← HD.out]; rfl, hb⟩
  · have hm : min (xs.length : Int) (ys.length : Int) = xs.length := by omega
    have HLE := Lib.hid hle
    clear hle
    go_enter Try.func19, Try.ntmps19
    go_wp2
    go_loopw [11] (fun i wr => ∃ (k : Nat), k ≤ xs.length ∧ i = .int .i64 k ∧ Hid (xs.take k = ys.take k) ∧ Below w.heap.size w wr) (fun i _ => xs.length - (intOf i).toNat)
    case atStart => exact ⟨0, by omega, rfl, by show _ = _; simp, Below.refl _ _⟩
    case round =>
      obtain ⟨k, hk, rfl, ht, hb⟩ := hrel
      by_cases hlt : k < xs.length
      · have hlt1 : k < xs.length := by have := HLE.out; omega
        have hlt2 : k < ys.length := by have := HLE.out; omega
        obtain ⟨b, off, rfl, hbl, hc0, hc1, hc2⟩ := hcell k hlt1
        obtain ⟨b', off', rfl, hbl', hc0', hc1', hc2'⟩ := hcell' k hlt2
        have hd0 := (hb.cell (p := ⟨b, off + k * 3, none⟩) hbl).trans hc0
        have hd1 := (hb.cell (p := ⟨b, off + k * 3 + 1, none⟩) hbl).trans hc1
        have hd2 := (hb.cell (p := ⟨b, off + k * 3 + 2, none⟩) hbl).trans hc2
        have hd5 := (hb.cell (p := ⟨b', off' + k * 3, none⟩) hbl').trans hc0'
        have hd3 := (hb.cell (p := ⟨b', off' + k * 3 + 1, none⟩) hbl').trans hc1'
        have hd4 := (hb.cell (p := ⟨b', off' + k * 3 + 2, none⟩) hbl').trans hc2'
        clear hc0 hc1 hc2 hcell hc0' hc1' hc2' hcell'
        have i1 : (k : Int) < (xs.length : Int) := by omega
        go_wp2
        have hx0 : ∀ x : Ext w.heap.size wr, x.val.cell? ⟨b, off + k * 3, none⟩ = some (.int .i64 xs[k].1) := fun x => (x.property.cell (p := ⟨b, _, none⟩) hbl).trans hd0
        have hx1 : ∀ x : Ext w.heap.size wr, x.val.cell? ⟨b, off + k * 3 + 1, none⟩ = some (.string xs[k].2.1) := fun x => (x.property.cell (p := ⟨b, _, none⟩) hbl).trans hd1
        have hx2 : ∀ x : Ext w.heap.size wr, x.val.cell? ⟨b, off + k * 3 + 2, none⟩ = some (.string xs[k].2.2) := fun x => (x.property.cell (p := ⟨b, _, none⟩) hbl).trans hd2
        have hx5 : ∀ x : Ext w.heap.size wr, x.val.cell? ⟨b', off' + k * 3, none⟩ = some (.int .i64 ys[k].1) := fun x => (x.property.cell (p := ⟨b', _, none⟩) hbl').trans hd5
        have hx3 : ∀ x : Ext w.heap.size wr, x.val.cell? ⟨b', off' + k * 3 + 1, none⟩ = some (.string ys[k].2.1) := fun x => (x.property.cell (p := ⟨b', _, none⟩) hbl').trans hd3
        have hx4 : ∀ x : Ext w.heap.size wr, x.val.cell? ⟨b', off' + k * 3 + 2, none⟩ = some (.string ys[k].2.2) := fun x => (x.property.cell (p := ⟨b', _, none⟩) hbl').trans hd4
        clear hd0 hd1 hd2 hd3 hd4 hd5
        have i0 : (0 : Int) ≤ (k : Int) := by omega
        have i2 : (k : Int) < xs.length := by omega
        have i3 : (k : Int) < ys.length := by omega
        have hE := fun W => eq_stp xs[k] ys[k] W
        refine wp_region_ext w.heap.size (by kernel_rfl) (by kernel_rfl) ?_
        repeat (go_big_quiet_step (fail))
        refine wpQuiet_nil ?_
        intro w2 hw'
        obtain ⟨xw, hxw⟩ := hw'
        have hb2 := xw.property
        rw [← hxw] at hb2
        clear hxw xw
        clear hx0 hx1 hx2 hx3 hx4 hx5 hE
        go_wp2
        · have h : (!stpEq xs[k] ys[k]) = true := by assumption
          go_ret
          refine ⟨?_, hb.trans hb2⟩
          have : ¬ xs = ys := by
            intro e; subst e; exact stpEq_no h rfl
          simp [this]
        · have h : (!stpEq xs[k] ys[k]) = false := by assumption
          go_roundw
          case rel =>
            refine ⟨k + 1, by omega, by go_num, ?_, hb.trans hb2⟩
            show _ = _
            rw [take_snoc xs k hlt1, take_snoc ys k hlt2, ht.out, stpEq_yes h]
          case measure => simp [intOf]; omega
      · have hk' : k = xs.length := by omega
        have h2 := ht.out
        have h3 := HLE.out
        rw [hk'] at h2
        have HD : Hid (((xs.length : Int) == (ys.length : Int)) = decide (xs = ys)) := by
          show _ = _
          by_cases he : xs.length = ys.length
          · rw [List.take_of_length_le (by omega), List.take_of_length_le (by omega)] at h2
            rw [h2]; simp
          · have h4 : ¬ xs = ys := fun e => he (by rw [e])
            have h5 : ¬ ((xs.length : Int) = (ys.length : Int)) := by omega
            rw [decide_eq_false h4]
            simpa using h5
        clear h2 h3 ht
        go_wp2
        go_ret
        exact ⟨by rw [← HD.out]; rfl, hb⟩
end Go.Proofs.Yteadhnpmmpninaa
namespace Go.Proofs.Yteadhnpmmpninaa
open Go.RowKit Go.PM Go.PW Go.PS
attribute [local go_sem] Oper.semAt_some
set_option maxRecDepth 100000 in
set_option maxHeartbeats 800000 in
theorem drawSwapsFor_c (w : World) (v : Value) (n : Nat) (hv : RdB w w.heap.size v n) :
    Calls Try.prog 12 #[v] w fun e w' => ∃ u xs, e = .returned u ∧ w'.ownsRow w.heap.size 31 2 u xs.length (mcells xs) ∧ (xs.length ≤ 65 ∧ ∀ m ∈ xs, m.1.size ≤ 64 ∧ m.2.size ≤ 64) ∧ Below w.heap.size w w' := by
  have HO := Lib.hid (l13Open_c w v n hv)
  go_enter Try.func12, Try.ntmps12
  go_wp2_with fail
  refine HO.out.mono ?_
  rintro e w1 ⟨r, rfl, R1, b1⟩
  have hs1 := b1.size
  have hB := R1.1
  have HS := Lib.hid (l4Exchange_c w1 _ r 0 R1 (by omega))
  go_wp2_with fail
  refine HS.out.mono ?_
  rintro e w2 ⟨u, xs, p', rfl, ho, hsh, R2, hp, g2⟩
  have HSH := Lib.hid hsh
  have ho2 := own_more ho hs1
  have b2 : Below w.heap.size w w2 := b1.trans (below_grown g2 hs1 (fun g e => by cases e; exact hB))
  clear HO HS hsh
  go_wp2
  go_ret
  exact ⟨_, xs, rfl, ho2, HSH.out, b2⟩
set_option maxRecDepth 100000 in
set_option maxHeartbeats 12800000 in
theorem exFSwaps (w : World) (v0 : Value) (n0 : Nat) (hv : RdB w w.heap.size v0 n0) :
    Calls Try.prog 3 #[v0] w fun e w' => e = .returned (.bool true) ∧ Below w.heap.size w w' := by
  have hv0 := hv
  obtain ⟨A, cap, rfl, hc, hn, _⟩ := hv
  by_cases hbig : 1048576 < n0
  · have t : decide ((n0 : Int) > 1048576) = true := by simp; omega
    go_enter Try.func3, Try.ntmps3
    go_wp2
    go_ret
    exact ⟨rfl, Below.refl _ _⟩
  have t : decide ((n0 : Int) > 1048576) = false := by simp; omega
  have HD := Lib.hid (drawSwapsFor_c w _ n0 hv0)
  clear hv0
  go_enter Try.func3, Try.ntmps3
  go_wp2_with fail
  refine HD.out.mono ?_
  rintro e w1 ⟨u, xs, rfl, ho, ⟨hl, hz⟩, b1⟩
  have R1 : RdM w1 u xs := Rd.of_own ho
  have hz1 : ∀ m ∈ xs, m.1.size ≤ 9223372036854775807 ∧ m.2.size ≤ 9223372036854775807 := fun m hm => by have := hz m hm; omega
  have HI1 := Lib.hid (fun W (R : RdM W u xs) => imSwapsFor_c xs u W R)
  have HS1 := Lib.hid (fun W (R : RdM W u xs) => spSwapsFor_c xs u W R hz1 (by omega))
  have HI2 := Lib.hid (fun W (R : RdM W u xs) => imNeighbourSwaps_c xs u W R)
  have HS2 := Lib.hid (fun W (R : RdM W u xs) => spNeighbourSwaps_c xs u W R hz1 (by omega))
  have HIC0 := Lib.hid (fun W (R : RdM W u xs) => imCountSwaps_c xs u W R (by omega))
  have HSC0 := Lib.hid (fun W (R : RdM W u xs) => spCountSwaps_c xs u W R hz1 (by omega))
  have HIG0 := Lib.hid (fun W (R : RdM W u xs) => imSignOf_c xs u W R (by omega))
  have HSG0 := Lib.hid (fun W (R : RdM W u xs) => spSignOf_c xs u W R hz1 (by omega))
  have HRG0 := Lib.hid (fun W (R : RdM W u xs) => imRingsOf_c xs u W R)
  have HPI := Lib.hid (fun s W => pmIndex_c s W)
  have HQ0 : Hid (∀ zs v u W, RdS W v zs → RdS W u zs → Calls Try.prog 19 #[v, u] W fun e w' => e = .returned (.bool true) ∧ Below W.heap.size W w') := fun zs v u W P Q => by
    have := pmSteps_c zs zs v u W P Q
    rwa [show decide (zs = zs) = true by simp] at this
  have HIR0 := Lib.hid (fun ss v W (P : RdS W v ss) (R : RdM W u xs) => imIsRight_c ss xs v u W P R)
  have HON := Lib.hid (@swp_nums xs)
  have HNO := Lib.hid (@swp_none xs)
  have HMV := Lib.hid (@exch_mv xs)
  clear HD ho hz hz1 hl
  go_wp2_with fail
  refine (HI1.out _ R1).mono ?_
  rintro e w2 ⟨vd, rfl, od, h2⟩
  have b2 := b1.trans (h2.mono b1.size)
  have R2 := R1.below h2
  have D2 : RdS w2 vd (swL (swM xs)) := Rd.of_own od
  clear od h2 b1 R1 HI1
  go_wp2_with fail
  refine (HS1.out _ R2).mono ?_
  rintro e w3 ⟨ve, rfl, oe, h3⟩
  have b3 := b2.trans (h3.mono b2.size)
  have R3 := R2.below h3
  have D3 := D2.below h3
  have E3 : RdS w3 ve (swL (swM xs)) := Rd.of_own oe
  clear oe h3 b2 R2 D2 HS1
  go_wp2_with fail
  refine (HI2.out _ R3).mono ?_
  rintro e w4 ⟨vn, rfl, on, h4⟩
  have b4 := b3.trans (h4.mono b3.size)
  have R4 := R3.below h4
  have D4 := D3.below h4
  have E4 := E3.below h4
  have N4 : RdS w4 vn (swL (nbM xs)) := Rd.of_own on
  clear on h4 b3 R3 D3 E3 HI2
  go_wp2_with fail
  refine (HS2.out _ R4).mono ?_
  rintro e w5 ⟨vm, rfl, om, h5⟩
  have b5 := b4.trans (h5.mono b4.size)
  have R5 := R4.below h5
  have D5 := D4.below h5
  have E5 := E4.below h5
  have N5 := N4.below h5
  have M5 : RdS w5 vm (swL (nbM xs)) := Rd.of_own om
  clear om h5 b4 R4 D4 E4 N4 HS2
  have HQ1 := Lib.hid (fun W (hW : Below w5.heap.size w5 W) => (HQ0.out _ _ _ W (D5.below hW) (E5.below hW)).mono (fun e w' h => (⟨h.1, hW.trans (h.2.mono hW.size)⟩ : e = .returned (.bool true) ∧ Below w5.heap.size w5 w')))
  have HQ2 := Lib.hid (fun W (hW : Below w5.heap.size w5 W) => (HQ0.out _ _ _ W (N5.below hW) (M5.below hW)).mono (fun e w' h => (⟨h.1, hW.trans (h.2.mono hW.size)⟩ : e = .returned (.bool true) ∧ Below w5.heap.size w5 w')))
  have HIC := Lib.hid (fun W (hW : Below w5.heap.size w5 W) => (HIC0.out W (R5.below hW)).mono (fun e w' h => (⟨h.1, hW.trans (h.2.mono hW.size)⟩ : e = .returned (.int .i64 (csI xs)) ∧ Below w5.heap.size w5 w')))
  have HSC := Lib.hid (fun W (hW : Below w5.heap.size w5 W) => (HSC0.out W (R5.below hW)).mono (fun e w' h => (⟨h.1, hW.trans (h.2.mono hW.size)⟩ : e = .returned (.int .i64 (csI xs)) ∧ Below w5.heap.size w5 w')))
  have HIG := Lib.hid (fun W (hW : Below w5.heap.size w5 W) => (HIG0.out W (R5.below hW)).mono (fun e w' h => (⟨h.1, hW.trans (h.2.mono hW.size)⟩ : e = .returned (.int .i64 (sgI xs)) ∧ Below w5.heap.size w5 w')))
  have HSG := Lib.hid (fun W (hW : Below w5.heap.size w5 W) => (HSG0.out W (R5.below hW)).mono (fun e w' h => (⟨h.1, hW.trans (h.2.mono hW.size)⟩ : e = .returned (.int .i64 (sgI xs)) ∧ Below w5.heap.size w5 w')))
  have HIR1 := Lib.hid (fun W (hW : Below w5.heap.size w5 W) => (HIR0.out _ _ W (D5.below hW) (R5.below hW)).mono (fun e w' h => (⟨h.1, hW.trans (h.2.mono hW.size)⟩ : e = .returned (.bool (irB (swL (swM xs)) xs)) ∧ Below w5.heap.size w5 w')))
  have HIR2 := Lib.hid (fun W (hW : Below w5.heap.size w5 W) => (HIR0.out _ _ W (N5.below hW) (R5.below hW)).mono (fun e w' h => (⟨h.1, hW.trans (h.2.mono hW.size)⟩ : e = .returned (.bool (irB (swL (nbM xs)) xs)) ∧ Below w5.heap.size w5 w')))
  have hb0 : Below w5.heap.size w5 w5 := Below.refl _ _
  clear HQ0 HIC0 HSC0 HIG0 HSG0 HIR0 E5 M5
  rcases Bool.eq_false_or_eq_true (exchB xs) with hm | hm
  · obtain ⟨n, m, R, n9, m36, r9, l1, l2, l3, l4, l5, l6, l7, l8, l9, l10, l11⟩ := HON.out hm
    have HV := HMV.out hm
    rw [l7] at HIR1
    rw [l8] at HIR2
    rw [l5] at HIC HSC
    obtain ⟨Ad, cd, ed, _⟩ := D5.open
    subst ed
    obtain ⟨An, cn, en, hn3, hc3, hcell⟩ := N5.open
    subst en
    have HLM := Lib.hid l2
    rw [l1] at HIR1 HQ1
    rw [l2] at HIR2 HQ2 hn3 hc3
    rw [l1, l2]
    rw [l3] at HRG0
    rw [hm]
    obtain ⟨sg, hsg⟩ : ∃ sg, sg = sgI xs := ⟨_, rfl⟩
    rw [← hsg] at HIG HSG l6
    have HSGN := Lib.hid l6
    have HPAR := Lib.hid l9
    have HLE := Lib.hid l10
    have HPL := Lib.hid l4
    have HRL := Lib.hid l3
    have q0 : (sg != sg) = false := by simp
    clear HON HNO HMV D5 N5 hm l5 l6 l7 l8 l9 l10 hsg
    go_wp2_with fail
    refine (HIC.out _ hb0).mono ?_
    rintro e w6 ⟨rfl, hb6⟩
    clear hb0
    go_wp2_with fail
    refine (HIG.out _ hb6).mono ?_
    rintro e w7 ⟨rfl, hb7⟩
    clear hb6
    go_wp2_with fail
    refine (HQ1.out _ hb7).mono ?_
    rintro e w8 ⟨rfl, hb8⟩
    clear hb7
    go_wp2_with fail
    refine (HQ2.out _ hb8).mono ?_
    rintro e w9 ⟨rfl, hb9⟩
    clear hb8
    go_wp2_with fail
    refine (HSC.out _ hb9).mono ?_
    rintro e w10 ⟨rfl, hb10⟩
    clear hb9
    go_wp2_with fail
    refine (HSG.out _ hb10).mono ?_
    rintro e w11 ⟨rfl, hb11⟩
    clear hb10
    clear HIC HIG HQ1 HQ2 HSC HSG q0 l1 l2 l3 l4
    go_wp2_with fail
    generalize swL (nbM xs) = zs at *
    go_loopw [15, 126] (fun _ i wr => ∃ (k : Nat), k ≤ m ∧ i = .int .i64 k ∧ Below w5.heap.size w5 wr) (fun _ i _ => m - (intOf i).toNat)
    case atStart => exact ⟨0, by omega, rfl, hb11⟩
    case round =>
      clear hb11
      obtain ⟨k, hk, rfl, hb⟩ := hrel
      have hbs := hb.size
      by_cases hlt : k < m
      · have hlt' : k < zs.length := by rw [HLM.out]; exact hlt
        obtain ⟨b, off, rfl, hbl, hc1, hc2, hc3'⟩ := hcell k hlt'
        obtain ⟨p, hp8, hpe⟩ := l11 k hlt'
        rw [hpe] at hc1 hc2 hc3'
        have hd1 := (hb.cell (p := ⟨b, off + k * 3, none⟩) hbl).trans hc1
        have hd2 := (hb.cell (p := ⟨b, off + k * 3 + 1, none⟩) hbl).trans hc2
        have hd3 := (hb.cell (p := ⟨b, off + k * 3 + 2, none⟩) hbl).trans hc3'
        have HPX := Lib.hid (fun W => HPI.out (nm p) W)
        have HPY := Lib.hid (fun W => HPI.out (nm (p + 1)) W)
        rw [pmI_yes (p := p) (by omega) rfl] at HPX
        rw [pmI_yes (p := p + 1) (by omega) rfl, show ((p + 1 : Nat) : Int) = (p : Int) + 1 by omega] at HPY
        clear hc1 hc2 hc3' hcell l11 hpe HPI HIR1 HIR2 HRG0
        generalize nm p = sx at *
        generalize nm (p + 1) = sy at *
        go_wp2
        obtain ⟨W1, hW1⟩ : ∃ W1, W1 = wr.alloc (.cells #[.int .i64 1, .string sx, .string sy] 33) := ⟨_, rfl⟩
        have hA1 : At W1 wr.heap.size 33 #[.int .i64 1, .string sx, .string sy] := by rw [hW1]; exact At.new _ _ _
        have hB1 : Below w5.heap.size w5 W1 := by rw [hW1]; (repeat' (first | (with_reducible exact Below.refl _ _) | (with_reducible assumption) | (with_reducible refine Below.alloc ?_ ?_ _) | (with_reducible refine Below.drew ?_) | (with_reducible refine Below.setCell ?_ ?_ _) | (with_reducible exact Nat.le_refl _) | omega | ((repeat (first | rewrite [World.size_alloc] | rewrite [World.size_setCell] | rewrite [World.size_drew])); omega) | (simp; omega) | (simp; done)))
        rw [← hW1]
        clear hW1
        have hx0 : ∀ x : Ext W1.heap.size W1, x.val.cell? ⟨wr.heap.size, 0, none⟩ = some (.int .i64 1) := fun x => (x.property.cell (p := ⟨wr.heap.size, 0, none⟩) hA1.lt).trans (hA1.cell 0)
        have hx1 : ∀ x : Ext W1.heap.size W1, x.val.cell? ⟨wr.heap.size, 1, none⟩ = some (.string sx) := fun x => (x.property.cell (p := ⟨wr.heap.size, 1, none⟩) hA1.lt).trans (hA1.cell 1)
        have hx2 : ∀ x : Ext W1.heap.size W1, x.val.cell? ⟨wr.heap.size, 2, none⟩ = some (.string sy) := fun x => (x.property.cell (p := ⟨wr.heap.size, 2, none⟩) hA1.lt).trans (hA1.cell 2)
        have hpa : ∀ x : Ext W1.heap.size W1, Calls Try.prog 22 #[.string sx] x.val fun e w' => e = .returned (.int .i64 (p : Int)) ∧ Below x.val.heap.size x.val w' := fun x => HPX.out x.val
        have hpb : ∀ x : Ext W1.heap.size W1, Calls Try.prog 22 #[.string sy] x.val fun e w' => e = .returned (.int .i64 ((p : Int) + 1)) ∧ Below x.val.heap.size x.val w' := fun x => HPY.out x.val
        have hpq : (((p : Int) + 1) != ((p : Int) + 1)) = false := by simp
        clear hA1 HPX HPY hd1 hd2 hd3 hb
        refine wp_region_ext W1.heap.size (by kernel_rfl) (by kernel_rfl) ?_
        repeat (go_big_quiet_step (first | (go_at_call 22; with_reducible exact ext_call _ (Nat.le_refl _) (hpa _)) | (go_at_call 22; with_reducible exact ext_call _ (Nat.le_refl _) (hpb _))))
        refine wpQuiet_nil ?_
        intro w13 hw'
        obtain ⟨xw, hxw⟩ := hw'
        have hb13 := xw.property
        rw [← hxw] at hb13
        clear hxw xw hpa hpb hx0 hx1 hx2
        have b13 := hB1.trans (hb13.mono hB1.size)
        go_wp2
        go_roundw
        case rel => exact ⟨k + 1, by omega, by go_num, b13⟩
        case measure => simp [intOf]; omega
      · clear hcell l11 HPI
        rw [HV] at HRG0
        go_wp2_with fail
        refine (HRG0.out _ (R5.below hb)).mono ?_
        rintro e w6 ⟨vr, rfl, or_, h6⟩
        rw [← HRL.out] at or_
        have T6 : RdT w6 vr (ringsB xs) := Rd.of_own or_
        have b6 := hb.trans (h6.mono hbs)
        clear or_ h6 HRG0 hb
        obtain ⟨A4, cap4, rfl, hn4, hc4, hcell4⟩ := T6.open
        rw [HRL.out] at hn4 hc4 ⊢
        have HTK := Lib.hid (fun k hk => plN_take (ringsB xs) k hk)
        have HMN := Lib.hid (fun k => plN_mono (ringsB xs) k)
        clear T6
        generalize ringsB xs = rs at *
        have hps := HPL.out
        have b60 : Below w6.heap.size w6 w6 := Below.refl _ _
        go_wp2_with fail
        go_loopw [18, 20, 153] (fun o _ i wr => ∃ (k : Nat), k ≤ R ∧ i = .int .i64 k ∧ o = .int .i64 (plN (rs.take k) : Nat) ∧ Below w6.heap.size w6 wr) (fun _ _ i _ => R - (intOf i).toNat)
        case atStart => exact ⟨0, by omega, rfl, by simp [plN], b60⟩
        case round =>
          obtain ⟨k, hk, rfl, rfl, hb⟩ := hrel
          have hbs := hb.size
          have hmk := HMN.out k
          by_cases hlt : k < R
          · have hlt' : k < rs.length := by rw [HRL.out]; exact hlt
            obtain ⟨b, off, rfl, hbl, hc1⟩ := hcell4 k hlt'
            have hd1 := (hb.cell (p := ⟨b, off + k, none⟩) hbl).trans hc1
            have hnx := HTK.out k hlt'
            have hmx := HMN.out (k + 1)
            have HNX : Hid (Value.int .i64 ((plN (rs.take k) : Nat) + (rs[k].size : Int)) = .int .i64 (plN (rs.take (k + 1)) : Nat)) := by show _ = _; rw [hnx]; simp
            have hsz : rs[k].size ≤ 18 := by omega
            clear hc1 hcell4 HTK HMN hnx hmx HIR1 HIR2
            generalize rs[k] = s1 at *
            generalize plN (rs.take k) = acc at *
            go_wp2
            go_roundw
            case rel => exact ⟨k + 1, by omega, by go_num, HNX.out, hb⟩
            case measure => simp [intOf]; omega
          · have HX : rs.take k = rs := List.take_of_length_le (by rw [HRL.out]; omega)
            rw [HX, hps]
            have b7 := b6.trans (hb.mono b6.size)
            have q1 : ((n : Int) == ((n + R : Nat) : Int) - (R : Int)) = true := by rw [beq_iff_eq]; omega
            have q1a : ((n : Int) == (n : Int) + (R : Int) - (R : Int)) = true := by rw [beq_iff_eq]; omega
            have hle := HLE.out
            have hpar := HPAR.out
            have q2 : ((m : Int) - (n : Int)).tmod 2 = 0 := by rw [Int.tmod_eq_emod_of_nonneg (by omega)]; omega
            have q3 : decide ((m : Int) ≥ (n : Int)) = true := by rw [decide_eq_true_eq]; omega
            have q4 : ((n : Int) == (n : Int)) = true := by simp
            have hsg := HSGN.out
            clear hcell4 HTK HMN HX hps hmk hb b60 HPL HRL HSGN HLE HPAR
            rcases Nat.mod_two_eq_zero_or_one n with h2 | h2
            · rw [if_pos h2] at hsg
              subst hsg
              have n2 : (n : Int).tmod 2 = 0 := by rw [Int.tmod_eq_emod_of_nonneg (by omega)]; omega
              clear h2 hpar
              go_wp2_with fail
              refine (HIR1.out _ b7).mono ?_
              rintro e w8 ⟨rfl, b8⟩
              go_wp2_with fail
              refine (HIR2.out _ b8).mono ?_
              rintro e w9 ⟨rfl, b9⟩
              go_wp2
              go_ret
              exact ⟨rfl, b5.trans (b9.mono b5.size)⟩
            · rw [if_neg (by omega)] at hsg
              subst hsg
              have n2 : (n : Int).tmod 2 = 1 := by rw [Int.tmod_eq_emod_of_nonneg (by omega)]; omega
              clear h2 hpar
              go_wp2_with fail
              refine (HIR1.out _ b7).mono ?_
              rintro e w8 ⟨rfl, b8⟩
              go_wp2_with fail
              refine (HIR2.out _ b8).mono ?_
              rintro e w9 ⟨rfl, b9⟩
              go_wp2
              go_ret
              exact ⟨rfl, b5.trans (b9.mono b5.size)⟩
  · obtain ⟨l1, l2⟩ := HNO.out hm
    rw [l1] at HIC HSC
    rw [l2] at HIG HSG
    rw [hm]
    clear HON HNO HMV HRG0 HIR1 HIR2 D5 N5 hm l1 l2
    go_wp2_with fail
    refine (HIC.out _ hb0).mono ?_
    rintro e w6 ⟨rfl, hb6⟩
    clear hb0
    go_wp2_with fail
    refine (HIG.out _ hb6).mono ?_
    rintro e w7 ⟨rfl, hb7⟩
    clear hb6
    go_wp2_with fail
    refine (HQ1.out _ hb7).mono ?_
    rintro e w8 ⟨rfl, hb8⟩
    clear hb7
    go_wp2_with fail
    refine (HQ2.out _ hb8).mono ?_
    rintro e w9 ⟨rfl, hb9⟩
    clear hb8
    go_wp2_with fail
    refine (HSC.out _ hb9).mono ?_
    rintro e w10 ⟨rfl, hb10⟩
    clear hb9
    go_wp2_with fail
    refine (HSG.out _ hb10).mono ?_
    rintro e w11 ⟨rfl, hb11⟩
    clear hb10
    go_wp2_with fail
    refine (HQ1.out _ hb11).mono ?_
    rintro e w12 ⟨rfl, hb12⟩
    clear hb11
    go_wp2_with fail
    refine (HQ2.out _ hb12).mono ?_
    rintro e w13 ⟨rfl, hb13⟩
    clear hb12
    go_wp2_with fail
    refine (HSC.out _ hb13).mono ?_
    rintro e w14 ⟨rfl, hb14⟩
    clear hb13
    go_wp2_with fail
    refine (HSG.out _ hb14).mono ?_
    rintro e w15 ⟨rfl, hb15⟩
    clear hb14
    go_wp2
    go_ret
    exact ⟨rfl, b5.trans (hb15.mono b5.size)⟩

namespace fnSwaps
open Go.RowKit Go.PM Go.ChangeShapes Go.WideShapes Go.ChangeAt
open Go.ChangeMaps (open_string shut_string)
set_option maxRecDepth 100000 in
theorem lifted (os : Os) (started : os.Started) (H : Type) (enc : TypeId × Value → H) :
    ReturnsInHanded {} Try.checked os 3 .any (Rows.fnSwapsSpec.pre6 enc Try.prog Try.f3 Rows.fnSwapsRow.domain false) (Rows.fnSwapsSpec.post enc Try.prog Try.f3 false true false false) := by
  refine returnsInHanded_of_change (C := Try.checked) own started (by kernel_rfl) Try.func3
    (ChangeSpec.witness6 (enc := enc) (C := Try.checked) false ⟨#[], #[.slice none 0 0], []⟩ 8 (by kernel_rfl) (by kernel_rfl) (by kernel_rfl) (by kernel_rfl)) ?_
  intro W base args ds gs before hval0 hW hcnd _
  have hval : ∀ (j : Nat) t v, Try.f3.params[j]? = some t → args[j]? = some v → Value.okWide Try.prog W .any base t v := hval0
  have hW' := hW
  obtain ⟨p, q, hA0, hV, rfl, hfz, hnd⟩ := hW
  have hA : DataW.TrodAll enc Try.prog W 0 (fun _ => true) true Try.f3.params.toList args.toList ds p := hA0
  rw [Try.params3] at hA hval
  obtain ⟨v0, vs0, d0, ds0, p0, q0, hargs, rfl, rfl, h0, r0⟩ := trodAll_cons hA
  obtain ⟨rfl, rfl, rfl⟩ := trodAll_nil r0
  obtain rfl : args = #[v0] := by cases args; simp_all
  obtain ⟨rfl, rfl⟩ := trodVars_none hV
  have k0 := h0
  have lt0 : ∀ x ∈ p0, x.block < W.heap.size := by obtain ⟨m, hm⟩ := k0; exact DataW.trod_lt m _ _ _ hm
  obtain ⟨a0, len0, cap0, rfl⟩ := okWide_slice Try.underlying22 (hval 0 22 v0 rfl rfl)
  have hx0 : RdB W W.heap.size (.slice a0 len0 cap0) len0 := by obtain ⟨fuel, hf⟩ := h0; exact open_bytes hf
  clear hA0 hval0
  refine (exFSwaps W _ len0 hx0).mono fun e W' ⟨he, bel⟩ => ?_
  subst he
  exact ⟨_, rfl, _, _, _, [], _, [], hW', trodAll_mk1 (shut_bool Try.underlying4 _), (trodAll_cons_mk (Below.trod laidOut (by kernel_rfl) (of_decide_eq_true (by kernel_rfl)) k0 bel lt0) trodAll_mk0), rfl, bel.frame _, fun h => by cases h⟩

theorem over : Rows.fnSwapsRow.holds Try.pinned (OpenSpec.ofChange Rows.fnSwapsSpec) :=
  OpenClaim.holds_of_wide 3 Try.f3 rfl rfl rfl rfl rfl rfl rfl ⟨rfl, rfl, rfl, rfl, rfl⟩ rfl rfl rfl rfl rfl (by kernel_rfl) Try.func3 (by kernel_rfl)
    (of_decide_eq_true (by kernel_rfl)) (by unfold Func.isWrapper; first | (rw [if_pos (by decide +kernel)]; kernel_rfl) | (rw [if_neg (by decide +kernel)]; exact ⟨rfl, rfl⟩))
    (fun os started H enc _ => lifted os started H enc)

/-- The statement. -/
theorem proved : Rows.FnSwapsSaid := over
end fnSwaps
end Go.Proofs.Yteadhnpmmpninaa
