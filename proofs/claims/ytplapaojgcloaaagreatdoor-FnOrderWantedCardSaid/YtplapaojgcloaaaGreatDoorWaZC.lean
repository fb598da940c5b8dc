import Derived.Test.YtplapaojgcloaaaGreatDoorWaZB
import Derived.Test.YtplapaojgcloaaaGreatDoorWaZA
import Derived.Test.YtplapaojgcloaaaGreatDoorSpS2
import Derived.Test.YtplapaojgcloaaaGreatDoorEff
import Derived.Test.YtplapaojgcloaaaGreatDoorProg
import Derived.Test.YtplapaojgcloaaaGreatDoorLib
import Derived.Shelf.Spec.TrailingZeros
import Derived.Test.YtplapaojgcloaaaGreatDoorRange
import Derived.Test.YtplapaojgcloaaaGreatDoorWaP
import Derived.Test.YtplapaojgcloaaaGreatDoorIm3
import Derived.Test.YtplapaojgcloaaaGreatDoorSource
import Derived.Test.YtplapaojgcloaaaGreatDoorTail
import Derived.Test.YtplapaojgcloaaaGreatDoorNames
import Derived.Laws.BitsAllLaws
import Derived.Laws.ShiftsVarLaws
import Derived.Test.YtplapaojgcloaaaGreatDoorRow
import Derived.Test.YtplapaojgcloaaaGreatDoorTouch
import Derived.OpenShut
import Derived.ChangeArms
import Derived.Test.YtplapaojgcloaaaGreatDoorTie
import Derived.Test.YtplapaojgcloaaaGreatDoorCards
import Derived.ChangeSame
import Derived.ChangeVars
import Derived.JoinedOf
import Derived.LaidLaws
import Derived.LaidHandle
import Derived.SevenTiedAt
namespace Go.PM
open Go.RowKit
/-- what is taken, and what waits, at the head of a round -/
def TakS (w : World) (e : TypeId) (bs : List Mv) (k : Nat) (ov wv : Value) (A : World) : Prop :=
  ∃ (pre ws : List Mv), pre ++ takF k ws = takF 9 bs ∧ Wt ws ∧ ws.length ≤ k ∧ ws.length ≤ 9 ∧ pre.length + ws.length = bs.length ∧ A.ownsRow w.heap.size e 2 wv ws.length (mcells ws) ∧ A.ownsRow w.heap.size e 2 ov pre.length (mcells pre) ∧ (wv.ownBlock ≠ ov.ownBlock ∨ ov.ownBlock = none) ∧ Below w.heap.size w A
theorem busyF_ne (xs : List Mv) : ∀ m ∈ busyF xs 9, m.1 ≠ m.2 := by
  intro m hm
  have hl : busyF xs 9 = lsF (fun p => srcM xs (nm p)) 9 := rfl
  rw [hl] at hm
  obtain ⟨p, _, hne, e⟩ := lsF_mem hm
  rw [e]; exact fun e => hne e.symm
end Go.PM
namespace Go.Proofs.YtplapaojgcloaaaGreatDoor
open Go.RowKit Go.PM
attribute [local go_sem] Oper.semAt_some

/-- append of one move, and where it lies -/
theorem app_lies {ops : Array Oper} {rest : List Oper} {o : Oper} {a : Act} {Q : Exit → Act → World → Prop} {w : World} (hgd : o.guard = none) (s x : Operand)
    (ho : o.op = .call { callee := .builtin .append, args := #[s, x], argTypes := #[23, 23] })
    (base : Nat) (v : Value) (ys : List Mv) (m : Mv) (ad : Addr) (c : Nat) (hs : a.eval s = v) (hx : a.eval x = .slice (some ad) 1 c)
    (hown : w.ownsRow base 37 2 v ys.length (mcells ys)) (hnew : ∀ j u, [Value.string m.1, Value.string m.2][j]? = some u → w.cell? (ad.add j) = some u)
    (hlen : ys.length ≤ 1048576) (hbase : base ≤ w.heap.size)
    (h : ∀ v' w', w'.ownsRow base 37 2 v' (ys ++ [m]).length (mcells (ys ++ [m])) → w.grownBy w' v.ownBlock → (v'.ownBlock = v.ownBlock ∨ v'.ownBlock = some w.heap.size) → wpList Tryz.prog ops Q rest (a.put o.dst v') w') : wpList Tryz.prog ops Q (o :: rest) a w := by
  obtain ⟨i0, hi0, hz0, hz1, hz2⟩ := info_parts infoMv
  refine wpList_append_lies w hgd s x _ ho base 37 i0 _ 2 32 Tryz.underlying23 hi0 hz0 hz1 hz2 rfl (by omega) v ys.length (mcells ys) hs hown ad 1 c [Value.string m.1, Value.string m.2] hx rfl hnew
    (by intro u hu; simp at hu; rcases hu with rfl | rfl <;> rfl) (by omega) (by simp only [maxLen]; omega) (by omega) hbase _ rfl ?_
  intro g cap w' h2 h3 h4 _
  have hcs : mcells ys ++ [Value.string m.1, Value.string m.2] = mcells (ys ++ [m]) := by rw [mcells_append]; simp [mcells]
  refine h _ w' ?_ h3 ?_
  · rw [← hcs, List.length_append]; exact h2
  · rcases h4 with h4 | h4
    · exact .inl h4.symm
    · right; rw [h4]; rfl

end Go.Proofs.YtplapaojgcloaaaGreatDoor
namespace Go.PE
open Go.PM Go.PD Go.RowKit
def keQ (t : ByteArray) (m : Mv) : Bool := (wnN t.data.toList).testBit (pidx m.1)
theorem ke_byte {xs : List Mv} (t : ByteArray) (k : Nat) (hk : k < (busyF xs 9).length) : ∃ c, (busyF xs 9)[k].1 = ⟨#[c]⟩ ∧ keQ t (busyF xs 9)[k] = decide (c ∈ t.data.toList) := by
  have hl : busyF xs 9 = lsF (fun p => srcM xs (nm p)) 9 := rfl
  have hm : (busyF xs 9)[k] ∈ lsF (fun p => srcM xs (nm p)) 9 := by rw [← hl]; exact List.getElem_mem hk
  obtain ⟨p, hp, _, e⟩ := lsF_mem hm
  refine ⟨placesL.getD p 0, by rw [e]; exact nm_byte p hp, ?_⟩
  unfold keQ
  rw [e]
  show (wnN t.data.toList).testBit (pidx (nm p)) = _
  rw [pidx_nm hp, wv_mem hp]
theorem ke_step {ms : List Mv} (t : ByteArray) (k : Nat) (hk : k < ms.length) : (ms.take (k + 1)).filter (keQ t) = if keQ t ms[k] then (ms.take k).filter (keQ t) ++ [ms[k]] else (ms.take k).filter (keQ t) := by
  rw [take_snoc ms k hk, List.filter_append]
  cases h : keQ t ms[k] <;> simp [h]
theorem ke_len (ms : List Mv) (t : ByteArray) (k : Nat) : ((ms.take k).filter (keQ t)).length ≤ ms.length := by
  have h1 := List.length_filter_le (keQ t) (ms.take k)
  have h2 : (ms.take k).length ≤ ms.length := by rw [List.length_take]; omega
  omega
theorem ke_full (xs : List Mv) (t : ByteArray) : (busyF xs 9).filter (keQ t) = kwL xs (wnN t.data.toList) := kw_filter xs _ 9 (Nat.le_refl _)
/-- wanted places, one letter behind the other -/
theorem wv_extract {t : ByteArray} (h : wvB t = true) (k : Nat) (hk : k < t.size) : ∃ p, p < 9 ∧ t.extract k (k + 1) = nm p ∧ (wnN t.data.toList).testBit p = true ∧ (elN (wnN t.data.toList))[k]? = some p := by
  have hl : k < t.data.toList.length := by rw [size_data]; exact hk
  have hwl := wv_list h
  have hk2 : k < (elN (wnN t.data.toList)).length := by
    have := congrArg List.length hwl
    rw [List.length_map, size_data] at this; omega
  have h2 : (elN (wnN t.data.toList))[k] ∈ elN (wnN t.data.toList) := List.getElem_mem hk2
  have hp9 := el9 (wnN_lt _) _ h2
  refine ⟨(elN (wnN t.data.toList))[k], hp9, ?_, (el_mem.1 h2).2, List.getElem?_eq_getElem hk2⟩
  rw [extract_one t k hk, nm_byte _ hp9, pl_cells hp9]
  have h3 : t.data.toList[k]? = some (cellsL.getD (elN (wnN t.data.toList))[k] 0) := by
    have := congrArg (fun l : List UInt8 => l[k]?) hwl
    simp only [List.getElem?_map, List.getElem?_eq_getElem hk2, Option.map_some] at this
    exact this
  rw [List.getD_eq_getElem?_getD, h3]; rfl
def scT (xs : List Mv) (t : ByteArray) (k : Nat) : ByteArray := ⟨(scL xs ((elN (wnN t.data.toList)).take k)).toArray⟩
theorem scT_step {xs : List Mv} (_h : MV xs) {t : ByteArray} (hw : wvB t = true) (k : Nat) (hk : k < t.size) : scT xs t k ++ srcM xs (t.extract k (k + 1)) = scT xs t (k + 1) := by
  obtain ⟨p, hp, e, _, he⟩ := wv_extract hw k hk
  have hk2 : k < (elN (wnN t.data.toList)).length := (List.getElem?_eq_some_iff.1 he).1
  have he2 : (elN (wnN t.data.toList))[k] = p := (List.getElem?_eq_some_iff.1 he).2
  apply ByteArray.ext
  rw [e, ByteArray.data_append]
  unfold scT
  rw [take_snoc _ k hk2, scL_snoc, he2]
  simp
theorem scT_size {xs : List Mv} (h : MV xs) (t : ByteArray) (k : Nat) : (scT xs t k).size ≤ k := by
  have e : (scT xs t k).size = (scL xs ((elN (wnN t.data.toList)).take k)).length := by simp [scT, ByteArray.size]
  rw [e]
  unfold scL
  have key : ∀ l : List Nat, (∀ p ∈ l, p < 9) → (l.flatMap fun p => (srcM xs (nm p)).data.toList).length = l.length := by
    intro l
    induction l with
    | nil => intro _; rfl
    | cons p l ih =>
      intro hp
      rw [List.flatMap_cons, List.length_append, ih (fun q hq => hp q (List.mem_cons_of_mem _ hq)), size_data, isS_size (srcM_isS h (isP_nm (hp p (List.mem_cons_self ..)))), List.length_cons]; omega
  rw [key _ (fun p hp => el9 (wnN_lt _) p (List.mem_of_mem_take hp)), List.length_take]; omega
theorem scT_full {xs : List Mv} {t : ByteArray} (hw : wvB t = true) : scT xs t t.size = ⟨(scL xs (elN (wnN t.data.toList))).toArray⟩ := by
  have : t.size = (elN (wnN t.data.toList)).length := by
    have := congrArg List.length (wv_list hw)
    rwa [List.length_map, size_data] at this
  unfold scT; rw [this, List.take_length]
end Go.PE
namespace Go.Proofs.YtplapaojgcloaaaGreatDoor
open Go.RowKit Go.PM Go.PE
attribute [local go_sem] Oper.semAt_some

set_option maxRecDepth 100000 in
set_option maxHeartbeats 1000000 in
theorem l3SortedA_c (t : ByteArray) (ht : t.size ≤ 9223372036854775807) (w : World) :
    Calls Tryz.prog 36 #[.string t] w fun e w' => e = .returned (.string (srB t)) ∧ w = w' := by
  have HN : Hid (∀ q, q < 9 → (ByteArray.mk #[97, 98, 99, 100, 101, 102, 65, 66, 67]).extract q (q+1) = ⟨#[placesL.getD q 0]⟩) := fun q hq => extract_one placesB q hq
  have HI : Hid (∀ q (_ : q < 9) (h : q < (ByteArray.mk #[97, 98, 99, 100, 101, 102, 65, 66, 67]).size), (ByteArray.mk #[97, 98, 99, 100, 101, 102, 65, 66, 67])[q] = placesL.getD q 0) := by
    show ∀ q, _
    intro q hq h
    match q, hq with
    | 0, _ | 1, _ | 2, _ | 3, _ | 4, _ | 5, _ | 6, _ | 7, _ | 8, _ => rfl
  have HP := Lib.hid (fun k => pickB_succ placesL (inTx placesL t.data.toList) k)
  have HZ := Lib.hid (fun k => pickB_size placesL (inTx placesL t.data.toList) k)
  have HX : Hid (∀ k, inTx placesL t.data.toList k = decide (placesL.getD k 0 ∈ t.data.toList)) := fun _ => rfl
  have HE : Hid (pickB placesL (inTx placesL t.data.toList) 9 = srB t) := rfl
  generalize inTx placesL t.data.toList = h at *
  go_enter Tryz.func36, Tryz.ntmps36
  go_wp2
  go_loop [3, 4, 5] (fun o _ i => ∃ (k : Nat), k ≤ 9 ∧ i = .int .i64 k ∧ o = .string (pickB placesL h k)) (fun _ _ i => 9 - (RowKit.intOf i).toNat)
  case atStart => exact ⟨0, by omega, rfl, rfl⟩
  case round =>
    obtain ⟨k, hk, rfl, rfl⟩ := hrel
    by_cases hlt : k < 9
    · have hex := HN.out k hlt
      have hix := HI.out k hlt
      have HPK := Lib.hid (HP.out k)
      have hz := HZ.out k
      have hxk := HX.out k
      have hone : (ByteArray.mk #[placesL.getD k 0]).size = 1 := rfl
      generalize pickB placesL h k = tk at *
      generalize (ByteArray.mk #[placesL.getD k 0]) = q at *
      generalize placesL.getD k 0 = c at *
      by_cases hin : c ∈ t.data.toList
      · have hi0 : (0 : Int) ≤ Lib.indexByte t.data.toList c := (indexByte_mem _ _).2 hin
        rw [decide_eq_true hin] at hxk
        have HR : Hid (pickB placesL h (k + 1) = tk ++ q) := by show _ = _; rw [HPK.out, if_pos hxk]
        clear hin hxk
        go_wp2_with (go_at_call 37; refine (l13Find_c t c _ ht).mono ?_; rintro e w' ⟨rfl, rfl⟩)
        go_round
        case rel => exact ⟨k + 1, by omega, by go_num, by rw [HR.out]⟩
        case measure => simp [RowKit.intOf]; omega
      · have hi0 : ¬ (0 : Int) ≤ Lib.indexByte t.data.toList c := fun h2 => hin ((indexByte_mem _ _).1 h2)
        rw [decide_eq_false hin] at hxk
        have HR : Hid (pickB placesL h (k + 1) = tk) := by show _ = _; rw [HPK.out, if_neg (by rw [hxk]; decide)]
        clear hin hxk
        go_wp2_with (go_at_call 37; refine (l13Find_c t c _ ht).mono ?_; rintro e w' ⟨rfl, rfl⟩)
        go_round
        case rel => exact ⟨k + 1, by omega, by go_num, by rw [HR.out]⟩
        case measure => simp [RowKit.intOf]; omega
    · have hk9 : k = 9 := by omega
      subst hk9
      have h2 := HE.out
      rw [h2]
      go_wp2
      go_ret
      exact ⟨rfl, rfl⟩
theorem spWantedValid_c (t : ByteArray) (ht : t.size ≤ 9223372036854775807) (w : World) :
    Calls Tryz.prog 31 #[.string t] w fun e w' => e = .returned (.bool (wvB t)) ∧ w = w' := by
  have HS := Lib.hid (fun W => l3SortedA_c t ht W)
  have HW : Hid (((srB t).toList == t.toList) = wvB t) := by show _ = _; rw [beq_str]; rfl
  generalize srB t = q at *
  go_enter Tryz.func31, Tryz.ntmps31
  go_wp2_with (go_at_call 36; refine (HS.out _).mono ?_; rintro e w' ⟨rfl, rfl⟩)
  go_ret
  exact ⟨by rw [← HW.out]; rfl, rfl⟩
set_option maxRecDepth 100000 in
set_option maxHeartbeats 2000000 in
theorem l9Keep_c (xs : List Mv) (t : ByteArray) (ht : t.size ≤ 1048576) (v : Value) (w : World) (hx : RdM w v xs) :
    Calls Tryz.prog 32 #[v, .string t] w fun e w' => ∃ v', e = .returned v' ∧ w'.ownsRow w.heap.size 37 2 v' (kwL xs (wnN t.data.toList)).length (mcells (kwL xs (wnN t.data.toList))) ∧ Below w.heap.size w w' := by
  have hE := World.ownsRow_lit (e := 37) (base := w.heap.size) (size := 2) w #[] 0 (Nat.le_refl _) (Nat.zero_le _) rfl
  have hB0 : Below w.heap.size w (w.alloc (.cells #[] 37)) := (Below.refl _ _).alloc (Nat.le_refl _) _
  have HL1 := Lib.hid (l1Busy_c xs v _ (hx.below hB0))
  have HBY := Lib.hid (fun k hk => ke_byte (xs := xs) t k hk)
  have HST := Lib.hid (fun k hk => ke_step (ms := busyF xs 9) t k hk)
  have HLN := Lib.hid (fun k => ke_len (busyF xs 9) t k)
  have HFU := Lib.hid (ke_full xs t)
  have hl9 := busyF_len xs 9
  clear hx
  generalize busyF xs 9 = bs at *
  go_enter Tryz.func32, Tryz.ntmps32
  go_wp2_with fail
  refine HL1.out.mono ?_
  rintro e w1 ⟨bv, rfl, ob, hb1⟩
  have hs0 : w.heap.size ≤ (w.alloc (.cells #[] 37)).heap.size := hB0.size
  have hB1 := hB0.trans (hb1.mono hs0)
  have hE1 := own_keep hE hb1
  have hne := own_ne hE ob (Nat.le_refl _)
  have ob1 := own_more ob hs0
  obtain ⟨A, cap, rfl, _⟩ := Rd.of_own ob1
  clear hE hB0 hb1 ob HL1
  go_wp2
  go_loopw [5, 7, 12] (fun o _ i wr => ∃ (k : Nat), k ≤ bs.length ∧ i = .int .i64 k ∧ wr.ownsRow w.heap.size 37 2 o ((bs.take k).filter (keQ t)).length (mcells ((bs.take k).filter (keQ t))) ∧ wr.ownsRow w.heap.size 37 2 (.slice A bs.length cap) bs.length (mcells bs) ∧ (o.ownBlock ≠ (Value.slice A bs.length cap).ownBlock ∨ (Value.slice A bs.length cap).ownBlock = none) ∧ Below w.heap.size w wr) (fun _ _ i _ => bs.length - (RowKit.intOf i).toNat)
  case atStart => exact ⟨0, by omega, rfl, hE1, ob1, hne, hB1⟩
  case round =>
    clear hE1 ob1 hne hB1
    obtain ⟨k, hk, rfl, ho, hob, hne, hb⟩ := hrel
    have hbs := hb.size
    by_cases hlt : k < bs.length
    · have hrd : RdM wr (.slice A bs.length cap) bs := Rd.of_own hob
      obtain ⟨A', cap', e, _, _, hcell⟩ := hrd.open
      cases e
      obtain ⟨b, off, rfl, hbl, hd1, hd2⟩ := hcell k hlt
      clear hcell hrd
      obtain ⟨c, hc, hq⟩ := HBY.out k hlt
      have hst := HST.out k hlt
      have hln := HLN.out k
      rw [hq, show bs[k] = (bs[k].1, bs[k].2) from rfl] at hst
      rw [hc] at hd1 hst
      clear hc hq
      generalize bs[k].2 = x2 at *
      have HS := Lib.hid hst
      clear hst
      have hA1 : At (wr.alloc (.cells #[.string ⟨#[c]⟩, .string x2] 37)) wr.heap.size 37 #[.string ⟨#[c]⟩, .string x2] := At.new _ _ _
      have hB1 : Below wr.heap.size wr (wr.alloc (.cells #[.string ⟨#[c]⟩, .string x2] 37)) := (Below.refl _ _).alloc (Nat.le_refl _) _
      have ho1 := own_keep ho hB1
      have hob1 := own_keep hob hB1
      have hb2 := hb.trans (hB1.mono hbs)
      have hbs2 := hb2.size
      have HF := Lib.hid (fun W => l13Find_c t c W (by omega))
      by_cases hin : c ∈ t.data.toList
      · have hi0 : (0 : Int) ≤ Lib.indexByte t.data.toList c := (indexByte_mem _ _).2 hin
        have HR : Hid ((bs.take (k + 1)).filter (keQ t) = (bs.take k).filter (keQ t) ++ [(⟨#[c]⟩, x2)]) := by show _ = _; rw [HS.out, decide_eq_true hin]; rfl
        have hnw := two_new (wr.alloc (.cells #[.string ⟨#[c]⟩, .string x2] 37)) (.string ⟨#[c]⟩) (.string x2) 37
        rw [World.size_alloc] at hnw
        clear hin HS hb hB1 ho hob
        generalize Lib.indexByte t.data.toList c = z at *
        go_wp2_with (first | (go_at_call 37; refine (HF.out _).mono ?_; rintro e w' ⟨rfl, rfl⟩) | (at_builtin; refine held ?_))
        unfold Held
        refine app_lies rfl (.tmp 22) (.tmp 24) rfl w.heap.size u5 ((bs.take k).filter (keQ t)) (⟨#[c]⟩, x2) ⟨wr.heap.size + 1, 0, none⟩ 1 (by rfl) (by rfl) (own_keep ho1 ((Below.refl _ _).alloc (Nat.le_refl _) _)) hnw (by omega) (by simp; omega) ?_
        intro v3 wx hov3 hg3 hl3
        have hob2 := own_keep hob1 ((Below.refl _ _).alloc (Nat.le_refl _) (.cells #[.string ⟨#[c]⟩, .string x2] 37))
        have hob3 := own_grown hob2 hg3 (ne_turn hne)
        have hb3 := (hb2.alloc hbs2 (.cells #[.string ⟨#[c]⟩, .string x2] 37)).trans (below_grown hg3 (B := w.heap.size) (by simp; omega) (own_block_ge ho1))
        have hne3 : v3.ownBlock ≠ (Value.slice (some ⟨b, off, none⟩) bs.length cap).ownBlock ∨ (Value.slice (some ⟨b, off, none⟩) bs.length cap).ownBlock = none := by
          rcases hl3 with e | e
          · rw [e]; exact hne
          · left; rw [e]
            intro e2
            have : b = ((wr.alloc (.cells #[.string ⟨#[c]⟩, .string x2] 37)).alloc (.cells #[.string ⟨#[c]⟩, .string x2] 37)).heap.size := by
              simpa [Value.ownBlock] using e2.symm
            rw [World.size_alloc, World.size_alloc] at this
            omega
        rw [← HR.out] at hov3
        clear hg3 hl3 hob2 hob1 ho1 hb2 hnw hne hA1
        go_wp2
        go_roundw
        case rel => exact ⟨k + 1, by omega, by go_num, hov3, hob3, hne3, hb3⟩
        case measure => simp [RowKit.intOf]; omega
      · have hi0 : ¬ (0 : Int) ≤ Lib.indexByte t.data.toList c := fun h2 => hin ((indexByte_mem _ _).1 h2)
        have HR : Hid ((bs.take (k + 1)).filter (keQ t) = (bs.take k).filter (keQ t)) := by show _ = _; rw [HS.out, decide_eq_false hin]; rfl
        rw [← HR.out] at ho1
        clear hin HS hb hB1 ho hob
        generalize Lib.indexByte t.data.toList c = z at *
        go_wp2_with (go_at_call 37; refine (HF.out _).mono ?_; rintro e w' ⟨rfl, rfl⟩)
        go_roundw
        case rel => exact ⟨k + 1, by omega, by go_num, ho1, hob1, hne, hb2⟩
        case measure => simp [RowKit.intOf]; omega
    · have hk' : k = bs.length := by omega
      have ho2 := ho
      rw [hk', List.take_length, HFU.out] at ho2
      have i1 : ¬ (k : Int) < (bs.length : Int) := by omega
      clear hk' ho
      go_wp2
      go_ret
      exact ⟨_, rfl, ho2, hb⟩
end Go.Proofs.YtplapaojgcloaaaGreatDoor
namespace Go.Proofs.YtplapaojgcloaaaGreatDoor
open Go.RowKit Go.PM
/-- the library's table of trailing zeros lies in memory as its text has it -/
structure Tz (w : World) : Prop where
  tab : TabAt 1 Lib.deBruijn64tab w
  lt : 1 < w.heap.size
theorem Tz.below {w w' : World} (h : Tz w) (hb : Below w.heap.size w w') : Tz w' :=
  ⟨fun j hj => (hb.cell (p := ⟨1, j, none⟩) h.lt).trans (h.tab j hj), Nat.lt_of_lt_of_le h.lt hb.size⟩
set_option maxHeartbeats 1000000 in
theorem tz64_core (x k idx : Nat) (w : World) (hx0 : ((x : Int) == 0) = false)
    (key : IntKind.u64.wrap (bits BinOp.and IntKind.u64 (x : Int) (IntKind.u64.wrap (-(x : Int))) * 285870213051353865) / 288230376151711744 = (idx : Int))
    (hi : idx < 64) (hk : k < 64) (hcell : w.cell? ⟨1, idx, none⟩ = some (.int .u8 k)) :
    Calls Tryz.prog 91 #[.int .u64 x] w fun e w' => e = .returned (.int .i64 k) ∧ w' = w := by
  go_enter Tryz.func91, Tryz.ntmps91
  go_wp2_with (simp only [key])
  go_ret
  exact ⟨rfl, rfl⟩
theorem tz64_zero (w : World) : Calls Tryz.prog 91 #[.int .u64 0] w fun e w' => e = .returned (.int .i64 64) ∧ w' = w := by
  go_enter Tryz.func91, Tryz.ntmps91
  go_wp2
  go_ret
  exact ⟨rfl, rfl⟩
theorem tz64_c (x : Nat) (hx : x < 18446744073709551616) (w : World) (hT : Tz w) :
    Calls Tryz.prog 91 #[.int .u64 x] w fun e w' => e = .returned (.int .i64 (Lib.ctz 64 x)) ∧ w' = w := by
  by_cases hx0 : x = 0
  · subst hx0
    exact tz64_zero w
  · obtain ⟨hlow, hk⟩ := Lib.lowest_bit 64 x hx0 hx
    obtain ⟨hi, htab⟩ := Lib.deBruijn64_at _ hk
    have hcell := hT.tab _ hi
    rw [htab] at hcell
    exact tz64_core x _ _ w (by simp; omega) (tz64_key x _ hx hx0 hlow) hi hk hcell
theorem trailing_c (n : Nat) (hn : n < 2048) (w : World) (hT : Tz w) :
    Calls Tryz.prog 69 #[.int .u64 n] w fun e w' => e = .returned (.int .i64 (Lib.ctz 64 n)) ∧ w = w' := by
  have c64 := tz64_c n (by omega) w hT
  have hw : IntKind.u64.wrap (n : Int) = (n : Int) := by rw [IntKind.wrap_u64]; omega
  generalize Lib.ctz 64 n = k at *
  go_enter Tryz.func69, Tryz.ntmps69
  go_wp2_with (go_at_call 91; refine c64.mono ?_; rintro e w' ⟨rfl, hw'⟩; rw [hw'])
  go_ret
  exact ⟨rfl, rfl⟩
end Go.Proofs.YtplapaojgcloaaaGreatDoor
namespace Go.PM
open Go.RowKit
variable {F : Fence} {n : Nat} {P : Program}
/-- the same contract, of a function that reads what the caller keeps -/
def IterP {α : Type} (Pr : World → Prop) (κ : Nat) (F : Fence) (n : Nat) (P : Program) (gf : Nat) (mk : Value → Array Value) (encs : α → Array Value) (xs : List α) : Prop :=
  ∀ (l : Nat) (J Jx : List α → World → Prop) (W : World),
    OwnFrom W.heap.size J → OwnFrom W.heap.size Jx → (∀ pre A, J pre A → Pr A) →
    (∀ pre x A, J pre A → W.heap.size + κ ≤ A.heap.size → pre ++ [x] <+: xs → YieldAt F (n - 1) P l (encs x) A fun e A' =>
      (e = .returned (.bool true) ∧ J (pre ++ [x]) A' ∧ KeepsIn W.heap.size κ A A' ∧ KeepsFrom W.heap.size A A') ∨ (e = .returned (.bool false) ∧ Jx (pre ++ [x]) A' ∧ A.heap.size ≤ A'.heap.size ∧ KeepsFrom W.heap.size A A')) →
    J [] W →
    CallsIn F n P gf (mk (.func (.yield l) #[] #[])) W fun e W' => (∃ v, e = .returned v) ∧ (J xs W' ∨ ∃ pre, pre <+: xs ∧ Jx pre W')
theorem range_law3 {α : Type} {Pr : World → Prop} {g : Operand} {ps : Array Tmp} {assign body : Code} {Q : Exit → Act → World → Prop} {a : Act} {w : World} (hro : F.round = none) (h1 : 1 ≤ n)
    {gf : Nat} {lf lb : Array Value} (hg : a.eval g = .func (.func gf) lf lb) (hFg : F.fn gf) (eg : ∀ args w, (callFunc gf args).run P w = .ok (.enter gf args) w)
    {encs : α → Array Value} {xs : List α} {κ : Nat} (hit : IterP Pr κ F (n - 1) P gf (fun y => lf ++ #[y] ++ lb) encs xs) (hps : ∀ x, (encs x).size = ps.size)
    (I : List α → World → Prop) (Ix : Code → List α → World → Prop) (hPr : ∀ pre A, I pre A → Pr A) (hI : OwnFrom w.heap.size I) (hIx : ∀ c, OwnFrom w.heap.size (Ix c)) (h0 : I [] w) (Ax : α → Act → World → Prop) (hAx : ∀ x a', OwnFrom w.heap.size (fun (_ : Unit) W => Ax x a' W))
    (hassign : ∀ (l : Nat) (pre : List α) (x : α) (W : World) (K : Act → World → Prop), I pre W → pre ++ [x] <+: xs → w.heap.size + 2 + κ ≤ W.heap.size → (∀ a' W', KeepsNew w.heap.size W W' → I pre W' → Ax x a' W' → K a' W') →
      assign.wpIn (F.inRound l) (n - 1 - 1) P (Exit.then K (fun _ _ _ => False)) { tmps := (ps.zip (encs x)).foldl (fun t (p, v) => t.setIfInBounds p v) a.tmps, defers := [] } W)
    (hbody : ∀ (l : Nat) (pre : List α) (x : α) (a' : Act) (W : World), I pre W → Ax x a' W → pre ++ [x] <+: xs → w.heap.size + 2 + κ ≤ W.heap.size → body.wpIn (F.inRound l) (n - 1 - 1) P (ownPostG w.heap.size (KeepsIn (w.heap.size + 2) κ) I Ix (pre ++ [x]) W) a' W)
    (hdone : ∀ (D : Nat) (W : World), w.heap.size ≤ D → I xs W → W.heap[D]? = some (.deferred (some [])) → Q .normal { a with defers := { target := .collected D, args := #[] } :: a.defers } W)
    (hstop : ∀ (D : Nat) (c : Code) (pre : List α) (W : World), w.heap.size ≤ D → pre <+: xs → Ix c pre W → W.heap[D]? = some (.deferred (some [])) → c.wpIn F n P Q { a with defers := { target := .collected D, args := #[] } :: a.defers } W) :
    (Code.rangeFunc g ps assign body).wpIn F n P Q a w := by
  refine wpIn_rangeFunc fun fn hfn => ?_
  rw [hro]
  have key : ∃ rc : LoopState → Option Code → Loop, rc = fun s j => { state := s, pending := j, fn, tmps := a.tmps, params := ps, assign, body, defers := w.heap.size } := ⟨_, rfl⟩
  obtain ⟨rc, hrc⟩ := key
  let V := (w.alloc (.deferred (some []))).alloc (.loop (rc .ready none))
  -- the two blocks of book-keeping, and that the caller's own facts outlast what is done to them
  let Bk : LoopState → Option Code → World → Prop := fun s j A => A.heap[w.heap.size + 1]? = some (.loop (rc s j)) ∧ A.heap[w.heap.size]? = some (.deferred (some []))
  have bkput : ∀ {s j s' j' A}, Bk s j A → Bk s' j' (A.putObj (w.heap.size + 1) (.loop (rc s' j'))) := fun h =>
    ⟨World.putObj_heap_same (Array.getElem?_eq_some_iff.1 h.1).1, (World.putObj_heap_other (by omega)).trans h.2⟩
  have hVs : V.heap.size = w.heap.size + 2 := by simp [V, World.size_alloc]
  have bknew : ∀ {s j A A' row}, Bk s j A → A.grownBy A' row → (∀ r, row = some r → V.heap.size ≤ r ∧ ∃ o : Obj, A.heap[r]? = some o ∧ o.isCells = false) → Bk s j A' := fun h hg' hr =>
    ⟨(hg'.block _ (Array.getElem?_eq_some_iff.1 h.1).1 (fun e => by have := (hr _ e.symm).1; omega)).trans h.1, (hg'.block _ (Array.getElem?_eq_some_iff.1 h.2).1 (fun e => by have := (hr _ e.symm).1; omega)).trans h.2⟩
  have hV : Bk .ready none V := by
    refine ⟨?_, ?_⟩
    · have := World.alloc_heap_new (w.alloc (.deferred (some []))) (.loop (rc .ready none)); rwa [World.size_alloc] at this
    · exact (Below.heap_alloc _ _ _ (by simp)).trans (World.alloc_heap_new w _)
  have hIV : I [] V := hI.alloc _ (hI.alloc _ h0)
  refine ⟨w.heap.size + 1, [{ target := .collected w.heap.size, args := #[] }], V, { target := .fn (.func gf) lb, args := lf ++ #[.func (.yield (w.heap.size + 1)) #[] #[]] }, V, gf,
    lf ++ #[.func (.yield (w.heap.size + 1)) #[] #[]] ++ lb, V, ?_, ?_, ?_, ?_, fun _ => h1, ?_⟩
  · have := run_enterLoop_outer (P := P) (w := w) fn a.tmps ps assign body
    rw [this]; simp only [V, hrc]
  · simp only [resolve, hg]
    simp [go_sem]
  · intro f' hf'
    simp [Target.leads] at hf'
    subst hf'; exact hFg
  · simp [invoke, go_sem, eg]
  refine (hit (w.heap.size + 1) (fun pre A => I pre A ∧ Bk .ready none A) (fun pre A => ∃ c, Ix c pre A ∧ Bk .done (some c) A) V
    (fun pre A A' row h hg' hr => ⟨hI pre A A' row h.1 hg' (fun r e => ⟨by have := (hr r e).1; omega, (hr r e).2⟩), bknew h.2 hg' hr⟩)
    (fun pre A A' row ⟨c, h, hb⟩ hg' hr => ⟨c, hIx c pre A A' row h hg' (fun r e => ⟨by have := (hr r e).1; omega, (hr r e).2⟩), bknew hb hg' hr⟩) (fun pre A h => hPr pre A h.1) ?_ ⟨hIV, hV⟩).mono ?_
  · rintro pre x A ⟨hi, hb⟩ hsz hpx
    have hy := run_yield (P := P) (args := encs x) hb.1 (by rw [hrc]; exact hps x)
    rw [hrc] at hy
    refine ⟨fn, _, assign, body, hy, roundIn_of_wpIn hfn (hassign _ pre x A _ hi hpx (by omega) ?_)⟩
    intro a' Wa hkn hia hax
    have hlt := (Array.getElem?_eq_some_iff.1 hb.1).1
    replace hb : Bk .ready none Wa := ⟨(hkn.same _ (by omega) hlt).trans hb.1, (hkn.same _ (Nat.le_refl _) (by omega)).trans hb.2⟩
    clear hy hi
    refine ⟨_, run_beginRound hb.1 (by rw [hrc]), ?_⟩
    have hknV : KeepsIn V.heap.size κ A Wa := hkn.toIn (by omega) hsz
    have hkfV : KeepsFrom V.heap.size A Wa := (hkn.mono (by omega)).from
    have hszA : A.heap.size ≤ Wa.heap.size := hkn.size
    replace hsz := Nat.le_trans hsz hszA
    clear hkn
    revert hknV hkfV hszA
    generalize A = A0
    intro hknV hkfV hszA
    obtain ⟨A, rfl⟩ : ∃ A, A = Wa := ⟨_, rfl⟩
    have hb2 : Bk .busy none (A.putObj (w.heap.size + 1) (.loop (rc .busy none))) := bkput hb
    have e2 : ({ rc .ready none with state := .busy } : Loop) = rc .busy none := by rw [hrc]
    rw [e2]
    refine wpIn_mono (hbody _ pre x a' _ (hI.putObj _ hia (by omega) hb.1 rfl) ((hAx x a').putObj (s := ()) _ hax (by omega) hb.1 rfl) hpx (by simp [World.putObj]; omega)) ?_
    have fin : ∀ (j : Option Code) (C : World), KeepsFrom w.heap.size (A.putObj (w.heap.size + 1) (.loop (rc .busy none))) C →
        (Instr.endRound (w.heap.size + 1) j).run P C = .ok (.bool j.isNone) (C.putObj (w.heap.size + 1) (.loop (rc (if j.isNone then .ready else .done) j))) ∧ Bk .busy none C := fun j C hk => by
      have h1 := hk.same _ _ (by omega) hb2.1 rfl
      have h2 := hk.same _ _ (Nat.le_refl _) hb2.2 rfl
      have h3 := run_endRound (P := P) j h1
      refine ⟨?_, h1, h2⟩
      rw [h3]; rw [hrc]
    have kfin : ∀ (o : Obj) (C : World), KeepsFrom w.heap.size (A.putObj (w.heap.size + 1) (.loop (rc .busy none))) C → KeepsFrom V.heap.size A0 (C.putObj (w.heap.size + 1) o) := fun o C hk => by
      refine hkfV.trans ?_
      refine ⟨by have := hk.size; simp [World.putObj] at this ⊢; omega, fun k x hk1 hk2 hk3 => ?_⟩
      rw [World.putObj_heap_other (by omega)]
      exact hk.same k x (by omega) (by rw [World.putObj_heap_other (by omega)]; exact hk2) hk3
    rintro e a3 C hp
    cases e with
    | normal =>
      obtain ⟨hk, hkn, hi3⟩ := hp
      obtain ⟨hr, hb3⟩ := fin none C hk
      refine ⟨_, _, hr, .inl ⟨rfl, ⟨hI.putObj _ hi3 (by omega) hb3.1 rfl, bkput hb3⟩, ?_, kfin _ C hk⟩⟩
      refine ⟨by have := hkn.size; simp [World.putObj] at this ⊢; omega, fun k hk1 hk2 => ?_⟩
      rw [World.putObj_heap_other (by omega), hkn.same k (by omega) (by omega), World.putObj_heap_other (by omega)]
      exact hknV.same k hk1 hk2
    | ret =>
      obtain ⟨hk, hi3⟩ := hp
      obtain ⟨hr, hb3⟩ := fin (some .ret) C hk
      exact ⟨_, _, hr, .inr ⟨rfl, ⟨.ret, (hIx _).putObj _ hi3 (by omega) hb3.1 rfl, bkput hb3⟩, by have := hk.size; simp [World.putObj] at this ⊢; omega, kfin _ C hk⟩⟩
    | exit id =>
      obtain ⟨hk, hi3⟩ := hp
      obtain ⟨hr, hb3⟩ := fin (some (.exit id)) C hk
      exact ⟨_, _, hr, .inr ⟨rfl, ⟨.exit id, (hIx _).putObj _ hi3 (by omega) hb3.1 rfl, bkput hb3⟩, by have := hk.size; simp [World.putObj] at this ⊢; omega, kfin _ C hk⟩⟩
    | goto t =>
      obtain ⟨hk, hi3⟩ := hp
      obtain ⟨hr, hb3⟩ := fin (some (.goto t)) C hk
      exact ⟨_, _, hr, .inr ⟨rfl, ⟨.goto t, (hIx _).putObj _ hi3 (by omega) hb3.1 rfl, bkput hb3⟩, by have := hk.size; simp [World.putObj] at this ⊢; omega, kfin _ C hk⟩⟩
    | panic ch => exact hp.elim
    | outgrown => exact hp.elim
  · rintro e C ⟨⟨v, rfl⟩, (⟨hi, hb⟩ | ⟨pre, hp, c, hi, hb⟩)⟩
    · have h3 := run_endLoop (P := P) hb.1 (by rw [hrc]; simp)
      refine ⟨none, _, by rw [h3, hrc], hdone _ _ (Nat.le_refl _) (hI.putObj _ hi (by omega) hb.1 rfl) ((World.putObj_heap_other (by omega)).trans hb.2)⟩
    · have h3 := run_endLoop (P := P) hb.1 (by rw [hrc]; simp)
      refine ⟨some c, _, by rw [h3, hrc], hstop _ c pre _ (Nat.le_refl _) hp ((hIx c).putObj _ hi (by omega) hb.1 rfl) ((World.putObj_heap_other (by omega)).trans hb.2)⟩
end Go.PM
namespace Go.PE
open Go.PM Go.RowKit
section
variable {F : Fence} {n : Nat} {P : Program}
theorem range_law3s {α : Type} {Pr : World → Prop} {g : Operand} {ps : Array Tmp} {assign body : Code} {Q : Exit → Act → World → Prop} {a : Act} {w : World} (hro : F.round = none) (h1 : 1 ≤ n)
    {gf : Nat} {lf lb : Array Value} (hg : a.eval g = .func (.func gf) lf lb) (hFg : F.fn gf) (eg : ∀ args w, (callFunc gf args).run P w = .ok (.enter gf args) w)
    {encs : α → Array Value} {xs : List α} {κ : Nat} (hit : IterP Pr κ F (n - 1) P gf (fun y => lf ++ #[y] ++ lb) encs xs) (hps : ∀ x, (encs x).size = ps.size)
    (I : List α → World → Prop) (Ix : Code → List α → World → Prop) (hPr : ∀ pre A, I pre A → Pr A) (hI : OwnFrom w.heap.size I) (hIx : ∀ c, OwnFrom w.heap.size (Ix c)) (h0 : I [] w) (a₁ : α → Act)
    (hassign : ∀ (l : Nat) (x : α) (W : World) (K : Act → World → Prop), K (a₁ x) W →
      assign.wpIn (F.inRound l) (n - 1 - 1) P (Exit.then K (fun _ _ _ => False)) { tmps := (ps.zip (encs x)).foldl (fun t (p, v) => t.setIfInBounds p v) a.tmps, defers := [] } W)
    (hbody : ∀ (l : Nat) (pre : List α) (x : α) (W : World), I pre W → pre ++ [x] <+: xs → w.heap.size + 2 + κ ≤ W.heap.size → body.wpIn (F.inRound l) (n - 1 - 1) P (ownPostG w.heap.size (KeepsIn (w.heap.size + 2) κ) I Ix (pre ++ [x]) W) (a₁ x) W)
    (hdone : ∀ (D : Nat) (W : World), w.heap.size ≤ D → I xs W → W.heap[D]? = some (.deferred (some [])) → Q .normal { a with defers := { target := .collected D, args := #[] } :: a.defers } W)
    (hstop : ∀ (D : Nat) (c : Code) (pre : List α) (W : World), w.heap.size ≤ D → pre <+: xs → Ix c pre W → W.heap[D]? = some (.deferred (some [])) → c.wpIn F n P Q { a with defers := { target := .collected D, args := #[] } :: a.defers } W) :
    (Code.rangeFunc g ps assign body).wpIn F n P Q a w :=
  range_law3 hro h1 hg hFg eg hit hps I Ix hPr hI hIx h0 (fun x a' _ => a' = a₁ x) (fun _ _ _ _ _ _ h _ _ => h)
    (fun l _ x W K hi _ _ hK => hassign l x W K (hK _ _ (KeepsNew.refl _ _) hi rfl)) (fun l pre x a' W hi ha hp hs => by subst ha; exact hbody l pre x W hi hp hs) hdone hstop
end
theorem take_snoc8 (l : List UInt8) (k : Nat) (hk : k < l.length) : l.take (k + 1) = l.take k ++ [l[k]] := take_snoc l k hk
theorem shl_u64 {c : Nat} (h : c < 11) : IntKind.u64.wrap ((2 : Int) ^ c) = ((1 <<< c : Nat) : Int) := by
  match c, h with
  | 0, _ | 1, _ | 2, _ | 3, _ | 4, _ | 5, _ | 6, _ | 7, _ | 8, _ | 9, _ | 10, _ => decide +kernel
theorem wrap_pred {n : Nat} (h : n < 2048) (h0 : n ≠ 0) : IntKind.u64.wrap ((n : Int) - 1) = ((n - 1 : Nat) : Int) := by
  rw [IntKind.wrap_u64]; omega
theorem stN_take (t : ByteArray) (k : Nat) (hk : k < t.size) : stN (t.data.toList.take (k + 1)) = if isC (t.extract k (k + 1)) then stN (t.data.toList.take k) ||| 1 <<< cidx (t.extract k (k + 1)) else stN (t.data.toList.take k) := by
  have hl : k < t.data.toList.length := by rw [size_data]; exact hk
  rw [take_snoc8 _ k hl, stN_snoc, extract_one t k hk, List.getD_eq_getElem?_getD, List.getElem?_eq_getElem hl]
  show _ = if isC ⟨#[t.data.toList[k]]⟩ = true then _ else _
  by_cases h : t.data.toList[k] ∈ cellsL
  · rw [if_pos h, if_pos (by simpa [isC] using h)]; rfl
  · rw [if_neg h, if_neg (by simpa [isC] using h)]
end Go.PE
namespace Go.Proofs.YtplapaojgcloaaaGreatDoor
open Go.RowKit Go.PM Go.PE
attribute [local go_sem] Oper.semAt_some

set_option maxHeartbeats 1000000 in
theorem setOf_c (t : ByteArray) (ht : t.size ≤ 1048576) (w : World) :
    Calls Tryz.prog 62 #[.string t] w fun e w' => e = .returned (.int .u64 (stN t.data.toList)) ∧ w = w' := by
  have HST := Lib.hid (stN_take t)
  have H0 : Hid (stN (t.data.toList.take 0) = 0) := by show _ = _; rw [List.take_zero]; exact stN_nil
  have HE : Hid (stN (t.data.toList.take t.size) = stN t.data.toList) := by show _ = _; rw [List.take_of_length_le (by rw [size_data]; exact Nat.le_refl _)]
  have HLT := Lib.hid (fun k => stN_lt (t.data.toList.take k))
  go_enter Tryz.func62, Tryz.ntmps62
  go_wp2
  go_loop [3, 4, 5, 6, 9] (fun o _ _ _ i => ∃ k : Nat, k ≤ t.size ∧ i = .int .i64 k ∧ o = .int .u64 (stN (t.data.toList.take k))) (fun _ _ _ _ i => t.size - (intOf i).toNat)
  case atStart => exact ⟨0, by omega, rfl, by rw [H0.out]; rfl⟩
  case round =>
    obtain ⟨k, hk, rfl, rfl⟩ := hrel
    by_cases hlt : k < t.size
    · have i1 : (k : Int) < (t.size : Int) := by omega
      have hst := HST.out k hlt
      have hn := HLT.out k
      rcases Bool.eq_false_or_eq_true (isC (t.extract k (k + 1))) with hc | hc
      · rw [if_pos hc] at hst
        have hcl := cidx_lt hc
        have HC := Lib.hid (fun W => cellOf_yes (t.extract k (k + 1)) hc W)
        have HSS := Lib.hid hst
        clear hst hc
        generalize cidx (t.extract k (k + 1)) = c at *
        generalize stN (t.data.toList.take k) = n at *
        go_wp2_with (go_at_call 86; refine (HC.out _).mono ?_; rintro e w' ⟨rfl, rfl⟩)
        go_round
        case rel =>
          refine ⟨k + 1, by omega, by go_num, ?_⟩
          rw [HSS.out, shl_u64 hcl, u64_or_nat _ _ (by omega) (by have := tw_lt hcl; omega)]
        case measure => simp [intOf]; omega
      · rw [if_neg (by rw [hc]; decide)] at hst
        have HC := Lib.hid (fun W => cellOf_no (t.extract k (k + 1)) hc W)
        have HSS := Lib.hid hst
        clear hst hc
        generalize stN (t.data.toList.take k) = n at *
        go_wp2_with (go_at_call 86; refine (HC.out _).mono ?_; rintro e w' ⟨rfl, rfl⟩)
        go_round
        case rel => exact ⟨k + 1, by omega, by go_num, by rw [HSS.out]⟩
        case measure => simp [intOf]; omega
    · have HK : Hid (k = t.size) := by show _ = _; omega
      have i1 : ¬ (k : Int) < (t.size : Int) := by omega
      clear hk hlt
      go_wp2
      go_ret
      exact ⟨by rw [HK.out, HE.out]; rfl, rfl⟩
set_option maxRecDepth 100000 in
set_option maxHeartbeats 1000000 in
theorem cells_iter (n0 : Nat) (hn0 : n0 < 2048) (m : Nat) (hm : 1 ≤ m) :
    IterP (fun W => Tz W) 0 Fence.wide m Tryz.prog 44 (fun y => #[.int .u64 (n0 : Int)] ++ #[y] ++ #[]) (fun p : Nat => #[.int .i64 p]) (elN n0) := by
  intro l J Jx W hJ hJx hPr hY h0
  have HEL := Lib.hid el_step
  have HR := Lib.hid (fun n h => el_rest (n := n) h)
  have HT := Lib.hid (fun n hn W hT => trailing_c n hn W hT)
  refine callsIn_of_wp Tryz.func44 rfl trivial ?_ rfl
  simp only [Tryz.ntmps44, List.size_toArray, List.length_cons, List.length_nil, Nat.reduceAdd, Nat.reduceSub, Array.replicate_succ, Array.replicate_zero, List.push_toArray, List.append_toArray, List.nil_append, List.cons_append]
  gi_wp2
  gi_loopw [4] (fun o wr => ∃ (n : Nat) (pre : List Nat), o = .int .u64 n ∧ n < 2048 ∧ pre ++ elN n = elN n0 ∧ J pre wr ∧ W.heap.size ≤ wr.heap.size) (fun o _ => (RowKit.intOf o).toNat)
  case atStart => exact ⟨n0, [], rfl, hn0, rfl, h0, Nat.le_refl _⟩
  case round =>
    obtain ⟨n, pre, rfl, hn, he, hj, hsz⟩ := hrel
    have hTz := hPr _ _ hj
    by_cases hz : n = 0
    · subst hz
      have he0 : pre = elN n0 := by rw [el_zero, List.append_nil] at he; exact he
      subst he0
      gi_wp2
      go_end0
      exact ⟨⟨_, rfl⟩, .inl hj⟩
    · obtain ⟨h1, h2⟩ := HEL.out n hn hz
      have h3 := HR.out n hn
      have hle : n &&& (n - 1) ≤ n - 1 := Nat.and_le_right
      have hT1 := HT.out n hn wr hTz
      have t1 : ((n : Int) == 0) = false := by simp; omega
      have t2 := wrap_pred hn hz
      have t3 := u64_and_nat n (n - 1) (by omega) (by omega)
      rw [h1] at he
      have he2 : (pre ++ [Lib.ctz 64 n]) ++ elN (n &&& (n - 1)) = elN n0 := by rw [List.append_assoc]; exact he
      have hpx : pre ++ [Lib.ctz 64 n] <+: elN n0 := ⟨_, he2⟩
      have HZ := Lib.hid hz
      clear h1 he hz
      generalize Lib.ctz 64 n = p at *
      generalize n &&& (n - 1) = n2 at *
      obtain ⟨fn, tmps, assign, body, hy, hR⟩ := hY pre p wr hj hsz hpx
      gi_wp2_with fail
      refine ⟨trivial, callsIn_wide.2 (hT1.mono ?_)⟩
      rintro e w2 ⟨rfl, rfl⟩
      gi_wp2
      refine hR.mono ?_
      rintro e W3 (⟨rfl, hJ3, hK3, _⟩ | ⟨rfl, hJx3, _⟩)
      · have hsz3 := Nat.le_trans hsz hK3.size
        gi_wp2
        go_roundw
        case rel => exact ⟨n2, _, rfl, h3, he2, hJ3, hsz3⟩
        case measure => simp [RowKit.intOf]; have := HZ.out; omega
      · gi_wp2
        refine bodyPost_ret (results_none rfl _ _ _) rfl ?_
        exact ⟨⟨_, rfl⟩, .inr ⟨_, hpx, hJx3⟩⟩
set_option maxRecDepth 100000 in
set_option maxHeartbeats 2000000 in
theorem nmN_c (n0 : Nat) (hn0 : n0 < 2048) (w : World) (hT : Tz w) :
    Calls Tryz.prog 34 #[.int .u64 n0] w fun e w' => e = .returned (.string (nmN n0)) ∧ Below w.heap.size w w' := by
  have HNS := Lib.hid nmE_snoc
  have HPE := Lib.hid (fun ps p h => pre_el (n := n0) (ps := ps) (p := p) h)
  have HSZ := Lib.hid nmE_size
  have HEN := Lib.hid (nmE_el n0)
  have HQ : Hid (∀ q, q < 11 → (ByteArray.mk #[97, 98, 99, 100, 101, 102, 65, 66, 67, 116, 117]).extract q (q+1) = ⟨#[cellsL.getD q 0]⟩) := fun q hq => extract_one cellsB q hq
  refine (callsIn_wide (n := 5)).1 ?_
  refine callsIn_of_wp_marks Tryz.func34 rfl trivial ?_ rfl
  simp only [Tryz.ntmps34, List.size_toArray, List.length_cons, List.length_nil, Nat.reduceAdd, Nat.reduceSub, Array.replicate_succ, Array.replicate_zero, List.push_toArray, List.append_toArray, List.nil_append, List.cons_append]
  gi_wp2
  obtain ⟨W0, hW0⟩ : ∃ W0 : World, W0 = w.alloc (.cells #[.string ⟨#[]⟩] 9) := ⟨_, rfl⟩
  have hS0 : W0.heap.size = w.heap.size + 1 := by rw [hW0]; simp only [World.size_alloc]
  have hB0 : Below w.heap.size w W0 := by rw [hW0]; exact (Below.refl _ _).alloc (Nat.le_refl _) _
  have hA0 : At W0 w.heap.size 9 #[.string (nmE [])] := by rw [hW0]; exact At.new _ _ _
  rw [← hW0]
  clear hW0
  refine range_law3s (F := Fence.wide) (Pr := fun W => Tz W) (gf := 44) (lf := #[.int .u64 (n0 : Int)]) (lb := #[]) rfl (by decide) rfl trivial (fun args w => rfl) (encs := fun p : Nat => #[.int .i64 p]) (xs := elN n0) (κ := 0)
    (cells_iter n0 hn0 4 (by decide)) (fun _ => rfl)
    (fun pre W => At W w.heap.size 9 #[.string (nmE pre)] ∧ Below w.heap.size w W)
    (fun _ _ _ => False) ?pr ?own (fun _ => ownFrom_pure _ _) ?start ?a1 ?assign ?body ?done ?stop
  case pr => exact fun pre A h => hT.below h.2
  case own =>
    rintro s A A' row ⟨k1, k3⟩ hg hr
    exact ⟨k1.turn hg (fun r e => (hr r e).2), k3.trans (below_grown hg k3.size (fun g e => by have := (hr g e).1; omega))⟩
  case start => exact ⟨hA0, hB0⟩
  case assign =>
    intro l p W Kc hK
    gi_wp2
    exact hK
  case body =>
    rintro l pre p A ⟨k1, k3⟩ hp hsz
    obtain ⟨hp11, hpl, _⟩ := HPE.out _ _ hp
    have i0 : (0 : Int) ≤ (p : Int) := by omega
    have i1 : (p : Int) < 11 := by omega
    have hz : (nmE pre).size ≤ 10 := by rw [HSZ.out]; exact hpl
    have hex := HQ.out p hp11
    have c1 : A.drew.cell? ⟨w.heap.size, 0, none⟩ = some (.string (nmE pre)) := k1.cell 0
    have f1 : A.drew.frozen? ⟨w.heap.size, 0, none⟩ = false := k1.frozen 0
    have hl1 := k1.lt
    have hb3 := k3.size
    have k1d : At A.drew w.heap.size 9 #[.string (nmE pre)] := k1
    have m1 : At (A.drew.setCell ⟨w.heap.size, 0, none⟩ (.string (nmE pre ++ ⟨#[cellsL.getD p 0]⟩))) w.heap.size 9 #[.string (nmE pre ++ ⟨#[cellsL.getD p 0]⟩)] := k1d.set 0 _
    have HE := Lib.hid (HNS.out pre p)
    clear k1 k1d hp hp11
    have hq1 : (ByteArray.mk #[cellsL.getD p 0]).size = 1 := rfl
    generalize (ByteArray.mk #[cellsL.getD p 0]) = q at *
    generalize nmE pre = t1 at *
    gi_wp2
    refine region_tail_inRound (F := Fence.wide) (C := fun w' => w' = A.drew) 6 rfl (by kernel_rfl) (by kernel_rfl) (by kernel_rfl) rfl ?_
    simp only [List.take_succ_cons, List.take_zero, List.drop_succ_cons, List.drop_zero]
    gi_big_quiet_step (fail)
    gi_big_quiet_step (fail)
    gi_big_quiet_step (fail)
    gi_big_quiet_step (fail)
    gi_big_quiet_step (fail)
    gi_big_quiet_step (fail)
    refine wpQuietIn_nil ?_
    intro w' hw'
    subst hw'
    gi_wp2
    rw [HE.out] at m1 ⊢
    exact ⟨(KeepsOthers.drew A).trans (KeepsOthers.setCell _ _ _) |>.from _, KeepsIn.zero (by simp [World.size_setCell]), m1, k3.drew.setCell (by simp) _⟩
  case done =>
    intro D W hD hI hd
    obtain ⟨k1, k3⟩ := hI
    have c3 : W.cell? ⟨w.heap.size, 0, none⟩ = some (.string (nmE (elN n0))) := k1.cell 0
    clear k1
    rw [HEN.out] at c3
    gi_wp2
    refine ⟨by simp, .inl ⟨D, _, rfl, run_takeDeferred hd, ?_⟩⟩
    exact ⟨_, results_tmp rfl _ _ _, rfl, k3.trans ⟨rfl, rfl, rfl, by simp [World.putObj], fun k hk => World.putObj_heap_other (by have := k3.size; omega)⟩⟩
  case stop =>
    intro _ _ _ _ _ _ hf
    exact hf.elim
theorem wantedOf_c (t : ByteArray) (ht : t.size ≤ 1048576) (w : World) (hT : Tz w) :
    Calls Tryz.prog 57 #[.string t] w fun e w' => e = .returned (.tuple #[.int .u64 (wnN t.data.toList), .bool (wvB t)]) ∧ Below w.heap.size w w' := by
  have HS := Lib.hid (fun W => setOf_c t ht W)
  have HN := Lib.hid (fun W hT => nmN_c (wnN t.data.toList) (Nat.lt_trans (wnN_lt _) (by decide)) W hT)
  have h1 : bits .and .u64 ((stN t.data.toList : Nat) : Int) 511 = ((wnN t.data.toList : Nat) : Int) := u64_and_nat _ 511 (by have := stN_lt t.data.toList; omega) (by decide)
  have HW : Hid (((nmN (wnN t.data.toList)).toList == t.toList) = wvB t) := by show _ = _; rw [beq_str, wn_names]; rfl
  generalize nmN (wnN t.data.toList) = q at *
  generalize wnN t.data.toList = n at *
  generalize stN t.data.toList = m at *
  go_enter Tryz.func57, Tryz.ntmps57
  go_wp2_with (first | (go_at_call 62; refine (HS.out _).mono ?_; rintro e w' ⟨rfl, rfl⟩) | (go_at_call 34; refine (HN.out _ hT).mono ?_; rintro e w1 ⟨rfl, hb1⟩))
  go_ret2
  exact ⟨by rw [← HW.out]; rfl, hb1⟩
end Go.Proofs.YtplapaojgcloaaaGreatDoor
namespace Go.PE
open Go.PM Go.RowKit
def tbF (xs : List Mv) : Nat → ByteArray := if mvalid xs then tabOf xs else fun _ => emp
theorem tbF_yes {xs : List Mv} (h : MV xs) : tbF xs = tabOf xs := if_pos (by simpa [mvalid] using h)
theorem tbF_no {xs : List Mv} (h : ¬ MV xs) : tbF xs = fun _ => emp := if_neg (by simpa [mvalid] using h)
def kpT (f : Nat → ByteArray) (ps : List Nat) : Nat → ByteArray := fun q => if q ∈ ps then f q else emp
theorem kpT_nil (f : Nat → ByteArray) : kpT f [] = fun _ => emp := by funext q; simp [kpT]
theorem kpT_set (f : Nat → ByteArray) (ps : List Nat) (p : Nat) (hp : p < 9) : (tabC (kpT f ps)).setIfInBounds p (.string (f p)) = tabC (kpT f (ps ++ [p])) := by
  rw [tabC_set _ p hp]
  congr 1
  funext q
  unfold kpT
  by_cases h : q = p
  · subst h; simp
  · simp [h]
theorem kpT_el (f : Nat → ByteArray) {n : Nat} (h : n < 512) : kpT f (elN n) = ktT f n := by
  funext q
  unfold kpT ktT
  by_cases hb : n.testBit q = true
  · rw [if_pos hb, if_pos]
    refine el_mem.2 ⟨?_, hb⟩
    refine Nat.lt_of_not_le fun hle => ?_
    rw [lt_test (k := 9) h (by omega)] at hb; cases hb
  · rw [if_neg hb, if_neg]
    intro hm; exact hb (el_mem.1 hm).2
theorem pre_el9 {n : Nat} (h : n < 512) {ps : List Nat} {p : Nat} (hp : ps ++ [p] <+: elN n) : p < 9 := el9 h p (hp.mem (List.mem_append_right _ (List.mem_singleton_self p)))
section
variable {P : Program}
theorem results_row3 {fn : Func} {p q r : Tmp} {ty : TypeId} {u v : Value} (h : fn.results = #[.cell p ty, .tmp q, .tmp r]) (tmps : Array Value) (w : World) (b : Nat) (t : TypeId) (cs : Array Value) (hp : tmps.getD p undef = .pointer (some ⟨b, 0, none⟩)) (hu0 : tmps.getD q undef = u) (hv : tmps.getD r undef = v) (hA : At w b t cs)
    (k : Nat) (e : TypeId) (hu : P.underlying ty = some (.array k e)) (hi : (P.info? ty).map (·.size) = some cs.size) : (results fn tmps).run P w = .ok (.tuple #[.agg cs, u, v]) w := by
  have hp' : tmps[p]?.getD undef = .pointer (some ⟨b, 0, none⟩) := by simpa using hp
  have hu' : tmps[q]?.getD undef = u := by simpa using hu0
  have hv' : tmps[r]?.getD undef = v := by simpa using hv
  simp [results, h, hp', hu', hv', asAddr, run_loadVar_row w b t ty cs (0, 0) _ hA hu rfl hi]
end
/-- sources one behind the other, of any table -/
def scF (f : Nat → ByteArray) (ps : List Nat) : Nat := ps.foldl (fun n p => n ||| cN (srcT f p)) 0
theorem scF_snoc (f : Nat → ByteArray) (ps : List Nat) (p : Nat) : scF f (ps ++ [p]) = scF f ps ||| cN (srcT f p) := by simp [scF, List.foldl_append]
theorem scF_lt (f : Nat → ByteArray) (ps : List Nat) : scF f ps < 2048 := by
  have key : ∀ (ps : List Nat) (m : Nat), m < 2048 → ps.foldl (fun n p => n ||| cN (srcT f p)) m < 2048 := by
    intro ps
    induction ps with
    | nil => intro m hm; exact hm
    | cons p ps ih => intro m hm; exact ih _ (Nat.or_lt_two_pow (n := 11) hm (cN_lt _))
  exact key ps 0 (by decide)
theorem scF_sc {ys : List Mv} (h : MV ys) : ∀ ps : List Nat, (∀ p ∈ ps, p < 9) → scF (tabOf ys) ps = stN (scL ys ps) := by
  intro ps
  have key : ∀ (k : Nat), k ≤ ps.length → (∀ p ∈ ps, p < 9) → scF (tabOf ys) (ps.take k) = stN (scL ys (ps.take k)) := by
    intro k
    induction k with
    | zero => intro _ _; exact stN_nil.symm
    | succ k ih =>
      intro hk hp
      have hk' : k < ps.length := by omega
      have h9 := hp ps[k] (List.getElem_mem hk')
      rw [take_snoc ps k hk', scF_snoc, sc_snoc h _ h9, ih (by omega) hp, srcT_M h h9]
  intro hp
  have := key ps.length (Nat.le_refl _) hp
  rwa [List.take_length] at this
end Go.PE
namespace Go.Proofs.YtplapaojgcloaaaGreatDoor
open Go.RowKit Go.PM Go.PE
attribute [local go_sem] Oper.semAt_some

theorem tableOf_b (xs : List Mv) (v : Value) (w : World) (hx : RdM w v xs) :
    Calls Tryz.prog 56 #[v] w fun e w' => e = .returned (.tuple #[tabX (tbF xs), .bool (mvalid xs)]) ∧ Below w.heap.size w w' := by
  by_cases h : MV xs
  · rw [tbF_yes h, show mvalid xs = true by simpa [mvalid] using h]; exact tableOf_yes xs h v w hx
  · rw [tbF_no h, show mvalid xs = false by simpa [mvalid] using h]; exact tableOf_no xs h v w hx
set_option maxRecDepth 100000 in
set_option maxHeartbeats 1000000 in
theorem tableAndWanted_c (xs : List Mv) (v : Value) (t : ByteArray) (ht : t.size ≤ 1048576) (w : World) (hx : RdM w v xs) (hT : Tz w) :
    Calls Tryz.prog 26 #[v, .string t] w fun e w' => e = .returned (.tuple #[tabX (tbF xs), .int .u64 (wnN t.data.toList), .bool (mvalid xs && wvB t)]) ∧ Below w.heap.size w w' := by
  have HT := Lib.hid (fun W hx => tableOf_b xs v W hx)
  have HW := Lib.hid (fun W hT => wantedOf_c t ht W hT)
  have hB0 : Below w.heap.size w (w.alloc (.cells zA 53)) := (Below.refl _ _).alloc (Nat.le_refl _) _
  have a0 : At (w.alloc (.cells zA 53)) w.heap.size 53 zA := At.new w _ _
  generalize tbF xs = f at *
  generalize wnN t.data.toList = n at *
  generalize mvalid xs = b1 at *
  generalize wvB t = b2 at *
  go_enter Tryz.func26, Tryz.ntmps26
  go_wp2_with fail
  refine (HT.out _ (hx.below hB0)).mono ?_
  rintro e w1 ⟨rfl, hb1⟩
  have a1 := a0.keep hb1
  have hs0 : w.heap.size ≤ (w.alloc (.cells zA 53)).heap.size := hB0.size
  have B1 := hB0.trans (hb1.mono hs0)
  have hs1 := B1.size
  have k1 : At (w1.alloc (.cells (tabA f) 53)) w1.heap.size 53 (tabA f) := At.new w1 _ _
  have a2 := a1.alloc (.cells (tabA f) 53)
  have B2 := B1.alloc hs1 (.cells (tabA f) 53)
  have hs2 := B2.size
  clear hb1 a0 a1 B1 hB0
  go_wp2_with fail
  refine (HW.out _ (hT.below B2)).mono ?_
  rintro e w3 ⟨rfl, hb3⟩
  have a3 := a2.keep hb3
  have k3 := k1.keep hb3
  have B3 := B2.trans (hb3.mono hs2)
  have hs3 := B3.size
  clear hb3 a2 k1 B2
  cases b1 with
  | true =>
    go_wp2_with (first | (refine ld_row rfl 53 (.tmp 7) rfl w1.heap.size 53 (tabC f) k3 (by rfl) 9 9 Tryz.underlying53 (by kernel_rfl) ?_) | (refine st_row rfl 53 (.tmp 4) (.tmp 21) rfl rfl w.heap.size 53 zA (tabC f) a3 (by rfl) (by rfl) (by kernel_rfl) rfl (tabC_all _) ?_; intro W5 k5 g5; refine held ?_))
    unfold Held
    go_wp2
    refine bodyPost_ret (results_row3 Tryz.results26 _ _ w.heap.size 53 (tabC f) (by rfl) (by rfl) (by rfl) k5 9 9 Tryz.underlying53 (by kernel_rfl)) rfl ⟨rfl, B3.trans (below_grown g5 hs3 (fun g hg => by cases hg; omega))⟩
  | false =>
    go_wp2_with (first | (refine ld_row rfl 53 (.tmp 7) rfl w1.heap.size 53 (tabC f) k3 (by rfl) 9 9 Tryz.underlying53 (by kernel_rfl) ?_) | (refine st_row rfl 53 (.tmp 4) (.tmp 21) rfl rfl w.heap.size 53 zA (tabC f) a3 (by rfl) (by rfl) (by kernel_rfl) rfl (tabC_all _) ?_; intro W5 k5 g5; refine held ?_))
    unfold Held
    go_wp2
    refine bodyPost_ret (results_row3 Tryz.results26 _ _ w.heap.size 53 (tabC f) (by rfl) (by rfl) (by rfl) k5 9 9 Tryz.underlying53 (by kernel_rfl)) rfl ⟨rfl, B3.trans (below_grown g5 hs3 (fun g hg => by cases hg; omega))⟩
set_option maxRecDepth 100000 in
set_option maxHeartbeats 2000000 in
theorem kept_c (f : Nat → ByteArray) (n0 : Nat) (hn0 : n0 < 512) (w : World) (hT : Tz w) :
    Calls Tryz.prog 27 #[tabX f, .int .u64 n0] w fun e w' => e = .returned (tabX (ktT f n0)) ∧ Below w.heap.size w w' := by
  have HP9 := Lib.hid (fun ps p h => pre_el9 hn0 (ps := ps) (p := p) h)
  have HKS := Lib.hid (fun ps p hp => kpT_set f ps p hp)
  have HKE := Lib.hid (kpT_el f hn0)
  refine (callsIn_wide (n := 5)).1 ?_
  refine callsIn_of_wp_marks Tryz.func27 rfl trivial ?_ rfl
  simp only [Tryz.ntmps27, List.size_toArray, List.length_cons, List.length_nil, Nat.reduceAdd, Nat.reduceSub, Array.replicate_succ, Array.replicate_zero, List.push_toArray, List.append_toArray, List.nil_append, List.cons_append]
  gi_wp2
  obtain ⟨W0, hW0⟩ : ∃ W0 : World, W0 = ((w.alloc (.cells (tabA f) 53)).alloc (.cells zA 53)).alloc (.cells zA 53) := ⟨_, rfl⟩
  have hS0 : W0.heap.size = w.heap.size + 3 := by rw [hW0]; simp only [World.size_alloc]
  have hB0 : Below w.heap.size w W0 := by rw [hW0]; (repeat' (first | (with_reducible exact Below.refl _ _) | (with_reducible assumption) | (with_reducible refine Below.alloc ?_ ?_ _) | (with_reducible refine Below.drew ?_) | (with_reducible refine Below.setCell ?_ ?_ _) | (with_reducible exact Nat.le_refl _) | omega | ((repeat (first | rewrite [World.size_alloc] | rewrite [World.size_setCell] | rewrite [World.size_drew])); omega) | (simp; omega) | (simp; done)))
  have hA0 : At W0 w.heap.size 53 (tabC f) := by rw [hW0]; exact ((At.new w _ _).alloc _).alloc _
  have hA1 : At W0 (w.heap.size + 1) 53 zA := by
    rw [hW0]; have := (At.new (w.alloc (.cells (tabA f) 53)) 53 zA).alloc (.cells zA 53)
    rwa [World.size_alloc] at this
  have hA2 : At W0 (w.heap.size + 1 + 1) 53 (tabC (kpT f [])) := by
    rw [hW0, kpT_nil]; have := At.new ((w.alloc (.cells (tabA f) 53)).alloc (.cells zA 53)) 53 zA
    rw [World.size_alloc, World.size_alloc] at this
    exact this
  rw [← hW0]
  clear hW0
  refine range_law3s (F := Fence.wide) (Pr := fun W => Tz W) (gf := 44) (lf := #[.int .u64 (n0 : Int)]) (lb := #[]) rfl (by decide) rfl trivial (fun args w => rfl) (encs := fun p : Nat => #[.int .i64 p]) (xs := elN n0) (κ := 0)
    (cells_iter n0 (by omega) 4 (by decide)) (fun _ => rfl)
    (fun pre W => At W w.heap.size 53 (tabC f) ∧ At W (w.heap.size + 1) 53 zA ∧ At W (w.heap.size + 1 + 1) 53 (tabC (kpT f pre)) ∧ Below w.heap.size w W)
    (fun _ _ _ => False) ?pr ?own (fun _ => ownFrom_pure _ _) ?start ?a1 ?assign ?body ?done ?stop
  case pr => exact fun pre A h => hT.below h.2.2.2
  case own =>
    rintro s A A' row ⟨k1, k2, k3, k4⟩ hg hr
    exact ⟨k1.turn hg (fun r e => (hr r e).2), k2.turn hg (fun r e => (hr r e).2), k3.turn hg (fun r e => (hr r e).2), k4.trans (below_grown hg k4.size (fun g e => by have := (hr g e).1; omega))⟩
  case start => exact ⟨hA0, hA1, hA2, hB0⟩
  case assign =>
    intro l p W Kc hK
    gi_wp2
    exact hK
  case body =>
    rintro l pre p A ⟨k1, k2, k3, k4⟩ hp hsz
    have hp9 := HP9.out _ _ hp
    have i0 : (0 : Int) ≤ (p : Int) := by omega
    have i1 : (p : Int) < 9 := by omega
    have c1 : A.cell? ⟨w.heap.size, p, none⟩ = some (.string (f p)) := (k1.cell p).trans (tabC_at f p hp9)
    have c3 : A.cell? ⟨w.heap.size + 1 + 1, p, none⟩ = some (.string (kpT f pre p)) := (k3.cell p).trans (tabC_at _ p hp9)
    have f3 := k3.frozen p
    have l3 := k3.lt
    have m1 := k1.far (p := ⟨w.heap.size + 1 + 1, p, none⟩) (by simp; omega) (.string (f p))
    have m2 := k2.far (p := ⟨w.heap.size + 1 + 1, p, none⟩) (by simp) (.string (f p))
    have m3 := k3.set p (.string (f p))
    rw [HKS.out pre p hp9] at m3
    clear k1 k2 k3 hp
    generalize kpT f pre p = old at *
    generalize f p = s at *
    gi_wp2
    exact ⟨(KeepsOthers.setCell _ _ _).from _, KeepsIn.zero (by simp [World.size_setCell]), m1, m2, m3, k4.setCell (by simp; omega) _⟩
  case done =>
    intro D W hD hI hd
    obtain ⟨_, k2, k3, k4⟩ := hI
    rw [HKE.out] at k3
    have hl2 := k2.lt
    have hl3 := k3.lt
    have hDD : w.heap.size + 3 ≤ D := by omega
    generalize hg9 : ktT f n0 = g9 at *
    have HG9 := Lib.hid hg9
    clear hg9
    gi_wp2_with (first | (refine ldIn_row rfl 53 (.tmp 5) rfl (w.heap.size + 1 + 1) 53 (tabC g9) k3 (by rfl) 9 9 Tryz.underlying53 (by kernel_rfl) ?_) | (refine stIn_row rfl 53 (.tmp 4) (.tmp 15) rfl rfl (w.heap.size + 1) 53 zA (tabC g9) k2 (by rfl) (by rfl) (by kernel_rfl) rfl (tabC_all _) ?_; intro W6 hA6 hg6))
    have d6 : W6.heap[D]? = some (.deferred (some [])) := (hg6.block D (Array.getElem?_eq_some_iff.1 hd).1 (by simp; omega)).trans hd
    have bel : Below w.heap.size w W6 := k4.trans (below_grown hg6 k4.size (fun g hg => by cases hg; omega))
    simp only [Act.put, List.setIfInBounds_toArray, List.set_cons_succ, List.set_cons_zero]
    refine ⟨by simp, .inl ⟨D, _, rfl, run_takeDeferred d6, ?_⟩⟩
    exact ⟨_, results_row1 Tryz.results27 _ _ (w.heap.size + 1) 53 (tabC g9) (by rfl) ((World.putObj_heap_other (by omega)).trans hA6) 9 9 Tryz.underlying53 (by kernel_rfl), by rw [HG9.out]; rfl, bel.trans ⟨rfl, rfl, rfl, by simp [World.putObj], fun k hk => World.putObj_heap_other (by omega)⟩⟩
  case stop =>
    intro _ _ _ _ _ _ hf
    exact hf.elim
set_option maxRecDepth 100000 in
set_option maxHeartbeats 2000000 in
theorem sourcesOf_c (f : Nat → ByteArray) (hf : ∀ p, p < 9 → (srcT f p).size ≤ 1048576) (n0 : Nat) (hn0 : n0 < 512) (w : World) (hT : Tz w) :
    Calls Tryz.prog 33 #[tabX f, .int .u64 n0] w fun e w' => e = .returned (.int .u64 (scF f (elN n0))) ∧ Below w.heap.size w w' := by
  have HP9 := Lib.hid (fun ps p h => pre_el9 hn0 (ps := ps) (p := p) h)
  have HSN := Lib.hid (fun ps p => scF_snoc f ps p)
  have HLT := Lib.hid (fun ps => scF_lt f ps)
  have HSO := Lib.hid (fun p hp W => source_c f p hp W)
  have HST := Lib.hid (fun p hp W => setOf_c (srcT f p) (hf p hp) W)
  have HCN := Lib.hid (fun p => cN_lt (srcT f p))
  refine (callsIn_wide (n := 5)).1 ?_
  refine callsIn_of_wp_marks Tryz.func33 rfl trivial ?_ rfl
  simp only [Tryz.ntmps33, List.size_toArray, List.length_cons, List.length_nil, Nat.reduceAdd, Nat.reduceSub, Array.replicate_succ, Array.replicate_zero, List.push_toArray, List.append_toArray, List.nil_append, List.cons_append]
  gi_wp2
  obtain ⟨W0, hW0⟩ : ∃ W0 : World, W0 = (w.alloc (.cells (tabA f) 53)).alloc (.cells #[.int .u64 0] 55) := ⟨_, rfl⟩
  have hS0 : W0.heap.size = w.heap.size + 2 := by rw [hW0]; simp only [World.size_alloc]
  have hB0 : Below w.heap.size w W0 := by rw [hW0]; (repeat' (first | (with_reducible exact Below.refl _ _) | (with_reducible assumption) | (with_reducible refine Below.alloc ?_ ?_ _) | (with_reducible refine Below.drew ?_) | (with_reducible refine Below.setCell ?_ ?_ _) | (with_reducible exact Nat.le_refl _) | omega | ((repeat (first | rewrite [World.size_alloc] | rewrite [World.size_setCell] | rewrite [World.size_drew])); omega) | (simp; omega) | (simp; done)))
  have hA0 : At W0 w.heap.size 53 (tabC f) := by rw [hW0]; exact (At.new w _ _).alloc _
  have hA1 : At W0 (w.heap.size + 1) 55 #[.int .u64 (scF f [] : Nat)] := by
    rw [hW0]; have := At.new (w.alloc (.cells (tabA f) 53)) 55 #[.int .u64 0]
    rwa [World.size_alloc] at this
  rw [← hW0]
  clear hW0 hf
  refine range_law3s (F := Fence.wide) (Pr := fun W => Tz W) (gf := 44) (lf := #[.int .u64 (n0 : Int)]) (lb := #[]) rfl (by decide) rfl trivial (fun args w => rfl) (encs := fun p : Nat => #[.int .i64 p]) (xs := elN n0) (κ := 0)
    (cells_iter n0 (by omega) 4 (by decide)) (fun _ => rfl)
    (fun pre W => At W w.heap.size 53 (tabC f) ∧ At W (w.heap.size + 1) 55 #[.int .u64 (scF f pre : Nat)] ∧ Below w.heap.size w W)
    (fun _ _ _ => False) ?pr ?own (fun _ => ownFrom_pure _ _) ?start ?a1 ?assign ?body ?done ?stop
  case pr => exact fun pre A h => hT.below h.2.2
  case own =>
    rintro s A A' row ⟨k1, k2, k4⟩ hg hr
    exact ⟨k1.turn hg (fun r e => (hr r e).2), k2.turn hg (fun r e => (hr r e).2), k4.trans (below_grown hg k4.size (fun g e => by have := (hr g e).1; omega))⟩
  case start => exact ⟨hA0, hA1, hB0⟩
  case assign =>
    intro l p W Kc hK
    gi_wp2
    exact hK
  case body =>
    rintro l pre p A ⟨k1, k2, k4⟩ hp hsz
    have hp9 := HP9.out _ _ hp
    have hl1 := k1.lt
    have hl2 := k2.lt
    have hbs := k4.size
    have HSN2 := Lib.hid (HSN.out pre p)
    have hv1 := HLT.out pre
    have hv2 := HCN.out p
    have h3 := u64_or_nat (scF f pre) (cN (srcT f p)) (by omega) (by omega)
    have x1 : ∀ W', (∃ x : Ext A.heap.size A.drew, W' = x.val) → At W' w.heap.size 53 (tabC f) := At.ext (W := A.drew) k1 hl1
    have x2 : ∀ x : Ext A.heap.size A.drew, x.val.cell? ⟨w.heap.size + 1, 0, none⟩ = some (.int .u64 (scF f pre : Nat)) := fun x => (At.below (w := A.drew) k2 x.property hl2).cell 0
    have hso : ∀ x : Ext A.heap.size A.drew, Calls Tryz.prog 63 #[tabX f, .int .i64 p] x.val fun e w' => e = .returned (.string (srcT f p)) ∧ Below x.val.heap.size x.val w' := fun x => HSO.out p hp9 x.val
    have hst : ∀ x : Ext A.heap.size A.drew, Calls Tryz.prog 62 #[.string (srcT f p)] x.val fun e w' => e = .returned (.int .u64 (cN (srcT f p) : Nat)) ∧ x.val = w' := fun x => HST.out p hp9 x.val
    clear hp hv1 hv2
    generalize cN (srcT f p) = c at *
    generalize srcT f p = s at *
    have k2' := k2
    clear k2
    generalize hm : scF f pre = m at *
    have HM := Lib.hid hm
    clear hm
    gi_wp2
    refine region_tail_inRound (F := Fence.wide) (C := fun w' => ∃ x : Ext A.heap.size A.drew, w' = x.val) 6 rfl (by kernel_rfl) (by kernel_rfl) (by kernel_rfl) ⟨⟨_, Below.refl _ _⟩, rfl⟩ ?_
    simp only [List.take_succ_cons, List.take_zero, List.drop_succ_cons, List.drop_zero]
    gi_big_quiet_step (fail)
    refine rowIn_step (by rfl) 53 (.tmp 2) rfl w.heap.size 53 (tabC f) (by rfl) x1 9 9 Tryz.underlying53 (by kernel_rfl) ?_
    simp only [Act.put, List.setIfInBounds_toArray, List.set_cons_succ, List.set_cons_zero]
    gi_big_quiet_step (fail)
    (refine BigFrame.wpQuietIn_want (fun _ _ _ _ => trivial) rfl (fun K hK => ?_); gi_big_quiet_op; refine ⟨_, fun _ => callsIn_wide.2 (ext_call _ (Nat.le_refl _) (hso _)), hK _ ?_⟩; clear hK K)
    (refine BigFrame.wpQuietIn_want (fun _ _ _ _ => trivial) rfl (fun K hK => ?_); gi_big_quiet_op; refine ⟨_, fun _ => callsIn_wide.2 (ext_same _ (hst _)), hK _ ?_⟩; clear hK K)
    gi_big_quiet_step (fail)
    refine wpQuietIn_nil ?_
    rintro W2 ⟨xw, rfl⟩
    have hb2 : Below A.heap.size A xw.val := ((Below.refl _ _).drew).trans xw.property
    clear x1 x2 hso hst
    generalize xw.val = W2 at *
    have j1 := k1.keep hb2
    have j2 := k2'.keep hb2
    have j4 := k4.trans (hb2.mono hbs)
    have c2 : W2.cell? ⟨w.heap.size + 1, 0, none⟩ = some (.int .u64 (m : Nat)) := j2.cell 0
    have f2 := j2.frozen 0
    have l2 := j2.lt
    have m1 := j1.far (p := ⟨w.heap.size + 1, 0, none⟩) (by simp) (.int .u64 ((m ||| c : Nat) : Int))
    have m2 := j2.set 0 (.int .u64 ((m ||| c : Nat) : Int))
    clear k1 k2' k4 j1 j2
    gi_wp2
    refine ⟨(keepsFrom_below hb2).trans ((KeepsOthers.setCell _ _ _).from _), KeepsIn.zero (by simp [World.size_setCell]; exact hb2.size), m1, ?_, j4.setCell (by simp) _⟩
    rw [HSN2.out]
    exact m2
  case done =>
    intro D W hD hI hd
    obtain ⟨_, k2, k3⟩ := hI
    have c3 : W.cell? ⟨w.heap.size + 1, 0, none⟩ = some (.int .u64 (scF f (elN n0) : Nat)) := k2.cell 0
    clear k2
    gi_wp2
    refine ⟨by simp, .inl ⟨D, _, rfl, run_takeDeferred hd, ?_⟩⟩
    exact ⟨_, results_tmp rfl _ _ _, rfl, k3.trans ⟨rfl, rfl, rfl, by simp [World.putObj], fun k hk => World.putObj_heap_other (by have := k3.size; omega)⟩⟩
  case stop =>
    intro _ _ _ _ _ _ hf
    exact hf.elim
end Go.Proofs.YtplapaojgcloaaaGreatDoor
namespace Go.PE
open Go.PM Go.RowKit
theorem not_kept_same (k : Int) (a : ByteArray) (n : Nat) : keptN (k, a, a) n = false := by simp [keptN]
theorem kept_ne {k : Int} {a b : ByteArray} (h : a ≠ b) (n : Nat) : keptN (k, a, b) n = decide (n &&& stN (wrB (k, a, b)).data.toList ≠ 0) := by
  unfold keptN
  rw [decide_eq_true (show (k, a, b).2.1 ≠ (k, a, b).2.2 from h), Bool.true_and]
theorem anN_u64 (m n : Nat) (hm : m < 2048) (hn : n < 2048) : bits .andNot .u64 (m : Int) (n : Int) = ((anN m n : Nat) : Int) := by
  rw [u64_andNot_nat m n (by omega) (by omega)]
  congr 1
  refine eq_bits (k := 11) (Nat.lt_of_le_of_lt Nat.and_le_left hm) (anN_lt hm) fun p hp => ?_
  rw [anN_test hm, Nat.testBit_and]
  congr 1
  have := Nat.testBit_two_pow_sub_succ (x := n) (n := 64) (show n < 2 ^ 64 by omega) p
  rw [show (2 : Nat) ^ 64 - (n + 1) = 18446744073709551615 - n by omega] at this
  rw [this, decide_eq_true (show p < 64 by omega), Bool.true_and]
theorem st_sizes1 {k : Int} {a b : ByteArray} (h : stOk (k, a, b) = true) : a.size = 1 ∧ b.size = 1 := by
  rcases st_kind h with ⟨_, h2, h3⟩ | ⟨_, h2, h3⟩
  · exact ⟨isC_size h2, okC_size h3⟩
  · exact ⟨isC_size h2, isC_size h3⟩
theorem wr_size {k : Int} {a b : ByteArray} (h : stOk (k, a, b) = true) : (wrB (k, a, b)).size ≤ 2 := by
  obtain ⟨h1, h2⟩ := st_sizes1 h
  by_cases hk : k = 1
  · subst hk; rw [wrB_swap, ByteArray.size_append]; omega
  · rw [wrB_move k a b hk]; omega
end Go.PE
namespace Go.Proofs.YtplapaojgcloaaaGreatDoor
open Go.RowKit Go.PM Go.PE
attribute [local go_sem] Oper.semAt_some

set_option maxRecDepth 100000 in
set_option maxHeartbeats 1600000 in
theorem imKeepWanted_c (xs : List Mv) (v : Value) (t : ByteArray) (ht : t.size ≤ 1048576) (w : World) (hx : RdM w v xs) (hT : Tz w) :
    Calls Tryz.prog 7 #[v, .string t] w fun e w' => ∃ v', e = .returned (.tuple #[v', .bool (mvalid xs && wvB t)]) ∧ w'.ownsRow w.heap.size 37 2 v' (kwM xs t).length (mcells (kwM xs t)) ∧ Below w.heap.size w w' := by
  have HTW := Lib.hid (tableAndWanted_c xs v t ht w hx hT)
  rcases Bool.eq_false_or_eq_true (mvalid xs && wvB t) with hv | hv
  · have hv' := hv
    rw [Bool.and_eq_true] at hv'
    have hMV : MV xs := by simpa [mvalid] using hv'.1
    have hm : mvT (noIdle (ktT (tbF xs) (wnN t.data.toList))) (List.range 9) = kwM xs t := by rw [tbF_yes hMV, kt_list hMV, kwM_yes hv'.1 hv'.2]
    have hlt := wnN_lt t.data.toList
    have HK := Lib.hid (fun W hT => kept_c (tbF xs) (wnN t.data.toList) hlt W hT)
    have HI := Lib.hid (fun W => idle_c (ktT (tbF xs) (wnN t.data.toList)) W)
    have HLI := Lib.hid (fun W => list_c (noIdle (ktT (tbF xs) (wnN t.data.toList))) W)
    rw [hm] at HLI
    rw [hv] at HTW ⊢
    clear hv hv' hMV hm hlt
    have HI2 : Hid (∀ W, Calls Tryz.prog 28 #[tabX (ktT (tbF xs) (wnN t.data.toList))] W fun e w' => e = .returned (tabX (noIdle (ktT (tbF xs) (wnN t.data.toList)))) ∧ Below W.heap.size W w') := fun W => HI.out W
    clear HI
    generalize noIdle (ktT (tbF xs) (wnN t.data.toList)) = h at *
    generalize ktT (tbF xs) (wnN t.data.toList) = g at *
    generalize tbF xs = f at *
    generalize wnN t.data.toList = n at *
    go_enter Tryz.func7, Tryz.ntmps7
    go_wp2_with fail
    refine HTW.out.mono ?_
    rintro e w1 ⟨rfl, hb1⟩
    have hs1 := hb1.size
    have k1 : At (w1.alloc (.cells (tabA f) 53)) w1.heap.size 53 (tabA f) := At.new w1 _ _
    have hB1 := hb1.alloc hs1 (.cells (tabA f) 53)
    have hs2 := hB1.size
    clear hb1
    go_wp2_with (refine ld_row rfl 53 (.tmp 6) rfl w1.heap.size 53 (tabC f) k1 (by rfl) 9 9 Tryz.underlying53 (by kernel_rfl) ?_; refine held ?_)
    unfold Held
    go_wp2_with (go_at_call 27; refine (HK.out _ (hT.below hB1)).mono ?_; rintro e w4 ⟨rfl, hb4⟩; refine held ?_)
    unfold Held
    have hB4 := hB1.trans (hb4.mono hs2)
    have hs4 := hB4.size
    clear hb4 hB1
    go_wp2_with (go_at_call 28; refine (HI2.out _).mono ?_; rintro e w5 ⟨rfl, hb5⟩; refine held ?_)
    unfold Held
    have hB5 := hB4.trans (hb5.mono hs4)
    have hs5 := hB5.size
    clear hb5 hB4
    go_wp2_with (go_at_call 29; refine (HLI.out _).mono ?_; rintro e w6 ⟨v', rfl, ho, hb6⟩; refine held ?_)
    unfold Held
    have hB6 := hB5.trans (hb6.mono hs5)
    have ho6 := own_more ho hs5
    clear hb6 hB5 ho
    go_wp2
    go_ret2
    exact ⟨_, rfl, ho6, hB6⟩
  · have HN := Lib.hid (kwM_no hv)
    rw [hv] at HTW ⊢
    clear hv
    generalize tbF xs = f at *
    generalize wnN t.data.toList = n at *
    go_enter Tryz.func7, Tryz.ntmps7
    go_wp2_with fail
    refine HTW.out.mono ?_
    rintro e w1 ⟨rfl, hb1⟩
    have hs1 := hb1.size
    have hB1 := hb1.alloc hs1 (.cells (tabA f) 53)
    go_wp2
    go_ret2
    exact ⟨_, rfl, by rw [HN.out]; exact ⟨rfl, .inl ⟨rfl, rfl⟩⟩, hB1⟩
set_option maxRecDepth 100000 in
set_option maxHeartbeats 1600000 in
theorem imNeededBy_c (xs : List Mv) (v : Value) (t : ByteArray) (ht : t.size ≤ 1048576) (w : World) (hx : RdM w v xs) (hT : Tz w) :
    Calls Tryz.prog 9 #[v, .string t] w fun e w' => e = .returned (.tuple #[.string (nbB xs t), .bool (mvalid xs && wvB t)]) ∧ Below w.heap.size w w' := by
  have HTW := Lib.hid (tableAndWanted_c xs v t ht w hx hT)
  rcases Bool.eq_false_or_eq_true (mvalid xs && wvB t) with hv | hv
  · have hv' := hv
    rw [Bool.and_eq_true] at hv'
    have hMV : MV xs := by simpa [mvalid] using hv'.1
    have hlt := wnN_lt t.data.toList
    have hsz : ∀ p, p < 9 → (srcT (tbF xs) p).size ≤ 1048576 := fun p hp => by
      rw [tbF_yes hMV, srcT_M hMV hp, isS_size (srcM_isS hMV (isP_nm hp))]; decide
    have hsc : scF (tbF xs) (elN (wnN t.data.toList)) = scN xs (wnN t.data.toList) := by rw [tbF_yes hMV]; exact scF_sc hMV _ (el9 hlt)
    have HS := Lib.hid (fun W hT => sourcesOf_c (tbF xs) hsz (wnN t.data.toList) hlt W hT)
    rw [hsc] at HS
    have hs512 := scN_lt hMV t.data.toList
    have HNM := Lib.hid (fun W hT => nmN_c (scN xs (wnN t.data.toList)) (by omega) W hT)
    rw [← nbB_yes hv'.1 hv'.2] at HNM
    rw [hv] at HTW ⊢
    clear hv hv' hMV hlt hsz hsc hs512
    generalize nbB xs t = q at *
    generalize scN xs (wnN t.data.toList) = m at *
    generalize tbF xs = f at *
    generalize wnN t.data.toList = n at *
    go_enter Tryz.func9, Tryz.ntmps9
    go_wp2_with fail
    refine HTW.out.mono ?_
    rintro e w1 ⟨rfl, hb1⟩
    have hs1 := hb1.size
    have k1 : At (w1.alloc (.cells (tabA f) 53)) w1.heap.size 53 (tabA f) := At.new w1 _ _
    have hB1 := hb1.alloc hs1 (.cells (tabA f) 53)
    have hs2 := hB1.size
    clear hb1
    go_wp2_with (refine ld_row rfl 53 (.tmp 6) rfl w1.heap.size 53 (tabC f) k1 (by rfl) 9 9 Tryz.underlying53 (by kernel_rfl) ?_; refine held ?_)
    unfold Held
    go_wp2_with (go_at_call 33; refine (HS.out _ (hT.below hB1)).mono ?_; rintro e w4 ⟨rfl, hb4⟩; refine held ?_)
    unfold Held
    have hB4 := hB1.trans (hb4.mono hs2)
    have hs4 := hB4.size
    clear hb4 hB1
    go_wp2_with (go_at_call 34; refine (HNM.out _ (hT.below hB4)).mono ?_; rintro e w5 ⟨rfl, hb5⟩; refine held ?_)
    unfold Held
    have hB5 := hB4.trans (hb5.mono hs4)
    clear hb5 hB4
    go_wp2
    go_ret2
    exact ⟨rfl, hB5⟩
  · have HN := Lib.hid (nbB_no hv)
    rw [hv] at HTW ⊢
    clear hv
    generalize tbF xs = f at *
    generalize wnN t.data.toList = n at *
    go_enter Tryz.func9, Tryz.ntmps9
    go_wp2_with fail
    refine HTW.out.mono ?_
    rintro e w1 ⟨rfl, hb1⟩
    have hs1 := hb1.size
    have hB1 := hb1.alloc hs1 (.cells (tabA f) 53)
    go_wp2
    go_ret2
    exact ⟨by rw [HN.out]; rfl, hB1⟩
end Go.Proofs.YtplapaojgcloaaaGreatDoor
namespace Go.PE
open Go.PM Go.RowKit
theorem nm_first {n : Nat} (h : n < 512) (h0 : n ≠ 0) : (nmN n).extract 0 1 = nm (Lib.ctz 64 n) ∧ 1 ≤ (nmN n).size := by
  obtain ⟨h1, h2⟩ := el_step n (by omega) h0
  have h3 := el9 h (Lib.ctz 64 n) (by rw [h1]; exact List.mem_cons_self ..)
  have e : nmN n = nmE (elN n) := (nmE_el n).symm
  have hs : (nmN n).size = (elN n).length := by rw [e, nmE_size]
  have h4 : 1 ≤ (nmN n).size := by rw [hs, h1, List.length_cons]; omega
  refine ⟨?_, h4⟩
  have := extract_one (nmN n) 0 (by omega)
  rw [this, nm_byte _ h3, pl_cells h3]
  have e2 : (nmN n).data.toList = (elN n).map (cellsL.getD · 0) := by rw [e]; simp [nmE]
  rw [e2, h1]; rfl
theorem tb_small (xs : List Mv) : ∀ p, p < 9 → (srcT (tbF xs) p).size ≤ 1048576 := fun p hp => by
  by_cases h : MV xs
  · rw [tbF_yes h, srcT_M h hp, isS_size (srcM_isS h (isP_nm hp))]; decide
  · rw [tbF_no h, srcT_zero]
    exact Nat.le_trans (Nat.le_of_eq (show (nm p).size = 1 from rfl)) (by decide)
def fbN (xs : List Mv) (t : ByteArray) : Nat := anN 511 (wnN t.data.toList ||| scF (tbF xs) (elN (wnN t.data.toList)))
theorem fbN_yes {xs : List Mv} (h : MV xs) (t : ByteArray) : fbN xs t = frN xs t := by
  unfold fbN frN
  rw [tbF_yes h, scF_sc h _ (el9 (wnN_lt _))]; rfl
theorem fbN_lt (xs : List Mv) (t : ByteArray) : fbN xs t < 512 := Nat.lt_of_le_of_lt Nat.and_le_left (by decide)
theorem so_no {xs : List Mv} {t : ByteArray} (h : (mvalid xs && wvB t) = false) : soB xs t = false ∧ spB xs t = ⟨#[]⟩ := by
  have e : soB xs t = false := by unfold soB; rw [← Bool.and_assoc, h]; rfl
  exact ⟨e, by unfold spB; rw [e]; rfl⟩
theorem so_zero {xs : List Mv} {t : ByteArray} (h : frN xs t = 0) : soB xs t = false ∧ spB xs t = ⟨#[]⟩ := by
  have e : soB xs t = false := by unfold soB; rw [h]; simp
  exact ⟨e, by unfold spB; rw [e]; rfl⟩
theorem so_some {xs : List Mv} {t : ByteArray} (hv : (mvalid xs && wvB t) = true) (h : frN xs t ≠ 0) : soB xs t = true ∧ spB xs t = nm (Lib.ctz 64 (frN xs t)) := by
  have e : soB xs t = true := by unfold soB; rw [← Bool.and_assoc, hv, decide_eq_true h]; rfl
  exact ⟨e, by unfold spB; rw [e]; rfl⟩
end Go.PE
namespace Go.Proofs.YtplapaojgcloaaaGreatDoor
open Go.RowKit Go.PM Go.PE
attribute [local go_sem] Oper.semAt_some

set_option maxRecDepth 100000 in
set_option maxHeartbeats 1600000 in
theorem imSpareFor_c (xs : List Mv) (v : Value) (t : ByteArray) (ht : t.size ≤ 1048576) (w : World) (hx : RdM w v xs) (hT : Tz w) :
    Calls Tryz.prog 11 #[v, .string t] w fun e w' => e = .returned (.tuple #[.string (spB xs t), .bool (soB xs t)]) ∧ Below w.heap.size w w' := by
  have HTW := Lib.hid (tableAndWanted_c xs v t ht w hx hT)
  have hlt := wnN_lt t.data.toList
  have HS := Lib.hid (fun W hT => sourcesOf_c (tbF xs) (tb_small xs) (wnN t.data.toList) hlt W hT)
  have hs2k := scF_lt (tbF xs) (elN (wnN t.data.toList))
  have h1 := u64_or_nat (wnN t.data.toList) (scF (tbF xs) (elN (wnN t.data.toList))) (by omega) (by omega)
  have hor : wnN t.data.toList ||| scF (tbF xs) (elN (wnN t.data.toList)) < 2048 := Nat.or_lt_two_pow (n := 11) (by omega) hs2k
  have h2 : bits .andNot .u64 511 ((wnN t.data.toList ||| scF (tbF xs) (elN (wnN t.data.toList)) : Nat) : Int) = ((fbN xs t : Nat) : Int) := anN_u64 511 _ (by decide) hor
  have hfl := fbN_lt xs t
  have HNM := Lib.hid (fun W hT => nmN_c (fbN xs t) (by omega) W hT)
  have HFB : Hid (MV xs → fbN xs t = frN xs t) := fun h => fbN_yes h t
  have hS0 := hx
  rcases Bool.eq_false_or_eq_true (mvalid xs && wvB t) with hv | hv
  · have hv' := hv
    rw [Bool.and_eq_true] at hv'
    have hMV : MV xs := by simpa [mvalid] using hv'.1
    have hfe := HFB.out hMV
    by_cases hz : fbN xs t = 0
    · have HSO := Lib.hid (so_zero (hfe.symm.trans hz))
      have t1 : (((fbN xs t : Nat) : Int) == 0) = true := by rw [hz]; rfl
      rw [hv] at HTW
      clear hv hv' hMV hfe hz HFB hlt hs2k hor hfl
      generalize fbN xs t = r at *
      generalize wnN t.data.toList ||| scF (tbF xs) (elN (wnN t.data.toList)) = m at *
      generalize scF (tbF xs) (elN (wnN t.data.toList)) = s at *
      generalize tbF xs = f at *
      generalize wnN t.data.toList = n at *
      go_enter Tryz.func11, Tryz.ntmps11
      go_wp2_with fail
      refine HTW.out.mono ?_
      rintro e w1 ⟨rfl, hb1⟩
      have hs1 := hb1.size
      have k1 : At (w1.alloc (.cells (tabA f) 53)) w1.heap.size 53 (tabA f) := At.new w1 _ _
      have hB1 := hb1.alloc hs1 (.cells (tabA f) 53)
      have hs2 := hB1.size
      clear hb1
      go_wp2_with (refine ld_row rfl 53 (.tmp 6) rfl w1.heap.size 53 (tabC f) k1 (by rfl) 9 9 Tryz.underlying53 (by kernel_rfl) ?_; refine held ?_)
      unfold Held
      go_wp2_with (go_at_call 33; refine (HS.out _ (hT.below hB1)).mono ?_; rintro e w4 ⟨rfl, hb4⟩; refine held ?_)
      unfold Held
      have hB4 := hB1.trans (hb4.mono hs2)
      clear hb4 hB1
      go_wp2
      go_ret2
      exact ⟨by rw [HSO.out.1, HSO.out.2]; rfl, hB4⟩
    · have HSO := Lib.hid (so_some hv (fun e => hz (hfe.trans e)))
      obtain ⟨hx1, hx2⟩ := nm_first hfl hz
      rw [hfe] at hx1
      have HX1 := Lib.hid hx1
      have t1 : (((fbN xs t : Nat) : Int) == 0) = false := by simp; omega
      have i1 : ¬ ((nmN (fbN xs t)).size : Int) < 1 := by omega
      rw [hv] at HTW
      rw [← hfe] at HX1 HSO
      clear hv hv' hMV hfe hz HFB hlt hs2k hor hfl hx1
      generalize nmN (fbN xs t) = q at *
      generalize nm (Lib.ctz 64 (fbN xs t)) = q2 at *
      generalize fbN xs t = r at *
      generalize wnN t.data.toList ||| scF (tbF xs) (elN (wnN t.data.toList)) = m at *
      generalize scF (tbF xs) (elN (wnN t.data.toList)) = s at *
      generalize tbF xs = f at *
      generalize wnN t.data.toList = n at *
      go_enter Tryz.func11, Tryz.ntmps11
      go_wp2_with fail
      refine HTW.out.mono ?_
      rintro e w1 ⟨rfl, hb1⟩
      have hs1 := hb1.size
      have k1 : At (w1.alloc (.cells (tabA f) 53)) w1.heap.size 53 (tabA f) := At.new w1 _ _
      have hB1 := hb1.alloc hs1 (.cells (tabA f) 53)
      have hs2 := hB1.size
      clear hb1
      go_wp2_with (refine ld_row rfl 53 (.tmp 6) rfl w1.heap.size 53 (tabC f) k1 (by rfl) 9 9 Tryz.underlying53 (by kernel_rfl) ?_; refine held ?_)
      unfold Held
      go_wp2_with (go_at_call 33; refine (HS.out _ (hT.below hB1)).mono ?_; rintro e w4 ⟨rfl, hb4⟩; refine held ?_)
      unfold Held
      have hB4 := hB1.trans (hb4.mono hs2)
      have hs4 := hB4.size
      clear hb4 hB1
      go_wp2_with (go_at_call 34; refine (HNM.out _ (hT.below hB4)).mono ?_; rintro e w5 ⟨rfl, hb5⟩; refine held ?_)
      unfold Held
      have hB5 := hB4.trans (hb5.mono hs4)
      clear hb5 hB4
      go_wp2
      go_ret2
      exact ⟨by rw [HSO.out.1, HSO.out.2, ← HX1.out]; rfl, hB5⟩
  · have HSO := Lib.hid (so_no hv)
    rw [hv] at HTW
    clear hv HFB hlt hs2k hor hfl
    generalize fbN xs t = r at *
    generalize wnN t.data.toList ||| scF (tbF xs) (elN (wnN t.data.toList)) = m at *
    generalize scF (tbF xs) (elN (wnN t.data.toList)) = s at *
    generalize tbF xs = f at *
    generalize wnN t.data.toList = n at *
    go_enter Tryz.func11, Tryz.ntmps11
    go_wp2_with fail
    refine HTW.out.mono ?_
    rintro e w1 ⟨rfl, hb1⟩
    have hs1 := hb1.size
    have k1 : At (w1.alloc (.cells (tabA f) 53)) w1.heap.size 53 (tabA f) := At.new w1 _ _
    have hB1 := hb1.alloc hs1 (.cells (tabA f) 53)
    have hs2 := hB1.size
    clear hb1
    go_wp2_with (refine ld_row rfl 53 (.tmp 6) rfl w1.heap.size 53 (tabC f) k1 (by rfl) 9 9 Tryz.underlying53 (by kernel_rfl) ?_; refine held ?_)
    unfold Held
    go_wp2_with (go_at_call 33; refine (HS.out _ (hT.below hB1)).mono ?_; rintro e w4 ⟨rfl, hb4⟩; refine held ?_)
    unfold Held
    have hB4 := hB1.trans (hb4.mono hs2)
    clear hb4 hB1
    go_wp2
    go_ret2
    exact ⟨by rw [HSO.out.1, HSO.out.2]; rfl, hB4⟩
end Go.Proofs.YtplapaojgcloaaaGreatDoor
namespace Go.PE
open Go.PM Go.PD Go.RowKit
/-- what the specification looks for: a place that is neither wanted nor needed -/
theorem fr_place {xs : List Mv} {t : ByteArray} (h1 : mvalid xs = true) (h2 : wvB t = true) {p : Nat} (hp : p < 9) : decide (placesL.getD p 0 ∈ (nbB xs t ++ t).data.toList) = ((wnN t.data.toList).testBit p || (scN xs (wnN t.data.toList)).testBit p) := by
  have e1 : decide (placesL.getD p 0 ∈ (nbB xs t).data.toList) = (scN xs (wnN t.data.toList)).testBit p := by
    rw [nbB_yes h1 h2]
    have hpm := pmH_pick (scN xs (wnN t.data.toList)).testBit p (by omega)
    rw [pmH_one] at hpm
    rw [pl_cells hp]; exact hpm
  rw [ByteArray.data_append, Array.toList_append]
  simp only [List.mem_append, Bool.decide_or]
  rw [e1, ← wv_mem hp, Bool.or_comm]
theorem nb_plus {xs : List Mv} {t : ByteArray} (h : wvB t = true) : (nbB xs t ++ t).size ≤ 20 := by
  have h1 := nbB_size xs t
  have h2 := wv_size h
  rw [ByteArray.size_append]; omega
end Go.PE
namespace Go.Proofs.YtplapaojgcloaaaGreatDoor
open Go.RowKit Go.PM Go.PE
attribute [local go_sem] Oper.semAt_some

theorem spWantedValid_b (t : ByteArray) (ht : t.size ≤ 1048576) (w : World) :
    Calls Tryz.prog 31 #[.string t] w fun e w' => e = .returned (.bool (wvB t)) ∧ Below w.heap.size w w' :=
  (spWantedValid_c t (by omega) w).mono fun _ _ ⟨a, b⟩ => ⟨a, b ▸ Below.refl _ _⟩
set_option maxRecDepth 100000 in
set_option maxHeartbeats 1600000 in
theorem spKeepWanted_c (xs : List Mv) (v : Value) (t : ByteArray) (ht : t.size ≤ 1048576) (w : World) (hx : RdM w v xs) (hz : ∀ m ∈ xs, m.1.size ≤ 9223372036854775807 ∧ m.2.size ≤ 9223372036854775807) (hn' : xs.length ≤ 1048576) :
    Calls Tryz.prog 8 #[v, .string t] w fun e w' => ∃ v', e = .returned (.tuple #[v', .bool (mvalid xs && wvB t)]) ∧ w'.ownsRow w.heap.size 37 2 v' (kwM xs t).length (mcells (kwM xs t)) ∧ Below w.heap.size w w' := by
  have HV := Lib.hid (spMovesValid_c xs v w hx hz hn')
  have HW := Lib.hid (fun W => spWantedValid_c t (by omega) W)
  have HX := Lib.hid (fun W (hb : Below w.heap.size w W) => hx.below hb)
  rcases Bool.eq_false_or_eq_true (mvalid xs) with h1 | h1
  · rw [h1] at HV
    rcases Bool.eq_false_or_eq_true (wvB t) with h2 | h2
    · rw [h2] at HW
      have HA : Hid ((mvalid xs && wvB t) = true) := by show _ = _; rw [h1, h2]; rfl
      have HK := Lib.hid (kwM_yes h1 h2)
      have HL := Lib.hid (fun W hW => l9Keep_c xs t ht v W hW)
      clear h1 h2 hx
      go_enter Tryz.func8, Tryz.ntmps8
      go_wp2_with fail
      refine HV.out.mono ?_
      rintro e w1 ⟨rfl, hb1⟩
      have hs1 := hb1.size
      go_wp2_with (first | (go_at_call 31; refine (HW.out _).mono ?_; rintro e w' ⟨rfl, rfl⟩) | (go_at_call 32; refine (HL.out _ (HX.out _ hb1)).mono ?_; rintro e w2 ⟨v2, rfl, ho2, hb2⟩; refine held ?_))
      unfold Held
      have hB2 := hb1.trans (hb2.mono hs1)
      have ho3 := own_more ho2 hs1
      clear hb2 ho2
      go_wp2
      go_ret2
      exact ⟨_, by rw [HA.out]; rfl, by rw [HK.out]; exact ho3, hB2⟩
    · rw [h2] at HW
      have HA : Hid ((mvalid xs && wvB t) = false) := by show _ = _; rw [h1, h2]; rfl
      have HK := Lib.hid (kwM_no HA.out)
      clear h1 h2 hx
      go_enter Tryz.func8, Tryz.ntmps8
      go_wp2_with fail
      refine HV.out.mono ?_
      rintro e w1 ⟨rfl, hb1⟩
      have hs1 := hb1.size
      have hE := World.ownsRow_lit (e := 37) (base := w.heap.size) (size := 2) w1 #[] 0 hs1 (Nat.zero_le _) rfl
      go_wp2_with (go_at_call 31; refine (HW.out _).mono ?_; rintro e w' ⟨rfl, rfl⟩)
      go_ret2
      exact ⟨_, by rw [HA.out]; rfl, by rw [HK.out]; exact hE, hb1.alloc hs1 _⟩
  · rw [h1] at HV
    have HA : Hid ((mvalid xs && wvB t) = false) := by show _ = _; rw [h1]; rfl
    have HK := Lib.hid (kwM_no HA.out)
    clear h1 hx
    go_enter Tryz.func8, Tryz.ntmps8
    go_wp2_with fail
    refine HV.out.mono ?_
    rintro e w1 ⟨rfl, hb1⟩
    have hs1 := hb1.size
    have hE := World.ownsRow_lit (e := 37) (base := w.heap.size) (size := 2) w1 #[] 0 hs1 (Nat.zero_le _) rfl
    go_wp2
    go_ret2
    exact ⟨_, by rw [HA.out]; rfl, by rw [HK.out]; exact hE, hb1.alloc hs1 _⟩
set_option maxRecDepth 100000 in
set_option maxHeartbeats 1600000 in
theorem spNeededBy_c (xs : List Mv) (v : Value) (t : ByteArray) (ht : t.size ≤ 1048576) (w : World) (hx : RdM w v xs) (hz : ∀ m ∈ xs, m.1.size ≤ 9223372036854775807 ∧ m.2.size ≤ 9223372036854775807) (hn' : xs.length ≤ 1048576) :
    Calls Tryz.prog 10 #[v, .string t] w fun e w' => e = .returned (.tuple #[.string (nbB xs t), .bool (mvalid xs && wvB t)]) ∧ Below w.heap.size w w' := by
  have HV := Lib.hid (spMovesValid_c xs v w hx hz hn')
  have HW := Lib.hid (fun W => spWantedValid_c t (by omega) W)
  have HX := Lib.hid (fun W (hb : Below w.heap.size w W) => hx.below hb)
  rcases Bool.eq_false_or_eq_true (mvalid xs) with h1 | h1
  · rw [h1] at HV
    rcases Bool.eq_false_or_eq_true (wvB t) with h2 | h2
    · rw [h2] at HW
      have hMV : MV xs := by simpa [mvalid] using h1
      have HA : Hid ((mvalid xs && wvB t) = true) := by show _ = _; rw [h1, h2]; rfl
      have HST := Lib.hid (fun k hk => scT_step hMV h2 k hk)
      have HSZ := Lib.hid (fun k => scT_size hMV t k)
      have HS1 := Lib.hid (fun k (hk : k < t.size) => show (srcM xs (t.extract k (k + 1))).size = 1 by
        obtain ⟨p, hp, e, _⟩ := wv_extract h2 k hk
        rw [e]; exact isS_size (srcM_isS hMV (isP_nm hp)))
      have hz9 := wv_size h2
      have HFU : Hid (srB (scT xs t t.size) = nbB xs t) := by
        show _ = _
        rw [scT_full h2, nbB_yes h1 h2]
        exact (sc_names hMV (el9 (wnN_lt _))).symm
      have H0 : Hid (scT xs t 0 = ⟨#[]⟩) := rfl
      have HL := Lib.hid (fun a W hW => l1Source_c xs v a W hW)
      have HSO := Lib.hid (fun s hs W => l3SortedA_c s hs W)
      clear h1 h2 hx hMV
      go_enter Tryz.func10, Tryz.ntmps10
      go_wp2_with fail
      refine HV.out.mono ?_
      rintro e w1 ⟨rfl, hb1⟩
      have hs1 := hb1.size
      go_wp2_with (go_at_call 31; refine (HW.out _).mono ?_; rintro e w' ⟨rfl, rfl⟩)
      go_loopw [6, 7, 18] (fun o _ i wr => ∃ (k : Nat), k ≤ t.size ∧ i = .int .i64 k ∧ o = .string (scT xs t k) ∧ Below w.heap.size w wr) (fun _ _ i _ => t.size - (RowKit.intOf i).toNat)
      case atStart => exact ⟨0, by omega, rfl, by rw [H0.out], hb1⟩
      case round =>
        obtain ⟨k, hk, rfl, rfl, hb⟩ := hrel
        have hbs := hb.size
        by_cases hlt : k < t.size
        · have i1 : (k : Int) < (t.size : Int) := by omega
          have hst := HST.out k hlt
          have hsz := HSZ.out k
          have hs1' := HS1.out k hlt
          have HLK := Lib.hid (HL.out (t.extract k (k + 1)) wr (HX.out _ hb))
          have HSS := Lib.hid hst
          clear hst
          generalize srcM xs (t.extract k (k + 1)) = q at *
          generalize scT xs t k = tk at *
          go_wp2_with (go_at_call 35; refine HLK.out.mono ?_; rintro e w2 ⟨rfl, hb2⟩; refine held ?_)
          unfold Held
          have hb3 := hb.trans (hb2.mono hbs)
          clear hb2
          go_wp2
          go_roundw
          case rel => exact ⟨k + 1, by omega, by go_num, by rw [HSS.out], hb3⟩
          case measure => simp [RowKit.intOf]; omega
        · have HK : Hid (k = t.size) := by show _ = _; omega
          have i1 : ¬ (k : Int) < (t.size : Int) := by omega
          have hsz := HSZ.out k
          have HSK := Lib.hid (fun W => HSO.out (scT xs t k) (by omega) W)
          have HFK : Hid (srB (scT xs t k) = nbB xs t) := by show _ = _; rw [HK.out]; exact HFU.out
          clear hk hlt
          generalize scT xs t k = tk at *
          go_wp2_with (go_at_call 36; refine (HSK.out _).mono ?_; rintro e w' ⟨rfl, rfl⟩)
          go_ret2
          exact ⟨by rw [HA.out, ← HFK.out]; rfl, hb⟩
    · rw [h2] at HW
      have HA : Hid ((mvalid xs && wvB t) = false) := by show _ = _; rw [h1, h2]; rfl
      have HK := Lib.hid (nbB_no HA.out)
      clear h1 h2 hx
      go_enter Tryz.func10, Tryz.ntmps10
      go_wp2_with fail
      refine HV.out.mono ?_
      rintro e w1 ⟨rfl, hb1⟩
      go_wp2_with (go_at_call 31; refine (HW.out _).mono ?_; rintro e w' ⟨rfl, rfl⟩)
      go_ret2
      exact ⟨by rw [HA.out, HK.out]; rfl, hb1⟩
  · rw [h1] at HV
    have HA : Hid ((mvalid xs && wvB t) = false) := by show _ = _; rw [h1]; rfl
    have HK := Lib.hid (nbB_no HA.out)
    clear h1 hx
    go_enter Tryz.func10, Tryz.ntmps10
    go_wp2_with fail
    refine HV.out.mono ?_
    rintro e w1 ⟨rfl, hb1⟩
    go_wp2
    go_ret2
    exact ⟨by rw [HA.out, HK.out]; rfl, hb1⟩
set_option maxRecDepth 100000 in
set_option maxHeartbeats 1600000 in
theorem spSpareFor_c (xs : List Mv) (v : Value) (t : ByteArray) (ht : t.size ≤ 1048576) (w : World) (hx : RdM w v xs) (hz : ∀ m ∈ xs, m.1.size ≤ 9223372036854775807 ∧ m.2.size ≤ 9223372036854775807) (hn' : xs.length ≤ 1048576) :
    Calls Tryz.prog 12 #[v, .string t] w fun e w' => e = .returned (.tuple #[.string (spB xs t), .bool (soB xs t)]) ∧ Below w.heap.size w w' := by
  have HNB := Lib.hid (spNeededBy_c xs v t ht w hx hz hn')
  have HN : Hid (∀ q, q < 9 → (ByteArray.mk #[97, 98, 99, 100, 101, 102, 65, 66, 67]).extract q (q+1) = ⟨#[placesL.getD q 0]⟩) := fun q hq => extract_one placesB q hq
  have HI : Hid (∀ q (_ : q < 9) (h : q < (ByteArray.mk #[97, 98, 99, 100, 101, 102, 65, 66, 67]).size), (ByteArray.mk #[97, 98, 99, 100, 101, 102, 65, 66, 67])[q] = placesL.getD q 0) := by
    show ∀ q, _
    intro q hq h
    match q, hq with
    | 0, _ | 1, _ | 2, _ | 3, _ | 4, _ | 5, _ | 6, _ | 7, _ | 8, _ => rfl
  rcases Bool.eq_false_or_eq_true (mvalid xs && wvB t) with hv | hv
  · have hv' := hv
    rw [Bool.and_eq_true] at hv'
    have HFP := Lib.hid (fun p hp => fr_place (xs := xs) (t := t) hv'.1 hv'.2 (p := p) hp)
    have hzz := nb_plus (xs := xs) hv'.2
    have HYS := Lib.hid (fun h => so_spec (ys := xs) (t := t) h)
    have HNS := Lib.hid (fun h => so_none (ys := xs) (t := t) hv'.1 hv'.2 h)
    have HNO : Hid (soB xs t = false → spB xs t = ⟨#[]⟩) := fun h => by unfold spB; rw [h]; rfl
    have HFI := Lib.hid (fun c W => l13Find_c (nbB xs t ++ t) c W (by omega))
    have hz2 : (nbB xs t).size + t.size ≤ 20 := by rw [ByteArray.size_append] at hzz; exact hzz
    rw [hv] at HNB
    clear hv hv' hx hzz
    generalize wnN t.data.toList = n at *
    generalize scN xs n = m at *
    generalize nbB xs t = q at *
    go_enter Tryz.func12, Tryz.ntmps12
    go_wp2_with fail
    refine HNB.out.mono ?_
    rintro e w1 ⟨rfl, hb1⟩
    go_wp2
    go_loopw [8, 15] (fun _ i wr => ∃ (k : Nat), k ≤ 9 ∧ i = .int .i64 k ∧ Hid (∀ p, p < k → n.testBit p = true ∨ m.testBit p = true) ∧ Below w.heap.size w wr) (fun _ i _ => 9 - (RowKit.intOf i).toNat)
    case atStart => exact ⟨0, by omega, rfl, fun p hp => absurd hp (Nat.not_lt_zero p), hb1⟩
    case round =>
      obtain ⟨k, hk, rfl, hpr, hb⟩ := hrel
      have hbs := hb.size
      by_cases hlt : k < 9
      · have i0 : (0 : Int) ≤ (k : Int) := by omega
        have i1 : (k : Int) < 9 := by omega
        have hex := HN.out k hlt
        have hix := HI.out k hlt
        have hfp := HFP.out k hlt
        have HNY : Hid (nm k = ⟨#[placesL.getD k 0]⟩) := nm_byte k hlt
        have HFC := Lib.hid (fun W => HFI.out (placesL.getD k 0) W)
        generalize hc : placesL.getD k 0 = c at *
        by_cases hin : c ∈ (q ++ t).data.toList
        · have hi0 : ¬ Lib.indexByte (q ++ t).data.toList c < 0 := by
            have := (indexByte_mem _ _).2 hin; omega
          have hb0 : decide (Lib.indexByte (q ++ t).data.toList c < 0) = false := decide_eq_false hi0
          rw [decide_eq_true hin] at hfp
          have HP : Hid (∀ p, p < k + 1 → n.testBit p = true ∨ m.testBit p = true) := fun p hp => by
            by_cases e : p = k
            · rw [e]; have := hfp.symm; rwa [Bool.or_eq_true] at this
            · exact hpr.out p (by omega)
          clear hin hfp hc
          generalize Lib.indexByte (q ++ t).data.toList c = z at *
          go_wp2_with (go_at_call 37; refine (HFC.out _).mono ?_; rintro e w' ⟨rfl, rfl⟩)
          go_roundw
          case rel => exact ⟨k + 1, by omega, by go_num, HP, hb⟩
          case measure => simp [RowKit.intOf]; omega
        · have hi0 : Lib.indexByte (q ++ t).data.toList c < 0 := by
            have h0 : ¬ (0 : Int) ≤ Lib.indexByte (q ++ t).data.toList c := fun h => hin ((indexByte_mem _ _).1 h)
            omega
          rw [decide_eq_false hin] at hfp
          have hk2 := hfp.symm
          rw [Bool.or_eq_false_iff] at hk2
          have HSO : Hid (soB xs t = true ∧ spB xs t = nm k) := by
            rcases Bool.eq_false_or_eq_true (soB xs t) with hs | hs
            · obtain ⟨s1, s2, s3, s4, s5⟩ := HYS.out hs
              have : spN xs t = k := by
                rcases Nat.lt_trichotomy (spN xs t) k with h | h | h
                · rcases hpr.out _ h with e | e
                  · rw [s3] at e; cases e
                  · rw [s4] at e; cases e
                · exact h
                · rcases s5 _ h with e | e
                  · rw [hk2.1] at e; cases e
                  · rw [hk2.2] at e; cases e
              exact ⟨hs, by rw [s2, this]⟩
            · rcases HNS.out hs k hlt with e | e
              · rw [hk2.1] at e; cases e
              · rw [hk2.2] at e; cases e
          clear hin hfp hk2 hc
          generalize Lib.indexByte (q ++ t).data.toList c = z at *
          go_wp2_with (go_at_call 37; refine (HFC.out _).mono ?_; rintro e w' ⟨rfl, rfl⟩)
          go_ret2
          exact ⟨by rw [HSO.out.1, HSO.out.2, HNY.out]; rfl, hb⟩
      · have hk9 : k = 9 := by omega
        have HSO : Hid (soB xs t = false) := by
          show _ = _
          rcases Bool.eq_false_or_eq_true (soB xs t) with hs | hs
          · obtain ⟨s1, s2, s3, s4, s5⟩ := HYS.out hs
            rcases hpr.out _ (by omega : spN xs t < k) with e | e
            · rw [s3] at e; cases e
            · rw [s4] at e; cases e
          · exact hs
        subst hk9
        go_wp2
        go_ret2
        exact ⟨by rw [HNO.out HSO.out, HSO.out]; rfl, hb⟩
  · have HSO := Lib.hid (so_no hv)
    rw [hv] at HNB
    clear hv hx
    generalize nbB xs t = q at *
    go_enter Tryz.func12, Tryz.ntmps12
    go_wp2_with fail
    refine HNB.out.mono ?_
    rintro e w1 ⟨rfl, hb1⟩
    go_wp2
    go_loopw [8, 15] (fun _ i wr => ∃ (k : Nat), k ≤ 9 ∧ i = .int .i64 k ∧ Below w.heap.size w wr) (fun _ i _ => 9 - (RowKit.intOf i).toNat)
    case atStart => exact ⟨0, by omega, rfl, hb1⟩
    case round =>
      obtain ⟨k, hk, rfl, hb⟩ := hrel
      have hbs := hb.size
      by_cases hlt : k < 9
      · go_wp2
        go_roundw
        case rel => exact ⟨k + 1, by omega, by go_num, hb⟩
        case measure => simp [RowKit.intOf]; omega
      · have hk9 : k = 9 := by omega
        subst hk9
        go_wp2
        go_ret2
        exact ⟨by rw [HSO.out.1, HSO.out.2]; rfl, hb⟩
end Go.Proofs.YtplapaojgcloaaaGreatDoor
namespace Go.PE
open Go
/-- a table of numbers, read back -/
theorem ints_of_trod {H : Type} {enc : TypeId × Value → H} {P : Program} {w : World} {base : Nat} {sp : Nat → Bool} {held : Bool} {fuel : Nat} {t e : TypeId} {n : Nat} {kd : IntKind} {cs : Array Value} {p : List MemPlace} {ns : List Int}
    (ht : P.underlying t = some (.array n e)) (he : P.underlying e = some (.int kd)) (hc : P.cellsOf e = 1) (hct : P.cellsOf t = n) (hn : ns.length = n)
    (h : DataW.trod enc P w base sp held fuel t cs.toList = some (.agg (ns.map fun i => .lit (.int kd i)), p)) : cs = (ns.map fun i => Value.int kd i).toArray := by
  obtain ⟨xs, m, rfl, hx, hl, hxl, hat⟩ := DataW.trod_array ht h
  rw [hct] at hl
  have e1 : ns.map (fun i => (DataW.lit (.int kd i) : DataW H)) = xs.map (·.1) := by
    have := congrArg Prod.fst hx
    simpa using this
  apply Array.ext'
  show cs.toList = _
  rw [List.toList_toArray]
  apply List.ext_getElem
  · rw [hl, List.length_map, hn]
  · intro i h1 h2
    have hi : i < n := by rw [hl] at h1; exact h1
    have h3 := hat i hi
    rw [hc, Nat.mul_one, List.drop_eq_getElem_cons h1, List.take_succ_cons, List.take_zero, List.getElem?_eq_getElem (by omega)] at h3
    obtain ⟨k, hk1, hk2, _⟩ := DataW.trod_int he h3
    have h4 : xs[i].1 = .lit (.int kd k) := by rw [hk2]
    have h5 : (xs.map (·.1))[i]'(by rw [List.length_map]; omega) = .lit (.int kd k) := by rw [List.getElem_map]; exact h4
    have h6 : (ns.map (fun i => (DataW.lit (.int kd i) : DataW H)))[i]'(by rw [List.length_map]; omega) = .lit (.int kd k) := by
      have : ∀ (l l' : List (DataW H)) (e : l = l') (a : i < l.length) (b : i < l'.length), l[i]'a = l'[i]'b := fun l l' e a b => by subst e; rfl
      rw [this _ _ e1 _ (by rw [List.length_map]; omega)]; exact h5
    rw [List.getElem_map] at h6
    have h7 : ns[i]'(by omega) = k := by
      have h8 : (DataW.lit (.int kd (ns[i]'(by omega))) : DataW H) = .lit (.int kd k) := h6
      injection h8 with h9
      injection h9
    rw [List.getElem_map, h7]
    simpa using hk1
end Go.PE
namespace Go.Proofs.YtplapaojgcloaaaGreatDoor
open Go.RowKit Go.PM Go.ChangeShapes Go.WideShapes Go.PE
theorem g32 : Tryz.prog.globalNamed "math/bits.deBruijn32tab" = some 0 := by kernel_rfl
theorem g64 : Tryz.prog.globalNamed "math/bits.deBruijn64tab" = some 1 := by kernel_rfl
theorem g32Type : (Tryz.prog.globals[0]?).map (·.type) = some 142 := by kernel_rfl
theorem g64Type : (Tryz.prog.globals[1]?).map (·.type) = some 143 := by kernel_rfl
theorem cells32 : Tryz.prog.cellsOf 142 = 32 := by kernel_rfl
theorem cells64 : Tryz.prog.cellsOf 143 = 64 := by kernel_rfl
theorem cellsU8 : Tryz.prog.cellsOf 5 = 1 := by kernel_rfl
abbrev laidL : List (String × DataW Unit) := [("math/bits.deBruijn32tab", Rows.laid_math_bits_deBruijn32tab), ("math/bits.deBruijn64tab", Rows.laid_math_bits_deBruijn64tab)]
def n32 : List Int := Lib.deBruijn32tab.map fun (n : Nat) => (n : Int)
def n64 : List Int := Lib.deBruijn64tab.map fun (n : Nat) => (n : Int)
def bit32 : Array Value := (n32.map fun i => Value.int .u8 i).toArray
def bit64 : Array Value := (n64.map fun i => Value.int .u8 i).toArray
theorem laid32 {H : Type} : (Rows.laid_math_bits_deBruijn32tab : DataW H) = .agg (n32.map fun i => .lit (.int .u8 i)) := rfl
theorem laid64 {H : Type} : (Rows.laid_math_bits_deBruijn64tab : DataW H) = .agg (n64.map fun i => .lit (.int .u8 i)) := rfl
theorem vars_of_laid {W : World} (h : laidMetH Tryz.prog laidL W) : W.var? Tryz.prog "math/bits.deBruijn32tab" = some bit32 ∧ W.var? Tryz.prog "math/bits.deBruijn64tab" = some bit64 := by
  have h' : laidMet Tryz.prog laidL W := h
  obtain ⟨ps, ⟨g, t, cs, fuel, p, q, hg, ht, hvar, hd, ⟨g', t', cs', fuel', p', q', hg', ht', hvar', hd', _, _⟩, _⟩, _⟩ := h'
  obtain rfl := Option.some.inj (g32.symm.trans hg)
  obtain rfl := Option.some.inj (g32Type.symm.trans ht)
  obtain rfl := Option.some.inj (g64.symm.trans hg')
  obtain rfl := Option.some.inj (g64Type.symm.trans ht')
  rw [laid32] at hd
  rw [laid64] at hd'
  rw [hvar, hvar']
  exact ⟨congrArg some (ints_of_trod Tryz.underlying142 Tryz.underlying5 cellsU8 cells32 rfl hd), congrArg some (ints_of_trod Tryz.underlying143 Tryz.underlying5 cellsU8 cells64 rfl hd')⟩
theorem tz_of_var {W : World} (h : W.var? Tryz.prog "math/bits.deBruijn64tab" = some bit64) : Tz W := by
  have hc : ∀ j, j < Lib.deBruijn64tab.length → W.cell? ⟨1, j, none⟩ = some (.int .u8 (Lib.deBruijn64tab.getD j 0)) := fun j hj => by
    rw [World.var?_cell g64 h j]
    unfold bit64 n64
    rw [List.map_map, List.getElem?_toArray, List.getElem?_map, List.getElem?_eq_getElem hj, List.getD_eq_getElem?_getD, List.getElem?_eq_getElem hj]
    rfl
  refine ⟨hc, ?_⟩
  refine Classical.byContradiction fun hn => ?_
  have h0 := hc 0 (by decide)
  unfold World.cell? at h0
  rw [Array.getElem?_eq_none (by simpa using hn)] at h0
  cases h0
theorem tz_of_laid {W : World} (h : laidMetH Tryz.prog laidL W) : Tz W := tz_of_var (vars_of_laid h).2
noncomputable def laidWorld (os : Os) : World :=
  let w0 := World.holding Tryz.prog os ⟨#[], #[], []⟩
  { w0 with heap := (w0.heap.modify 0 fun
      | .cells _ t frozen => .cells bit32 t frozen
      | o => o).modify 1 fun
      | .cells _ t frozen => .cells bit64 t frozen
      | o => o }
set_option maxRecDepth 100000 in
theorem laidWorld_met (os : Os) (args : Array Value) : laidMetH Tryz.prog laidL ((laidWorld os).forCall (fun _ _ => 0) ⟨#[], args, []⟩).memory := by
  show laidMet Tryz.prog laidL _
  exact laidMet_of_run' 8 (by kernel_rfl) (by kernel_rfl)
end Go.Proofs.YtplapaojgcloaaaGreatDoor
