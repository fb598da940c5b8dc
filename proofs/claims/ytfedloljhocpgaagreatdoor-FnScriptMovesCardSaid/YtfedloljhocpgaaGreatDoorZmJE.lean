import Derived.Test.YtfedloljhocpgaaGreatDoorZmJD
import Derived.Test.YtfedloljhocpgaaGreatDoorZmJC
import Derived.Test.YtfedloljhocpgaaGreatDoorZmJB
import Derived.Test.YtfedloljhocpgaaGreatDoorRange
import Derived.Test.YtfedloljhocpgaaGreatDoorZmJA
import Derived.Test.YtfedloljhocpgaaGreatDoorRow
import Derived.Test.YtfedloljhocpgaaGreatDoorIm2
import Derived.Laws.EntriesVeiled
import Derived.Test.YtfedloljhocpgaaGreatDoorNuI
import Derived.Test.YtfedloljhocpgaaGreatDoorMarkT
import Derived.Test.YtfedloljhocpgaaGreatDoorP2
import Derived.Test.YtfedloljhocpgaaGreatDoorApp
import Derived.Deep.RegionLaw
import Derived.Test.YtfedloljhocpgaaGreatDoorFormat
import Derived.Test.YtfedloljhocpgaaGreatDoorFmtS
import Derived.Test.YtfedloljhocpgaaGreatDoorProg
import Derived.Test.YtfedloljhocpgaaGreatDoorLib
import Derived.Shelf.Spec.TrailingZeros
import Derived.OpenShut
import Derived.ChangeArms
namespace Go.Proofs.YtfedloljhocpgaaGreatDoor
open Go.RowKit Go.PM Go.PG Go.PW Go.PS Go.PD
theorem gRight (ys : Array Value) (W : World) : (callFunc 201 ys).run Tryz.prog W = .ok (.enter 201 ys) W := by kernel_rfl
theorem exeRight_c (line : ByteArray) (hl : line.size ≤ 1048576) (hcut : cutB line 32 = (line, ⟨#[]⟩, false)) (hlk : ∀ N, (tabA N).lookup line = some (fnV 201)) (xs : List Mv) (ss : List St) (b : Bool) (out : ByteArray) (ho : out.size ≤ 50000000) (w : World) 
    (hF : ∀ W u v, Below w.heap.size w W → RdS W u ss → RdM W v xs → Calls Tryz.prog 203 #[u, v] W fun e w' => e = .returned (.bool b) ∧ Below W.heap.size W w')
    (W : World) (lv sv : Value) (hb : Below w.heap.size w W) (hx : RdM W lv xs) (hs : RdS W sv ss) :
    Calls Tryz.prog 69 #[deskV lv sv out, .string line] W (ExePost W lv sv xs ss (sayB out (truB b))) := by
  have hbs := hb.size
  have key : ∀ W2, Below W.heap.size W W2 → Calls Tryz.prog 125 #[deskV lv sv out, .string line] W2 (BehPost W2 lv sv xs ss (sayB out (truB b)) line true) := fun W2 hb2 => by
    have hB2 := hb.trans (hb2.mono hbs)
    have hx2 := hx.below hb2
    have hs2 := hs.below hb2
    refine behindA_c lv sv xs xs ss ss out _ line true hl W2 hx2 hs2 hcut 201 (hlk _) gRight fun W3 hb3 hob => ?_
    have hB3 := hB2.trans (hb3.mono hB2.size)
    obtain ⟨A, n, c, rfl⟩ := slice_of hx
    obtain ⟨B, m, d, rfl⟩ := slice_of hs
    refine (aloneRight_c A n c B m d ⟨#[]⟩ out ho W3 b (fun W4 hb4 => hF W4 _ _ (hB3.trans (hb4.mono hB3.size)) ((hs2.below hb3).below hb4) ((hx2.below hb3).below hb4))).mono ?_
    rintro e w' ⟨rfl, hb5⟩
    exact ⟨_, _, rfl, (hx2.below hb3).below hb5, (hs2.below hb3).below hb5, .inl rfl, .inl rfl, hb5⟩
  exact executeY_c lv sv xs xs ss ss out _ line W hx hs key
theorem gRMoves (ys : Array Value) (W : World) : (callFunc 226 ys).run Tryz.prog W = .ok (.enter 226 ys) W := by kernel_rfl
theorem exeRMoves_c (line : ByteArray) (hl : line.size ≤ 1048576) (word rs : ByteArray) (hcut : cutB line 32 = (word, rs, true)) (hlk : tabR.lookup word = some (fnV 226)) (xs ys : List Mv) (ss : List St) (out : ByteArray) (ho : out.size ≤ 50000000) (hms : msize ys ≤ 1048576) (w : World) 
    (hF : ∀ W, Below w.heap.size w W → Calls Tryz.prog 227 #[.string rs] W fun e w' => ∃ v', e = .returned (.tuple #[v', .bool true]) ∧ w'.ownsRow W.heap.size 56 2 v' ys.length (mcells ys) ∧ Below W.heap.size W w')
    (W : World) (lv sv : Value) (hb : Below w.heap.size w W) (hx : RdM W lv xs) (hs : RdS W sv ss) :
    Calls Tryz.prog 69 #[deskV lv sv out, .string line] W (ExePost W lv sv ys ss (sayB out (fmtB ys))) := by
  have hbs := hb.size
  have key : ∀ W2, Below W.heap.size W W2 → Calls Tryz.prog 125 #[deskV lv sv out, .string line] W2 (BehPost W2 lv sv ys ss (sayB out (fmtB ys)) line true) := fun W2 hb2 => by
    have hB2 := hb.trans (hb2.mono hbs)
    have hx2 := hx.below hb2
    have hs2 := hs.below hb2
    refine behindR_c lv sv xs ys ss ss out _ line true hl W2 hx2 hs2 word rs hcut 226 hlk gRMoves fun W3 hb3 => ?_
    have hB3 := hB2.trans (hb3.mono hB2.size)
    obtain ⟨A, n, c, rfl⟩ := slice_of hx
    obtain ⟨B, m, d, rfl⟩ := slice_of hs
    refine (restMoves_c A n c B m d rs out ho W3 ys true hms (fun W4 hb4 => hF W4 (hB3.trans (hb4.mono hB3.size)))).mono ?_
    rintro e w' ⟨v', rfl, hR, hN, hb5⟩
    exact ⟨_, _, rfl, hR, (hs2.below hb3).below hb5, .inr hN, .inl rfl, hb5⟩
  exact executeY_c lv sv xs ys ss ss out _ line W hx hs key
theorem gCounts (ys : Array Value) (W : World) : (callFunc 284 ys).run Tryz.prog W = .ok (.enter 284 ys) W := by kernel_rfl
theorem exeCounts_c (line : ByteArray) (hl : line.size ≤ 1048576) (hcut : cutB line 32 = (line, ⟨#[]⟩, false)) (hlk : ∀ N, (tabA N).lookup line = some (cloV 284 (N + 1 + 17 + 1))) (xs : List Mv) (ss : List St) (a b c' d' : Int) (ha : a ≠ -1) (hz : ∀ k ∈ [a, b, c', d'], i64ok k) (out : ByteArray) (ho : out.size ≤ 50000000) (w : World) (hT : Tp w)
    (h1 : ∀ W v, Below w.heap.size w W → RdM W v xs → Calls Tryz.prog 20 #[v] W fun e w' => e = .returned (.int .i64 a) ∧ Below W.heap.size W w')
    (h2 : ∀ W v, Below w.heap.size w W → RdM W v xs → Calls Tryz.prog 21 #[v] W fun e w' => e = .returned (.int .i64 b) ∧ Below W.heap.size W w')
    (h3 : ∀ W v, Below w.heap.size w W → RdM W v xs → Calls Tryz.prog 22 #[v] W fun e w' => e = .returned (.int .i64 c') ∧ Below W.heap.size W w')
    (h4 : ∀ W v, Below w.heap.size w W → RdM W v xs → Calls Tryz.prog 23 #[v] W fun e w' => e = .returned (.int .i64 d') ∧ Below W.heap.size W w')
    (W : World) (lv sv : Value) (hb : Below w.heap.size w W) (hx : RdM W lv xs) (hs : RdS W sv ss) :
    Calls Tryz.prog 69 #[deskV lv sv out, .string line] W (ExePost W lv sv xs ss (sayB out (numB [a, b, c', d']))) := by
  have hbs := hb.size
  refine executeY_c lv sv xs xs ss ss out _ line W hx hs fun W2 hb2 => ?_
  have hB2 := hb.trans (hb2.mono hbs)
  have hx2 := hx.below hb2
  have hs2 := hs.below hb2
  refine behindAc_c lv sv xs xs ss ss out _ line true hl W2 hx2 hs2 hcut 284 (W2.heap.size + 2 + 1 + 17 + 1) (hlk _) gCounts fun W3 hb3 hob => ?_
  have hB3 := hB2.trans (hb3.mono hB2.size)
  obtain ⟨A, n, c, rfl⟩ := slice_of hx
  obtain ⟨B, m, d, rfl⟩ := slice_of hs
  have o1 : At W3 (W2.heap.size + 2 + 1 + 17) 39 #[fnV 20, fnV 21, fnV 22, fnV 23] := hob 17 _ rfl
  have o2 : At W3 (W2.heap.size + 2 + 1 + 18) 288 #[.slice (some ⟨W2.heap.size + 2 + 1 + 17, 0, none⟩) 4 4] := hob 18 _ rfl
  have hne : ([a, b, c', d'] : List Int)[0] != -1 := by simpa using ha
  have hbl := fun (W4 : World) (hb4 : Below W3.heap.size W3 W4) => hB3.trans (hb4.mono hB3.size)
  have hxl := fun (W4 : World) (hb4 : Below W3.heap.size W3 W4) => (hx2.below hb3).below hb4
  refine (numbersByF_c A n c B m d ⟨#[]⟩ out ho W3 (W2.heap.size + 2 + 1 + 17) _ [20, 21, 22, 23] [a, b, c', d'] rfl (by simp) (by simp) o2.lt (o2.cell 0) o1.lt ?_ ?_ hz (hT.below hB3) ?_).mono ?_
  · intro j f hj
    match j, hj with
    | 0, hj => cases hj; exact o1.cell 0
    | 1, hj => cases hj; exact o1.cell 1
    | 2, hj => cases hj; exact o1.cell 2
    | 3, hj => cases hj; exact o1.cell 3
    | k + 4, hj => simp at hj
  · intro f hf xs W
    simp only [List.mem_cons, List.not_mem_nil, or_false] at hf
    rcases hf with rfl | rfl | rfl | rfl <;> kernel_rfl
  · intro j f x hj hx W4 hb4
    match j, hj, hx with
    | 0, hj, hx => cases hj; cases hx; exact h1 W4 _ (hbl W4 hb4) (hxl W4 hb4)
    | 1, hj, hx => cases hj; cases hx; exact h2 W4 _ (hbl W4 hb4) (hxl W4 hb4)
    | 2, hj, hx => cases hj; cases hx; exact h3 W4 _ (hbl W4 hb4) (hxl W4 hb4)
    | 3, hj, hx => cases hj; cases hx; exact h4 W4 _ (hbl W4 hb4) (hxl W4 hb4)
    | k + 4, hj, _ => simp at hj
  · rintro e w' ⟨rfl, hb5⟩
    rw [hne]
    exact ⟨_, _, rfl, (hx2.below hb3).below hb5, (hs2.below hb3).below hb5, .inl rfl, .inl rfl, hb5⟩
end Go.Proofs.YtfedloljhocpgaaGreatDoor
namespace Go.PG
open Go.RowKit Go.PM Go.PW Go.PS Go.PD
theorem no10_join (sep : List UInt8) (hs : (10 : UInt8) ∉ sep) : ∀ ps : List (List UInt8), (∀ p ∈ ps, (10 : UInt8) ∉ p) → (10 : UInt8) ∉ Lib.join ps sep := by
  intro ps
  cases ps with
  | nil => intro _; rw [Lib.join_nil]; exact List.not_mem_nil
  | cons p ps =>
    intro h
    rw [Lib.join_cons, List.mem_append]
    rintro (h1 | h1)
    · exact h p List.mem_cons_self h1
    · unfold Lib.joinTail at h1
      rw [List.mem_flatten] at h1
      obtain ⟨l, hl, hm⟩ := h1
      obtain ⟨q, hq, rfl⟩ := List.mem_map.1 hl
      rcases List.mem_append.1 hm with hm | hm
      · exact hs hm
      · exact h q (List.mem_cons_of_mem _ hq) hm
theorem no10_P {s : ByteArray} (h : isS s = true) : (10 : UInt8) ∉ s.data.toList := by
  obtain ⟨c, rfl⟩ := one_of_size (isS_size h)
  intro hm
  have : c = 10 := (List.mem_singleton.1 hm).symm
  subst this
  revert h
  decide +kernel
theorem no10_fmt {xs : List Mv} (h : mvalid xs = true) : (10 : UInt8) ∉ (fmtB xs).data.toList := by
  have hMV : MV xs := by simpa [mvalid] using h
  by_cases hne : xs = []
  · rw [fmtB_none h hne]; decide
  · rw [fmtB_some h hne]
    show (10 : UInt8) ∉ (fmtL xs).toArray.toList
    rw [List.toList_toArray]
    refine no10_join _ (by decide) _ fun p hp => ?_
    obtain ⟨m, hm, rfl⟩ := List.mem_map.1 hp
    have h1 := hMV.1 m hm
    unfold mok at h1; rw [Bool.and_eq_true] at h1
    have a1 := no10_P (s := m.1) (by unfold isS; rw [h1.1]; rfl)
    have a2 := no10_P h1.2
    unfold PM.part
    simp only [List.mem_append, List.mem_singleton]
    rintro ((e | e) | e)
    · exact a1 e
    · exact absurd e (by decide)
    · exact a2 e
theorem cut_word (l r : ByteArray) (h : (32 : UInt8) ∉ l.data.toList) : cutB (l ++ ⟨#[32]⟩ ++ r) 32 = (l, r, true) := by
  have e : (l ++ ⟨#[32]⟩ ++ r).data.toList = l.data.toList ++ 32 :: r.data.toList := by simp [ByteArray.data_append]
  have hi : Lib.indexByte (l ++ ⟨#[32]⟩ ++ r).data.toList 32 = l.size := by
    rw [e, ixByte_front _ _ _ h]; simp
  unfold cutB
  have hs : (l ++ ⟨#[32]⟩ ++ r).size = l.size + 1 + r.size := by rw [ByteArray.size_append, ByteArray.size_append]; rfl
  rw [if_pos (by rw [hi]; omega), hi]
  have hn : ((l.size : Nat) : Int).toNat = l.size := rfl
  rw [hn]
  refine Prod.ext ?_ (Prod.ext ?_ rfl)
  · show (l ++ ⟨#[32]⟩ ++ r).extract 0 l.size = l
    apply ByteArray.ext
    apply Array.toList_inj.1
    rw [ByteArray.data_extract, Array.toList_extract, e, ← ByteArray.size_data]
    simp
  · show (l ++ ⟨#[32]⟩ ++ r).extract (l.size + 1) (l ++ ⟨#[32]⟩ ++ r).size = r
    rw [hs]
    apply ByteArray.ext
    apply Array.toList_inj.1
    rw [ByteArray.data_extract, Array.toList_extract, e, ← ByteArray.size_data, ← ByteArray.size_data]
    have e1 : l.data.toList ++ 32 :: r.data.toList = (l.data.toList ++ [32]) ++ r.data.toList := by simp
    have e2 : l.data.size + 1 = (l.data.toList ++ [32]).length := by simp
    rw [e1, e2, List.extract_eq_take_drop, List.drop_left, List.take_of_length_le]
    simp
end Go.PG
namespace Go.PS
open Go.PM Go.RowKit
theorem tabC_congr {f g : Nat → ByteArray} (h : ∀ p, p < 9 → f p = g p) : tabC f = tabC g := by
  unfold tabC
  rw [h 0 (by omega), h 1 (by omega), h 2 (by omega), h 3 (by omega), h 4 (by omega), h 5 (by omega), h 6 (by omega), h 7 (by omega), h 8 (by omega)]
theorem del_set {f : Nat → ByteArray} {T : List Mv} {m : Mv} (hm : isP m.1 = true) : (tabC (delF f T)).setIfInBounds (pidx m.1) (.string emp) = tabC (delF f (T ++ [m])) := by
  rw [tabC_set _ _ (pidx_spec hm).1]
  exact tabC_congr fun p hp => delF_snoc f T m hm p hp
end Go.PS
namespace Go.Proofs.YtfedloljhocpgaaGreatDoor
open Go.RowKit Go.PM Go.PS Go.PW Go.Lib
attribute [local go_sem] Oper.semAt_some

theorem wpIn_noP {F : Fence} {n : Nat} {P : Program} {c : Code} {K : Act → World → Prop} {Q : Exit → Act → World → Prop} {a : Act} {w : World} (h : c.wpIn F n P (Exit.then K (fun _ _ _ => False)) a w) : c.wpIn F n P (Exit.then K Q) a w :=
  Code.wpIn_mono (fun e a w h => by cases e <;> first | exact h | exact h.elim) h
theorem opIn_row {F : Fence} {n : Nat} {o : Oper} {a : Act} {w : World} {K : Act → World → Prop} {Q : Exit → Act → World → Prop} (_hgd : o.guard = none) (ty : TypeId) (x : Operand) (ho : o.op = .load ty x) (b : Nat) (t : TypeId) (cs : Array Value) (hA : At w b t cs) (hx : a.eval x = .pointer (some ⟨b, 0, none⟩))
    (k : Nat) (e : TypeId) (hu : Tryz.prog.underlying ty = some (.array k e)) (hi : (Tryz.prog.info? ty).map (·.size) = some cs.size) (h : K (a.put o.dst (.agg cs)) w) : o.wpIn F n Tryz.prog a w K Q := by
  unfold Oper.wpIn
  refine ⟨?_, ?_⟩
  · simp [Oper.about, ho]
  · rw [Oper.semAt_plain F _ _ (by rw [ho]; intro c hc'; cases hc')]
    simp only [execOp, ho, hx, Instr.loadAt, Instr.sureAddr, Sem.run_bind, Sem.run_pure, Result.andThen_ok, run_loadVar_row w b t ty cs (0, 0) _ hA hu rfl hi]
    exact h
set_option maxRecDepth 100000 in
set_option maxHeartbeats 4000000 in
theorem imOrderWithSwaps_yes (xs : List Mv) (h1 : MV xs) (v : Value) (w : World) (hx : RdM w v xs) :
    Calls Tryz.prog 9 #[v] w fun e w' => ∃ v', e = .returned (.tuple #[v', .bool true]) ∧ w'.ownsRow w.heap.size 58 3 v' (owS xs).length (scells (owS xs)) ∧ Below w.heap.size w w' := by
  have HT := Lib.hid (tableOf_yes xs h1 v w hx)
  have HLI := Lib.hid (fun W => list_c (noIdle (tabOf xs)) W)
  rw [bioM_tab h1] at HLI
  have HWT := Lib.hid (bioM_Wt xs)
  have HLN := Lib.hid (bioM_len xs)
  have HPE := Lib.hid (fun W => permutationOf_c (delF (tabOf xs) (takM xs)) (del_exch h1) W)
  have HRS := Lib.hid (fun b W hA => ringSwaps_c (invI (srcT (delF (tabOf xs) (takM xs)))) (inv_prm (del_exch h1)) b W hA)
  have HRW := Lib.hid (rw_del h1)
  have HOW := Lib.hid (owS_yes (xs := xs) (by simpa [mvalid] using h1))
  have HTK : Hid (takM xs = takF 9 (bioM xs)) := by show _ = _; rw [bioM_yes h1]; rfl
  have HD0 := Lib.hid (delF_nil (tabOf xs))
  have HDS := Lib.hid (fun T m hm p hp => delF_snoc (tabOf xs) T m hm p hp)
  have HID := Lib.hid (fun W => idle_c (tabOf xs) W)
  have HRL := Lib.hid (rwM_le h1)
  have HDB : Hid (∀ m ∈ bioM xs, isP m.1 = true) := (bioM_Wt xs).to_
  clear hx h1
  generalize hbs : bioM xs = bs at *
  generalize tabOf xs = f at *
  refine (callsIn_wide (n := 5)).1 ?_
  refine callsIn_of_wp_marks Tryz.func9 rfl trivial ?_ rfl
  simp only [Tryz.ntmps9, List.size_toArray, List.length_cons, List.length_nil, Nat.reduceAdd, Nat.reduceSub, Array.replicate_succ, Array.replicate_zero, List.push_toArray, List.append_toArray, List.nil_append, List.cons_append]
  gi_wp2_with fail
  refine ⟨trivial, callsIn_wide.2 (HT.out.mono ?_)⟩
  rintro e w1 ⟨rfl, hb1⟩
  have hs1 := hb1.size
  have k1 : At (w1.alloc (.cells (tabA f) 65)) w1.heap.size 65 (tabC f) := At.new w1 _ _
  gi_wp2_with (refine ldIn_row rfl 65 (.tmp 4) rfl w1.heap.size 65 (tabC f) (k1.alloc _) (by rfl) 9 9 Tryz.underlying65 (by kernel_rfl) ?_; refine held ?_)
  unfold Held
  gi_wp2_with fail
  refine ⟨trivial, callsIn_wide.2 ((HID.out _).mono ?_)⟩
  rintro e w2 ⟨rfl, hb2⟩
  have kt0 : At ((w1.alloc (.cells (tabA f) 65)).alloc (.cells #[.slice none 0 0] 25)) w1.heap.size 65 (tabC f) := k1.alloc _
  have ks0 : At ((w1.alloc (.cells (tabA f) 65)).alloc (.cells #[.slice none 0 0] 25)) (w1.heap.size + 1) 25 #[.slice none 0 0] := by
    have := At.new (w1.alloc (.cells (tabA f) 65)) 25 #[.slice none 0 0]
    rwa [World.size_alloc] at this
  have hB1 : Below w.heap.size w ((w1.alloc (.cells (tabA f) 65)).alloc (.cells #[.slice none 0 0] 25)) := (hb1.alloc hs1 _).alloc (by simp; omega) _
  have kt2 := kt0.keep hb2
  have ks2 := ks0.keep hb2
  have hB2 := hB1.trans (hb2.mono hB1.size)
  have hs2 := hB2.size
  clear hb1 k1 kt0 ks0 hB1 hb2
  gi_wp2_with fail
  refine ⟨trivial, callsIn_wide.2 ((HLI.out _).mono ?_)⟩
  rintro e w3 ⟨v3, rfl, ho3, hb3⟩
  have kt3 := kt2.keep hb3
  have ks3 := ks2.keep hb3
  have hB3 := hB2.trans (hb3.mono hs2)
  have hs3 := hB3.size
  have hl2 := kt2.lt
  have hl3 := ks2.lt
  obtain ⟨A3, c3, rfl, _⟩ := Rd.of_own ho3
  clear hb3 hB2 kt2 ks2
  gi_wp2_with fail
  refine ⟨trivial, callsIn_wide.2 ((takenAhead_c _ _ _ _).mono ?_)⟩
  rintro e wq ⟨rfl, rfl⟩
  have hax : Below w3.heap.size w3 (w3.alloc (.cells #[.slice A3 bs.length c3] 23)) := (Below.refl _ _).alloc (Nat.le_refl _) _
  have kt4 := kt3.keep hax
  have ks4 := ks3.keep hax
  have ho4 := own_keep ho3 hax
  have hB4 := hB3.trans (hax.mono hs3)
  have hA4 : At (w3.alloc (.cells #[.slice A3 bs.length c3] 23)) w3.heap.size 23 #[.slice A3 bs.length c3] := At.new _ _ _
  obtain ⟨W0, hW0⟩ : ∃ W0, W0 = w3.alloc (.cells #[.slice A3 bs.length c3] 23) := ⟨_, rfl⟩
  have hS0 : W0.heap.size = w3.heap.size + 1 := by rw [hW0]; simp
  rw [← hW0] at kt4 ks4 ho4 hB4 hA4 ⊢
  have hz3 := ks3.lt
  have HBz := Lib.hid (show w.heap.size ≤ w1.heap.size from hs1)
  clear hax hB3 kt3 ks3 ho3 hW0
  gi_wp2
  refine range_lawR (F := Fence.wide) (gf := 99) (lf := #[]) (lb := #[.pointer (some ⟨w3.heap.size, 0, none⟩)]) (Pr := fun A => At A w3.heap.size 23 #[.slice A3 bs.length c3] ∧ RdM A (.slice A3 bs.length c3) bs) rfl (by decide) rfl trivial (fun _ _ => rfl) (encs := fun m : Mv => #[.agg #[.string m.1, .string m.2]]) (xs := takF 9 bs)
    (taken_iter bs _ w3.heap.size 4 (by omega) HWT.out HLN.out) (fun _ => rfl)
    (fun r pre W => (∃ o, RowAt W (w1.heap.size + 1) 25 (W0.heap.size + 2) 58 3 r (stL pre).length (scells (stL pre)) o) ∧ At W w1.heap.size 65 (tabC (delF f pre)) ∧ At W w3.heap.size 23 #[.slice A3 bs.length c3] ∧ W.ownsRow w2.heap.size 56 2 (.slice A3 bs.length c3) bs.length (mcells bs) ∧ Below w.heap.size w W) none ?_ ?_ ?_
    (fun m a' W => ∃ b, At W b 56 #[.string m.1, .string m.2] ∧ W0.heap.size ≤ b ∧ a' = { tmps := #[v, undef, .slice none 0 0, .bool false, .pointer (some ⟨w1.heap.size, 0, none⟩), .bool true, .pointer (some ⟨w1.heap.size + 1, 0, none⟩), .pointer (some ⟨b, 0, none⟩), undef, undef, .tuple #[tabX f, .bool true], v, .tuple #[tabX f, .bool true], tabX f, .bool true, .bool true, .bool false, .agg (tabC f), tabX (mixG (noIdle f) f 9), .slice A3 bs.length c3, .func (.func 99) #[] #[.pointer (some ⟨w3.heap.size, 0, none⟩)], .agg #[.string m.1, .string m.2], undef, undef, undef, undef, undef, undef, undef, undef, undef, undef, undef, undef, undef, undef, undef, undef, undef, undef], defers := [] }) ?_ ?_ ?_ ?_
  · rintro r pre A ⟨⟨o, ho⟩, h2, h3, h4, h5⟩
    exact ⟨⟨h3, Rd.of_own h4⟩, ho.lives⟩
  · rintro r s A A' row ⟨⟨o, ho⟩, h2, h3, h4, h5⟩ hg hr
    exact ⟨⟨o, ho.turn hg (fun q e => (hr q e).2)⟩, h2.turn hg (fun q e => (hr q e).2), h3.turn hg (fun q e => (hr q e).2), own_turn h4 hg (fun q e => (hr q e).2), h5.trans (below_grown hg h5.size (fun g e => by have := (hr g e).1; omega))⟩
  · exact ⟨⟨_, ks4, ⟨rfl, .inl ⟨rfl, rfl⟩⟩, rfl⟩, by rw [HD0.out]; exact kt4, hA4, ho4, hB4⟩
  · rintro m a' s A A' row ⟨b, k1, kb, k2⟩ hg hr
    exact ⟨b, k1.turn hg (fun r e => (hr r e).2), kb, k2⟩
  · intro l r pre m W K hI hp hsz hK
    obtain ⟨⟨o, k1, k2, k3⟩, h2, h3, h4, h5⟩ := hI
    have hbl : Below W.heap.size W (W.alloc (.cells #[.string m.1, .string m.2] 56)) := (Below.refl _ _).alloc (Nat.le_refl _) _
    have r1 : (∃ o, RowAt (W.alloc (.cells #[.string m.1, .string m.2] 56)) (w1.heap.size + 1) 25 (W0.heap.size + 2) 58 3 r (stL pre).length (scells (stL pre)) o) ∧ At (W.alloc (.cells #[.string m.1, .string m.2] 56)) w1.heap.size 65 (tabC (delF f pre)) ∧ At (W.alloc (.cells #[.string m.1, .string m.2] 56)) w3.heap.size 23 #[.slice A3 bs.length c3] ∧ (W.alloc (.cells #[.string m.1, .string m.2] 56)).ownsRow w2.heap.size 56 2 (.slice A3 bs.length c3) bs.length (mcells bs) ∧ Below w.heap.size w (W.alloc (.cells #[.string m.1, .string m.2] 56)) :=
      ⟨⟨o, k1.alloc _, own_keep k2 hbl, k3⟩, h2.alloc _, h3.alloc _, own_keep h4 hbl, h5.alloc h5.size _⟩
    have r2 := At.new W 56 #[.string m.1, .string m.2]
    have hW0W : W0.heap.size ≤ W.heap.size := by omega
    clear k1 k2 k3 h2 h3 h4 h5
    gi_wp2
    exact hK _ _ hbl r1 ⟨_, r2, hW0W, rfl⟩
  · rintro l r pre m a' W ⟨⟨o, k1, k2, k0⟩, kt, ka, kv, k3⟩ ⟨b, q1, hb0, rfl⟩ hp hsz
    have hmp : isP m.1 = true := HDB.out m (tak_sub 9 bs m (hp.mem (by simp)))
    have hlp := pidx_spec hmp
    have hpl : pre.length + 1 ≤ 9 := by
      have h1 := hp.length_le
      have h2 := takF_len 9 bs
      have := HLN.out
      simp at h1; omega
    have hpn : (stL (pre ++ [m])).length = (stL pre).length + 1 := by simp [stL]
    have hps : (stL pre).length = pre.length := by simp [stL]
    have c0 : W.cell? ⟨b, 0, none⟩ = some (.string m.1) := q1.cell 0
    have c1 : W.cell? ⟨b, 1, none⟩ = some (.string m.2) := q1.cell 1
    have cs3 : W.cell? ⟨w1.heap.size + 1, 0, none⟩ = some o := k1.cell 0
    have hl1 := k1.lt
    have hlb := q1.lt
    have HIX := Lib.hid (fun W' => indexOf_yes m.1 hmp W')
    have HDE := Lib.hid (del_set (f := f) (T := pre) hmp)
    have hnw := three_new W (.int .i64 0) (.string m.1) (.string m.2) 58
    gi_wp2_with (gi_at_builtin; refine held ?_)
    unfold Held
    obtain ⟨i0, hi0, hz0, hz1, hz2⟩ := info_parts infoSt3
    refine wpListIn_lies rfl (.tmp 22) (.tmp 25) 25 rfl (W0.heap.size + 2) 58 i0 _ 3 40 Tryz.underlying25 hi0 hz0 hz1 hz2 rfl (by omega) o (stL pre).length (scells (stL pre)) (by rfl) (own_keep k2 ((Below.refl _ _).alloc (Nat.le_refl _) _)) ⟨W.heap.size, 0, none⟩ 1 1 [Value.int .i64 0, Value.string m.1, Value.string m.2] (by rfl) rfl hnw
      (by intro u hu; simp at hu; rcases hu with rfl | rfl | rfl <;> rfl) (by omega) (by simp only [maxLen]; omega) (by omega) (by simp; omega) ?_
    intro g cap W3 hown3 hgrow3 hlies hg3
    have hax : Below W.heap.size W (W.alloc (.cells #[.int .i64 0, .string m.1, .string m.2] 58)) := (Below.refl _ _).alloc (Nat.le_refl _) _
    have k2a := own_keep k2 hax
    have j1 := at_grown' (k1.keep hax) hgrow3 (box_apart k2a (k1.keep hax) (by decide))
    have jt := at_grown' (kt.keep hax) hgrow3 (box_apart k2a (kt.keep hax) (by decide))
    have ja := at_grown' (ka.keep hax) hgrow3 (box_apart k2a (ka.keep hax) (by decide))
    have jq := at_grown' (q1.keep hax) hgrow3 (box_apart k2a (q1.keep hax) (by decide))
    have jv := own_grown (own_keep kv hax) hgrow3 (rows_neS (own_keep kv hax) k2a (by decide))
    have hge := own_block_ge k2
    have hcs : scells (stL pre) ++ [Value.int .i64 0, Value.string m.1, Value.string m.2] = scells (stL (pre ++ [m])) := by unfold stL; rw [List.map_append, scells_append]; simp [scells, stpM]
    rw [hcs, ← hpn] at hown3
    have s1 := grownBy_setCell' W3 (w1.heap.size + 1) (.slice (some ⟨g, 0, none⟩) ((stL pre).length + 1) cap)
    have s2 := grown_cellP (W3.setCell ⟨w1.heap.size + 1, 0, none⟩ (.slice (some ⟨g, 0, none⟩) ((stL pre).length + 1) cap)) ⟨w1.heap.size, pidx m.1, none⟩ (.string emp)
    have hge3 := own_block_ge hown3
    have m1 : At ((W3.setCell ⟨w1.heap.size + 1, 0, none⟩ (.slice (some ⟨g, 0, none⟩) ((stL pre).length + 1) cap)).setCell ⟨w1.heap.size, pidx m.1, none⟩ (.string emp)) (w1.heap.size + 1) 25 #[.slice (some ⟨g, 0, none⟩) ((stL pre).length + 1) cap] := at_grown' (j1.set 0 _) s2 (by simp)
    have mt : At ((W3.setCell ⟨w1.heap.size + 1, 0, none⟩ (.slice (some ⟨g, 0, none⟩) ((stL pre).length + 1) cap)).setCell ⟨w1.heap.size, pidx m.1, none⟩ (.string emp)) w1.heap.size 65 (tabC (delF f (pre ++ [m]))) := by
      have := (at_grown' jt s1 (by simp)).set (pidx m.1) (.string emp)
      rw [HDE.out] at this
      exact this
    have ma := at_grown' (at_grown' ja s1 (fun e => by simp at e; omega)) s2 (fun e => by simp at e; omega)
    have mv := own_grown (own_grown jv s1 (.inl fun e => by have q : w2.heap.size ≤ w1.heap.size + 1 := own_block_ge kv _ e; omega)) s2 (.inl fun e => by have q : w2.heap.size ≤ w1.heap.size := own_block_ge kv _ e; omega)
    have mr := own_grown (own_grown hown3 s1 (.inl fun e => by have q : W0.heap.size + 2 ≤ w1.heap.size + 1 := hge3 _ e; omega)) s2 (.inl fun e => by have q : W0.heap.size + 2 ≤ w1.heap.size := hge3 _ e; omega)
    have hB3 : Below w.heap.size w W3 := (k3.alloc k3.size _).trans (below_grown hgrow3 (by have := k3.size; simp; omega) (fun g e => by have := hge g e; have := hB4.size; omega))
    have hst : RowStep W0.heap.size r (some g) W ((W3.setCell ⟨w1.heap.size + 1, 0, none⟩ (.slice (some ⟨g, 0, none⟩) ((stL pre).length + 1) cap)).setCell ⟨w1.heap.size, pidx m.1, none⟩ (.string emp)) := by
      have hz3 := hgrow3.size
      simp at hz3
      refine ⟨by simp [World.size_setCell]; omega, fun k h1 h2 h3 => ?_, ?_⟩
      · rw [heap_setCell_other _ _ _ _ (by show k ≠ w1.heap.size; omega), heap_setCell_other _ _ _ _ (by show k ≠ w1.heap.size + 1; omega), hgrow3.block k (by simp; omega) (by rw [k0]; exact h3)]
        exact Below.heap_alloc _ _ _ h2
      · rcases hlies with h | h
        · exact .inl (by rw [← h, k0])
        · exact .inr fun q e => by cases e; rw [h]; simp
    rw [hpn] at mr
    have fin : ∃ r', ((∃ o, RowAt ((W3.setCell ⟨w1.heap.size + 1, 0, none⟩ (.slice (some ⟨g, 0, none⟩) ((stL pre).length + 1) cap)).setCell ⟨w1.heap.size, pidx m.1, none⟩ (.string emp)) (w1.heap.size + 1) 25 (W0.heap.size + 2) 58 3 r' (stL (pre ++ [m])).length (scells (stL (pre ++ [m]))) o) ∧ At ((W3.setCell ⟨w1.heap.size + 1, 0, none⟩ (.slice (some ⟨g, 0, none⟩) ((stL pre).length + 1) cap)).setCell ⟨w1.heap.size, pidx m.1, none⟩ (.string emp)) w1.heap.size 65 (tabC (delF f (pre ++ [m]))) ∧ At ((W3.setCell ⟨w1.heap.size + 1, 0, none⟩ (.slice (some ⟨g, 0, none⟩) ((stL pre).length + 1) cap)).setCell ⟨w1.heap.size, pidx m.1, none⟩ (.string emp)) w3.heap.size 23 #[.slice A3 bs.length c3] ∧ ((W3.setCell ⟨w1.heap.size + 1, 0, none⟩ (.slice (some ⟨g, 0, none⟩) ((stL pre).length + 1) cap)).setCell ⟨w1.heap.size, pidx m.1, none⟩ (.string emp)).ownsRow w2.heap.size 56 2 (.slice A3 bs.length c3) bs.length (mcells bs) ∧ Below w.heap.size w ((W3.setCell ⟨w1.heap.size + 1, 0, none⟩ (.slice (some ⟨g, 0, none⟩) ((stL pre).length + 1) cap)).setCell ⟨w1.heap.size, pidx m.1, none⟩ (.string emp))) ∧
        RowStep W0.heap.size r r' W ((W3.setCell ⟨w1.heap.size + 1, 0, none⟩ (.slice (some ⟨g, 0, none⟩) ((stL pre).length + 1) cap)).setCell ⟨w1.heap.size, pidx m.1, none⟩ (.string emp)) := by
      refine ⟨some g, ⟨⟨_, m1, ?_, rfl⟩, mt, ma, mv, (hB3.setCell (by show w.heap.size ≤ w1.heap.size + 1; omega) _).setCell (by show w.heap.size ≤ w1.heap.size; omega) _⟩, hst⟩
      rw [hpn]; exact mr
    have FIN := Lib.hid fin
    have d1 := j1.cell 0
    have d2 := j1.frozen 0
    have d3 : W3.cell? ⟨b, 0, none⟩ = some (.string m.1) := jq.cell 0
    have d4 : W3.cell? ⟨b, 1, none⟩ = some (.string m.2) := jq.cell 1
    have d5 : W3.cell? ⟨w1.heap.size, pidx m.1, none⟩ = some (.string (delF f pre (pidx m.1))) := (jt.cell _).trans (tabC_at _ _ hlp.1)
    have d6 : W3.frozen? ⟨w1.heap.size, pidx m.1, none⟩ = false := jt.frozen _
    have l5 := j1.lt
    have l6 := jt.lt
    have l7 := jq.lt
    have i0' : (0 : Int) ≤ (pidx m.1 : Int) := by omega
    have i1' : (pidx m.1 : Int) < 9 := by have := hlp.1; omega
    clear hnw c0 c1 cs3 k1 k2 k3 q1 hgrow3 hge hcs hown3 m1 mt ma mv mr hst hB3 hlies j1 jt ja jq jv hax k2a s1 s2 hge3 fin kt ka kv hmp hlp hp HDB
    generalize delF f pre (pidx m.1) = oldv at *
    generalize pidx m.1 = j at *
    gi_wp2_with fail
    refine ⟨trivial, CallsIn.inRound l (callsIn_wide.2 ((HIX.out _).mono ?_))⟩
    rintro e wq ⟨rfl, rfl⟩
    gi_wp2
    have FIN2 := FIN.out
    rw [hps] at FIN2
    exact FIN2
  · rintro D r W hD ⟨⟨o, k1, k2, k0⟩, kt, _, _, k3⟩ hd
    rw [← HTK.out] at k2 kt
    have c2 : W.drew.cell? ⟨w1.heap.size + 1, 0, none⟩ = some o := k1.cell 0
    have ktd : At W.drew w1.heap.size 65 (tabC (delF f (takM xs))) := kt
    have k2d : W.drew.ownsRow (W0.heap.size + 2) 58 3 o (stL (takM xs)).length (scells (stL (takM xs))) := k2
    have hdd : W.drew.heap[D]? = some (.deferred (some [])) := hd
    have k3d := k3.drew
    have hl1 : w1.heap.size + 1 < W.drew.heap.size := k1.lt
    have hDl : D < W.drew.heap.size := (Array.getElem?_eq_some_iff.1 hd).1
    have hLT : (stL (takM xs)).length ≤ 9 := by unfold stL; rw [List.length_map]; exact takM_le xs
    have hLR : (swL (rwM xs)).length ≤ 9 := by rw [swL_len]; exact HRL.out
    have hbz := HBz.out
    clear k1 k2 k3 kt hd
    gi_wp2
    refine wpIn_noP ?_
    refine region_late2 (F := Fence.wide) (C := fun w' => w' = W.drew) (D := fun w' => w'.cell? ⟨w1.heap.size + 1, 0, none⟩ = some o) 1 3 rfl (by kernel_rfl) (by kernel_rfl) _ (by rfl) (by simp) o (by intro _ _ _ h; exact h) (yieldsD_load (by rfl) _ _ (by rfl) _ Tryz.underlying25 _ (by rfl) o) (fun w' hw => by subst hw; exact c2) rfl ?_
    simp only [List.take_succ_cons, List.take_zero, List.drop_succ_cons, List.drop_zero, Nat.reduceSub, Nat.reduceAdd]
    simp only [Act.put, List.setIfInBounds_toArray, List.set_cons_succ, List.set_cons_zero]
    refine wpQuietIn_nil ?_
    intro w' hw'
    subst hw'
    refine ⟨c2, op_k (fun K hK => ?_)⟩
    refine opIn_row rfl 65 (.tmp 4) rfl w1.heap.size 65 _ ktd (by rfl) 9 9 Tryz.underlying65 (by kernel_rfl) (hK _ _ ?_)
    clear hK K
    refine ⟨c2, op_k (fun K hK => ?_)⟩
    go_simp
    refine ⟨trivial, callsIn_wide.2 ((HPE.out _).mono ?_)⟩
    rintro e w4 ⟨b, rfl, hb4, hge4, hB4'⟩
    refine hK _ _ ?_
    clear hK K
    have d2 : w4.cell? ⟨w1.heap.size + 1, 0, none⟩ = some o := (hB4'.cell (p := ⟨w1.heap.size + 1, 0, none⟩) hl1).trans c2
    refine ⟨d2, op_k (fun K hK => ?_)⟩
    go_simp
    refine ⟨trivial, callsIn_wide.2 ((HRS.out b _ hb4).mono ?_)⟩
    rintro e w5 ⟨v5, rfl, ho5, hg5⟩
    refine hK _ _ ?_
    clear hK K
    have hb4l := hb4.lt
    have e2 : w5.cell? ⟨w1.heap.size + 1, 0, none⟩ = some o := hg5.cell d2 (by show some (w1.heap.size + 1) ≠ some b; intro e; cases e; omega)
    refine ⟨e2, ?_⟩
    rw [HRW.out] at ho5
    have hob : ∀ g, o.ownBlock = some g → g < W.drew.heap.size ∧ g ≠ D := fun g hg => ⟨(own_blk k2d hg).1, fun e => by
      subst e
      rcases k2d.2 with ⟨rfl, _⟩ | ⟨g', cap, cur, rfl, _, hh, _⟩
      · cases hg
      · cases hg
        rw [hdd] at hh; cases hh⟩
    have own4 := own_keep k2d hB4'
    have own5 := own_grown own4 hg5 (.inl fun e => by have := (hob b e).1; omega)
    have hs4 := hB4'.size
    have hs5 := hg5.size
    refine listIn_rows rfl (.tmp 35) (.tmp 38) rfl (W0.heap.size + 2) w4.heap.size o v5 (stL (takM xs)) (swL (rwM xs)) (by rfl) (by rfl) own5 ho5 (by omega) (by omega) ?_
    intro v6 w6 hown6 hg6
    have hd6 : w6.heap[D]? = some (.deferred (some [])) := by
      rw [hg6.block D (by omega) (fun e => (hob D e.symm).2 rfl), hg5.block D (by omega) (fun e => by cases e; omega), hB4'.block D hDl]
      exact hdd
    have hB6 : Below w.heap.size w w6 := ((k3d.trans (hB4'.mono k3d.size)).trans (below_grown hg5 (by omega) (fun g e => by cases e; omega))).trans (below_grown hg6 (by omega) (fun g e => by have := (own_blk own5 e).2; omega))
    have hOWN : w6.ownsRow w.heap.size 58 3 v6 (owS xs).length (scells (owS xs)) := by
      rw [HOW.out]; exact own_more hown6 (by omega)
    clear hown6 hg6 own5 own4 ho5 hg5 hB4' hb4 e2 d2 c2 ktd k2d hdd k3d hob
    gi_wp2
    refine ⟨by simp, .inl ⟨D, _, rfl, run_takeDeferred hd6, ?_⟩⟩
    have hR : ∀ tmps : Array Value, tmps.getD 2 undef = v6 → tmps.getD 3 undef = .bool true → (results Tryz.f9 tmps).run Tryz.prog (w6.putObj D (.deferred none)) = .ok (.tuple #[v6, .bool true]) (w6.putObj D (.deferred none)) := fun tmps h2 h3 => by
      have h2' : tmps[2]?.getD undef = v6 := by simpa using h2
      have h3' : tmps[3]?.getD undef = .bool true := by simpa using h3
      simp [results, Tryz.results9, h2', h3']
    exact ⟨_, hR _ rfl rfl, _, rfl, own_turn hOWN (grownBy_putObj' w6 D _) (fun r e => by cases e; exact ⟨_, hd6, rfl⟩), hB6.trans ⟨rfl, rfl, rfl, by simp [World.putObj], fun k hk => World.putObj_heap_other (by omega)⟩⟩
set_option maxRecDepth 100000 in
set_option maxHeartbeats 4000000 in
theorem imOrderWithSwaps_c (xs : List Mv) (v : Value) (w : World) (hx : RdM w v xs) :
    Calls Tryz.prog 9 #[v] w fun e w' => ∃ v', e = .returned (.tuple #[v', .bool (mvalid xs)]) ∧ w'.ownsRow w.heap.size 58 3 v' (owS xs).length (scells (owS xs)) ∧ Below w.heap.size w w' := by
  rcases Bool.eq_false_or_eq_true (mvalid xs) with hm1 | hm0
  · rw [hm1]; exact imOrderWithSwaps_yes xs (by simpa [mvalid] using hm1) v w hx
  · have h1 : ¬ MV xs := by simpa [mvalid] using hm0
    have HM := Lib.hid hm0
    have HS := Lib.hid (owS_no hm0)
    have HT := Lib.hid (tableOf_no xs h1 v w hx)
    clear h1 hx hm0
    go_enter Tryz.func9, Tryz.ntmps9
    go_wp2_with fail
    refine HT.out.mono ?_
    rintro e w1 ⟨rfl, hb1⟩
    have hs1 := hb1.size
    go_wp2
    go_ret2
    exact ⟨_, by rw [HM.out]; rfl, by rw [HS.out]; exact ⟨rfl, .inl ⟨rfl, rfl⟩⟩, by (repeat' (first | (with_reducible exact Below.refl _ _) | (with_reducible assumption) | (with_reducible refine Below.alloc ?_ ?_ _) | (with_reducible refine Below.drew ?_) | (with_reducible refine Below.setCell ?_ ?_ _) | (with_reducible exact Nat.le_refl _) | omega | ((repeat (first | rewrite [World.size_alloc] | rewrite [World.size_setCell] | rewrite [World.size_drew])); omega) | (simp; omega) | (simp; done)))⟩
end Go.Proofs.YtfedloljhocpgaaGreatDoor
namespace Go.Proofs.YtfedloljhocpgaaGreatDoor
open Go.RowKit Go.PM Go.PW Go.Lib
attribute [local go_sem] Oper.semAt_some

theorem slPrefix_c (t : ByteArray) (c d : UInt8) (h : t.extract 0 1 = ⟨#[d]⟩) (hz : 1 ≤ t.size) (w : World) :
    Calls Tryz.prog 118 #[.string t, .string ⟨#[c]⟩] w fun e w' => e = .returned (.bool (decide (d = c))) ∧ w = w' := by
  have hc1 : (⟨#[c]⟩ : ByteArray).size = 1 := rfl
  have hz1 : (1 : Int) ≤ (t.size : Int) := by omega
  by_cases e : d = c
  · subst e
    have hb : ((⟨#[d]⟩ : ByteArray).toList == (⟨#[d]⟩ : ByteArray).toList) = true := by simp
    go_enter Tryz.func118, Tryz.ntmps118
    go_wp2
    go_ret
    exact ⟨by simp, rfl⟩
  · have hb : ((⟨#[d]⟩ : ByteArray).toList == (⟨#[c]⟩ : ByteArray).toList) = false := by
      rw [beq_str, decide_eq_false_iff_not]
      intro e2
      apply e
      have := congrArg (fun s => s.data.toList) e2
      simpa using this
    have HE := Lib.hid e
    clear e
    go_enter Tryz.func118, Tryz.ntmps118
    go_wp2
    go_ret
    exact ⟨by simp [HE.out], rfl⟩
theorem hasPrefix_c (t : ByteArray) (c d : UInt8) (h : t.extract 0 1 = ⟨#[d]⟩) (hz : 1 ≤ t.size) (w : World) :
    Calls Tryz.prog 58 #[.string t, .string ⟨#[c]⟩] w fun e w' => e = .returned (.bool (decide (d = c))) ∧ w = w' := by
  have HP := Lib.hid (fun W => slPrefix_c t c d h hz W)
  clear h hz
  go_enter Tryz.func58, Tryz.ntmps58
  go_wp2_with (go_at_call 118; refine (HP.out _).mono ?_; rintro e w' ⟨rfl, rfl⟩)
  go_ret
  exact ⟨rfl, rfl⟩
set_option maxRecDepth 100000 in
set_option maxHeartbeats 2000000 in
theorem imWheelsOf_c (xs : List Mv) (v : Value) (w : World) (hx : RdM w v xs) :
    Calls Tryz.prog 14 #[v] w fun e w' => ∃ v', e = .returned (.tuple #[v', .bool (mvalid xs)]) ∧ w'.ownsRow w.heap.size 9 1 v' (wheelsB xs).length (tcells (wheelsB xs)) ∧ Below w.heap.size w w' := by
  by_cases h1 : MV xs
  · have HT := Lib.hid (tableOf_yes xs h1 v w hx)
    have hm1 : mvalid xs = true := by simpa [mvalid] using h1
    have HM := Lib.hid hm1
    have HS := Lib.hid (show wheelsB xs = wheelsT (tabOf xs) 9 from if_pos hm1)
    have HSP := Lib.hid (fun W => wheelsIn_c (tabOf xs) (SV_tab h1) W)
    have HWT : Hid (∀ k, wheelsT (tabOf xs) k = (wheelsF (tabOf xs) k).map txt) := fun _ => rfl
    have HNW : Hid (∀ p, namesW (fun q => decide (hdF (tabOf xs) 9 q = hdF (tabOf xs) 9 p)) = txt (wheelL (tabOf xs) p)) := fun _ => namesW_txt _
    clear h1 hx hm1
    generalize tabOf xs = t at *
    refine (callsIn_wide (n := 5)).1 ?_
    refine callsIn_of_wp_marks Tryz.func14 rfl trivial ?_ rfl
    simp only [Tryz.ntmps14, List.size_toArray, List.length_cons, List.length_nil, Nat.reduceAdd, Nat.reduceSub, Array.replicate_succ, Array.replicate_zero, List.push_toArray, List.append_toArray, List.nil_append, List.cons_append]
    gi_wp2_with fail
    refine ⟨trivial, callsIn_wide.2 (HT.out.mono ?_)⟩
    rintro e w1 ⟨rfl, hb1⟩
    have hs1 := hb1.size
    gi_wp2_with fail
    refine ⟨trivial, callsIn_wide.2 ((HSP.out _).mono ?_)⟩
    rintro e w2 ⟨⟨b, g, dp, rfl, hbge, hA, hF⟩, hb2⟩
    have hb12 := (hb1.alloc hs1 (.cells (tabA t) 65)).trans (hb2.mono (by simp; omega))
    have hs2 := hb12.size
    have hAl := hA.lt
    clear hb2 hb1
    gi_wp2
    obtain ⟨W0, hW0⟩ : ∃ W0 : World, W0 = (w2.alloc (.cells #[.pointer (some ⟨b, 0, none⟩)] 83)).alloc (.cells #[.slice none 0 0] 31) := ⟨_, rfl⟩
    have hS0 : W0.heap.size = w2.heap.size + 2 := by rw [hW0]; simp only [World.size_alloc]
    have hB0 : Below w.heap.size w W0 := by rw [hW0]; (repeat' (first | (with_reducible exact Below.refl _ _) | (with_reducible assumption) | (with_reducible refine Below.alloc ?_ ?_ _) | (with_reducible refine Below.drew ?_) | (with_reducible refine Below.setCell ?_ ?_ _) | (with_reducible exact Nat.le_refl _) | omega | ((repeat (first | rewrite [World.size_alloc] | rewrite [World.size_setCell] | rewrite [World.size_drew])); omega) | (simp; omega) | (simp; done)))
    have hA0 : At W0 b 144 (whA g) := by rw [hW0]; exact (hA.alloc _).alloc _
    have hP0 : At W0 w2.heap.size 83 #[.pointer (some ⟨b, 0, none⟩)] := by rw [hW0]; exact (At.new _ _ _).alloc _
    have hO0 : At W0 (w2.heap.size + 1) 31 #[.slice none 0 0] := by
      rw [hW0]; have := At.new (w2.alloc (.cells #[.pointer (some ⟨b, 0, none⟩)] 83)) 31 #[.slice none 0 0]
      rwa [World.size_alloc] at this
    have HWC := Lib.hid (fun (p : Nat) (hp : p < 9) (W : World) (hW : At W b 144 (whA g)) => show Calls Tryz.prog 57 #[.pointer (some ⟨b, 0, none⟩), .int .i64 p] W fun e w' => e = .returned (.string (txt (wheelL t p))) ∧ Below W.heap.size W w' from by
      have := wheel_c b g _ dp hF p hp W hW
      rwa [HNW.out] at this)
    rw [← hW0]
    clear hW0 hF hA
    refine range_law (F := Fence.wide) (gf := 56) (lf := #[.int .i64 9]) (lb := #[]) rfl (by decide) rfl trivial (fun args w => rfl) (encs := fun p : Nat => #[.int .i64 p]) (xs := List.range 9)
      (below_iter _ _ trivial rfl (by decide)) (fun _ => rfl)
      (fun pre W => ∃ o, At W (w2.heap.size + 1) 31 #[o] ∧ W.ownsRow (W0.heap.size + 2) 9 1 o (wheelsT t pre.length).length (tcells (wheelsT t pre.length)) ∧ At W b 144 (whA g) ∧ At W w2.heap.size 83 #[.pointer (some ⟨b, 0, none⟩)] ∧ Below w.heap.size w W)
      (fun _ _ _ => False) ?own (fun _ => ownFrom_pure _ _) ?start ?a1 ?assign ?body ?done ?stop
    case own =>
      rintro s A A' row ⟨o, k1, k2, k3, k4, k5⟩ hg hr
      exact ⟨o, at_turn' k1 hg (fun r e => (hr r e).2), own_turn' k2 hg (fun r e => (hr r e).2), at_turn' k3 hg (fun r e => (hr r e).2), at_turn' k4 hg (fun r e => (hr r e).2), k5.trans (below_grown hg k5.size (fun g e => by have := (hr g e).1; have := hB0.size; omega))⟩
    case start => exact ⟨_, hO0, ⟨rfl, .inl ⟨rfl, rfl⟩⟩, hA0, hP0, hB0⟩
    case assign =>
      intro l p W Kc hK
      gi_wp2
      exact hK
    case body =>
      clear hO0 hA0 hP0
      rintro l pre p W ⟨o, k1, k2, k3, k4, k5⟩ hp hsz
      obtain ⟨hpl, hp9⟩ := pre_len pre p hp
      rw [hpl] at k2
      have HPL : Hid ((pre ++ [p]).length = p + 1) := by show _ = _; simp [hpl]
      have HWP := Lib.hid (HWC.out p hp9 W k3)
      have hsz2 := txt_size (wheelL t p)
      have hwl := wheelL_len (f := t) p
      obtain ⟨h, hh, hle, hm⟩ := wheelL_head (f := t) hp9
      have hpos : 0 < (wheelL t p).length := List.length_pos_of_mem hm
      have HEXT : Hid ((txt (wheelL t p)).extract 0 1 = ⟨#[ch h]⟩) := by
        show _ = _
        rw [extract_one _ 0 (by omega), txt_list, List.getD_eq_getElem?_getD, List.getElem?_map]
        cases hwl2 : wheelL t p with
        | nil => rw [hwl2] at hm; cases hm
        | cons a l =>
          rw [hwl2] at hh
          simp at hh
          subst hh
          rfl
      have hpf := fun W => hasPrefix_c (txt (wheelL t p)) (ch p) (ch h) HEXT.out (by omega) W
      have hdd : decide (ch h = ch p) = decide (h = p) := by
        rw [decide_eq_decide]
        exact ⟨fun e => ch_inj (by omega) (by omega) e, fun e => by rw [e]⟩
      rw [hdd] at hpf
      have HPF := Lib.hid hpf
      have HNM := Lib.hid (fun W => name_c p hp9 W)
      have HNN : Hid (nm p = ⟨#[ch p]⟩) := (sn_nm p hp9).symm
      have HFW : Hid (firstW t p = decide (1 < (wheelL t p).length ∧ (wheelL t p).head? = some p)) := rfl
      have HY := Lib.hid (wheelsF_yes (f := t) (k := p))
      have HNO := Lib.hid (wheelsF_no (f := t) (k := p))
      have HHH := Lib.hid hh
      have hrl : (wheelsT t p).length ≤ 9 := by
        rw [HWT.out, List.length_map]
        have := wheelsF_len (f := t) p
        omega
      have c4 : W.cell? ⟨w2.heap.size, 0, none⟩ = some (.pointer (some ⟨b, 0, none⟩)) := k4.cell 0
      clear hpl hpf hdd hh hm HWC
      gi_wp2
      refine ⟨trivial, CallsIn.inRound l (callsIn_wide.2 (HWP.out.mono ?_))⟩
      rintro e W2 ⟨rfl, hb2⟩
      have hz2 := hb2.size
      have m1 := k1.keep hb2
      have m2 := own_keep k2 hb2
      have m3 := k3.keep hb2
      have m4 := k4.keep hb2
      have m5 := k5.trans (hb2.mono k5.size)
      have hkf := keepsFrom_below (B := W0.heap.size) hb2
      have hkn := (KeepsNew.below (B := W0.heap.size + 2) hb2).toIn (Nat.le_refl _) (show W0.heap.size + 2 + 0 ≤ W.heap.size by omega)
      clear k1 k2 k3 k4 k5 c4 hb2
      by_cases hone : 1 < (wheelL t p).length
      · by_cases hhp : h = p
        · have hfw : firstW t p = true := by rw [HFW.out, decide_eq_true_eq]; exact ⟨hone, by rw [HHH.out, hhp]⟩
          have HTX : Hid (wheelsT t (p + 1) = wheelsT t p ++ [txt (wheelL t p)]) := by show _ = _; rw [HWT.out, HWT.out, HY.out hfw]; simp
          have HPF2 : Hid (∀ W, Calls Tryz.prog 58 #[.string (txt (wheelL t p)), .string ⟨#[ch p]⟩] W fun e w' => e = .returned (.bool true) ∧ W = w') := by
            have := HPF.out
            rw [show decide (h = p) = true by simpa using hhp] at this
            exact this
          clear hfw hhp
          generalize txt (wheelL t p) = s at *
          generalize wheelsT t p = ys at *
          have hz1 : (1 : Int) < (s.size : Int) := by omega
          gi_wp2
          refine ⟨trivial, CallsIn.inRound l (callsIn_wide.2 ((HNM.out _).mono ?_))⟩
          rintro e wq ⟨rfl, rfl⟩
          rw [HNN.out]
          gi_wp2
          refine ⟨trivial, CallsIn.inRound l (callsIn_wide.2 ((HPF2.out _).mono ?_))⟩
          rintro e wq ⟨rfl, rfl⟩
          have c3 : W2.cell? ⟨w2.heap.size + 1, 0, none⟩ = some o := m1.cell 0
          have hl1 := m1.lt
          have hnw := one_new W2 (.string s) 9
          have hzw := hB0.size
          gi_wp2_with (gi_at_builtin; refine held ?_)
          unfold Held
          refine appIn_str rfl (.tmp 33) (.tmp 35) rfl (W0.heap.size + 2) o ys s ⟨W2.heap.size, 0, none⟩ 1 (by rfl) (by rfl) (own_keep m2 ((Below.refl _ _).alloc (Nat.le_refl _) _)) hnw (by omega) (by simp; omega) ?_
          intro o' W3 hown3 hgrow3
          have j1 : At W3 (w2.heap.size + 1) 31 #[o] := at_grown' (m1.alloc (.cells #[.string s] 9)) hgrow3 (own_box_ne' m2 m1 (by decide))
          have d1 := j1.cell 0
          have d2 := j1.frozen 0
          have hge := own_block_ge m2
          have hK3 : KeepsFrom W0.heap.size W2 W3 := by
            refine ⟨Nat.le_trans (by simp) hgrow3.size, fun x ob hx1 hx2 hx3 => ?_⟩
            have hx4 := (Array.getElem?_eq_some_iff.1 hx2).1
            refine (hgrow3.block x (by simp; omega) (fun e => ?_)).trans ((Below.heap_alloc _ _ _ hx4).trans hx2)
            rcases m2.2 with ⟨rfl, _⟩ | ⟨g, cap, cur, rfl, _, hh, _⟩
            · cases e
            · cases e
              rw [hh] at hx2
              cases hx2
              cases hx3
          have hg3s := hgrow3.size
          have hA3 : At W3 b 144 (whA g) := at_grown' (m3.alloc (.cells #[.string s] 9)) hgrow3 (fun e => by have := hge _ e.symm; omega)
          have hP3 : At W3 w2.heap.size 83 #[.pointer (some ⟨b, 0, none⟩)] := at_grown' (m4.alloc (.cells #[.string s] 9)) hgrow3 (fun e => by have := hge _ e.symm; omega)
          have hB3 : Below w.heap.size w W3 := (m5.alloc m5.size _).trans (below_grown hgrow3 (by have := m5.size; simp; omega) (fun g e => by have := hge g e; omega))
          have hne3 := own_box_ne' hown3 j1 (by decide)
          have hpn : (ys ++ [s]).length = ys.length + 1 := by simp
          rw [hpn] at hown3
          obtain ⟨A3, cap3, rfl, _⟩ := Rd.of_own hown3
          have q1 : At (W3.setCell ⟨w2.heap.size + 1, 0, none⟩ (.slice A3 (ys.length + 1) cap3)) (w2.heap.size + 1) 31 #[.slice A3 (ys.length + 1) cap3] := j1.set 0 _
          have qA := hA3.far (p := ⟨w2.heap.size + 1, 0, none⟩) (by show b ≠ w2.heap.size + 1; omega) (.slice A3 (ys.length + 1) cap3)
          have qP := hP3.far (p := ⟨w2.heap.size + 1, 0, none⟩) (by show w2.heap.size ≠ w2.heap.size + 1; omega) (.slice A3 (ys.length + 1) cap3)
          clear hnw c3 m1 m2 m3 m4 m5 hgrow3 hge
          gi_wp2
          refine ⟨(hkf.trans hK3).trans ((KeepsOthers.setCell _ _ _).from _), KeepsIn.zero (by simp [World.size_setCell] at *; omega), _, q1, ?_, qA, qP, hB3.setCell (by simp; omega) _⟩
          rw [HPL.out, HTX.out, hpn]
          exact hown3.kept (grownBy_setCell' W3 (w2.heap.size + 1) _) (.inr hne3.symm)
        · have hfw : firstW t p = false := by
            rw [HFW.out, decide_eq_false_iff_not]
            rintro ⟨_, h2⟩
            rw [HHH.out] at h2
            exact hhp (Option.some.inj h2)
          have HTX : Hid (wheelsT t (p + 1) = wheelsT t p) := by show _ = _; rw [HWT.out, HWT.out, HNO.out hfw]
          have HPF2 : Hid (∀ W, Calls Tryz.prog 58 #[.string (txt (wheelL t p)), .string ⟨#[ch p]⟩] W fun e w' => e = .returned (.bool false) ∧ W = w') := by
            have := HPF.out
            rw [show decide (h = p) = false by simpa using hhp] at this
            exact this
          clear hfw hhp
          generalize txt (wheelL t p) = s at *
          have hz1 : (1 : Int) < (s.size : Int) := by omega
          gi_wp2
          refine ⟨trivial, CallsIn.inRound l (callsIn_wide.2 ((HNM.out _).mono ?_))⟩
          rintro e wq ⟨rfl, rfl⟩
          rw [HNN.out]
          gi_wp2
          refine ⟨trivial, CallsIn.inRound l (callsIn_wide.2 ((HPF2.out _).mono ?_))⟩
          rintro e wq ⟨rfl, rfl⟩
          gi_wp2
          exact ⟨hkf, hkn, o, m1, by rw [HPL.out, HTX.out]; exact m2, m3, m4, m5⟩
      · have hfw : firstW t p = false := by
          rw [HFW.out, decide_eq_false_iff_not]
          rintro ⟨h1, _⟩; exact hone h1
        have HTX : Hid (wheelsT t (p + 1) = wheelsT t p) := by show _ = _; rw [HWT.out, HWT.out, HNO.out hfw]
        clear hfw
        generalize txt (wheelL t p) = s at *
        have hz1 : ¬ (1 : Int) < (s.size : Int) := by omega
        gi_wp2
        refine ⟨trivial, ?_⟩
        gi_wp2
        refine ⟨trivial, ?_⟩
        gi_wp2
        exact ⟨hkf, hkn, o, m1, by rw [HPL.out, HTX.out]; exact m2, m3, m4, m5⟩
    case done =>
      intro D W hD hI hd
      obtain ⟨o, k1, k2, k3, k4, k5⟩ := hI
      have c3 : W.cell? ⟨w2.heap.size + 1, 0, none⟩ = some o := k1.cell 0
      have hown := own_more k2 (show w.heap.size ≤ W0.heap.size + 2 by have := hB0.size; omega)
      have hzw := hB0.size
      clear k1 k2 k3 k4
      gi_wp2
      refine ⟨by simp, .inl ⟨D, _, rfl, run_takeDeferred hd, ?_⟩⟩
      have hW2 : (W.putObj D (.deferred none)).ownsRow w.heap.size 9 1 o (wheelsB xs).length (tcells (wheelsB xs)) := by
        rw [HS.out]
        exact own_turn' hown (grownBy_putObj' W D _) (fun r e => by cases e; exact ⟨_, hd, rfl⟩)
      have hR : ∀ tmps : Array Value, tmps.getD 2 undef = o → tmps.getD 3 undef = .bool true → (results Tryz.f14 tmps).run Tryz.prog (W.putObj D (.deferred none)) = .ok (.tuple #[o, .bool true]) (W.putObj D (.deferred none)) := fun tmps h2 h3 => by
        have h2' : tmps[2]?.getD undef = o := by simpa using h2
        have h3' : tmps[3]?.getD undef = .bool true := by simpa using h3
        simp [results, Tryz.results14, h2', h3']
      exact ⟨_, hR _ rfl rfl, _, by rw [HM.out], hW2, k5.trans ⟨rfl, rfl, rfl, by simp [World.putObj], fun k hk => World.putObj_heap_other (by have := k5.size; omega)⟩⟩
    case stop =>
      intro _ _ _ _ _ _ hf
      exact hf.elim
  · have hm0 : mvalid xs = false := by simpa [mvalid] using h1
    have HM := Lib.hid hm0
    have HS := Lib.hid (show wheelsB xs = [] from if_neg (by rw [hm0]; decide))
    have HT := Lib.hid (tableOf_no xs h1 v w hx)
    clear h1 hx hm0
    go_enter Tryz.func14, Tryz.ntmps14
    go_wp2_with fail
    refine HT.out.mono ?_
    rintro e w1 ⟨rfl, hb1⟩
    have hs1 := hb1.size
    go_wp2
    go_ret2
    exact ⟨_, by rw [HM.out]; rfl, by rw [HS.out]; exact ⟨rfl, .inl ⟨rfl, rfl⟩⟩, by (repeat' (first | (with_reducible exact Below.refl _ _) | (with_reducible assumption) | (with_reducible refine Below.alloc ?_ ?_ _) | (with_reducible refine Below.drew ?_) | (with_reducible refine Below.setCell ?_ ?_ _) | (with_reducible exact Nat.le_refl _) | omega | ((repeat (first | rewrite [World.size_alloc] | rewrite [World.size_setCell] | rewrite [World.size_drew])); omega) | (simp; omega) | (simp; done)))⟩
end Go.Proofs.YtfedloljhocpgaaGreatDoor
namespace Go.PM
open Go.RowKit
variable {F : Fence} {n : Nat} {P : Program}
def IterP {α : Type} (Pr : World → Prop) (κ : Nat) (F : Fence) (n : Nat) (P : Program) (gf : Nat) (mk : Value → Array Value) (encs : α → Array Value) (xs : List α) : Prop :=
  ∀ (l : Nat) (J Jx : List α → World → Prop) (W : World),
    OwnFrom W.heap.size J → OwnFrom W.heap.size Jx → (∀ pre A, J pre A → Pr A) →
    (∀ pre x A, J pre A → W.heap.size + κ ≤ A.heap.size → pre ++ [x] <+: xs → YieldAt F (n - 1) P l (encs x) A fun e A' =>
      (e = .returned (.bool true) ∧ J (pre ++ [x]) A' ∧ KeepsIn W.heap.size κ A A' ∧ KeepsFrom W.heap.size A A') ∨ (e = .returned (.bool false) ∧ Jx (pre ++ [x]) A' ∧ A.heap.size ≤ A'.heap.size ∧ KeepsFrom W.heap.size A A')) →
    J [] W →
    CallsIn F n P gf (mk (.func (.yield l) #[] #[])) W fun e W' => (∃ v, e = .returned v) ∧ (J xs W' ∨ ∃ pre, pre <+: xs ∧ Jx pre W')
theorem range_law3 {α : Type} {Pr : World → Prop} {g : Operand} {ps : Array Tmp} {assign body : Code} {Q : Exit → Act → World → Prop} {a : Act} {w : World} (hro : F.round = none) (h1 : 1 ≤ n)
    {gf : Nat} {lf lb : Array Value} (hg : a.eval g = .func (.func gf) lf lb) (hFg : F.fn gf) (eg : ∀ args w, (callFunc gf args).run P w = .ok (.enter gf args) w)
    {encs : α → Array Value} {xs : List α} {κ : Nat} (hit : IterP Pr κ F (n - 1) P gf (fun y => lf ++ #[y] ++ lb) encs xs) (hps : ∀ x, (encs x).size = ps.size)
    (I : List α → World → Prop) (Ix : Code → List α → World → Prop) (hPr : ∀ pre A, I pre A → Pr A) (hI : OwnFrom w.heap.size I) (hIx : ∀ c, OwnFrom w.heap.size (Ix c)) (h0 : I [] w) (Ax : α → Act → World → Prop) (hAx : ∀ x a', OwnFrom w.heap.size (fun (_ : Unit) W => Ax x a' W))
    (hassign : ∀ (l : Nat) (pre : List α) (x : α) (W : World) (K : Act → World → Prop), I pre W → pre ++ [x] <+: xs → w.heap.size + 2 + κ ≤ W.heap.size → (∀ a' W', KeepsNew w.heap.size W W' → I pre W' → Ax x a' W' → K a' W') →
      assign.wpIn (F.inRound l) (n - 1 - 1) P (Exit.then K (fun _ _ _ => False)) { tmps := (ps.zip (encs x)).foldl (fun t (p, v) => t.setIfInBounds p v) a.tmps, defers := [] } W)
    (hbody : ∀ (l : Nat) (pre : List α) (x : α) (a' : Act) (W : World), I pre W → Ax x a' W → pre ++ [x] <+: xs → w.heap.size + 2 + κ ≤ W.heap.size → body.wpIn (F.inRound l) (n - 1 - 1) P (ownPostG w.heap.size (KeepsIn (w.heap.size + 2) κ) I Ix (pre ++ [x]) W) a' W)
    (hdone : ∀ (D : Nat) (W : World), w.heap.size ≤ D → I xs W → W.heap[D]? = some (.deferred (some [])) → Q .normal { a with defers := { target := .collected D, args := #[] } :: a.defers } W)
    (hstop : ∀ (D : Nat) (c : Code) (pre : List α) (W : World), w.heap.size ≤ D → pre <+: xs → Ix c pre W → W.heap[D]? = some (.deferred (some [])) → c.wpIn F n P Q { a with defers := { target := .collected D, args := #[] } :: a.defers } W) :
    (Code.rangeFunc g ps assign body).wpIn F n P Q a w := by
  refine wpIn_rangeFunc fun fn hfn => ?_
  rw [hro]
  have key : ∃ rc : LoopState → Option Code → Loop, rc = fun s j => { state := s, pending := j, fn, tmps := a.tmps, params := ps, assign, body, defers := w.heap.size } := ⟨_, rfl⟩
  obtain ⟨rc, hrc⟩ := key
  let V := (w.alloc (.deferred (some []))).alloc (.loop (rc .ready none))
  -- the two blocks of book-keeping, and that the caller's own facts outlast what is done to them
  let Bk : LoopState → Option Code → World → Prop := fun s j A => A.heap[w.heap.size + 1]? = some (.loop (rc s j)) ∧ A.heap[w.heap.size]? = some (.deferred (some []))
  have bkput : ∀ {s j s' j' A}, Bk s j A → Bk s' j' (A.putObj (w.heap.size + 1) (.loop (rc s' j'))) := fun h =>
    ⟨World.putObj_heap_same (Array.getElem?_eq_some_iff.1 h.1).1, (World.putObj_heap_other (by omega)).trans h.2⟩
  have hVs : V.heap.size = w.heap.size + 2 := by simp [V, World.size_alloc]
  have bknew : ∀ {s j A A' row}, Bk s j A → A.grownBy A' row → (∀ r, row = some r → V.heap.size ≤ r ∧ ∃ o : Obj, A.heap[r]? = some o ∧ o.isCells = false) → Bk s j A' := fun h hg' hr =>
    ⟨(hg'.block _ (Array.getElem?_eq_some_iff.1 h.1).1 (fun e => by have := (hr _ e.symm).1; omega)).trans h.1, (hg'.block _ (Array.getElem?_eq_some_iff.1 h.2).1 (fun e => by have := (hr _ e.symm).1; omega)).trans h.2⟩
  have hV : Bk .ready none V := by
    refine ⟨?_, ?_⟩
    · have := World.alloc_heap_new (w.alloc (.deferred (some []))) (.loop (rc .ready none)); rwa [World.size_alloc] at this
    · exact (Below.heap_alloc _ _ _ (by simp)).trans (World.alloc_heap_new w _)
  have hIV : I [] V := hI.alloc _ (hI.alloc _ h0)
  refine ⟨w.heap.size + 1, [{ target := .collected w.heap.size, args := #[] }], V, { target := .fn (.func gf) lb, args := lf ++ #[.func (.yield (w.heap.size + 1)) #[] #[]] }, V, gf,
    lf ++ #[.func (.yield (w.heap.size + 1)) #[] #[]] ++ lb, V, ?_, ?_, ?_, ?_, fun _ => h1, ?_⟩
  · have := run_enterLoop_outer (P := P) (w := w) fn a.tmps ps assign body
    rw [this]; simp only [V, hrc]
  · simp only [resolve, hg]
    simp [go_sem]
  · intro f' hf'
    simp [Target.leads] at hf'
    subst hf'; exact hFg
  · simp [invoke, go_sem, eg]
  refine (hit (w.heap.size + 1) (fun pre A => I pre A ∧ Bk .ready none A) (fun pre A => ∃ c, Ix c pre A ∧ Bk .done (some c) A) V
    (fun pre A A' row h hg' hr => ⟨hI pre A A' row h.1 hg' (fun r e => ⟨by have := (hr r e).1; omega, (hr r e).2⟩), bknew h.2 hg' hr⟩)
    (fun pre A A' row ⟨c, h, hb⟩ hg' hr => ⟨c, hIx c pre A A' row h hg' (fun r e => ⟨by have := (hr r e).1; omega, (hr r e).2⟩), bknew hb hg' hr⟩) (fun pre A h => hPr pre A h.1) ?_ ⟨hIV, hV⟩).mono ?_
  · rintro pre x A ⟨hi, hb⟩ hsz hpx
    have hy := run_yield (P := P) (args := encs x) hb.1 (by rw [hrc]; exact hps x)
    rw [hrc] at hy
    refine ⟨fn, _, assign, body, hy, roundIn_of_wpIn hfn (hassign _ pre x A _ hi hpx (by omega) ?_)⟩
    intro a' Wa hkn hia hax
    have hlt := (Array.getElem?_eq_some_iff.1 hb.1).1
    replace hb : Bk .ready none Wa := ⟨(hkn.same _ (by omega) hlt).trans hb.1, (hkn.same _ (Nat.le_refl _) (by omega)).trans hb.2⟩
    clear hy hi
    refine ⟨_, run_beginRound hb.1 (by rw [hrc]), ?_⟩
    have hknV : KeepsIn V.heap.size κ A Wa := hkn.toIn (by omega) hsz
    have hkfV : KeepsFrom V.heap.size A Wa := (hkn.mono (by omega)).from
    have hszA : A.heap.size ≤ Wa.heap.size := hkn.size
    replace hsz := Nat.le_trans hsz hszA
    clear hkn
    revert hknV hkfV hszA
    generalize A = A0
    intro hknV hkfV hszA
    obtain ⟨A, rfl⟩ : ∃ A, A = Wa := ⟨_, rfl⟩
    have hb2 : Bk .busy none (A.putObj (w.heap.size + 1) (.loop (rc .busy none))) := bkput hb
    have e2 : ({ rc .ready none with state := .busy } : Loop) = rc .busy none := by rw [hrc]
    rw [e2]
    refine wpIn_mono (hbody _ pre x a' _ (hI.putObj _ hia (by omega) hb.1 rfl) ((hAx x a').putObj (s := ()) _ hax (by omega) hb.1 rfl) hpx (by simp [World.putObj]; omega)) ?_
    have fin : ∀ (j : Option Code) (C : World), KeepsFrom w.heap.size (A.putObj (w.heap.size + 1) (.loop (rc .busy none))) C →
        (Instr.endRound (w.heap.size + 1) j).run P C = .ok (.bool j.isNone) (C.putObj (w.heap.size + 1) (.loop (rc (if j.isNone then .ready else .done) j))) ∧ Bk .busy none C := fun j C hk => by
      have h1 := hk.same _ _ (by omega) hb2.1 rfl
      have h2 := hk.same _ _ (Nat.le_refl _) hb2.2 rfl
      have h3 := run_endRound (P := P) j h1
      refine ⟨?_, h1, h2⟩
      rw [h3]; rw [hrc]
    have kfin : ∀ (o : Obj) (C : World), KeepsFrom w.heap.size (A.putObj (w.heap.size + 1) (.loop (rc .busy none))) C → KeepsFrom V.heap.size A0 (C.putObj (w.heap.size + 1) o) := fun o C hk => by
      refine hkfV.trans ?_
      refine ⟨by have := hk.size; simp [World.putObj] at this ⊢; omega, fun k x hk1 hk2 hk3 => ?_⟩
      rw [World.putObj_heap_other (by omega)]
      exact hk.same k x (by omega) (by rw [World.putObj_heap_other (by omega)]; exact hk2) hk3
    rintro e a3 C hp
    cases e with
    | normal =>
      obtain ⟨hk, hkn, hi3⟩ := hp
      obtain ⟨hr, hb3⟩ := fin none C hk
      refine ⟨_, _, hr, .inl ⟨rfl, ⟨hI.putObj _ hi3 (by omega) hb3.1 rfl, bkput hb3⟩, ?_, kfin _ C hk⟩⟩
      refine ⟨by have := hkn.size; simp [World.putObj] at this ⊢; omega, fun k hk1 hk2 => ?_⟩
      rw [World.putObj_heap_other (by omega), hkn.same k (by omega) (by omega), World.putObj_heap_other (by omega)]
      exact hknV.same k hk1 hk2
    | ret =>
      obtain ⟨hk, hi3⟩ := hp
      obtain ⟨hr, hb3⟩ := fin (some .ret) C hk
      exact ⟨_, _, hr, .inr ⟨rfl, ⟨.ret, (hIx _).putObj _ hi3 (by omega) hb3.1 rfl, bkput hb3⟩, by have := hk.size; simp [World.putObj] at this ⊢; omega, kfin _ C hk⟩⟩
    | exit id =>
      obtain ⟨hk, hi3⟩ := hp
      obtain ⟨hr, hb3⟩ := fin (some (.exit id)) C hk
      exact ⟨_, _, hr, .inr ⟨rfl, ⟨.exit id, (hIx _).putObj _ hi3 (by omega) hb3.1 rfl, bkput hb3⟩, by have := hk.size; simp [World.putObj] at this ⊢; omega, kfin _ C hk⟩⟩
    | goto t =>
      obtain ⟨hk, hi3⟩ := hp
      obtain ⟨hr, hb3⟩ := fin (some (.goto t)) C hk
      exact ⟨_, _, hr, .inr ⟨rfl, ⟨.goto t, (hIx _).putObj _ hi3 (by omega) hb3.1 rfl, bkput hb3⟩, by have := hk.size; simp [World.putObj] at this ⊢; omega, kfin _ C hk⟩⟩
    | panic ch => exact hp.elim
    | outgrown => exact hp.elim
  · rintro e C ⟨⟨v, rfl⟩, (⟨hi, hb⟩ | ⟨pre, hp, c, hi, hb⟩)⟩
    · have h3 := run_endLoop (P := P) hb.1 (by rw [hrc]; simp)
      refine ⟨none, _, by rw [h3, hrc], hdone _ _ (Nat.le_refl _) (hI.putObj _ hi (by omega) hb.1 rfl) ((World.putObj_heap_other (by omega)).trans hb.2)⟩
    · have h3 := run_endLoop (P := P) hb.1 (by rw [hrc]; simp)
      refine ⟨some c, _, by rw [h3, hrc], hstop _ c pre _ (Nat.le_refl _) hp ((hIx c).putObj _ hi (by omega) hb.1 rfl) ((World.putObj_heap_other (by omega)).trans hb.2)⟩
end Go.PM
namespace Go.PM
open Go.RowKit
def leftV : Value → Value → Nat
  | .string s, .bool true => s.size + 1
  | _, _ => 0
end Go.PM
namespace Go.Proofs.YtfedloljhocpgaaGreatDoor
open Go.RowKit Go.PM

set_option maxRecDepth 100000 in
set_option maxHeartbeats 1600000 in
theorem parts_iter (t : ByteArray) (c : UInt8) (b1 b2 n : Nat) (ht : t.size ≤ 1048576) (hn : 1 ≤ n) :
    IterP (fun A => At A b1 9 #[.string t] ∧ At A b2 9 #[.string ⟨#[c]⟩]) 0 Fence.wide n Tryz.prog 327 (fun y => #[] ++ #[y] ++ #[.pointer (some ⟨b1, 0, none⟩), .pointer (some ⟨b2, 0, none⟩)]) (fun s : ByteArray => #[.string s]) (pcsB c t) := by
  intro l J Jx W hJ hJx hP hY h0
  obtain ⟨hA1, hA2⟩ := hP _ _ h0
  have c1 : W.cell? ⟨b1, 0, none⟩ = some (.string t) := hA1.cell 0
  have c2 : W.cell? ⟨b2, 0, none⟩ = some (.string ⟨#[c]⟩) := hA2.cell 0
  have HC := Lib.hid (fun s W hs => strCut_c s c W hs)
  have HB := Lib.hid (fun s => pcsB_cut c s)
  have HZ := Lib.hid (fun s => cutB_size c s)
  have HL := Lib.hid (fun s h => cutB_less c s h)
  refine callsIn_of_wp Tryz.func327 rfl trivial ?_ rfl
  simp only [Tryz.ntmps327, List.size_toArray, List.length_cons, List.length_nil, Nat.reduceAdd, Nat.reduceSub, Array.replicate_succ, Array.replicate_zero, List.push_toArray, List.append_toArray, List.nil_append, List.cons_append]
  gi_wp2_with fail
  refine ⟨trivial, callsIn_wide.2 ((HC.out t _ ht).mono ?_)⟩
  rintro e w1 ⟨rfl, hb1⟩
  have h1 := HB.out t
  have hz1 := HZ.out t
  have hJ1 : J [] w1 := hJ _ _ _ none h0 (grown_below hb1 none) (fun r e => by cases e)
  have hs1 := hb1.size
  clear c1 c2 hA1 hA2 h0
  gi_wp2
  gi_loopw [4, 5, 6] (fun part rest more wr => ∃ (pre : List ByteArray) (p r : ByteArray) (m : Bool), part = .string p ∧ rest = .string r ∧ more = .bool m ∧ Hid (pre ++ (if m then p :: pcsB c r else [p]) = pcsB c t) ∧ r.size ≤ 1048576 ∧ J pre wr ∧ W.heap.size ≤ wr.heap.size) (fun _ r m _ => leftV r m)
  case atStart =>
    refine ⟨[], _, _, _, rfl, rfl, rfl, ?_, by omega, hJ1, hs1⟩
    show _ = _
    rw [h1, List.nil_append]
  case round =>
    obtain ⟨pre, p, r, m, rfl, rfl, rfl, hpr, hr, hj, hsz⟩ := hrel
    have hpre : pre ++ [p] <+: pcsB c t := by
      rw [← hpr.out]
      cases m
      · exact List.prefix_refl _
      · exact ⟨pcsB c r, by simp⟩
    obtain ⟨fn, tmps, assign, body, hy, hR⟩ := hY pre p wr hj hsz hpre
    cases m with
    | false =>
      have hx : pre ++ [p] = pcsB c t := hpr.out
      gi_wp2
      refine hR.mono ?_
      rintro e W3 (⟨rfl, hJ3, hK3, _⟩ | ⟨rfl, hJx3, _⟩)
      · rw [hx] at hJ3
        gi_wp2
        go_end0
        exact ⟨⟨_, rfl⟩, .inl hJ3⟩
      · gi_wp2
        go_end0
        exact ⟨⟨_, rfl⟩, .inr ⟨_, hpre, hJx3⟩⟩
    | true =>
      gi_wp2
      refine hR.mono ?_
      rintro e W3 (⟨rfl, hJ3, hK3, _⟩ | ⟨rfl, hJx3, _⟩)
      · have hsz3 := Nat.le_trans hsz hK3.size
        obtain ⟨_, hA2⟩ := hP _ _ hJ3
        have c2 : W3.cell? ⟨b2, 0, none⟩ = some (.string ⟨#[c]⟩) := hA2.cell 0
        have hpx : Hid ((pre ++ [p]) ++ pcsB c r = pcsB c t) := by show _ = _; rw [← hpr.out]; simp
        have hb := HB.out r
        have hzr := HZ.out r
        have hlr := HL.out r
        have hcr := Lib.hid (HC.out r W3 hr)
        generalize cutB r c = q at *
        obtain ⟨p2, r2, m2⟩ := q
        simp only at *
        gi_wp2_with fail
        refine ⟨trivial, callsIn_wide.2 (hcr.out.mono ?_)⟩
        rintro e w4 ⟨rfl, hb4⟩
        have hJ4 : J (pre ++ [p]) w4 := hJ _ _ _ none hJ3 (grown_below hb4 none) (fun r e => by cases e)
        have hs4 := hb4.size
        gi_wp2
        go_roundw
        case rel => exact ⟨pre ++ [p], p2, r2, m2, rfl, rfl, rfl, by show _ = _; rw [← hpx.out, hb], by omega, hJ4, by omega⟩
        case measure =>
          cases m2
          · show 0 < r.size + 1; omega
          · have := hlr rfl
            show r2.size + 1 < r.size + 1
            omega
      · gi_wp2
        go_end0
        exact ⟨⟨_, rfl⟩, .inr ⟨_, hpre, hJx3⟩⟩
end Go.Proofs.YtfedloljhocpgaaGreatDoor
namespace Go.PM
open Go.RowKit
open Go.Lib (indexByte)
def cutM (x : ByteArray) : Mv := ((cutB x 61).1, (cutB x 61).2.1)
theorem cutM_good (x : ByteArray) (h1 : pOk x = true) (h2 : mok (pM x) = true) : cutM x = pM x := by
  have h3 : x.size = 3 := by
    rcases Nat.decEq x.size 3 with h | h
    · rw [pOk_size h] at h1; cases h1
    · exact h
  obtain ⟨a, e, c, rfl⟩ := three_of_size h3
  have he : e = 61 := by simpa [pOk] using h1
  subst he
  have ha : isP ⟨#[a]⟩ = true := by
    unfold mok at h2; rw [Bool.and_eq_true] at h2
    exact h2.1
  have hne : ¬ a = 61 := by
    intro e
    subst e
    revert ha
    decide +kernel
  have hi : indexByte (ByteArray.mk #[a, 61, c]).data.toList 61 = 1 := by
    show indexByte ([a] ++ 61 :: [c]) 61 = 1
    rw [ix_some 61 [a] [c] (by simp; exact fun h => hne h.symm)]
    rfl
  unfold cutM cutB
  rw [hi, if_pos (by decide)]
  rfl
theorem cutM_ok (x : ByteArray) (h : mok (cutM x) = true) : pOk x = true ∧ mok (pM x) = true := by
  have hm := h
  unfold mok at h; rw [Bool.and_eq_true] at h
  obtain ⟨hp, hs⟩ := h
  have s1 := isP_size hp
  have s2 := isS_size hs
  by_cases hi : 0 ≤ indexByte x.data.toList 61
  · have hB : cutB x 61 = (x.extract 0 (indexByte x.data.toList 61).toNat, x.extract ((indexByte x.data.toList 61).toNat + 1) x.size, true) := if_pos hi
    have hmem := (indexByte_mem _ _).1 hi
    have hlt := ixB_lt x.data.toList 61
    rw [size_data] at hlt
    unfold cutM at s1 s2 hm
    rw [hB] at s1 s2 hm
    simp only [ByteArray.size_extract] at s1 s2
    have h3 : x.size = 3 := by omega
    have hk : (indexByte x.data.toList 61).toNat = 1 := by omega
    rw [hk] at hm
    obtain ⟨l1, l2, e, hn⟩ := split_at 61 _ hmem
    have hl : l1.length = 1 := by
      have := ix_some 61 l1 l2 hn
      rw [← e] at this
      omega
    obtain ⟨a, b, c, rfl⟩ := three_of_size h3
    match l1, hl with
    | [a'], _ =>
      have e' : [a, b, c] = a' :: 61 :: l2 := e
      have hb : b = 61 := by simp at e'; exact e'.2.1
      subst hb
      exact ⟨rfl, hm⟩
  · have hB : cutB x 61 = (x, ⟨#[]⟩, false) := if_neg hi
    unfold cutM at s2
    rw [hB] at s2
    cases s2
theorem map_good {ps : List ByteArray} (h : ∀ x ∈ ps, pOk x = true ∧ mok (pM x) = true) : ps.map cutM = ps.map pM :=
  List.map_congr_left fun x hx => cutM_good x (h x hx).1 (h x hx).2
theorem MV_cut (ps : List ByteArray) : MV (ps.map cutM) ↔ ps.all pOk = true ∧ MV (ps.map pM) := by
  constructor
  · intro h
    have h2 : ∀ x ∈ ps, pOk x = true ∧ mok (pM x) = true := fun x hx => cutM_ok x (h.1 _ (List.mem_map.2 ⟨x, hx, rfl⟩))
    refine ⟨List.all_eq_true.2 fun x hx => (h2 x hx).1, ?_⟩
    rw [← map_good h2]; exact h
  · rintro ⟨h1, h2⟩
    have h3 : ∀ x ∈ ps, pOk x = true ∧ mok (pM x) = true := fun x hx => ⟨List.all_eq_true.1 h1 x hx, h2.1 _ (List.mem_map.2 ⟨x, hx, rfl⟩)⟩
    rw [map_good h3]; exact h2
theorem prs_cut {t : ByteArray} (h0 : ¬ t = ⟨#[45]⟩) : prsOk t = mvalid ((pcsB 44 t).map cutM) ∧ prsM t = if mvalid ((pcsB 44 t).map cutM) then (pcsB 44 t).map cutM else [] := by
  have e1 : prsOk t = ((cutP t 44).all pOk && mvalid (prsL t)) := by rw [prsOk, decide_eq_false h0]; rfl
  have e2 : prsM t = if (cutP t 44).all pOk && mvalid (prsL t) then prsL t else [] := if_neg h0
  have e3 : ((cutP t 44).all pOk && mvalid (prsL t)) = mvalid ((pcsB 44 t).map cutM) := by
    rw [Bool.eq_iff_iff, Bool.and_eq_true]
    simp only [mvalid, decide_eq_true_eq]
    rw [MV_cut, prsL, cutP_pcs]
  rw [e1, e2, e3]
  refine ⟨rfl, ?_⟩
  by_cases h : mvalid ((pcsB 44 t).map cutM) = true
  · rw [if_pos h, if_pos h]
    have h2 : MV ((pcsB 44 t).map cutM) := by simpa [mvalid] using h
    have h3 : ∀ x ∈ pcsB 44 t, pOk x = true ∧ mok (pM x) = true := fun x hx => cutM_ok x (h2.1 _ (List.mem_map.2 ⟨x, hx, rfl⟩))
    rw [map_good h3, prsL, cutP_pcs]
  · rw [if_neg h, if_neg h]
theorem MV_prefix {a b : List Mv} (h : a <+: b) (hb : MV b) : MV a := by
  obtain ⟨c, rfl⟩ := h
  have := MV_take hb a.length
  rwa [List.take_left] at this
end Go.PM
namespace Go.PM
open Go.RowKit
theorem pcs_mem {t x : ByteArray} {pre : List ByteArray} (h : pre ++ [x] <+: pcsB 44 t) : x.size ≤ t.size := by
  have : x ∈ pcsB 44 t := h.mem (List.mem_append_right _ (List.mem_singleton_self x))
  rw [← cutP_pcs] at this
  exact cutP_size this
theorem tabC_one (f : Nat → ByteArray) : (tabC f).all (·.oneCell') = true := by simp [tabC, Value.oneCell']
theorem kf_grown {B : Nat} {A A' : World} {row : Option Nat} (hg : A.grownBy A' row) (hr : ∀ g o, row = some g → B ≤ g → A.heap[g]? = some o → o.isCells = true) : KeepsFrom B A A' :=
  ⟨hg.size, fun k o hk h1 h2 => (hg.block k (Array.getElem?_eq_some_iff.1 h1).1 (fun e => by have := hr k o e.symm hk h1; rw [h2] at this; cases this)).trans h1⟩
theorem own_cells {w : World} {base : Nat} {e : TypeId} {size n : Nat} {v : Value} {cs : List Value} (h : w.ownsRow base e size v n cs) : ∀ g o, v.ownBlock = some g → w.heap[g]? = some o → o.isCells = true := by
  intro g o e1 e2
  rcases h.2 with ⟨rfl, _⟩ | ⟨g2, cap, cur, rfl, _, hh, _⟩
  · cases e1
  · cases e1
    rw [hh] at e2
    cases e2
    rfl
end Go.PM
namespace Go.Proofs.YtfedloljhocpgaaGreatDoor
open Go.RowKit Go.PM
attribute [local go_sem] Oper.semAt_some

theorem partsOf_c (t s : ByteArray) (w : World) :
    Calls Tryz.prog 290 #[.string t, .string s] w fun e w' => e = .returned (.func (.func 327) #[] #[.pointer (some ⟨w.heap.size, 0, none⟩), .pointer (some ⟨w.heap.size + 1, 0, none⟩)]) ∧ At w' w.heap.size 9 #[.string t] ∧ At w' (w.heap.size + 1) 9 #[.string s] ∧ Below w.heap.size w w' := by
  go_enter Tryz.func290, Tryz.ntmps290
  go_wp2
  go_ret
  refine ⟨rfl, (At.new _ _ _).alloc _, ?_, by (repeat' (first | (with_reducible exact Below.refl _ _) | (with_reducible assumption) | (with_reducible refine Below.alloc ?_ ?_ _) | (with_reducible refine Below.drew ?_) | (with_reducible refine Below.setCell ?_ ?_ _) | (with_reducible exact Nat.le_refl _) | omega | ((repeat (first | rewrite [World.size_alloc] | rewrite [World.size_setCell] | rewrite [World.size_drew])); omega) | (simp; omega) | (simp; done)))⟩
  have := At.new (w.alloc (.cells #[.string t] 9)) 9 #[.string s]
  rwa [World.size_alloc] at this
theorem results_prs (W : World) (b1 b2 : Nat) (v b : Value) (h1 : At W b1 23 #[v]) (h2 : At W b2 4 #[b]) (tmps : Array Value) (e1 : tmps.getD 2 undef = .pointer (some ⟨b1, 0, none⟩)) (e2 : tmps.getD 3 undef = .pointer (some ⟨b2, 0, none⟩)) :
    (results Tryz.f227 tmps).run Tryz.prog W = .ok (.tuple #[v, b]) W := by
  have q1 : W.cell? ⟨b1, 0, none⟩ = some v := h1.cell 0
  have q2 : W.cell? ⟨b2, 0, none⟩ = some b := h2.cell 0
  have e1' : tmps[2]?.getD undef = .pointer (some ⟨b1, 0, none⟩) := by simpa using e1
  have e2' : tmps[3]?.getD undef = .pointer (some ⟨b2, 0, none⟩) := by simpa using e2
  simp [results, Tryz.results227, go_sem, e1', e2', q1, q2]
set_option maxRecDepth 100000 in
set_option maxHeartbeats 3200000 in
theorem imParseMoves_c (t : ByteArray) (w : World) (ht : t.size ≤ 1048576) :
    Calls Tryz.prog 227 #[.string t] w fun e w' => ∃ v', e = .returned (.tuple #[v', .bool (prsOk t)]) ∧ w'.ownsRow w.heap.size 56 2 v' (prsM t).length (mcells (prsM t)) ∧ Below w.heap.size w w' := by
  have hd45 : (t.toList == [45]) = decide (t = ⟨#[45]⟩) := by
    have e : (ByteArray.mk #[45]).toList = [45] := by rw [ByteArray.toList_eq]
    have h := beq_str t ⟨#[45]⟩
    rw [e] at h; exact h
  by_cases h0 : t = ⟨#[45]⟩
  · have HK : Hid (prsOk t = true) := by show _ = _; rw [prsOk, decide_eq_true h0]; rfl
    have HM : Hid (prsM t = []) := if_pos h0
    rw [decide_eq_true h0] at hd45
    clear h0
    go_enter Tryz.func227, Tryz.ntmps227
    go_wp2
    refine bodyPost_ret (results_prs _ w.heap.size (w.heap.size + 1) (.slice none 0 0) (.bool true) ((At.new _ _ _).alloc _) ?_ _ rfl rfl) rfl ⟨_, by rw [HK.out], by rw [HM.out]; exact ⟨rfl, .inl ⟨rfl, rfl⟩⟩, by (repeat' (first | (with_reducible exact Below.refl _ _) | (with_reducible assumption) | (with_reducible refine Below.alloc ?_ ?_ _) | (with_reducible refine Below.drew ?_) | (with_reducible refine Below.setCell ?_ ?_ _) | (with_reducible exact Nat.le_refl _) | omega | ((repeat (first | rewrite [World.size_alloc] | rewrite [World.size_setCell] | rewrite [World.size_drew])); omega) | (simp; omega) | (simp; done)))⟩
    have := At.new (w.alloc (.cells #[.slice none 0 0] 23)) 4 #[.bool true]
    rwa [World.size_alloc] at this
  · have HPC := Lib.hid (prs_cut h0)
    rw [decide_eq_false h0] at hd45
    clear h0
    refine (callsIn_wide (n := 5)).1 ?_
    refine callsIn_of_wp_marks Tryz.func227 rfl trivial ?_ rfl
    simp only [Tryz.ntmps227, List.size_toArray, List.length_cons, List.length_nil, Nat.reduceAdd, Nat.reduceSub, Array.replicate_succ, Array.replicate_zero, List.push_toArray, List.append_toArray, List.nil_append, List.cons_append]
    gi_wp2_with fail
    obtain ⟨W4, hW4⟩ : ∃ W4 : World, W4 = (((w.alloc (.cells #[.slice none 0 0] 23)).alloc (.cells #[.bool false] 4)).alloc (.cells #[.slice none 0 0] 23)).alloc (.cells zA 65) := ⟨_, rfl⟩
    have hS4 : W4.heap.size = w.heap.size + 1 + 1 + 1 + 1 := by rw [hW4]; simp only [World.size_alloc]
    have hB4 : Below w.heap.size w W4 := by rw [hW4]; (repeat' (first | (with_reducible exact Below.refl _ _) | (with_reducible assumption) | (with_reducible refine Below.alloc ?_ ?_ _) | (with_reducible refine Below.drew ?_) | (with_reducible refine Below.setCell ?_ ?_ _) | (with_reducible exact Nat.le_refl _) | omega | ((repeat (first | rewrite [World.size_alloc] | rewrite [World.size_setCell] | rewrite [World.size_drew])); omega) | (simp; omega) | (simp; done)))
    have x0 : At W4 w.heap.size 23 #[.slice none 0 0] := by rw [hW4]; exact (((At.new _ _ _).alloc _).alloc _).alloc _
    have x1 : At W4 (w.heap.size + 1) 4 #[.bool false] := by
      rw [hW4]
      have := At.new (w.alloc (.cells #[.slice none 0 0] 23)) 4 #[.bool false]
      rw [World.size_alloc] at this
      exact (this.alloc _).alloc _
    have x2 : At W4 (w.heap.size + 1 + 1) 23 #[.slice none 0 0] := by
      rw [hW4]
      have := At.new ((w.alloc (.cells #[.slice none 0 0] 23)).alloc (.cells #[.bool false] 4)) 23 #[.slice none 0 0]
      simp only [World.size_alloc] at this
      exact this.alloc _
    have x3 : At W4 (w.heap.size + 1 + 1 + 1) 65 (tabC fun _ => emp) := by
      rw [hW4]
      have := At.new (((w.alloc (.cells #[.slice none 0 0] 23)).alloc (.cells #[.bool false] 4)).alloc (.cells #[.slice none 0 0] 23)) 65 zA
      simp only [World.size_alloc] at this
      exact this
    rw [← hW4]
    refine ⟨trivial, callsIn_wide.2 ((partsOf_c _ _ _).mono ?_)⟩
    rintro e W5 ⟨rfl, x4, x5, hb5⟩
    rw [hS4] at x4 x5 ⊢
    replace x0 := x0.keep hb5
    replace x1 := x1.keep hb5
    replace x2 := x2.keep hb5
    replace x3 := x3.keep hb5
    have hB5 := hB4.trans (hb5.mono hB4.size)
    have hlt := x5.lt
    clear hb5 hB4 hW4 hS4
    gi_wp2
    refine range_law3 (F := Fence.wide) (Pr := fun A => At A (w.heap.size + 1 + 1 + 1 + 1) 9 #[.string t] ∧ At A (w.heap.size + 1 + 1 + 1 + 1 + 1) 9 #[.string ⟨#[44]⟩]) (gf := 327) (lf := #[]) (lb := #[.pointer (some ⟨w.heap.size + 1 + 1 + 1 + 1, 0, none⟩), .pointer (some ⟨w.heap.size + 1 + 1 + 1 + 1 + 1, 0, none⟩)]) rfl (by decide) rfl trivial (fun args w => rfl) (encs := fun s : ByteArray => #[.string s]) (xs := pcsB 44 t) (κ := 0)
      (parts_iter t 44 _ _ _ ht (by decide)) (fun _ => rfl)
      (fun pre A => ∃ o g, At A w.heap.size 23 #[.slice none 0 0] ∧ At A (w.heap.size + 1) 4 #[.bool false] ∧ At A (w.heap.size + 1 + 1) 23 #[o] ∧ At A (w.heap.size + 1 + 1 + 1) 65 (tabC g) ∧ At A (w.heap.size + 1 + 1 + 1 + 1) 9 #[.string t] ∧ At A (w.heap.size + 1 + 1 + 1 + 1 + 1) 9 #[.string ⟨#[44]⟩] ∧ Hid ((∀ p, p < 9 → g p = tabOf (pre.map cutM) p) ∧ MV (pre.map cutM)) ∧ A.ownsRow (W5.heap.size + 2) 56 2 o (pre.map cutM).length (mcells (pre.map cutM)) ∧ Below w.heap.size w A)
      (fun c pre A => c = .ret ∧ ¬ MV (pre.map cutM) ∧ At A w.heap.size 23 #[.slice none 0 0] ∧ At A (w.heap.size + 1) 4 #[.bool false] ∧ Below w.heap.size w A)
      ?_ ?_ ?_ ?_
      (fun s a' _ => a' = { tmps := #[.string t, undef, .pointer (some ⟨w.heap.size, 0, none⟩), .pointer (some ⟨w.heap.size + 1, 0, none⟩), .pointer (some ⟨w.heap.size + 1 + 1, 0, none⟩), .pointer (some ⟨w.heap.size + 1 + 1 + 1, 0, none⟩), .string s, undef, undef, undef, undef, undef, undef, .string t, .bool false, .string t, .func (.func 327) #[] #[.pointer (some ⟨w.heap.size + 1 + 1 + 1 + 1, 0, none⟩), .pointer (some ⟨w.heap.size + 1 + 1 + 1 + 1 + 1, 0, none⟩)], .string s, undef, undef, undef, undef, undef, undef, undef, undef, undef, undef, undef, undef, undef, undef, undef, undef, undef, undef, undef, undef, undef, undef, undef], defers := [] }) ?_ ?_ ?_ ?_ ?_
    · rintro pre A ⟨o, g, _, _, _, _, k4, k5, _⟩
      exact ⟨k4, k5⟩
    · rintro s A A' row ⟨o, g, k0, k1, k2, k3, k4, k5, k6, k7, k8⟩ hg hr
      exact ⟨o, g, at_turn k0 hg (fun r e => (hr r e).2), at_turn k1 hg (fun r e => (hr r e).2), at_turn k2 hg (fun r e => (hr r e).2), at_turn k3 hg (fun r e => (hr r e).2), at_turn k4 hg (fun r e => (hr r e).2), at_turn k5 hg (fun r e => (hr r e).2), k6, row_turn k7 hg (fun r e => (hr r e).2), k8.trans (below_grown hg k8.size (fun g e => by have := (hr g e).1; omega))⟩
    · rintro c s A A' row ⟨h1, h2, k0, k1, k8⟩ hg hr
      exact ⟨h1, h2, at_turn k0 hg (fun r e => (hr r e).2), at_turn k1 hg (fun r e => (hr r e).2), k8.trans (below_grown hg k8.size (fun g e => by have := (hr g e).1; omega))⟩
    · exact ⟨_, _, x0, x1, x2, x3, x4, x5, ⟨fun p _ => rfl, MV_nil⟩, ⟨rfl, .inl ⟨rfl, rfl⟩⟩, hB5⟩
    · rintro m a' s A A' row h hg hr
      exact h
    · intro l pre x W K hI hp hsz hK
      gi_wp2
      exact hK _ _ (KeepsNew.refl _ _) hI rfl
    · clear x0 x1 x2 x3 x4 x5
      rintro l pre x a' W ⟨o, g, k0, k1, k2, k3, k4, k5, k6, k7, k8⟩ rfl hp hsz
      have hxz : x.size ≤ 1048576 := Nat.le_trans (pcs_mem hp) ht
      have hWs : w.heap.size + 6 ≤ W.heap.size := by omega
      gi_wp2_with fail
      refine ⟨trivial, CallsIn.inRound l (callsIn_wide.2 ((strCut_c x 61 W hxz).mono ?_))⟩
      rintro e V2 ⟨rfl, hb2⟩
      have HX : Hid (cutM x = ((cutB x 61).1, (cutB x 61).2.1)) := rfl
      have HSN := Lib.hid (MV_snoc (pre.map cutM) (cutM x))
      have HTS := Lib.hid (fun h1 h2 p hp => tabOf_snoc (pre.map cutM) (cutM x) h1 h2 p hp)
      have HTE := Lib.hid (fun p => tabOf_emp k6.out.2 (p := p))
      have HMP : Hid ((pre ++ [x]).map cutM = pre.map cutM ++ [cutM x]) := by show _ = _; simp
      rw [HX.out] at HSN HTS HMP
      generalize (cutB x 61).1 = a at *
      generalize (cutB x 61).2.1 = b at *
      generalize (cutB x 61).2.2 = m at *
      generalize pre.map cutM = ys at *
      have hs2 := hb2.size
      have KF2 : KeepsFrom W5.heap.size W V2 := (KeepsNew.below hb2).from
      replace k0 := k0.keep hb2
      replace k1 := k1.keep hb2
      replace k2 := k2.keep hb2
      replace k3 := k3.keep hb2
      replace k4 := k4.keep hb2
      replace k5 := k5.keep hb2
      replace k7 := own_keep k7 hb2
      replace k8 := k8.trans (hb2.mono k8.size)
      have hy8 : ys.length ≤ 9 := MV_len k6.out.2
      clear hb2
      have B3 : Below V2.heap.size V2 (V2.alloc (.cells #[.string a, .string b] 56)) := (Below.refl _ _).alloc (Nat.le_refl _) _
      have hT := k3.keep B3
      gi_wp2_with (refine ldIn_row rfl 65 (.tmp 5) rfl (w.heap.size + 1 + 1 + 1) 65 (tabC g) hT (by rfl) 9 9 Tryz.underlying65 (by kernel_rfl) ?_)
      by_cases hstep : isP a = true ∧ g (pidx a) = emp ∧ isS b = true
      · obtain ⟨ha, hf, hbs⟩ := hstep
        refine ⟨trivial, CallsIn.inRound l (callsIn_wide.2 ((with_yes g a b ha hf hbs _).mono ?_))⟩
        rintro e V4 ⟨rfl, hb4⟩
        have hs4 := (B3.trans (hb4.mono B3.size)).size
        have B4 : Below V2.heap.size V2 (V4.alloc (.cells (tabA (upd g (pidx a) b)) 65)) := (B3.trans (hb4.mono B3.size)).alloc hs4 _
        have mM := ((At.new V2 56 #[.string a, .string b]).keep hb4).alloc (.cells (tabA (upd g (pidx a) b)) 65)
        replace k0 := k0.keep B4
        replace k1 := k1.keep B4
        replace k2 := k2.keep B4
        replace k3 := k3.keep B4
        replace k4 := k4.keep B4
        replace k5 := k5.keep B4
        replace k7 := own_keep k7 B4
        replace k8 := k8.trans (B4.mono k8.size)
        have KF4 : KeepsFrom W5.heap.size W (V4.alloc (.cells (tabA (upd g (pidx a) b)) 65)) := KF2.trans (KeepsNew.below B4).from
        have kN : At (V4.alloc (.cells (tabA (upd g (pidx a) b)) 65)) V4.heap.size 65 (tabC (upd g (pidx a) b)) := At.new V4 65 (tabA (upd g (pidx a) b))
        have hal : (V4.alloc (.cells (tabA (upd g (pidx a) b)) 65)).heap.size = V4.heap.size + 1 := by simp
        have hg2 : ∀ p, p < 9 → upd g (pidx a) b p = tabOf (ys ++ [(a, b)]) p := fun p hp => by
          have e0 := (HTE.out (pidx a)).1 (by rw [← k6.out.1 (pidx a) (pidx_spec ha).1]; exact hf)
          rw [(pidx_spec ha).2] at e0
          rw [HTS.out ha e0 p hp]
          unfold upd
          split
          · rfl
          · exact k6.out.1 p hp
        have hMV : MV (ys ++ [(a, b)]) := by
          have e0 := (HTE.out (pidx a)).1 (by rw [← k6.out.1 (pidx a) (pidx_spec ha).1]; exact hf)
          rw [(pidx_spec ha).2] at e0
          exact HSN.out.2 ⟨k6.out.2, by unfold mok; rw [ha, hbs]; rfl, e0⟩
        have H6 := Lib.hid (And.intro hg2 hMV)
        clear hg2 hMV HTE HTS HSN ha hf hbs hT B3 hb4 KF2
        generalize upd g (pidx a) b = g2 at *
        gi_wp2_with (first
          | (refine ldIn_row rfl 65 (.tmp 11) rfl V4.heap.size 65 (tabC g2) kN (by rfl) 9 9 Tryz.underlying65 (by kernel_rfl) ?_)
          | (refine stIn_row rfl 65 (.tmp 5) (.tmp 35) rfl rfl (w.heap.size + 1 + 1 + 1) 65 (tabC g) (tabC g2) k3 (by rfl) (by rfl) (by kernel_rfl) rfl (tabC_one _) ?_
             refine held ?_))
        unfold Held
        intro V7 k3n gC
        replace k0 := k0.grown gC (by simp <;> omega)
        replace k1 := k1.grown gC (by simp <;> omega)
        replace k2 := k2.grown gC (by simp <;> omega)
        replace k4 := k4.grown gC (by simp <;> omega)
        replace k5 := k5.grown gC (by simp <;> omega)
        replace mM := mM.grown gC (by simp <;> omega)
        replace k8 := k8.trans (below_grown gC (by omega) (fun g e => by cases e; omega))
        replace k7 := own_grown k7 gC (.inl (box_apart k7 k3 (by decide)).symm)
        replace KF4 := KF4.trans (kf_grown gC (fun g o e hge _ => by cases e; omega))
        have hs7 : V4.heap.size + 1 ≤ V7.heap.size := by have := gC.size; simpa using this
        have c2 := k2.cell 0
        have cM0 := mM.cell 0
        have cM1 := mM.cell 1
        have hnw := two_new V7 (.string a) (.string b) 56
        gi_wp2_with (gi_at_builtin; refine held ?_)
        unfold Held
        refine listIn_mv rfl (.tmp 36) (.tmp 38) rfl (W5.heap.size + 2) o ys (a, b) ⟨V7.heap.size, 0, none⟩ 1 (by rfl) (by rfl) (own_keep k7 ((Below.refl _ _).alloc (Nat.le_refl _) _)) hnw (by omega) (by simp; omega) ?_
        intro o' V9 hown9 hgrow9
        have Ba := (Below.refl V7.heap.size V7).alloc (Nat.le_refl _) (.cells #[.string a, .string b] 56)
        replace k0 := k0.keep Ba
        replace k1 := k1.keep Ba
        replace k2 := k2.keep Ba
        replace k3n := k3n.keep Ba
        replace k4 := k4.keep Ba
        replace k5 := k5.keep Ba
        replace k7 := own_keep k7 Ba
        replace KF4 := KF4.trans ((KeepsNew.below Ba).from.trans (kf_grown hgrow9 (fun g o e _ h => own_cells k7 g o e h)))
        replace k8 := (k8.trans (Ba.mono k8.size)).trans (below_grown hgrow9 (by have := k8.size; simp; omega) (fun g hg => by have := own_block_ge k7 g hg; omega))
        have m0 := k0.grown hgrow9 (box_apart k7 k0 (by decide))
        have m1 := k1.grown hgrow9 (box_apart k7 k1 (by decide))
        have m2 := k2.grown hgrow9 (box_apart k7 k2 (by decide))
        have m3 := k3n.grown hgrow9 (box_apart k7 k3n (by decide))
        have m4 := k4.grown hgrow9 (box_apart k7 k4 (by decide))
        have m5 := k5.grown hgrow9 (box_apart k7 k5 (by decide))
        have hs9 := hgrow9.size
        have hsa : (V7.alloc (.cells #[.string a, .string b] 56)).heap.size = V7.heap.size + 1 := by simp
        rw [hsa] at hs9
        have hne9 := box_apart hown9 m2 (by decide)
        have d1 := m2.cell 0
        have d2 := m2.frozen 0
        obtain ⟨A9, cap9, rfl, _⟩ := Rd.of_own hown9
        generalize ys ++ [(a, b)] = zs at *
        have gS := grownBy_setCell' V9 (w.heap.size + 1 + 1) (.slice A9 zs.length cap9)
        have n2 : At (V9.setCell ⟨w.heap.size + 1 + 1, 0, none⟩ (.slice A9 zs.length cap9)) (w.heap.size + 1 + 1) 23 #[.slice A9 zs.length cap9] := m2.set 0 _
        have n0 := m0.grown gS (by simp <;> omega)
        have n1 := m1.grown gS (by simp <;> omega)
        have n3 := m3.grown gS (by simp <;> omega)
        have n4 := m4.grown gS (by simp <;> omega)
        have n5 := m5.grown gS (by simp <;> omega)
        have n7 := own_grown hown9 gS (.inl hne9.symm)
        have KF9 := KF4.trans (kf_grown (B := W5.heap.size) gS (fun g o e hge _ => by cases e; omega))
        have k9 := k8.trans (below_grown gS (by have := k8.size; omega) (fun g e => by cases e; omega))
        clear k0 k1 k2 k3 k3n k4 k5 k7 KF4 m0 m1 m2 m3 m4 m5 c2 cM0 cM1 mM hnw hgrow9 Ba
        gi_wp2
        exact ⟨KF9, KeepsIn.zero (by have := gS.size; omega), _, g2, n0, n1, n2, n3, n4, n5, by rw [HMP.out]; exact H6, by rw [HMP.out]; exact n7, k9⟩
      · refine ⟨trivial, CallsIn.inRound l (callsIn_wide.2 ((with_no g a b hstep _).mono ?_))⟩
        rintro e V4 ⟨rfl, hb4⟩
        have hs4 := (B3.trans (hb4.mono B3.size)).size
        have B4 : Below V2.heap.size V2 (V4.alloc (.cells zA 65)) := (B3.trans (hb4.mono B3.size)).alloc hs4 _
        replace k0 := k0.keep B4
        replace k1 := k1.keep B4
        replace k8 := k8.trans (B4.mono k8.size)
        have KF4 : KeepsFrom W5.heap.size W (V4.alloc (.cells zA 65)) := KF2.trans (KeepsNew.below B4).from
        have hno : ¬ MV (ys ++ [(a, b)]) := fun h => by
          obtain ⟨h1, h2, h3⟩ := HSN.out.1 h
          unfold mok at h2
          rw [Bool.and_eq_true] at h2
          refine hstep ⟨h2.1, ?_, h2.2⟩
          rw [k6.out.1 _ (pidx_spec h2.1).1]
          refine (HTE.out _).2 ?_
          rw [(pidx_spec h2.1).2]
          exact h3
        have HNO := Lib.hid hno
        have c0 := k0.cell 0
        have f0 := k0.frozen 0
        have c1 := k1.cell 0
        have f1 := k1.frozen 0
        have g0 := grownBy_setCell' (V4.alloc (.cells zA 65)) w.heap.size (.slice none 0 0)
        have n0 : At ((V4.alloc (.cells zA 65)).setCell ⟨w.heap.size, 0, none⟩ (.slice none 0 0)) w.heap.size 23 #[.slice none 0 0] := k0.set 0 _
        have n1 := k1.grown g0 (by simp)
        have d1 := n1.cell 0
        have e1 := n1.frozen 0
        have g1 := grownBy_setCell' ((V4.alloc (.cells zA 65)).setCell ⟨w.heap.size, 0, none⟩ (.slice none 0 0)) (w.heap.size + 1) (.bool false)
        have p0 := n0.grown g1 (by simp)
        have p1 : At (((V4.alloc (.cells zA 65)).setCell ⟨w.heap.size, 0, none⟩ (.slice none 0 0)).setCell ⟨w.heap.size + 1, 0, none⟩ (.bool false)) (w.heap.size + 1) 4 #[.bool false] := n1.set 0 _
        have p8 := (k8.trans (below_grown g0 k8.size (fun g e => by cases e; omega))).trans (below_grown g1 (by have := k8.size; have := g0.size; omega) (fun g e => by cases e; omega))
        have pk := KF4.trans ((kf_grown (B := W5.heap.size) g0 (fun g o e hge _ => by cases e; omega)).trans (kf_grown (B := W5.heap.size) g1 (fun g o e hge _ => by cases e; omega)))
        clear k0 k1 k2 k3 k4 k5 k7 k8 KF4 HTE HTS HSN hno hstep k6 KF2 B3 hT n0 n1 g0 g1 B4 hb4
        gi_wp2
        exact ⟨pk, rfl, by rw [HMP.out]; exact HNO.out, p0, p1, p8⟩
    · intro D W hD hI hd
      obtain ⟨o, g, k0, k1, k2, k3, k4, k5, k6, k7, k8⟩ := hI
      have hmv : mvalid ((pcsB 44 t).map cutM) = true := by simpa [mvalid] using k6.out.2
      have HR1 : Hid (prsOk t = true) := by show _ = _; rw [HPC.out.1, hmv]
      have HR2 : Hid (prsM t = (pcsB 44 t).map cutM) := by show _ = _; rw [HPC.out.2, if_pos hmv]
      generalize hnn : ((pcsB 44 t).map cutM).length = nn at k7
      obtain ⟨A0, cap0, rfl, _⟩ := Rd.of_own k7
      have hWs := k8.size
      have c0 := k0.cell 0
      have f0 := k0.frozen 0
      have c2 := k2.cell 0
      have g0 := grownBy_setCell' W w.heap.size (.slice A0 nn cap0)
      have n0 : At (W.setCell ⟨w.heap.size, 0, none⟩ (.slice A0 nn cap0)) w.heap.size 23 #[.slice A0 nn cap0] := k0.set 0 _
      have n1 := k1.grown g0 (by simp)
      have d1 := n1.cell 0
      have e1 := n1.frozen 0
      have g1 := grownBy_setCell' (W.setCell ⟨w.heap.size, 0, none⟩ (.slice A0 nn cap0)) (w.heap.size + 1) (.bool true)
      have p0 := n0.grown g1 (by simp)
      have p1 : At ((W.setCell ⟨w.heap.size, 0, none⟩ (.slice A0 nn cap0)).setCell ⟨w.heap.size + 1, 0, none⟩ (.bool true)) (w.heap.size + 1) 4 #[.bool true] := n1.set 0 _
      have o1 := own_grown k7 g0 (.inl (box_apart k7 k0 (by decide)).symm)
      have o2 := own_more (own_grown o1 g1 (.inl (box_apart o1 n1 (by decide)).symm)) (show w.heap.size ≤ W5.heap.size + 2 by omega)
      have p8 := (k8.trans (below_grown g0 k8.size (fun g e => by cases e; omega))).trans (below_grown g1 (by have := g0.size; omega) (fun g e => by cases e; omega))
      have hd2 : ((W.setCell ⟨w.heap.size, 0, none⟩ (.slice A0 nn cap0)).setCell ⟨w.heap.size + 1, 0, none⟩ (.bool true)).heap[D]? = some (.deferred (some [])) :=
        (g1.block D (by have := (Array.getElem?_eq_some_iff.1 hd).1; have := g0.size; omega) (by simp; omega)).trans ((g0.block D (Array.getElem?_eq_some_iff.1 hd).1 (by simp; omega)).trans hd)
      clear k0 k1 k2 k3 k4 k5 k6 k7 k8 n0 n1 g0 g1 o1 hmv
      gi_wp2
      refine ⟨by simp, .inl ⟨D, _, rfl, run_takeDeferred hd2, ?_⟩⟩
      have hrow : ∀ r, (some D : Option Nat) = some r → ∃ o' : Obj, ((W.setCell ⟨w.heap.size, 0, none⟩ (.slice A0 nn cap0)).setCell ⟨w.heap.size + 1, 0, none⟩ (.bool true)).heap[r]? = some o' ∧ o'.isCells = false := fun r e => by cases e; exact ⟨_, hd2, rfl⟩
      refine ⟨_, results_prs _ _ _ _ _ (at_turn p0 (grownBy_putObj' _ D _) hrow) (at_turn p1 (grownBy_putObj' _ D _) hrow) _ rfl rfl, .slice A0 nn cap0, by rw [HR1.out], by rw [HR2.out, hnn]; exact row_turn o2 (grownBy_putObj' _ D _) hrow, p8.trans ⟨rfl, rfl, rfl, by simp [World.putObj], fun k hk => World.putObj_heap_other (by omega)⟩⟩
    · rintro D c pre W hD hp ⟨rfl, hn, k0, k1, k8⟩ hd
      have hmv : mvalid ((pcsB 44 t).map cutM) = false := by
        simp only [mvalid, decide_eq_false_iff_not]
        exact fun h => hn (MV_prefix (hp.map cutM) h)
      have HR1 : Hid (prsOk t = false) := by show _ = _; rw [HPC.out.1, hmv]
      have HR2 : Hid (prsM t = []) := by show _ = _; rw [HPC.out.2, hmv]; rfl
      have hWs := k8.size
      gi_wp2
      refine ⟨by simp, .inl ⟨D, _, rfl, run_takeDeferred hd, ?_⟩⟩
      have hrow : ∀ r, (some D : Option Nat) = some r → ∃ o' : Obj, W.heap[r]? = some o' ∧ o'.isCells = false := fun r e => by cases e; exact ⟨_, hd, rfl⟩
      refine ⟨_, results_prs _ _ _ _ _ (at_turn k0 (grownBy_putObj' _ D _) hrow) (at_turn k1 (grownBy_putObj' _ D _) hrow) _ rfl rfl, .slice none 0 0, by rw [HR1.out], by rw [HR2.out]; exact ⟨rfl, .inl ⟨rfl, rfl⟩⟩, k8.trans ⟨rfl, rfl, rfl, by simp [World.putObj], fun k hk => World.putObj_heap_other (by omega)⟩⟩
end Go.Proofs.YtfedloljhocpgaaGreatDoor
namespace Go.PG
open Go.RowKit Go.PM Go.PW Go.PS Go.PD Go.Proofs.YtfedloljhocpgaaGreatDoor
def oF (ts : List ByteArray) (k : Nat) : ByteArray := (ts.take k).foldl sayB ⟨#[]⟩
theorem say_fold : ∀ (ts : List ByteArray) (out : ByteArray), (∀ t ∈ ts, t.size ≤ 300) → (ts.foldl sayB out).size ≤ out.size + 302 * ts.length
  | [], out, _ => by simp
  | t :: ts, out, h => by
    have h1 := say_fold ts (sayB out t) fun q hq => h q (List.mem_cons_of_mem _ hq)
    have h2 := sayB_size out t
    have h3 := h t List.mem_cons_self
    rw [List.foldl_cons, List.length_cons]
    omega
theorem oF_size {ts : List ByteArray} (h : ∀ t ∈ ts, t.size ≤ 300) (hl : ts.length ≤ 20) (k : Nat) : (oF ts k).size ≤ 40000 := by
  have h1 := say_fold (ts.take k) ⟨#[]⟩ fun q hq => h q (List.mem_of_mem_take hq)
  have h2 : (ts.take k).length ≤ ts.length := by rw [List.length_take]; omega
  have h3 : (⟨#[]⟩ : ByteArray).size = 0 := rfl
  unfold oF
  omega
def lsM (xs : List Mv) : List ByteArray := [⟨#[109, 111, 118, 101, 115]⟩ ++ ⟨#[32]⟩ ++ fmtB xs, ⟨#[111, 114, 100, 101, 114]⟩, ⟨#[114, 105, 103, 104, 116]⟩, ⟨#[114, 105, 110, 103, 115]⟩, ⟨#[99, 108, 111, 115, 101, 100]⟩, ⟨#[119, 104, 101, 101, 108, 115]⟩, ⟨#[115, 119, 97, 112]⟩, ⟨#[100, 105, 114, 101, 99, 116]⟩, ⟨#[99, 111, 117, 110, 116, 115]⟩, ⟨#[117, 110, 100, 111]⟩]
def lsE (xs : List Mv) : List ByteArray := [⟨#[109, 111, 118, 101, 115]⟩ ++ ⟨#[32]⟩ ++ fmtB xs, ⟨#[111, 114, 100, 101, 114]⟩, ⟨#[114, 105, 103, 104, 116]⟩, ⟨#[114, 105, 110, 103, 115]⟩, ⟨#[99, 108, 111, 115, 101, 100]⟩, ⟨#[119, 104, 101, 101, 108, 115]⟩, ⟨#[115, 119, 97, 112]⟩, ⟨#[100, 105, 114, 101, 99, 116]⟩, ⟨#[99, 111, 117, 110, 116, 115]⟩, ⟨#[117, 110, 100, 111]⟩, ⟨#[]⟩]
def tsM (xs : List Mv) : List ByteArray := [fmtB xs, sfmtB (stL (ordM xs)), truB true, joinB (ringsB xs), joinB (Go.PW.closedB xs), joinB (wheelsB xs), sfmtB (owS xs), sfmtB (odS xs), numB [countI xs, cioI xs, cwI xs, cdI xs], if exchB xs then fmtB (undoM xs) else ⟨#[110, 111]⟩]
def wM (xs : List Mv) (k : Nat) : List Mv := ([[], xs, xs, xs, xs, xs, xs, xs, xs, xs, if exchB xs then undoM xs else xs, if exchB xs then undoM xs else xs] : List (List Mv)).getD k []
def yM (xs : List Mv) (k : Nat) : List St := ([[], [], stL (ordM xs), stL (ordM xs), stL (ordM xs), stL (ordM xs), stL (ordM xs), owS xs, odS xs, odS xs, odS xs, odS xs] : List (List St)).getD k []
theorem ls_ne (t : ByteArray) : ⟨#[109, 111, 118, 101, 115]⟩ ++ ⟨#[32]⟩ ++ t ≠ ⟨#[]⟩ := by
  intro e
  have := congrArg ByteArray.size e
  rw [ByteArray.size_append, ByteArray.size_append] at this
  have h1 : (⟨#[109, 111, 118, 101, 115]⟩ : ByteArray).size = 5 := rfl
  have h2 : (⟨#[]⟩ : ByteArray).size = 0 := rfl
  omega
structure Few (xs : List Mv) : Prop where
  mv : MV xs
  v1 : svalid (stL (ordM xs)) = true
  v2 : svalid (owS xs) = true
  v3 : svalid (odS xs) = true
  ir : irB (stL (ordM xs)) xs = true
  n1 : countI xs ≠ -1
  nz : ∀ k ∈ [countI xs, cioI xs, cwI xs, cdI xs], i64ok k
  um : msize (undoM xs) ≤ 1048576
  ts : ∀ t ∈ tsM xs, t.size ≤ 300
theorem few {xs : List Mv} (hm : mvalid xs = true) : Few xs := by
  have hMV : MV xs := by simpa [mvalid] using hm
  obtain ⟨S, R, C, hSR, hC, e1, e2, e3, e4, e5, _, _, v2, _⟩ := ows_nums hm
  obtain ⟨_, _, v3, _, e6, _⟩ := dir_facts hm
  have hl3 := svalid_len v3
  have nz : ∀ k ∈ [countI xs, cioI xs, cwI xs, cdI xs], i64ok k := by
    intro k hk
    simp only [List.mem_cons, List.not_mem_nil, or_false] at hk
    unfold i64ok
    rcases hk with rfl | rfl | rfl | rfl <;> omega
  have um : msize (undoM xs) ≤ 1048576 ∧ (fmtB (undoM xs)).size ≤ 300 := by
    by_cases hE : exchB xs = true
    · have h1 := mov_small (Go.PO.undo_MV hE)
      have h2 := fmt_small (Go.PO.undo_MV hE)
      omega
    · have : undoM xs = [] := by unfold undoM; rw [if_neg hE]
      rw [this]
      exact ⟨by decide, by decide⟩
  refine ⟨hMV, ordM_valid hMV, v2, v3, ordM_right hMV, by omega, nz, um.1, ?_⟩
  intro t ht
  unfold tsM at ht
  simp only [List.mem_cons, List.not_mem_nil, or_false] at ht
  have a1 := fmt_small hMV
  have a2 := sfmt_small (ordM_valid hMV)
  have a3 := rings_small hm
  have a4 := closed_small hm
  have a5 := wheels_small hm
  have a6 := sfmt_small v2
  have a7 := sfmt_small v3
  have a8 := numB_size _ nz
  simp only [List.length_cons, List.length_nil] at a8
  rcases ht with rfl | rfl | rfl | rfl | rfl | rfl | rfl | rfl | rfl | rfl
  · omega
  · omega
  · decide
  · omega
  · omega
  · omega
  · omega
  · omega
  · omega
  · split
    · exact um.2
    · decide
theorem lsM_no {xs : List Mv} (hm : mvalid xs = true) : ∀ l ∈ lsM xs, (10 : UInt8) ∉ l.data.toList := by
  intro l hl
  unfold lsM at hl
  simp only [List.mem_cons, List.not_mem_nil, or_false] at hl
  rcases hl with rfl | rfl | rfl | rfl | rfl | rfl | rfl | rfl | rfl | rfl
  · have := no10_fmt hm
    rw [ByteArray.data_append, ByteArray.data_append, Array.toList_append, Array.toList_append, List.mem_append, List.mem_append]
    rintro ((e | e) | e)
    · revert e; decide
    · revert e; decide
    · exact this e
  all_goals decide
theorem lines_size : ∀ ls : List ByteArray, (linesB ls).size = (ls.map (·.size + 1)).sum
  | [] => rfl
  | l :: ls => by
    show (l ++ ⟨#[10]⟩ ++ linesB ls).size = _
    rw [ByteArray.size_append, ByteArray.size_append, lines_size ls, List.map_cons, List.sum_cons]
    rfl
theorem lsM_size {xs : List Mv} (hm : mvalid xs = true) : (linesB (lsM xs)).size ≤ 20000 := by
  have a1 := fmt_small (few hm).mv
  rw [lines_size]
  unfold lsM
  simp only [List.map_cons, List.map_nil, List.sum_cons, List.sum_nil, ByteArray.size_append]
  have b0 : (⟨#[109, 111, 118, 101, 115]⟩ : ByteArray).size = 5 := rfl
  have b1 : (⟨#[32]⟩ : ByteArray).size = 1 := rfl
  have b2 : (⟨#[111, 114, 100, 101, 114]⟩ : ByteArray).size = 5 := rfl
  have b3 : (⟨#[114, 105, 103, 104, 116]⟩ : ByteArray).size = 5 := rfl
  have b4 : (⟨#[114, 105, 110, 103, 115]⟩ : ByteArray).size = 5 := rfl
  have b5 : (⟨#[99, 108, 111, 115, 101, 100]⟩ : ByteArray).size = 6 := rfl
  have b6 : (⟨#[119, 104, 101, 101, 108, 115]⟩ : ByteArray).size = 6 := rfl
  have b7 : (⟨#[115, 119, 97, 112]⟩ : ByteArray).size = 4 := rfl
  have b8 : (⟨#[100, 105, 114, 101, 99, 116]⟩ : ByteArray).size = 6 := rfl
  have b9 : (⟨#[99, 111, 117, 110, 116, 115]⟩ : ByteArray).size = 6 := rfl
  have b10 : (⟨#[117, 110, 100, 111]⟩ : ByteArray).size = 4 := rfl
  omega
end Go.PG
namespace Go.Proofs.YtfedloljhocpgaaGreatDoor
open Go.RowKit Go.PM Go.PG Go.PW Go.PS Go.PD
set_option maxRecDepth 100000 in
theorem scriptMoves_c (xs : List Mv) (hm : mvalid xs = true) (w : World) (hG : Sg w) (hT : Tp w) (hE : Et w) (hM : Ml w) :
    Calls Tryz.prog 24 #[.string (linesB (lsM xs))] w fun e w' => e = .returned (.string (oF (tsM xs) 10)) ∧ Below w.heap.size w w' := by
  have hf := few hm
  have hxl : xs.length ≤ 1048576 := by have := MV_len hf.mv; omega
  have hsp := lines_split (lsM xs) (lsM_no hm)
  have ho : ∀ k, (oF (tsM xs) k).size ≤ 40000 := oF_size hf.ts (by simp [tsM])
  have ho5 : ∀ k, (oF (tsM xs) k).size ≤ 50000000 := fun k => by have := ho k; omega
  have q1 := (fmt_small hf.mv).1
  have q2 := (sfmt_small hf.v1).1
  have q3 := rings_small hm
  have q4 := closed_small hm
  have q5 := wheels_small hm
  have q6 := (sfmt_small hf.v2).1
  have q7 := (sfmt_small hf.v3).1
  have q8 := ringsB_len xs
  have q9 := Go.PW.closedB_len xs
  have q10 := wheelsB_len xs
  have q11 := mov_small hf.mv
  have p1 := prs_fmt xs
  have hlen : (stL (ordM xs)).length = (ordM xs).length := by unfold stL; rw [List.length_map]
  refine runScript_c (linesB (lsM xs)) (lsE xs) w (lsM_size hm) hM hsp.1 (by rw [hsp.2]; rfl) (wM xs) (yM xs) (oF (tsM xs)) rfl rfl rfl ?_
  intro k hk
  match k, hk with
  | 0, _ => exact .inr ⟨ls_ne _, by decide, ho 0, fun W lv sv hb hx hs => exeRMoves_c _ (by rw [ByteArray.size_append, ByteArray.size_append]; have h1 : (⟨#[109, 111, 118, 101, 115]⟩ : ByteArray).size = 5 := rfl; have h2 : (⟨#[32]⟩ : ByteArray).size = 1 := rfl; omega) ⟨#[109, 111, 118, 101, 115]⟩ (fmtB xs) (cut_word _ _ (by decide)) rfl [] xs [] _ (ho5 0) (by omega) w (fun W2 hb2 => by have := imParseMoves_c (fmtB xs) W2 (by omega); rw [p1.1, p1.2 hm, hm] at this; exact this) W lv sv hb hx hs⟩
  | 1, _ => exact .inr ⟨(show (⟨#[111, 114, 100, 101, 114]⟩ : ByteArray) ≠ ⟨#[]⟩ by decide), by decide, ho 1, fun W lv sv hb hx hs => exeSteps_c 6 3 ⟨#[111, 114, 100, 101, 114]⟩ (by decide) rfl (fun _ => rfl) (fun _ => rfl) (fun _ _ => by kernel_rfl) xs [] (stL (ordM xs)) _ (ho5 1) (by omega) w hG (fun W2 v hb2 R => by have := imOrderMoves_c xs v W2 R; rw [← hlen] at this; rw [hm] at this; exact this) W lv sv hb hx hs⟩
  | 2, _ => exact .inr ⟨(show (⟨#[114, 105, 103, 104, 116]⟩ : ByteArray) ≠ ⟨#[]⟩ by decide), by decide, ho 2, fun W lv sv hb hx hs => exeRight_c ⟨#[114, 105, 103, 104, 116]⟩ (by decide) rfl (fun _ => rfl) xs (stL (ordM xs)) true _ (ho5 2) w (fun W2 u v hb2 P R => by have := imIsRight_c (stL (ordM xs)) xs u v W2 P R; rw [hf.ir] at this; exact this) W lv sv hb hx hs⟩
  | 3, _ => exact .inr ⟨(show (⟨#[114, 105, 110, 103, 115]⟩ : ByteArray) ≠ ⟨#[]⟩ by decide), by decide, ho 3, fun W lv sv hb hx hs => exeTexts_c 12 10 ⟨#[114, 105, 110, 103, 115]⟩ (by decide) rfl (fun _ => rfl) (fun _ => rfl) (fun _ _ => by kernel_rfl) xs (stL (ordM xs)) (ringsB xs) _ (ho5 3) (by omega) (by omega) w (fun W2 v hb2 R => by have := imRingsOf_c xs v W2 R; rw [hm] at this; exact this) W lv sv hb hx hs⟩
  | 4, _ => exact .inr ⟨(show (⟨#[99, 108, 111, 115, 101, 100]⟩ : ByteArray) ≠ ⟨#[]⟩ by decide), by decide, ho 4, fun W lv sv hb hx hs => exeTexts_c 13 11 ⟨#[99, 108, 111, 115, 101, 100]⟩ (by decide) rfl (fun _ => rfl) (fun _ => rfl) (fun _ _ => by kernel_rfl) xs (stL (ordM xs)) (Go.PW.closedB xs) _ (ho5 4) (by omega) (by omega) w (fun W2 v hb2 R => by have := imClosedRings_c xs v W2 R; rw [hm] at this; exact this) W lv sv hb hx hs⟩
  | 5, _ => exact .inr ⟨(show (⟨#[119, 104, 101, 101, 108, 115]⟩ : ByteArray) ≠ ⟨#[]⟩ by decide), by decide, ho 5, fun W lv sv hb hx hs => exeTexts_c 14 12 ⟨#[119, 104, 101, 101, 108, 115]⟩ (by decide) rfl (fun _ => rfl) (fun _ => rfl) (fun _ _ => by kernel_rfl) xs (stL (ordM xs)) (wheelsB xs) _ (ho5 5) (by omega) (by omega) w (fun W2 v hb2 R => by have := imWheelsOf_c xs v W2 R; rw [hm] at this; exact this) W lv sv hb hx hs⟩
  | 6, _ => exact .inr ⟨(show (⟨#[115, 119, 97, 112]⟩ : ByteArray) ≠ ⟨#[]⟩ by decide), by decide, ho 6, fun W lv sv hb hx hs => exeSteps_c 9 5 ⟨#[115, 119, 97, 112]⟩ (by decide) rfl (fun _ => rfl) (fun _ => rfl) (fun _ _ => by kernel_rfl) xs (stL (ordM xs)) (owS xs) _ (ho5 6) (by omega) w hG (fun W2 v hb2 R => by have := imOrderWithSwaps_c xs v W2 R; rw [hm] at this; exact this) W lv sv hb hx hs⟩
  | 7, _ => exact .inr ⟨(show (⟨#[100, 105, 114, 101, 99, 116]⟩ : ByteArray) ≠ ⟨#[]⟩ by decide), by decide, ho 7, fun W lv sv hb hx hs => exeSteps_c 10 7 ⟨#[100, 105, 114, 101, 99, 116]⟩ (by decide) rfl (fun _ => rfl) (fun _ => rfl) (fun _ _ => by kernel_rfl) xs (owS xs) (odS xs) _ (ho5 7) (by omega) w hG (fun W2 v hb2 R => by have := imOrderDirect_c xs v W2 R; rw [hm] at this; exact this) W lv sv hb hx hs⟩
  | 8, _ => exact .inr ⟨(show (⟨#[99, 111, 117, 110, 116, 115]⟩ : ByteArray) ≠ ⟨#[]⟩ by decide), by decide, ho 8, fun W lv sv hb hx hs => exeCounts_c ⟨#[99, 111, 117, 110, 116, 115]⟩ (by decide) rfl (fun _ => rfl) xs (odS xs) (countI xs) (cioI xs) (cwI xs) (cdI xs) hf.n1 hf.nz _ (ho5 8) w hT (fun W2 v hb2 R => imCountBusy_c xs v W2 R hxl) (fun W2 v hb2 R => imCountInOrder_c xs v W2 R hxl) (fun W2 v hb2 R => imCountWithSwaps_c xs v W2 R hxl) (fun W2 v hb2 R => imCountDirect_c xs v W2 R) W lv sv hb hx hs⟩
  | 9, _ => exact .inr ⟨(show (⟨#[117, 110, 100, 111]⟩ : ByteArray) ≠ ⟨#[]⟩ by decide), by decide, ho 9, fun W lv sv hb hx hs => exeMoves_c 11 2 ⟨#[117, 110, 100, 111]⟩ (by decide) rfl (fun _ => rfl) (fun _ => rfl) (fun _ _ => by kernel_rfl) xs (undoM xs) (odS xs) (exchB xs) _ (ho5 9) hf.um w hE (fun W2 v hb2 R => imUndoMoves_c xs v W2 R) W lv sv hb hx hs⟩
  | 10, _ => exact .inl ⟨rfl, rfl, rfl, rfl⟩
  | k + 11, hk => exact absurd hk (by simp [lsE])
end Go.Proofs.YtfedloljhocpgaaGreatDoor
namespace Go.PG
open Go.RowKit Go.PM
theorem joinB_step (ts : List ByteArray) (k : Nat) (hk : k < ts.length) : (joinB (ts.take (k+1))).data.toList = if k = 0 then ts[k].data.toList else (joinB (ts.take k)).data.toList ++ [32] ++ ts[k].data.toList := by
  have e : ∀ L : List ByteArray, (joinB L).data.toList = Lib.join (L.map (·.data.toList)) [32] := fun L => by show (Lib.join _ _).toArray.toList = _; simp
  rw [e, e, take_snoc ts k hk, List.map_append, List.map_cons, List.map_nil, join_snoc]
  by_cases h : k = 0
  · subst h; simp
  · have : ¬ (ts.take k).map (·.data.toList) = [] := by
      intro e
      have := congrArg List.length e
      rw [List.length_map, List.length_take, List.length_nil] at this
      omega
    rw [if_neg this, if_neg h]
theorem ba_len (t : ByteArray) : t.data.toList.length = t.size := by rw [← ByteArray.size_data]; simp
theorem joinB_mono (ts : List ByteArray) (k : Nat) (hk : k < ts.length) : (joinB (ts.take k)).size + ts[k].size ≤ (joinB (ts.take (k+1))).size := by
  have h := congrArg List.length (joinB_step ts k hk)
  rw [ba_len] at h
  by_cases h0 : k = 0
  · rw [if_pos h0, ba_len] at h
    have : (joinB (ts.take k)).size = 0 := by rw [h0]; rfl
    omega
  · rw [if_neg h0, List.length_append, List.length_append, ba_len, ba_len] at h
    omega
theorem joinB_le (ts : List ByteArray) : ∀ d k, k + d = ts.length → (joinB (ts.take k)).size ≤ (joinB ts).size
  | 0, k, h => by rw [List.take_of_length_le (by omega)]; exact Nat.le_refl _
  | d+1, k, h => by
    have h1 := joinB_le ts d (k+1) (by omega)
    have h2 := joinB_mono ts k (by omega)
    omega
theorem joinB_all (ts : List ByteArray) (k : Nat) (hk : k < ts.length) : (joinB (ts.take k)).size + ts[k].size ≤ (joinB ts).size := by
  have h1 := joinB_le ts (ts.length - (k+1)) (k+1) (by omega)
  have h2 := joinB_mono ts k hk
  omega
end Go.PG
namespace Go.Proofs.YtfedloljhocpgaaGreatDoor
open Go.RowKit Go.PM Go.PG
set_option maxRecDepth 100000 in
theorem pmDash_c (t : ByteArray) (w : World) :
    Calls Tryz.prog 32 #[.string t] w fun e w' => e = .returned (.string (dashB t)) ∧ Below w.heap.size w w' := by
  have hd : Hid (dashB t = if t = ⟨#[]⟩ then ⟨#[45]⟩ else t) := rfl
  by_cases h0 : t = ⟨#[]⟩
  · subst h0
    go_enter Tryz.func32, Tryz.ntmps32
    go_wp2
    go_ret
    exact ⟨rfl, Below.refl _ _⟩
  · have t0 : t.toList.isEmpty = false := by
      rw [ByteArray.toList_eq]
      cases hh : t.data.toList with
      | nil => exact absurd (ba_mk hh) h0
      | cons a l => rfl
    have H0 := Lib.hid h0
    clear h0
    go_enter Tryz.func32, Tryz.ntmps32
    go_wp2
    go_ret
    exact ⟨by rw [hd.out, if_neg H0.out]; rfl, Below.refl _ _⟩
set_option maxRecDepth 100000 in
theorem pmLine_c (t : ByteArray) (ok : Bool) (ht : t.size ≤ 50000000) (w : World) :
    Calls Tryz.prog 18 #[.string t, .bool ok] w fun e w' => e = .returned (.string (if ok then t ++ ⟨#[10]⟩ else ⟨#[110, 111, 10]⟩)) ∧ Below w.heap.size w w' := by
  have c2 : (⟨#[10]⟩ : ByteArray).size = 1 := rfl
  cases ok <;> (
    go_enter Tryz.func18, Tryz.ntmps18
    go_wp2
    go_ret
    exact ⟨rfl, Below.refl _ _⟩)
set_option maxRecDepth 100000 in
set_option maxHeartbeats 800000 in
theorem pmJoin_c (ts : List ByteArray) (v : Value) (w : World) (hx : RdT w v ts) (hz : (joinB ts).size ≤ 50000000) (hl : ts.length ≤ 1048576) :
    Calls Tryz.prog 17 #[v] w fun e w' => e = .returned (.string (dashB (joinB ts))) ∧ Below w.heap.size w w' := by
  obtain ⟨A, cap, rfl, hn, hc, hcell⟩ := hx.open
  have hst := Lib.hid (joinB_step ts)
  have hal := Lib.hid (joinB_all ts)
  go_enter Tryz.func17, Tryz.ntmps17
  go_wp2
  go_loopw [3, 4, 5, 8] (fun o _ _ i wr => ∃ (k : Nat) (t : ByteArray), k ≤ ts.length ∧ i = .int .i64 k ∧ o = .string t ∧ Hid (t = joinB (ts.take k)) ∧ Below w.heap.size w wr) (fun _ _ _ i _ => ts.length - (intOf i).toNat)
  case atStart => exact ⟨0, ⟨#[]⟩, by omega, rfl, rfl, rfl, Below.refl _ _⟩
  case round =>
    obtain ⟨k, t, hk, rfl, rfl, ht, hb⟩ := hrel
    have hbs := hb.size
    by_cases hlt : k < ts.length
    · obtain ⟨b, off, rfl, hbl, hc1⟩ := hcell k hlt
      have hd1 := (hb.cell (p := ⟨b, off + k, none⟩) hbl).trans hc1
      have hs := hst.out k hlt
      have ha := hal.out k hlt
      rw [← ht.out] at hs ha
      clear hc1 hcell
      generalize ts[k] = x1 at *
      have HS := Lib.hid hs
      clear hs
      have hx1 : x1.size ≤ 50000000 := by omega
      have ht1 : t.size ≤ 50000000 := by omega
      have c1 : (⟨#[32]⟩ : ByteArray).size = 1 := rfl
      by_cases h0 : k = 0
      · have hp : ¬ (0 : Int) < (k : Int) := by omega
        have H0 := Lib.hid h0
        clear h0
        go_wp2
        go_roundw
        case rel =>
          refine ⟨k + 1, _, by omega, by go_num, rfl, ?_, by (repeat' (first | (with_reducible exact Below.refl _ _) | (with_reducible assumption) | (with_reducible refine Below.alloc ?_ ?_ _) | (with_reducible refine Below.drew ?_) | (with_reducible refine Below.setCell ?_ ?_ _) | (with_reducible exact Nat.le_refl _) | omega | ((repeat (first | rewrite [World.size_alloc] | rewrite [World.size_setCell] | rewrite [World.size_drew])); omega) | (simp; omega) | (simp; done)))⟩
          show _ = _
          apply ByteArray.ext
          apply Array.toList_inj.1
          rw [HS.out, if_pos H0.out]
          have h3 := ht.out
          rw [H0.out] at h3
          rw [h3]
          show (joinB (ts.take 0) ++ x1).data.toList = _
          rw [ByteArray.data_append, Array.toList_append]
          rfl
        case measure => simp [intOf]; omega
      · have hp : (0 : Int) < (k : Int) := by omega
        have H0 := Lib.hid h0
        clear h0
        go_wp2
        go_roundw
        case rel =>
          refine ⟨k + 1, _, by omega, by go_num, rfl, ?_, by (repeat' (first | (with_reducible exact Below.refl _ _) | (with_reducible assumption) | (with_reducible refine Below.alloc ?_ ?_ _) | (with_reducible refine Below.drew ?_) | (with_reducible refine Below.setCell ?_ ?_ _) | (with_reducible exact Nat.le_refl _) | omega | ((repeat (first | rewrite [World.size_alloc] | rewrite [World.size_setCell] | rewrite [World.size_drew])); omega) | (simp; omega) | (simp; done)))⟩
          show _ = _
          apply ByteArray.ext
          apply Array.toList_inj.1
          rw [HS.out, if_neg H0.out]
          simp [ByteArray.data_append]
        case measure => simp [intOf]; omega
    · have hk' : k = ts.length := by omega
      have h2 := ht.out
      rw [hk', List.take_of_length_le (Nat.le_refl _)] at h2
      have HT := Lib.hid h2
      clear h2 hk'
      have HD := Lib.hid (fun W => pmDash_c t W)
      go_wp2_with fail
      refine (HD.out _).mono ?_
      rintro e w2 ⟨rfl, hb2⟩
      go_wp2
      go_ret
      exact ⟨by rw [HT.out]; rfl, hb.trans (hb2.mono hbs)⟩
end Go.Proofs.YtfedloljhocpgaaGreatDoor
namespace Go.Proofs.YtfedloljhocpgaaGreatDoor
open Go.RowKit Go.PM
set_option maxHeartbeats 1600000 in
theorem drawOrderMoves_c (w : World) (v : Value) (n : Nat) (hv : RdB w w.heap.size v n) :
    Calls Tryz.prog 5 #[v] w fun e w' => ∃ u xs, e = .returned u ∧ w'.ownsRow w.heap.size 56 2 u xs.length (mcells xs) ∧ (xs.length ≤ 65 ∧ ∀ m ∈ xs, m.1.size ≤ 64 ∧ m.2.size ≤ 64) ∧ Below w.heap.size w w' := by
  have HO := Lib.hid (l13Open_c w v n hv)
  go_enter Tryz.func5, Tryz.ntmps5
  go_wp2_with fail
  refine HO.out.mono ?_
  rintro e w1 ⟨r, rfl, R1, b1⟩
  have hs1 := b1.size
  have hB := R1.1
  have HP := Lib.hid (pick_c w1 _ r 3 0 R1 (by omega) (by omega) (by omega))
  clear HO R1
  go_wp2_with fail
  refine HP.out.mono ?_
  rintro e w2 ⟨k, rfl, k0, k1, R2, g2⟩
  have b2 : Below w.heap.size w w2 := b1.trans (below_grown g2 hs1 (fun g e => by cases e; exact hB))
  have hs2 := b2.size
  clear HP b1 g2
  by_cases h0 : k = 0
  · subst h0
    have HS := Lib.hid (l4Exchange_c w2 _ r _ R2 (by omega))
    clear R2
    go_wp2_with fail
    refine HS.out.mono ?_
    rintro e w3 ⟨u, xs, p', rfl, ho, hsh, R3, hp, g3⟩
    have HSH := Lib.hid hsh
    have ho2 := own_more ho hs2
    have b3 : Below w.heap.size w w3 := b2.trans (below_grown g3 hs2 (fun g e => by cases e; exact hB))
    clear HS hsh
    go_wp2
    go_ret
    exact ⟨_, xs, rfl, ho2, HSH.out, b3⟩
  · have t0 : (k == 0) = false := by simpa using h0
    have HS := Lib.hid (l1Some_c w2 _ r _ R2 (by omega))
    clear R2
    go_wp2_with fail
    refine HS.out.mono ?_
    rintro e w3 ⟨u, xs, p', rfl, ho, hsh, R3, hp, g3⟩
    have HSH := Lib.hid hsh
    have ho2 := own_more ho hs2
    have b3 : Below w.heap.size w w3 := b2.trans (below_grown g3 hs2 (fun g e => by cases e; exact hB))
    clear HS hsh
    go_wp2
    go_ret
    exact ⟨_, xs, rfl, ho2, HSH.out, b3⟩
end Go.Proofs.YtfedloljhocpgaaGreatDoor
namespace Go.PM
def stpEq (a b : St) : Bool := decide (a = b)
theorem stpEq_no {a b : St} (h : (!stpEq a b) = true) : a ≠ b := by simpa [stpEq] using h
theorem stpEq_yes {a b : St} (h : (!stpEq a b) = false) : a = b := by simpa [stpEq] using h
end Go.PM
namespace Go.Proofs.YtfedloljhocpgaaGreatDoor
open Go.RowKit Go.PM

set_option maxRecDepth 100000 in
set_option maxHeartbeats 1000000 in
theorem eq_mvD (d : Nat) (a b c e : ByteArray) (W : World) : (Op.equalIn (d + 2) 56 (.agg #[.string a, .string b]) (.agg #[.string c, .string e])).run Tryz.prog W = .ok (mvEq a b c e) W := by
  have hs : Tryz.prog.stoodInHeld 56 = false := by kernel_rfl
  have e1 : (a == c) = decide (a = c) := beq_ba _ _
  have e2 : (b == e) = decide (b = e) := beq_ba _ _
  have q1 := eq_str d a c
  have q2 := eq_str d b e
  rw [Op.equalIn]
  generalize hE : Op.equalIn (d + 1) = E at *
  simp only [mvEq]
  rw [e1] at q1
  rw [e2] at q2
  clear e1 e2 hE
  by_cases h1 : a = c
  · by_cases h2 : b = e
    · subst h1; subst h2
      simp at q1 q2
      simp [go_sem, hs, q1, q2]
    · subst h1
      simp [h2] at q1 q2
      simp [go_sem, hs, q1, q2, h2]
  · simp [h1] at q1
    simp [go_sem, hs, q1, h1]
theorem eq_i64 (d : Nat) (a b : Int) (W : World) : (Op.equalIn (d + 1) 3 (.int .i64 a) (.int .i64 b)).run Tryz.prog W = .ok (decide (a = b)) W := by
  have : (a == b) = decide (a = b) := by rw [Bool.eq_iff_iff, beq_iff_eq, decide_eq_true_eq]
  simp [Op.equalIn, go_sem, this]
set_option maxRecDepth 100000 in
set_option maxHeartbeats 1000000 in
theorem eq_stp (x y : St) (W : World) : (Op.equalIn 10000 58 (.agg #[.int .i64 x.1, .string x.2.1, .string x.2.2]) (.agg #[.int .i64 y.1, .string y.2.1, .string y.2.2])).run Tryz.prog W = .ok (stpEq x y) W := by
  obtain ⟨k, a, b⟩ := x
  obtain ⟨l, c, e⟩ := y
  have hs : Tryz.prog.stoodInHeld 58 = false := by kernel_rfl
  have q0 := eq_i64 9998 k l
  have q1 := eq_mvD 9997 a b c e
  rw [Op.equalIn]
  generalize hE : Op.equalIn 9999 = E at *
  clear hE
  by_cases h1 : k = l
  · by_cases h2 : a = c ∧ b = e
    · obtain ⟨h2, h3⟩ := h2
      subst h1; subst h2; subst h3
      simp [mvEq] at q0 q1
      simp [go_sem, hs, q0, q1, stpEq]
    · subst h1
      have h3 : mvEq a b c e = false := by unfold mvEq; exact decide_eq_false h2
      have h4 : stpEq (k, a, b) (k, c, e) = false := by
        unfold stpEq
        rw [decide_eq_false_iff_not]
        intro e; cases e; exact h2 ⟨rfl, rfl⟩
      rw [h3] at q1
      simp at q0
      simp [go_sem, hs, q0, q1, h4]
  · have h4 : stpEq (k, a, b) (l, c, e) = false := by
      unfold stpEq
      rw [decide_eq_false_iff_not]
      intro e; cases e; exact h1 rfl
    simp [h1] at q0
    simp [go_sem, hs, q0, h4]

set_option maxRecDepth 100000 in
set_option maxHeartbeats 1600000 in
theorem pmSteps_c (xs ys : List St) (v u : Value) (w : World) (hx : RdS w v xs) (hy : RdS w u ys) :
    Calls Tryz.prog 8 #[v, u] w fun e w' => e = .returned (.bool (decide (xs = ys))) ∧ Below w.heap.size w w' := by
  obtain ⟨A, cap, rfl, hn, hc, hcell⟩ := hx.open
  obtain ⟨A', cap', rfl, hn', hc', hcell'⟩ := hy.open
  clear hx hy
  rcases Nat.lt_or_ge ys.length xs.length with hle | hle
  · have hm : min (xs.length : Int) (ys.length : Int) = ys.length := by omega
    have HLE := Lib.hid hle
    clear hle
    go_enter Tryz.func8, Tryz.ntmps8
    go_wp2
    go_loopw [11] (fun i wr => ∃ (k : Nat), k ≤ ys.length ∧ i = .int .i64 k ∧ Hid (xs.take k = ys.take k) ∧ Below w.heap.size w wr) (fun i _ => ys.length - (intOf i).toNat)
    case atStart => exact ⟨0, by omega, rfl, by show _ = _; simp, Below.refl _ _⟩
    case round =>
      obtain ⟨k, hk, rfl, ht, hb⟩ := hrel
      by_cases hlt : k < ys.length
      · have hlt1 : k < xs.length := by have := HLE.out; omega
        have hlt2 : k < ys.length := by have := HLE.out; omega
        obtain ⟨b, off, rfl, hbl, hc0, hc1, hc2⟩ := hcell k hlt1
        obtain ⟨b', off', rfl, hbl', hc0', hc1', hc2'⟩ := hcell' k hlt2
        have hd0 := (hb.cell (p := ⟨b, off + k * 3, none⟩) hbl).trans hc0
        have hd1 := (hb.cell (p := ⟨b, off + k * 3 + 1, none⟩) hbl).trans hc1
        have hd2 := (hb.cell (p := ⟨b, off + k * 3 + 2, none⟩) hbl).trans hc2
        have hd5 := (hb.cell (p := ⟨b', off' + k * 3, none⟩) hbl').trans hc0'
        have hd3 := (hb.cell (p := ⟨b', off' + k * 3 + 1, none⟩) hbl').trans hc1'
        have hd4 := (hb.cell (p := ⟨b', off' + k * 3 + 2, none⟩) hbl').trans hc2'
        clear hc0 hc1 hc2 hcell hc0' hc1' hc2' hcell'
        have i1 : (k : Int) < (ys.length : Int) := by omega
        go_wp2
        have hx0 : ∀ x : Ext w.heap.size wr, x.val.cell? ⟨b, off + k * 3, none⟩ = some (.int .i64 xs[k].1) := fun x => (x.property.cell (p := ⟨b, _, none⟩) hbl).trans hd0
        have hx1 : ∀ x : Ext w.heap.size wr, x.val.cell? ⟨b, off + k * 3 + 1, none⟩ = some (.string xs[k].2.1) := fun x => (x.property.cell (p := ⟨b, _, none⟩) hbl).trans hd1
        have hx2 : ∀ x : Ext w.heap.size wr, x.val.cell? ⟨b, off + k * 3 + 2, none⟩ = some (.string xs[k].2.2) := fun x => (x.property.cell (p := ⟨b, _, none⟩) hbl).trans hd2
        have hx5 : ∀ x : Ext w.heap.size wr, x.val.cell? ⟨b', off' + k * 3, none⟩ = some (.int .i64 ys[k].1) := fun x => (x.property.cell (p := ⟨b', _, none⟩) hbl').trans hd5
        have hx3 : ∀ x : Ext w.heap.size wr, x.val.cell? ⟨b', off' + k * 3 + 1, none⟩ = some (.string ys[k].2.1) := fun x => (x.property.cell (p := ⟨b', _, none⟩) hbl').trans hd3
        have hx4 : ∀ x : Ext w.heap.size wr, x.val.cell? ⟨b', off' + k * 3 + 2, none⟩ = some (.string ys[k].2.2) := fun x => (x.property.cell (p := ⟨b', _, none⟩) hbl').trans hd4
        clear hd0 hd1 hd2 hd3 hd4 hd5
        have i0 : (0 : Int) ≤ (k : Int) := by omega
        have i2 : (k : Int) < xs.length := by omega
        have i3 : (k : Int) < ys.length := by omega
        have hE := fun W => eq_stp xs[k] ys[k] W
        refine wp_region_ext w.heap.size (by kernel_rfl) (by kernel_rfl) ?_
        repeat (go_big_quiet_step (fail))
        refine wpQuiet_nil ?_
        intro w2 hw'
        obtain ⟨xw, hxw⟩ := hw'
        have hb2 := xw.property
        rw [← hxw] at hb2
        clear hxw xw
        clear hx0 hx1 hx2 hx3 hx4 hx5 hE
        go_wp2
        · have h : (!stpEq xs[k] ys[k]) = true := by assumption
          go_ret
          refine ⟨?_, hb.trans hb2⟩
          have : ¬ xs = ys := by
            intro e; subst e; exact stpEq_no h rfl
          simp [this]
        · have h : (!stpEq xs[k] ys[k]) = false := by assumption
          go_roundw
          case rel =>
            refine ⟨k + 1, by omega, by go_num, ?_, hb.trans hb2⟩
            show _ = _
            rw [take_snoc xs k hlt1, take_snoc ys k hlt2, ht.out, stpEq_yes h]
          case measure => simp [intOf]; omega
      · have hk' : k = ys.length := by omega
        have h2 := ht.out
        have h3 := HLE.out
        rw [hk'] at h2
        have HD : Hid (((xs.length : Int) == (ys.length : Int)) = decide (xs = ys)) := by
          show _ = _
          by_cases he : xs.length = ys.length
          · rw [List.take_of_length_le (by omega), List.take_of_length_le (by omega)] at h2
            rw [h2]; simp
          · have h4 : ¬ xs = ys := fun e => he (by rw [e])
            have h5 : ¬ ((xs.length : Int) = (ys.length : Int)) := by omega
            rw [decide_eq_false h4]
            simpa using h5
        clear h2 h3 ht
        go_wp2
        go_ret
        exact ⟨by rw [← HD.out]; rfl, hb⟩
  · have hm : min (xs.length : Int) (ys.length : Int) = xs.length := by omega
    have HLE := Lib.hid hle
    clear hle
    go_enter Tryz.func8, Tryz.ntmps8
    go_wp2
    go_loopw [11] (fun i wr => ∃ (k : Nat), k ≤ xs.length ∧ i = .int .i64 k ∧ Hid (xs.take k = ys.take k) ∧ Below w.heap.size w wr) (fun i _ => xs.length - (intOf i).toNat)
    case atStart => exact ⟨0, by omega, rfl, by show _ = _; simp, Below.refl _ _⟩
    case round =>
      obtain ⟨k, hk, rfl, ht, hb⟩ := hrel
      by_cases hlt : k < xs.length
      · have hlt1 : k < xs.length := by have := HLE.out; omega
        have hlt2 : k < ys.length := by have := HLE.out; omega
        obtain ⟨b, off, rfl, hbl, hc0, hc1, hc2⟩ := hcell k hlt1
        obtain ⟨b', off', rfl, hbl', hc0', hc1', hc2'⟩ := hcell' k hlt2
        have hd0 := (hb.cell (p := ⟨b, off + k * 3, none⟩) hbl).trans hc0
        have hd1 := (hb.cell (p := ⟨b, off + k * 3 + 1, none⟩) hbl).trans hc1
        have hd2 := (hb.cell (p := ⟨b, off + k * 3 + 2, none⟩) hbl).trans hc2
        have hd5 := (hb.cell (p := ⟨b', off' + k * 3, none⟩) hbl').trans hc0'
        have hd3 := (hb.cell (p := ⟨b', off' + k * 3 + 1, none⟩) hbl').trans hc1'
        have hd4 := (hb.cell (p := ⟨b', off' + k * 3 + 2, none⟩) hbl').trans hc2'
        clear hc0 hc1 hc2 hcell hc0' hc1' hc2' hcell'
        have i1 : (k : Int) < (xs.length : Int) := by omega
        go_wp2
        have hx0 : ∀ x : Ext w.heap.size wr, x.val.cell? ⟨b, off + k * 3, none⟩ = some (.int .i64 xs[k].1) := fun x => (x.property.cell (p := ⟨b, _, none⟩) hbl).trans hd0
        have hx1 : ∀ x : Ext w.heap.size wr, x.val.cell? ⟨b, off + k * 3 + 1, none⟩ = some (.string xs[k].2.1) := fun x => (x.property.cell (p := ⟨b, _, none⟩) hbl).trans hd1
        have hx2 : ∀ x : Ext w.heap.size wr, x.val.cell? ⟨b, off + k * 3 + 2, none⟩ = some (.string xs[k].2.2) := fun x => (x.property.cell (p := ⟨b, _, none⟩) hbl).trans hd2
        have hx5 : ∀ x : Ext w.heap.size wr, x.val.cell? ⟨b', off' + k * 3, none⟩ = some (.int .i64 ys[k].1) := fun x => (x.property.cell (p := ⟨b', _, none⟩) hbl').trans hd5
        have hx3 : ∀ x : Ext w.heap.size wr, x.val.cell? ⟨b', off' + k * 3 + 1, none⟩ = some (.string ys[k].2.1) := fun x => (x.property.cell (p := ⟨b', _, none⟩) hbl').trans hd3
        have hx4 : ∀ x : Ext w.heap.size wr, x.val.cell? ⟨b', off' + k * 3 + 2, none⟩ = some (.string ys[k].2.2) := fun x => (x.property.cell (p := ⟨b', _, none⟩) hbl').trans hd4
        clear hd0 hd1 hd2 hd3 hd4 hd5
        have i0 : (0 : Int) ≤ (k : Int) := by omega
        have i2 : (k : Int) < xs.length := by omega
        have i3 : (k : Int) < ys.length := by omega
        have hE := fun W => eq_stp xs[k] ys[k] W
        refine wp_region_ext w.heap.size (by kernel_rfl) (by kernel_rfl) ?_
        repeat (go_big_quiet_step (fail))
        refine wpQuiet_nil ?_
        intro w2 hw'
        obtain ⟨xw, hxw⟩ := hw'
        have hb2 := xw.property
        rw [← hxw] at hb2
        clear hxw xw
        clear hx0 hx1 hx2 hx3 hx4 hx5 hE
        go_wp2
        · have h : (!stpEq xs[k] ys[k]) = true := by assumption
          go_ret
          refine ⟨?_, hb.trans hb2⟩
          have : ¬ xs = ys := by
            intro e; subst e; exact stpEq_no h rfl
          simp [this]
        · have h : (!stpEq xs[k] ys[k]) = false := by assumption
          go_roundw
          case rel =>
            refine ⟨k + 1, by omega, by go_num, ?_, hb.trans hb2⟩
            show _ = _
            rw [take_snoc xs k hlt1, take_snoc ys k hlt2, ht.out, stpEq_yes h]
          case measure => simp [intOf]; omega
      · have hk' : k = xs.length := by omega
        have h2 := ht.out
        have h3 := HLE.out
        rw [hk'] at h2
        have HD : Hid (((xs.length : Int) == (ys.length : Int)) = decide (xs = ys)) := by
          show _ = _
          by_cases he : xs.length = ys.length
          · rw [List.take_of_length_le (by omega), List.take_of_length_le (by omega)] at h2
            rw [h2]; simp
          · have h4 : ¬ xs = ys := fun e => he (by rw [e])
            have h5 : ¬ ((xs.length : Int) = (ys.length : Int)) := by omega
            rw [decide_eq_false h4]
            simpa using h5
        clear h2 h3 ht
        go_wp2
        go_ret
        exact ⟨by rw [← HD.out]; rfl, hb⟩
end Go.Proofs.YtfedloljhocpgaaGreatDoor
namespace Go.PM
open Go.RowKit
theorem rdN_take (xs : List Mv) (k : Nat) (hk : k < xs.length) (a : ByteArray) : rdN (xs.take (k + 1)) a = rdN (xs.take k) a + if xs[k].2 = a then 1 else 0 := by
  rw [take_snoc xs k hk]
  unfold rdN
  rw [List.map_append, List.count_append, List.map_cons, List.map_nil, List.count_cons]
  simp
theorem instM_take (a b : ByteArray) (xs : List Mv) (k : Nat) (hk : k < xs.length) : instM a b (xs.take (k + 1)) = instM a b (xs.take k) ++ [(xs[k].1, if xs[k].2 = a then b else xs[k].2)] := by
  rw [take_snoc xs k hk]
  unfold instM
  rw [List.map_append, List.map_cons, List.map_nil]
  by_cases h : xs[k].2 = a
  · rw [if_pos h, if_pos h]
  · rw [if_neg h, if_neg h]
def readB (xs : List Mv) (a : ByteArray) : Bool := decide (rdN xs a ≠ 0)
theorem readB_at {xs : List Mv} {k : Nat} (hk : k < xs.length) {a : ByteArray} (h : xs[k].2 = a) : readB xs a = true := by
  unfold readB
  rw [decide_eq_true_eq]
  intro e
  exact rdN_zero.1 e _ (List.getElem_mem hk) h
theorem readB_no {xs : List Mv} {a : ByteArray} (h : rdN xs a = 0) : readB xs a = false := by
  unfold readB; rw [decide_eq_false_iff_not]; exact fun e => e h
end Go.PM
namespace Go.Proofs.YtfedloljhocpgaaGreatDoor
open Go.RowKit Go.PM
attribute [local go_sem] Oper.semAt_some

set_option maxRecDepth 100000 in
set_option maxHeartbeats 800000 in
theorem l5Read_c (xs : List Mv) (v : Value) (a : ByteArray) (w : World) (hx : RdM w v xs) :
    Calls Tryz.prog 147 #[v, .string a] w fun e w' => e = .returned (.bool (readB xs a)) ∧ Below w.heap.size w w' := by
  obtain ⟨A, cap, rfl, hn, hc, hcell⟩ := hx.open
  have HRN := Lib.hid (readB_no (xs := xs) (a := a))
  go_enter Tryz.func147, Tryz.ntmps147
  go_wp2
  go_loopw [6, 9] (fun _ i wr => ∃ (k : Nat), k ≤ xs.length ∧ i = .int .i64 k ∧ Hid (rdN (xs.take k) a = 0) ∧ Below w.heap.size w wr) (fun _ i _ => xs.length - (intOf i).toNat)
  case atStart => exact ⟨0, by omega, rfl, by show _ = _; simp [rdN], Below.refl _ _⟩
  case round =>
    obtain ⟨k, hk, rfl, hm, hb⟩ := hrel
    have hbs := hb.size
    by_cases hlt : k < xs.length
    · obtain ⟨b, off, rfl, hbl, hc1, hc2⟩ := hcell k hlt
      have hd1 := (hb.cell (p := ⟨b, off + k * 2, none⟩) hbl).trans hc1
      have hd2 := (hb.cell (p := ⟨b, off + k * 2 + 1, none⟩) hbl).trans hc2
      clear hc1 hc2 hcell
      have HR := Lib.hid (rdN_take xs k hlt a)
      have HY := Lib.hid (readB_at (xs := xs) (a := a) hlt)
      generalize xs[k].1 = x1 at *
      generalize xs[k].2 = x2 at *
      go_wp2
      · have h : (x2.toList == a.toList) = true := by assumption
        rw [beq_str, decide_eq_true_eq] at h
        go_ret
        exact ⟨by rw [HY.out h]; rfl, by (repeat' (first | (with_reducible exact Below.refl _ _) | (with_reducible assumption) | (with_reducible refine Below.alloc ?_ ?_ _) | (with_reducible refine Below.drew ?_) | (with_reducible refine Below.setCell ?_ ?_ _) | (with_reducible exact Nat.le_refl _) | omega | ((repeat (first | rewrite [World.size_alloc] | rewrite [World.size_setCell] | rewrite [World.size_drew])); omega) | (simp; omega) | (simp; done)))⟩
      · have h : (x2.toList == a.toList) = false := by assumption
        rw [beq_str, decide_eq_false_iff_not] at h
        go_roundw
        case rel => exact ⟨k + 1, by omega, by go_num, by show _ = _; rw [HR.out, hm.out, if_neg h], by (repeat' (first | (with_reducible exact Below.refl _ _) | (with_reducible assumption) | (with_reducible refine Below.alloc ?_ ?_ _) | (with_reducible refine Below.drew ?_) | (with_reducible refine Below.setCell ?_ ?_ _) | (with_reducible exact Nat.le_refl _) | omega | ((repeat (first | rewrite [World.size_alloc] | rewrite [World.size_setCell] | rewrite [World.size_drew])); omega) | (simp; omega) | (simp; done)))⟩
        case measure => simp [intOf]; omega
    · have hk' : k = xs.length := by omega
      have h1 := hm.out
      rw [hk', List.take_of_length_le (Nat.le_refl _)] at h1
      have HF := Lib.hid (HRN.out h1)
      clear h1 hk'
      go_wp2
      go_ret
      exact ⟨by rw [HF.out]; rfl, hb⟩
set_option maxRecDepth 100000 in
set_option maxHeartbeats 1600000 in
theorem l5Instead_c (xs : List Mv) (v : Value) (a c : ByteArray) (w : World) (hx : RdM w v xs) (hn' : xs.length ≤ 1048575) :
    Calls Tryz.prog 97 #[v, .string a, .string c] w fun e w' => ∃ v', e = .returned v' ∧ w'.ownsRow w.heap.size 56 2 v' (instM a c xs).length (mcells (instM a c xs)) ∧ Below w.heap.size w w' := by
  obtain ⟨A, cap, rfl, hn, hc, hcell⟩ := hx.open
  have hE := World.ownsRow_lit (e := 56) (base := w.heap.size) (size := 2) w #[] 0 (Nat.le_refl _) (Nat.zero_le _) rfl
  have HL := Lib.hid (fun k => instM_len a c (xs.take k))
  go_enter Tryz.func97, Tryz.ntmps97
  go_wp2
  go_loopw [7, 9, 13] (fun o _ i wr => ∃ (k : Nat), k ≤ xs.length ∧ i = .int .i64 k ∧ wr.ownsRow w.heap.size 56 2 o (instM a c (xs.take k)).length (mcells (instM a c (xs.take k))) ∧ Below w.heap.size w wr) (fun _ _ i _ => xs.length - (intOf i).toNat)
  case atStart => exact ⟨0, by omega, rfl, hE, by (repeat' (first | (with_reducible exact Below.refl _ _) | (with_reducible assumption) | (with_reducible refine Below.alloc ?_ ?_ _) | (with_reducible refine Below.drew ?_) | (with_reducible refine Below.setCell ?_ ?_ _) | (with_reducible exact Nat.le_refl _) | omega | ((repeat (first | rewrite [World.size_alloc] | rewrite [World.size_setCell] | rewrite [World.size_drew])); omega) | (simp; omega) | (simp; done)))⟩
  case round =>
    obtain ⟨k, hk, rfl, ho, hb⟩ := hrel
    have hbs := hb.size
    by_cases hlt : k < xs.length
    · obtain ⟨b, off, rfl, hbl, hc1, hc2⟩ := hcell k hlt
      have hd1 := (hb.cell (p := ⟨b, off + k * 2, none⟩) hbl).trans hc1
      have hd2 := (hb.cell (p := ⟨b, off + k * 2 + 1, none⟩) hbl).trans hc2
      have hst := instM_take a c xs k hlt
      have hle := HL.out k
      rw [List.length_take] at hle
      clear hc1 hc2 hcell
      generalize xs[k].1 = x1 at *
      generalize xs[k].2 = x2 at *
      have HST := Lib.hid hst
      clear hst
      generalize instM a c (xs.take k) = ys at *
      by_cases hxa : x2 = a
      · have hbq : (x2.toList == a.toList) = true := by rw [beq_str]; simpa using hxa
        have hs := HST.out
        rw [if_pos hxa] at hs
        have HS := Lib.hid hs
        clear hs hxa
        have hnw := two_new (wr.alloc (.cells #[.string x1, .string c] 56)) (.string x1) (.string c) 56
        rw [World.size_alloc] at hnw
        go_wp2_with (at_builtin; refine held ?_)
        unfold Held
        refine app_mv rfl (.tmp 23) (.tmp 25) rfl w.heap.size u7 ys (x1, c) ⟨wr.heap.size + 1, 0, none⟩ 1 (by rfl) (by rfl) (own_keep (own_keep ho ((Below.refl _ _).alloc (Nat.le_refl _) _)) ((Below.refl _ _).alloc (Nat.le_refl _) _)) hnw (by omega) (by simp; omega) ?_
        intro v' w3 hown3 hgrow3
        have hb3 := below_grown hgrow3 (B := w.heap.size) (by simp; omega) (own_block_ge ho)
        have hbx : Below w.heap.size w ((wr.alloc (.cells #[.string x1, .string c] 56)).alloc (.cells #[.string x1, .string c] 56)) := by (repeat' (first | (with_reducible exact Below.refl _ _) | (with_reducible assumption) | (with_reducible refine Below.alloc ?_ ?_ _) | (with_reducible refine Below.drew ?_) | (with_reducible refine Below.setCell ?_ ?_ _) | (with_reducible exact Nat.le_refl _) | omega | ((repeat (first | rewrite [World.size_alloc] | rewrite [World.size_setCell] | rewrite [World.size_drew])); omega) | (simp; omega) | (simp; done)))
        have hb4 := hbx.trans hb3
        rw [← HS.out] at hown3
        clear hnw hgrow3 hb3 hbx
        go_wp2
        go_roundw
        case rel => exact ⟨k + 1, by omega, by go_num, hown3, hb4⟩
        case measure => simp [intOf]; omega
      · have hbq : (x2.toList == a.toList) = false := by rw [beq_str]; simpa using hxa
        have hs := HST.out
        rw [if_neg hxa] at hs
        have HS := Lib.hid hs
        clear hs hxa
        have hnw := two_new (wr.alloc (.cells #[.string x1, .string x2] 56)) (.string x1) (.string x2) 56
        rw [World.size_alloc] at hnw
        go_wp2_with (at_builtin; refine held ?_)
        unfold Held
        refine app_mv rfl (.tmp 23) (.tmp 25) rfl w.heap.size u7 ys (x1, x2) ⟨wr.heap.size + 1, 0, none⟩ 1 (by rfl) (by rfl) (own_keep (own_keep ho ((Below.refl _ _).alloc (Nat.le_refl _) _)) ((Below.refl _ _).alloc (Nat.le_refl _) _)) hnw (by omega) (by simp; omega) ?_
        intro v' w3 hown3 hgrow3
        have hb3 := below_grown hgrow3 (B := w.heap.size) (by simp; omega) (own_block_ge ho)
        have hbx : Below w.heap.size w ((wr.alloc (.cells #[.string x1, .string x2] 56)).alloc (.cells #[.string x1, .string x2] 56)) := by (repeat' (first | (with_reducible exact Below.refl _ _) | (with_reducible assumption) | (with_reducible refine Below.alloc ?_ ?_ _) | (with_reducible refine Below.drew ?_) | (with_reducible refine Below.setCell ?_ ?_ _) | (with_reducible exact Nat.le_refl _) | omega | ((repeat (first | rewrite [World.size_alloc] | rewrite [World.size_setCell] | rewrite [World.size_drew])); omega) | (simp; omega) | (simp; done)))
        have hb4 := hbx.trans hb3
        rw [← HS.out] at hown3
        clear hnw hgrow3 hb3 hbx
        go_wp2
        go_roundw
        case rel => exact ⟨k + 1, by omega, by go_num, hown3, hb4⟩
        case measure => simp [intOf]; omega
    · have hk' : k = xs.length := by omega
      have ho2 := ho
      rw [hk', List.take_of_length_le (Nat.le_refl _)] at ho2
      clear hk' ho
      go_wp2
      go_ret
      exact ⟨_, rfl, ho2, hb⟩
end Go.Proofs.YtfedloljhocpgaaGreatDoor
namespace Go.PM
open Go.RowKit
theorem add_off (b off j : Nat) : (⟨b, off, none⟩ : Addr).add j = ⟨b, off + j, none⟩ := by
  unfold Addr.add; split <;> simp_all
theorem own_lit1 (w : World) (e : TypeId) (base B : Nat) (hB : w.heap.size = B) (hb : base ≤ B) : (w.alloc (.cells #[] e)).drew.ownsRow base e 2 (.slice (some ⟨B, 0, none⟩) 0 0) ([] : List Mv).length (mcells []) := by
  subst hB
  exact World.ownsRow_lit (e := e) (base := base) (size := 2) w #[] 0 hb (Nat.zero_le _) rfl
end Go.PM
namespace Go.Proofs.YtfedloljhocpgaaGreatDoor
open Go.RowKit Go.PM
attribute [local go_sem] Oper.semAt_some

theorem step_appM {ops : Array Oper} {o : Oper} {a : Act} {w : World} {K : Act → World → Prop} {Q : Exit → Act → World → Prop} {E : Prop} (hgd : o.guard = none) (s x : Operand)
    (ho : o.op = .call { callee := .builtin .append, args := #[s, x], argTypes := #[23, 23] })
    (base : Nat) (v : Value) (ys zs : List Mv) (ad : Addr) (c : Nat) (hs : a.eval s = v) (hx : a.eval x = .slice (some ad) zs.length c)
    (hown : w.ownsRow base 56 2 v ys.length (mcells ys)) (hnew : ∀ j u, (mcells zs)[j]? = some u → w.cell? (ad.add j) = some u)
    (hlen : ys.length + zs.length ≤ 1048576) (hbase : base ≤ w.heap.size)
    (h : ∀ v' w', Hid (w'.ownsRow base 56 2 v' (ys ++ zs).length (mcells (ys ++ zs))) → w.grownBy w' v.ownBlock → K (a.put o.dst v') w') :
    if Region.wanted o (yielded ops a.tmps) = true then Oper.wp Tryz.prog o a w K Q else E := by
  have hw : Region.wanted o (yielded ops a.tmps) = true := by simp [Region.wanted, hgd]
  rw [if_pos hw]
  obtain ⟨i0, hi0, hz0, hz1, hz2⟩ := info_parts infoMv
  obtain ⟨v', w', hr, h2, h3, _⟩ := run_append_own (P := Tryz.prog) w base 23 o.type 56 i0 _ 2 32 Tryz.underlying23 hi0 hz0 hz1 hz2 rfl (by omega) v ys.length (mcells ys) hown ad zs.length c (mcells zs) (mcells_length zs) hnew (mcells_one zs) (by simp only [maxLen]; omega) (by omega) hbase
  unfold Oper.wp
  simp [execOp, ho, resolve, invoke, builtin, hs, hx, hr, Result.andThen]
  refine h v' w' ?_ h3
  show World.ownsRow _ _ _ _ _ _ _
  rw [mcells_append, List.length_append]
  exact h2

set_option maxRecDepth 100000 in
set_option maxHeartbeats 3200000 in
theorem l5Next_c (xs : List Mv) (v : Value) (w : World) (hx : RdM w v xs) (hn' : xs.length ≤ 1048575) (hne : ∀ m ∈ xs, m.1 ≠ m.2) :
    Calls Tryz.prog 96 #[v] w fun e w' => e = .returned (.int .i64 (aheadZ xs)) ∧ Below w.heap.size w w' := by
  have hx0 := hx
  obtain ⟨A, cap, rfl, hn, hc, hcell⟩ := hx.open
  have HZ := Lib.hid (aheadZ_none (xs := xs))
  have HK := Lib.hid (fun k hk h => aheadZ_at (xs := xs) (k := k) hk h)
  have HRD := Lib.hid (fun ys v a W h => l5Read_c ys v a W h)
  have HNE := Lib.hid hne
  clear hne hx
  go_enter Tryz.func96, Tryz.ntmps96
  go_wp2
  go_loopw [3, 4, 5, 8] (fun _ _ _ i wr => ∃ (k : Nat), k ≤ xs.length ∧ i = .int .i64 k ∧ Below w.heap.size w wr ∧ Hid (∀ j (hj : j < k) (hj2 : j < xs.length), freeB xs xs[j] = false)) (fun _ _ _ i _ => xs.length - (RowKit.intOf i).toNat)
  case atStart => exact ⟨0, by omega, rfl, Below.refl _ _, fun j hj => by omega⟩
  case round =>
    obtain ⟨k, hk, rfl, hb, hm⟩ := hrel
    have hbs := hb.size
    by_cases hlt : k < xs.length
    · obtain ⟨b, off, rfl, hbl, hc1, hc2⟩ := hcell k hlt
      have hd1 := (hb.cell (p := ⟨b, off + k * 2, none⟩) hbl).trans hc1
      have hd2 := (hb.cell (p := ⟨b, off + k * 2 + 1, none⟩) hbl).trans hc2
      have hsrc := Rd.cellsFrom hx0
      have hcp : ∀ (W : World), Below w.heap.size w W → ∀ (j : Nat) (u : Value), (mcells (xs.take k))[j]? = some u → W.cell? ((⟨b, off, none⟩ : Addr).add j) = some u := fun W hW j u h => by
        rw [add_off]
        refine (hW.cell hbl).trans (hsrc j u ?_)
        rw [← mcells_take, List.getElem?_take] at h
        split at h
        · exact h
        · cases h
      have hcq : ∀ (W : World), Below w.heap.size w W → ∀ (j : Nat) (u : Value), (mcells (xs.drop (k + 1)))[j]? = some u → W.cell? ((⟨b, off + (k + 1) * 2, none⟩ : Addr).add j) = some u := fun W hW j u h => by
        rw [add_off, Nat.add_assoc]
        refine (hW.cell hbl).trans (hsrc _ u ?_)
        rw [← mcells_drop, List.getElem?_drop] at h
        exact h
      have hltk : (xs.take k).length = k := by rw [List.length_take]; omega
      have hldk : (xs.drop (k + 1)).length = xs.length - (k + 1) := by rw [List.length_drop]
      have hsum : (xs.take k).length + (xs.drop (k + 1)).length ≤ 1048576 := by omega
      have i0 : (0 : Int) ≤ (k : Int) := by omega
      have i1 : (k : Int) ≤ (xs.length : Int) := by omega
      have i2 : (k : Int) + 1 ≤ (xs.length : Int) := by omega
      have HER : Hid (xs.take k ++ xs.drop (k + 1) = xs.eraseIdx k) := by show _ = _; rw [List.eraseIdx_eq_take_drop_succ]
      have HFB : Hid (readB (xs.eraseIdx k) xs[k].1 = !freeB xs xs[k]) := by
        show _ = _
        have h1 := rdN_erase xs k hlt xs[k].1
        rw [if_neg (fun e => HNE.out _ (List.getElem_mem hlt) e.symm), Nat.add_zero] at h1
        unfold readB freeB
        rw [h1]
        by_cases e : rdN (xs.eraseIdx k) xs[k].1 = 0 <;> simp [e]
      have HKK := Lib.hid (fun h => HK.out k hlt h)
      have HNX : Hid (freeB xs xs[k] = false → ∀ j (hj : j < k + 1) (hj2 : j < xs.length), freeB xs xs[j] = false) := fun h j hj hj2 => by
        by_cases e : j = k
        · subst e; exact h
        · exact hm.out j (by omega) hj2
      have HCP := Lib.hid hcp
      have HCQ := Lib.hid hcq
      clear hc1 hc2 hcell hcp hcq hsrc
      generalize hfb : freeB xs xs[k] = fb at *
      clear hfb
      generalize xs[k].1 = x1 at *
      generalize xs[k].2 = x2 at *
      generalize xs.take k = p1 at *
      generalize xs.drop (k + 1) = p2 at *
      generalize xs.eraseIdx k = er at *
      have HB1 : Hid (Below w.heap.size w (wr.alloc (.cells #[.string x1, .string x2] 56))) := hb.alloc hbs _
      have n1 : k ≤ cap := by omega
      have n2 : k + 1 ≤ xs.length := by omega
      have n3 : k + 1 ≤ cap := by omega
      have n4 : IntKind.i64.wrap ((k : Int) + 1) = (k : Int) + 1 := IntWalk.i64_in _ ⟨by omega, by omega⟩
      have n5 : ((k : Int) + 1).toNat = k + 1 := by omega
      have n6 : (0 : Int) ≤ (k : Int) + 1 := by omega
      by_cases hcap : cap = k + 1
      · subst hcap
        have hp20 : p2.length = 0 := by omega
        have n7 : (k : Int) ≤ (k : Int) + 1 := by omega
        have HCZ : Hid (∀ (W : World) (j : Nat) (u : Value), (mcells p2)[j]? = some u → W.cell? ((⟨b, off, none⟩ : Addr).add j) = some u) := fun W j u h => by
          have : p2 = [] := List.length_eq_zero_iff.1 (by omega)
          rw [this] at h; simp [mcells] at h
        go_wp2
        go_region_law (first
          | (refine step_appM rfl (.tmp 13) (.tmp 16) rfl (wr.heap.size + 1) (.slice (some ⟨wr.heap.size + 1, 0, none⟩) 0 0) [] p1 ⟨b, off, none⟩ (k + 1) (by rfl) (by rw [hltk]; rfl) (own_lit1 _ _ _ _ (by simp) (by omega)) (HCP.out _ (by (repeat' (first | (with_reducible exact Below.refl _ _) | (with_reducible assumption) | (with_reducible refine Below.alloc ?_ ?_ _) | (with_reducible refine Below.drew ?_) | (with_reducible refine Below.setCell ?_ ?_ _) | (with_reducible exact Nat.le_refl _) | omega | ((repeat (first | rewrite [World.size_alloc] | rewrite [World.size_setCell] | rewrite [World.size_drew])); omega) | (simp; omega) | (simp; done))))) (by simp; omega) (by simp only [World.size_alloc, World.size_drew]; omega) ?_; intro v1 w1 ho1 hg1; have hb1 := Below.trans (show Below w.heap.size w ((wr.alloc (.cells #[.string x1, .string x2] 56)).alloc (.cells #[] 56)).drew by (repeat' (first | (with_reducible exact Below.refl _ _) | (with_reducible assumption) | (with_reducible refine Below.alloc ?_ ?_ _) | (with_reducible refine Below.drew ?_) | (with_reducible refine Below.setCell ?_ ?_ _) | (with_reducible exact Nat.le_refl _) | omega | ((repeat (first | rewrite [World.size_alloc] | rewrite [World.size_setCell] | rewrite [World.size_drew])); omega) | (simp; omega) | (simp; done)))) (below_grown hg1 (by simp; omega) (fun g e => by have e' : some (wr.heap.size + 1) = some g := e; cases e'; omega)))
          | (refine step_appM rfl (.tmp 17) (.tmp 21) rfl (wr.heap.size + 1) _ _ p2 ⟨b, off, none⟩ 0 (by rfl) (by rw [hp20]; rfl) ho1.out (HCZ.out _) (by simpa using hsum) (by have := hg1.size; simp at this; omega) ?_; intro v2 w2 ho2 hg2))
        have hz1 := hg1.size
        have hz2 := hg2.size
        simp only [World.size_alloc, World.size_drew] at hz1
        have hrd2 : RdM w2 v2 er := by
          have := Rd.of_own ho2.out
          rw [List.nil_append, HER.out] at this
          exact this
        have hge1 := own_block_ge ho1.out
        have hN0 : At ((wr.alloc (.cells #[.string x1, .string x2] 56)).alloc (.cells #[] 56)).drew wr.heap.size 56 #[.string x1, .string x2] := (At.new wr 56 #[.string x1, .string x2]).alloc _
        have hN1 : At w1 wr.heap.size 56 #[.string x1, .string x2] := hN0.grown hg1 (by intro e; have e' : some wr.heap.size = some (wr.heap.size + 1) := e; have := Option.some.inj e'; omega)
        have hN2 : At w2 wr.heap.size 56 #[.string x1, .string x2] := hN1.grown hg2 (fun e => by have := hge1 _ e.symm; omega)
        have q1 : w2.cell? ⟨wr.heap.size, 0, none⟩ = some (.string x1) := hN2.cell 0
        have hb2 : Below w.heap.size w w2 := hb1.trans (below_grown hg2 (by omega) (fun g e => by have := hge1 g e; omega))
        have hs2 := hb2.size
        clear hg1 hg2 hN0 hN1 hN2 ho1 ho2 hd1 hd2 hb1
        have HRR := Lib.hid (HRD.out er v2 x1 w2 hrd2)
        rw [HFB.out] at HRR
        clear hrd2
        cases fb with
        | true =>
          go_wp2_with (go_at_call 147; refine HRR.out.mono ?_; rintro e w3 ⟨rfl, hb3⟩)
          go_ret
          exact ⟨by rw [HKK.out (fun j hj => hm.out j hj (by omega)) (by first | trivial | rfl)]; rfl, hb2.trans (hb3.mono hs2)⟩
        | false =>
          go_wp2_with (go_at_call 147; refine HRR.out.mono ?_; rintro e w3 ⟨rfl, hb3⟩)
          go_roundw
          case rel => exact ⟨k + 1, by omega, by go_num, hb2.trans (hb3.mono hs2), HNX.out (by first | trivial | rfl)⟩
          case measure => simp [RowKit.intOf]; omega
      · go_wp2
        go_region_law (first
          | (refine step_appM rfl (.tmp 13) (.tmp 16) rfl (wr.heap.size + 1) (.slice (some ⟨wr.heap.size + 1, 0, none⟩) 0 0) [] p1 ⟨b, off, none⟩ cap (by rfl) (by rw [hltk]; rfl) (own_lit1 _ _ _ _ (by simp) (by omega)) (HCP.out _ (by (repeat' (first | (with_reducible exact Below.refl _ _) | (with_reducible assumption) | (with_reducible refine Below.alloc ?_ ?_ _) | (with_reducible refine Below.drew ?_) | (with_reducible refine Below.setCell ?_ ?_ _) | (with_reducible exact Nat.le_refl _) | omega | ((repeat (first | rewrite [World.size_alloc] | rewrite [World.size_setCell] | rewrite [World.size_drew])); omega) | (simp; omega) | (simp; done))))) (by simp; omega) (by simp only [World.size_alloc, World.size_drew]; omega) ?_; intro v1 w1 ho1 hg1; have hb1 := Below.trans (show Below w.heap.size w ((wr.alloc (.cells #[.string x1, .string x2] 56)).alloc (.cells #[] 56)).drew by (repeat' (first | (with_reducible exact Below.refl _ _) | (with_reducible assumption) | (with_reducible refine Below.alloc ?_ ?_ _) | (with_reducible refine Below.drew ?_) | (with_reducible refine Below.setCell ?_ ?_ _) | (with_reducible exact Nat.le_refl _) | omega | ((repeat (first | rewrite [World.size_alloc] | rewrite [World.size_setCell] | rewrite [World.size_drew])); omega) | (simp; omega) | (simp; done)))) (below_grown hg1 (by simp; omega) (fun g e => by have e' : some (wr.heap.size + 1) = some g := e; cases e'; omega)))
          | (refine step_appM rfl (.tmp 17) (.tmp 21) rfl (wr.heap.size + 1) _ _ p2 ⟨b, off + (k + 1) * 2, none⟩ (cap - (k + 1)) (by rfl) (by rw [hldk]; rfl) ho1.out (HCQ.out _ hb1) (by simpa using hsum) (by have := hg1.size; simp at this; omega) ?_; intro v2 w2 ho2 hg2))
        have hz1 := hg1.size
        have hz2 := hg2.size
        simp only [World.size_alloc, World.size_drew] at hz1
        have hrd2 : RdM w2 v2 er := by
          have := Rd.of_own ho2.out
          rw [List.nil_append, HER.out] at this
          exact this
        have hge1 := own_block_ge ho1.out
        have hN0 : At ((wr.alloc (.cells #[.string x1, .string x2] 56)).alloc (.cells #[] 56)).drew wr.heap.size 56 #[.string x1, .string x2] := (At.new wr 56 #[.string x1, .string x2]).alloc _
        have hN1 : At w1 wr.heap.size 56 #[.string x1, .string x2] := hN0.grown hg1 (by intro e; have e' : some wr.heap.size = some (wr.heap.size + 1) := e; have := Option.some.inj e'; omega)
        have hN2 : At w2 wr.heap.size 56 #[.string x1, .string x2] := hN1.grown hg2 (fun e => by have := hge1 _ e.symm; omega)
        have q1 : w2.cell? ⟨wr.heap.size, 0, none⟩ = some (.string x1) := hN2.cell 0
        have hb2 : Below w.heap.size w w2 := hb1.trans (below_grown hg2 (by omega) (fun g e => by have := hge1 g e; omega))
        have hs2 := hb2.size
        clear hg1 hg2 hN0 hN1 hN2 ho1 ho2 hd1 hd2 hb1
        have HRR := Lib.hid (HRD.out er v2 x1 w2 hrd2)
        rw [HFB.out] at HRR
        clear hrd2
        cases fb with
        | true =>
          go_wp2_with (go_at_call 147; refine HRR.out.mono ?_; rintro e w3 ⟨rfl, hb3⟩)
          go_ret
          exact ⟨by rw [HKK.out (fun j hj => hm.out j hj (by omega)) (by first | trivial | rfl)]; rfl, hb2.trans (hb3.mono hs2)⟩
        | false =>
          go_wp2_with (go_at_call 147; refine HRR.out.mono ?_; rintro e w3 ⟨rfl, hb3⟩)
          go_roundw
          case rel => exact ⟨k + 1, by omega, by go_num, hb2.trans (hb3.mono hs2), HNX.out (by first | trivial | rfl)⟩
          case measure => simp [RowKit.intOf]; omega
    · have hz := HZ.out fun j hj => hm.out j (by omega) hj
      have HZZ := Lib.hid hz
      clear hz
      go_wp2
      go_ret
      exact ⟨by rw [HZZ.out]; rfl, hb⟩
end Go.Proofs.YtfedloljhocpgaaGreatDoor
namespace Go.PM
open Go.RowKit
theorem rows_ne {w : World} {base base' : Nat} {e e' : TypeId} {size size' n n' : Nat} {v v' : Value} {cs cs' : List Value} (h : w.ownsRow base e size v n cs) (h' : w.ownsRow base' e' size' v' n' cs') (hne : e ≠ e') : v.ownBlock ≠ v'.ownBlock ∨ v'.ownBlock = none := by
  rcases h'.2 with ⟨rfl, _⟩ | ⟨g, cap, cur, rfl, _, hg, _⟩
  · exact .inr rfl
  · refine .inl fun e1 => ?_
    rcases h.2 with ⟨rfl, _⟩ | ⟨g2, cap2, cur2, rfl, _, hg2, _⟩
    · cases e1
    · cases e1
      rw [hg] at hg2
      cases hg2
      exact hne rfl
theorem redM_spec {ws : List Mv} (h : Wt ws) {i : Nat} (hi : i < ws.length) : redM ws[i] (ws.eraseIdx i) = if isP ws[i].2 = true then instM ws[i].2 ws[i].1 (ws.eraseIdx i) else ws.eraseIdx i := by
  have hm := List.getElem_mem hi
  unfold redM
  rcases h.from_ _ hm with h1 | h1 | h1
  · rw [if_neg (by rw [(isP_cases h1).1]; decide), if_pos h1]
  · rw [if_pos h1, if_neg (by rw [(isD_cases h1).1]; decide)]
  · rw [h1, if_neg (by rw [spT_cases.2]; decide), if_neg (by rw [spT_cases.1]; decide)]
    refine instM_none ?_
    have h2 := rdN_erase ws i hi spT
    rw [if_pos h1] at h2
    have := h.one
    omega
theorem redM_spec0 {ws : List Mv} (h : Wt ws) (h0 : 0 < ws.length) : redM (spT, ws[0].1) ws = instM ws[0].1 spT ws := by
  unfold redM
  rw [if_neg (by show ¬ isD ws[0].1 = true; rw [(isP_cases (h.to_ _ (List.getElem_mem h0))).1]; decide)]
def OrdS (w : World) (e f : TypeId) (xs : List Mv) (k : Nat) (ov wv : Value) (A : World) : Prop :=
  ∃ (pre ws : List Mv), pre ++ ordF k ws = ordF 19 xs ∧ Wt ws ∧ muW ws ≤ k ∧ ws.length ≤ 9 ∧ A.ownsRow w.heap.size e 2 wv ws.length (mcells ws) ∧ A.ownsRow w.heap.size f 3 ov pre.length (scells (stL pre)) ∧ Below w.heap.size w A
end Go.PM
namespace Go.Proofs.YtfedloljhocpgaaGreatDoor
open Go.RowKit Go.PM
attribute [local go_sem] Oper.semAt_some

theorem app_stp {ops : Array Oper} {rest : List Oper} {o : Oper} {a : Act} {Q : Exit → Act → World → Prop} {w : World} (hgd : o.guard = none) (s x : Operand)
    (ho : o.op = .call { callee := .builtin .append, args := #[s, x], argTypes := #[25, 25] })
    (base : Nat) (v : Value) (ys : List Mv) (m : Mv) (ad : Addr) (c : Nat) (hs : a.eval s = v) (hx : a.eval x = .slice (some ad) 1 c)
    (hown : w.ownsRow base 58 3 v ys.length (scells (stL ys))) (hnew : ∀ j u, [Value.int .i64 0, Value.string m.1, Value.string m.2][j]? = some u → w.cell? (ad.add j) = some u)
    (hlen : ys.length ≤ 1048576) (hbase : base ≤ w.heap.size)
    (h : ∀ v' w', w'.ownsRow base 58 3 v' (ys ++ [m]).length (scells (stL (ys ++ [m]))) → w.grownBy w' v.ownBlock → wpList Tryz.prog ops Q rest (a.put o.dst v') w') : wpList Tryz.prog ops Q (o :: rest) a w := by
  obtain ⟨i0, hi0, hz0, hz1, hz2⟩ := info_parts infoStp
  refine wpList_append_own w hgd s x _ ho base 58 i0 _ 3 40 Tryz.underlying25 hi0 hz0 hz1 hz2 rfl (by omega) v ys.length (scells (stL ys)) hs hown ad 1 c [Value.int .i64 0, Value.string m.1, Value.string m.2] hx rfl hnew
    (by intro u hu; simp at hu; rcases hu with rfl | rfl | rfl <;> rfl) (by simp only [maxLen]; omega) (by omega) hbase ?_
  intro v' w' h2 h3 _
  refine h v' w' ?_ h3
  have hcs : scells (stL ys) ++ [Value.int .i64 0, Value.string m.1, Value.string m.2] = scells (stL (ys ++ [m])) := by unfold stL; rw [List.map_append, scells_append]; simp [scells, stpM]
  rw [← hcs, List.length_append]
  simpa using h2

set_option maxRecDepth 100000 in
set_option maxHeartbeats 6400000 in
theorem l5Order_c (xs : List Mv) (h1 : MV xs) (v : Value) (w : World) (hx : RdM w v xs) :
    Calls Tryz.prog 41 #[v] w fun e w' => ∃ v', e = .returned v' ∧ w'.ownsRow w.heap.size 58 3 v' (ordF 19 (busyF xs 9)).length (scells (stL (ordF 19 (busyF xs 9)))) ∧ Below w.heap.size w w' := by
  have hW := busyF_Wt h1
  have hl9 := busyF_len xs 9
  have HNX := Lib.hid (fun ws wv A hx hl hn => l5Next_c ws wv A hx (by omega : ws.length ≤ 1048575) hn)
  have HIN := Lib.hid (fun ws wv a c A hx hl => l5Instead_c ws wv a c A hx (by omega : ws.length ≤ 1048575))
  have hE0 := World.ownsRow_lit (e := 58) (base := w.heap.size) (size := 3) w #[] 0 (Nat.le_refl _) (Nat.zero_le _) rfl
  have hb0 : Below w.heap.size w (w.alloc (.cells #[] 58)) := (Below.refl _ _).alloc (Nat.le_refl _) _
  have HB := Lib.hid (l1Busy_c xs v _ (hx.below hb0))
  go_enter Tryz.func41, Tryz.ntmps41
  go_wp2_with (go_at_call 95; refine HB.out.mono ?_; rintro e w1 ⟨v1, rfl, ho1, hb1⟩; refine held ?_)
  unfold Held
  have hb01 := hb0.trans (hb1.mono (by simp))
  have hR0 : OrdS w 56 58 (busyF xs 9) 19 (.slice (some ⟨w.heap.size, 0, none⟩) 0 0) v1 w1 :=
    ⟨[], busyF xs 9, rfl, hW, by have := hl9; unfold muW; split <;> omega, hl9, own_more ho1 hb0.size, own_keep hE0 hb1, hb01⟩
  clear hE0 hb0 HB ho1 hb1 hb01 hx hl9 hW h1
  generalize hbe : busyF xs 9 = bs at *
  have HBE := Lib.hid hbe
  clear hbe
  go_wp2
  go_loopw [3, 4, 5, 6, 7] (fun ov wv _ _ _ wr => ∃ k, OrdS w 56 58 bs k ov wv wr) (fun ov wv _ _ _ wr => leastK (fun k => OrdS w 56 58 bs k ov wv wr))
  case atStart => exact ⟨19, hR0⟩
  case round =>
    obtain ⟨hru, _⟩ := leastK_spec hrel
    generalize hkk : leastK (fun k => OrdS w 56 58 bs k u3 u4 wr) = kk at *
    have HKK := Lib.hid hkk
    clear hrel hkk hR0
    obtain ⟨pre, ws, hpr, hwt, hmu, h9, ho, hov, hb⟩ := hru
    have hbs := hb.size
    have hrd : RdM wr u4 ws := Rd.of_own ho
    obtain ⟨A, cap, rfl, hn1, hc1, hcell⟩ := hrd.open
    have hpl : pre.length ≤ 100 := by
      have h1 := congrArg List.length hpr
      rw [List.length_append] at h1
      have h2 := ordF_len 19 bs
      omega
    by_cases h0 : 0 < ws.length
    · obtain ⟨k, rfl⟩ : ∃ k', kk = k' + 1 := ⟨kk - 1, by unfold muW at hmu; omega⟩
      obtain ⟨b, off, rfl, hbl, d1', d2'⟩ := hcell 0 h0
      have hblo := (own_lt ho)
      have hcs : ∀ q (hq : q < ws.length), wr.cell? ⟨b, off + q * 2, none⟩ = some (.string ws[q].1) ∧ wr.cell? ⟨b, off + q * 2 + 1, none⟩ = some (.string ws[q].2) := fun q hq => by
        obtain ⟨b', off', e, _, q1, q2⟩ := hcell q hq
        cases e; exact ⟨q1, q2⟩
      have d1 : wr.cell? ⟨b, off, none⟩ = some (.string ws[0].1) := by simpa using d1'
      have i00 : (0 : Int) < (ws.length : Int) := by omega
      have hnx := HNX.out ws _ wr hrd (by omega) hwt.ne
      clear d1' d2' hcell
      rcases aheadZ_lt ws with hz | ⟨i, hi, hz, ha⟩
      · have ha := aheadI_of_neg hz
        have hof := ordF_none (n := k) h0 ha
        have hrn := hwt.none_ h0 ha
        have hrs := redM_spec0 hwt h0
        have hmn := muW_none hwt h0 ha
        rw [hrs] at hof hrn hmn
        have hin := HIN.out ws (.slice (some ⟨b, off, none⟩) ws.length cap) ws[0].1 spT
        have hnw := three_new
        have HNEW : Hid ((pre ++ [(spT, ws[0].1)]) ++ ordF k (instM ws[0].1 spT ws) = ordF 19 bs ∧ Wt (instM ws[0].1 spT ws) ∧ muW (instM ws[0].1 spT ws) ≤ k ∧ (instM ws[0].1 spT ws).length ≤ 9) :=
          ⟨by rw [← hpr, hof]; simp, hrn.1, by omega, by rw [instM_len]; exact h9⟩
        have HSP : Hid (spT = ⟨#[116]⟩) := rfl
        rw [hz] at hnx
        clear hz hof hrn hrs hmn hcs ha hpr
        generalize instM ws[0].1 spT ws = ws2 at *
        generalize ws[0].1 = x1 at *
        generalize spT = sp at *
        have hsp := HSP.out
        subst hsp
        go_wp2_with (go_at_call 96; refine hnx.mono ?_; rintro e w1' ⟨rfl, hb1⟩; refine held ?_)
        unfold Held
        have e1 := (hb1.cell (p := ⟨b, off, none⟩) hbl).trans d1
        have hov1 := own_keep hov hb1
        have ho1 := own_keep ho hb1
        have hB1 := hb.trans (hb1.mono hbs)
        have hs1 := hB1.size
        clear d1 hov ho hrd hb hb1
        go_wp2_with (at_builtin; refine held ?_)
        unfold Held
        refine app_stp rfl (.tmp 22) (.tmp 26) rfl w.heap.size _ pre (⟨#[116]⟩, x1) ⟨w1'.heap.size, 0, none⟩ 1 (by rfl) (by rfl) (own_keep hov1 ((Below.refl _ _).alloc (Nat.le_refl _) _)) (three_new w1' _ _ _ _) (by omega) (by simp; omega) ?_
        intro v3 w3 hov3 hg3
        have hbx : Below w.heap.size w (w1'.alloc (.cells #[.int .i64 0, .string ⟨#[116]⟩, .string x1] 58)) := hB1.alloc hs1 _
        have hB3 := hbx.trans (below_grown hg3 (by simp; omega) (own_block_ge hov1))
        have hs3 := hB3.size
        have ho3 := own_grown (own_keep ho1 ((Below.refl _ _).alloc (Nat.le_refl _) (.cells #[.int .i64 0, .string ⟨#[116]⟩, .string x1] 58))) hg3 (rows_ne ho1 hov1 (by decide))
        have hrd3 : RdM w3 _ ws := Rd.of_own ho3
        clear hg3 hbx hB1 hov1 ho1 e1
        go_wp2_with fail
        refine (hin w3 hrd3 (by omega)).mono ?_
        rintro e w4 ⟨v4, rfl, ho4, hb4⟩
        have hOR : OrdS w 56 58 bs k v3 v4 w4 := ⟨_, ws2, HNEW.out.1, HNEW.out.2.1, HNEW.out.2.2.1, HNEW.out.2.2.2, own_more ho4 hs3, own_keep hov3 hb4, hB3.trans (hb4.mono hs3)⟩
        clear ho4 hov3 hb4 ho3 hrd3
        go_wp2
        go_roundw
        case rel => exact ⟨k, hOR⟩
        case measure =>
          rw [HKK.out]
          have := (leastK_spec (P := fun k => OrdS w 56 58 bs k v3 v4 w4) ⟨k, hOR⟩).2 _ hOR
          omega
      · have hof := ordF_some (n := k) hi ha
        have hrn := hwt.some_ hi (aheadI_some ha).2
        have hrs := redM_spec hwt hi
        have hmn := muW_some hi ws[i]
        have hlr : (redM ws[i] (ws.eraseIdx i)).length ≤ 9 := by rw [redM_len, List.length_eraseIdx_of_lt hi]; omega
        have hin := fun v => HIN.out (ws.eraseIdx i) v ws[i].2 ws[i].1
        have hle9 : (ws.eraseIdx i).length ≤ 9 := by rw [List.length_eraseIdx_of_lt hi]; omega
        have HNEW : Hid ((pre ++ [ws[i]]) ++ ordF k (redM ws[i] (ws.eraseIdx i)) = ordF 19 bs ∧ Wt (redM ws[i] (ws.eraseIdx i)) ∧ muW (redM ws[i] (ws.eraseIdx i)) ≤ k ∧ (redM ws[i] (ws.eraseIdx i)).length ≤ 9) :=
          ⟨by rw [← hpr, hof]; simp, hrn, by omega, hlr⟩
        have HRS := Lib.hid hrs
        have hci := hcs i hi
        have i0 : (0 : Int) ≤ (i : Int) := by omega
        have i1 : (i : Int) < (ws.length : Int) := by omega
        rw [hz] at hnx
        clear hz hof hrn hrs hmn hcs ha hpr hlr d1
        generalize redM ws[i] (ws.eraseIdx i) = ws2 at *
        rw [show ws[i] = (ws[i].1, ws[i].2) from rfl] at HNEW
        generalize ws[i].1 = x1 at *
        generalize ws[i].2 = x2 at *
        go_wp2_with (go_at_call 96; refine hnx.mono ?_; rintro e w1' ⟨rfl, hb1⟩; refine held ?_)
        unfold Held
        have e1 := (hb1.cell (p := ⟨b, off + i * 2, none⟩) hbl).trans hci.1
        have e2 := (hb1.cell (p := ⟨b, off + i * 2 + 1, none⟩) hbl).trans hci.2
        have hov1 := own_keep hov hb1
        have ho1 := own_keep ho hb1
        have hB1 := hb.trans (hb1.mono hbs)
        have hs1 := hB1.size
        clear hov ho hrd hb hb1 hci
        have hN1 := At.new w1' 56 #[.string x1, .string x2]
        have hax : Below w1'.heap.size w1' (w1'.alloc (.cells #[.string x1, .string x2] 56)) := (Below.refl _ _).alloc (Nat.le_refl _) _
        have hov1b := own_keep hov1 hax
        have ho1b := own_keep ho1 hax
        have hnw := three_new (w1'.alloc (.cells #[.string x1, .string x2] 56)) (.int .i64 0) (.string x1) (.string x2) 58
        rw [World.size_alloc] at hnw
        go_wp2_with (at_builtin; refine held ?_)
        unfold Held
        refine app_stp rfl (.tmp 35) (.tmp 38) rfl w.heap.size _ pre (x1, x2) ⟨w1'.heap.size + 1, 0, none⟩ 1 (by rfl) (by rfl) (own_keep hov1b ((Below.refl _ _).alloc (Nat.le_refl _) _)) hnw (by omega) (by simp; omega) ?_
        intro v3 wx hov3 hg3
        have hbx : Below w.heap.size w ((w1'.alloc (.cells #[.string x1, .string x2] 56)).alloc (.cells #[.int .i64 0, .string x1, .string x2] 58)) := (hB1.alloc hs1 _).alloc (by simp; omega) _
        have hB3 := hbx.trans (below_grown hg3 (by simp; omega) (own_block_ge hov1))
        have hs3 := hB3.size
        have ho3 := own_grown (own_keep ho1b ((Below.refl _ _).alloc (Nat.le_refl _) (.cells #[.int .i64 0, .string x1, .string x2] 58))) hg3 (rows_ne ho1b hov1b (by decide))
        have hN3 := (hN1.alloc (.cells #[.int .i64 0, .string x1, .string x2] 58)).grown hg3 (own_box_ne hov1b hN1 (by decide))
        have hrdx : RdM wx (.slice (some ⟨b, off, none⟩) ws.length cap) ws := Rd.of_own ho3
        have hblx : b < wx.heap.size := (own_blk ho3 rfl).1
        have hsrc := Rd.cellsFrom hrdx
        clear hg3 hbx hB1 hov1 ho1 e1 e2 hov1b ho1b hax hN1 hnw hnx
        have hcp : ∀ (W : World), Below wx.heap.size wx W → ∀ (j : Nat) (u : Value), (mcells (ws.take i))[j]? = some u → W.cell? ((⟨b, off, none⟩ : Addr).add j) = some u := fun W hW j u h => by
          rw [add_off]
          refine (hW.cell hblx).trans (hsrc j u ?_)
          rw [← mcells_take, List.getElem?_take] at h
          split at h
          · exact h
          · cases h
        have hcq : ∀ (W : World), Below wx.heap.size wx W → ∀ (j : Nat) (u : Value), (mcells (ws.drop (i + 1)))[j]? = some u → W.cell? ((⟨b, off + (i + 1) * 2, none⟩ : Addr).add j) = some u := fun W hW j u h => by
          rw [add_off, Nat.add_assoc]
          refine (hW.cell hblx).trans (hsrc _ u ?_)
          rw [← mcells_drop, List.getElem?_drop] at h
          exact h
        have hltk : (ws.take i).length = i := by rw [List.length_take]; omega
        have hldk : (ws.drop (i + 1)).length = ws.length - (i + 1) := by rw [List.length_drop]
        have hsum : (ws.take i).length + (ws.drop (i + 1)).length ≤ 1048576 := by omega
        have i2 : (i : Int) + 1 ≤ (ws.length : Int) := by omega
        have i3 : (i : Int) ≤ (ws.length : Int) := by omega
        have HER : Hid (ws.take i ++ ws.drop (i + 1) = ws.eraseIdx i) := by show _ = _; rw [List.eraseIdx_eq_take_drop_succ]
        have HCP := Lib.hid hcp
        have HCQ := Lib.hid hcq
        have n1 : i ≤ cap := by omega
        have n2 : i + 1 ≤ ws.length := by omega
        have n3 : i + 1 ≤ cap := by omega
        have n4 : IntKind.i64.wrap ((i : Int) + 1) = (i : Int) + 1 := IntWalk.i64_in _ ⟨by omega, by omega⟩
        have n5 : ((i : Int) + 1).toNat = i + 1 := by omega
        have n6 : (0 : Int) ≤ (i : Int) + 1 := by omega
        clear hcp hcq hsrc
        generalize ws.take i = p1 at *
        generalize ws.drop (i + 1) = p2 at *
        by_cases hcap : cap = i + 1
        · subst hcap
          have hp20 : p2.length = 0 := by omega
          have n7 : (i : Int) ≤ (i : Int) + 1 := by omega
          have HCZ : Hid (∀ (W : World) (j : Nat) (u : Value), (mcells p2)[j]? = some u → W.cell? ((⟨b, off, none⟩ : Addr).add j) = some u) := fun W j u h => by
            have : p2 = [] := List.length_eq_zero_iff.1 (by omega)
            rw [this] at h; simp [mcells] at h
          go_wp2
          go_region_law (first
                    | (refine step_appM rfl (.tmp 40) (.tmp 43) rfl wx.heap.size (.slice (some ⟨wx.heap.size, 0, none⟩) 0 0) [] p1 ⟨b, off, none⟩ (i + 1) (by rfl) (by rw [hltk]; rfl) (own_lit1 _ _ _ _ rfl (Nat.le_refl _)) (HCP.out _ (by (repeat' (first | (with_reducible exact Below.refl _ _) | (with_reducible assumption) | (with_reducible refine Below.alloc ?_ ?_ _) | (with_reducible refine Below.drew ?_) | (with_reducible refine Below.setCell ?_ ?_ _) | (with_reducible exact Nat.le_refl _) | omega | ((repeat (first | rewrite [World.size_alloc] | rewrite [World.size_setCell] | rewrite [World.size_drew])); omega) | (simp; omega) | (simp; done))))) (by simp; omega) (by simp) ?_; intro vq wq ho1 hg1; have hb1' := Below.trans (show Below wx.heap.size wx ((wx.alloc (.cells #[] 56)).drew) by (repeat' (first | (with_reducible exact Below.refl _ _) | (with_reducible assumption) | (with_reducible refine Below.alloc ?_ ?_ _) | (with_reducible refine Below.drew ?_) | (with_reducible refine Below.setCell ?_ ?_ _) | (with_reducible exact Nat.le_refl _) | omega | ((repeat (first | rewrite [World.size_alloc] | rewrite [World.size_setCell] | rewrite [World.size_drew])); omega) | (simp; omega) | (simp; done)))) (below_grown hg1 (by simp) (fun g e => by have e' : some wx.heap.size = some g := e; cases e'; omega)))
                    | (refine step_appM rfl (.tmp 44) (.tmp 48) rfl wx.heap.size _ _ p2 ⟨b, off, none⟩ 0 (by rfl) (by rw [hp20]; rfl) ho1.out (HCZ.out _) (by simpa using hsum) (by have := hg1.size; simp at this; omega) ?_; intro v2 w2 ho2 hg2))
          have hz1 := hg1.size
          have hz2 := hg2.size
          simp only [World.size_alloc, World.size_drew] at hz1
          have hge1 := own_block_ge ho1.out
          have hb2 : Below wx.heap.size wx w2 := hb1'.trans (below_grown hg2 (by omega) (fun g e => by have := hge1 g e; omega))
          have ho2' : w2.ownsRow wx.heap.size 56 2 v2 (ws.eraseIdx i).length (mcells (ws.eraseIdx i)) := by
            have := ho2.out
            rw [List.nil_append, HER.out] at this
            exact this
          have HO2 := Lib.hid ho2'
          clear hg1 hg2 ho1 ho2 hb1' ho2' hge1 hz1 hz2 HCP HCQ HER
          
          have q1 := hN3.keep hb2
          have q11 : w2.cell? ⟨w1'.heap.size, 0, none⟩ = some (.string x1) := q1.cell 0
          have q12 : w2.cell? ⟨w1'.heap.size, 1, none⟩ = some (.string x2) := q1.cell 1
          have hov4 := own_keep hov3 hb2
          have hB4 := hB3.trans (hb2.mono hs3)
          have hs4 := hB4.size
          have hs5 := hb2.size
          clear q1 hN3 hov3 hrdx ho3 hB3 hb2
          rcases Bool.eq_false_or_eq_true (isP x2) with hp | hp
          · have hr := HRS.out
            rw [if_pos hp] at hr
            have hrd5 : RdM w2 v2 (ws.eraseIdx i) := Rd.of_own HO2.out
            have HI := Lib.hid (hin v2 w2 hrd5 (by omega))
            rw [← hr] at HI
            clear hr hrd5 hin
            go_wp2_with (first | (go_at_call 92; refine (l1Place_c _ _).mono ?_; rintro e w' ⟨rfl, rfl⟩) | (go_at_call 97; refine HI.out.mono ?_; rintro e w6 ⟨v6, rfl, ho6, hb6⟩; refine held ?_))
            unfold Held
            have hOR : OrdS w 56 58 bs k v3 v6 w6 := ⟨_, ws2, HNEW.out.1, HNEW.out.2.1, HNEW.out.2.2.1, HNEW.out.2.2.2, own_more ho6 hs4, own_keep hov4 hb6, hB4.trans (hb6.mono hs4)⟩
            clear ho6 hov4 hb6 hB4
            go_wp2
            go_roundw
            case rel => exact ⟨k, hOR⟩
            case measure =>
              rw [HKK.out]
              have := (leastK_spec (P := fun k => OrdS w 56 58 bs k v3 v6 w6) ⟨k, hOR⟩).2 _ hOR
              omega
          · have hr := HRS.out
            rw [if_neg (by rw [hp]; decide)] at hr
            have ho7 := HO2.out
            rw [← hr] at ho7
            have hOR : OrdS w 56 58 bs k v3 v2 w2 := ⟨_, ws2, HNEW.out.1, HNEW.out.2.1, HNEW.out.2.2.1, HNEW.out.2.2.2, own_more ho7 (by omega), hov4, hB4⟩
            clear hr ho7 hov4 hB4 hin
            go_wp2_with (go_at_call 92; refine (l1Place_c _ _).mono ?_; rintro e w' ⟨rfl, rfl⟩)
            go_roundw
            case rel => exact ⟨k, hOR⟩
            case measure =>
              rw [HKK.out]
              have := (leastK_spec (P := fun k => OrdS w 56 58 bs k v3 v2 w2) ⟨k, hOR⟩).2 _ hOR
              omega
        · go_wp2
          go_region_law (first
                    | (refine step_appM rfl (.tmp 40) (.tmp 43) rfl wx.heap.size (.slice (some ⟨wx.heap.size, 0, none⟩) 0 0) [] p1 ⟨b, off, none⟩ cap (by rfl) (by rw [hltk]; rfl) (own_lit1 _ _ _ _ rfl (Nat.le_refl _)) (HCP.out _ (by (repeat' (first | (with_reducible exact Below.refl _ _) | (with_reducible assumption) | (with_reducible refine Below.alloc ?_ ?_ _) | (with_reducible refine Below.drew ?_) | (with_reducible refine Below.setCell ?_ ?_ _) | (with_reducible exact Nat.le_refl _) | omega | ((repeat (first | rewrite [World.size_alloc] | rewrite [World.size_setCell] | rewrite [World.size_drew])); omega) | (simp; omega) | (simp; done))))) (by simp; omega) (by simp) ?_; intro vq wq ho1 hg1; have hb1' := Below.trans (show Below wx.heap.size wx ((wx.alloc (.cells #[] 56)).drew) by (repeat' (first | (with_reducible exact Below.refl _ _) | (with_reducible assumption) | (with_reducible refine Below.alloc ?_ ?_ _) | (with_reducible refine Below.drew ?_) | (with_reducible refine Below.setCell ?_ ?_ _) | (with_reducible exact Nat.le_refl _) | omega | ((repeat (first | rewrite [World.size_alloc] | rewrite [World.size_setCell] | rewrite [World.size_drew])); omega) | (simp; omega) | (simp; done)))) (below_grown hg1 (by simp) (fun g e => by have e' : some wx.heap.size = some g := e; cases e'; omega)))
                    | (refine step_appM rfl (.tmp 44) (.tmp 48) rfl wx.heap.size _ _ p2 ⟨b, off + (i + 1) * 2, none⟩ (cap - (i + 1)) (by rfl) (by rw [hldk]; rfl) ho1.out (HCQ.out _ hb1') (by simpa using hsum) (by have := hg1.size; simp at this; omega) ?_; intro v2 w2 ho2 hg2))
          have hz1 := hg1.size
          have hz2 := hg2.size
          simp only [World.size_alloc, World.size_drew] at hz1
          have hge1 := own_block_ge ho1.out
          have hb2 : Below wx.heap.size wx w2 := hb1'.trans (below_grown hg2 (by omega) (fun g e => by have := hge1 g e; omega))
          have ho2' : w2.ownsRow wx.heap.size 56 2 v2 (ws.eraseIdx i).length (mcells (ws.eraseIdx i)) := by
            have := ho2.out
            rw [List.nil_append, HER.out] at this
            exact this
          have HO2 := Lib.hid ho2'
          clear hg1 hg2 ho1 ho2 hb1' ho2' hge1 hz1 hz2 HCP HCQ HER
          
          have q1 := hN3.keep hb2
          have q11 : w2.cell? ⟨w1'.heap.size, 0, none⟩ = some (.string x1) := q1.cell 0
          have q12 : w2.cell? ⟨w1'.heap.size, 1, none⟩ = some (.string x2) := q1.cell 1
          have hov4 := own_keep hov3 hb2
          have hB4 := hB3.trans (hb2.mono hs3)
          have hs4 := hB4.size
          have hs5 := hb2.size
          clear q1 hN3 hov3 hrdx ho3 hB3 hb2
          rcases Bool.eq_false_or_eq_true (isP x2) with hp | hp
          · have hr := HRS.out
            rw [if_pos hp] at hr
            have hrd5 : RdM w2 v2 (ws.eraseIdx i) := Rd.of_own HO2.out
            have HI := Lib.hid (hin v2 w2 hrd5 (by omega))
            rw [← hr] at HI
            clear hr hrd5 hin
            go_wp2_with (first | (go_at_call 92; refine (l1Place_c _ _).mono ?_; rintro e w' ⟨rfl, rfl⟩) | (go_at_call 97; refine HI.out.mono ?_; rintro e w6 ⟨v6, rfl, ho6, hb6⟩; refine held ?_))
            unfold Held
            have hOR : OrdS w 56 58 bs k v3 v6 w6 := ⟨_, ws2, HNEW.out.1, HNEW.out.2.1, HNEW.out.2.2.1, HNEW.out.2.2.2, own_more ho6 hs4, own_keep hov4 hb6, hB4.trans (hb6.mono hs4)⟩
            clear ho6 hov4 hb6 hB4
            go_wp2
            go_roundw
            case rel => exact ⟨k, hOR⟩
            case measure =>
              rw [HKK.out]
              have := (leastK_spec (P := fun k => OrdS w 56 58 bs k v3 v6 w6) ⟨k, hOR⟩).2 _ hOR
              omega
          · have hr := HRS.out
            rw [if_neg (by rw [hp]; decide)] at hr
            have ho7 := HO2.out
            rw [← hr] at ho7
            have hOR : OrdS w 56 58 bs k v3 v2 w2 := ⟨_, ws2, HNEW.out.1, HNEW.out.2.1, HNEW.out.2.2.1, HNEW.out.2.2.2, own_more ho7 (by omega), hov4, hB4⟩
            clear hr ho7 hov4 hB4 hin
            go_wp2_with (go_at_call 92; refine (l1Place_c _ _).mono ?_; rintro e w' ⟨rfl, rfl⟩)
            go_roundw
            case rel => exact ⟨k, hOR⟩
            case measure =>
              rw [HKK.out]
              have := (leastK_spec (P := fun k => OrdS w 56 58 bs k v3 v2 w2) ⟨k, hOR⟩).2 _ hOR
              omega

    · have : ws = [] := List.length_eq_zero_iff.1 (by omega)
      subst this
      rw [ordF_nil, List.append_nil] at hpr
      rw [hpr] at hov
      go_wp2
      go_ret
      exact ⟨_, rfl, by rw [HBE.out]; exact hov, hb⟩
set_option maxRecDepth 100000 in
set_option maxHeartbeats 1600000 in
theorem spOrderMoves_c (xs : List Mv) (v : Value) (w : World) (hx : RdM w v xs) (hz : ∀ m ∈ xs, m.1.size ≤ 9223372036854775807 ∧ m.2.size ≤ 9223372036854775807) (hn' : xs.length ≤ 1048576) :
    Calls Tryz.prog 7 #[v] w fun e w' => ∃ v', e = .returned (.tuple #[v', .bool (mvalid xs)]) ∧ w'.ownsRow w.heap.size 58 3 v' (ordM xs).length (scells (stL (ordM xs))) ∧ Below w.heap.size w w' := by
  rcases Bool.eq_false_or_eq_true (mvalid xs) with h1 | h1
  · have hO := Lib.hid (show ordM xs = ordF 19 (busyF xs 9) from if_pos h1)
    have hOC := Lib.hid (fun W h => l5Order_c xs (by simpa [mvalid] using h1) v W h)
    have HX := Lib.hid (fun W (hW : Below w.heap.size w W) => hx.below hW)
    go_enter Tryz.func7, Tryz.ntmps7
    go_wp2_with fail
    refine (spMovesValid_c xs _ _ hx hz hn').mono ?_
    rintro e w1 ⟨he, hb1⟩
    rw [h1] at he
    subst he
    have hs1 := hb1.size
    go_wp2_with fail
    refine (hOC.out _ (HX.out _ hb1)).mono ?_
    rintro e w2 ⟨v2, rfl, ho2, hb2⟩
    have hB := hb1.trans (hb2.mono hs1)
    have ho3 := own_more ho2 hs1
    rw [← hO.out] at ho3
    clear ho2 hb2
    go_wp2
    go_ret2
    exact ⟨_, by rw [h1]; rfl, ho3, hB⟩
  · have hno : ordM xs = [] := if_neg (by rw [h1]; decide)
    have HNO := Lib.hid hno
    clear hno
    go_enter Tryz.func7, Tryz.ntmps7
    go_wp2_with fail
    refine (spMovesValid_c xs _ _ hx hz hn').mono ?_
    rintro e w1 ⟨he, hb1⟩
    rw [h1] at he
    subst he
    have hs1 := hb1.size
    have hE := World.ownsRow_lit (e := 58) (base := w.heap.size) (size := 3) w1 #[] 0 (by omega) (Nat.zero_le _) rfl
    have hB := hb1.alloc hs1 (.cells #[] 58)
    go_wp2
    go_ret2
    exact ⟨_, by rw [h1]; rfl, by rw [HNO.out]; exact hE, hB⟩
end Go.Proofs.YtfedloljhocpgaaGreatDoor
namespace Go.PG
open Go.RowKit Go.PM Go.PW Go.PS Go.PD Go.Proofs.YtfedloljhocpgaaGreatDoor
theorem rd_ints {w : World} {b : Nat} {t : TypeId} (ns : List Int) (h : At w b t (icells ns).toArray) (hn : ns.length ≤ 1000) : RdI w (.slice (some ⟨b, 0, none⟩) ns.length ns.length) ns := by
  refine ⟨_, _, rfl, Nat.le_refl _, by omega, by rw [icells_length]; omega, fun _ => ⟨b, 0, rfl, h.lt, fun j u hj => ?_⟩⟩
  rw [Nat.zero_add, h.cell j]
  simpa using hj
theorem numB_dash (x : Int) (ns : List Int) : dashB (numB (x :: ns)) = numB (x :: ns) := by
  apply ba_ne
  rw [numB_some (by simp)]
  show 1 ≤ (numL (x :: ns)).toArray.size
  have h := itoa_ne x
  have h2 : 0 < (Lib.itoa x).length := List.length_pos_iff.2 h
  unfold numL
  rw [List.map_cons, Lib.join_cons, List.size_toArray, List.length_append]
  omega
theorem own_sts {w : World} {base : Nat} {e : TypeId} {v : Value} {ms : List Mv} (h : w.ownsRow base e 3 v ms.length (scells (stL ms))) : RdS w v (stL ms) := by
  have := Rd.of_own h
  unfold RdS
  rw [show (stL ms).length = ms.length by unfold stL; rw [List.length_map]]
  exact this
theorem text_M (xs : List Mv) : (⟨#[109, 111, 118, 101, 115, 32]⟩ ++ fmtB xs ++ ⟨#[10, 111, 114, 100, 101, 114, 10, 114, 105, 103, 104, 116, 10, 114, 105, 110, 103, 115, 10, 99, 108, 111, 115, 101, 100, 10, 119, 104, 101, 101, 108, 115, 10, 115, 119, 97, 112, 10, 100, 105, 114, 101, 99, 116, 10, 99, 111, 117, 110, 116, 115, 10, 117, 110, 100, 111, 10]⟩) = linesB (lsM xs) := by
  apply ByteArray.ext
  apply Array.toList_inj.1
  simp [linesB, lsM, ByteArray.data_append]
theorem zM_eq (xs : List Mv) (hm : mvalid xs = true) : dashB (if exchB xs then fmtB (undoM xs) else ⟨#[110, 111]⟩) ++ ⟨#[10]⟩ = if exchB xs then fmtB (undoM xs) ++ ⟨#[10]⟩ else ⟨#[110, 111, 10]⟩ := by
  by_cases h : exchB xs = true
  · rw [if_pos h, if_pos h, (fmt_small (Go.PO.undo_MV h)).2]
  · rw [if_neg h, if_neg h]; decide
theorem out_M (xs : List Mv) (hm : mvalid xs = true) : oF (tsM xs) 10 = (fmtB xs ++ ⟨#[10]⟩ ++ sfmtB (stL (ordM xs)) ++ ⟨#[10, 116, 114, 117, 101, 10]⟩ ++ dashB (joinB (ringsB xs)) ++ ⟨#[10]⟩ ++ dashB (joinB (Go.PW.closedB xs)) ++ ⟨#[10]⟩ ++ dashB (joinB (wheelsB xs)) ++ ⟨#[10]⟩ ++ (sfmtB (owS xs) ++ ⟨#[10]⟩) ++ (sfmtB (odS xs) ++ ⟨#[10]⟩) ++ numB [countI xs, cioI xs, cwI xs, cdI xs] ++ ⟨#[10]⟩ ++ (if exchB xs then fmtB (undoM xs) ++ ⟨#[10]⟩ else ⟨#[110, 111, 10]⟩)) := by
  have hf := few hm
  have e1 := (fmt_small hf.mv).2
  have e2 := (sfmt_small hf.v1).2
  have e3 := (sfmt_small hf.v2).2
  have e4 := (sfmt_small hf.v3).2
  have e5 : dashB (numB [countI xs, cioI xs, cwI xs, cdI xs]) = numB [countI xs, cioI xs, cwI xs, cdI xs] := numB_dash _ _
  have e6 : dashB (truB true) = ⟨#[116, 114, 117, 101]⟩ := by decide
  rw [← zM_eq xs hm]
  unfold oF tsM
  simp only [List.take_succ_cons, List.take_zero, List.foldl_cons, List.foldl_nil, sayB, e1, e2, e3, e4, e5, e6]
  generalize dashB _ = z
  apply ByteArray.ext
  apply Array.toList_inj.1
  simp [ByteArray.data_append]
end Go.PG
namespace Go.Proofs.YtfedloljhocpgaaGreatDoor
open Go.RowKit Go.PM Go.PG Go.PW Go.PS Go.PD
set_option maxRecDepth 100000 in
set_option maxHeartbeats 12800000 in
theorem exScriptMoves (w : World) (v0 : Value) (n0 : Nat) (hv : RdB w w.heap.size v0 n0) (hG : Sg w) (hT : Tp w) (hE : Et w) (hM : Ml w) :
    Calls Tryz.prog 3 #[v0] w fun e w' => e = .returned (.bool true) ∧ Below w.heap.size w w' := by
  have hv0 := hv
  obtain ⟨A, cap, rfl, hc, hn, _⟩ := hv
  by_cases hbig : 1048576 < n0
  · have t : decide ((n0 : Int) > 1048576) = true := by simp; omega
    go_enter Tryz.func3, Tryz.ntmps3
    go_wp2
    go_ret
    exact ⟨rfl, Below.refl _ _⟩
  have t : decide ((n0 : Int) > 1048576) = false := by simp; omega
  have HD := Lib.hid (drawOrderMoves_c w _ n0 hv0)
  clear hv0
  go_enter Tryz.func3, Tryz.ntmps3
  go_wp2_with fail
  refine HD.out.mono ?_
  rintro e w1 ⟨u, xs, rfl, ho, ⟨hl, hz⟩, b1⟩
  have R1 : RdM w1 u xs := Rd.of_own ho
  have hz1 : ∀ m ∈ xs, m.1.size ≤ 9223372036854775807 ∧ m.2.size ≤ 9223372036854775807 := fun m hm => by have := hz m hm; omega
  have HQ : Hid (∀ zs v u W, RdS W v zs → RdS W u zs → Calls Tryz.prog 8 #[v, u] W fun e w' => e = .returned (.bool true) ∧ Below W.heap.size W w') := fun zs v u W P Q => by
    have := pmSteps_c zs zs v u W P Q
    rwa [show decide (zs = zs) = true by simp] at this
  rcases Bool.eq_false_or_eq_true (mvalid xs) with hm | hm
  · have hf := few hm
    have hts := hf.ts
    have HIO : Hid (∀ v W, RdM W v xs → Calls Tryz.prog 6 #[v] W fun e w' => ∃ v', e = .returned (.tuple #[v', .bool true]) ∧ RdS w' v' (stL (ordM xs)) ∧ Below W.heap.size W w') := fun v W R => by
      have := imOrderMoves_c xs v W R
      rw [hm] at this
      exact this.mono fun e w' ⟨v', h1, h2, h3⟩ => ⟨v', h1, own_sts h2, h3⟩
    have HSO : Hid (∀ v W, RdM W v xs → Calls Tryz.prog 7 #[v] W fun e w' => ∃ v', e = .returned (.tuple #[v', .bool true]) ∧ RdS w' v' (stL (ordM xs)) ∧ Below W.heap.size W w') := fun v W R => by
      have := spOrderMoves_c xs v W R hz1 (by omega)
      rw [hm] at this
      exact this.mono fun e w' ⟨v', h1, h2, h3⟩ => ⟨v', h1, own_sts h2, h3⟩
    have HOW : Hid (∀ v W, RdM W v xs → Calls Tryz.prog 9 #[v] W fun e w' => ∃ v', e = .returned (.tuple #[v', .bool true]) ∧ RdS w' v' (owS xs) ∧ Below W.heap.size W w') := fun v W R => by
      have := imOrderWithSwaps_c xs v W R
      rw [hm] at this
      exact this.mono fun e w' ⟨v', h1, h2, h3⟩ => ⟨v', h1, Rd.of_own h2, h3⟩
    have HOD : Hid (∀ v W, RdM W v xs → Calls Tryz.prog 10 #[v] W fun e w' => ∃ v', e = .returned (.tuple #[v', .bool true]) ∧ RdS w' v' (odS xs) ∧ Below W.heap.size W w') := fun v W R => by
      have := imOrderDirect_c xs v W R
      rw [hm] at this
      exact this.mono fun e w' ⟨v', h1, h2, h3⟩ => ⟨v', h1, Rd.of_own h2, h3⟩
    have HUN : Hid (∀ v W, RdM W v xs → Calls Tryz.prog 11 #[v] W fun e w' => ∃ v', e = .returned (.tuple #[v', .bool (exchB xs)]) ∧ RdM w' v' (undoM xs) ∧ Below W.heap.size W w') := fun v W R => by
      have := imUndoMoves_c xs v W R
      skip
      exact this.mono fun e w' ⟨v', h1, h2, h3⟩ => ⟨v', h1, Rd.of_own h2, h3⟩
    have HRI : Hid (∀ v W, RdM W v xs → Calls Tryz.prog 12 #[v] W fun e w' => ∃ v', e = .returned (.tuple #[v', .bool true]) ∧ RdT w' v' (ringsB xs) ∧ Below W.heap.size W w') := fun v W R => by
      have := imRingsOf_c xs v W R
      rw [hm] at this
      exact this.mono fun e w' ⟨v', h1, h2, h3⟩ => ⟨v', h1, Rd.of_own h2, h3⟩
    have HCL : Hid (∀ v W, RdM W v xs → Calls Tryz.prog 13 #[v] W fun e w' => ∃ v', e = .returned (.tuple #[v', .bool true]) ∧ RdT w' v' (Go.PW.closedB xs) ∧ Below W.heap.size W w') := fun v W R => by
      have := imClosedRings_c xs v W R
      rw [hm] at this
      exact this.mono fun e w' ⟨v', h1, h2, h3⟩ => ⟨v', h1, Rd.of_own h2, h3⟩
    have HWH : Hid (∀ v W, RdM W v xs → Calls Tryz.prog 14 #[v] W fun e w' => ∃ v', e = .returned (.tuple #[v', .bool true]) ∧ RdT w' v' (wheelsB xs) ∧ Below W.heap.size W w') := fun v W R => by
      have := imWheelsOf_c xs v W R
      rw [hm] at this
      exact this.mono fun e w' ⟨v', h1, h2, h3⟩ => ⟨v', h1, Rd.of_own h2, h3⟩
    have HC1 : Hid (∀ v W, RdM W v xs → Calls Tryz.prog 20 #[v] W fun e w' => e = .returned (.int .i64 (countI xs)) ∧ Below W.heap.size W w') := fun v W R => imCountBusy_c xs v W R (by omega)
    have HC2 : Hid (∀ v W, RdM W v xs → Calls Tryz.prog 21 #[v] W fun e w' => e = .returned (.int .i64 (cioI xs)) ∧ Below W.heap.size W w') := fun v W R => imCountInOrder_c xs v W R (by omega)
    have HC3 : Hid (∀ v W, RdM W v xs → Calls Tryz.prog 22 #[v] W fun e w' => e = .returned (.int .i64 (cwI xs)) ∧ Below W.heap.size W w') := fun v W R => imCountWithSwaps_c xs v W R (by omega)
    have HC4 : Hid (∀ v W, RdM W v xs → Calls Tryz.prog 23 #[v] W fun e w' => e = .returned (.int .i64 (cdI xs)) ∧ Below W.heap.size W w') := fun v W R => imCountDirect_c xs v W R
    have q11 := mov_small hf.mv
    have hum := hf.um
    have HFM : Hid (∀ zs v W, msize zs ≤ 1048576 → RdM W v zs → Calls Tryz.prog 15 #[v] W fun e w' => e = .returned (.string (fmtB zs)) ∧ Below W.heap.size W w') := fun zs v W hz R => imFormatMoves_c zs v W R hz
    have HFS : Hid (∀ zs v W, RdS W v zs → Below w.heap.size w W → Calls Tryz.prog 16 #[v] W fun e w' => e = .returned (.string (sfmtB zs)) ∧ Below W.heap.size W w') := fun zs v W R hb => imFormatSequence_c zs v W R (hG.below hb)
    have HPJ : Hid (∀ ts v W, (joinB ts).size ≤ 180 ∧ ts.length ≤ 1000 → RdT W v ts → Calls Tryz.prog 17 #[v] W fun e w' => e = .returned (.string (dashB (joinB ts))) ∧ Below W.heap.size W w') := fun ts v W h R => pmJoin_c ts v W R (by omega) (by omega)
    have HPL : Hid (∀ t W, t.size ≤ 300 → Calls Tryz.prog 18 #[.string t, .bool true] W fun e w' => e = .returned (.string (t ++ ⟨#[10]⟩)) ∧ Below W.heap.size W w') := fun t W h => pmLine_c t true (by omega) W
    have hmu := hts (if exchB xs then fmtB (undoM xs) else ⟨#[110, 111]⟩) (by unfold tsM; simp)
    have hun : (fmtB (undoM xs)).size ≤ 300 := by
      by_cases hE : exchB xs = true
      · have h2 := fmt_small (Go.PO.undo_MV hE); omega
      · have : undoM xs = [] := by unfold undoM; rw [if_neg hE]
        rw [this]; decide
    have HPU : Hid (∀ W, Calls Tryz.prog 18 #[.string (fmtB (undoM xs)), .bool (exchB xs)] W fun e w' => e = .returned (.string (if exchB xs then fmtB (undoM xs) ++ ⟨#[10]⟩ else ⟨#[110, 111, 10]⟩)) ∧ Below W.heap.size W w') := fun W => pmLine_c _ _ (by omega) W
    have hzs : (if exchB xs then fmtB (undoM xs) ++ ⟨#[10]⟩ else ⟨#[110, 111, 10]⟩ : ByteArray).size ≤ 301 := by
      split
      · rw [ByteArray.size_append]; have : (⟨#[10]⟩ : ByteArray).size = 1 := rfl; omega
      · decide
    have HNB : Hid (∀ v W, RdI W v [countI xs, cioI xs, cwI xs, cdI xs] → Below w.heap.size w W → Calls Tryz.prog 19 #[v] W fun e w' => e = .returned (.string (numB [countI xs, cioI xs, cwI xs, cdI xs])) ∧ Below W.heap.size W w') := fun v W R hb => imFormatNumbers_c _ v W (hT.below hb) R hf.nz (by simp)
    have HRS : Hid (∀ W, Below w.heap.size w W → Calls Tryz.prog 24 #[.string (⟨#[109, 111, 118, 101, 115, 32]⟩ ++ fmtB xs ++ ⟨#[10, 111, 114, 100, 101, 114, 10, 114, 105, 103, 104, 116, 10, 114, 105, 110, 103, 115, 10, 99, 108, 111, 115, 101, 100, 10, 119, 104, 101, 101, 108, 115, 10, 115, 119, 97, 112, 10, 100, 105, 114, 101, 99, 116, 10, 99, 111, 117, 110, 116, 115, 10, 117, 110, 100, 111, 10]⟩)] W fun e w' => e = .returned (.string (oF (tsM xs) 10)) ∧ Below W.heap.size W w') := fun W hb => by
      rw [text_M]
      exact scriptMoves_c xs hm W (hG.below hb) (hT.below hb) (hE.below hb) (hM.below hb)
    have HOU := Lib.hid (out_M xs hm)
    have q1 := hts (fmtB xs) (by unfold tsM; simp)
    have q2 := hts (sfmtB (stL (ordM xs))) (by unfold tsM; simp)
    have q3 := hts (sfmtB (owS xs)) (by unfold tsM; simp)
    have q4 := hts (sfmtB (odS xs)) (by unfold tsM; simp)
    have q5 := hts (numB [countI xs, cioI xs, cwI xs, cdI xs]) (by unfold tsM; simp)
    have hd : ∀ t : ByteArray, t.size ≤ 300 → (dashB t).size ≤ 300 := fun t h => by
      unfold dashB; split
      · decide
      · exact h
    have q6 := hd _ (hts (joinB (ringsB xs)) (by unfold tsM; simp))
    have q7 := hd _ (hts (joinB (Go.PW.closedB xs)) (by unfold tsM; simp))
    have q8 := hd _ (hts (joinB (wheelsB xs)) (by unfold tsM; simp))
    have HJ1 : Hid ((joinB (ringsB xs)).size ≤ 180 ∧ (ringsB xs).length ≤ 1000) := ⟨rings_small hm, ringsB_len xs⟩
    have HJ2 : Hid ((joinB (Go.PW.closedB xs)).size ≤ 180 ∧ (Go.PW.closedB xs).length ≤ 1000) := ⟨closed_small hm, Go.PW.closedB_len xs⟩
    have HJ3 : Hid ((joinB (wheelsB xs)).size ≤ 180 ∧ (wheelsB xs).length ≤ 1000) := ⟨wheels_small hm, wheelsB_len xs⟩
    clear hd hts hun hmu HD ho hz hz1 hl hf hm hG hT hE hM
    obtain ⟨f0, hf0⟩ : ∃ t, t = fmtB xs := ⟨_, rfl⟩
    obtain ⟨s0, hs0⟩ : ∃ t, t = sfmtB (stL (ordM xs)) := ⟨_, rfl⟩
    obtain ⟨s1, hs1⟩ : ∃ t, t = sfmtB (owS xs) := ⟨_, rfl⟩
    obtain ⟨s2, hs2⟩ : ∃ t, t = sfmtB (odS xs) := ⟨_, rfl⟩
    obtain ⟨nb, hnb⟩ : ∃ t, t = numB [countI xs, cioI xs, cwI xs, cdI xs] := ⟨_, rfl⟩
    obtain ⟨j1, hj1⟩ : ∃ t, t = dashB (joinB (ringsB xs)) := ⟨_, rfl⟩
    obtain ⟨j2, hj2⟩ : ∃ t, t = dashB (joinB (Go.PW.closedB xs)) := ⟨_, rfl⟩
    obtain ⟨j3, hj3⟩ : ∃ t, t = dashB (joinB (wheelsB xs)) := ⟨_, rfl⟩
    obtain ⟨z, hzz⟩ : ∃ t, t = (if exchB xs then fmtB (undoM xs) ++ ⟨#[10]⟩ else ⟨#[110, 111, 10]⟩ : ByteArray) := ⟨_, rfl⟩
    rw [← hzz] at hzs HPU HOU
    rw [← hf0] at q1 HRS HOU
    rw [← hs0] at q2 HOU
    rw [← hs1] at q3 HOU
    rw [← hs2] at q4 HOU
    rw [← hnb] at q5 HNB HOU
    rw [← hj1] at q6 HOU
    rw [← hj2] at q7 HOU
    rw [← hj3] at q8 HOU
    have HF0 : Hid (fmtB xs = f0) := hf0.symm
    have HS0 : Hid (sfmtB (stL (ordM xs)) = s0) := hs0.symm
    have HS1 : Hid (sfmtB (owS xs) = s1) := hs1.symm
    have HS2 : Hid (sfmtB (odS xs) = s2) := hs2.symm
    have HJJ1 : Hid (dashB (joinB (ringsB xs)) = j1) := hj1.symm
    have HJJ2 : Hid (dashB (joinB (Go.PW.closedB xs)) = j2) := hj2.symm
    have HJJ3 : Hid (dashB (joinB (wheelsB xs)) = j3) := hj3.symm
    clear hf0 hs0 hs1 hs2 hnb hj1 hj2 hj3 hzz
    have c1 : (⟨#[10]⟩ : ByteArray).size = 1 := rfl
    have c2 : (⟨#[10, 116, 114, 117, 101, 10]⟩ : ByteArray).size = 6 := rfl
    have c3 : (⟨#[109, 111, 118, 101, 115, 32]⟩ : ByteArray).size = 6 := rfl
    have c4 : (⟨#[10, 111, 114, 100, 101, 114, 10, 114, 105, 103, 104, 116, 10, 114, 105, 110, 103, 115, 10, 99, 108, 111, 115, 101, 100, 10, 119, 104, 101, 101, 108, 115, 10, 115, 119, 97, 112, 10, 100, 105, 114, 101, 99, 116, 10, 99, 111, 117, 110, 116, 115, 10, 117, 110, 100, 111, 10]⟩ : ByteArray).size = 57 := rfl
    go_wp2_with fail
    refine (HIO.out _ _ R1).mono ?_
    rintro e w2 ⟨vD, rfl, D2, h⟩
    have b2 := b1.trans (h.mono b1.size)
    have R2 := R1.below h
    clear h b1 R1
    go_wp2_with fail
    refine (HSO.out _ _ R2).mono ?_
    rintro e w3 ⟨vE, rfl, E3, h⟩
    have b3 := b2.trans (h.mono b2.size)
    have R3 := R2.below h
    have D3 := D2.below h
    clear h b2 R2 D2
    go_wp2_with fail
    refine (HQ.out _ _ _ _ D3 E3).mono ?_
    rintro e w4 ⟨rfl, h⟩
    have b4 := b3.trans (h.mono b3.size)
    have R4 := R3.below h
    have D4 := D3.below h
    have E4 := E3.below h
    clear h b3 R3 D3 E3
    clear E4
    go_wp2_with fail
    refine (HOW.out _ _ R4).mono ?_
    rintro e w5 ⟨vA, rfl, A5, h⟩
    have b5 := b4.trans (h.mono b4.size)
    have R5 := R4.below h
    have D5 := D4.below h
    clear h b4 R4 D4
    go_wp2_with fail
    refine (HOD.out _ _ R5).mono ?_
    rintro e w6 ⟨vB, rfl, B6, h⟩
    have b6 := b5.trans (h.mono b5.size)
    have R6 := R5.below h
    have D6 := D5.below h
    have A6 := A5.below h
    clear h b5 R5 D5 A5
    go_wp2_with fail
    refine (HUN.out _ _ R6).mono ?_
    rintro e w7 ⟨vC, rfl, C7, h⟩
    have b7 := b6.trans (h.mono b6.size)
    have R7 := R6.below h
    have D7 := D6.below h
    have A7 := A6.below h
    have B7 := B6.below h
    clear h b6 R6 D6 A6 B6
    go_wp2_with fail
    refine (HRI.out _ _ R7).mono ?_
    rintro e w8 ⟨vX, rfl, X8, h⟩
    have b8 := b7.trans (h.mono b7.size)
    have R8 := R7.below h
    have D8 := D7.below h
    have A8 := A7.below h
    have B8 := B7.below h
    have C8 := C7.below h
    clear h b7 R7 D7 A7 B7 C7
    go_wp2_with fail
    refine (HCL.out _ _ R8).mono ?_
    rintro e w9 ⟨vY, rfl, Y9, h⟩
    have b9 := b8.trans (h.mono b8.size)
    have R9 := R8.below h
    have D9 := D8.below h
    have A9 := A8.below h
    have B9 := B8.below h
    have C9 := C8.below h
    have X9 := X8.below h
    clear h b8 R8 D8 A8 B8 C8 X8
    go_wp2_with fail
    refine (HWH.out _ _ R9).mono ?_
    rintro e w10 ⟨vZ, rfl, Z10, h⟩
    have b10 := b9.trans (h.mono b9.size)
    have R10 := R9.below h
    have D10 := D9.below h
    have A10 := A9.below h
    have B10 := B9.below h
    have C10 := C9.below h
    have X10 := X9.below h
    have Y10 := Y9.below h
    clear h b9 R9 D9 A9 B9 C9 X9 Y9
    go_wp2_with fail
    refine (HFM.out _ _ _ (by omega) R10).mono ?_
    rintro e w11 ⟨rfl, h⟩
    have b11 := b10.trans (h.mono b10.size)
    have R11 := R10.below h
    have D11 := D10.below h
    have A11 := A10.below h
    have B11 := B10.below h
    have C11 := C10.below h
    have X11 := X10.below h
    have Y11 := Y10.below h
    have Z11 := Z10.below h
    clear h b10 R10 D10 A10 B10 C10 X10 Y10 Z10
    rw [HF0.out]
    go_wp2_with fail
    refine (HFM.out _ _ _ (by omega) R11).mono ?_
    rintro e w12 ⟨rfl, h⟩
    have b12 := b11.trans (h.mono b11.size)
    have R12 := R11.below h
    have D12 := D11.below h
    have A12 := A11.below h
    have B12 := B11.below h
    have C12 := C11.below h
    have X12 := X11.below h
    have Y12 := Y11.below h
    have Z12 := Z11.below h
    clear h b11 R11 D11 A11 B11 C11 X11 Y11 Z11
    rw [HF0.out]
    go_wp2_with fail
    refine (HFS.out _ _ _ D12 b12).mono ?_
    rintro e w13 ⟨rfl, h⟩
    have b13 := b12.trans (h.mono b12.size)
    have R13 := R12.below h
    have D13 := D12.below h
    have A13 := A12.below h
    have B13 := B12.below h
    have C13 := C12.below h
    have X13 := X12.below h
    have Y13 := Y12.below h
    have Z13 := Z12.below h
    clear h b12 R12 D12 A12 B12 C12 X12 Y12 Z12
    rw [HS0.out]
    clear D13
    go_wp2_with fail
    refine (HPJ.out _ _ _ HJ1.out X13).mono ?_
    rintro e w14 ⟨rfl, h⟩
    have b14 := b13.trans (h.mono b13.size)
    have R14 := R13.below h
    have A14 := A13.below h
    have B14 := B13.below h
    have C14 := C13.below h
    have X14 := X13.below h
    have Y14 := Y13.below h
    have Z14 := Z13.below h
    clear h b13 R13 A13 B13 C13 X13 Y13 Z13
    rw [HJJ1.out]
    clear X14
    go_wp2_with fail
    refine (HPJ.out _ _ _ HJ2.out Y14).mono ?_
    rintro e w15 ⟨rfl, h⟩
    have b15 := b14.trans (h.mono b14.size)
    have R15 := R14.below h
    have A15 := A14.below h
    have B15 := B14.below h
    have C15 := C14.below h
    have Y15 := Y14.below h
    have Z15 := Z14.below h
    clear h b14 R14 A14 B14 C14 Y14 Z14
    rw [HJJ2.out]
    clear Y15
    go_wp2_with fail
    refine (HPJ.out _ _ _ HJ3.out Z15).mono ?_
    rintro e w16 ⟨rfl, h⟩
    have b16 := b15.trans (h.mono b15.size)
    have R16 := R15.below h
    have A16 := A15.below h
    have B16 := B15.below h
    have C16 := C15.below h
    have Z16 := Z15.below h
    clear h b15 R15 A15 B15 C15 Z15
    rw [HJJ3.out]
    clear Z16
    go_wp2_with fail
    refine (HFS.out _ _ _ A16 b16).mono ?_
    rintro e w17 ⟨rfl, h⟩
    have b17 := b16.trans (h.mono b16.size)
    have R17 := R16.below h
    have A17 := A16.below h
    have B17 := B16.below h
    have C17 := C16.below h
    clear h b16 R16 A16 B16 C16
    rw [HS1.out]
    clear A17
    go_wp2_with fail
    refine (HPL.out _ _ (by omega)).mono ?_
    rintro e w18 ⟨rfl, h⟩
    have b18 := b17.trans (h.mono b17.size)
    have R18 := R17.below h
    have B18 := B17.below h
    have C18 := C17.below h
    clear h b17 R17 B17 C17
    go_wp2_with fail
    refine (HFS.out _ _ _ B18 b18).mono ?_
    rintro e w19 ⟨rfl, h⟩
    have b19 := b18.trans (h.mono b18.size)
    have R19 := R18.below h
    have B19 := B18.below h
    have C19 := C18.below h
    clear h b18 R18 B18 C18
    rw [HS2.out]
    clear B19
    go_wp2_with fail
    refine (HPL.out _ _ (by omega)).mono ?_
    rintro e w20 ⟨rfl, h⟩
    have b20 := b19.trans (h.mono b19.size)
    have R20 := R19.below h
    have C20 := C19.below h
    clear h b19 R19 C19
    go_wp2_with fail
    refine (HC1.out _ _ R20).mono ?_
    rintro e w21 ⟨rfl, h⟩
    have b21 := b20.trans (h.mono b20.size)
    have R21 := R20.below h
    have C21 := C20.below h
    clear h b20 R20 C20
    go_wp2_with fail
    refine (HC2.out _ _ R21).mono ?_
    rintro e w22 ⟨rfl, h⟩
    have b22 := b21.trans (h.mono b21.size)
    have R22 := R21.below h
    have C22 := C21.below h
    clear h b21 R21 C21
    go_wp2_with fail
    refine (HC3.out _ _ R22).mono ?_
    rintro e w23 ⟨rfl, h⟩
    have b23 := b22.trans (h.mono b22.size)
    have R23 := R22.below h
    have C23 := C22.below h
    clear h b22 R22 C22
    go_wp2_with fail
    refine (HC4.out _ _ R23).mono ?_
    rintro e w24 ⟨rfl, h⟩
    have b24 := b23.trans (h.mono b23.size)
    have R24 := R23.below h
    have C24 := C23.below h
    clear h b23 R23 C23
    clear R24
    have hI0 : RdI (w24.alloc (.cells #[.int .i64 (countI xs), .int .i64 (cioI xs), .int .i64 (cwI xs), .int .i64 (cdI xs)] 3)) (.slice (some ⟨w24.heap.size, 0, none⟩) 4 4) [countI xs, cioI xs, cwI xs, cdI xs] := rd_ints [countI xs, cioI xs, cwI xs, cdI xs] (At.new _ _ _) (by simp)
    have ba : Below w24.heap.size w24 (w24.alloc (.cells #[.int .i64 (countI xs), .int .i64 (cioI xs), .int .i64 (cwI xs), .int .i64 (cdI xs)] 3)) := (Below.refl _ _).alloc (Nat.le_refl _) _
    go_wp2_with fail
    refine (HNB.out _ _ hI0 (b24.trans (ba.mono b24.size))).mono ?_
    rintro e w25 ⟨rfl, h⟩
    have b25 := (b24.trans (ba.mono b24.size)).trans (h.mono (b24.trans (ba.mono b24.size)).size)
    have C25 := (C24.below ba).below h
    clear h ba hI0 b24 C24
    go_wp2_with fail
    refine (HFM.out _ _ _ hum C25).mono ?_
    rintro e w26 ⟨rfl, h⟩
    have b26 := b25.trans (h.mono b25.size)
    have C26 := C25.below h
    clear h b25 C25
    clear C26
    go_wp2_with fail
    refine (HPU.out _).mono ?_
    rintro e w27 ⟨rfl, h⟩
    have b27 := b26.trans (h.mono b26.size)
    clear h b26 
    go_wp2_with fail
    refine (HRS.out _ b27).mono ?_
    rintro e w28 ⟨rfl, h⟩
    have b28 := b27.trans (h.mono b27.size)
    clear h b27 
    have HF : Hid (((oF (tsM xs) 10).toList == (f0 ++ ⟨#[10]⟩ ++ s0 ++ ⟨#[10, 116, 114, 117, 101, 10]⟩ ++ j1 ++ ⟨#[10]⟩ ++ j2 ++ ⟨#[10]⟩ ++ j3 ++ ⟨#[10]⟩ ++ (s1 ++ ⟨#[10]⟩) ++ (s2 ++ ⟨#[10]⟩) ++ nb ++ ⟨#[10]⟩ ++ z).toList) = true) := by
      show _ = _
      rw [HOU.out]; exact beq_self_eq_true _
    clear HOU
    generalize oF (tsM xs) 10 = r at *
    go_wp2
    go_ret
    exact ⟨by rw [HF.out]; rfl, b28⟩
  · have HIO : Hid (∀ v W, RdM W v xs → Calls Tryz.prog 6 #[v] W fun e w' => ∃ v', e = .returned (.tuple #[v', .bool false]) ∧ RdS w' v' (stL (ordM xs)) ∧ Below W.heap.size W w') := fun v W R => by
      have := imOrderMoves_c xs v W R
      rw [hm] at this
      exact this.mono fun e w' ⟨v', h1, h2, h3⟩ => ⟨v', h1, own_sts h2, h3⟩
    have HSO : Hid (∀ v W, RdM W v xs → Calls Tryz.prog 7 #[v] W fun e w' => ∃ v', e = .returned (.tuple #[v', .bool false]) ∧ RdS w' v' (stL (ordM xs)) ∧ Below W.heap.size W w') := fun v W R => by
      have := spOrderMoves_c xs v W R hz1 (by omega)
      rw [hm] at this
      exact this.mono fun e w' ⟨v', h1, h2, h3⟩ => ⟨v', h1, own_sts h2, h3⟩
    clear HD ho hz hz1 hl hm hG hT hE hM
    go_wp2_with fail
    refine (HIO.out _ _ R1).mono ?_
    rintro e w2 ⟨vD, rfl, D2, h⟩
    have b2 := b1.trans (h.mono b1.size)
    have R2 := R1.below h
    clear h b1 R1
    go_wp2_with fail
    refine (HSO.out _ _ R2).mono ?_
    rintro e w3 ⟨vE, rfl, E3, h⟩
    have b3 := b2.trans (h.mono b2.size)
    have R3 := R2.below h
    have D3 := D2.below h
    clear h b2 R2 D2
    go_wp2_with fail
    refine (HQ.out _ _ _ _ D3 E3).mono ?_
    rintro e w4 ⟨rfl, h⟩
    have b4 := b3.trans (h.mono b3.size)
    have R4 := R3.below h
    have D4 := D3.below h
    have E4 := E3.below h
    clear h b3 R3 D3 E3
    go_wp2_with fail
    refine (HQ.out _ _ _ _ D4 E4).mono ?_
    rintro e w5 ⟨rfl, h⟩
    have b5 := b4.trans (h.mono b4.size)
    have R5 := R4.below h
    have D5 := D4.below h
    have E5 := E4.below h
    clear h b4 R4 D4 E4
    go_wp2
    go_ret
    exact ⟨rfl, b5⟩
end Go.Proofs.YtfedloljhocpgaaGreatDoor
namespace Go.Proofs.YtfedloljhocpgaaGreatDoor
open Go.RowKit Go.PM
structure Tz (w : World) : Prop where
  tab : TabAt 5 Lib.deBruijn64tab w
  lt : 5 < w.heap.size
theorem Tz.below {w w' : World} (h : Tz w) (hb : Below w.heap.size w w') : Tz w' :=
  ⟨fun j hj => (hb.cell (p := ⟨5, j, none⟩) h.lt).trans (h.tab j hj), Nat.lt_of_lt_of_le h.lt hb.size⟩
end Go.Proofs.YtfedloljhocpgaaGreatDoor
namespace Go.PE
open Go
end Go.PE
