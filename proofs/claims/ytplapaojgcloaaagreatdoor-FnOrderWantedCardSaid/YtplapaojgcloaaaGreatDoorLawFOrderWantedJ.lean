/- Proved: for every input of the form's own reach the law FnOrderWanted answers true and its arguments read afterwards as before; no further condition. -/
import Derived.Test.YtplapaojgcloaaaGreatDoorWaZF
import Derived.Test.YtplapaojgcloaaaGreatDoorWaZC
import Derived.Test.YtplapaojgcloaaaGreatDoorWaZB
import Derived.Test.YtplapaojgcloaaaGreatDoorDraw3
import Derived.Test.YtplapaojgcloaaaGreatDoorCut1
import Derived.Test.YtplapaojgcloaaaGreatDoorWaZA
import Derived.Test.YtplapaojgcloaaaGreatDoorWaZH
import Derived.Test.YtplapaojgcloaaaGreatDoorRow
import Derived.Deep.RegionHeld3
import Derived.Test.YtplapaojgcloaaaGreatDoorSt4
import Derived.Test.YtplapaojgcloaaaGreatDoorSt5
import Derived.Test.YtplapaojgcloaaaGreatDoorTail
import Derived.Test.YtplapaojgcloaaaGreatDoorIm3
import Derived.ChangeKeysEq
import Derived.Test.YtplapaojgcloaaaGreatDoorHar
import Derived.Test.YtplapaojgcloaaaGreatDoorP2
namespace Go.PE
open Go.PM Go.RowKit
def otB (s : Bool) (a : ByteArray) : Bool := s && decide (a = spT)
theorem beq_t (x : ByteArray) : (x.toList == [116]) = decide (x = spT) := by
  have := beq_str x spT
  rwa [ByteArray.toList_eq spT] at this
theorem ot_rn (xs : List Mv) (t a : ByteArray) : tlB (otB (soB xs t)) (fun _ => spB xs t) a = rnB (spN xs t) a := by
  unfold tlB otB rnB
  rcases Bool.eq_false_or_eq_true (soB xs t) with h | h
  · obtain ⟨h1, h2, -⟩ := so_spec h
    rw [h, h2, Bool.true_and]
    by_cases e : a = spT
    · rw [decide_eq_true e, if_pos rfl, if_pos e]
      show nm (spN xs t) = _
      match spN xs t, h1 with
      | 0, _ | 1, _ | 2, _ | 3, _ | 4, _ | 5, _ | 6, _ | 7, _ | 8, _ => decide +kernel
    · rw [decide_eq_false e, if_neg e]; rfl
  · have : spN xs t = 9 := by unfold spN; rw [h]; rfl
    rw [h, this]
    show (if (false && decide (a = spT)) = true then _ else a) = _
    rw [Bool.false_and]
    exact (rnB_nine a).symm
theorem ot_map (xs : List Mv) (t : ByteArray) (ys : List St) : ys.map (tlX (otB (soB xs t)) (fun _ => spB xs t)) = ys.map (rnX (spN xs t)) := by
  refine List.map_congr_left fun x _ => ?_
  unfold tlX rnX
  rw [ot_rn, ot_rn]
end Go.PE
namespace Go.Proofs.YtplapaojgcloaaaGreatDoor
open Go.RowKit Go.PM Go.PE

theorem tellW_c (p q : Nat) (s : ByteArray) (b : Bool) (a : ByteArray) (W : World) (h1 : At W p 9 #[.string s]) (h2 : At W q 4 #[.bool b]) :
    Calls Tryz.prog 24 #[.string a, .pointer (some ⟨p, 0, none⟩), .pointer (some ⟨q, 0, none⟩)] W fun e w' => e = .returned (.tuple #[.string s, .bool (otB b a)]) ∧ Below W.heap.size W w' := by
  have c1 := h1.cell 0
  have c2 := h2.cell 0
  cases b with
  | true =>
    have HO : Hid (otB true a = (a.toList == [116])) := by show _ = _; rw [beq_t]; unfold otB; rw [Bool.true_and]
    go_enter Tryz.func24, Tryz.ntmps24
    go_wp2
    go_ret2
    exact ⟨by rw [HO.out]; rfl, Below.refl _ _⟩
  | false =>
    have HO : Hid (otB false a = false) := rfl
    go_enter Tryz.func24, Tryz.ntmps24
    go_wp2
    go_ret2
    exact ⟨by rw [HO.out]; rfl, Below.refl _ _⟩
set_option maxRecDepth 100000 in
set_option maxHeartbeats 1600000 in
theorem imOrderWanted_c (xs : List Mv) (v : Value) (t : ByteArray) (ht : t.size ≤ 1048576) (w : World) (hx : RdM w v xs) (hT : Tz w) :
    Calls Tryz.prog 5 #[v, .string t] w fun e w' => ∃ v', e = .returned (.tuple #[v', .bool (mvalid xs && wvB t)]) ∧ w'.ownsRow w.heap.size 51 3 v' (owS xs t).length (scells (owS xs t)) ∧ Below w.heap.size w w' := by
  have HK := Lib.hid (imKeepWanted_c xs v t ht w hx hT)
  have HO := Lib.hid (fun v' W hW => imOrderMoves_c (kwM xs t) v' W hW)
  have HS := Lib.hid (fun W hb => imSpareFor_c xs v t ht W (hx.below hb) (hT.below hb))
  rcases Bool.eq_false_or_eq_true (mvalid xs && wvB t) with hv | hv
  · have hln : (stL (ordM (kwM xs t))).length ≤ 1048576 := by
      have := ordM_len (kwM xs t); rw [stL_len']; omega
    have HOW : Hid ((stL (ordM (kwM xs t))).map (tlX (otB (soB xs t)) (fun _ => spB xs t)) = owS xs t) := by show _ = _; rw [ot_map]; rfl
    rw [hv] at HK ⊢
    clear hv hx hT
    go_enter Tryz.func5, Tryz.ntmps5
    go_wp2_with fail
    refine HK.out.mono ?_
    rintro e w1 ⟨v1, rfl, ho1, hb1⟩
    have hs1 := hb1.size
    have hk1 := Rd.of_own ho1
    clear ho1
    go_wp2_with fail
    refine (HO.out v1 w1 hk1).mono ?_
    rintro e w2 ⟨v2, rfl, ho2, hb2⟩
    have hB2 := hb1.trans (hb2.mono hs1)
    have hs2 := hB2.size
    have hk2 : RdS w2 v2 (stL (ordM (kwM xs t))) := by
      have := Rd.of_own ho2
      rwa [← stL_len'] at this
    clear ho2 hb2 hb1 hk1
    go_wp2_with fail
    refine (HS.out w2 hB2).mono ?_
    rintro e w3 ⟨rfl, hb3⟩
    have hB3 := hB2.trans (hb3.mono hs2)
    have hs3 := hB3.size
    have hk3 := RdS.below hk2 hb3
    go_wp2_with fail
    have kA : At (w3.alloc (.cells #[.string (spB xs t)] 9)) w3.heap.size 9 #[.string (spB xs t)] := At.new _ _ _
    have kB : At ((w3.alloc (.cells #[.string (spB xs t)] 9)).alloc (.cells #[.bool (soB xs t)] 4)) (w3.heap.size + 1) 4 #[.bool (soB xs t)] := by
      have := At.new (w3.alloc (.cells #[.string (spB xs t)] 9)) 4 #[.bool (soB xs t)]
      rwa [World.size_alloc] at this
    have bA : Below w3.heap.size w3 (w3.alloc (.cells #[.string (spB xs t)] 9)) := (Below.refl _ _).alloc (Nat.le_refl _) _
    have bB : Below w3.heap.size w3 ((w3.alloc (.cells #[.string (spB xs t)] 9)).alloc (.cells #[.bool (soB xs t)] 4)) := bA.alloc bA.size _
    have kA2 := kA.keep ((Below.refl _ _).alloc (Nat.le_refl _) (.cells #[.bool (soB xs t)] 4))
    have hB4 := hB3.trans (bB.mono hs3)
    have hs4 := hB4.size
    have hk4 := RdS.below hk3 bB
    clear kA bA bB hk3 hb3 hk2 hs3 hB3
    generalize ((w3.alloc (.cells #[.string (spB xs t)] 9)).alloc (.cells #[.bool (soB xs t)] 4)) = w4 at *
    refine (renameW_c (otB (soB xs t)) (fun _ => spB xs t) _ _ _ v2 w4 hln hk4 (fun a W hW => tellW_c _ _ _ _ a W (kA2.keep hW) (kB.keep hW))).mono ?_
    rintro e w5 ⟨v5, rfl, ho5, hb5⟩
    rw [HOW.out] at ho5
    have hB5 := hB4.trans (hb5.mono hs4)
    have ho6 := own_more ho5 hs4
    clear ho5 hb5
    go_wp2
    go_ret2
    exact ⟨_, rfl, ho6, hB5⟩
  · have HN := Lib.hid (owS_no hv)
    have hown0 : ∀ W : World, W.ownsRow w.heap.size 51 3 (.slice none 0 0) ([] : List St).length (scells []) := fun W => ⟨rfl, .inl ⟨rfl, rfl⟩⟩
    rw [hv] at HK ⊢
    clear hv hx hT
    go_enter Tryz.func5, Tryz.ntmps5
    go_wp2_with fail
    refine HK.out.mono ?_
    rintro e w1 ⟨v1, rfl, ho1, hb1⟩
    clear ho1
    go_wp2
    go_ret2
    exact ⟨_, rfl, by rw [HN.out]; exact hown0 _, hb1⟩
end Go.Proofs.YtplapaojgcloaaaGreatDoor
namespace Go.PE
open Go.PM Go.RowKit
theorem kw_all (xs : List Mv) (t : ByteArray) : owS xs t = (stL (ordF 19 (busyF (kwM xs t) 9))).map (rnX (spN xs t)) := by
  rw [← ordM_yes kwM_MV]; rfl
end Go.PE
namespace Go.Proofs.YtplapaojgcloaaaGreatDoor
open Go.RowKit Go.PM Go.PE
attribute [local go_sem] Oper.semAt_some

theorem infoSt9 : (Tryz.prog.info? 51).map (fun i => (i.zero, i.size, i.bytes)) = some (some (.agg #[.int .i64 0, .string ⟨#[]⟩, .string ⟨#[]⟩]), 3, 40) := by kernel_rfl
/-- append of one step, and where it lies -/
theorem app_lies_st {ops : Array Oper} {rest : List Oper} {o : Oper} {a : Act} {Q : Exit → Act → World → Prop} {w : World} (hgd : o.guard = none) (s x : Operand)
    (ho : o.op = .call { callee := .builtin .append, args := #[s, x], argTypes := #[26, 26] })
    (base : Nat) (v : Value) (ys : List St) (m : St) (ad : Addr) (c : Nat) (hs : a.eval s = v) (hx : a.eval x = .slice (some ad) 1 c)
    (hown : w.ownsRow base 51 3 v ys.length (scells ys)) (hnew : ∀ j u, [Value.int .i64 m.1, Value.string m.2.1, Value.string m.2.2][j]? = some u → w.cell? (ad.add j) = some u)
    (hlen : ys.length ≤ 1048576) (hbase : base ≤ w.heap.size)
    (h : ∀ v' w', w'.ownsRow base 51 3 v' (ys ++ [m]).length (scells (ys ++ [m])) → w.grownBy w' v.ownBlock → (v'.ownBlock = v.ownBlock ∨ v'.ownBlock = some w.heap.size) → wpList Tryz.prog ops Q rest (a.put o.dst v') w') : wpList Tryz.prog ops Q (o :: rest) a w := by
  obtain ⟨i0, hi0, hz0, hz1, hz2⟩ := info_parts infoSt9
  refine wpList_append_lies w hgd s x _ ho base 51 i0 _ 3 40 Tryz.underlying26 hi0 hz0 hz1 hz2 rfl (by omega) v ys.length (scells ys) hs hown ad 1 c [Value.int .i64 m.1, Value.string m.2.1, Value.string m.2.2] hx rfl hnew
    (by intro u hu; simp at hu; rcases hu with rfl | rfl | rfl <;> rfl) (by omega) (by simp only [maxLen]; omega) (by omega) hbase _ rfl ?_
  intro g cap w' h2 h3 h4 _
  have hcs : scells ys ++ [Value.int .i64 m.1, Value.string m.2.1, Value.string m.2.2] = scells (ys ++ [m]) := by rw [scells_append]; simp [scells]
  refine h _ w' ?_ h3 ?_
  · rw [← hcs, List.length_append]; exact h2
  · rcases h4 with h4 | h4
    · exact .inl h4.symm
    · right; rw [h4]; rfl

theorem cells_new9 (W : World) (a : Array Value) (e : TypeId) : ∀ j u, a.toList[j]? = some u → (W.alloc (.cells a e)).cell? ((⟨W.heap.size, 0, none⟩ : Addr).add j) = some u := fun j u h => by
  rw [add_off, Nat.zero_add]
  exact (At.new W e a).cell j |>.trans (by rw [← Array.getElem?_toList]; exact h)
set_option maxRecDepth 100000 in
set_option maxHeartbeats 3200000 in
theorem spOrderWanted_c (xs : List Mv) (v : Value) (t : ByteArray) (ht : t.size ≤ 1048576) (w : World) (hx : RdM w v xs) (hz : ∀ m ∈ xs, m.1.size ≤ 9223372036854775807 ∧ m.2.size ≤ 9223372036854775807) (hn' : xs.length ≤ 1048576) :
    Calls Tryz.prog 6 #[v, .string t] w fun e w' => ∃ v', e = .returned (.tuple #[v', .bool (mvalid xs && wvB t)]) ∧ w'.ownsRow w.heap.size 51 3 v' (owS xs t).length (scells (owS xs t)) ∧ Below w.heap.size w w' := by
  have HK := Lib.hid (spKeepWanted_c xs v t ht w hx hz hn')
  have HO := Lib.hid (fun v' W hW => l5Order_c (kwM xs t) kwM_MV v' W hW)
  have HS := Lib.hid (fun W hb => spSpareFor_c xs v t ht W (hx.below hb) hz hn')
  rcases Bool.eq_false_or_eq_true (mvalid xs && wvB t) with hv | hv
  · have hl19 := ordF_len 19 (busyF (kwM xs t) 9)
    have HYL : Hid (∀ k (hk : k < (stL (ordF 19 (busyF (kwM xs t) 9))).length), (((stL (ordF 19 (busyF (kwM xs t) 9))).take k).map (tlX (otB (soB xs t)) (fun _ => spB xs t))) ++ [tlX (otB (soB xs t)) (fun _ => spB xs t) (stL (ordF 19 (busyF (kwM xs t) 9)))[k]] = ((stL (ordF 19 (busyF (kwM xs t) 9))).take (k + 1)).map (tlX (otB (soB xs t)) (fun _ => spB xs t))) := fun k hk => by rw [take_snoc _ k hk, List.map_append]; rfl
    have HTK : Hid ((stL (ordF 19 (busyF (kwM xs t) 9))).map (tlX (otB (soB xs t)) (fun _ => spB xs t)) = owS xs t) := by show _ = _; rw [ot_map, kw_all]
    have hll : (stL (ordF 19 (busyF (kwM xs t) 9))).length ≤ 19 := by rw [stL_len']; exact hl19
    have hlq : (ordF 19 (busyF (kwM xs t) 9)).length = (stL (ordF 19 (busyF (kwM xs t) 9))).length := (stL_len' _).symm
    rw [hlq] at HO
    rw [hv] at HK ⊢
    generalize stL (ordF 19 (busyF (kwM xs t) 9)) = ss at *
    generalize kwM xs t = kw at *
    generalize spB xs t = sp at *
    generalize soB xs t = so at *
    generalize owS xs t = ow at *
    clear hv hx hl19 hlq
    go_enter Tryz.func6, Tryz.ntmps6
    go_wp2_with fail
    refine HK.out.mono ?_
    rintro e w1 ⟨v1, rfl, ho1, hb1⟩
    have hs1 := hb1.size
    have hE := World.ownsRow_lit (e := 51) (base := w.heap.size) (size := 3) w1 #[] 0 hs1 (Nat.zero_le _) rfl
    have bA : Below w1.heap.size w1 (w1.alloc (.cells #[] 51)) := (Below.refl _ _).alloc (Nat.le_refl _) _
    have hB2 := hb1.trans (bA.mono hs1)
    have hk2 := (Rd.of_own (own_keep ho1 bA))
    clear ho1 hb1 bA
    go_wp2_with fail
    refine (HS.out _ hB2).mono ?_
    rintro e w3 ⟨rfl, hb3⟩
    have hs2 := hB2.size
    have hB3 := hB2.trans (hb3.mono hs2)
    have hs3 := hB3.size
    have hk3 := RdM.below hk2 hb3
    have hE3 := own_keep hE hb3
    clear hE hk2
    go_wp2_with (first | done | (go_at_call 25; refine (HO.out _ _ hk3).mono ?_; rintro e w4 ⟨z, rfl, hoz, hb4⟩; refine held ?_))
    unfold Held
    have hap : z.ownBlock ≠ (Value.slice (some ⟨w1.heap.size, 0, none⟩) 0 0).ownBlock ∨ (Value.slice (some ⟨w1.heap.size, 0, none⟩) 0 0).ownBlock = none := ne_turn (own_ne hE3 hoz (Nat.le_refl _))
    have hoz2 := own_more hoz hs3
    have hE4 := own_keep hE3 hb4
    have hB4 := hB3.trans (hb4.mono hs3)
    have hlv : lenV z = ss.length := by obtain ⟨A, c, e, _⟩ := Rd.of_own hoz; rw [e]; rfl
    clear hE3 hB3 hb4 hoz hk3 hb3 hs3 hs2 hB2
    have hzz : ∃ A c, z = .slice A ss.length c := by obtain ⟨A, c, e, _⟩ := Rd.of_own hoz2; exact ⟨A, c, e⟩
    obtain ⟨Az, cz, rfl⟩ := hzz
    go_wp2
    go_loopw [8, 12, 32] (fun o _ i wr => ∃ (k : Nat), k ≤ ss.length ∧ i = .int .i64 k ∧ wr.ownsRow w.heap.size 51 3 (.slice Az ss.length cz) ss.length (scells ss) ∧ wr.ownsRow w.heap.size 51 3 o ((ss.take k).map (tlX (otB so) (fun _ => sp))).length (scells ((ss.take k).map (tlX (otB so) (fun _ => sp)))) ∧ ((Value.slice Az ss.length cz).ownBlock ≠ o.ownBlock ∨ o.ownBlock = none) ∧ Below w.heap.size w wr) (fun _ _ i _ => ss.length - (RowKit.intOf i).toNat)
    case atStart => exact ⟨0, by omega, rfl, own_keep hoz2 (Below.refl _ _), hE4, hap, hB4⟩
    case round =>
      clear hoz2 hE4 hap hB4
      obtain ⟨k, hk, rfl, hoz, ho, hap, hb⟩ := hrel
      have hbs := hb.size
      by_cases hlt : k < ss.length
      · obtain ⟨A, cap, eA, hn, hc, hcell⟩ := RdS.open (Rd.of_own hoz)
        obtain ⟨b, off, rfl, hbl, hc1, hc2, hc3⟩ := hcell k hlt
        obtain ⟨rfl, -, rfl⟩ := (by simpa using eA : _ ∧ _)
        have hd1 := hc1
        have hd2 := hc2
        have hd3 := hc3
        clear hc1 hc2 hc3 hcell eA
        have HYK := Lib.hid (HYL.out k hlt)
        have hlk : ((ss.take k).map (tlX (otB so) (fun _ => sp))).length ≤ 1048576 := by rw [List.length_map, List.length_take]; omega
        unfold tlX tlB otB at HYK
        rw [← beq_t, ← beq_t] at HYK
        change Hid (_ ++ [_] = List.map (tlX (otB so) (fun _ => sp)) _) at HYK
        change Hid (List.map (tlX (otB so) (fun _ => sp)) (ss.take k) ++ [_] = _) at HYK
        generalize (ss.take k).map (tlX (otB so) (fun _ => sp)) = zs at *
        generalize ss[k].1 = x1 at *
        generalize ss[k].2.1 = x2 at *
        generalize ss[k].2.2 = x3 at *
        have i1 : (k : Int) < (ss.length : Int) := by omega
        have i0' : (0 : Int) ≤ (k : Int) := by omega
        cases so with
        | false =>
          have HYB : Hid (zs ++ [(x1, x2, x3)] = List.map (tlX (otB false) (fun _ => sp)) (ss.take (k + 1))) := HYK.out
          clear HYK HK HO HS HYL HTK
          have bA : Below wr.heap.size wr (wr.alloc (.cells #[.int .i64 x1, .string x2, .string x3] 51)) := (Below.refl _ _).alloc (Nat.le_refl _) _
          have ho0 := own_keep ho bA
          have hoz0 := own_keep hoz bA
          have hb0 := hb.trans (bA.mono hbs)
          have hs0 := hb0.size
          have hsz : (wr.alloc (.cells #[.int .i64 x1, .string x2, .string x3] 51)).heap.size = wr.heap.size + 1 := by simp
          have hnw := cells_new9 (wr.alloc (.cells #[.int .i64 x1, .string x2, .string x3] 51)) #[.int .i64 x1, .string x2, .string x3] 51
          rw [hsz] at hnw
          go_wp2_with (at_builtin; refine held ?_)
          unfold Held
          generalize (wr.alloc (.cells #[.int .i64 x1, .string x2, .string x3] 51)) = Wn at *
          have bn : Below Wn.heap.size Wn (Wn.alloc (.cells #[.int .i64 x1, .string x2, .string x3] 51)) := (Below.refl _ _).alloc (Nat.le_refl _) _
          refine app_lies_st rfl (.tmp 56) (.tmp 58) rfl w.heap.size u8 zs (x1, x2, x3) ⟨wr.heap.size + 1, 0, none⟩ 1 (by rfl) (by rfl) (own_keep ho0 bn) hnw hlk (by simp; omega) ?_
          intro v' wx hv' hg' hl'
          have zx := own_grown (own_keep hoz0 bn) hg' hap
          have hbx := (hb0.trans (bn.mono hs0)).trans (below_grown hg' (B := w.heap.size) (by simp; omega) (own_block_ge ho0))
          have hap' : (Value.slice (some ⟨b, off, none⟩) ss.length cz).ownBlock ≠ v'.ownBlock ∨ v'.ownBlock = none := by
            rcases hl' with hl' | hl'
            · rw [hl']; exact hap
            · left; rw [hl', World.size_alloc]
              intro e
              have := (own_blk hoz0 e).1
              omega
          rw [HYB.out] at hv'
          clear hg' hl' hnw bn hap ho0 hoz0 hb0
          go_wp2
          go_roundw
          case rel => exact ⟨k + 1, by omega, by go_num, zx, hv', hap', hbx⟩
          case measure => simp [RowKit.intOf]; omega
        | true =>
          generalize h2 : (x2.toList == [116]) = e2 at *
          generalize h3 : (x3.toList == [116]) = e3 at *
          cases e2 with
          | true =>
            cases e3 with
            | true =>
              have HYB : Hid (zs ++ [(x1, sp, sp)] = List.map (tlX (otB true) (fun _ => sp)) (ss.take (k + 1))) := HYK.out
              clear HYK HK HO HS HYL HTK
              have bA : Below wr.heap.size wr (wr.alloc (.cells #[.int .i64 x1, .string sp, .string sp] 51)) := (Below.refl _ _).alloc (Nat.le_refl _) _
              have ho0 := own_keep ho bA
              have hoz0 := own_keep hoz bA
              have hb0 := hb.trans (bA.mono hbs)
              have hs0 := hb0.size
              have hsz : (wr.alloc (.cells #[.int .i64 x1, .string sp, .string sp] 51)).heap.size = wr.heap.size + 1 := by simp
              have hnw := cells_new9 (wr.alloc (.cells #[.int .i64 x1, .string sp, .string sp] 51)) #[.int .i64 x1, .string sp, .string sp] 51
              rw [hsz] at hnw
              go_wp2_with (at_builtin; refine held ?_)
              unfold Held
              generalize (wr.alloc (.cells #[.int .i64 x1, .string sp, .string sp] 51)) = Wn at *
              have bn : Below Wn.heap.size Wn (Wn.alloc (.cells #[.int .i64 x1, .string sp, .string sp] 51)) := (Below.refl _ _).alloc (Nat.le_refl _) _
              refine app_lies_st rfl (.tmp 56) (.tmp 58) rfl w.heap.size u8 zs (x1, sp, sp) ⟨wr.heap.size + 1, 0, none⟩ 1 (by rfl) (by rfl) (own_keep ho0 bn) hnw hlk (by simp; omega) ?_
              intro v' wx hv' hg' hl'
              have zx := own_grown (own_keep hoz0 bn) hg' hap
              have hbx := (hb0.trans (bn.mono hs0)).trans (below_grown hg' (B := w.heap.size) (by simp; omega) (own_block_ge ho0))
              have hap' : (Value.slice (some ⟨b, off, none⟩) ss.length cz).ownBlock ≠ v'.ownBlock ∨ v'.ownBlock = none := by
                rcases hl' with hl' | hl'
                · rw [hl']; exact hap
                · left; rw [hl', World.size_alloc]
                  intro e
                  have := (own_blk hoz0 e).1
                  omega
              rw [HYB.out] at hv'
              clear hg' hl' hnw bn hap ho0 hoz0 hb0
              go_wp2
              go_roundw
              case rel => exact ⟨k + 1, by omega, by go_num, zx, hv', hap', hbx⟩
              case measure => simp [RowKit.intOf]; omega
            | false =>
              have HYB : Hid (zs ++ [(x1, sp, x3)] = List.map (tlX (otB true) (fun _ => sp)) (ss.take (k + 1))) := HYK.out
              clear HYK HK HO HS HYL HTK
              have bA : Below wr.heap.size wr (wr.alloc (.cells #[.int .i64 x1, .string sp, .string x3] 51)) := (Below.refl _ _).alloc (Nat.le_refl _) _
              have ho0 := own_keep ho bA
              have hoz0 := own_keep hoz bA
              have hb0 := hb.trans (bA.mono hbs)
              have hs0 := hb0.size
              have hsz : (wr.alloc (.cells #[.int .i64 x1, .string sp, .string x3] 51)).heap.size = wr.heap.size + 1 := by simp
              have hnw := cells_new9 (wr.alloc (.cells #[.int .i64 x1, .string sp, .string x3] 51)) #[.int .i64 x1, .string sp, .string x3] 51
              rw [hsz] at hnw
              go_wp2_with (at_builtin; refine held ?_)
              unfold Held
              generalize (wr.alloc (.cells #[.int .i64 x1, .string sp, .string x3] 51)) = Wn at *
              have bn : Below Wn.heap.size Wn (Wn.alloc (.cells #[.int .i64 x1, .string sp, .string x3] 51)) := (Below.refl _ _).alloc (Nat.le_refl _) _
              refine app_lies_st rfl (.tmp 56) (.tmp 58) rfl w.heap.size u8 zs (x1, sp, x3) ⟨wr.heap.size + 1, 0, none⟩ 1 (by rfl) (by rfl) (own_keep ho0 bn) hnw hlk (by simp; omega) ?_
              intro v' wx hv' hg' hl'
              have zx := own_grown (own_keep hoz0 bn) hg' hap
              have hbx := (hb0.trans (bn.mono hs0)).trans (below_grown hg' (B := w.heap.size) (by simp; omega) (own_block_ge ho0))
              have hap' : (Value.slice (some ⟨b, off, none⟩) ss.length cz).ownBlock ≠ v'.ownBlock ∨ v'.ownBlock = none := by
                rcases hl' with hl' | hl'
                · rw [hl']; exact hap
                · left; rw [hl', World.size_alloc]
                  intro e
                  have := (own_blk hoz0 e).1
                  omega
              rw [HYB.out] at hv'
              clear hg' hl' hnw bn hap ho0 hoz0 hb0
              go_wp2
              go_roundw
              case rel => exact ⟨k + 1, by omega, by go_num, zx, hv', hap', hbx⟩
              case measure => simp [RowKit.intOf]; omega
          | false =>
            cases e3 with
            | true =>
              have HYB : Hid (zs ++ [(x1, x2, sp)] = List.map (tlX (otB true) (fun _ => sp)) (ss.take (k + 1))) := HYK.out
              clear HYK HK HO HS HYL HTK
              have bA : Below wr.heap.size wr (wr.alloc (.cells #[.int .i64 x1, .string x2, .string sp] 51)) := (Below.refl _ _).alloc (Nat.le_refl _) _
              have ho0 := own_keep ho bA
              have hoz0 := own_keep hoz bA
              have hb0 := hb.trans (bA.mono hbs)
              have hs0 := hb0.size
              have hsz : (wr.alloc (.cells #[.int .i64 x1, .string x2, .string sp] 51)).heap.size = wr.heap.size + 1 := by simp
              have hnw := cells_new9 (wr.alloc (.cells #[.int .i64 x1, .string x2, .string sp] 51)) #[.int .i64 x1, .string x2, .string sp] 51
              rw [hsz] at hnw
              go_wp2_with (at_builtin; refine held ?_)
              unfold Held
              generalize (wr.alloc (.cells #[.int .i64 x1, .string x2, .string sp] 51)) = Wn at *
              have bn : Below Wn.heap.size Wn (Wn.alloc (.cells #[.int .i64 x1, .string x2, .string sp] 51)) := (Below.refl _ _).alloc (Nat.le_refl _) _
              refine app_lies_st rfl (.tmp 56) (.tmp 58) rfl w.heap.size u8 zs (x1, x2, sp) ⟨wr.heap.size + 1, 0, none⟩ 1 (by rfl) (by rfl) (own_keep ho0 bn) hnw hlk (by simp; omega) ?_
              intro v' wx hv' hg' hl'
              have zx := own_grown (own_keep hoz0 bn) hg' hap
              have hbx := (hb0.trans (bn.mono hs0)).trans (below_grown hg' (B := w.heap.size) (by simp; omega) (own_block_ge ho0))
              have hap' : (Value.slice (some ⟨b, off, none⟩) ss.length cz).ownBlock ≠ v'.ownBlock ∨ v'.ownBlock = none := by
                rcases hl' with hl' | hl'
                · rw [hl']; exact hap
                · left; rw [hl', World.size_alloc]
                  intro e
                  have := (own_blk hoz0 e).1
                  omega
              rw [HYB.out] at hv'
              clear hg' hl' hnw bn hap ho0 hoz0 hb0
              go_wp2
              go_roundw
              case rel => exact ⟨k + 1, by omega, by go_num, zx, hv', hap', hbx⟩
              case measure => simp [RowKit.intOf]; omega
            | false =>
              have HYB : Hid (zs ++ [(x1, x2, x3)] = List.map (tlX (otB true) (fun _ => sp)) (ss.take (k + 1))) := HYK.out
              clear HYK HK HO HS HYL HTK
              have bA : Below wr.heap.size wr (wr.alloc (.cells #[.int .i64 x1, .string x2, .string x3] 51)) := (Below.refl _ _).alloc (Nat.le_refl _) _
              have ho0 := own_keep ho bA
              have hoz0 := own_keep hoz bA
              have hb0 := hb.trans (bA.mono hbs)
              have hs0 := hb0.size
              have hsz : (wr.alloc (.cells #[.int .i64 x1, .string x2, .string x3] 51)).heap.size = wr.heap.size + 1 := by simp
              have hnw := cells_new9 (wr.alloc (.cells #[.int .i64 x1, .string x2, .string x3] 51)) #[.int .i64 x1, .string x2, .string x3] 51
              rw [hsz] at hnw
              go_wp2_with (at_builtin; refine held ?_)
              unfold Held
              generalize (wr.alloc (.cells #[.int .i64 x1, .string x2, .string x3] 51)) = Wn at *
              have bn : Below Wn.heap.size Wn (Wn.alloc (.cells #[.int .i64 x1, .string x2, .string x3] 51)) := (Below.refl _ _).alloc (Nat.le_refl _) _
              refine app_lies_st rfl (.tmp 56) (.tmp 58) rfl w.heap.size u8 zs (x1, x2, x3) ⟨wr.heap.size + 1, 0, none⟩ 1 (by rfl) (by rfl) (own_keep ho0 bn) hnw hlk (by simp; omega) ?_
              intro v' wx hv' hg' hl'
              have zx := own_grown (own_keep hoz0 bn) hg' hap
              have hbx := (hb0.trans (bn.mono hs0)).trans (below_grown hg' (B := w.heap.size) (by simp; omega) (own_block_ge ho0))
              have hap' : (Value.slice (some ⟨b, off, none⟩) ss.length cz).ownBlock ≠ v'.ownBlock ∨ v'.ownBlock = none := by
                rcases hl' with hl' | hl'
                · rw [hl']; exact hap
                · left; rw [hl', World.size_alloc]
                  intro e
                  have := (own_blk hoz0 e).1
                  omega
              rw [HYB.out] at hv'
              clear hg' hl' hnw bn hap ho0 hoz0 hb0
              go_wp2
              go_roundw
              case rel => exact ⟨k + 1, by omega, by go_num, zx, hv', hap', hbx⟩
              case measure => simp [RowKit.intOf]; omega
      · have hk' : k = ss.length := by omega
        rw [hk', List.take_length, HTK.out] at ho
        have HF := Lib.hid ho
        have i1 : ¬ (k : Int) < (ss.length : Int) := by omega
        clear ho hk' hoz hap HK HO HS HYL HTK
        go_wp2
        go_ret2
        exact ⟨_, rfl, HF.out, hb⟩
  · have HN := Lib.hid (owS_no hv)
    rw [hv] at HK ⊢
    clear hv hx
    go_enter Tryz.func6, Tryz.ntmps6
    go_wp2_with fail
    refine HK.out.mono ?_
    rintro e w1 ⟨v1, rfl, ho1, hb1⟩
    have hs1 := hb1.size
    have hE := World.ownsRow_lit (e := 51) (base := w.heap.size) (size := 3) w1 #[] 0 hs1 (Nat.zero_le _) rfl
    clear ho1
    go_wp2
    go_ret2
    exact ⟨_, rfl, by rw [HN.out]; exact hE, hb1.alloc hs1 _⟩
end Go.Proofs.YtplapaojgcloaaaGreatDoor
namespace Go.PE
open Go.PM Go.RowKit
theorem rnB_size (s : Nat) {a : ByteArray} (h : a.size = 1) : (rnB s a).size = 1 := by
  unfold rnB; split
  · rfl
  · exact h
theorem ow_sh (xs : List Mv) (t : ByteArray) : shS 70 (owS xs t) := by
  have hv := ordM_valid (kwM_MV (ys := xs) (t := t))
  have hl := svalid_len hv
  refine ⟨?_, fun x hx => ?_⟩
  · rw [owS_len, ← stL_len']; omega
  · unfold owS at hx
    obtain ⟨y, hy, rfl⟩ := List.mem_map.1 hx
    obtain ⟨k, a, b⟩ := y
    have hok := Go.PD.sv_mem hv _ hy
    obtain ⟨s1, s2⟩ := st_sizes1 hok
    exact ⟨by show (rnB _ a).size ≤ 64; rw [rnB_size _ s1]; decide, by show (rnB _ b).size ≤ 64; rw [rnB_size _ s2]; decide⟩
end Go.PE
namespace Go.Proofs.YtplapaojgcloaaaGreatDoor
open Go.RowKit Go.PM Go.PE

set_option maxRecDepth 100000 in
set_option maxHeartbeats 1600000 in
theorem l9Wanted_c (w : World) (B r : Nat) (p : Int) (hr : Rdr w 83 B r p) (p1 : p ≤ 1000000) :
    Calls Tryz.prog 48 #[.pointer (some ⟨r, 0, none⟩)] w fun e w' => ∃ s p', e = .returned (.string s) ∧ Hid (s.size ≤ 20) ∧ Rdr w' 83 B r p' ∧ p' ≤ p + 20 ∧ w.grownBy w' (some r) := by
  have hlt : r < w.heap.size := by obtain ⟨_, _, v, n, _, _, h⟩ := hr; exact h.lt
  have HP3 := Lib.hid (fun W q (R : Rdr W 83 B r q) (hq : q ≤ 1000100) => pick_c W B r 3 q R (by omega) (by omega) (by omega))
  have HP16 := Lib.hid (fun W q (R : Rdr W 83 B r q) (hq : q ≤ 1000100) => pick_c W B r 16 q R (by omega) (by omega) (by omega))
  have HN : Hid (∀ q, q < 9 → ((ByteArray.mk #[97, 98, 99, 100, 101, 102, 65, 66, 67]).extract q (q+1)).size = 1) := fun q hq => by rw [ByteArray.size_extract]; simp [ByteArray.size]; omega
  have g0 : w.grownBy w (some r) := grown_refl _ _
  go_enter Tryz.func48, Tryz.ntmps48
  go_wp2
  go_loopw [3, 4, 5] (fun o _ i wr => ∃ (k : Nat) (s : ByteArray) (q : Int), k ≤ 9 ∧ i = .int .i64 k ∧ o = .string s ∧ s.size ≤ k ∧ Rdr wr 83 B r q ∧ q ≤ p + k ∧ w.grownBy wr (some r)) (fun _ _ i _ => 9 - (RowKit.intOf i).toNat)
  case atStart => exact ⟨0, ⟨#[]⟩, p, by omega, rfl, rfl, Nat.le_refl _, hr, by omega, g0⟩
  case round =>
    clear hr g0
    obtain ⟨k, s, q, hk, rfl, rfl, hs, hr, hq, hg⟩ := hrel
    by_cases hlt2 : k < 9
    · have i0 : (0 : Int) ≤ (k : Int) := by omega
      have i1 : (k : Int) < 9 := by omega
      have hz := HN.out k hlt2
      have HPP := Lib.hid (HP3.out wr q hr (by omega))
      go_wp2_with fail
      refine HPP.out.mono ?_
      rintro e w2 ⟨j, rfl, k0, k1, R2, g2⟩
      have G2 := grown_trans hg g2
      by_cases h0 : j = 0
      · subst h0
        go_wp2
        go_roundw
        case rel => exact ⟨k + 1, _, q + 1, by omega, by go_num, rfl, by rw [ByteArray.size_append, hz]; omega, R2, by omega, G2⟩
        case measure => simp [RowKit.intOf]; omega
      · have t0 : (j == 0) = false := by simpa using h0
        go_wp2
        go_roundw
        case rel => exact ⟨k + 1, s, q + 1, by omega, by go_num, rfl, by omega, R2, by omega, G2⟩
        case measure => simp [RowKit.intOf]; omega
    · have hk9 : k = 9 := by omega
      subst hk9
      have HPP := Lib.hid (HP16.out wr q hr (by omega))
      go_wp2_with fail
      refine HPP.out.mono ?_
      rintro e w2 ⟨j, rfl, k0, k1, R2, g2⟩
      have G2 := grown_trans hg g2
      have hs2 := G2.size
      by_cases h0 : j = 0
      · subst h0
        go_wp2_with fail
        refine (of_c _ B r w2.heap.size 4 (q + 1) (fun s => s.size ≤ 4) (R2.keep ((Below.refl _ _).alloc (Nat.le_refl _) _)) (by decide) (by decide) (by omega) (Lits.strs _ _ _ 4 (by rfl)) (by omega)).mono ?_
        rintro e w3 ⟨s1, rfl, hz1, R3, g3⟩
        have G3 := grown_trans G2 (grown_trans (grown_below ((Below.refl _ _).alloc (Nat.le_refl _) _) (some r)) g3)
        go_wp2
        go_ret
        exact ⟨_, _, rfl, by show _ ≤ _; rw [ByteArray.size_append]; omega, R3, by omega, G3⟩
      · have t0 : (j == 0) = false := by simpa using h0
        by_cases h1 : j = 1
        · subst h1
          go_wp2
          go_ret
          exact ⟨_, _, rfl, by show _ ≤ _; decide, R2, by omega, G2⟩
        · have t1 : (j == 1) = false := by simpa using h1
          go_wp2
          go_ret
          exact ⟨_, _, rfl, by show _ ≤ _; omega, R2, by omega, G2⟩
set_option maxHeartbeats 800000 in
theorem l9Moves_c (w : World) (B r : Nat) (p : Int) (hr : Rdr w 83 B r p) (p1 : p ≤ 500000) :
    Calls Tryz.prog 47 #[.pointer (some ⟨r, 0, none⟩)] w fun e w' => ∃ v xs p', e = .returned v ∧ w'.ownsRow w.heap.size 37 2 v xs.length (mcells xs) ∧ Hid (xs.length ≤ 65 ∧ ∀ m ∈ xs, m.1.size ≤ 64 ∧ m.2.size ≤ 64) ∧ Rdr w' 83 B r p' ∧ p' ≤ p + 110 ∧ w.grownBy w' (some r) := by
  have HP := Lib.hid (pick_c w B r 3 p hr (by omega) (by omega) (by omega))
  go_enter Tryz.func47, Tryz.ntmps47
  go_wp2_with fail
  refine HP.out.mono ?_
  rintro e w1 ⟨k, rfl, k0, k1, R1, g1⟩
  have hs1 := g1.size
  by_cases h0 : k = 0
  · subst h0
    have HE := Lib.hid (l4Exchange_c w1 B r (p + 1) R1 (by omega))
    go_wp2_with fail
    refine HE.out.mono ?_
    rintro e w2 ⟨v, xs, p', rfl, ho, hsh, R2, hp, g2⟩
    have HSH := Lib.hid hsh
    clear hsh
    go_wp2
    go_ret
    exact ⟨_, xs, _, rfl, own_more ho hs1, HSH.out, R2, by omega, grown_trans g1 g2⟩
  · have t0 : (k == 0) = false := by simpa using h0
    have HE := Lib.hid (l1Some_c w1 B r (p + 1) R1 (by omega))
    go_wp2_with fail
    refine HE.out.mono ?_
    rintro e w2 ⟨v, xs, p', rfl, ho, hsh, R2, hp, g2⟩
    have HSH := Lib.hid hsh
    clear hsh
    go_wp2
    go_ret
    exact ⟨_, xs, _, rfl, own_more ho hs1, HSH.out, R2, by omega, grown_trans g1 g2⟩
set_option maxHeartbeats 800000 in
theorem l9Some_c (w : World) (B r : Nat) (p : Int) (hr : Rdr w 83 B r p) (p1 : p ≤ 500000) :
    Calls Tryz.prog 20 #[.pointer (some ⟨r, 0, none⟩)] w fun e w' => ∃ v s xs p', e = .returned (.tuple #[v, .string s]) ∧ w'.ownsRow w.heap.size 37 2 v xs.length (mcells xs) ∧ Hid (s.size ≤ 20 ∧ xs.length ≤ 65 ∧ ∀ m ∈ xs, m.1.size ≤ 64 ∧ m.2.size ≤ 64) ∧ Rdr w' 83 B r p' ∧ p' ≤ p + 200 ∧ w.grownBy w' (some r) := by
  have hlt : r < w.heap.size := by obtain ⟨_, _, v, n, _, _, h⟩ := hr; exact h.lt
  have HM := Lib.hid (l9Moves_c w B r p hr p1)
  go_enter Tryz.func20, Tryz.ntmps20
  go_wp2_with fail
  refine HM.out.mono ?_
  rintro e w1 ⟨v, xs, p2, rfl, ho, hsh, R1, hp, g1⟩
  have HW := Lib.hid (l9Wanted_c w1 B r p2 R1 (by omega))
  go_wp2_with fail
  refine HW.out.mono ?_
  rintro e w2 ⟨s, p3, rfl, hz, R2, hp3, g2⟩
  have ho2 := own_grown ho g2 (.inl (fun e => by have := own_block_ge ho r e; omega))
  go_wp2
  go_ret2
  exact ⟨_, s, xs, _, rfl, ho2, ⟨hz.out, hsh.out⟩, R2, by omega, grown_trans g1 g2⟩
end Go.Proofs.YtplapaojgcloaaaGreatDoor
namespace Go.PE
open Go.PM Go.PW Go.PD Go.RowKit Go.Lib

/-- names that the steps of an order have -/
theorem red_names {P : ByteArray → Prop} {d : Mv} {ws : List Mv} (hd : P d.1) (h : ∀ m ∈ ws, P m.1 ∧ P m.2) : ∀ m ∈ redM d ws, P m.1 ∧ P m.2 := by
  intro m hm
  unfold redM at hm
  split at hm
  · exact h m hm
  · obtain ⟨x, hx, e1, (⟨_, e3⟩ | ⟨_, e3⟩)⟩ := instM_mem hm
    · exact ⟨by rw [e1]; exact (h x hx).1, by rw [e3]; exact hd⟩
    · rw [e3]; exact h x hx
theorem ordF_names {P : ByteArray → Prop} (hT : P spT) : ∀ (n : Nat) (ws : List Mv), Wt ws → (∀ m ∈ ws, P m.1 ∧ P m.2) → ∀ m ∈ ordF n ws, P m.1 ∧ P m.2 := by
  intro n
  induction n with
  | zero => intro ws _ _ m hm; cases hm
  | succ n ih =>
    intro ws hw hP m hm
    by_cases h0 : 0 < ws.length
    · cases ha : aheadI ws with
      | some i =>
        obtain ⟨hi, hf⟩ := aheadI_some ha
        have h1 := hP _ (List.getElem_mem hi)
        rw [ordF_some hi ha, List.mem_cons] at hm
        rcases hm with rfl | hm
        · exact h1
        · exact ih _ (hw.some_ hi hf) (red_names h1.1 fun x hx => hP x (erase_mem hx)) m hm
      | none =>
        have h1 := hP _ (List.getElem_mem h0)
        rw [ordF_none h0 ha, List.mem_cons] at hm
        rcases hm with rfl | hm
        · exact ⟨hT, h1.1⟩
        · exact ih _ (hw.none_ h0 ha).1 (red_names (d := (spT, ws[0].1)) hT hP) m hm
    · have : ws = [] := List.length_eq_zero_iff.1 (by omega)
      subst this
      rw [ordF_nil] at hm; cases hm
/-- a state in which another place stands for the spare one -/
def Rel (s : Nat) (f g : Nat → UInt8) : Prop := g s = f 9 ∧ ∀ p, p < 9 → p ≠ s → g p = f p
theorem tq_inj {p q : Nat} (hp : p < 11) (hq : q < 11) (h : tq p = tq q) : p = q := by
  have h1 := (tq_cell hp).2
  rw [h, (tq_cell hq).2] at h1
  exact h1.symm
theorem rnB_sp (s : Nat) : rnB s spT = tq s := if_pos rfl
theorem rnB_ne {s : Nat} {a : ByteArray} (h : a ≠ spT) : rnB s a = a := if_neg h
theorem rn_rd {s : Nat} (hs : s ≤ 9) {f g : Nat → UInt8} (h : Rel s f g) {a : ByteArray} (ha : okR a) (hn : a = spT ∨ a ≠ tq s) : rdS g (rnB s a) = rdS f a := by
  rcases ha with ha | ha | ha
  · have hne := (isP_cases ha).2
    rw [rnB_ne hne]
    obtain ⟨q, hq, rfl⟩ := nm_of_isP ha
    rw [rdS_nm g hq, rdS_nm f hq]
    refine h.2 q hq fun e => ?_
    rcases hn with hn | hn
    · exact hne hn
    · exact hn (by rw [← e]; exact nm_tq hq)
  · rw [rnB_ne (isD_cases ha).2, rdS_digit (isD_notC ha), rdS_digit (isD_notC ha)]
  · rw [ha, rnB_sp, rdS_cell (tq_cell (show s < 11 by omega)).1, (tq_cell (show s < 11 by omega)).2, rdS_cell spT_cell.1, spT_cell.2]
    exact h.1
theorem rn_run {s : Nat} (hs : s ≤ 9) : ∀ (ms : List Mv), (∀ m ∈ ms, (isP m.1 = true ∨ m.1 = spT) ∧ okR m.2) → (∀ m ∈ ms, (m.1 = spT ∨ m.1 ≠ tq s) ∧ (m.2 = spT ∨ m.2 ≠ tq s)) →
    ∀ f g : Nat → UInt8, Rel s f g → Rel s (runM ms f) (runM (ms.map (rnM s)) g)
  | [], _, _, _, _, h => h
  | m :: ms, ho, hn, f, g, h => by
    have h1 := ho m (List.mem_cons_self ..)
    have h2 := hn m (List.mem_cons_self ..)
    have hv := rn_rd hs h h1.2 h2.2
    refine rn_run hs ms (fun x hx => ho x (List.mem_cons_of_mem _ hx)) (fun x hx => hn x (List.mem_cons_of_mem _ hx)) _ _ ?_
    show Rel s (updS f (cidx m.1) (rdS f m.2)) (updS g (cidx (rnB s m.1)) (rdS g (rnB s m.2)))
    rw [hv]
    generalize rdS f m.2 = v
    by_cases hsp : m.1 = spT
    · rw [hsp, rnB_sp, (tq_cell (show s < 11 by omega)).2, spT_cell.2]
      refine ⟨by simp [updS], fun p hp hne => ?_⟩
      unfold updS
      rw [if_neg hne, if_neg (show ¬ p = 9 by omega)]
      exact h.2 p hp hne
    · have hp1 : isP m.1 = true := h1.1.resolve_right hsp
      have hne1 : m.1 ≠ tq s := h2.1.resolve_left hsp
      rw [rnB_ne hsp]
      obtain ⟨q, hq, e⟩ := nm_of_isP hp1
      rw [e, (cidx_nm hq).2]
      have hqs : q ≠ s := fun e2 => hne1 (by rw [e, nm_tq hq, e2])
      refine ⟨?_, fun p hp hne => ?_⟩
      · unfold updS
        rw [if_neg (fun e => hqs e.symm), if_neg (show ¬ 9 = q by omega)]
        exact h.1
      · unfold updS
        by_cases hpq : p = q
        · rw [if_pos hpq, if_pos hpq]
        · rw [if_neg hpq, if_neg hpq]; exact h.2 p hp hne
theorem kw_names {ys : List Mv} {t : ByteArray} (h1 : MV ys) (h2 : wvB t = true) : ∀ m ∈ kwM ys t, (m.1 = spT ∨ m.1 ≠ tq (spN ys t)) ∧ (m.2 = spT ∨ m.2 ≠ tq (spN ys t)) := by
  intro m hm
  rw [kwM_yes (by simpa [mvalid] using h1) h2] at hm
  rcases Bool.eq_false_or_eq_true (soB ys t) with hs | hs
  · obtain ⟨s1, _, s3, s4, _⟩ := so_spec hs
    obtain ⟨p, hp, hb, hne, rfl⟩ := kw_mem hm
    refine ⟨.inr fun e => ?_, .inr fun e => ?_⟩
    · have e2 : p = spN ys t := tq_inj (by omega) (by omega) (by rw [← nm_tq hp]; exact e)
      rw [e2, s3] at hb; cases hb
    · have e2 : srcM ys (nm p) = tq (spN ys t) := e
      have : (scN ys (wnN t.data.toList)).testBit (spN ys t) = true := by
        unfold scN
        rw [stN_test, decide_eq_true (show spN ys t < 11 by omega), Bool.true_and]
        unfold inTx
        rw [decide_eq_true_eq, sc_mem h1 (el9 (wnN_lt _))]
        exact ⟨p, el_mem.2 ⟨by omega, hb⟩, e2⟩
      rw [s4] at this; cases this
  · have e : spN ys t = 9 := by unfold spN; rw [hs]; rfl
    rw [e]
    have e9 : tq 9 = spT := by decide +kernel
    rw [e9]
    exact ⟨Classical.em _, Classical.em _⟩
theorem spN_le (ys : List Mv) (t : ByteArray) : spN ys t ≤ 9 := by
  rcases Bool.eq_false_or_eq_true (soB ys t) with hs | hs
  · have := (so_spec hs).1; omega
  · unfold spN; rw [hs]; exact Nat.le_refl _
theorem kwM_busy (ys : List Mv) (t : ByteArray) : busyF (kwM ys t) 9 = kwM ys t := by
  unfold kwM; split
  · exact kw_busy _ _
  · have : ([] : List Mv) = lsF nm 9 := lsF_nm.symm
    rw [this]; exact lsF_congr fun p hp => lsF_src _ hp
theorem kwM_Wt (ys : List Mv) (t : ByteArray) : Wt (kwM ys t) := by
  have := busyF_Wt (kwM_MV (ys := ys) (t := t)); rwa [kwM_busy] at this
theorem ow_ok (ys : List Mv) (t : ByteArray) : ∀ m ∈ owM ys t, (isP m.1 = true ∨ m.1 = spT) ∧ okR m.2 := by
  intro m hm
  unfold owM at hm
  obtain ⟨x, hx, rfl⟩ := List.mem_map.1 hm
  obtain ⟨h1, h2⟩ := ordF_ok 19 _ (kwM_Wt ys t) x hx
  have hs := spN_le ys t
  have key : ∀ a : ByteArray, a = spT → isP (rnB (spN ys t) a) = true ∨ rnB (spN ys t) a = spT := fun a e => by
    rw [e, rnB_sp]
    by_cases h9 : spN ys t < 9
    · left; rw [← nm_tq h9]; exact isP_nm h9
    · right; rw [show spN ys t = 9 by omega]; decide +kernel
  refine ⟨?_, ?_⟩
  · by_cases e : x.1 = spT
    · exact key _ e
    · show isP (rnB _ x.1) = true ∨ rnB _ x.1 = spT
      rw [rnB_ne e]; exact h1
  · by_cases e : x.2 = spT
    · rcases key _ e with h | h
      · exact .inl h
      · exact .inr (.inr h)
    · show okR (rnB _ x.2)
      rw [rnB_ne e]; exact h2
theorem owM_len (ys : List Mv) (t : ByteArray) : (owM ys t).length ≤ 19 := by
  unfold owM; rw [List.length_map]; exact ordF_len _ _
theorem ow_valid (ys : List Mv) (t : ByteArray) : svalid (owS ys t) = true := by
  rw [owS_M]
  exact svalid_stL (by have := owM_len ys t; omega) (ow_ok ys t)
/-- wanted places get their values -/
theorem ow_right {ys : List Mv} {t : ByteArray} (h1 : MV ys) (h2 : wvB t = true) : irfB (owS ys t) ys t = true := by
  rw [irf_yes]
  refine ⟨ow_valid ys t, h1, h2, fun p hp hb => ?_⟩
  have hs := spN_le ys t
  obtain ⟨f, hf⟩ : ∃ f, f = updS nmT (cidx spT) (nmT (spN ys t)) := ⟨_, rfl⟩
  have hrel : Rel (spN ys t) f nmT := by
    rw [hf, spT_cell.2]
    refine ⟨by simp [updS], fun q hq _ => ?_⟩
    unfold updS; rw [if_neg (show ¬ q = 9 by omega)]
  have hdue : Due (fun p => rdS nmT (srcM (kwM ys t) (nm p))) (kwM ys t) f := by
    have hd := busy_due (kwM_MV (ys := ys) (t := t))
    rw [kwM_busy] at hd
    refine ⟨fun m hm => ?_, fun q hq hk => ?_⟩
    · rw [← hd.rd m hm, hf]
      have hm2 := kwM_MV.1 m hm
      unfold mok at hm2; rw [Bool.and_eq_true] at hm2
      have hS := hm2.2
      unfold isS at hS; rw [Bool.or_eq_true] at hS
      refine rdS_ne ?_ (.inr rfl) ?_ nmT _
      · rcases hS with h | h
        · exact .inl h
        · exact .inr (.inl h)
      · rcases hS with h | h
        · exact (isP_cases h).2
        · exact (isD_cases h).2
    · rw [← hd.has q hq hk, hf, spT_cell.2]
      unfold updS; rw [if_neg (show ¬ q = 9 by omega)]
  have hmu : muW (kwM ys t) ≤ 19 := by
    have := busy_mu (xs := kwM ys t); rwa [kwM_busy] at this
  have hord := ordF_due 19 _ f (kwM_Wt ys t) hmu hdue p hp
  have hsim := rn_run hs (ordF 19 (kwM ys t)) (ordF_ok 19 _ (kwM_Wt ys t)) (ordF_names (P := fun a => a = spT ∨ a ≠ tq (spN ys t)) (.inl rfl) 19 _ (kwM_Wt ys t) (kw_names h1 h2)) f nmT hrel
  have hps : p ≠ spN ys t := fun e => by
    rcases Bool.eq_false_or_eq_true (soB ys t) with hso | hso
    · have := (so_spec hso).2.2.1
      rw [← e, hb] at this; cases this
    · have e9 : spN ys t = 9 := by unfold spN; rw [hso]; rfl
      omega
  have e1 := hsim.2 p hp hps
  have e2 : runL (owS ys t) nmT = runM ((ordF 19 (kwM ys t)).map (rnM (spN ys t))) nmT := by
    rw [← runL_runS, owS_M, runS_stL]; rfl
  rw [e2, e1, hord]
  unfold aoS
  rw [if_pos hp, srcM_nm h1 hp]
  show rdS nmT (srcM (kwM ys t) (nm p)) = _
  rw [kwM_yes (by simpa [mvalid] using h1) h2]
  have : srcM (kwL ys (wnN t.data.toList)) (nm p) = srcM ys (nm p) := by
    unfold kwL; rw [lsF_src _ hp]
    exact if_pos hb
  rw [this]
/-- the spare place is not touched if there is another one -/
theorem ow_touch {ys : List Mv} {t : ByteArray} (hs : soB ys t = true) : pmH (tcB (owS ys t)) ⟨#[116]⟩ = false := by
  have hv := ow_valid ys t
  have h1 := so_spec hs
  have e : tcB (owS ys t) = pickB cellsL (tcH (owS ys t)) 11 := by unfold tcB; rw [hv]; rfl
  have hp := pmH_pick (tcH (owS ys t)) 9 (by omega)
  rw [e]
  refine hp.trans ?_
  rw [owS_M, (tcH_stL fun m hm => (ow_ok ys t m hm).1).1, List.any_eq_false]
  intro m hm
  unfold owM at hm
  obtain ⟨x, _, rfl⟩ := List.mem_map.1 hm
  rw [decide_eq_true_eq]
  show ¬ rnB (spN ys t) x.1 = spT
  by_cases ex : x.1 = spT
  · rw [ex, rnB_sp]
    intro e9
    have := congrArg cidx e9
    rw [(tq_cell (show spN ys t < 11 by omega)).2, spT_cell.2] at this
    omega
  · rw [rnB_ne ex]; exact ex

theorem inj_le {α β : Type _} [DecidableEq β] (R : α → β → Prop) : ∀ (L : List α) (M : List β), L.Nodup → (∀ a ∈ L, ∃ b ∈ M, R a b) → (∀ a a' b, a ∈ L → a' ∈ L → R a b → R a' b → a = a') → L.length ≤ M.length
  | [], _, _, _, _ => Nat.zero_le _
  | a :: L, M, hn, hex, hinj => by
    rw [List.nodup_cons] at hn
    obtain ⟨b, hb, hr⟩ := hex a (List.mem_cons_self ..)
    have := inj_le R L (M.erase b) hn.2 (fun x hx => by
      obtain ⟨c, hc, hrc⟩ := hex x (List.mem_cons_of_mem _ hx)
      refine ⟨c, (List.mem_erase_of_ne fun e => ?_).2 hc, hrc⟩
      subst e
      have := hinj a x c (List.mem_cons_self ..) (List.mem_cons_of_mem _ hx) hr hrc
      subst this; exact hn.1 hx) (fun x y c hx hy => hinj x y c (List.mem_cons_of_mem _ hx) (List.mem_cons_of_mem _ hy))
    have h3 := List.length_erase_of_mem hb
    have h4 : 0 < M.length := List.length_pos_of_mem hb
    simp only [List.length_cons]; omega
theorem rdN_sub {ws : List Mv} {Q : Mv → Bool} {a : ByteArray} : rdN (ws.filter Q) a ≤ rdN ws a := by
  unfold rdN
  exact (List.Sublist.map _ List.filter_sublist).count_le _
theorem rdN_all {Q : Mv → Bool} {a : ByteArray} : ∀ ws : List Mv, (∀ m ∈ ws, m.2 = a → Q m = true) → rdN (ws.filter Q) a = rdN ws a
  | [], _ => rfl
  | x :: ws, h => by
    have ih := rdN_all (Q := Q) (a := a) ws (fun m hm => h m (List.mem_cons_of_mem _ hm))
    unfold rdN at ih ⊢
    rw [List.filter_cons]
    split
    · rw [List.map_cons, List.map_cons, List.count_cons, List.count_cons, ih]
    · next hq =>
      have hne : x.2 ≠ a := fun e => hq (h x (List.mem_cons_self ..) e)
      rw [ih, List.map_cons, List.count_cons_of_ne hne]
/-- a place of a ring that is read once each -/
def On (ks : List Mv) (p : Nat) (a : ByteArray) : Prop := ∃ (n : Nat) (o : Nat → ByteArray), 0 < n ∧ o 0 = nm p ∧ o n = nm p ∧ (∀ k, k < n → (o k, o (k + 1)) ∈ ks ∧ rdN ks (o k) = 1 ∧ p ≤ pidx (o k)) ∧ ∃ k, k < n ∧ o k = a
theorem on_le {ks : List Mv} (hk : (ks.map (·.1)).Nodup) {p q : Nat} (hq : q < 9) {a : ByteArray} (h1 : On ks p a) (h2 : On ks q a) : p ≤ q := by
  obtain ⟨n, o, hn, o0, on, ho, i, hi, ei⟩ := h1
  obtain ⟨m, u, hm, u0, um, hu, j, hj, ej⟩ := h2
  have key : ∀ d, j + d ≤ m → ∃ k, k < n ∧ o k = u (j + d) := by
    intro d
    induction d with
    | zero => intro _; exact ⟨i, hi, by rw [ei]; exact ej.symm⟩
    | succ d ih =>
      intro hd
      obtain ⟨k, hk1, hk2⟩ := ih (by omega)
      have a1 := (ho k hk1).1
      have a2 := (hu (j + d) (by omega)).1
      rw [← hk2] at a2
      have e := key_inj hk a1 a2 rfl
      have e2 : o (k + 1) = u (j + d + 1) := congrArg (·.2) e
      obtain ⟨k', hk', ek⟩ := ring_wrap hn (on.trans o0.symm) hk1
      exact ⟨k', hk', by rw [← ek, e2]; rfl⟩
  obtain ⟨k, hk1, hk2⟩ := key (m - j) (by omega)
  rw [show j + (m - j) = m by omega, um] at hk2
  have := (ho k hk1).2.2
  rw [hk2, pidx_nm hq] at this
  exact this
/-- without some of the moves there are no more moves and closed rings -/
theorem clo_drop {ws : List Mv} (hw : (ws.map (·.1)).Nodup) (Q : Mv → Bool) : (ws.filter Q).length + cloN (ws.filter Q) ≤ ws.length + cloN ws := by
  have hks : ((ws.filter Q).map (·.1)).Nodup := hw.sublist (List.Sublist.map _ List.filter_sublist)
  obtain ⟨ks, hke⟩ : ∃ ks, ks = ws.filter Q := ⟨_, rfl⟩
  have hlen : ws.length = (ws.filter Q).length + (ws.filter fun m => !Q m).length := by
    clear hw hks hke
    induction ws with
    | nil => rfl
    | cons x ws ih =>
      rw [List.filter_cons, List.filter_cons, List.length_cons, ih]
      cases Q x <;> simp <;> omega
  have hlost : ∀ p, p < 9 → Clo ks p → ¬ Clo ws p → ∃ m ∈ ws.filter (fun m => !Q m), On ks p m.2 := by
    rintro p hp ⟨n, o, hn, o0, on, ho⟩ hno
    refine Classical.byContradiction fun hcon => hno ⟨n, o, hn, o0, on, fun k hk => ?_⟩
    obtain ⟨a1, a2, a3⟩ := ho k hk
    refine ⟨by rw [hke] at a1; exact (List.mem_filter.1 a1).1, ?_, a3⟩
    rw [← a2, hke]
    refine (rdN_all ws fun m hm e => ?_).symm
    cases hq : Q m with
    | true => rfl
    | false => exact absurd ⟨m, List.mem_filter.2 ⟨hm, by rw [hq]; rfl⟩, n, o, hn, o0, on, ho, k, hk, e.symm⟩ hcon
  have h1 : ((List.range 9).filter fun p => cloB ks p && !cloB ws p).length ≤ (ws.filter fun m => !Q m).length := by
    refine inj_le (fun p m => On ks p m.2) _ _ (List.nodup_range.sublist List.filter_sublist) (fun p hp => ?_) (fun p q m hp hq h1 h2 => ?_)
    · rw [List.mem_filter, List.mem_range, Bool.and_eq_true, Bool.not_eq_true'] at hp
      exact hlost p hp.1 (cloB_iff.1 hp.2.1) (cloB_no.1 hp.2.2)
    · rw [List.mem_filter, List.mem_range] at hp hq
      rw [← hke] at hks
      have := on_le hks hq.1 h1 h2
      have := on_le hks hp.1 h2 h1
      omega
  have h2 : cloN ks ≤ cloN ws + ((List.range 9).filter fun p => cloB ks p && !cloB ws p).length := by
    unfold cloN
    generalize List.range 9 = L
    induction L with
    | nil => exact Nat.le_refl _
    | cons x L ih =>
      rw [List.filter_cons, List.filter_cons, List.filter_cons]
      cases cloB ks x <;> cases cloB ws x <;> simp <;> omega
  rw [← hke] at hlen ⊢
  omega
theorem kw_count {ys : List Mv} {t : ByteArray} (h1 : MV ys) (h2 : wvB t = true) : cioI (kwM ys t) ≤ cioI ys := by
  have m1 : mvalid ys = true := by simpa [mvalid] using h1
  have m2 : mvalid (kwM ys t) = true := by simpa [mvalid] using kwM_MV (ys := ys) (t := t)
  unfold cioI
  rw [m1, m2, if_pos rfl, if_pos rfl, ← clo_closed h1, ← clo_closed kwM_MV, kwM_busy]
  have e : kwM ys t = (busyF ys 9).filter (fun m => (wnN t.data.toList).testBit (pidx m.1)) := by
    rw [kwM_yes m1 h2]; exact (kw_filter ys _ 9 (Nat.le_refl _)).symm
  have := clo_drop (busyF_Wt h1).keys (fun m => (wnN t.data.toList).testBit (pidx m.1))
  rw [← e] at this
  omega
theorem ow_count (ys : List Mv) (t : ByteArray) : ((owS ys t).length : Int) = cioI (kwM ys t) := by
  rw [owS_len]; exact (ord_facts kwM_MV).1
/-- letters that a text of names has -/
theorem pm_names {n p : Nat} (hp : p < 9) : pmH (nmN n) (nm p) = n.testBit p := by
  have := pmH_pick n.testBit p (by omega)
  rw [nm_tq hp]; exact this
theorem pm_wanted {t : ByteArray} (h : wvB t = true) {p : Nat} (hp : p < 9) : pmH t (nm p) = (wnN t.data.toList).testBit p := by
  have e := wn_names t
  unfold wvB at h; rw [decide_eq_true_eq] at h
  rw [h] at e
  rw [← pm_names hp, e]
/-- moves that are kept have a wanted place, and read one that is needed -/
theorem kw_has {ys : List Mv} {t : ByteArray} (h1 : MV ys) (h2 : wvB t = true) : ∀ m ∈ kwM ys t, pmH t m.1 = true ∧ (isP m.2 = true → pmH (nbB ys t) m.2 = true) := by
  intro m hm
  have m1 : mvalid ys = true := by simpa [mvalid] using h1
  rw [kwM_yes m1 h2] at hm
  obtain ⟨p, hp, hb, hne, rfl⟩ := kw_mem hm
  refine ⟨by rw [pm_wanted h2 hp]; exact hb, fun hP => ?_⟩
  rw [nbB_yes m1 h2]
  obtain ⟨q, hq, e⟩ := nm_of_isP hP
  have e' : srcM ys (nm p) = nm q := e
  show pmH _ (srcM ys (nm p)) = true
  rw [e', pm_names hq]
  unfold scN
  rw [stN_test, decide_eq_true (show q < 11 by omega), Bool.true_and]
  unfold inTx
  rw [decide_eq_true_eq, sc_mem h1 (el9 (wnN_lt _))]
  exact ⟨p, el_mem.2 ⟨by omega, hb⟩, by rw [e', nm_tq hq]; rfl⟩
/-- the spare place is neither wanted nor needed -/
theorem so_has {ys : List Mv} {t : ByteArray} (h1 : MV ys) (h2 : wvB t = true) (hs : soB ys t = true) : pmH t (spB ys t) = false ∧ pmH (nbB ys t) (spB ys t) = false := by
  obtain ⟨s1, s2, s3, s4, _⟩ := so_spec hs
  rw [s2, pm_wanted h2 s1, nbB_yes (by simpa [mvalid] using h1) h2, pm_names s1]
  exact ⟨s3, s4⟩
end Go.PE
namespace Go.PM
open Go.RowKit
theorem yieldsIf_row {P : Program} {ops : Array Oper} {S : World → Prop} {op : Oper} {a : Act} (hw : Region.wanted op (yielded ops a.tmps) = true) (ty : TypeId) (x : Operand) (ho : op.op = .load ty x)
    (b : Nat) (t : TypeId) (cs : Array Value) (hx : a.eval x = .pointer (some ⟨b, 0, none⟩)) (hS : ∀ w, S w → At w b t cs)
    (k : Nat) (e : TypeId) (hu : P.underlying ty = some (.array k e)) (hi : (P.info? ty).map (·.size) = some cs.size) : YieldsIf P ops S op (.agg cs) a :=
  .inl ⟨hw, fun w hw' => by
    unfold execOp
    simp only [ho, hx, Instr.loadAt, Instr.sureAddr, Sem.run_bind, Sem.run_pure, Result.andThen_ok, run_loadVar_row w b t ty cs (0, 0) _ (hS w hw') hu rfl hi]⟩
end Go.PM
namespace Go.PE
open Go.PM Go.PD Go.RowKit
theorem srcT_okC {xs : List Mv} (h : MV xs) : ∀ p, p < 9 → okC (srcT (tabOf xs) p) = true := fun p hp => by
  rw [srcT_M h hp]
  have := srcM_isS h (isP_nm hp)
  unfold isS at this
  unfold okC
  rw [Bool.or_eq_true] at this ⊢
  rcases this with h1 | h1
  · exact .inl (isP_isC h1).1
  · exact .inr h1
end Go.PE
namespace Go.Proofs.YtplapaojgcloaaaGreatDoor
open Go.RowKit Go.PM Go.PE
attribute [local go_sem] Oper.semAt_some

theorem wpIn_noP9 {F : Fence} {n : Nat} {P : Program} {c : Code} {K : Act → World → Prop} {Q : Exit → Act → World → Prop} {a : Act} {w : World} (h : c.wpIn F n P (Exit.then K (fun _ _ _ => False)) a w) : c.wpIn F n P (Exit.then K Q) a w :=
  Code.wpIn_mono (fun e a w h => by cases e <;> first | exact h | exact h.elim) h
theorem results_irf (W : World) (b1 : Nat) (v : Value) (h1 : At W b1 4 #[v]) (tmps : Array Value) (e1 : tmps.getD 6 undef = .pointer (some ⟨b1, 0, none⟩)) :
    (results Tryz.f18 tmps).run Tryz.prog W = .ok v W := by
  have q1 := h1.cell 0
  simp at q1
  have e1' : tmps[6]?.getD undef = .pointer (some ⟨b1, 0, none⟩) := by simpa using e1
  simp [results, Tryz.results18, go_sem, e1', q1]
set_option maxRecDepth 100000 in
set_option maxHeartbeats 2000000 in
theorem imIsRightFor_c (xs : List St) (ys : List Mv) (v u : Value) (t : ByteArray) (ht : t.size ≤ 1048576) (w : World) (hx : RdS w v xs) (hy : RdM w u ys) (hT : Tz w) :
    Calls Tryz.prog 18 #[v, u, .string t] w fun e w' => e = .returned (.bool (irfB xs ys t)) ∧ Below w.heap.size w w' := by
  have HX := Lib.hid (fun W (hb : Below w.heap.size w W) => hx.below hb)
  have HTZ := Lib.hid (fun W (hb : Below w.heap.size w W) => hT.below hb)
  have hB0 : Below w.heap.size w (w.alloc (.cells #[.bool false] 4)) := (Below.refl _ _).alloc (Nat.le_refl _) _
  have a0 : At (w.alloc (.cells #[.bool false] 4)) w.heap.size 4 #[.bool false] := At.new _ _ _
  have HTW := Lib.hid (tableAndWanted_c ys u t ht _ (hy.below hB0) (hT.below hB0))
  have HSV := Lib.hid (fun W hW => imSequenceValid_c xs v W hW)
  have HIF : Hid (irfB xs ys t = (svalid xs && ((mvalid ys && wvB t) && (elN (wnN t.data.toList)).all fun p => decide (runS xs xs.length nmT p = aoS (tabOf ys) nmT p)))) := by
    show _ = _; unfold irfB; rw [← Bool.and_assoc (mvalid ys)]
  have hs0 : w.heap.size ≤ (w.alloc (.cells #[.bool false] 4)).heap.size := hB0.size
  rcases Bool.eq_false_or_eq_true (mvalid ys && wvB t) with hv | hv
  · rw [hv] at HTW HIF
    have hMV : MV ys := by rw [Bool.and_eq_true] at hv; simpa [mvalid] using hv.1
    rcases Bool.eq_false_or_eq_true (svalid xs) with h1 | h1
    · rw [h1, Bool.true_and, Bool.true_and] at HIF
      rw [h1] at HSV
      have hlt := wnN_lt t.data.toList
      have HIO := Lib.hid (fun W hW => inOrder_c xs (fun k hk => svalid_at h1 k hk) v nmS W hW)
      have HAO := Lib.hid (fun W => atOnce_c (tabOf ys) nmS (srcT_okC hMV) W)
      have HP9 := Lib.hid (fun ps p h => pre_el9 hlt (ps := ps) (p := p) h)
      rw [tbF_yes hMV] at HTW
      change Hid (irfB xs ys t = (elN (wnN t.data.toList)).all fun p => decide (runS xs xs.length nmS p = aoS (tabOf ys) nmS p)) at HIF
      clear hv hMV h1 hx hy hT
      generalize runS xs xs.length nmS = g1 at *
      generalize aoS (tabOf ys) nmS = g2 at *
      generalize tabOf ys = f at *
      generalize wnN t.data.toList = n at *
      refine (callsIn_wide (n := 5)).1 ?_
      refine callsIn_of_wp_marks Tryz.func18 rfl trivial ?_ rfl
      simp only [Tryz.ntmps18, List.size_toArray, List.length_cons, List.length_nil, Nat.reduceAdd, Nat.reduceSub, Array.replicate_succ, Array.replicate_zero, List.push_toArray, List.append_toArray, List.nil_append, List.cons_append]
      gi_wp2_with fail
      refine ⟨trivial, callsIn_wide.2 (HTW.out.mono ?_)⟩
      rintro e w1 ⟨rfl, hb1⟩
      have a1 := a0.keep hb1
      have B1 := hB0.trans (hb1.mono hs0)
      have hs1 := B1.size
      clear a0 hb1 hB0 HTW
      obtain ⟨w2, hw2⟩ : ∃ w2 : World, w2 = w1.alloc (.cells (tabA f) 53) := ⟨_, rfl⟩
      have k2 : At w2 w1.heap.size 53 (tabC f) := by rw [hw2]; exact At.new w1 _ _
      have a2 : At w2 w.heap.size 4 #[.bool false] := by rw [hw2]; exact a1.alloc _
      have B2 : Below w.heap.size w w2 := by rw [hw2]; exact B1.alloc hs1 _
      have hs2 := B2.size
      clear a1
      gi_wp2_with fail
      rw [← hw2]
      refine ⟨trivial, callsIn_wide.2 ((HSV.out _ (HX.out _ B2)).mono ?_)⟩
      rintro e w3 ⟨rfl, hb3⟩
      have k3 := k2.keep hb3
      have a3 := a2.keep hb3
      have B3 := B2.trans (hb3.mono hs2)
      have hs3 := B3.size
      have hlt2 := k2.lt
      clear k2 a2 B2 hb3 hw2 HSV
      gi_wp2_with fail
      refine ⟨trivial, callsIn_wide.2 ((stateOfNames_c _).mono ?_)⟩
      rintro e w4 ⟨rfl, hb4⟩
      have k4 := k3.keep hb4
      have a4 := a3.keep hb4
      have B4 := B3.trans (hb4.mono hs3)
      have hs4 := B4.size
      have z4 : At (w4.alloc (.cells zSA 72)) w4.heap.size 72 zSA := At.new _ _ _
      have k4a := k4.alloc (.cells zSA 72)
      have a4a := a4.alloc (.cells zSA 72)
      have B4a := B4.alloc hs4 (.cells zSA 72)
      have hl4 := k4.lt
      have hl5 := a4.lt
      clear k3 a3 B3 hb4 k4 a4 B4
      gi_wp2_with (refine stIn_row rfl 72 (.tmp 10) (.tmp 28) rfl rfl w4.heap.size 72 zSA (stC nmS) z4 (by rfl) (by rfl) (by kernel_rfl) rfl (stC_one _) ?_; intro W5 n5 g5; refine held ?_)
      unfold Held
      have k5 := k4a.grown g5 (by simp; omega)
      have a5 := a4a.grown g5 (by simp; omega)
      have B5 := B4a.trans (below_grown g5 B4a.size (fun g hg => by cases hg; exact hs4))
      have hl6 := n5.lt
      have hl7 := k5.lt
      have hl8 := a5.lt
      have hs5 := B5.size
      clear z4 k4a a4a B4a g5
      gi_wp2
      rename_i K2 hK2
      obtain ⟨S, hSd⟩ : ∃ S : World → Prop, S = fun W => At W w4.heap.size 72 (stC nmS) ∧ At W w1.heap.size 53 (tabC f) ∧ At W w.heap.size 4 #[.bool false] ∧ Below w.heap.size w W ∧ W5.heap.size ≤ W.heap.size := ⟨_, rfl⟩
      have HSN : ∀ W, S W → At W w4.heap.size 72 (stC nmS) := fun W h => by rw [hSd] at h; exact h.1
      have HST : ∀ W, S W → At W w1.heap.size 53 (tabC f) := fun W h => by rw [hSd] at h; exact h.2.1
      have HSA : ∀ W, S W → At W w.heap.size 4 #[.bool false] := fun W h => by rw [hSd] at h; exact h.2.2.1
      have HSB : ∀ W, S W → Below w.heap.size w W := fun W h => by rw [hSd] at h; exact h.2.2.2.1
      have HSL : ∀ W, S W → W5.heap.size ≤ W.heap.size := fun W h => by rw [hSd] at h; exact h.2.2.2.2
      have HSX : ∀ W W', S W → Below W.heap.size W W' → S W' := fun W W' h hb => by
        rw [hSd] at h ⊢
        exact ⟨h.1.keep hb, h.2.1.keep hb, h.2.2.1.keep hb, h.2.2.2.1.trans (hb.mono h.2.2.2.1.size), Nat.le_trans h.2.2.2.2 hb.size⟩
      have HSG : ∀ W W' b, S W → W.grownBy W' (some b) → W5.heap.size ≤ b → S W' := fun W W' b h hg hb => by
        rw [hSd] at h ⊢
        exact ⟨h.1.grown hg (fun e => by cases e; omega), h.2.1.grown hg (fun e => by cases e; omega), h.2.2.1.grown hg (fun e => by cases e; omega), h.2.2.2.1.trans (below_grown hg h.2.2.2.1.size (fun g e => by cases e; omega)), Nat.le_trans h.2.2.2.2 hg.size⟩
      have hs5' : S W5 := by rw [hSd]; exact ⟨n5, k5, a5, B5, Nat.le_refl _⟩
      clear hSd n5 k5 a5 B5
      have FIN : ∀ (b1 b2 : Nat) (W : World), S W → At W b1 72 (stC g1) → At W b2 72 (stC g2) → K2 { tmps := #[v, u, .string t, undef, undef, undef, .pointer (some ⟨w.heap.size, 0, none⟩), .pointer (some ⟨w1.heap.size, 0, none⟩), .int .u64 n, .bool true, .pointer (some ⟨w4.heap.size, 0, none⟩), .pointer (some ⟨b1, 0, none⟩), .pointer (some ⟨b2, 0, none⟩), undef, .tuple #[tabX f, .int .u64 n, .bool true], u, .string t, .tuple #[tabX f, .int .u64 n, .bool true], tabX f, .int .u64 n, .bool true, .bool true, .bool false, .bool false, v, .bool true, .bool false, .bool false, stV nmS, stV nmS, v, stV g1, stV nmS, tabV f, stV g2, undef, undef, undef, undef, undef, undef, undef, undef, undef, undef], defers := [] } W := by
        intro b1 b2 W hs p1 p2
        have hzW := (HSA _ hs).lt
        refine hK2 _ _ ?_
        gi_wp2
        refine range_law3s (F := Fence.wide) (Pr := fun W => Tz W) (gf := 44) (lf := #[.int .u64 (n : Int)]) (lb := #[]) rfl (by decide) rfl trivial (fun args w => rfl) (encs := fun p : Nat => #[.int .i64 p]) (xs := elN n) (κ := 0)
          (cells_iter n (by omega) 4 (by decide)) (fun _ => rfl)
          (fun pre W => At W w.heap.size 4 #[.bool false] ∧ At W b1 72 (stC g1) ∧ At W (b2) 72 (stC g2) ∧ Hid (∀ p ∈ pre, g1 p = g2 p) ∧ Below w.heap.size w W)
          (fun c pre W => c = .ret ∧ (∃ p ∈ pre, g1 p ≠ g2 p) ∧ At W w.heap.size 4 #[.bool false] ∧ Below w.heap.size w W) ?pr ?own ?ownx ?start ?a1 ?assign ?body ?done ?stop
        case pr => exact fun pre A h => HTZ.out A h.2.2.2.2
        case own =>
          rintro s A A' row ⟨k1, k2, k3, k4, k5⟩ hg hr
          exact ⟨k1.turn hg (fun r e => (hr r e).2), k2.turn hg (fun r e => (hr r e).2), k3.turn hg (fun r e => (hr r e).2), k4, k5.trans (below_grown hg k5.size (fun g e => by have := (hr g e).1; omega))⟩
        case ownx =>
          rintro c s A A' row ⟨k1, k2, k3, k5⟩ hg hr
          exact ⟨k1, k2, k3.turn hg (fun r e => (hr r e).2), k5.trans (below_grown hg k5.size (fun g e => by have := (hr g e).1; omega))⟩
        case start => exact ⟨HSA _ hs, p1, p2, (fun p hp => by cases hp), HSB _ hs⟩
        case assign =>
          intro l p W Kc hK
          gi_wp2
          exact hK
        case body =>
          clear p1 p2 hs
          rintro l pre p A ⟨k1, k2, k3, k4, k5⟩ hp hsz
          have hp9 := HP9.out _ _ hp
          have i0 : (0 : Int) ≤ (p : Int) := by omega
          have i1 : (p : Int) < 11 := by omega
          have c1 : A.drew.cell? ⟨b1, p, none⟩ = some (.int .u8 (g1 p).toNat) := (k2.cell p).trans (stC_at g1 p (by omega))
          have c2 : A.drew.cell? ⟨b2, p, none⟩ = some (.int .u8 (g2 p).toNat) := (k3.cell p).trans (stC_at g2 p (by omega))
          have hk5 := k5.size
          by_cases he : g1 p = g2 p
          · have HI : Hid (∀ q ∈ pre ++ [p], g1 q = g2 q) := fun q hq => by
              rcases List.mem_append.1 hq with h | h
              · exact k4.out q h
              · rw [List.mem_singleton.1 h]; exact he
            have t1 : ((((g1 p).toNat : Nat) : Int) == ((g2 p).toNat : Nat)) = true := by rw [he]; simp
            clear he hp
            generalize ((g1 p).toNat : Int) = v1 at *
            generalize ((g2 p).toNat : Int) = v2 at *
            gi_wp2
            refine region_quiet_inRound (F := Fence.wide) (C := fun w' => w' = A.drew) rfl (by kernel_rfl) (by kernel_rfl) (by kernel_rfl) rfl ?_
            simp only
            gi_big_quiet_step (fail)
            gi_big_quiet_step (fail)
            gi_big_quiet_step (fail)
            gi_big_quiet_step (fail)
            gi_big_quiet_step (fail)
            gi_big_quiet_step (fail)
            gi_big_quiet_step (fail)
            refine wpQuietIn_nil ?_
            intro w' hw'
            subst hw'
            gi_wp2
            exact ⟨(KeepsNew.drew A).from, KeepsIn.zero (Nat.le_refl _), k1, k2, k3, HI, k5.drew⟩
          · have HX2 : Hid (∃ q ∈ pre ++ [p], g1 q ≠ g2 q) := ⟨p, List.mem_append_right _ (List.mem_singleton_self p), he⟩
            have t1 : ((((g1 p).toNat : Nat) : Int) == ((g2 p).toNat : Nat)) = false := by
              have : (g1 p).toNat ≠ (g2 p).toNat := fun e => he (UInt8.toNat.inj e)
              simp; omega
            have c0 : A.drew.cell? ⟨w.heap.size, 0, none⟩ = some (.bool false) := k1.cell 0
            have f0 : A.drew.frozen? ⟨w.heap.size, 0, none⟩ = false := k1.frozen 0
            have l0 := k1.lt
            have m1 : At (A.drew.setCell ⟨w.heap.size, 0, none⟩ (.bool false)) w.heap.size 4 #[.bool false] := At.set (w := A.drew) k1 0 _
            clear he hp
            generalize ((g1 p).toNat : Int) = v1 at *
            generalize ((g2 p).toNat : Int) = v2 at *
            gi_wp2
            refine region_quiet_inRound (F := Fence.wide) (C := fun w' => w' = A.drew) rfl (by kernel_rfl) (by kernel_rfl) (by kernel_rfl) rfl ?_
            simp only
            gi_big_quiet_step (fail)
            gi_big_quiet_step (fail)
            gi_big_quiet_step (fail)
            gi_big_quiet_step (fail)
            gi_big_quiet_step (fail)
            gi_big_quiet_step (fail)
            gi_big_quiet_step (fail)
            refine wpQuietIn_nil ?_
            intro w' hw'
            subst hw'
            gi_wp2
            exact ⟨(KeepsNew.drew A).from.trans ((KeepsOthers.setCell _ _ _).from _), rfl, HX2.out, m1, k5.drew.setCell (Nat.le_refl _) _⟩
        case done =>
          intro D W hD hI hd
          obtain ⟨k1, k2, k3, k4, k5⟩ := hI
          have HA : Hid (irfB xs ys t = true) := by
            show _ = _; rw [HIF.out, List.all_eq_true]; intro p hp; exact decide_eq_true (k4.out p hp)
          have c0 := k1.cell 0
          have f0 := k1.frozen 0
          have l0 := k1.lt
          have m1 := k1.set 0 (.bool true)
          have d6 : (W.setCell ⟨w.heap.size, 0, none⟩ (.bool true)).heap[D]? = some (.deferred (some [])) := (heap_setCell_other _ _ _ _ (by simp; omega)).trans hd
          have bel := k5.setCell (p := ⟨w.heap.size, 0, none⟩) (Nat.le_refl _) (.bool true)
          clear k1 k2 k3
          gi_wp2
          refine ⟨by simp, .inl ⟨D, _, rfl, run_takeDeferred d6, ?_⟩⟩
          exact ⟨_, results_irf _ w.heap.size (.bool true) ((World.putObj_heap_other (by omega)).trans m1) _ rfl, by rw [HA.out], bel.trans ⟨rfl, rfl, rfl, by simp [World.putObj], fun k hk => World.putObj_heap_other (by omega)⟩⟩
        case stop =>
          rintro D c pre W hD hp ⟨rfl, ⟨q, hq1, hq2⟩, k1, k5⟩ hd
          have HA : Hid (irfB xs ys t = false) := by
            show _ = _; rw [HIF.out, List.all_eq_false]; exact ⟨q, hp.subset hq1, by simpa using hq2⟩
          gi_wp2
          refine ⟨by simp, .inl ⟨D, _, rfl, run_takeDeferred hd, ?_⟩⟩
          exact ⟨_, results_irf _ w.heap.size (.bool false) ((World.putObj_heap_other (by have := k1.lt; omega)).trans k1) _ rfl, by rw [HA.out], k5.trans ⟨rfl, rfl, rfl, by simp [World.putObj], fun k hk => World.putObj_heap_other (by have := k5.size; omega)⟩⟩

      clear hK2
      refine wpIn_noP9 ?_
      refine wpIn_wide.2 ?_
      have sD : S W5.drew := HSX _ _ hs5' ((Below.refl _ _).drew)
      refine wp_region_held_drew (S := S) (by kernel_rfl) sD (fun hHeld => ?_)
      refine wpAnyH_take (i := 0) (oi := _) (v := .agg (stC nmS)) rfl (by kernel_rfl) (by kernel_rfl) (by kernel_rfl) (fun _ _ _ h => h) (yieldsIf_row rfl 72 (.tmp 10) rfl w4.heap.size 72 (stC nmS) (by rfl) (fun _ h => HSN _ h) 11 5 Tryz.underlying72 (by kernel_rfl)) hHeld ?_
      simp only [Act.put, List.getElem_toArray, List.getElem_cons_zero, List.setIfInBounds_toArray, List.set_cons_succ, List.set_cons_zero]
      refine wpAnyH_take (i := 1) (oi := _) (v := ?_) rfl (by kernel_rfl) (by kernel_rfl) (by kernel_rfl) (fun _ _ _ h => h) (Or.inl ⟨by rfl, by intro w0 _; go_simp; rfl⟩) hHeld ?_
      simp only [Act.put, List.getElem_toArray, List.getElem_cons_zero, List.getElem_cons_succ, List.setIfInBounds_toArray, List.set_cons_succ, List.set_cons_zero]
      refine wpAnyH_take (i := 3) (oi := _) (v := .agg (stC nmS)) rfl (by kernel_rfl) (by kernel_rfl) (by kernel_rfl) (fun _ _ _ h => h) (yieldsIf_row rfl 72 (.tmp 10) rfl w4.heap.size 72 (stC nmS) (by rfl) (fun _ h => HSN _ h) 11 5 Tryz.underlying72 (by kernel_rfl)) hHeld ?_
      simp only [Act.put, List.getElem_toArray, List.getElem_cons_zero, List.getElem_cons_succ, List.setIfInBounds_toArray, List.set_cons_succ, List.set_cons_zero]
      refine wpAnyH_take (i := 4) (oi := _) (v := .agg (tabC f)) rfl (by kernel_rfl) (by kernel_rfl) (by kernel_rfl) (fun _ _ _ h => h) (yieldsIf_row rfl 53 (.tmp 7) rfl w1.heap.size 53 (tabC f) (by rfl) (fun _ h => HST _ h) 9 9 Tryz.underlying53 (by kernel_rfl)) hHeld ?_
      simp only [Act.put, List.getElem_toArray, List.getElem_cons_zero, List.getElem_cons_succ, List.setIfInBounds_toArray, List.set_cons_succ, List.set_cons_zero]
      obtain ⟨WD, hWD⟩ : ∃ WD : World, WD = W5.drew := ⟨_, rfl⟩
      rw [← hWD] at sD ⊢
      clear hHeld hWD
--@ORDERS
      refine wpAnyH_ready (rs := [2, 6, 7]) (by kernel_rfl) (by simp) ?_
      refine AllReadyH.cons rfl (fun K hK => ?_) (AllReadyH.cons rfl (fun K hK => ?_) (AllReadyH.cons rfl (fun K hK => ?_) (AllReadyH.nil)))
      · go_simp
        go_at_call 42
        refine (HIO.out _ (HX.out _ (HSB _ sD))).mono ?_
        rintro e V1 ⟨rfl, hbV1⟩
        have sV1 := HSX _ _ sD hbV1
        refine hK.out _ _ sV1 (fun hHeldV1 => ?_)
        clear hK K
        try simp only [Act.put, List.getElem_toArray, List.getElem_cons_zero, List.getElem_cons_succ, List.setIfInBounds_toArray, List.set_cons_succ, List.set_cons_zero]
        refine wpAnyH_ready (rs := [5, 6, 7]) (by kernel_rfl) (by simp) ?_
        refine AllReadyH.cons rfl (fun K hK => ?_) (AllReadyH.cons rfl (fun K hK => ?_) (AllReadyH.cons rfl (fun K hK => ?_) (AllReadyH.nil)))
        · go_simp
          go_at_call 43
          refine (HAO.out _).mono ?_
          rintro e V2 ⟨rfl, hbV2⟩
          have sV2 := HSX _ _ sV1 hbV2
          refine hK.out _ _ sV2 (fun hHeldV2 => ?_)
          clear hK K
          try simp only [Act.put, List.getElem_toArray, List.getElem_cons_zero, List.getElem_cons_succ, List.setIfInBounds_toArray, List.set_cons_succ, List.set_cons_zero]
          refine wpAnyH_ready (rs := [6, 7]) (by kernel_rfl) (by simp) ?_
          refine AllReadyH.cons rfl (fun K hK => ?_) (AllReadyH.cons rfl (fun K hK => ?_) (AllReadyH.nil))
          · go_simp
            have hbV3 : Below V2.heap.size V2 (V2.alloc (.cells zSA 72)) := (Below.refl _ _).alloc (Nat.le_refl _) _
            have sV3 := HSX _ _ sV2 hbV3
            have qV3 : At (V2.alloc (.cells zSA 72)) V2.heap.size 72 zSA := At.new _ _ _
            have lV3 := HSL _ sV2
            obtain ⟨V3, hvV3⟩ : ∃ V : World, V = V2.alloc (.cells zSA 72) := ⟨_, rfl⟩
            rw [← hvV3] at sV3 qV3 hbV3
            have e6V3 := qV3.lt
            have hzV3 := hbV3.size
            rw [← hvV3]
            clear hvV3
            refine hK.out _ _ sV3 (fun hHeldV3 => ?_)
            clear hK K
            try simp only [Act.put, List.getElem_toArray, List.getElem_cons_zero, List.getElem_cons_succ, List.setIfInBounds_toArray, List.set_cons_succ, List.set_cons_zero]
            refine wpAnyH_ready (rs := [7]) (by kernel_rfl) (by simp) ?_
            refine AllReadyH.cons rfl (fun K hK => ?_) (AllReadyH.nil)
            · go_simp
              have hbV4 : Below V3.heap.size V3 (V3.alloc (.cells zSA 72)) := (Below.refl _ _).alloc (Nat.le_refl _) _
              have sV4 := HSX _ _ sV3 hbV4
              have qV4 : At (V3.alloc (.cells zSA 72)) V3.heap.size 72 zSA := At.new _ _ _
              have lV4 := HSL _ sV3
              have p6V4 := qV3.keep hbV4
              obtain ⟨V4, hvV4⟩ : ∃ V : World, V = V3.alloc (.cells zSA 72) := ⟨_, rfl⟩
              rw [← hvV4] at sV4 qV4 hbV4 p6V4
              have e6V4 := p6V4.lt
              have e7V4 := qV4.lt
              have hzV4 := hbV4.size
              rw [← hvV4]
              clear hvV4
              refine hK.out _ _ sV4 (fun hHeldV4 => ?_)
              clear hK K
              try simp only [Act.put, List.getElem_toArray, List.getElem_cons_zero, List.getElem_cons_succ, List.setIfInBounds_toArray, List.set_cons_succ, List.set_cons_zero]
              have hne : V2.heap.size ≠ V3.heap.size := by omega
              refine wpAnyH_ready (rs := [8]) (by kernel_rfl) (by simp) ?_
              refine AllReadyH.cons rfl (fun K hK => ?_) AllReadyH.nil
              rw [if_pos (by rfl)]
              refine wp_store_row 72 (.tmp 11) (.tmp 31) rfl V2.heap.size (stC g1) (by rfl) (by rfl) 72 zSA p6V4 (by kernel_rfl) rfl (stC_one _) ?_
              have gA := grown_setRow V4 V2.heap.size (stC g1)
              have pA := At.setRow p6V4 (stC g1)
              have qA := qV4.grown gA (fun e => hne (Option.some.inj e).symm)
              have sA := HSG _ _ _ sV4 gA lV3
              refine hK.out _ _ sA (fun hHeldA => ?_)
              clear hK K
              try simp only [Act.put, List.getElem_toArray, List.getElem_cons_zero, List.getElem_cons_succ]
              generalize World.setRow V4 V2.heap.size (stC g1) = WA at *
              refine wpAnyH_ready (rs := [9]) (by kernel_rfl) (by simp) ?_
              refine AllReadyH.cons rfl (fun K hK => ?_) AllReadyH.nil
              rw [if_pos (by rfl)]
              refine wp_store_row 72 (.tmp 12) (.tmp 34) rfl V3.heap.size (stC g2) (by rfl) (by rfl) 72 zSA qA (by kernel_rfl) rfl (stC_one _) ?_
              have gB := grown_setRow WA V3.heap.size (stC g2)
              have qB := At.setRow qA (stC g2)
              have pB := pA.grown gB (fun e => hne (Option.some.inj e))
              have sB := HSG _ _ _ sA gB lV4
              refine hK.out _ _ sB (fun hHeldB => ?_)
              clear hK K
              try simp only [Act.put, List.getElem_toArray, List.getElem_cons_zero, List.getElem_cons_succ]
              generalize World.setRow WA V3.heap.size (stC g2) = WB at *
              refine wpAnyH_done (by kernel_rfl) ?_ _
              exact FIN _ _ _ sB pB qB
          · go_simp
            have hbV5 : Below V2.heap.size V2 (V2.alloc (.cells zSA 72)) := (Below.refl _ _).alloc (Nat.le_refl _) _
            have sV5 := HSX _ _ sV2 hbV5
            have qV5 : At (V2.alloc (.cells zSA 72)) V2.heap.size 72 zSA := At.new _ _ _
            have lV5 := HSL _ sV2
            obtain ⟨V5, hvV5⟩ : ∃ V : World, V = V2.alloc (.cells zSA 72) := ⟨_, rfl⟩
            rw [← hvV5] at sV5 qV5 hbV5
            have e7V5 := qV5.lt
            have hzV5 := hbV5.size
            rw [← hvV5]
            clear hvV5
            refine hK.out _ _ sV5 (fun hHeldV5 => ?_)
            clear hK K
            try simp only [Act.put, List.getElem_toArray, List.getElem_cons_zero, List.getElem_cons_succ, List.setIfInBounds_toArray, List.set_cons_succ, List.set_cons_zero]
            refine wpAnyH_ready (rs := [6]) (by kernel_rfl) (by simp) ?_
            refine AllReadyH.cons rfl (fun K hK => ?_) (AllReadyH.nil)
            · go_simp
              have hbV6 : Below V5.heap.size V5 (V5.alloc (.cells zSA 72)) := (Below.refl _ _).alloc (Nat.le_refl _) _
              have sV6 := HSX _ _ sV5 hbV6
              have qV6 : At (V5.alloc (.cells zSA 72)) V5.heap.size 72 zSA := At.new _ _ _
              have lV6 := HSL _ sV5
              have p7V6 := qV5.keep hbV6
              obtain ⟨V6, hvV6⟩ : ∃ V : World, V = V5.alloc (.cells zSA 72) := ⟨_, rfl⟩
              rw [← hvV6] at sV6 qV6 hbV6 p7V6
              have e7V6 := p7V6.lt
              have e6V6 := qV6.lt
              have hzV6 := hbV6.size
              rw [← hvV6]
              clear hvV6
              refine hK.out _ _ sV6 (fun hHeldV6 => ?_)
              clear hK K
              try simp only [Act.put, List.getElem_toArray, List.getElem_cons_zero, List.getElem_cons_succ, List.setIfInBounds_toArray, List.set_cons_succ, List.set_cons_zero]
              have hne : V5.heap.size ≠ V2.heap.size := by omega
              refine wpAnyH_ready (rs := [8]) (by kernel_rfl) (by simp) ?_
              refine AllReadyH.cons rfl (fun K hK => ?_) AllReadyH.nil
              rw [if_pos (by rfl)]
              refine wp_store_row 72 (.tmp 11) (.tmp 31) rfl V5.heap.size (stC g1) (by rfl) (by rfl) 72 zSA qV6 (by kernel_rfl) rfl (stC_one _) ?_
              have gA := grown_setRow V6 V5.heap.size (stC g1)
              have pA := At.setRow qV6 (stC g1)
              have qA := p7V6.grown gA (fun e => hne (Option.some.inj e).symm)
              have sA := HSG _ _ _ sV6 gA lV6
              refine hK.out _ _ sA (fun hHeldA => ?_)
              clear hK K
              try simp only [Act.put, List.getElem_toArray, List.getElem_cons_zero, List.getElem_cons_succ]
              generalize World.setRow V6 V5.heap.size (stC g1) = WA at *
              refine wpAnyH_ready (rs := [9]) (by kernel_rfl) (by simp) ?_
              refine AllReadyH.cons rfl (fun K hK => ?_) AllReadyH.nil
              rw [if_pos (by rfl)]
              refine wp_store_row 72 (.tmp 12) (.tmp 34) rfl V2.heap.size (stC g2) (by rfl) (by rfl) 72 zSA qA (by kernel_rfl) rfl (stC_one _) ?_
              have gB := grown_setRow WA V2.heap.size (stC g2)
              have qB := At.setRow qA (stC g2)
              have pB := pA.grown gB (fun e => hne (Option.some.inj e))
              have sB := HSG _ _ _ sA gB lV5
              refine hK.out _ _ sB (fun hHeldB => ?_)
              clear hK K
              try simp only [Act.put, List.getElem_toArray, List.getElem_cons_zero, List.getElem_cons_succ]
              generalize World.setRow WA V2.heap.size (stC g2) = WB at *
              refine wpAnyH_done (by kernel_rfl) ?_ _
              exact FIN _ _ _ sB pB qB
        · go_simp
          have hbV7 : Below V1.heap.size V1 (V1.alloc (.cells zSA 72)) := (Below.refl _ _).alloc (Nat.le_refl _) _
          have sV7 := HSX _ _ sV1 hbV7
          have qV7 : At (V1.alloc (.cells zSA 72)) V1.heap.size 72 zSA := At.new _ _ _
          have lV7 := HSL _ sV1
          obtain ⟨V7, hvV7⟩ : ∃ V : World, V = V1.alloc (.cells zSA 72) := ⟨_, rfl⟩
          rw [← hvV7] at sV7 qV7 hbV7
          have e6V7 := qV7.lt
          have hzV7 := hbV7.size
          rw [← hvV7]
          clear hvV7
          refine hK.out _ _ sV7 (fun hHeldV7 => ?_)
          clear hK K
          try simp only [Act.put, List.getElem_toArray, List.getElem_cons_zero, List.getElem_cons_succ, List.setIfInBounds_toArray, List.set_cons_succ, List.set_cons_zero]
          refine wpAnyH_ready (rs := [5, 7]) (by kernel_rfl) (by simp) ?_
          refine AllReadyH.cons rfl (fun K hK => ?_) (AllReadyH.cons rfl (fun K hK => ?_) (AllReadyH.nil))
          · go_simp
            go_at_call 43
            refine (HAO.out _).mono ?_
            rintro e V8 ⟨rfl, hbV8⟩
            have sV8 := HSX _ _ sV7 hbV8
            have p6V8 := qV7.keep hbV8
            have e6V8 := p6V8.lt
            refine hK.out _ _ sV8 (fun hHeldV8 => ?_)
            clear hK K
            try simp only [Act.put, List.getElem_toArray, List.getElem_cons_zero, List.getElem_cons_succ, List.setIfInBounds_toArray, List.set_cons_succ, List.set_cons_zero]
            refine wpAnyH_ready (rs := [7]) (by kernel_rfl) (by simp) ?_
            refine AllReadyH.cons rfl (fun K hK => ?_) (AllReadyH.nil)
            · go_simp
              have hbV9 : Below V8.heap.size V8 (V8.alloc (.cells zSA 72)) := (Below.refl _ _).alloc (Nat.le_refl _) _
              have sV9 := HSX _ _ sV8 hbV9
              have qV9 : At (V8.alloc (.cells zSA 72)) V8.heap.size 72 zSA := At.new _ _ _
              have lV9 := HSL _ sV8
              have p6V9 := p6V8.keep hbV9
              obtain ⟨V9, hvV9⟩ : ∃ V : World, V = V8.alloc (.cells zSA 72) := ⟨_, rfl⟩
              rw [← hvV9] at sV9 qV9 hbV9 p6V9
              have e6V9 := p6V9.lt
              have e7V9 := qV9.lt
              have hzV9 := hbV9.size
              rw [← hvV9]
              clear hvV9
              refine hK.out _ _ sV9 (fun hHeldV9 => ?_)
              clear hK K
              try simp only [Act.put, List.getElem_toArray, List.getElem_cons_zero, List.getElem_cons_succ, List.setIfInBounds_toArray, List.set_cons_succ, List.set_cons_zero]
              have hne : V1.heap.size ≠ V8.heap.size := by omega
              refine wpAnyH_ready (rs := [8]) (by kernel_rfl) (by simp) ?_
              refine AllReadyH.cons rfl (fun K hK => ?_) AllReadyH.nil
              rw [if_pos (by rfl)]
              refine wp_store_row 72 (.tmp 11) (.tmp 31) rfl V1.heap.size (stC g1) (by rfl) (by rfl) 72 zSA p6V9 (by kernel_rfl) rfl (stC_one _) ?_
              have gA := grown_setRow V9 V1.heap.size (stC g1)
              have pA := At.setRow p6V9 (stC g1)
              have qA := qV9.grown gA (fun e => hne (Option.some.inj e).symm)
              have sA := HSG _ _ _ sV9 gA lV7
              refine hK.out _ _ sA (fun hHeldA => ?_)
              clear hK K
              try simp only [Act.put, List.getElem_toArray, List.getElem_cons_zero, List.getElem_cons_succ]
              generalize World.setRow V9 V1.heap.size (stC g1) = WA at *
              refine wpAnyH_ready (rs := [9]) (by kernel_rfl) (by simp) ?_
              refine AllReadyH.cons rfl (fun K hK => ?_) AllReadyH.nil
              rw [if_pos (by rfl)]
              refine wp_store_row 72 (.tmp 12) (.tmp 34) rfl V8.heap.size (stC g2) (by rfl) (by rfl) 72 zSA qA (by kernel_rfl) rfl (stC_one _) ?_
              have gB := grown_setRow WA V8.heap.size (stC g2)
              have qB := At.setRow qA (stC g2)
              have pB := pA.grown gB (fun e => hne (Option.some.inj e))
              have sB := HSG _ _ _ sA gB lV9
              refine hK.out _ _ sB (fun hHeldB => ?_)
              clear hK K
              try simp only [Act.put, List.getElem_toArray, List.getElem_cons_zero, List.getElem_cons_succ]
              generalize World.setRow WA V8.heap.size (stC g2) = WB at *
              refine wpAnyH_done (by kernel_rfl) ?_ _
              exact FIN _ _ _ sB pB qB
          · go_simp
            have hbV10 : Below V7.heap.size V7 (V7.alloc (.cells zSA 72)) := (Below.refl _ _).alloc (Nat.le_refl _) _
            have sV10 := HSX _ _ sV7 hbV10
            have qV10 : At (V7.alloc (.cells zSA 72)) V7.heap.size 72 zSA := At.new _ _ _
            have lV10 := HSL _ sV7
            have p6V10 := qV7.keep hbV10
            obtain ⟨V10, hvV10⟩ : ∃ V : World, V = V7.alloc (.cells zSA 72) := ⟨_, rfl⟩
            rw [← hvV10] at sV10 qV10 hbV10 p6V10
            have e6V10 := p6V10.lt
            have e7V10 := qV10.lt
            have hzV10 := hbV10.size
            rw [← hvV10]
            clear hvV10
            refine hK.out _ _ sV10 (fun hHeldV10 => ?_)
            clear hK K
            try simp only [Act.put, List.getElem_toArray, List.getElem_cons_zero, List.getElem_cons_succ, List.setIfInBounds_toArray, List.set_cons_succ, List.set_cons_zero]
            refine wpAnyH_ready (rs := [5]) (by kernel_rfl) (by simp) ?_
            refine AllReadyH.cons rfl (fun K hK => ?_) (AllReadyH.nil)
            · go_simp
              go_at_call 43
              refine (HAO.out _).mono ?_
              rintro e V11 ⟨rfl, hbV11⟩
              have sV11 := HSX _ _ sV10 hbV11
              have p6V11 := p6V10.keep hbV11
              have e6V11 := p6V11.lt
              have p7V11 := qV10.keep hbV11
              have e7V11 := p7V11.lt
              refine hK.out _ _ sV11 (fun hHeldV11 => ?_)
              clear hK K
              try simp only [Act.put, List.getElem_toArray, List.getElem_cons_zero, List.getElem_cons_succ, List.setIfInBounds_toArray, List.set_cons_succ, List.set_cons_zero]
              have hne : V1.heap.size ≠ V7.heap.size := by omega
              refine wpAnyH_ready (rs := [8]) (by kernel_rfl) (by simp) ?_
              refine AllReadyH.cons rfl (fun K hK => ?_) AllReadyH.nil
              rw [if_pos (by rfl)]
              refine wp_store_row 72 (.tmp 11) (.tmp 31) rfl V1.heap.size (stC g1) (by rfl) (by rfl) 72 zSA p6V11 (by kernel_rfl) rfl (stC_one _) ?_
              have gA := grown_setRow V11 V1.heap.size (stC g1)
              have pA := At.setRow p6V11 (stC g1)
              have qA := p7V11.grown gA (fun e => hne (Option.some.inj e).symm)
              have sA := HSG _ _ _ sV11 gA lV7
              refine hK.out _ _ sA (fun hHeldA => ?_)
              clear hK K
              try simp only [Act.put, List.getElem_toArray, List.getElem_cons_zero, List.getElem_cons_succ]
              generalize World.setRow V11 V1.heap.size (stC g1) = WA at *
              refine wpAnyH_ready (rs := [9]) (by kernel_rfl) (by simp) ?_
              refine AllReadyH.cons rfl (fun K hK => ?_) AllReadyH.nil
              rw [if_pos (by rfl)]
              refine wp_store_row 72 (.tmp 12) (.tmp 34) rfl V7.heap.size (stC g2) (by rfl) (by rfl) 72 zSA qA (by kernel_rfl) rfl (stC_one _) ?_
              have gB := grown_setRow WA V7.heap.size (stC g2)
              have qB := At.setRow qA (stC g2)
              have pB := pA.grown gB (fun e => hne (Option.some.inj e))
              have sB := HSG _ _ _ sA gB lV10
              refine hK.out _ _ sB (fun hHeldB => ?_)
              clear hK K
              try simp only [Act.put, List.getElem_toArray, List.getElem_cons_zero, List.getElem_cons_succ]
              generalize World.setRow WA V7.heap.size (stC g2) = WB at *
              refine wpAnyH_done (by kernel_rfl) ?_ _
              exact FIN _ _ _ sB pB qB
        · go_simp
          have hbV12 : Below V1.heap.size V1 (V1.alloc (.cells zSA 72)) := (Below.refl _ _).alloc (Nat.le_refl _) _
          have sV12 := HSX _ _ sV1 hbV12
          have qV12 : At (V1.alloc (.cells zSA 72)) V1.heap.size 72 zSA := At.new _ _ _
          have lV12 := HSL _ sV1
          obtain ⟨V12, hvV12⟩ : ∃ V : World, V = V1.alloc (.cells zSA 72) := ⟨_, rfl⟩
          rw [← hvV12] at sV12 qV12 hbV12
          have e7V12 := qV12.lt
          have hzV12 := hbV12.size
          rw [← hvV12]
          clear hvV12
          refine hK.out _ _ sV12 (fun hHeldV12 => ?_)
          clear hK K
          try simp only [Act.put, List.getElem_toArray, List.getElem_cons_zero, List.getElem_cons_succ, List.setIfInBounds_toArray, List.set_cons_succ, List.set_cons_zero]
          refine wpAnyH_ready (rs := [5, 6]) (by kernel_rfl) (by simp) ?_
          refine AllReadyH.cons rfl (fun K hK => ?_) (AllReadyH.cons rfl (fun K hK => ?_) (AllReadyH.nil))
          · go_simp
            go_at_call 43
            refine (HAO.out _).mono ?_
            rintro e V13 ⟨rfl, hbV13⟩
            have sV13 := HSX _ _ sV12 hbV13
            have p7V13 := qV12.keep hbV13
            have e7V13 := p7V13.lt
            refine hK.out _ _ sV13 (fun hHeldV13 => ?_)
            clear hK K
            try simp only [Act.put, List.getElem_toArray, List.getElem_cons_zero, List.getElem_cons_succ, List.setIfInBounds_toArray, List.set_cons_succ, List.set_cons_zero]
            refine wpAnyH_ready (rs := [6]) (by kernel_rfl) (by simp) ?_
            refine AllReadyH.cons rfl (fun K hK => ?_) (AllReadyH.nil)
            · go_simp
              have hbV14 : Below V13.heap.size V13 (V13.alloc (.cells zSA 72)) := (Below.refl _ _).alloc (Nat.le_refl _) _
              have sV14 := HSX _ _ sV13 hbV14
              have qV14 : At (V13.alloc (.cells zSA 72)) V13.heap.size 72 zSA := At.new _ _ _
              have lV14 := HSL _ sV13
              have p7V14 := p7V13.keep hbV14
              obtain ⟨V14, hvV14⟩ : ∃ V : World, V = V13.alloc (.cells zSA 72) := ⟨_, rfl⟩
              rw [← hvV14] at sV14 qV14 hbV14 p7V14
              have e7V14 := p7V14.lt
              have e6V14 := qV14.lt
              have hzV14 := hbV14.size
              rw [← hvV14]
              clear hvV14
              refine hK.out _ _ sV14 (fun hHeldV14 => ?_)
              clear hK K
              try simp only [Act.put, List.getElem_toArray, List.getElem_cons_zero, List.getElem_cons_succ, List.setIfInBounds_toArray, List.set_cons_succ, List.set_cons_zero]
              have hne : V13.heap.size ≠ V1.heap.size := by omega
              refine wpAnyH_ready (rs := [8]) (by kernel_rfl) (by simp) ?_
              refine AllReadyH.cons rfl (fun K hK => ?_) AllReadyH.nil
              rw [if_pos (by rfl)]
              refine wp_store_row 72 (.tmp 11) (.tmp 31) rfl V13.heap.size (stC g1) (by rfl) (by rfl) 72 zSA qV14 (by kernel_rfl) rfl (stC_one _) ?_
              have gA := grown_setRow V14 V13.heap.size (stC g1)
              have pA := At.setRow qV14 (stC g1)
              have qA := p7V14.grown gA (fun e => hne (Option.some.inj e).symm)
              have sA := HSG _ _ _ sV14 gA lV14
              refine hK.out _ _ sA (fun hHeldA => ?_)
              clear hK K
              try simp only [Act.put, List.getElem_toArray, List.getElem_cons_zero, List.getElem_cons_succ]
              generalize World.setRow V14 V13.heap.size (stC g1) = WA at *
              refine wpAnyH_ready (rs := [9]) (by kernel_rfl) (by simp) ?_
              refine AllReadyH.cons rfl (fun K hK => ?_) AllReadyH.nil
              rw [if_pos (by rfl)]
              refine wp_store_row 72 (.tmp 12) (.tmp 34) rfl V1.heap.size (stC g2) (by rfl) (by rfl) 72 zSA qA (by kernel_rfl) rfl (stC_one _) ?_
              have gB := grown_setRow WA V1.heap.size (stC g2)
              have qB := At.setRow qA (stC g2)
              have pB := pA.grown gB (fun e => hne (Option.some.inj e))
              have sB := HSG _ _ _ sA gB lV12
              refine hK.out _ _ sB (fun hHeldB => ?_)
              clear hK K
              try simp only [Act.put, List.getElem_toArray, List.getElem_cons_zero, List.getElem_cons_succ]
              generalize World.setRow WA V1.heap.size (stC g2) = WB at *
              refine wpAnyH_done (by kernel_rfl) ?_ _
              exact FIN _ _ _ sB pB qB
          · go_simp
            have hbV15 : Below V12.heap.size V12 (V12.alloc (.cells zSA 72)) := (Below.refl _ _).alloc (Nat.le_refl _) _
            have sV15 := HSX _ _ sV12 hbV15
            have qV15 : At (V12.alloc (.cells zSA 72)) V12.heap.size 72 zSA := At.new _ _ _
            have lV15 := HSL _ sV12
            have p7V15 := qV12.keep hbV15
            obtain ⟨V15, hvV15⟩ : ∃ V : World, V = V12.alloc (.cells zSA 72) := ⟨_, rfl⟩
            rw [← hvV15] at sV15 qV15 hbV15 p7V15
            have e7V15 := p7V15.lt
            have e6V15 := qV15.lt
            have hzV15 := hbV15.size
            rw [← hvV15]
            clear hvV15
            refine hK.out _ _ sV15 (fun hHeldV15 => ?_)
            clear hK K
            try simp only [Act.put, List.getElem_toArray, List.getElem_cons_zero, List.getElem_cons_succ, List.setIfInBounds_toArray, List.set_cons_succ, List.set_cons_zero]
            refine wpAnyH_ready (rs := [5]) (by kernel_rfl) (by simp) ?_
            refine AllReadyH.cons rfl (fun K hK => ?_) (AllReadyH.nil)
            · go_simp
              go_at_call 43
              refine (HAO.out _).mono ?_
              rintro e V16 ⟨rfl, hbV16⟩
              have sV16 := HSX _ _ sV15 hbV16
              have p7V16 := p7V15.keep hbV16
              have e7V16 := p7V16.lt
              have p6V16 := qV15.keep hbV16
              have e6V16 := p6V16.lt
              refine hK.out _ _ sV16 (fun hHeldV16 => ?_)
              clear hK K
              try simp only [Act.put, List.getElem_toArray, List.getElem_cons_zero, List.getElem_cons_succ, List.setIfInBounds_toArray, List.set_cons_succ, List.set_cons_zero]
              have hne : V12.heap.size ≠ V1.heap.size := by omega
              refine wpAnyH_ready (rs := [8]) (by kernel_rfl) (by simp) ?_
              refine AllReadyH.cons rfl (fun K hK => ?_) AllReadyH.nil
              rw [if_pos (by rfl)]
              refine wp_store_row 72 (.tmp 11) (.tmp 31) rfl V12.heap.size (stC g1) (by rfl) (by rfl) 72 zSA p6V16 (by kernel_rfl) rfl (stC_one _) ?_
              have gA := grown_setRow V16 V12.heap.size (stC g1)
              have pA := At.setRow p6V16 (stC g1)
              have qA := p7V16.grown gA (fun e => hne (Option.some.inj e).symm)
              have sA := HSG _ _ _ sV16 gA lV15
              refine hK.out _ _ sA (fun hHeldA => ?_)
              clear hK K
              try simp only [Act.put, List.getElem_toArray, List.getElem_cons_zero, List.getElem_cons_succ]
              generalize World.setRow V16 V12.heap.size (stC g1) = WA at *
              refine wpAnyH_ready (rs := [9]) (by kernel_rfl) (by simp) ?_
              refine AllReadyH.cons rfl (fun K hK => ?_) AllReadyH.nil
              rw [if_pos (by rfl)]
              refine wp_store_row 72 (.tmp 12) (.tmp 34) rfl V1.heap.size (stC g2) (by rfl) (by rfl) 72 zSA qA (by kernel_rfl) rfl (stC_one _) ?_
              have gB := grown_setRow WA V1.heap.size (stC g2)
              have qB := At.setRow qA (stC g2)
              have pB := pA.grown gB (fun e => hne (Option.some.inj e))
              have sB := HSG _ _ _ sA gB lV12
              refine hK.out _ _ sB (fun hHeldB => ?_)
              clear hK K
              try simp only [Act.put, List.getElem_toArray, List.getElem_cons_zero, List.getElem_cons_succ]
              generalize World.setRow WA V1.heap.size (stC g2) = WB at *
              refine wpAnyH_done (by kernel_rfl) ?_ _
              exact FIN _ _ _ sB pB qB
      · go_simp
        have hbV17 : Below WD.heap.size WD (WD.alloc (.cells zSA 72)) := (Below.refl _ _).alloc (Nat.le_refl _) _
        have sV17 := HSX _ _ sD hbV17
        have qV17 : At (WD.alloc (.cells zSA 72)) WD.heap.size 72 zSA := At.new _ _ _
        have lV17 := HSL _ sD
        obtain ⟨V17, hvV17⟩ : ∃ V : World, V = WD.alloc (.cells zSA 72) := ⟨_, rfl⟩
        rw [← hvV17] at sV17 qV17 hbV17
        have e6V17 := qV17.lt
        have hzV17 := hbV17.size
        rw [← hvV17]
        clear hvV17
        refine hK.out _ _ sV17 (fun hHeldV17 => ?_)
        clear hK K
        try simp only [Act.put, List.getElem_toArray, List.getElem_cons_zero, List.getElem_cons_succ, List.setIfInBounds_toArray, List.set_cons_succ, List.set_cons_zero]
        refine wpAnyH_ready (rs := [2, 7]) (by kernel_rfl) (by simp) ?_
        refine AllReadyH.cons rfl (fun K hK => ?_) (AllReadyH.cons rfl (fun K hK => ?_) (AllReadyH.nil))
        · go_simp
          go_at_call 42
          refine (HIO.out _ (HX.out _ (HSB _ sV17))).mono ?_
          rintro e V18 ⟨rfl, hbV18⟩
          have sV18 := HSX _ _ sV17 hbV18
          have p6V18 := qV17.keep hbV18
          have e6V18 := p6V18.lt
          refine hK.out _ _ sV18 (fun hHeldV18 => ?_)
          clear hK K
          try simp only [Act.put, List.getElem_toArray, List.getElem_cons_zero, List.getElem_cons_succ, List.setIfInBounds_toArray, List.set_cons_succ, List.set_cons_zero]
          refine wpAnyH_ready (rs := [5, 7]) (by kernel_rfl) (by simp) ?_
          refine AllReadyH.cons rfl (fun K hK => ?_) (AllReadyH.cons rfl (fun K hK => ?_) (AllReadyH.nil))
          · go_simp
            go_at_call 43
            refine (HAO.out _).mono ?_
            rintro e V19 ⟨rfl, hbV19⟩
            have sV19 := HSX _ _ sV18 hbV19
            have p6V19 := p6V18.keep hbV19
            have e6V19 := p6V19.lt
            refine hK.out _ _ sV19 (fun hHeldV19 => ?_)
            clear hK K
            try simp only [Act.put, List.getElem_toArray, List.getElem_cons_zero, List.getElem_cons_succ, List.setIfInBounds_toArray, List.set_cons_succ, List.set_cons_zero]
            refine wpAnyH_ready (rs := [7]) (by kernel_rfl) (by simp) ?_
            refine AllReadyH.cons rfl (fun K hK => ?_) (AllReadyH.nil)
            · go_simp
              have hbV20 : Below V19.heap.size V19 (V19.alloc (.cells zSA 72)) := (Below.refl _ _).alloc (Nat.le_refl _) _
              have sV20 := HSX _ _ sV19 hbV20
              have qV20 : At (V19.alloc (.cells zSA 72)) V19.heap.size 72 zSA := At.new _ _ _
              have lV20 := HSL _ sV19
              have p6V20 := p6V19.keep hbV20
              obtain ⟨V20, hvV20⟩ : ∃ V : World, V = V19.alloc (.cells zSA 72) := ⟨_, rfl⟩
              rw [← hvV20] at sV20 qV20 hbV20 p6V20
              have e6V20 := p6V20.lt
              have e7V20 := qV20.lt
              have hzV20 := hbV20.size
              rw [← hvV20]
              clear hvV20
              refine hK.out _ _ sV20 (fun hHeldV20 => ?_)
              clear hK K
              try simp only [Act.put, List.getElem_toArray, List.getElem_cons_zero, List.getElem_cons_succ, List.setIfInBounds_toArray, List.set_cons_succ, List.set_cons_zero]
              have hne : WD.heap.size ≠ V19.heap.size := by omega
              refine wpAnyH_ready (rs := [8]) (by kernel_rfl) (by simp) ?_
              refine AllReadyH.cons rfl (fun K hK => ?_) AllReadyH.nil
              rw [if_pos (by rfl)]
              refine wp_store_row 72 (.tmp 11) (.tmp 31) rfl WD.heap.size (stC g1) (by rfl) (by rfl) 72 zSA p6V20 (by kernel_rfl) rfl (stC_one _) ?_
              have gA := grown_setRow V20 WD.heap.size (stC g1)
              have pA := At.setRow p6V20 (stC g1)
              have qA := qV20.grown gA (fun e => hne (Option.some.inj e).symm)
              have sA := HSG _ _ _ sV20 gA lV17
              refine hK.out _ _ sA (fun hHeldA => ?_)
              clear hK K
              try simp only [Act.put, List.getElem_toArray, List.getElem_cons_zero, List.getElem_cons_succ]
              generalize World.setRow V20 WD.heap.size (stC g1) = WA at *
              refine wpAnyH_ready (rs := [9]) (by kernel_rfl) (by simp) ?_
              refine AllReadyH.cons rfl (fun K hK => ?_) AllReadyH.nil
              rw [if_pos (by rfl)]
              refine wp_store_row 72 (.tmp 12) (.tmp 34) rfl V19.heap.size (stC g2) (by rfl) (by rfl) 72 zSA qA (by kernel_rfl) rfl (stC_one _) ?_
              have gB := grown_setRow WA V19.heap.size (stC g2)
              have qB := At.setRow qA (stC g2)
              have pB := pA.grown gB (fun e => hne (Option.some.inj e))
              have sB := HSG _ _ _ sA gB lV20
              refine hK.out _ _ sB (fun hHeldB => ?_)
              clear hK K
              try simp only [Act.put, List.getElem_toArray, List.getElem_cons_zero, List.getElem_cons_succ]
              generalize World.setRow WA V19.heap.size (stC g2) = WB at *
              refine wpAnyH_done (by kernel_rfl) ?_ _
              exact FIN _ _ _ sB pB qB
          · go_simp
            have hbV21 : Below V18.heap.size V18 (V18.alloc (.cells zSA 72)) := (Below.refl _ _).alloc (Nat.le_refl _) _
            have sV21 := HSX _ _ sV18 hbV21
            have qV21 : At (V18.alloc (.cells zSA 72)) V18.heap.size 72 zSA := At.new _ _ _
            have lV21 := HSL _ sV18
            have p6V21 := p6V18.keep hbV21
            obtain ⟨V21, hvV21⟩ : ∃ V : World, V = V18.alloc (.cells zSA 72) := ⟨_, rfl⟩
            rw [← hvV21] at sV21 qV21 hbV21 p6V21
            have e6V21 := p6V21.lt
            have e7V21 := qV21.lt
            have hzV21 := hbV21.size
            rw [← hvV21]
            clear hvV21
            refine hK.out _ _ sV21 (fun hHeldV21 => ?_)
            clear hK K
            try simp only [Act.put, List.getElem_toArray, List.getElem_cons_zero, List.getElem_cons_succ, List.setIfInBounds_toArray, List.set_cons_succ, List.set_cons_zero]
            refine wpAnyH_ready (rs := [5]) (by kernel_rfl) (by simp) ?_
            refine AllReadyH.cons rfl (fun K hK => ?_) (AllReadyH.nil)
            · go_simp
              go_at_call 43
              refine (HAO.out _).mono ?_
              rintro e V22 ⟨rfl, hbV22⟩
              have sV22 := HSX _ _ sV21 hbV22
              have p6V22 := p6V21.keep hbV22
              have e6V22 := p6V22.lt
              have p7V22 := qV21.keep hbV22
              have e7V22 := p7V22.lt
              refine hK.out _ _ sV22 (fun hHeldV22 => ?_)
              clear hK K
              try simp only [Act.put, List.getElem_toArray, List.getElem_cons_zero, List.getElem_cons_succ, List.setIfInBounds_toArray, List.set_cons_succ, List.set_cons_zero]
              have hne : WD.heap.size ≠ V18.heap.size := by omega
              refine wpAnyH_ready (rs := [8]) (by kernel_rfl) (by simp) ?_
              refine AllReadyH.cons rfl (fun K hK => ?_) AllReadyH.nil
              rw [if_pos (by rfl)]
              refine wp_store_row 72 (.tmp 11) (.tmp 31) rfl WD.heap.size (stC g1) (by rfl) (by rfl) 72 zSA p6V22 (by kernel_rfl) rfl (stC_one _) ?_
              have gA := grown_setRow V22 WD.heap.size (stC g1)
              have pA := At.setRow p6V22 (stC g1)
              have qA := p7V22.grown gA (fun e => hne (Option.some.inj e).symm)
              have sA := HSG _ _ _ sV22 gA lV17
              refine hK.out _ _ sA (fun hHeldA => ?_)
              clear hK K
              try simp only [Act.put, List.getElem_toArray, List.getElem_cons_zero, List.getElem_cons_succ]
              generalize World.setRow V22 WD.heap.size (stC g1) = WA at *
              refine wpAnyH_ready (rs := [9]) (by kernel_rfl) (by simp) ?_
              refine AllReadyH.cons rfl (fun K hK => ?_) AllReadyH.nil
              rw [if_pos (by rfl)]
              refine wp_store_row 72 (.tmp 12) (.tmp 34) rfl V18.heap.size (stC g2) (by rfl) (by rfl) 72 zSA qA (by kernel_rfl) rfl (stC_one _) ?_
              have gB := grown_setRow WA V18.heap.size (stC g2)
              have qB := At.setRow qA (stC g2)
              have pB := pA.grown gB (fun e => hne (Option.some.inj e))
              have sB := HSG _ _ _ sA gB lV21
              refine hK.out _ _ sB (fun hHeldB => ?_)
              clear hK K
              try simp only [Act.put, List.getElem_toArray, List.getElem_cons_zero, List.getElem_cons_succ]
              generalize World.setRow WA V18.heap.size (stC g2) = WB at *
              refine wpAnyH_done (by kernel_rfl) ?_ _
              exact FIN _ _ _ sB pB qB
        · go_simp
          have hbV23 : Below V17.heap.size V17 (V17.alloc (.cells zSA 72)) := (Below.refl _ _).alloc (Nat.le_refl _) _
          have sV23 := HSX _ _ sV17 hbV23
          have qV23 : At (V17.alloc (.cells zSA 72)) V17.heap.size 72 zSA := At.new _ _ _
          have lV23 := HSL _ sV17
          have p6V23 := qV17.keep hbV23
          obtain ⟨V23, hvV23⟩ : ∃ V : World, V = V17.alloc (.cells zSA 72) := ⟨_, rfl⟩
          rw [← hvV23] at sV23 qV23 hbV23 p6V23
          have e6V23 := p6V23.lt
          have e7V23 := qV23.lt
          have hzV23 := hbV23.size
          rw [← hvV23]
          clear hvV23
          refine hK.out _ _ sV23 (fun hHeldV23 => ?_)
          clear hK K
          try simp only [Act.put, List.getElem_toArray, List.getElem_cons_zero, List.getElem_cons_succ, List.setIfInBounds_toArray, List.set_cons_succ, List.set_cons_zero]
          refine wpAnyH_ready (rs := [2]) (by kernel_rfl) (by simp) ?_
          refine AllReadyH.cons rfl (fun K hK => ?_) (AllReadyH.nil)
          · go_simp
            go_at_call 42
            refine (HIO.out _ (HX.out _ (HSB _ sV23))).mono ?_
            rintro e V24 ⟨rfl, hbV24⟩
            have sV24 := HSX _ _ sV23 hbV24
            have p6V24 := p6V23.keep hbV24
            have e6V24 := p6V24.lt
            have p7V24 := qV23.keep hbV24
            have e7V24 := p7V24.lt
            refine hK.out _ _ sV24 (fun hHeldV24 => ?_)
            clear hK K
            try simp only [Act.put, List.getElem_toArray, List.getElem_cons_zero, List.getElem_cons_succ, List.setIfInBounds_toArray, List.set_cons_succ, List.set_cons_zero]
            refine wpAnyH_ready (rs := [5]) (by kernel_rfl) (by simp) ?_
            refine AllReadyH.cons rfl (fun K hK => ?_) (AllReadyH.nil)
            · go_simp
              go_at_call 43
              refine (HAO.out _).mono ?_
              rintro e V25 ⟨rfl, hbV25⟩
              have sV25 := HSX _ _ sV24 hbV25
              have p6V25 := p6V24.keep hbV25
              have e6V25 := p6V25.lt
              have p7V25 := p7V24.keep hbV25
              have e7V25 := p7V25.lt
              refine hK.out _ _ sV25 (fun hHeldV25 => ?_)
              clear hK K
              try simp only [Act.put, List.getElem_toArray, List.getElem_cons_zero, List.getElem_cons_succ, List.setIfInBounds_toArray, List.set_cons_succ, List.set_cons_zero]
              have hne : WD.heap.size ≠ V17.heap.size := by omega
              refine wpAnyH_ready (rs := [8]) (by kernel_rfl) (by simp) ?_
              refine AllReadyH.cons rfl (fun K hK => ?_) AllReadyH.nil
              rw [if_pos (by rfl)]
              refine wp_store_row 72 (.tmp 11) (.tmp 31) rfl WD.heap.size (stC g1) (by rfl) (by rfl) 72 zSA p6V25 (by kernel_rfl) rfl (stC_one _) ?_
              have gA := grown_setRow V25 WD.heap.size (stC g1)
              have pA := At.setRow p6V25 (stC g1)
              have qA := p7V25.grown gA (fun e => hne (Option.some.inj e).symm)
              have sA := HSG _ _ _ sV25 gA lV17
              refine hK.out _ _ sA (fun hHeldA => ?_)
              clear hK K
              try simp only [Act.put, List.getElem_toArray, List.getElem_cons_zero, List.getElem_cons_succ]
              generalize World.setRow V25 WD.heap.size (stC g1) = WA at *
              refine wpAnyH_ready (rs := [9]) (by kernel_rfl) (by simp) ?_
              refine AllReadyH.cons rfl (fun K hK => ?_) AllReadyH.nil
              rw [if_pos (by rfl)]
              refine wp_store_row 72 (.tmp 12) (.tmp 34) rfl V17.heap.size (stC g2) (by rfl) (by rfl) 72 zSA qA (by kernel_rfl) rfl (stC_one _) ?_
              have gB := grown_setRow WA V17.heap.size (stC g2)
              have qB := At.setRow qA (stC g2)
              have pB := pA.grown gB (fun e => hne (Option.some.inj e))
              have sB := HSG _ _ _ sA gB lV23
              refine hK.out _ _ sB (fun hHeldB => ?_)
              clear hK K
              try simp only [Act.put, List.getElem_toArray, List.getElem_cons_zero, List.getElem_cons_succ]
              generalize World.setRow WA V17.heap.size (stC g2) = WB at *
              refine wpAnyH_done (by kernel_rfl) ?_ _
              exact FIN _ _ _ sB pB qB
      · go_simp
        have hbV26 : Below WD.heap.size WD (WD.alloc (.cells zSA 72)) := (Below.refl _ _).alloc (Nat.le_refl _) _
        have sV26 := HSX _ _ sD hbV26
        have qV26 : At (WD.alloc (.cells zSA 72)) WD.heap.size 72 zSA := At.new _ _ _
        have lV26 := HSL _ sD
        obtain ⟨V26, hvV26⟩ : ∃ V : World, V = WD.alloc (.cells zSA 72) := ⟨_, rfl⟩
        rw [← hvV26] at sV26 qV26 hbV26
        have e7V26 := qV26.lt
        have hzV26 := hbV26.size
        rw [← hvV26]
        clear hvV26
        refine hK.out _ _ sV26 (fun hHeldV26 => ?_)
        clear hK K
        try simp only [Act.put, List.getElem_toArray, List.getElem_cons_zero, List.getElem_cons_succ, List.setIfInBounds_toArray, List.set_cons_succ, List.set_cons_zero]
        refine wpAnyH_ready (rs := [2, 6]) (by kernel_rfl) (by simp) ?_
        refine AllReadyH.cons rfl (fun K hK => ?_) (AllReadyH.cons rfl (fun K hK => ?_) (AllReadyH.nil))
        · go_simp
          go_at_call 42
          refine (HIO.out _ (HX.out _ (HSB _ sV26))).mono ?_
          rintro e V27 ⟨rfl, hbV27⟩
          have sV27 := HSX _ _ sV26 hbV27
          have p7V27 := qV26.keep hbV27
          have e7V27 := p7V27.lt
          refine hK.out _ _ sV27 (fun hHeldV27 => ?_)
          clear hK K
          try simp only [Act.put, List.getElem_toArray, List.getElem_cons_zero, List.getElem_cons_succ, List.setIfInBounds_toArray, List.set_cons_succ, List.set_cons_zero]
          refine wpAnyH_ready (rs := [5, 6]) (by kernel_rfl) (by simp) ?_
          refine AllReadyH.cons rfl (fun K hK => ?_) (AllReadyH.cons rfl (fun K hK => ?_) (AllReadyH.nil))
          · go_simp
            go_at_call 43
            refine (HAO.out _).mono ?_
            rintro e V28 ⟨rfl, hbV28⟩
            have sV28 := HSX _ _ sV27 hbV28
            have p7V28 := p7V27.keep hbV28
            have e7V28 := p7V28.lt
            refine hK.out _ _ sV28 (fun hHeldV28 => ?_)
            clear hK K
            try simp only [Act.put, List.getElem_toArray, List.getElem_cons_zero, List.getElem_cons_succ, List.setIfInBounds_toArray, List.set_cons_succ, List.set_cons_zero]
            refine wpAnyH_ready (rs := [6]) (by kernel_rfl) (by simp) ?_
            refine AllReadyH.cons rfl (fun K hK => ?_) (AllReadyH.nil)
            · go_simp
              have hbV29 : Below V28.heap.size V28 (V28.alloc (.cells zSA 72)) := (Below.refl _ _).alloc (Nat.le_refl _) _
              have sV29 := HSX _ _ sV28 hbV29
              have qV29 : At (V28.alloc (.cells zSA 72)) V28.heap.size 72 zSA := At.new _ _ _
              have lV29 := HSL _ sV28
              have p7V29 := p7V28.keep hbV29
              obtain ⟨V29, hvV29⟩ : ∃ V : World, V = V28.alloc (.cells zSA 72) := ⟨_, rfl⟩
              rw [← hvV29] at sV29 qV29 hbV29 p7V29
              have e7V29 := p7V29.lt
              have e6V29 := qV29.lt
              have hzV29 := hbV29.size
              rw [← hvV29]
              clear hvV29
              refine hK.out _ _ sV29 (fun hHeldV29 => ?_)
              clear hK K
              try simp only [Act.put, List.getElem_toArray, List.getElem_cons_zero, List.getElem_cons_succ, List.setIfInBounds_toArray, List.set_cons_succ, List.set_cons_zero]
              have hne : V28.heap.size ≠ WD.heap.size := by omega
              refine wpAnyH_ready (rs := [8]) (by kernel_rfl) (by simp) ?_
              refine AllReadyH.cons rfl (fun K hK => ?_) AllReadyH.nil
              rw [if_pos (by rfl)]
              refine wp_store_row 72 (.tmp 11) (.tmp 31) rfl V28.heap.size (stC g1) (by rfl) (by rfl) 72 zSA qV29 (by kernel_rfl) rfl (stC_one _) ?_
              have gA := grown_setRow V29 V28.heap.size (stC g1)
              have pA := At.setRow qV29 (stC g1)
              have qA := p7V29.grown gA (fun e => hne (Option.some.inj e).symm)
              have sA := HSG _ _ _ sV29 gA lV29
              refine hK.out _ _ sA (fun hHeldA => ?_)
              clear hK K
              try simp only [Act.put, List.getElem_toArray, List.getElem_cons_zero, List.getElem_cons_succ]
              generalize World.setRow V29 V28.heap.size (stC g1) = WA at *
              refine wpAnyH_ready (rs := [9]) (by kernel_rfl) (by simp) ?_
              refine AllReadyH.cons rfl (fun K hK => ?_) AllReadyH.nil
              rw [if_pos (by rfl)]
              refine wp_store_row 72 (.tmp 12) (.tmp 34) rfl WD.heap.size (stC g2) (by rfl) (by rfl) 72 zSA qA (by kernel_rfl) rfl (stC_one _) ?_
              have gB := grown_setRow WA WD.heap.size (stC g2)
              have qB := At.setRow qA (stC g2)
              have pB := pA.grown gB (fun e => hne (Option.some.inj e))
              have sB := HSG _ _ _ sA gB lV26
              refine hK.out _ _ sB (fun hHeldB => ?_)
              clear hK K
              try simp only [Act.put, List.getElem_toArray, List.getElem_cons_zero, List.getElem_cons_succ]
              generalize World.setRow WA WD.heap.size (stC g2) = WB at *
              refine wpAnyH_done (by kernel_rfl) ?_ _
              exact FIN _ _ _ sB pB qB
          · go_simp
            have hbV30 : Below V27.heap.size V27 (V27.alloc (.cells zSA 72)) := (Below.refl _ _).alloc (Nat.le_refl _) _
            have sV30 := HSX _ _ sV27 hbV30
            have qV30 : At (V27.alloc (.cells zSA 72)) V27.heap.size 72 zSA := At.new _ _ _
            have lV30 := HSL _ sV27
            have p7V30 := p7V27.keep hbV30
            obtain ⟨V30, hvV30⟩ : ∃ V : World, V = V27.alloc (.cells zSA 72) := ⟨_, rfl⟩
            rw [← hvV30] at sV30 qV30 hbV30 p7V30
            have e7V30 := p7V30.lt
            have e6V30 := qV30.lt
            have hzV30 := hbV30.size
            rw [← hvV30]
            clear hvV30
            refine hK.out _ _ sV30 (fun hHeldV30 => ?_)
            clear hK K
            try simp only [Act.put, List.getElem_toArray, List.getElem_cons_zero, List.getElem_cons_succ, List.setIfInBounds_toArray, List.set_cons_succ, List.set_cons_zero]
            refine wpAnyH_ready (rs := [5]) (by kernel_rfl) (by simp) ?_
            refine AllReadyH.cons rfl (fun K hK => ?_) (AllReadyH.nil)
            · go_simp
              go_at_call 43
              refine (HAO.out _).mono ?_
              rintro e V31 ⟨rfl, hbV31⟩
              have sV31 := HSX _ _ sV30 hbV31
              have p7V31 := p7V30.keep hbV31
              have e7V31 := p7V31.lt
              have p6V31 := qV30.keep hbV31
              have e6V31 := p6V31.lt
              refine hK.out _ _ sV31 (fun hHeldV31 => ?_)
              clear hK K
              try simp only [Act.put, List.getElem_toArray, List.getElem_cons_zero, List.getElem_cons_succ, List.setIfInBounds_toArray, List.set_cons_succ, List.set_cons_zero]
              have hne : V27.heap.size ≠ WD.heap.size := by omega
              refine wpAnyH_ready (rs := [8]) (by kernel_rfl) (by simp) ?_
              refine AllReadyH.cons rfl (fun K hK => ?_) AllReadyH.nil
              rw [if_pos (by rfl)]
              refine wp_store_row 72 (.tmp 11) (.tmp 31) rfl V27.heap.size (stC g1) (by rfl) (by rfl) 72 zSA p6V31 (by kernel_rfl) rfl (stC_one _) ?_
              have gA := grown_setRow V31 V27.heap.size (stC g1)
              have pA := At.setRow p6V31 (stC g1)
              have qA := p7V31.grown gA (fun e => hne (Option.some.inj e).symm)
              have sA := HSG _ _ _ sV31 gA lV30
              refine hK.out _ _ sA (fun hHeldA => ?_)
              clear hK K
              try simp only [Act.put, List.getElem_toArray, List.getElem_cons_zero, List.getElem_cons_succ]
              generalize World.setRow V31 V27.heap.size (stC g1) = WA at *
              refine wpAnyH_ready (rs := [9]) (by kernel_rfl) (by simp) ?_
              refine AllReadyH.cons rfl (fun K hK => ?_) AllReadyH.nil
              rw [if_pos (by rfl)]
              refine wp_store_row 72 (.tmp 12) (.tmp 34) rfl WD.heap.size (stC g2) (by rfl) (by rfl) 72 zSA qA (by kernel_rfl) rfl (stC_one _) ?_
              have gB := grown_setRow WA WD.heap.size (stC g2)
              have qB := At.setRow qA (stC g2)
              have pB := pA.grown gB (fun e => hne (Option.some.inj e))
              have sB := HSG _ _ _ sA gB lV26
              refine hK.out _ _ sB (fun hHeldB => ?_)
              clear hK K
              try simp only [Act.put, List.getElem_toArray, List.getElem_cons_zero, List.getElem_cons_succ]
              generalize World.setRow WA WD.heap.size (stC g2) = WB at *
              refine wpAnyH_done (by kernel_rfl) ?_ _
              exact FIN _ _ _ sB pB qB
        · go_simp
          have hbV32 : Below V26.heap.size V26 (V26.alloc (.cells zSA 72)) := (Below.refl _ _).alloc (Nat.le_refl _) _
          have sV32 := HSX _ _ sV26 hbV32
          have qV32 : At (V26.alloc (.cells zSA 72)) V26.heap.size 72 zSA := At.new _ _ _
          have lV32 := HSL _ sV26
          have p7V32 := qV26.keep hbV32
          obtain ⟨V32, hvV32⟩ : ∃ V : World, V = V26.alloc (.cells zSA 72) := ⟨_, rfl⟩
          rw [← hvV32] at sV32 qV32 hbV32 p7V32
          have e7V32 := p7V32.lt
          have e6V32 := qV32.lt
          have hzV32 := hbV32.size
          rw [← hvV32]
          clear hvV32
          refine hK.out _ _ sV32 (fun hHeldV32 => ?_)
          clear hK K
          try simp only [Act.put, List.getElem_toArray, List.getElem_cons_zero, List.getElem_cons_succ, List.setIfInBounds_toArray, List.set_cons_succ, List.set_cons_zero]
          refine wpAnyH_ready (rs := [2]) (by kernel_rfl) (by simp) ?_
          refine AllReadyH.cons rfl (fun K hK => ?_) (AllReadyH.nil)
          · go_simp
            go_at_call 42
            refine (HIO.out _ (HX.out _ (HSB _ sV32))).mono ?_
            rintro e V33 ⟨rfl, hbV33⟩
            have sV33 := HSX _ _ sV32 hbV33
            have p7V33 := p7V32.keep hbV33
            have e7V33 := p7V33.lt
            have p6V33 := qV32.keep hbV33
            have e6V33 := p6V33.lt
            refine hK.out _ _ sV33 (fun hHeldV33 => ?_)
            clear hK K
            try simp only [Act.put, List.getElem_toArray, List.getElem_cons_zero, List.getElem_cons_succ, List.setIfInBounds_toArray, List.set_cons_succ, List.set_cons_zero]
            refine wpAnyH_ready (rs := [5]) (by kernel_rfl) (by simp) ?_
            refine AllReadyH.cons rfl (fun K hK => ?_) (AllReadyH.nil)
            · go_simp
              go_at_call 43
              refine (HAO.out _).mono ?_
              rintro e V34 ⟨rfl, hbV34⟩
              have sV34 := HSX _ _ sV33 hbV34
              have p7V34 := p7V33.keep hbV34
              have e7V34 := p7V34.lt
              have p6V34 := p6V33.keep hbV34
              have e6V34 := p6V34.lt
              refine hK.out _ _ sV34 (fun hHeldV34 => ?_)
              clear hK K
              try simp only [Act.put, List.getElem_toArray, List.getElem_cons_zero, List.getElem_cons_succ, List.setIfInBounds_toArray, List.set_cons_succ, List.set_cons_zero]
              have hne : V26.heap.size ≠ WD.heap.size := by omega
              refine wpAnyH_ready (rs := [8]) (by kernel_rfl) (by simp) ?_
              refine AllReadyH.cons rfl (fun K hK => ?_) AllReadyH.nil
              rw [if_pos (by rfl)]
              refine wp_store_row 72 (.tmp 11) (.tmp 31) rfl V26.heap.size (stC g1) (by rfl) (by rfl) 72 zSA p6V34 (by kernel_rfl) rfl (stC_one _) ?_
              have gA := grown_setRow V34 V26.heap.size (stC g1)
              have pA := At.setRow p6V34 (stC g1)
              have qA := p7V34.grown gA (fun e => hne (Option.some.inj e).symm)
              have sA := HSG _ _ _ sV34 gA lV32
              refine hK.out _ _ sA (fun hHeldA => ?_)
              clear hK K
              try simp only [Act.put, List.getElem_toArray, List.getElem_cons_zero, List.getElem_cons_succ]
              generalize World.setRow V34 V26.heap.size (stC g1) = WA at *
              refine wpAnyH_ready (rs := [9]) (by kernel_rfl) (by simp) ?_
              refine AllReadyH.cons rfl (fun K hK => ?_) AllReadyH.nil
              rw [if_pos (by rfl)]
              refine wp_store_row 72 (.tmp 12) (.tmp 34) rfl WD.heap.size (stC g2) (by rfl) (by rfl) 72 zSA qA (by kernel_rfl) rfl (stC_one _) ?_
              have gB := grown_setRow WA WD.heap.size (stC g2)
              have qB := At.setRow qA (stC g2)
              have pB := pA.grown gB (fun e => hne (Option.some.inj e))
              have sB := HSG _ _ _ sA gB lV26
              refine hK.out _ _ sB (fun hHeldB => ?_)
              clear hK K
              try simp only [Act.put, List.getElem_toArray, List.getElem_cons_zero, List.getElem_cons_succ]
              generalize World.setRow WA WD.heap.size (stC g2) = WB at *
              refine wpAnyH_done (by kernel_rfl) ?_ _
              exact FIN _ _ _ sB pB qB
--@ORDERSEND
    · rw [h1, Bool.false_and] at HIF
      rw [h1] at HSV
      clear hv hMV h1 hx hy hT
      generalize tbF ys = f at *
      generalize wnN t.data.toList = n at *
      go_enter Tryz.func18, Tryz.ntmps18
      go_wp2_with fail
      refine HTW.out.mono ?_
      rintro e w1 ⟨rfl, hb1⟩
      have a1 := a0.keep hb1
      have B1 := hB0.trans (hb1.mono hs0)
      have hs1 := B1.size
      have a2 := a1.alloc (.cells (tabA f) 53)
      have B2 := B1.alloc hs1 (.cells (tabA f) 53)
      have hs2 := B2.size
      clear a0 hb1 hB0 HTW a1 B1
      go_wp2_with fail
      refine (HSV.out _ (HX.out _ B2)).mono ?_
      rintro e w3 ⟨rfl, hb3⟩
      have a3 := a2.keep hb3
      have B3 := B2.trans (hb3.mono hs2)
      have f3 := a3.frozen 0
      have c3 := a3.cell 0
      have l3 := a3.lt
      have a4 := a3.set 0 (.bool false)
      clear a2 B2 hb3
      go_wp2
      refine bodyPost_ret (results_irf _ w.heap.size (.bool false) a4 _ rfl) rfl ⟨by rw [HIF.out], B3.setCell (Nat.le_refl _) _⟩
  · rw [hv, Bool.false_and, Bool.and_false] at HIF
    rw [hv] at HTW
    clear hv hx hy hT
    generalize tbF ys = f at *
    generalize wnN t.data.toList = n at *
    go_enter Tryz.func18, Tryz.ntmps18
    go_wp2_with fail
    refine HTW.out.mono ?_
    rintro e w1 ⟨rfl, hb1⟩
    have a1 := a0.keep hb1
    have B1 := hB0.trans (hb1.mono hs0)
    have hs1 := B1.size
    have a2 := a1.alloc (.cells (tabA f) 53)
    have B2 := B1.alloc hs1 (.cells (tabA f) 53)
    have hs2 := B2.size
    have f3 := a2.frozen 0
    have c3 := a2.cell 0
    have l3 := a2.lt
    have a4 := a2.set 0 (.bool false)
    clear a0 hb1 hB0 HTW a1 B1
    go_wp2
    refine bodyPost_ret (results_irf _ w.heap.size (.bool false) a4 _ rfl) rfl ⟨by rw [HIF.out], B2.setCell (Nat.le_refl _) _⟩
end Go.Proofs.YtplapaojgcloaaaGreatDoor
namespace Go.Proofs.YtplapaojgcloaaaGreatDoor
open Go.RowKit Go.PM
set_option maxRecDepth 100000 in
set_option maxHeartbeats 2000000 in
theorem eq_str (d : Nat) (a b : ByteArray) (W : World) : (Op.equalIn (d + 1) 9 (.string a) (.string b)).run Tryz.prog W = .ok (a == b) W := by
  simp [Op.equalIn, go_sem]
theorem eq_items (f g : Nat → ByteArray) (W : World) : ∀ is : List Nat, (∀ i ∈ is, i < 9) → (Op.eqItems 9999 9 1 (tabA f) (tabA g) is).run Tryz.prog W = .ok (is.all fun p => f p == g p) W := by
  intro is
  induction is with
  | nil => intro _; rfl
  | cons i is ih =>
    intro h
    have hi := h i (List.mem_cons_self ..)
    have h1 : (part 9 (tabA f) (i * 1)).run Tryz.prog W = .ok (.string (f i)) W := run_part_plain (P := Tryz.prog) W (by kernel_rfl) (by rw [Nat.mul_one]; exact tabC_at f i hi)
    have h2 : (part 9 (tabA g) (i * 1)).run Tryz.prog W = .ok (.string (g i)) W := run_part_plain (P := Tryz.prog) W (by kernel_rfl) (by rw [Nat.mul_one]; exact tabC_at g i hi)
    have h3 := eq_str 9998 (f i) (g i) W
    rw [Op.eqItems, Sem.run_bind, h1, Result.andThen_ok, Sem.run_bind, h2, Result.andThen_ok, Sem.run_bind, h3, Result.andThen_ok, List.all_cons]
    cases hb : (f i == g i)
    · rfl
    · rw [if_neg (by decide), ih (fun j hj => h j (List.mem_cons_of_mem _ hj)), Bool.true_and]
theorem eq_tab (f g : Nat → ByteArray) (W : World) : (Op.equal 53 (tabX f) (tabX g)).run Tryz.prog W = .ok ((List.range 9).all fun p => f p == g p) W := by
  have his : (Tryz.prog.info? 9).isSome = true := by kernel_rfl
  obtain ⟨i, hi⟩ := Option.isSome_iff_exists.1 his
  have hc : Tryz.prog.cellsOf 9 = 1 := by kernel_rfl
  have h := run_equalIn_array (P := Tryz.prog) (w := W) 9999 (t := 53) (e := 9) (n := 9) (tabA f) (tabA g) Tryz.underlying53 hi
  rw [hc] at h
  exact h.trans (eq_items f g W _ (fun i hi => by simpa using hi))
theorem beq_ba (a b : ByteArray) : (a == b) = decide (a = b) := by
  cases a with | mk a =>
  cases b with | mk b =>
  have h : ((ByteArray.mk a) == (ByteArray.mk b)) = (a == b) := rfl
  rw [h]
  by_cases e : a = b
  · subst e; simp
  · have : ¬ (ByteArray.mk a) = (ByteArray.mk b) := fun x => e (congrArg ByteArray.data x)
    simp [e]
theorem all_beq (f g : Nat → ByteArray) (l : List Nat) : (l.all fun p => f p == g p) = l.all fun p => decide (f p = g p) := by
  have : (fun p => f p == g p) = fun p => decide (f p = g p) := by funext p; exact beq_ba _ _
  rw [this]
end Go.Proofs.YtplapaojgcloaaaGreatDoor
namespace Go.Proofs.YtplapaojgcloaaaGreatDoor
open Go.RowKit Go.PM

set_option maxRecDepth 100000 in
set_option maxHeartbeats 1000000 in
/-- two moves as values are compared text by text -/
theorem eq_mv (a b c d : ByteArray) (W : World) : (Op.equalIn 10000 37 (.agg #[.string a, .string b]) (.agg #[.string c, .string d])).run Tryz.prog W = .ok (mvEq a b c d) W := by
  have hs : Tryz.prog.stoodInHeld 37 = false := by kernel_rfl
  have e1 : (a == c) = decide (a = c) := beq_ba _ _
  have e2 : (b == d) = decide (b = d) := beq_ba _ _
  have q1 := eq_str 9998 a c
  have q2 := eq_str 9998 b d
  rw [Op.equalIn]
  generalize hE : Op.equalIn 9999 = E at *
  simp only [mvEq]
  rw [e1] at q1
  rw [e2] at q2
  clear e1 e2 hE
  by_cases h1 : a = c
  · by_cases h2 : b = d
    · subst h1; subst h2
      simp at q1 q2
      simp [go_sem, hs, q1, q2]
    · subst h1
      simp [h2] at q1 q2
      simp [go_sem, hs, q1, q2, h2]
  · simp [h1] at q1
    simp [go_sem, hs, q1, h1]

set_option maxRecDepth 100000 in
set_option maxHeartbeats 1600000 in
theorem pmSame_c (xs ys : List Mv) (v u : Value) (w : World) (hx : RdM w v xs) (hy : RdM w u ys) :
    Calls Tryz.prog 14 #[v, u] w fun e w' => e = .returned (.bool (decide (xs = ys))) ∧ Below w.heap.size w w' := by
  obtain ⟨A, cap, rfl, hn, hc, hcell⟩ := hx.open
  obtain ⟨A', cap', rfl, hn', hc', hcell'⟩ := hy.open
  clear hx hy
  rcases Nat.lt_or_ge ys.length xs.length with hle | hle
  · have hm : min (xs.length : Int) (ys.length : Int) = ys.length := by omega
    have HLE := Lib.hid hle
    clear hle
    go_enter Tryz.func14, Tryz.ntmps14
    go_wp2
    go_loopw [11] (fun i wr => ∃ (k : Nat), k ≤ ys.length ∧ i = .int .i64 k ∧ Hid (xs.take k = ys.take k) ∧ Below w.heap.size w wr) (fun i _ => ys.length - (intOf i).toNat)
    case atStart => exact ⟨0, by omega, rfl, by show _ = _; simp, Below.refl _ _⟩
    case round =>
      obtain ⟨k, hk, rfl, ht, hb⟩ := hrel
      by_cases hlt : k < ys.length
      · have hlt1 : k < xs.length := by have := HLE.out; omega
        have hlt2 : k < ys.length := by have := HLE.out; omega
        obtain ⟨b, off, rfl, hbl, hc1, hc2⟩ := hcell k hlt1
        obtain ⟨b', off', rfl, hbl', hc1', hc2'⟩ := hcell' k hlt2
        have hd1 := (hb.cell (p := ⟨b, off + k * 2, none⟩) hbl).trans hc1
        have hd2 := (hb.cell (p := ⟨b, off + k * 2 + 1, none⟩) hbl).trans hc2
        have hd3 := (hb.cell (p := ⟨b', off' + k * 2, none⟩) hbl').trans hc1'
        have hd4 := (hb.cell (p := ⟨b', off' + k * 2 + 1, none⟩) hbl').trans hc2'
        clear hc1 hc2 hcell hc1' hc2' hcell'
        have i1 : (k : Int) < (ys.length : Int) := by omega
        go_wp2
        have hx1 : ∀ x : Ext w.heap.size wr, x.val.cell? ⟨b, off + k * 2, none⟩ = some (.string xs[k].1) := fun x => (x.property.cell (p := ⟨b, _, none⟩) hbl).trans hd1
        have hx2 : ∀ x : Ext w.heap.size wr, x.val.cell? ⟨b, off + k * 2 + 1, none⟩ = some (.string xs[k].2) := fun x => (x.property.cell (p := ⟨b, _, none⟩) hbl).trans hd2
        have hx3 : ∀ x : Ext w.heap.size wr, x.val.cell? ⟨b', off' + k * 2, none⟩ = some (.string ys[k].1) := fun x => (x.property.cell (p := ⟨b', _, none⟩) hbl').trans hd3
        have hx4 : ∀ x : Ext w.heap.size wr, x.val.cell? ⟨b', off' + k * 2 + 1, none⟩ = some (.string ys[k].2) := fun x => (x.property.cell (p := ⟨b', _, none⟩) hbl').trans hd4
        clear hd1 hd2 hd3 hd4
        have i0 : (0 : Int) ≤ (k : Int) := by omega
        have i2 : (k : Int) < xs.length := by omega
        have i3 : (k : Int) < ys.length := by omega
        have hE := fun W => eq_mv xs[k].1 xs[k].2 ys[k].1 ys[k].2 W
        refine wp_region_ext w.heap.size (by kernel_rfl) (by kernel_rfl) ?_
        repeat (go_big_quiet_step (fail))
        refine wpQuiet_nil ?_
        intro w2 hw'
        obtain ⟨xw, hxw⟩ := hw'
        have hb2 := xw.property
        rw [← hxw] at hb2
        clear hxw xw
        clear hx1 hx2 hx3 hx4 hE
        go_wp2
        · have h : (!mvEq xs[k].1 xs[k].2 ys[k].1 ys[k].2) = true := by assumption
          go_ret
          refine ⟨?_, hb.trans hb2⟩
          have : ¬ xs = ys := by
            intro e; subst e; simp [mvEq] at h
          simp [this]
        · have h : (!mvEq xs[k].1 xs[k].2 ys[k].1 ys[k].2) = false := by assumption
          go_roundw
          case rel =>
            refine ⟨k + 1, by omega, by go_num, ?_, hb.trans hb2⟩
            show _ = _
            simp [mvEq] at h
            rw [take_snoc xs k hlt1, take_snoc ys k hlt2, ht.out, Prod.ext h.1 h.2]
          case measure => simp [intOf]; omega
      · have hk' : k = ys.length := by omega
        have h2 := ht.out
        have h3 := HLE.out
        rw [hk'] at h2
        have HD : Hid (((xs.length : Int) == (ys.length : Int)) = decide (xs = ys)) := by
          show _ = _
          by_cases he : xs.length = ys.length
          · rw [List.take_of_length_le (by omega), List.take_of_length_le (by omega)] at h2
            rw [h2]; simp
          · have h4 : ¬ xs = ys := fun e => he (by rw [e])
            have h5 : ¬ ((xs.length : Int) = (ys.length : Int)) := by omega
            rw [decide_eq_false h4]
            simpa using h5
        clear h2 h3 ht
        go_wp2
        go_ret
        exact ⟨by rw [← HD.out]; rfl, hb⟩
  · have hm : min (xs.length : Int) (ys.length : Int) = xs.length := by omega
    have HLE := Lib.hid hle
    clear hle
    go_enter Tryz.func14, Tryz.ntmps14
    go_wp2
    go_loopw [11] (fun i wr => ∃ (k : Nat), k ≤ xs.length ∧ i = .int .i64 k ∧ Hid (xs.take k = ys.take k) ∧ Below w.heap.size w wr) (fun i _ => xs.length - (intOf i).toNat)
    case atStart => exact ⟨0, by omega, rfl, by show _ = _; simp, Below.refl _ _⟩
    case round =>
      obtain ⟨k, hk, rfl, ht, hb⟩ := hrel
      by_cases hlt : k < xs.length
      · have hlt1 : k < xs.length := by have := HLE.out; omega
        have hlt2 : k < ys.length := by have := HLE.out; omega
        obtain ⟨b, off, rfl, hbl, hc1, hc2⟩ := hcell k hlt1
        obtain ⟨b', off', rfl, hbl', hc1', hc2'⟩ := hcell' k hlt2
        have hd1 := (hb.cell (p := ⟨b, off + k * 2, none⟩) hbl).trans hc1
        have hd2 := (hb.cell (p := ⟨b, off + k * 2 + 1, none⟩) hbl).trans hc2
        have hd3 := (hb.cell (p := ⟨b', off' + k * 2, none⟩) hbl').trans hc1'
        have hd4 := (hb.cell (p := ⟨b', off' + k * 2 + 1, none⟩) hbl').trans hc2'
        clear hc1 hc2 hcell hc1' hc2' hcell'
        have i1 : (k : Int) < (xs.length : Int) := by omega
        go_wp2
        have hx1 : ∀ x : Ext w.heap.size wr, x.val.cell? ⟨b, off + k * 2, none⟩ = some (.string xs[k].1) := fun x => (x.property.cell (p := ⟨b, _, none⟩) hbl).trans hd1
        have hx2 : ∀ x : Ext w.heap.size wr, x.val.cell? ⟨b, off + k * 2 + 1, none⟩ = some (.string xs[k].2) := fun x => (x.property.cell (p := ⟨b, _, none⟩) hbl).trans hd2
        have hx3 : ∀ x : Ext w.heap.size wr, x.val.cell? ⟨b', off' + k * 2, none⟩ = some (.string ys[k].1) := fun x => (x.property.cell (p := ⟨b', _, none⟩) hbl').trans hd3
        have hx4 : ∀ x : Ext w.heap.size wr, x.val.cell? ⟨b', off' + k * 2 + 1, none⟩ = some (.string ys[k].2) := fun x => (x.property.cell (p := ⟨b', _, none⟩) hbl').trans hd4
        clear hd1 hd2 hd3 hd4
        have i0 : (0 : Int) ≤ (k : Int) := by omega
        have i2 : (k : Int) < xs.length := by omega
        have i3 : (k : Int) < ys.length := by omega
        have hE := fun W => eq_mv xs[k].1 xs[k].2 ys[k].1 ys[k].2 W
        refine wp_region_ext w.heap.size (by kernel_rfl) (by kernel_rfl) ?_
        repeat (go_big_quiet_step (fail))
        refine wpQuiet_nil ?_
        intro w2 hw'
        obtain ⟨xw, hxw⟩ := hw'
        have hb2 := xw.property
        rw [← hxw] at hb2
        clear hxw xw
        clear hx1 hx2 hx3 hx4 hE
        go_wp2
        · have h : (!mvEq xs[k].1 xs[k].2 ys[k].1 ys[k].2) = true := by assumption
          go_ret
          refine ⟨?_, hb.trans hb2⟩
          have : ¬ xs = ys := by
            intro e; subst e; simp [mvEq] at h
          simp [this]
        · have h : (!mvEq xs[k].1 xs[k].2 ys[k].1 ys[k].2) = false := by assumption
          go_roundw
          case rel =>
            refine ⟨k + 1, by omega, by go_num, ?_, hb.trans hb2⟩
            show _ = _
            simp [mvEq] at h
            rw [take_snoc xs k hlt1, take_snoc ys k hlt2, ht.out, Prod.ext h.1 h.2]
          case measure => simp [intOf]; omega
      · have hk' : k = xs.length := by omega
        have h2 := ht.out
        have h3 := HLE.out
        rw [hk'] at h2
        have HD : Hid (((xs.length : Int) == (ys.length : Int)) = decide (xs = ys)) := by
          show _ = _
          by_cases he : xs.length = ys.length
          · rw [List.take_of_length_le (by omega), List.take_of_length_le (by omega)] at h2
            rw [h2]; simp
          · have h4 : ¬ xs = ys := fun e => he (by rw [e])
            have h5 : ¬ ((xs.length : Int) = (ys.length : Int)) := by omega
            rw [decide_eq_false h4]
            simpa using h5
        clear h2 h3 ht
        go_wp2
        go_ret
        exact ⟨by rw [← HD.out]; rfl, hb⟩
end Go.Proofs.YtplapaojgcloaaaGreatDoor
namespace Go.PM
def stpEq (a b : St) : Bool := decide (a = b)
theorem stpEq_no {a b : St} (h : (!stpEq a b) = true) : a ≠ b := by simpa [stpEq] using h
theorem stpEq_yes {a b : St} (h : (!stpEq a b) = false) : a = b := by simpa [stpEq] using h
end Go.PM
namespace Go.Proofs.YtplapaojgcloaaaGreatDoor
open Go.RowKit Go.PM

set_option maxRecDepth 100000 in
set_option maxHeartbeats 1000000 in
theorem eq_mvD (d : Nat) (a b c e : ByteArray) (W : World) : (Op.equalIn (d + 2) 37 (.agg #[.string a, .string b]) (.agg #[.string c, .string e])).run Tryz.prog W = .ok (mvEq a b c e) W := by
  have hs : Tryz.prog.stoodInHeld 37 = false := by kernel_rfl
  have e1 : (a == c) = decide (a = c) := beq_ba _ _
  have e2 : (b == e) = decide (b = e) := beq_ba _ _
  have q1 := eq_str d a c
  have q2 := eq_str d b e
  rw [Op.equalIn]
  generalize hE : Op.equalIn (d + 1) = E at *
  simp only [mvEq]
  rw [e1] at q1
  rw [e2] at q2
  clear e1 e2 hE
  by_cases h1 : a = c
  · by_cases h2 : b = e
    · subst h1; subst h2
      simp at q1 q2
      simp [go_sem, hs, q1, q2]
    · subst h1
      simp [h2] at q1 q2
      simp [go_sem, hs, q1, q2, h2]
  · simp [h1] at q1
    simp [go_sem, hs, q1, h1]
theorem eq_i64 (d : Nat) (a b : Int) (W : World) : (Op.equalIn (d + 1) 3 (.int .i64 a) (.int .i64 b)).run Tryz.prog W = .ok (decide (a = b)) W := by
  have : (a == b) = decide (a = b) := by rw [Bool.eq_iff_iff, beq_iff_eq, decide_eq_true_eq]
  simp [Op.equalIn, go_sem, this]
set_option maxRecDepth 100000 in
set_option maxHeartbeats 1000000 in
/-- two steps as values are compared kind by kind and text by text -/
theorem eq_stp (x y : St) (W : World) : (Op.equalIn 10000 51 (.agg #[.int .i64 x.1, .string x.2.1, .string x.2.2]) (.agg #[.int .i64 y.1, .string y.2.1, .string y.2.2])).run Tryz.prog W = .ok (stpEq x y) W := by
  obtain ⟨k, a, b⟩ := x
  obtain ⟨l, c, e⟩ := y
  have hs : Tryz.prog.stoodInHeld 51 = false := by kernel_rfl
  have q0 := eq_i64 9998 k l
  have q1 := eq_mvD 9997 a b c e
  rw [Op.equalIn]
  generalize hE : Op.equalIn 9999 = E at *
  clear hE
  by_cases h1 : k = l
  · by_cases h2 : a = c ∧ b = e
    · obtain ⟨h2, h3⟩ := h2
      subst h1; subst h2; subst h3
      simp [mvEq] at q0 q1
      simp [go_sem, hs, q0, q1, stpEq]
    · subst h1
      have h3 : mvEq a b c e = false := by unfold mvEq; exact decide_eq_false h2
      have h4 : stpEq (k, a, b) (k, c, e) = false := by
        unfold stpEq
        rw [decide_eq_false_iff_not]
        intro e; cases e; exact h2 ⟨rfl, rfl⟩
      rw [h3] at q1
      simp at q0
      simp [go_sem, hs, q0, q1, h4]
  · have h4 : stpEq (k, a, b) (l, c, e) = false := by
      unfold stpEq
      rw [decide_eq_false_iff_not]
      intro e; cases e; exact h1 rfl
    simp [h1] at q0
    simp [go_sem, hs, q0, h4]

set_option maxRecDepth 100000 in
set_option maxHeartbeats 1600000 in
theorem pmSteps_c (xs ys : List St) (v u : Value) (w : World) (hx : RdS w v xs) (hy : RdS w u ys) :
    Calls Tryz.prog 13 #[v, u] w fun e w' => e = .returned (.bool (decide (xs = ys))) ∧ Below w.heap.size w w' := by
  obtain ⟨A, cap, rfl, hn, hc, hcell⟩ := hx.open
  obtain ⟨A', cap', rfl, hn', hc', hcell'⟩ := hy.open
  clear hx hy
  rcases Nat.lt_or_ge ys.length xs.length with hle | hle
  · have hm : min (xs.length : Int) (ys.length : Int) = ys.length := by omega
    have HLE := Lib.hid hle
    clear hle
    go_enter Tryz.func13, Tryz.ntmps13
    go_wp2
    go_loopw [11] (fun i wr => ∃ (k : Nat), k ≤ ys.length ∧ i = .int .i64 k ∧ Hid (xs.take k = ys.take k) ∧ Below w.heap.size w wr) (fun i _ => ys.length - (intOf i).toNat)
    case atStart => exact ⟨0, by omega, rfl, by show _ = _; simp, Below.refl _ _⟩
    case round =>
      obtain ⟨k, hk, rfl, ht, hb⟩ := hrel
      by_cases hlt : k < ys.length
      · have hlt1 : k < xs.length := by have := HLE.out; omega
        have hlt2 : k < ys.length := by have := HLE.out; omega
        obtain ⟨b, off, rfl, hbl, hc0, hc1, hc2⟩ := hcell k hlt1
        obtain ⟨b', off', rfl, hbl', hc0', hc1', hc2'⟩ := hcell' k hlt2
        have hd0 := (hb.cell (p := ⟨b, off + k * 3, none⟩) hbl).trans hc0
        have hd1 := (hb.cell (p := ⟨b, off + k * 3 + 1, none⟩) hbl).trans hc1
        have hd2 := (hb.cell (p := ⟨b, off + k * 3 + 2, none⟩) hbl).trans hc2
        have hd5 := (hb.cell (p := ⟨b', off' + k * 3, none⟩) hbl').trans hc0'
        have hd3 := (hb.cell (p := ⟨b', off' + k * 3 + 1, none⟩) hbl').trans hc1'
        have hd4 := (hb.cell (p := ⟨b', off' + k * 3 + 2, none⟩) hbl').trans hc2'
        clear hc0 hc1 hc2 hcell hc0' hc1' hc2' hcell'
        have i1 : (k : Int) < (ys.length : Int) := by omega
        go_wp2
        have hx0 : ∀ x : Ext w.heap.size wr, x.val.cell? ⟨b, off + k * 3, none⟩ = some (.int .i64 xs[k].1) := fun x => (x.property.cell (p := ⟨b, _, none⟩) hbl).trans hd0
        have hx1 : ∀ x : Ext w.heap.size wr, x.val.cell? ⟨b, off + k * 3 + 1, none⟩ = some (.string xs[k].2.1) := fun x => (x.property.cell (p := ⟨b, _, none⟩) hbl).trans hd1
        have hx2 : ∀ x : Ext w.heap.size wr, x.val.cell? ⟨b, off + k * 3 + 2, none⟩ = some (.string xs[k].2.2) := fun x => (x.property.cell (p := ⟨b, _, none⟩) hbl).trans hd2
        have hx5 : ∀ x : Ext w.heap.size wr, x.val.cell? ⟨b', off' + k * 3, none⟩ = some (.int .i64 ys[k].1) := fun x => (x.property.cell (p := ⟨b', _, none⟩) hbl').trans hd5
        have hx3 : ∀ x : Ext w.heap.size wr, x.val.cell? ⟨b', off' + k * 3 + 1, none⟩ = some (.string ys[k].2.1) := fun x => (x.property.cell (p := ⟨b', _, none⟩) hbl').trans hd3
        have hx4 : ∀ x : Ext w.heap.size wr, x.val.cell? ⟨b', off' + k * 3 + 2, none⟩ = some (.string ys[k].2.2) := fun x => (x.property.cell (p := ⟨b', _, none⟩) hbl').trans hd4
        clear hd0 hd1 hd2 hd3 hd4 hd5
        have i0 : (0 : Int) ≤ (k : Int) := by omega
        have i2 : (k : Int) < xs.length := by omega
        have i3 : (k : Int) < ys.length := by omega
        have hE := fun W => eq_stp xs[k] ys[k] W
        refine wp_region_ext w.heap.size (by kernel_rfl) (by kernel_rfl) ?_
        repeat (go_big_quiet_step (fail))
        refine wpQuiet_nil ?_
        intro w2 hw'
        obtain ⟨xw, hxw⟩ := hw'
        have hb2 := xw.property
        rw [← hxw] at hb2
        clear hxw xw
        clear hx0 hx1 hx2 hx3 hx4 hx5 hE
        go_wp2
        · have h : (!stpEq xs[k] ys[k]) = true := by assumption
          go_ret
          refine ⟨?_, hb.trans hb2⟩
          have : ¬ xs = ys := by
            intro e; subst e; exact stpEq_no h rfl
          simp [this]
        · have h : (!stpEq xs[k] ys[k]) = false := by assumption
          go_roundw
          case rel =>
            refine ⟨k + 1, by omega, by go_num, ?_, hb.trans hb2⟩
            show _ = _
            rw [take_snoc xs k hlt1, take_snoc ys k hlt2, ht.out, stpEq_yes h]
          case measure => simp [intOf]; omega
      · have hk' : k = ys.length := by omega
        have h2 := ht.out
        have h3 := HLE.out
        rw [hk'] at h2
        have HD : Hid (((xs.length : Int) == (ys.length : Int)) = decide (xs = ys)) := by
          show _ = _
          by_cases he : xs.length = ys.length
          · rw [List.take_of_length_le (by omega), List.take_of_length_le (by omega)] at h2
            rw [h2]; simp
          · have h4 : ¬ xs = ys := fun e => he (by rw [e])
            have h5 : ¬ ((xs.length : Int) = (ys.length : Int)) := by omega
            rw [decide_eq_false h4]
            simpa using h5
        clear h2 h3 ht
        go_wp2
        go_ret
        exact ⟨by rw [← HD.out]; rfl, hb⟩
  · have hm : min (xs.length : Int) (ys.length : Int) = xs.length := by omega
    have HLE := Lib.hid hle
    clear hle
    go_enter Tryz.func13, Tryz.ntmps13
    go_wp2
    go_loopw [11] (fun i wr => ∃ (k : Nat), k ≤ xs.length ∧ i = .int .i64 k ∧ Hid (xs.take k = ys.take k) ∧ Below w.heap.size w wr) (fun i _ => xs.length - (intOf i).toNat)
    case atStart => exact ⟨0, by omega, rfl, by show _ = _; simp, Below.refl _ _⟩
    case round =>
      obtain ⟨k, hk, rfl, ht, hb⟩ := hrel
      by_cases hlt : k < xs.length
      · have hlt1 : k < xs.length := by have := HLE.out; omega
        have hlt2 : k < ys.length := by have := HLE.out; omega
        obtain ⟨b, off, rfl, hbl, hc0, hc1, hc2⟩ := hcell k hlt1
        obtain ⟨b', off', rfl, hbl', hc0', hc1', hc2'⟩ := hcell' k hlt2
        have hd0 := (hb.cell (p := ⟨b, off + k * 3, none⟩) hbl).trans hc0
        have hd1 := (hb.cell (p := ⟨b, off + k * 3 + 1, none⟩) hbl).trans hc1
        have hd2 := (hb.cell (p := ⟨b, off + k * 3 + 2, none⟩) hbl).trans hc2
        have hd5 := (hb.cell (p := ⟨b', off' + k * 3, none⟩) hbl').trans hc0'
        have hd3 := (hb.cell (p := ⟨b', off' + k * 3 + 1, none⟩) hbl').trans hc1'
        have hd4 := (hb.cell (p := ⟨b', off' + k * 3 + 2, none⟩) hbl').trans hc2'
        clear hc0 hc1 hc2 hcell hc0' hc1' hc2' hcell'
        have i1 : (k : Int) < (xs.length : Int) := by omega
        go_wp2
        have hx0 : ∀ x : Ext w.heap.size wr, x.val.cell? ⟨b, off + k * 3, none⟩ = some (.int .i64 xs[k].1) := fun x => (x.property.cell (p := ⟨b, _, none⟩) hbl).trans hd0
        have hx1 : ∀ x : Ext w.heap.size wr, x.val.cell? ⟨b, off + k * 3 + 1, none⟩ = some (.string xs[k].2.1) := fun x => (x.property.cell (p := ⟨b, _, none⟩) hbl).trans hd1
        have hx2 : ∀ x : Ext w.heap.size wr, x.val.cell? ⟨b, off + k * 3 + 2, none⟩ = some (.string xs[k].2.2) := fun x => (x.property.cell (p := ⟨b, _, none⟩) hbl).trans hd2
        have hx5 : ∀ x : Ext w.heap.size wr, x.val.cell? ⟨b', off' + k * 3, none⟩ = some (.int .i64 ys[k].1) := fun x => (x.property.cell (p := ⟨b', _, none⟩) hbl').trans hd5
        have hx3 : ∀ x : Ext w.heap.size wr, x.val.cell? ⟨b', off' + k * 3 + 1, none⟩ = some (.string ys[k].2.1) := fun x => (x.property.cell (p := ⟨b', _, none⟩) hbl').trans hd3
        have hx4 : ∀ x : Ext w.heap.size wr, x.val.cell? ⟨b', off' + k * 3 + 2, none⟩ = some (.string ys[k].2.2) := fun x => (x.property.cell (p := ⟨b', _, none⟩) hbl').trans hd4
        clear hd0 hd1 hd2 hd3 hd4 hd5
        have i0 : (0 : Int) ≤ (k : Int) := by omega
        have i2 : (k : Int) < xs.length := by omega
        have i3 : (k : Int) < ys.length := by omega
        have hE := fun W => eq_stp xs[k] ys[k] W
        refine wp_region_ext w.heap.size (by kernel_rfl) (by kernel_rfl) ?_
        repeat (go_big_quiet_step (fail))
        refine wpQuiet_nil ?_
        intro w2 hw'
        obtain ⟨xw, hxw⟩ := hw'
        have hb2 := xw.property
        rw [← hxw] at hb2
        clear hxw xw
        clear hx0 hx1 hx2 hx3 hx4 hx5 hE
        go_wp2
        · have h : (!stpEq xs[k] ys[k]) = true := by assumption
          go_ret
          refine ⟨?_, hb.trans hb2⟩
          have : ¬ xs = ys := by
            intro e; subst e; exact stpEq_no h rfl
          simp [this]
        · have h : (!stpEq xs[k] ys[k]) = false := by assumption
          go_roundw
          case rel =>
            refine ⟨k + 1, by omega, by go_num, ?_, hb.trans hb2⟩
            show _ = _
            rw [take_snoc xs k hlt1, take_snoc ys k hlt2, ht.out, stpEq_yes h]
          case measure => simp [intOf]; omega
      · have hk' : k = xs.length := by omega
        have h2 := ht.out
        have h3 := HLE.out
        rw [hk'] at h2
        have HD : Hid (((xs.length : Int) == (ys.length : Int)) = decide (xs = ys)) := by
          show _ = _
          by_cases he : xs.length = ys.length
          · rw [List.take_of_length_le (by omega), List.take_of_length_le (by omega)] at h2
            rw [h2]; simp
          · have h4 : ¬ xs = ys := fun e => he (by rw [e])
            have h5 : ¬ ((xs.length : Int) = (ys.length : Int)) := by omega
            rw [decide_eq_false h4]
            simpa using h5
        clear h2 h3 ht
        go_wp2
        go_ret
        exact ⟨by rw [← HD.out]; rfl, hb⟩
end Go.Proofs.YtplapaojgcloaaaGreatDoor
namespace Go.Proofs.YtplapaojgcloaaaGreatDoor
open Go.RowKit Go.PM Go.PE

set_option maxHeartbeats 800000 in
theorem drawOrderWanted_c (w : World) (v : Value) (n : Nat) (hv : RdB w w.heap.size v n) :
    Calls Tryz.prog 4 #[v] w fun e w' => ∃ y s ys, e = .returned (.tuple #[y, .string s]) ∧ w'.ownsRow w.heap.size 37 2 y ys.length (mcells ys) ∧ Hid (s.size ≤ 20 ∧ ys.length ≤ 65 ∧ ∀ m ∈ ys, m.1.size ≤ 64 ∧ m.2.size ≤ 64) ∧ Below w.heap.size w w' := by
  have HO := Lib.hid (l13Open_c w v n hv)
  go_enter Tryz.func4, Tryz.ntmps4
  go_wp2_with fail
  refine HO.out.mono ?_
  rintro e w1 ⟨r, rfl, R1, b1⟩
  have hs1 := b1.size
  have hB := R1.1
  have HS := Lib.hid (l9Some_c w1 _ r 0 R1 (by omega))
  go_wp2_with fail
  refine HS.out.mono ?_
  rintro e w2 ⟨y, s, ys, p2, rfl, hoy, hsh, R2, hp, g2⟩
  have b2 : Below w.heap.size w w2 := b1.trans (below_grown g2 hs1 (fun g e => by cases e; exact hB))
  have hoy2 := own_more hoy hs1
  go_wp2
  go_ret2
  exact ⟨_, s, ys, rfl, hoy2, hsh, b2⟩
set_option maxRecDepth 100000 in
set_option maxHeartbeats 6400000 in
theorem exOrderWanted (w : World) (v0 : Value) (n0 : Nat) (hv : RdB w w.heap.size v0 n0) (hT : Tz w) :
    Calls Tryz.prog 3 #[v0] w fun e w' => e = .returned (.bool true) ∧ Below w.heap.size w w' := by
  have hv0 := hv
  obtain ⟨A, cap, rfl, hc, hn, _⟩ := hv
  by_cases hbig : 1048576 < n0
  · have t : decide ((n0 : Int) > 1048576) = true := by simp; omega
    go_enter Tryz.func3, Tryz.ntmps3
    go_wp2
    go_ret
    exact ⟨rfl, Below.refl _ _⟩
  have t : decide ((n0 : Int) > 1048576) = false := by simp; omega
  have HD := Lib.hid (drawOrderWanted_c w _ n0 hv0)
  clear hv0
  go_enter Tryz.func3, Tryz.ntmps3
  go_wp2_with fail
  refine HD.out.mono ?_
  rintro e w1 ⟨y, s, ys, rfl, hoy, hsh, b1⟩
  have hs1 := b1.size
  have hT1 := hT.below b1
  have hy1 := Rd.of_own hoy
  have hsz : s.size ≤ 20 := hsh.out.1
  have hzy : ∀ m ∈ ys, m.1.size ≤ 9223372036854775807 ∧ m.2.size ≤ 9223372036854775807 := fun m hm => by have := hsh.out.2.2 m hm; omega
  have hly : ys.length ≤ 1048576 := by have := hsh.out.2.1; omega
  have H1 := Lib.hid (fun W (hb : Below w1.heap.size w1 W) => imOrderWanted_c ys y s (by omega) W (RdM.below hy1 hb) (hT1.below hb))
  have H2 := Lib.hid (fun W (hb : Below w1.heap.size w1 W) => spOrderWanted_c ys y s (by omega) W (RdM.below hy1 hb) hzy hly)
  have H3 := Lib.hid (fun W (hb : Below w1.heap.size w1 W) => imKeepWanted_c ys y s (by omega) W (RdM.below hy1 hb) (hT1.below hb))
  have H4 := Lib.hid (fun W (hb : Below w1.heap.size w1 W) => spKeepWanted_c ys y s (by omega) W (RdM.below hy1 hb) hzy hly)
  have H5 := Lib.hid (fun W (hb : Below w1.heap.size w1 W) => imNeededBy_c ys y s (by omega) W (RdM.below hy1 hb) (hT1.below hb))
  have H6 := Lib.hid (fun W (hb : Below w1.heap.size w1 W) => spNeededBy_c ys y s (by omega) W (RdM.below hy1 hb) hzy hly)
  have H7 := Lib.hid (fun W (hb : Below w1.heap.size w1 W) => imSpareFor_c ys y s (by omega) W (RdM.below hy1 hb) (hT1.below hb))
  have H8 := Lib.hid (fun W (hb : Below w1.heap.size w1 W) => spSpareFor_c ys y s (by omega) W (RdM.below hy1 hb) hzy hly)
  have HPS := Lib.hid (fun (v v' : Value) W (h : RdS W v (owS ys s)) (h' : RdS W v' (owS ys s)) => (pmSteps_c (owS ys s) (owS ys s) v v' W h h').mono fun e w' h => (⟨by rw [h.1]; simp, h.2⟩ : e = .returned (.bool true) ∧ Below W.heap.size W w'))
  have HPM := Lib.hid (fun (v v' : Value) W (h : RdM W v (kwM ys s)) (h' : RdM W v' (kwM ys s)) => (pmSame_c (kwM ys s) (kwM ys s) v v' W h h').mono fun e w' h => (⟨by rw [h.1]; simp, h.2⟩ : e = .returned (.bool true) ∧ Below W.heap.size W w'))
  have HTC := Lib.hid (fun v W (h : RdS W v (owS ys s)) => imTouchedBy_c (owS ys s) v W h)
  have HIR := Lib.hid (fun v W (h : RdS W v (owS ys s)) (hb : Below w1.heap.size w1 W) => imIsRightFor_c (owS ys s) ys v y s (by omega) W h (RdM.below hy1 hb) (hT1.below hb))
  have hkl := kwM_len ys s
  have HC1 := Lib.hid (fun v W (h : RdM W v (kwM ys s)) => imCountInOrder_c (kwM ys s) v W h (by omega))
  have HC2 := Lib.hid (fun W (hb : Below w1.heap.size w1 W) => imCountInOrder_c ys y W (RdM.below hy1 hb) hly)
  have hnz := nbB_size ys s
  have htz := tcB_size (owS ys s)
  have HHN := Lib.hid (fun c W => pmHas_c (nbB ys s) c W (by omega))
  have HHW := Lib.hid (fun c W => pmHas_c s c W (by omega))
  have HHT := Lib.hid (fun c W => pmHas_c (tcB (owS ys s)) c W (by omega))
  have HOC := Lib.hid (ow_count ys s)
  have hB1 : Below w1.heap.size w1 w1 := Below.refl _ _
  rcases Bool.eq_false_or_eq_true (mvalid ys && wvB s) with hok | hok
  · have hok' := hok
    rw [Bool.and_eq_true] at hok'
    have hMV : MV ys := by simpa [mvalid] using hok'.1
    have HRT := Lib.hid (ow_right hMV hok'.2)
    have HKH := Lib.hid (kw_has hMV hok'.2)
    have hkc := kw_count hMV hok'.2
    have HTO : Hid (soB ys s = true → pmH (tcB (owS ys s)) ⟨#[116]⟩ = false) := ow_touch
    have HSO := Lib.hid (fun h => so_has hMV hok'.2 h)
    have hoc := HOC.out
    rw [hok] at H1 H2 H3 H4 H5 H6
    rw [HRT.out] at HIR
    generalize owS ys s = ow at *
    generalize kwM ys s = kw at *
    generalize nbB ys s = nb at *
    generalize spB ys s = sp at *
    generalize soB ys s = so at *
    generalize tcB ow = tc at *
    generalize cioI kw = z1 at *
    generalize cioI ys = z2 at *
    have hq1 : ((ow.length : Int) == z1) = true := by rw [hoc]; simp
    have hq2 : (ow.length : Int) ≤ z2 := by omega
    clear hok hok' hMV HRT hoy hy1 HD hsh hT1 HOC hoc hkc
    go_wp2_with fail
    refine (H1.out w1 hB1).mono ?_
    rintro e w2 ⟨g1, rfl, ho1, b2⟩
    have hB2 := hB1.trans (b2.mono hB1.size)
    have r1_2 := Rd.of_own ho1
    clear b2 hB1  ho1
    go_wp2_with fail
    refine (H2.out w2 hB2).mono ?_
    rintro e w3 ⟨g2, rfl, ho2, b3⟩
    have hB3 := hB2.trans (b3.mono hB2.size)
    have r1_3 := RdS.below r1_2 b3
    have r2_3 := Rd.of_own ho2
    clear b3 hB2 r1_2 ho2
    go_wp2_with fail
    refine (H3.out w3 hB3).mono ?_
    rintro e w4 ⟨g3, rfl, ho3, b4⟩
    have hB4 := hB3.trans (b4.mono hB3.size)
    have r1_4 := RdS.below r1_3 b4
    have r2_4 := RdS.below r2_3 b4
    have r3_4 := Rd.of_own ho3
    clear b4 hB3 r1_3 r2_3 ho3
    go_wp2_with fail
    refine (H4.out w4 hB4).mono ?_
    rintro e w5 ⟨g4, rfl, ho4, b5⟩
    have hB5 := hB4.trans (b5.mono hB4.size)
    have r1_5 := RdS.below r1_4 b5
    have r2_5 := RdS.below r2_4 b5
    have r3_5 := RdM.below r3_4 b5
    have r4_5 := Rd.of_own ho4
    clear b5 hB4 r1_4 r2_4 r3_4 ho4
    go_wp2_with fail
    refine (H5.out w5 hB5).mono ?_
    rintro e w6 ⟨rfl, b6⟩
    have hB6 := hB5.trans (b6.mono hB5.size)
    have r1_6 := RdS.below r1_5 b6
    have r2_6 := RdS.below r2_5 b6
    have r3_6 := RdM.below r3_5 b6
    have r4_6 := RdM.below r4_5 b6
    clear b6 hB5 r1_5 r2_5 r3_5 r4_5
    go_wp2_with fail
    refine (H6.out w6 hB6).mono ?_
    rintro e w7 ⟨rfl, b7⟩
    have hB7 := hB6.trans (b7.mono hB6.size)
    have r1_7 := RdS.below r1_6 b7
    have r2_7 := RdS.below r2_6 b7
    have r3_7 := RdM.below r3_6 b7
    have r4_7 := RdM.below r4_6 b7
    clear b7 hB6 r1_6 r2_6 r3_6 r4_6
    go_wp2_with fail
    refine (H7.out w7 hB7).mono ?_
    rintro e w8 ⟨rfl, b8⟩
    have hB8 := hB7.trans (b8.mono hB7.size)
    have r1_8 := RdS.below r1_7 b8
    have r2_8 := RdS.below r2_7 b8
    have r3_8 := RdM.below r3_7 b8
    have r4_8 := RdM.below r4_7 b8
    clear b8 hB7 r1_7 r2_7 r3_7 r4_7
    go_wp2_with fail
    refine (H8.out w8 hB8).mono ?_
    rintro e w9 ⟨rfl, b9⟩
    have hB9 := hB8.trans (b9.mono hB8.size)
    have r1_9 := RdS.below r1_8 b9
    have r2_9 := RdS.below r2_8 b9
    have r3_9 := RdM.below r3_8 b9
    have r4_9 := RdM.below r4_8 b9
    clear b9 hB8 r1_8 r2_8 r3_8 r4_8
    go_wp2_with fail
    refine (HPS.out g1 g2 w9 r1_9 r2_9).mono ?_
    rintro e w10 ⟨rfl, b10⟩
    have hB10 := hB9.trans (b10.mono hB9.size)
    have r1_10 := RdS.below r1_9 b10
    have r3_10 := RdM.below r3_9 b10
    have r4_10 := RdM.below r4_9 b10
    clear r1_9 r2_9 r3_9 r4_9 b10 hB9
    go_wp2_with fail
    refine (HPM.out g3 g4 w10 r3_10 r4_10).mono ?_
    rintro e w11 ⟨rfl, b11⟩
    have hB11 := hB10.trans (b11.mono hB10.size)
    have r1_11 := RdS.below r1_10 b11
    have r3_11 := RdM.below r3_10 b11
    clear r1_10 r3_10 r4_10 b11 hB10
    go_wp2_with fail
    refine (HTC.out g1 w11 r1_11).mono ?_
    rintro e w12 ⟨rfl, b12⟩
    have hB12 := hB11.trans (b12.mono hB11.size)
    have r1_12 := RdS.below r1_11 b12
    have r3_12 := RdM.below r3_11 b12
    have hs12 := hB12.size
    clear r1_11 r3_11 b12 hB11 H1 H2 H3 H4 H5 H6 H7 H8 HPS HPM HTC
    have hgl : ∃ Ag cg, g1 = .slice Ag ow.length cg := by obtain ⟨A, c, e, _⟩ := r1_12; exact ⟨A, c, e⟩
    obtain ⟨Ag, cg, rfl⟩ := hgl
    have r3' := r3_12
    obtain ⟨Ak, ck, rfl, hnk, hck, hcell⟩ := r3'.open
    clear r3'
    go_wp2
    go_loopw [24, 170] (fun _ i wr => ∃ k : Nat, k ≤ kw.length ∧ i = .int .i64 k ∧ Below w12.heap.size w12 wr) (fun _ i _ => kw.length - (RowKit.intOf i).toNat)
    case atStart => exact ⟨0, by omega, rfl, Below.refl _ _⟩
    case round =>
      obtain ⟨k, hk, rfl, hb⟩ := hrel
      have hbs := hb.size
      by_cases hlt : k < kw.length
      · obtain ⟨b, off, rfl, hbl, hc1, hc2⟩ := hcell k hlt
        have hd1 := (hb.cell (p := ⟨b, off + k * 2, none⟩) hbl).trans hc1
        have hd2 := (hb.cell (p := ⟨b, off + k * 2 + 1, none⟩) hbl).trans hc2
        obtain ⟨e1, e2⟩ := HKH.out _ (List.getElem_mem hlt)
        have i1 : (k : Int) < (kw.length : Int) := by omega
        clear hc1 hc2
        have HW1 := Lib.hid (fun W => HHW.out kw[k].1 W)
        rw [e1] at HW1
        have HN1 := Lib.hid (fun W => HHN.out kw[k].2 W)
        have HIX := Lib.hid (fun W => pmIndex_c kw[k].2 W)
        have HP2 : Hid (isP kw[k].2 = true → (0 : Int) ≤ pmI kw[k].2) := fun h => by unfold pmI; rw [if_pos h]; omega
        have HP3 : Hid (isP kw[k].2 = false → pmI kw[k].2 = -1) := fun h => by unfold pmI; rw [if_neg (by rw [h]; decide)]
        generalize kw[k].1 = x1 at *
        generalize kw[k].2 = x2 at *
        have hA0 : At (wr.alloc (.cells #[.string x1, .string x2] 37)) wr.heap.size 37 #[.string x1, .string x2] := At.new _ _ _
        have hb1 : Below w12.heap.size w12 (wr.alloc (.cells #[.string x1, .string x2] 37)) := hb.alloc hbs _
        go_wp2_with fail
        refine (HW1.out _).mono ?_
        rintro e w13 ⟨rfl, b13⟩
        have hA1 := hA0.keep b13
        have hb2 := hb1.trans (b13.mono hb1.size)
        have c2 : w13.cell? ⟨wr.heap.size, 1, none⟩ = some (.string x2) := hA1.cell 1
        clear hA0 hb1 b13 hb hd1 hd2
        go_wp2_with fail
        refine (HIX.out _).mono ?_
        rintro e w14 ⟨rfl, b14⟩
        have hA2 := hA1.keep b14
        have hb3 := hb2.trans (b14.mono hb2.size)
        have c3 : w14.cell? ⟨wr.heap.size, 1, none⟩ = some (.string x2) := hA2.cell 1
        clear hA1 hb2 b14 c2
        rcases Bool.eq_false_or_eq_true (isP x2) with hp | hp
        · have hpi := HP2.out hp
          have e3 := e2 hp
          rw [e3] at HN1
          generalize pmI x2 = z at *
          go_wp2_with fail
          refine (HN1.out _).mono ?_
          rintro e w15 ⟨rfl, b15⟩
          have hb4 := hb3.trans (b15.mono hb3.size)
          go_wp2
          go_roundw
          case rel => exact ⟨k + 1, by omega, by go_num, hb4⟩
          case measure => simp [RowKit.intOf]; omega
        · have hpi := HP3.out hp
          rw [hpi]
          go_wp2
          go_roundw
          case rel => exact ⟨k + 1, by omega, by go_num, hb3⟩
          case measure => simp [RowKit.intOf]; omega
      · have i1 : ¬ (k : Int) < (kw.length : Int) := by omega
        have hB13 := hB12.trans (hb.mono hs12)
        have r1_13 := RdS.below r1_12 hb
        have r3_13 := RdM.below r3_12 hb
        clear hcell r1_12 r3_12 HKH hb
        go_wp2_with fail
        refine (HIR.out _ wr r1_13 hB13).mono ?_
        rintro e w14 ⟨rfl, b14⟩
        have hB14 := hB13.trans (b14.mono hB13.size)
        have r3_14 := RdM.below r3_13 b14
        clear b14 hB13 r1_13 r3_13
        go_wp2_with fail
        refine (HC1.out _ w14 r3_14).mono ?_
        rintro e w15 ⟨rfl, b15⟩
        have hB15 := hB14.trans (b15.mono hB14.size)
        clear b15 hB14 r3_14
        go_wp2_with fail
        refine (HC2.out w15 hB15).mono ?_
        rintro e w16 ⟨rfl, b16⟩
        have hB16 := hB15.trans (b16.mono hB15.size)
        clear b16 hB15
        cases so with
        | false =>
          go_wp2
          go_ret
          exact ⟨rfl, b1.trans (hB16.mono hs1)⟩
        | true =>
          have q1 := HTO.out rfl
          obtain ⟨q2, q3⟩ := HSO.out rfl
          have HQ1 := Lib.hid (fun W => HHT.out ⟨#[116]⟩ W)
          have HQ2 := Lib.hid (fun W => HHW.out sp W)
          have HQ3 := Lib.hid (fun W => HHN.out sp W)
          rw [q1] at HQ1
          rw [q2] at HQ2
          rw [q3] at HQ3
          go_wp2_with fail
          refine (HQ1.out _).mono ?_
          rintro e w17 ⟨rfl, b17⟩
          have hB17 := hB16.trans (b17.mono hB16.size)
          go_wp2_with fail
          refine (HQ2.out _).mono ?_
          rintro e w18 ⟨rfl, b18⟩
          have hB18 := hB17.trans (b18.mono hB17.size)
          go_wp2_with fail
          refine (HQ3.out _).mono ?_
          rintro e w19 ⟨rfl, b19⟩
          have hB19 := hB18.trans (b19.mono hB18.size)
          go_wp2
          go_ret
          exact ⟨rfl, b1.trans (hB19.mono hs1)⟩
  · rw [hok] at H1 H2 H3 H4 H5 H6
    clear hoy hy1 HD hsh hT1 HOC HTC HIR HC1 HC2 HHN HHT HHW
    generalize owS ys s = ow at *
    generalize kwM ys s = kw at *
    generalize nbB ys s = nb at *
    generalize spB ys s = sp at *
    generalize soB ys s = so at *
    go_wp2_with fail
    refine (H1.out w1 hB1).mono ?_
    rintro e w2 ⟨g1, rfl, ho1, b2⟩
    have hB2 := hB1.trans (b2.mono hB1.size)
    have r1_2 := Rd.of_own ho1
    clear b2 hB1  ho1
    go_wp2_with fail
    refine (H2.out w2 hB2).mono ?_
    rintro e w3 ⟨g2, rfl, ho2, b3⟩
    have hB3 := hB2.trans (b3.mono hB2.size)
    have r1_3 := RdS.below r1_2 b3
    have r2_3 := Rd.of_own ho2
    clear b3 hB2 r1_2 ho2
    go_wp2_with fail
    refine (H3.out w3 hB3).mono ?_
    rintro e w4 ⟨g3, rfl, ho3, b4⟩
    have hB4 := hB3.trans (b4.mono hB3.size)
    have r1_4 := RdS.below r1_3 b4
    have r2_4 := RdS.below r2_3 b4
    have r3_4 := Rd.of_own ho3
    clear b4 hB3 r1_3 r2_3 ho3
    go_wp2_with fail
    refine (H4.out w4 hB4).mono ?_
    rintro e w5 ⟨g4, rfl, ho4, b5⟩
    have hB5 := hB4.trans (b5.mono hB4.size)
    have r1_5 := RdS.below r1_4 b5
    have r2_5 := RdS.below r2_4 b5
    have r3_5 := RdM.below r3_4 b5
    have r4_5 := Rd.of_own ho4
    clear b5 hB4 r1_4 r2_4 r3_4 ho4
    go_wp2_with fail
    refine (H5.out w5 hB5).mono ?_
    rintro e w6 ⟨rfl, b6⟩
    have hB6 := hB5.trans (b6.mono hB5.size)
    have r1_6 := RdS.below r1_5 b6
    have r2_6 := RdS.below r2_5 b6
    have r3_6 := RdM.below r3_5 b6
    have r4_6 := RdM.below r4_5 b6
    clear b6 hB5 r1_5 r2_5 r3_5 r4_5
    go_wp2_with fail
    refine (H6.out w6 hB6).mono ?_
    rintro e w7 ⟨rfl, b7⟩
    have hB7 := hB6.trans (b7.mono hB6.size)
    have r1_7 := RdS.below r1_6 b7
    have r2_7 := RdS.below r2_6 b7
    have r3_7 := RdM.below r3_6 b7
    have r4_7 := RdM.below r4_6 b7
    clear b7 hB6 r1_6 r2_6 r3_6 r4_6
    go_wp2_with fail
    refine (H7.out w7 hB7).mono ?_
    rintro e w8 ⟨rfl, b8⟩
    have hB8 := hB7.trans (b8.mono hB7.size)
    have r1_8 := RdS.below r1_7 b8
    have r2_8 := RdS.below r2_7 b8
    have r3_8 := RdM.below r3_7 b8
    have r4_8 := RdM.below r4_7 b8
    clear b8 hB7 r1_7 r2_7 r3_7 r4_7
    go_wp2_with fail
    refine (H8.out w8 hB8).mono ?_
    rintro e w9 ⟨rfl, b9⟩
    have hB9 := hB8.trans (b9.mono hB8.size)
    have r1_9 := RdS.below r1_8 b9
    have r2_9 := RdS.below r2_8 b9
    have r3_9 := RdM.below r3_8 b9
    have r4_9 := RdM.below r4_8 b9
    clear b9 hB8 r1_8 r2_8 r3_8 r4_8
    go_wp2_with fail
    refine (HPS.out g1 g2 w9 r1_9 r2_9).mono ?_
    rintro e w10 ⟨rfl, b10⟩
    have hB10 := hB9.trans (b10.mono hB9.size)
    have r1_10 := RdS.below r1_9 b10
    have r2_10 := RdS.below r2_9 b10
    have r3_10 := RdM.below r3_9 b10
    have r4_10 := RdM.below r4_9 b10
    clear r1_9 r2_9 r3_9 r4_9 b10 hB9
    go_wp2_with fail
    refine (HPM.out g3 g4 w10 r3_10 r4_10).mono ?_
    rintro e w11 ⟨rfl, b11⟩
    have hB11 := hB10.trans (b11.mono hB10.size)
    have r1_11 := RdS.below r1_10 b11
    have r2_11 := RdS.below r2_10 b11
    have r3_11 := RdM.below r3_10 b11
    have r4_11 := RdM.below r4_10 b11
    clear r1_10 r2_10 r3_10 r4_10 b11 hB10
    go_wp2_with fail
    refine (HPS.out g1 g2 w11 r1_11 r2_11).mono ?_
    rintro e w12 ⟨rfl, b12⟩
    have hB12 := hB11.trans (b12.mono hB11.size)
    have r3_12 := RdM.below r3_11 b12
    have r4_12 := RdM.below r4_11 b12
    clear r1_11 r2_11 r3_11 r4_11 b12 hB11
    go_wp2_with fail
    refine (HPM.out g3 g4 w12 r3_12 r4_12).mono ?_
    rintro e w13 ⟨rfl, b13⟩
    have hB13 := hB12.trans (b13.mono hB12.size)
    cases so
    all_goals
      go_wp2
      go_ret
      exact ⟨rfl, b1.trans (hB13.mono hs1)⟩

namespace fnOrderWanted
open Go.RowKit Go.PM Go.ChangeShapes Go.WideShapes Go.ChangeAt
open Go.ChangeMaps (open_string shut_string)
set_option maxRecDepth 100000 in
theorem lifted (os : Os) (started : os.Started) (H : Type) (enc : TypeId × Value → H) :
    ReturnsInHanded {} Tryz.checked os 3 .any (fun w args => (Rows.fnOrderWantedSpec.pre enc Tryz.prog Tryz.f3 [] false w args ∧ laidMetH Tryz.prog laidL w) ∧ sizedMet enc Tryz.prog Tryz.f3 (OpenSpec.ofChange Rows.fnOrderWantedSpec) false w args)
      (Rows.fnOrderWantedSpec.post enc Tryz.prog Tryz.f3 false true false false) := by
  refine returnsInHanded_of_change_and (C := Tryz.checked) (X := fun w _ => laidMetH Tryz.prog laidL w) (fun _ _ _ hh h => h.of_heap hh) own started (by kernel_rfl) Tryz.func3
    (ChangeSpec.witness_at (enc := enc) (C := Tryz.checked) (os := os) (X := fun w _ => laidMetH Tryz.prog laidL w) false (laidWorld os) #[.slice none 0 0] 8 rfl (by kernel_rfl) (by kernel_rfl) (by kernel_rfl) (by kernel_rfl) (by kernel_rfl) (laidWorld_met os _)) ?_
  intro W base args ds gs before hval0 hW _ _ hL _
  have hval : ∀ (j : Nat) t v, Tryz.f3.params[j]? = some t → args[j]? = some v → Value.okWide Tryz.prog W .any base t v := hval0
  have hW' := hW
  obtain ⟨p, q, hA0, hV, rfl, hfz, hnd⟩ := hW
  have hA : DataW.TrodAll enc Tryz.prog W 0 (fun _ => true) true Tryz.f3.params.toList args.toList ds p := hA0
  rw [Tryz.params3] at hA hval
  obtain ⟨v0, vs0, d0, ds0, p0, q0, hargs, rfl, rfl, h0, r0⟩ := trodAll_cons hA
  obtain ⟨rfl, rfl, rfl⟩ := trodAll_nil r0
  obtain rfl : args = #[v0] := by cases args; simp_all
  obtain ⟨rfl, rfl⟩ := trodVars_none hV
  have hG := tz_of_laid hL
  have k0 := h0
  have lt0 : ∀ x ∈ p0, x.block < W.heap.size := by obtain ⟨m, hm⟩ := k0; exact DataW.trod_lt m _ _ _ hm
  obtain ⟨a0, len0, cap0, rfl⟩ := okWide_slice Tryz.underlying22 (hval 0 22 v0 rfl rfl)
  have hx0 : RdB W W.heap.size (.slice a0 len0 cap0) len0 := by obtain ⟨fuel, hf⟩ := h0; exact open_bytes hf
  clear hA0 hval0
  refine (exOrderWanted W _ len0 hx0 hG).mono fun e W' ⟨he, bel⟩ => ?_
  subst he
  exact ⟨_, rfl, _, _, _, [], _, [], hW', trodAll_mk1 (shut_bool Tryz.underlying4 _), (trodAll_cons_mk (Below.trod laidOut (by kernel_rfl) (of_decide_eq_true (by kernel_rfl)) k0 bel lt0) trodAll_mk0), rfl, bel.frame _, fun h => by cases h⟩

theorem over : Rows.fnOrderWantedRow.holds Tryz.pinned (OpenSpec.ofChange Rows.fnOrderWantedSpec) :=
  OpenClaim.holds_of_wide 3 Tryz.f3 rfl rfl rfl rfl rfl rfl rfl ⟨rfl, rfl, rfl, rfl, rfl⟩ rfl rfl rfl rfl rfl (by kernel_rfl) Tryz.func3 (by kernel_rfl)
    (of_decide_eq_true (by kernel_rfl)) (by unfold Func.isWrapper; first | (rw [if_pos (by decide +kernel)]; kernel_rfl) | (rw [if_neg (by decide +kernel)]; exact ⟨rfl, rfl⟩))
    (fun os started H enc _ => lifted os started H enc)

/-- The statement. -/
theorem proved : Rows.FnOrderWantedCardSaid :=
  Claim7.holds_tied_plain_at .later [] [.data, .data] true Rows.fnOrderWantedCard.stood.harness false
    over (fun _ h => by cases h) (by kernel_rfl) (fun _ h => by cases h) fnOrderWanted_row_tie rfl ⟨rfl, rfl⟩ (by kernel_rfl) rfl
    (fun f fn hf hfn => by
      obtain rfl : f = 3 := Option.some.inj ((show Tryz.prog.funcNamed "loop.example/parallelmoves/laws.FnOrderWanted" = some 3 by kernel_rfl).symm.trans hf) |>.symm
      obtain rfl : fn = Tryz.f3 := (Option.some.inj (Tryz.func3.symm.trans hfn)).symm
      exact ⟨by kernel_rfl, fun j t ht => by
        rw [Tryz.params3] at ht
        rcases j with _ | j
        · obtain rfl : t = 22 := by simpa using ht.symm
          exact (show Tryz.prog.wantsStandIn 22 = false by kernel_rfl)
        · simp at ht⟩)
    (by kernel_rfl)
end fnOrderWanted
end Go.Proofs.YtplapaojgcloaaaGreatDoor
