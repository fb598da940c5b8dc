/- Proved: for every input of the form's own reach the law FnIsRightFor answers true and its arguments read afterwards as before; no further condition. -/
import Derived.Test.YtplapaojgcloaaaDoorWaJE
import Derived.Test.YtplapaojgcloaaaDoorWaJC
import Derived.Test.YtplapaojgcloaaaDoorWaJB
import Derived.Test.YtplapaojgcloaaaDoorDraw3
import Derived.Test.YtplapaojgcloaaaDoorCut1
import Derived.Test.YtplapaojgcloaaaDoorRow
import Derived.Deep.RegionHeld3
import Derived.Test.YtplapaojgcloaaaDoorSt4
import Derived.Test.YtplapaojgcloaaaDoorSt5
import Derived.Test.YtplapaojgcloaaaDoorTail
import Derived.Test.YtplapaojgcloaaaDoorIm3
import Derived.Test.YtplapaojgcloaaaDoorBytes
import Derived.Test.YtplapaojgcloaaaDoorHar
import Derived.Test.YtplapaojgcloaaaDoorOpen
namespace Go.PE
open Go.PM Go.RowKit
def otB (s : Bool) (a : ByteArray) : Bool := s && decide (a = spT)
theorem beq_t (x : ByteArray) : (x.toList == [116]) = decide (x = spT) := by
  have := beq_str x spT
  rwa [ByteArray.toList_eq spT] at this
theorem ot_rn (xs : List Mv) (t a : ByteArray) : tlB (otB (soB xs t)) (fun _ => spB xs t) a = rnB (spN xs t) a := by
  unfold tlB otB rnB
  rcases Bool.eq_false_or_eq_true (soB xs t) with h | h
  · obtain ⟨h1, h2, -⟩ := so_spec h
    rw [h, h2, Bool.true_and]
    by_cases e : a = spT
    · rw [decide_eq_true e, if_pos rfl, if_pos e]
      show nm (spN xs t) = _
      match spN xs t, h1 with
      | 0, _ | 1, _ | 2, _ | 3, _ | 4, _ | 5, _ | 6, _ | 7, _ | 8, _ => decide +kernel
    · rw [decide_eq_false e, if_neg e]; rfl
  · have : spN xs t = 9 := by unfold spN; rw [h]; rfl
    rw [h, this]
    show (if (false && decide (a = spT)) = true then _ else a) = _
    rw [Bool.false_and]
    exact (rnB_nine a).symm
theorem ot_map (xs : List Mv) (t : ByteArray) (ys : List St) : ys.map (tlX (otB (soB xs t)) (fun _ => spB xs t)) = ys.map (rnX (spN xs t)) := by
  refine List.map_congr_left fun x _ => ?_
  unfold tlX rnX
  rw [ot_rn, ot_rn]
end Go.PE
namespace Go.Proofs.YtplapaojgcloaaaDoor
open Go.RowKit Go.PM Go.PE

theorem tellW_c (p q : Nat) (s : ByteArray) (b : Bool) (a : ByteArray) (W : World) (h1 : At W p 9 #[.string s]) (h2 : At W q 4 #[.bool b]) :
    Calls Tryd.prog 87 #[.string a, .pointer (some ⟨p, 0, none⟩), .pointer (some ⟨q, 0, none⟩)] W fun e w' => e = .returned (.tuple #[.string s, .bool (otB b a)]) ∧ Below W.heap.size W w' := by
  have c1 := h1.cell 0
  have c2 := h2.cell 0
  cases b with
  | true =>
    have HO : Hid (otB true a = (a.toList == [116])) := by show _ = _; rw [beq_t]; unfold otB; rw [Bool.true_and]
    go_enter Tryd.func87, Tryd.ntmps87
    go_wp2
    go_ret2
    exact ⟨by rw [HO.out]; rfl, Below.refl _ _⟩
  | false =>
    have HO : Hid (otB false a = false) := rfl
    go_enter Tryd.func87, Tryd.ntmps87
    go_wp2
    go_ret2
    exact ⟨by rw [HO.out]; rfl, Below.refl _ _⟩
set_option maxRecDepth 100000 in
set_option maxHeartbeats 1600000 in
theorem imOrderWanted_c (xs : List Mv) (v : Value) (t : ByteArray) (ht : t.size ≤ 1048576) (w : World) (hx : RdM w v xs) (hT : Tz w) :
    Calls Tryd.prog 40 #[v, .string t] w fun e w' => ∃ v', e = .returned (.tuple #[v', .bool (mvalid xs && wvB t)]) ∧ w'.ownsRow w.heap.size 72 3 v' (owS xs t).length (scells (owS xs t)) ∧ Below w.heap.size w w' := by
  have HK := Lib.hid (imKeepWanted_c xs v t ht w hx hT)
  have HO := Lib.hid (fun v' W hW => imOrderMoves_c (kwM xs t) v' W hW)
  have HS := Lib.hid (fun W hb => imSpareFor_c xs v t ht W (hx.below hb) (hT.below hb))
  rcases Bool.eq_false_or_eq_true (mvalid xs && wvB t) with hv | hv
  · have hln : (stL (ordM (kwM xs t))).length ≤ 1048576 := by
      have := ordM_len (kwM xs t); rw [stL_len']; omega
    have HOW : Hid ((stL (ordM (kwM xs t))).map (tlX (otB (soB xs t)) (fun _ => spB xs t)) = owS xs t) := by show _ = _; rw [ot_map]; rfl
    rw [hv] at HK ⊢
    clear hv hx hT
    go_enter Tryd.func40, Tryd.ntmps40
    go_wp2_with fail
    refine HK.out.mono ?_
    rintro e w1 ⟨v1, rfl, ho1, hb1⟩
    have hs1 := hb1.size
    have hk1 := Rd.of_own ho1
    clear ho1
    go_wp2_with fail
    refine (HO.out v1 w1 hk1).mono ?_
    rintro e w2 ⟨v2, rfl, ho2, hb2⟩
    have hB2 := hb1.trans (hb2.mono hs1)
    have hs2 := hB2.size
    have hk2 : RdS w2 v2 (stL (ordM (kwM xs t))) := by
      have := Rd.of_own ho2
      rwa [← stL_len'] at this
    clear ho2 hb2 hb1 hk1
    go_wp2_with fail
    refine (HS.out w2 hB2).mono ?_
    rintro e w3 ⟨rfl, hb3⟩
    have hB3 := hB2.trans (hb3.mono hs2)
    have hs3 := hB3.size
    have hk3 := RdS.below hk2 hb3
    go_wp2_with fail
    have kA : At (w3.alloc (.cells #[.string (spB xs t)] 9)) w3.heap.size 9 #[.string (spB xs t)] := At.new _ _ _
    have kB : At ((w3.alloc (.cells #[.string (spB xs t)] 9)).alloc (.cells #[.bool (soB xs t)] 4)) (w3.heap.size + 1) 4 #[.bool (soB xs t)] := by
      have := At.new (w3.alloc (.cells #[.string (spB xs t)] 9)) 4 #[.bool (soB xs t)]
      rwa [World.size_alloc] at this
    have bA : Below w3.heap.size w3 (w3.alloc (.cells #[.string (spB xs t)] 9)) := (Below.refl _ _).alloc (Nat.le_refl _) _
    have bB : Below w3.heap.size w3 ((w3.alloc (.cells #[.string (spB xs t)] 9)).alloc (.cells #[.bool (soB xs t)] 4)) := bA.alloc bA.size _
    have kA2 := kA.keep ((Below.refl _ _).alloc (Nat.le_refl _) (.cells #[.bool (soB xs t)] 4))
    have hB4 := hB3.trans (bB.mono hs3)
    have hs4 := hB4.size
    have hk4 := RdS.below hk3 bB
    clear kA bA bB hk3 hb3 hk2 hs3 hB3
    generalize ((w3.alloc (.cells #[.string (spB xs t)] 9)).alloc (.cells #[.bool (soB xs t)] 4)) = w4 at *
    refine (renameW_c (otB (soB xs t)) (fun _ => spB xs t) _ _ _ v2 w4 hln hk4 (fun a W hW => tellW_c _ _ _ _ a W (kA2.keep hW) (kB.keep hW))).mono ?_
    rintro e w5 ⟨v5, rfl, ho5, hb5⟩
    rw [HOW.out] at ho5
    have hB5 := hB4.trans (hb5.mono hs4)
    have ho6 := own_more ho5 hs4
    clear ho5 hb5
    go_wp2
    go_ret2
    exact ⟨_, rfl, ho6, hB5⟩
  · have HN := Lib.hid (owS_no hv)
    have hown0 : ∀ W : World, W.ownsRow w.heap.size 72 3 (.slice none 0 0) ([] : List St).length (scells []) := fun W => ⟨rfl, .inl ⟨rfl, rfl⟩⟩
    rw [hv] at HK ⊢
    clear hv hx hT
    go_enter Tryd.func40, Tryd.ntmps40
    go_wp2_with fail
    refine HK.out.mono ?_
    rintro e w1 ⟨v1, rfl, ho1, hb1⟩
    clear ho1
    go_wp2
    go_ret2
    exact ⟨_, rfl, by rw [HN.out]; exact hown0 _, hb1⟩
end Go.Proofs.YtplapaojgcloaaaDoor
namespace Go.PE
open Go.PM Go.RowKit
theorem kw_all (xs : List Mv) (t : ByteArray) : owS xs t = (stL (ordF 19 (busyF (kwM xs t) 9))).map (rnX (spN xs t)) := by
  rw [← ordM_yes kwM_MV]; rfl
end Go.PE
namespace Go.Proofs.YtplapaojgcloaaaDoor
open Go.RowKit Go.PM Go.PE
attribute [local go_sem] Oper.semAt_some

theorem infoSt9 : (Tryd.prog.info? 72).map (fun i => (i.zero, i.size, i.bytes)) = some (some (.agg #[.int .i64 0, .string ⟨#[]⟩, .string ⟨#[]⟩]), 3, 40) := by kernel_rfl
/-- append of one step, and where it lies -/
theorem app_lies_st {ops : Array Oper} {rest : List Oper} {o : Oper} {a : Act} {Q : Exit → Act → World → Prop} {w : World} (hgd : o.guard = none) (s x : Operand)
    (ho : o.op = .call { callee := .builtin .append, args := #[s, x], argTypes := #[23, 23] })
    (base : Nat) (v : Value) (ys : List St) (m : St) (ad : Addr) (c : Nat) (hs : a.eval s = v) (hx : a.eval x = .slice (some ad) 1 c)
    (hown : w.ownsRow base 72 3 v ys.length (scells ys)) (hnew : ∀ j u, [Value.int .i64 m.1, Value.string m.2.1, Value.string m.2.2][j]? = some u → w.cell? (ad.add j) = some u)
    (hlen : ys.length ≤ 1048576) (hbase : base ≤ w.heap.size)
    (h : ∀ v' w', w'.ownsRow base 72 3 v' (ys ++ [m]).length (scells (ys ++ [m])) → w.grownBy w' v.ownBlock → (v'.ownBlock = v.ownBlock ∨ v'.ownBlock = some w.heap.size) → wpList Tryd.prog ops Q rest (a.put o.dst v') w') : wpList Tryd.prog ops Q (o :: rest) a w := by
  obtain ⟨i0, hi0, hz0, hz1, hz2⟩ := info_parts infoSt9
  refine wpList_append_lies w hgd s x _ ho base 72 i0 _ 3 40 Tryd.underlying23 hi0 hz0 hz1 hz2 rfl (by omega) v ys.length (scells ys) hs hown ad 1 c [Value.int .i64 m.1, Value.string m.2.1, Value.string m.2.2] hx rfl hnew
    (by intro u hu; simp at hu; rcases hu with rfl | rfl | rfl <;> rfl) (by omega) (by simp only [maxLen]; omega) (by omega) hbase _ rfl ?_
  intro g cap w' h2 h3 h4 _
  have hcs : scells ys ++ [Value.int .i64 m.1, Value.string m.2.1, Value.string m.2.2] = scells (ys ++ [m]) := by rw [scells_append]; simp [scells]
  refine h _ w' ?_ h3 ?_
  · rw [← hcs, List.length_append]; exact h2
  · rcases h4 with h4 | h4
    · exact .inl h4.symm
    · right; rw [h4]; rfl

theorem cells_new9 (W : World) (a : Array Value) (e : TypeId) : ∀ j u, a.toList[j]? = some u → (W.alloc (.cells a e)).cell? ((⟨W.heap.size, 0, none⟩ : Addr).add j) = some u := fun j u h => by
  rw [add_off, Nat.zero_add]
  exact (At.new W e a).cell j |>.trans (by rw [← Array.getElem?_toList]; exact h)
set_option maxRecDepth 100000 in
set_option maxHeartbeats 3200000 in
theorem spOrderWanted_c (xs : List Mv) (v : Value) (t : ByteArray) (ht : t.size ≤ 1048576) (w : World) (hx : RdM w v xs) (hz : ∀ m ∈ xs, m.1.size ≤ 9223372036854775807 ∧ m.2.size ≤ 9223372036854775807) (hn' : xs.length ≤ 1048576) :
    Calls Tryd.prog 39 #[v, .string t] w fun e w' => ∃ v', e = .returned (.tuple #[v', .bool (mvalid xs && wvB t)]) ∧ w'.ownsRow w.heap.size 72 3 v' (owS xs t).length (scells (owS xs t)) ∧ Below w.heap.size w w' := by
  have HK := Lib.hid (spKeepWanted_c xs v t ht w hx hz hn')
  have HO := Lib.hid (fun v' W hW => l5Order_c (kwM xs t) kwM_MV v' W hW)
  have HS := Lib.hid (fun W hb => spSpareFor_c xs v t ht W (hx.below hb) hz hn')
  rcases Bool.eq_false_or_eq_true (mvalid xs && wvB t) with hv | hv
  · have hl19 := ordF_len 19 (busyF (kwM xs t) 9)
    have HYL : Hid (∀ k (hk : k < (stL (ordF 19 (busyF (kwM xs t) 9))).length), (((stL (ordF 19 (busyF (kwM xs t) 9))).take k).map (tlX (otB (soB xs t)) (fun _ => spB xs t))) ++ [tlX (otB (soB xs t)) (fun _ => spB xs t) (stL (ordF 19 (busyF (kwM xs t) 9)))[k]] = ((stL (ordF 19 (busyF (kwM xs t) 9))).take (k + 1)).map (tlX (otB (soB xs t)) (fun _ => spB xs t))) := fun k hk => by rw [take_snoc _ k hk, List.map_append]; rfl
    have HTK : Hid ((stL (ordF 19 (busyF (kwM xs t) 9))).map (tlX (otB (soB xs t)) (fun _ => spB xs t)) = owS xs t) := by show _ = _; rw [ot_map, kw_all]
    have hll : (stL (ordF 19 (busyF (kwM xs t) 9))).length ≤ 19 := by rw [stL_len']; exact hl19
    have hlq : (ordF 19 (busyF (kwM xs t) 9)).length = (stL (ordF 19 (busyF (kwM xs t) 9))).length := (stL_len' _).symm
    rw [hlq] at HO
    rw [hv] at HK ⊢
    generalize stL (ordF 19 (busyF (kwM xs t) 9)) = ss at *
    generalize kwM xs t = kw at *
    generalize spB xs t = sp at *
    generalize soB xs t = so at *
    generalize owS xs t = ow at *
    clear hv hx hl19 hlq
    go_enter Tryd.func39, Tryd.ntmps39
    go_wp2_with fail
    refine HK.out.mono ?_
    rintro e w1 ⟨v1, rfl, ho1, hb1⟩
    have hs1 := hb1.size
    have hE := World.ownsRow_lit (e := 72) (base := w.heap.size) (size := 3) w1 #[] 0 hs1 (Nat.zero_le _) rfl
    have bA : Below w1.heap.size w1 (w1.alloc (.cells #[] 72)) := (Below.refl _ _).alloc (Nat.le_refl _) _
    have hB2 := hb1.trans (bA.mono hs1)
    have hk2 := (Rd.of_own (own_keep ho1 bA))
    clear ho1 hb1 bA
    go_wp2_with fail
    refine (HS.out _ hB2).mono ?_
    rintro e w3 ⟨rfl, hb3⟩
    have hs2 := hB2.size
    have hB3 := hB2.trans (hb3.mono hs2)
    have hs3 := hB3.size
    have hk3 := RdM.below hk2 hb3
    have hE3 := own_keep hE hb3
    clear hE hk2
    go_wp2_with (first | done | (go_at_call 84; refine (HO.out _ _ hk3).mono ?_; rintro e w4 ⟨z, rfl, hoz, hb4⟩; refine held ?_))
    unfold Held
    have hap : z.ownBlock ≠ (Value.slice (some ⟨w1.heap.size, 0, none⟩) 0 0).ownBlock ∨ (Value.slice (some ⟨w1.heap.size, 0, none⟩) 0 0).ownBlock = none := ne_turn (own_ne hE3 hoz (Nat.le_refl _))
    have hoz2 := own_more hoz hs3
    have hE4 := own_keep hE3 hb4
    have hB4 := hB3.trans (hb4.mono hs3)
    have hlv : lenV z = ss.length := by obtain ⟨A, c, e, _⟩ := Rd.of_own hoz; rw [e]; rfl
    clear hE3 hB3 hb4 hoz hk3 hb3 hs3 hs2 hB2
    have hzz : ∃ A c, z = .slice A ss.length c := by obtain ⟨A, c, e, _⟩ := Rd.of_own hoz2; exact ⟨A, c, e⟩
    obtain ⟨Az, cz, rfl⟩ := hzz
    go_wp2
    go_loopw [8, 12, 32] (fun o _ i wr => ∃ (k : Nat), k ≤ ss.length ∧ i = .int .i64 k ∧ wr.ownsRow w.heap.size 72 3 (.slice Az ss.length cz) ss.length (scells ss) ∧ wr.ownsRow w.heap.size 72 3 o ((ss.take k).map (tlX (otB so) (fun _ => sp))).length (scells ((ss.take k).map (tlX (otB so) (fun _ => sp)))) ∧ ((Value.slice Az ss.length cz).ownBlock ≠ o.ownBlock ∨ o.ownBlock = none) ∧ Below w.heap.size w wr) (fun _ _ i _ => ss.length - (RowKit.intOf i).toNat)
    case atStart => exact ⟨0, by omega, rfl, own_keep hoz2 (Below.refl _ _), hE4, hap, hB4⟩
    case round =>
      clear hoz2 hE4 hap hB4
      obtain ⟨k, hk, rfl, hoz, ho, hap, hb⟩ := hrel
      have hbs := hb.size
      by_cases hlt : k < ss.length
      · obtain ⟨A, cap, eA, hn, hc, hcell⟩ := RdS.open (Rd.of_own hoz)
        obtain ⟨b, off, rfl, hbl, hc1, hc2, hc3⟩ := hcell k hlt
        obtain ⟨rfl, -, rfl⟩ := (by simpa using eA : _ ∧ _)
        have hd1 := hc1
        have hd2 := hc2
        have hd3 := hc3
        clear hc1 hc2 hc3 hcell eA
        have HYK := Lib.hid (HYL.out k hlt)
        have hlk : ((ss.take k).map (tlX (otB so) (fun _ => sp))).length ≤ 1048576 := by rw [List.length_map, List.length_take]; omega
        unfold tlX tlB otB at HYK
        rw [← beq_t, ← beq_t] at HYK
        change Hid (_ ++ [_] = List.map (tlX (otB so) (fun _ => sp)) _) at HYK
        change Hid (List.map (tlX (otB so) (fun _ => sp)) (ss.take k) ++ [_] = _) at HYK
        generalize (ss.take k).map (tlX (otB so) (fun _ => sp)) = zs at *
        generalize ss[k].1 = x1 at *
        generalize ss[k].2.1 = x2 at *
        generalize ss[k].2.2 = x3 at *
        have i1 : (k : Int) < (ss.length : Int) := by omega
        have i0' : (0 : Int) ≤ (k : Int) := by omega
        cases so with
        | false =>
          have HYB : Hid (zs ++ [(x1, x2, x3)] = List.map (tlX (otB false) (fun _ => sp)) (ss.take (k + 1))) := HYK.out
          clear HYK HK HO HS HYL HTK
          have bA : Below wr.heap.size wr (wr.alloc (.cells #[.int .i64 x1, .string x2, .string x3] 72)) := (Below.refl _ _).alloc (Nat.le_refl _) _
          have ho0 := own_keep ho bA
          have hoz0 := own_keep hoz bA
          have hb0 := hb.trans (bA.mono hbs)
          have hs0 := hb0.size
          have hsz : (wr.alloc (.cells #[.int .i64 x1, .string x2, .string x3] 72)).heap.size = wr.heap.size + 1 := by simp
          have hnw := cells_new9 (wr.alloc (.cells #[.int .i64 x1, .string x2, .string x3] 72)) #[.int .i64 x1, .string x2, .string x3] 72
          rw [hsz] at hnw
          go_wp2_with (at_builtin; refine held ?_)
          unfold Held
          generalize (wr.alloc (.cells #[.int .i64 x1, .string x2, .string x3] 72)) = Wn at *
          have bn : Below Wn.heap.size Wn (Wn.alloc (.cells #[.int .i64 x1, .string x2, .string x3] 72)) := (Below.refl _ _).alloc (Nat.le_refl _) _
          refine app_lies_st rfl (.tmp 56) (.tmp 58) rfl w.heap.size u8 zs (x1, x2, x3) ⟨wr.heap.size + 1, 0, none⟩ 1 (by rfl) (by rfl) (own_keep ho0 bn) hnw hlk (by simp; omega) ?_
          intro v' wx hv' hg' hl'
          have zx := own_grown (own_keep hoz0 bn) hg' hap
          have hbx := (hb0.trans (bn.mono hs0)).trans (below_grown hg' (B := w.heap.size) (by simp; omega) (own_block_ge ho0))
          have hap' : (Value.slice (some ⟨b, off, none⟩) ss.length cz).ownBlock ≠ v'.ownBlock ∨ v'.ownBlock = none := by
            rcases hl' with hl' | hl'
            · rw [hl']; exact hap
            · left; rw [hl', World.size_alloc]
              intro e
              have := (own_blk hoz0 e).1
              omega
          rw [HYB.out] at hv'
          clear hg' hl' hnw bn hap ho0 hoz0 hb0
          go_wp2
          go_roundw
          case rel => exact ⟨k + 1, by omega, by go_num, zx, hv', hap', hbx⟩
          case measure => simp [RowKit.intOf]; omega
        | true =>
          generalize h2 : (x2.toList == [116]) = e2 at *
          generalize h3 : (x3.toList == [116]) = e3 at *
          cases e2 with
          | true =>
            cases e3 with
            | true =>
              have HYB : Hid (zs ++ [(x1, sp, sp)] = List.map (tlX (otB true) (fun _ => sp)) (ss.take (k + 1))) := HYK.out
              clear HYK HK HO HS HYL HTK
              have bA : Below wr.heap.size wr (wr.alloc (.cells #[.int .i64 x1, .string sp, .string sp] 72)) := (Below.refl _ _).alloc (Nat.le_refl _) _
              have ho0 := own_keep ho bA
              have hoz0 := own_keep hoz bA
              have hb0 := hb.trans (bA.mono hbs)
              have hs0 := hb0.size
              have hsz : (wr.alloc (.cells #[.int .i64 x1, .string sp, .string sp] 72)).heap.size = wr.heap.size + 1 := by simp
              have hnw := cells_new9 (wr.alloc (.cells #[.int .i64 x1, .string sp, .string sp] 72)) #[.int .i64 x1, .string sp, .string sp] 72
              rw [hsz] at hnw
              go_wp2_with (at_builtin; refine held ?_)
              unfold Held
              generalize (wr.alloc (.cells #[.int .i64 x1, .string sp, .string sp] 72)) = Wn at *
              have bn : Below Wn.heap.size Wn (Wn.alloc (.cells #[.int .i64 x1, .string sp, .string sp] 72)) := (Below.refl _ _).alloc (Nat.le_refl _) _
              refine app_lies_st rfl (.tmp 56) (.tmp 58) rfl w.heap.size u8 zs (x1, sp, sp) ⟨wr.heap.size + 1, 0, none⟩ 1 (by rfl) (by rfl) (own_keep ho0 bn) hnw hlk (by simp; omega) ?_
              intro v' wx hv' hg' hl'
              have zx := own_grown (own_keep hoz0 bn) hg' hap
              have hbx := (hb0.trans (bn.mono hs0)).trans (below_grown hg' (B := w.heap.size) (by simp; omega) (own_block_ge ho0))
              have hap' : (Value.slice (some ⟨b, off, none⟩) ss.length cz).ownBlock ≠ v'.ownBlock ∨ v'.ownBlock = none := by
                rcases hl' with hl' | hl'
                · rw [hl']; exact hap
                · left; rw [hl', World.size_alloc]
                  intro e
                  have := (own_blk hoz0 e).1
                  omega
              rw [HYB.out] at hv'
              clear hg' hl' hnw bn hap ho0 hoz0 hb0
              go_wp2
              go_roundw
              case rel => exact ⟨k + 1, by omega, by go_num, zx, hv', hap', hbx⟩
              case measure => simp [RowKit.intOf]; omega
            | false =>
              have HYB : Hid (zs ++ [(x1, sp, x3)] = List.map (tlX (otB true) (fun _ => sp)) (ss.take (k + 1))) := HYK.out
              clear HYK HK HO HS HYL HTK
              have bA : Below wr.heap.size wr (wr.alloc (.cells #[.int .i64 x1, .string sp, .string x3] 72)) := (Below.refl _ _).alloc (Nat.le_refl _) _
              have ho0 := own_keep ho bA
              have hoz0 := own_keep hoz bA
              have hb0 := hb.trans (bA.mono hbs)
              have hs0 := hb0.size
              have hsz : (wr.alloc (.cells #[.int .i64 x1, .string sp, .string x3] 72)).heap.size = wr.heap.size + 1 := by simp
              have hnw := cells_new9 (wr.alloc (.cells #[.int .i64 x1, .string sp, .string x3] 72)) #[.int .i64 x1, .string sp, .string x3] 72
              rw [hsz] at hnw
              go_wp2_with (at_builtin; refine held ?_)
              unfold Held
              generalize (wr.alloc (.cells #[.int .i64 x1, .string sp, .string x3] 72)) = Wn at *
              have bn : Below Wn.heap.size Wn (Wn.alloc (.cells #[.int .i64 x1, .string sp, .string x3] 72)) := (Below.refl _ _).alloc (Nat.le_refl _) _
              refine app_lies_st rfl (.tmp 56) (.tmp 58) rfl w.heap.size u8 zs (x1, sp, x3) ⟨wr.heap.size + 1, 0, none⟩ 1 (by rfl) (by rfl) (own_keep ho0 bn) hnw hlk (by simp; omega) ?_
              intro v' wx hv' hg' hl'
              have zx := own_grown (own_keep hoz0 bn) hg' hap
              have hbx := (hb0.trans (bn.mono hs0)).trans (below_grown hg' (B := w.heap.size) (by simp; omega) (own_block_ge ho0))
              have hap' : (Value.slice (some ⟨b, off, none⟩) ss.length cz).ownBlock ≠ v'.ownBlock ∨ v'.ownBlock = none := by
                rcases hl' with hl' | hl'
                · rw [hl']; exact hap
                · left; rw [hl', World.size_alloc]
                  intro e
                  have := (own_blk hoz0 e).1
                  omega
              rw [HYB.out] at hv'
              clear hg' hl' hnw bn hap ho0 hoz0 hb0
              go_wp2
              go_roundw
              case rel => exact ⟨k + 1, by omega, by go_num, zx, hv', hap', hbx⟩
              case measure => simp [RowKit.intOf]; omega
          | false =>
            cases e3 with
            | true =>
              have HYB : Hid (zs ++ [(x1, x2, sp)] = List.map (tlX (otB true) (fun _ => sp)) (ss.take (k + 1))) := HYK.out
              clear HYK HK HO HS HYL HTK
              have bA : Below wr.heap.size wr (wr.alloc (.cells #[.int .i64 x1, .string x2, .string sp] 72)) := (Below.refl _ _).alloc (Nat.le_refl _) _
              have ho0 := own_keep ho bA
              have hoz0 := own_keep hoz bA
              have hb0 := hb.trans (bA.mono hbs)
              have hs0 := hb0.size
              have hsz : (wr.alloc (.cells #[.int .i64 x1, .string x2, .string sp] 72)).heap.size = wr.heap.size + 1 := by simp
              have hnw := cells_new9 (wr.alloc (.cells #[.int .i64 x1, .string x2, .string sp] 72)) #[.int .i64 x1, .string x2, .string sp] 72
              rw [hsz] at hnw
              go_wp2_with (at_builtin; refine held ?_)
              unfold Held
              generalize (wr.alloc (.cells #[.int .i64 x1, .string x2, .string sp] 72)) = Wn at *
              have bn : Below Wn.heap.size Wn (Wn.alloc (.cells #[.int .i64 x1, .string x2, .string sp] 72)) := (Below.refl _ _).alloc (Nat.le_refl _) _
              refine app_lies_st rfl (.tmp 56) (.tmp 58) rfl w.heap.size u8 zs (x1, x2, sp) ⟨wr.heap.size + 1, 0, none⟩ 1 (by rfl) (by rfl) (own_keep ho0 bn) hnw hlk (by simp; omega) ?_
              intro v' wx hv' hg' hl'
              have zx := own_grown (own_keep hoz0 bn) hg' hap
              have hbx := (hb0.trans (bn.mono hs0)).trans (below_grown hg' (B := w.heap.size) (by simp; omega) (own_block_ge ho0))
              have hap' : (Value.slice (some ⟨b, off, none⟩) ss.length cz).ownBlock ≠ v'.ownBlock ∨ v'.ownBlock = none := by
                rcases hl' with hl' | hl'
                · rw [hl']; exact hap
                · left; rw [hl', World.size_alloc]
                  intro e
                  have := (own_blk hoz0 e).1
                  omega
              rw [HYB.out] at hv'
              clear hg' hl' hnw bn hap ho0 hoz0 hb0
              go_wp2
              go_roundw
              case rel => exact ⟨k + 1, by omega, by go_num, zx, hv', hap', hbx⟩
              case measure => simp [RowKit.intOf]; omega
            | false =>
              have HYB : Hid (zs ++ [(x1, x2, x3)] = List.map (tlX (otB true) (fun _ => sp)) (ss.take (k + 1))) := HYK.out
              clear HYK HK HO HS HYL HTK
              have bA : Below wr.heap.size wr (wr.alloc (.cells #[.int .i64 x1, .string x2, .string x3] 72)) := (Below.refl _ _).alloc (Nat.le_refl _) _
              have ho0 := own_keep ho bA
              have hoz0 := own_keep hoz bA
              have hb0 := hb.trans (bA.mono hbs)
              have hs0 := hb0.size
              have hsz : (wr.alloc (.cells #[.int .i64 x1, .string x2, .string x3] 72)).heap.size = wr.heap.size + 1 := by simp
              have hnw := cells_new9 (wr.alloc (.cells #[.int .i64 x1, .string x2, .string x3] 72)) #[.int .i64 x1, .string x2, .string x3] 72
              rw [hsz] at hnw
              go_wp2_with (at_builtin; refine held ?_)
              unfold Held
              generalize (wr.alloc (.cells #[.int .i64 x1, .string x2, .string x3] 72)) = Wn at *
              have bn : Below Wn.heap.size Wn (Wn.alloc (.cells #[.int .i64 x1, .string x2, .string x3] 72)) := (Below.refl _ _).alloc (Nat.le_refl _) _
              refine app_lies_st rfl (.tmp 56) (.tmp 58) rfl w.heap.size u8 zs (x1, x2, x3) ⟨wr.heap.size + 1, 0, none⟩ 1 (by rfl) (by rfl) (own_keep ho0 bn) hnw hlk (by simp; omega) ?_
              intro v' wx hv' hg' hl'
              have zx := own_grown (own_keep hoz0 bn) hg' hap
              have hbx := (hb0.trans (bn.mono hs0)).trans (below_grown hg' (B := w.heap.size) (by simp; omega) (own_block_ge ho0))
              have hap' : (Value.slice (some ⟨b, off, none⟩) ss.length cz).ownBlock ≠ v'.ownBlock ∨ v'.ownBlock = none := by
                rcases hl' with hl' | hl'
                · rw [hl']; exact hap
                · left; rw [hl', World.size_alloc]
                  intro e
                  have := (own_blk hoz0 e).1
                  omega
              rw [HYB.out] at hv'
              clear hg' hl' hnw bn hap ho0 hoz0 hb0
              go_wp2
              go_roundw
              case rel => exact ⟨k + 1, by omega, by go_num, zx, hv', hap', hbx⟩
              case measure => simp [RowKit.intOf]; omega
      · have hk' : k = ss.length := by omega
        rw [hk', List.take_length, HTK.out] at ho
        have HF := Lib.hid ho
        have i1 : ¬ (k : Int) < (ss.length : Int) := by omega
        clear ho hk' hoz hap HK HO HS HYL HTK
        go_wp2
        go_ret2
        exact ⟨_, rfl, HF.out, hb⟩
  · have HN := Lib.hid (owS_no hv)
    rw [hv] at HK ⊢
    clear hv hx
    go_enter Tryd.func39, Tryd.ntmps39
    go_wp2_with fail
    refine HK.out.mono ?_
    rintro e w1 ⟨v1, rfl, ho1, hb1⟩
    have hs1 := hb1.size
    have hE := World.ownsRow_lit (e := 72) (base := w.heap.size) (size := 3) w1 #[] 0 hs1 (Nat.zero_le _) rfl
    clear ho1
    go_wp2
    go_ret2
    exact ⟨_, rfl, by rw [HN.out]; exact hE, hb1.alloc hs1 _⟩
end Go.Proofs.YtplapaojgcloaaaDoor
namespace Go.PE
open Go.PM Go.RowKit
theorem rnB_size (s : Nat) {a : ByteArray} (h : a.size = 1) : (rnB s a).size = 1 := by
  unfold rnB; split
  · rfl
  · exact h
theorem ow_sh (xs : List Mv) (t : ByteArray) : shS 70 (owS xs t) := by
  have hv := ordM_valid (kwM_MV (ys := xs) (t := t))
  have hl := svalid_len hv
  refine ⟨?_, fun x hx => ?_⟩
  · rw [owS_len, ← stL_len']; omega
  · unfold owS at hx
    obtain ⟨y, hy, rfl⟩ := List.mem_map.1 hx
    obtain ⟨k, a, b⟩ := y
    have hok := Go.PD.sv_mem hv _ hy
    obtain ⟨s1, s2⟩ := st_sizes1 hok
    exact ⟨by show (rnB _ a).size ≤ 64; rw [rnB_size _ s1]; decide, by show (rnB _ b).size ≤ 64; rw [rnB_size _ s2]; decide⟩
end Go.PE
namespace Go.Proofs.YtplapaojgcloaaaDoor
open Go.RowKit Go.PM Go.PE

set_option maxRecDepth 100000 in
set_option maxHeartbeats 1600000 in
theorem l9Wanted_c (w : World) (B r : Nat) (p : Int) (hr : Rdr w 122 B r p) (p1 : p ≤ 1000000) :
    Calls Tryd.prog 48 #[.pointer (some ⟨r, 0, none⟩)] w fun e w' => ∃ s p', e = .returned (.string s) ∧ Hid (s.size ≤ 20) ∧ Rdr w' 122 B r p' ∧ p' ≤ p + 20 ∧ w.grownBy w' (some r) := by
  have hlt : r < w.heap.size := by obtain ⟨_, _, v, n, _, _, h⟩ := hr; exact h.lt
  have HP3 := Lib.hid (fun W q (R : Rdr W 122 B r q) (hq : q ≤ 1000100) => pick_c W B r 3 q R (by omega) (by omega) (by omega))
  have HP16 := Lib.hid (fun W q (R : Rdr W 122 B r q) (hq : q ≤ 1000100) => pick_c W B r 16 q R (by omega) (by omega) (by omega))
  have HN : Hid (∀ q, q < 9 → ((ByteArray.mk #[97, 98, 99, 100, 101, 102, 65, 66, 67]).extract q (q+1)).size = 1) := fun q hq => by rw [ByteArray.size_extract]; simp [ByteArray.size]; omega
  have g0 : w.grownBy w (some r) := grown_refl _ _
  go_enter Tryd.func48, Tryd.ntmps48
  go_wp2
  go_loopw [3, 4, 5] (fun o _ i wr => ∃ (k : Nat) (s : ByteArray) (q : Int), k ≤ 9 ∧ i = .int .i64 k ∧ o = .string s ∧ s.size ≤ k ∧ Rdr wr 122 B r q ∧ q ≤ p + k ∧ w.grownBy wr (some r)) (fun _ _ i _ => 9 - (RowKit.intOf i).toNat)
  case atStart => exact ⟨0, ⟨#[]⟩, p, by omega, rfl, rfl, Nat.le_refl _, hr, by omega, g0⟩
  case round =>
    clear hr g0
    obtain ⟨k, s, q, hk, rfl, rfl, hs, hr, hq, hg⟩ := hrel
    by_cases hlt2 : k < 9
    · have i0 : (0 : Int) ≤ (k : Int) := by omega
      have i1 : (k : Int) < 9 := by omega
      have hz := HN.out k hlt2
      have HPP := Lib.hid (HP3.out wr q hr (by omega))
      go_wp2_with fail
      refine HPP.out.mono ?_
      rintro e w2 ⟨j, rfl, k0, k1, R2, g2⟩
      have G2 := grown_trans hg g2
      by_cases h0 : j = 0
      · subst h0
        go_wp2
        go_roundw
        case rel => exact ⟨k + 1, _, q + 1, by omega, by go_num, rfl, by rw [ByteArray.size_append, hz]; omega, R2, by omega, G2⟩
        case measure => simp [RowKit.intOf]; omega
      · have t0 : (j == 0) = false := by simpa using h0
        go_wp2
        go_roundw
        case rel => exact ⟨k + 1, s, q + 1, by omega, by go_num, rfl, by omega, R2, by omega, G2⟩
        case measure => simp [RowKit.intOf]; omega
    · have hk9 : k = 9 := by omega
      subst hk9
      have HPP := Lib.hid (HP16.out wr q hr (by omega))
      go_wp2_with fail
      refine HPP.out.mono ?_
      rintro e w2 ⟨j, rfl, k0, k1, R2, g2⟩
      have G2 := grown_trans hg g2
      have hs2 := G2.size
      by_cases h0 : j = 0
      · subst h0
        go_wp2_with fail
        refine (of_c _ B r w2.heap.size 4 (q + 1) (fun s => s.size ≤ 4) (R2.keep ((Below.refl _ _).alloc (Nat.le_refl _) _)) (by decide) (by decide) (by omega) (Lits.strs _ _ _ 4 (by rfl)) (by omega)).mono ?_
        rintro e w3 ⟨s1, rfl, hz1, R3, g3⟩
        have G3 := grown_trans G2 (grown_trans (grown_below ((Below.refl _ _).alloc (Nat.le_refl _) _) (some r)) g3)
        go_wp2
        go_ret
        exact ⟨_, _, rfl, by show _ ≤ _; rw [ByteArray.size_append]; omega, R3, by omega, G3⟩
      · have t0 : (j == 0) = false := by simpa using h0
        by_cases h1 : j = 1
        · subst h1
          go_wp2
          go_ret
          exact ⟨_, _, rfl, by show _ ≤ _; decide, R2, by omega, G2⟩
        · have t1 : (j == 1) = false := by simpa using h1
          go_wp2
          go_ret
          exact ⟨_, _, rfl, by show _ ≤ _; omega, R2, by omega, G2⟩
set_option maxHeartbeats 800000 in
theorem l9Moves_c (w : World) (B r : Nat) (p : Int) (hr : Rdr w 122 B r p) (p1 : p ≤ 500000) :
    Calls Tryd.prog 106 #[.pointer (some ⟨r, 0, none⟩)] w fun e w' => ∃ v xs p', e = .returned v ∧ w'.ownsRow w.heap.size 70 2 v xs.length (mcells xs) ∧ Hid (xs.length ≤ 65 ∧ ∀ m ∈ xs, m.1.size ≤ 64 ∧ m.2.size ≤ 64) ∧ Rdr w' 122 B r p' ∧ p' ≤ p + 110 ∧ w.grownBy w' (some r) := by
  have HP := Lib.hid (pick_c w B r 3 p hr (by omega) (by omega) (by omega))
  go_enter Tryd.func106, Tryd.ntmps106
  go_wp2_with fail
  refine HP.out.mono ?_
  rintro e w1 ⟨k, rfl, k0, k1, R1, g1⟩
  have hs1 := g1.size
  by_cases h0 : k = 0
  · subst h0
    have HE := Lib.hid (l4Exchange_c w1 B r (p + 1) R1 (by omega))
    go_wp2_with fail
    refine HE.out.mono ?_
    rintro e w2 ⟨v, xs, p', rfl, ho, hsh, R2, hp, g2⟩
    have HSH := Lib.hid hsh
    clear hsh
    go_wp2
    go_ret
    exact ⟨_, xs, _, rfl, own_more ho hs1, HSH.out, R2, by omega, grown_trans g1 g2⟩
  · have t0 : (k == 0) = false := by simpa using h0
    have HE := Lib.hid (l1Some_c w1 B r (p + 1) R1 (by omega))
    go_wp2_with fail
    refine HE.out.mono ?_
    rintro e w2 ⟨v, xs, p', rfl, ho, hsh, R2, hp, g2⟩
    have HSH := Lib.hid hsh
    clear hsh
    go_wp2
    go_ret
    exact ⟨_, xs, _, rfl, own_more ho hs1, HSH.out, R2, by omega, grown_trans g1 g2⟩
set_option maxHeartbeats 800000 in
theorem l9Some_c (w : World) (B r : Nat) (p : Int) (hr : Rdr w 122 B r p) (p1 : p ≤ 500000) :
    Calls Tryd.prog 60 #[.pointer (some ⟨r, 0, none⟩)] w fun e w' => ∃ v s xs p', e = .returned (.tuple #[v, .string s]) ∧ w'.ownsRow w.heap.size 70 2 v xs.length (mcells xs) ∧ Hid (s.size ≤ 20 ∧ xs.length ≤ 65 ∧ ∀ m ∈ xs, m.1.size ≤ 64 ∧ m.2.size ≤ 64) ∧ Rdr w' 122 B r p' ∧ p' ≤ p + 200 ∧ w.grownBy w' (some r) := by
  have hlt : r < w.heap.size := by obtain ⟨_, _, v, n, _, _, h⟩ := hr; exact h.lt
  have HM := Lib.hid (l9Moves_c w B r p hr p1)
  go_enter Tryd.func60, Tryd.ntmps60
  go_wp2_with fail
  refine HM.out.mono ?_
  rintro e w1 ⟨v, xs, p2, rfl, ho, hsh, R1, hp, g1⟩
  have HW := Lib.hid (l9Wanted_c w1 B r p2 R1 (by omega))
  go_wp2_with fail
  refine HW.out.mono ?_
  rintro e w2 ⟨s, p3, rfl, hz, R2, hp3, g2⟩
  have ho2 := own_grown ho g2 (.inl (fun e => by have := own_block_ge ho r e; omega))
  go_wp2
  go_ret2
  exact ⟨_, s, xs, _, rfl, ho2, ⟨hz.out, hsh.out⟩, R2, by omega, grown_trans g1 g2⟩
set_option maxRecDepth 100000 in
set_option maxHeartbeats 1600000 in
theorem drawIsRightFor_c (w : World) (v : Value) (n : Nat) (hv : RdB w w.heap.size v n) :
    Calls Tryd.prog 21 #[v] w fun e w' => ∃ u y s xs ys, e = .returned (.tuple #[u, y, .string s]) ∧ w'.ownsRow w.heap.size 72 3 u xs.length (scells xs) ∧ w'.ownsRow w.heap.size 70 2 y ys.length (mcells ys) ∧ Hid (shS 70 xs ∧ s.size ≤ 20 ∧ ys.length ≤ 65 ∧ ∀ m ∈ ys, m.1.size ≤ 64 ∧ m.2.size ≤ 64) ∧ Below w.heap.size w w' := by
  have HO := Lib.hid (l13Open_c w v n hv)
  go_enter Tryd.func21, Tryd.ntmps21
  go_wp2_with fail
  refine HO.out.mono ?_
  rintro e w1 ⟨r, rfl, R1, b1⟩
  have hs1 := b1.size
  have hB := R1.1
  have HS := Lib.hid (l9Some_c w1 _ r 0 R1 (by omega))
  go_wp2_with fail
  refine HS.out.mono ?_
  rintro e w2 ⟨y, s, ys, p2, rfl, hoy, hsh, R2, hp, g2⟩
  have hlt : r < w1.heap.size := by obtain ⟨_, _, v, n, _, _, h⟩ := R1; exact h.lt
  have hs2 := g2.size
  have b2 : Below w.heap.size w w2 := b1.trans (below_grown g2 hs1 (fun g e => by cases e; exact hB))
  have HE := Lib.hid (spOrderWanted_c ys y s (by have := hsh.out.1; omega) w2 (Rd.of_own hoy) (fun m hm => by have := hsh.out.2.2 m hm; omega) (by have := hsh.out.2.1; omega))
  have HSW := Lib.hid (ow_sh ys s)
  clear HO HS
  generalize owS ys s = es at *
  generalize (mvalid ys && wvB s) = eo at *
  go_wp2_with fail
  refine HE.out.mono ?_
  rintro e w3 ⟨u, rfl, hou, b3⟩
  have hy3 := own_keep hoy b3
  have R3 := R2.keep b3
  have hs3 := b3.size
  have B3 : Below w.heap.size w w3 := b2.trans (b3.mono (by omega))
  clear HE hoy R2 b3 b2 g2
  have HL := Lib.hid (fun W q (R : Rdr W 122 w.heap.size r q) (hq : q ≤ 900000) => l2Some_c W w.heap.size r q R hq)
  cases eo
  case false =>
    go_wp2_with fail
    refine (HL.out _ _ R3 (by omega)).mono ?_
    rintro e w5 ⟨z, xs, p5, rfl, hoz, hsz, R5, hp5, g5⟩
    have HSZ := Lib.hid hsz
    have hy5 := own_more (own_grown hy3 g5 (.inl (fun e => by have := own_block_ge hy3 r e; omega))) hs1
    have hz5 := own_more hoz (show w.heap.size ≤ w3.heap.size by omega)
    have B5 : Below w.heap.size w w5 := B3.trans (below_grown g5 (by omega) (fun g e => by cases e; exact hB))
    clear hsz
    go_wp2
    refine bodyPost_ret (results_tmp3 Tryd.results21 _ _ _) rfl ?_
    exact ⟨_, _, s, xs, ys, rfl, hz5, hy5, ⟨HSZ.out, hsh.out⟩, B5⟩
  case true =>
    have HP := Lib.hid (pick_c w3 _ r 2 p2 R3 (by omega) (by omega) (by omega))
    go_wp2_with fail
    refine HP.out.mono ?_
    rintro e w4 ⟨k, rfl, k0, k1, R4, g4⟩
    have hu4 := own_grown hou g4 (.inl (fun e => by have := own_block_ge hou r e; omega))
    have hy4 := own_grown hy3 g4 (.inl (fun e => by have := own_block_ge hy3 r e; omega))
    have hs4 := g4.size
    have B4 : Below w.heap.size w w4 := B3.trans (below_grown g4 (by omega) (fun g e => by cases e; exact hB))
    clear HP g4 B3 R3 hy3 hou
    by_cases h0 : k = 0
    · subst h0
      have hu5 := own_more hu4 (show w.heap.size ≤ w2.heap.size by omega)
      have hy5 := own_more hy4 hs1
      clear hu4 hy4
      go_wp2
      refine bodyPost_ret (results_tmp3 Tryd.results21 _ _ _) rfl ?_
      exact ⟨_, _, s, es, ys, rfl, hu5, hy5, ⟨HSW.out, hsh.out⟩, B4⟩
    · have t0 : (k == 0) = false := by simpa using h0
      clear h0
      go_wp2_with fail
      refine (HL.out _ _ R4 (by omega)).mono ?_
      rintro e w5 ⟨z, xs, p5, rfl, hoz, hsz, R5, hp5, g5⟩
      have HSZ := Lib.hid hsz
      have hy5 := own_more (own_grown hy4 g5 (.inl (fun e => by have := own_block_ge hy4 r e; omega))) hs1
      have hz5 := own_more hoz (show w.heap.size ≤ w4.heap.size by omega)
      have B5 : Below w.heap.size w w5 := B4.trans (below_grown g5 (by omega) (fun g e => by cases e; exact hB))
      clear hsz
      go_wp2
      refine bodyPost_ret (results_tmp3 Tryd.results21 _ _ _) rfl ?_
      exact ⟨_, _, s, xs, ys, rfl, hz5, hy5, ⟨HSZ.out, hsh.out⟩, B5⟩
set_option maxRecDepth 100000 in
set_option maxHeartbeats 800000 in
theorem drawWantedValid_c (w : World) (v : Value) (n : Nat) (hv : RdB w w.heap.size v n) :
    Calls Tryd.prog 23 #[v] w fun e w' => ∃ s, e = .returned (.string s) ∧ Hid (s.size ≤ 20) ∧ Below w.heap.size w w' := by
  have HO := Lib.hid (l13Open_c w v n hv)
  go_enter Tryd.func23, Tryd.ntmps23
  go_wp2_with fail
  refine HO.out.mono ?_
  rintro e w1 ⟨r, rfl, R1, b1⟩
  have hs1 := b1.size
  have hB := R1.1
  have hlt : r < w1.heap.size := by obtain ⟨_, _, v, n, _, _, h⟩ := R1; exact h.lt
  have HP := Lib.hid (pick_c w1 _ r 3 0 R1 (by omega) (by omega) (by omega))
  go_wp2_with fail
  refine HP.out.mono ?_
  rintro e w2 ⟨k, rfl, k0, k1, R2, g2⟩
  have hs2 := g2.size
  have B2 : Below w.heap.size w w2 := b1.trans (below_grown g2 hs1 (fun g e => by cases e; exact hB))
  clear HO HP
  by_cases h0 : k = 0
  · subst h0
    go_wp2_with fail
    refine (of_c _ w.heap.size r w2.heap.size 7 (0 + 1) (fun s => s.size ≤ 9) (R2.keep ((Below.refl _ _).alloc (Nat.le_refl _) _)) (by decide) (by decide) (by omega) (Lits.strs _ _ _ 9 (by rfl)) (by omega)).mono ?_
    rintro e w3 ⟨s1, rfl, hz1, R3, g3⟩
    have B3 : Below w.heap.size w w3 := (B2.alloc B2.size _).trans (below_grown g3 (by have := B2.size; simp; omega) (fun g e => by cases e; exact hB))
    go_wp2
    go_ret
    exact ⟨_, rfl, by show _ ≤ _; omega, B3⟩
  · have t0 : (k == 0) = false := by simpa using h0
    have HW := Lib.hid (l9Wanted_c w2 _ r (0 + 1) R2 (by omega))
    go_wp2_with fail
    refine HW.out.mono ?_
    rintro e w3 ⟨s, p3, rfl, hz, R3, hp3, g3⟩
    have B3 : Below w.heap.size w w3 := B2.trans (below_grown g3 B2.size (fun g e => by cases e; exact hB))
    go_wp2
    go_ret
    exact ⟨_, rfl, hz, B3⟩
end Go.Proofs.YtplapaojgcloaaaDoor
namespace Go.PM
open Go.RowKit
theorem yieldsIf_row {P : Program} {ops : Array Oper} {S : World → Prop} {op : Oper} {a : Act} (hw : Region.wanted op (yielded ops a.tmps) = true) (ty : TypeId) (x : Operand) (ho : op.op = .load ty x)
    (b : Nat) (t : TypeId) (cs : Array Value) (hx : a.eval x = .pointer (some ⟨b, 0, none⟩)) (hS : ∀ w, S w → At w b t cs)
    (k : Nat) (e : TypeId) (hu : P.underlying ty = some (.array k e)) (hi : (P.info? ty).map (·.size) = some cs.size) : YieldsIf P ops S op (.agg cs) a :=
  .inl ⟨hw, fun w hw' => by
    unfold execOp
    simp only [ho, hx, Instr.loadAt, Instr.sureAddr, Sem.run_bind, Sem.run_pure, Result.andThen_ok, run_loadVar_row w b t ty cs (0, 0) _ (hS w hw') hu rfl hi]⟩
end Go.PM
namespace Go.PE
open Go.PM Go.PD Go.RowKit
theorem srcT_okC {xs : List Mv} (h : MV xs) : ∀ p, p < 9 → okC (srcT (tabOf xs) p) = true := fun p hp => by
  rw [srcT_M h hp]
  have := srcM_isS h (isP_nm hp)
  unfold isS at this
  unfold okC
  rw [Bool.or_eq_true] at this ⊢
  rcases this with h1 | h1
  · exact .inl (isP_isC h1).1
  · exact .inr h1
end Go.PE
namespace Go.Proofs.YtplapaojgcloaaaDoor
open Go.RowKit Go.PM Go.PE
attribute [local go_sem] Oper.semAt_some

theorem wpIn_noP9 {F : Fence} {n : Nat} {P : Program} {c : Code} {K : Act → World → Prop} {Q : Exit → Act → World → Prop} {a : Act} {w : World} (h : c.wpIn F n P (Exit.then K (fun _ _ _ => False)) a w) : c.wpIn F n P (Exit.then K Q) a w :=
  Code.wpIn_mono (fun e a w h => by cases e <;> first | exact h | exact h.elim) h
theorem results_irf (W : World) (b1 : Nat) (v : Value) (h1 : At W b1 4 #[v]) (tmps : Array Value) (e1 : tmps.getD 6 undef = .pointer (some ⟨b1, 0, none⟩)) :
    (results Tryd.f22 tmps).run Tryd.prog W = .ok v W := by
  have q1 := h1.cell 0
  simp at q1
  have e1' : tmps[6]?.getD undef = .pointer (some ⟨b1, 0, none⟩) := by simpa using e1
  simp [results, Tryd.results22, go_sem, e1', q1]
set_option maxRecDepth 100000 in
set_option maxHeartbeats 2000000 in
theorem imIsRightFor_c (xs : List St) (ys : List Mv) (v u : Value) (t : ByteArray) (ht : t.size ≤ 1048576) (w : World) (hx : RdS w v xs) (hy : RdM w u ys) (hT : Tz w) :
    Calls Tryd.prog 22 #[v, u, .string t] w fun e w' => e = .returned (.bool (irfB xs ys t)) ∧ Below w.heap.size w w' := by
  have HX := Lib.hid (fun W (hb : Below w.heap.size w W) => hx.below hb)
  have HTZ := Lib.hid (fun W (hb : Below w.heap.size w W) => hT.below hb)
  have hB0 : Below w.heap.size w (w.alloc (.cells #[.bool false] 4)) := (Below.refl _ _).alloc (Nat.le_refl _) _
  have a0 : At (w.alloc (.cells #[.bool false] 4)) w.heap.size 4 #[.bool false] := At.new _ _ _
  have HTW := Lib.hid (tableAndWanted_c ys u t ht _ (hy.below hB0) (hT.below hB0))
  have HSV := Lib.hid (fun W hW => imSequenceValid_c xs v W hW)
  have HIF : Hid (irfB xs ys t = (svalid xs && ((mvalid ys && wvB t) && (elN (wnN t.data.toList)).all fun p => decide (runS xs xs.length nmT p = aoS (tabOf ys) nmT p)))) := by
    show _ = _; unfold irfB; rw [← Bool.and_assoc (mvalid ys)]
  have hs0 : w.heap.size ≤ (w.alloc (.cells #[.bool false] 4)).heap.size := hB0.size
  rcases Bool.eq_false_or_eq_true (mvalid ys && wvB t) with hv | hv
  · rw [hv] at HTW HIF
    have hMV : MV ys := by rw [Bool.and_eq_true] at hv; simpa [mvalid] using hv.1
    rcases Bool.eq_false_or_eq_true (svalid xs) with h1 | h1
    · rw [h1, Bool.true_and, Bool.true_and] at HIF
      rw [h1] at HSV
      have hlt := wnN_lt t.data.toList
      have HIO := Lib.hid (fun W hW => inOrder_c xs (fun k hk => svalid_at h1 k hk) v nmS W hW)
      have HAO := Lib.hid (fun W => atOnce_c (tabOf ys) nmS (srcT_okC hMV) W)
      have HP9 := Lib.hid (fun ps p h => pre_el9 hlt (ps := ps) (p := p) h)
      rw [tbF_yes hMV] at HTW
      change Hid (irfB xs ys t = (elN (wnN t.data.toList)).all fun p => decide (runS xs xs.length nmS p = aoS (tabOf ys) nmS p)) at HIF
      clear hv hMV h1 hx hy hT
      generalize runS xs xs.length nmS = g1 at *
      generalize aoS (tabOf ys) nmS = g2 at *
      generalize tabOf ys = f at *
      generalize wnN t.data.toList = n at *
      refine (callsIn_wide (n := 5)).1 ?_
      refine callsIn_of_wp_marks Tryd.func22 rfl trivial ?_ rfl
      simp only [Tryd.ntmps22, List.size_toArray, List.length_cons, List.length_nil, Nat.reduceAdd, Nat.reduceSub, Array.replicate_succ, Array.replicate_zero, List.push_toArray, List.append_toArray, List.nil_append, List.cons_append]
      gi_wp2_with fail
      refine ⟨trivial, callsIn_wide.2 (HTW.out.mono ?_)⟩
      rintro e w1 ⟨rfl, hb1⟩
      have a1 := a0.keep hb1
      have B1 := hB0.trans (hb1.mono hs0)
      have hs1 := B1.size
      clear a0 hb1 hB0 HTW
      obtain ⟨w2, hw2⟩ : ∃ w2 : World, w2 = w1.alloc (.cells (tabA f) 86) := ⟨_, rfl⟩
      have k2 : At w2 w1.heap.size 86 (tabC f) := by rw [hw2]; exact At.new w1 _ _
      have a2 : At w2 w.heap.size 4 #[.bool false] := by rw [hw2]; exact a1.alloc _
      have B2 : Below w.heap.size w w2 := by rw [hw2]; exact B1.alloc hs1 _
      have hs2 := B2.size
      clear a1
      gi_wp2_with fail
      rw [← hw2]
      refine ⟨trivial, callsIn_wide.2 ((HSV.out _ (HX.out _ B2)).mono ?_)⟩
      rintro e w3 ⟨rfl, hb3⟩
      have k3 := k2.keep hb3
      have a3 := a2.keep hb3
      have B3 := B2.trans (hb3.mono hs2)
      have hs3 := B3.size
      have hlt2 := k2.lt
      clear k2 a2 B2 hb3 hw2 HSV
      gi_wp2_with fail
      refine ⟨trivial, callsIn_wide.2 ((stateOfNames_c _).mono ?_)⟩
      rintro e w4 ⟨rfl, hb4⟩
      have k4 := k3.keep hb4
      have a4 := a3.keep hb4
      have B4 := B3.trans (hb4.mono hs3)
      have hs4 := B4.size
      have z4 : At (w4.alloc (.cells zSA 78)) w4.heap.size 78 zSA := At.new _ _ _
      have k4a := k4.alloc (.cells zSA 78)
      have a4a := a4.alloc (.cells zSA 78)
      have B4a := B4.alloc hs4 (.cells zSA 78)
      have hl4 := k4.lt
      have hl5 := a4.lt
      clear k3 a3 B3 hb4 k4 a4 B4
      gi_wp2_with (refine stIn_row rfl 78 (.tmp 10) (.tmp 28) rfl rfl w4.heap.size 78 zSA (stC nmS) z4 (by rfl) (by rfl) (by kernel_rfl) rfl (stC_one _) ?_; intro W5 n5 g5; refine held ?_)
      unfold Held
      have k5 := k4a.grown g5 (by simp; omega)
      have a5 := a4a.grown g5 (by simp; omega)
      have B5 := B4a.trans (below_grown g5 B4a.size (fun g hg => by cases hg; exact hs4))
      have hl6 := n5.lt
      have hl7 := k5.lt
      have hl8 := a5.lt
      have hs5 := B5.size
      clear z4 k4a a4a B4a g5
      gi_wp2
      rename_i K2 hK2
      obtain ⟨S, hSd⟩ : ∃ S : World → Prop, S = fun W => At W w4.heap.size 78 (stC nmS) ∧ At W w1.heap.size 86 (tabC f) ∧ At W w.heap.size 4 #[.bool false] ∧ Below w.heap.size w W ∧ W5.heap.size ≤ W.heap.size := ⟨_, rfl⟩
      have HSN : ∀ W, S W → At W w4.heap.size 78 (stC nmS) := fun W h => by rw [hSd] at h; exact h.1
      have HST : ∀ W, S W → At W w1.heap.size 86 (tabC f) := fun W h => by rw [hSd] at h; exact h.2.1
      have HSA : ∀ W, S W → At W w.heap.size 4 #[.bool false] := fun W h => by rw [hSd] at h; exact h.2.2.1
      have HSB : ∀ W, S W → Below w.heap.size w W := fun W h => by rw [hSd] at h; exact h.2.2.2.1
      have HSL : ∀ W, S W → W5.heap.size ≤ W.heap.size := fun W h => by rw [hSd] at h; exact h.2.2.2.2
      have HSX : ∀ W W', S W → Below W.heap.size W W' → S W' := fun W W' h hb => by
        rw [hSd] at h ⊢
        exact ⟨h.1.keep hb, h.2.1.keep hb, h.2.2.1.keep hb, h.2.2.2.1.trans (hb.mono h.2.2.2.1.size), Nat.le_trans h.2.2.2.2 hb.size⟩
      have HSG : ∀ W W' b, S W → W.grownBy W' (some b) → W5.heap.size ≤ b → S W' := fun W W' b h hg hb => by
        rw [hSd] at h ⊢
        exact ⟨h.1.grown hg (fun e => by cases e; omega), h.2.1.grown hg (fun e => by cases e; omega), h.2.2.1.grown hg (fun e => by cases e; omega), h.2.2.2.1.trans (below_grown hg h.2.2.2.1.size (fun g e => by cases e; omega)), Nat.le_trans h.2.2.2.2 hg.size⟩
      have hs5' : S W5 := by rw [hSd]; exact ⟨n5, k5, a5, B5, Nat.le_refl _⟩
      clear hSd n5 k5 a5 B5
      have FIN : ∀ (b1 b2 : Nat) (W : World), S W → At W b1 78 (stC g1) → At W b2 78 (stC g2) → K2 { tmps := #[v, u, .string t, undef, undef, undef, .pointer (some ⟨w.heap.size, 0, none⟩), .pointer (some ⟨w1.heap.size, 0, none⟩), .int .u64 n, .bool true, .pointer (some ⟨w4.heap.size, 0, none⟩), .pointer (some ⟨b1, 0, none⟩), .pointer (some ⟨b2, 0, none⟩), undef, .tuple #[tabX f, .int .u64 n, .bool true], u, .string t, .tuple #[tabX f, .int .u64 n, .bool true], tabX f, .int .u64 n, .bool true, .bool true, .bool false, .bool false, v, .bool true, .bool false, .bool false, stV nmS, stV nmS, v, stV g1, stV nmS, tabV f, stV g2, undef, undef, undef, undef, undef, undef, undef, undef, undef, undef], defers := [] } W := by
        intro b1 b2 W hs p1 p2
        have hzW := (HSA _ hs).lt
        refine hK2 _ _ ?_
        gi_wp2
        refine range_law3s (F := Fence.wide) (Pr := fun W => Tz W) (gf := 65) (lf := #[.int .u64 (n : Int)]) (lb := #[]) rfl (by decide) rfl trivial (fun args w => rfl) (encs := fun p : Nat => #[.int .i64 p]) (xs := elN n) (κ := 0)
          (cells_iter n (by omega) 4 (by decide)) (fun _ => rfl)
          (fun pre W => At W w.heap.size 4 #[.bool false] ∧ At W b1 78 (stC g1) ∧ At W (b2) 78 (stC g2) ∧ Hid (∀ p ∈ pre, g1 p = g2 p) ∧ Below w.heap.size w W)
          (fun c pre W => c = .ret ∧ (∃ p ∈ pre, g1 p ≠ g2 p) ∧ At W w.heap.size 4 #[.bool false] ∧ Below w.heap.size w W) ?pr ?own ?ownx ?start ?a1 ?assign ?body ?done ?stop
        case pr => exact fun pre A h => HTZ.out A h.2.2.2.2
        case own =>
          rintro s A A' row ⟨k1, k2, k3, k4, k5⟩ hg hr
          exact ⟨k1.turn hg (fun r e => (hr r e).2), k2.turn hg (fun r e => (hr r e).2), k3.turn hg (fun r e => (hr r e).2), k4, k5.trans (below_grown hg k5.size (fun g e => by have := (hr g e).1; omega))⟩
        case ownx =>
          rintro c s A A' row ⟨k1, k2, k3, k5⟩ hg hr
          exact ⟨k1, k2, k3.turn hg (fun r e => (hr r e).2), k5.trans (below_grown hg k5.size (fun g e => by have := (hr g e).1; omega))⟩
        case start => exact ⟨HSA _ hs, p1, p2, (fun p hp => by cases hp), HSB _ hs⟩
        case assign =>
          intro l p W Kc hK
          gi_wp2
          exact hK
        case body =>
          clear p1 p2 hs
          rintro l pre p A ⟨k1, k2, k3, k4, k5⟩ hp hsz
          have hp9 := HP9.out _ _ hp
          have i0 : (0 : Int) ≤ (p : Int) := by omega
          have i1 : (p : Int) < 11 := by omega
          have c1 : A.drew.cell? ⟨b1, p, none⟩ = some (.int .u8 (g1 p).toNat) := (k2.cell p).trans (stC_at g1 p (by omega))
          have c2 : A.drew.cell? ⟨b2, p, none⟩ = some (.int .u8 (g2 p).toNat) := (k3.cell p).trans (stC_at g2 p (by omega))
          have hk5 := k5.size
          by_cases he : g1 p = g2 p
          · have HI : Hid (∀ q ∈ pre ++ [p], g1 q = g2 q) := fun q hq => by
              rcases List.mem_append.1 hq with h | h
              · exact k4.out q h
              · rw [List.mem_singleton.1 h]; exact he
            have t1 : ((((g1 p).toNat : Nat) : Int) == ((g2 p).toNat : Nat)) = true := by rw [he]; simp
            clear he hp
            generalize ((g1 p).toNat : Int) = v1 at *
            generalize ((g2 p).toNat : Int) = v2 at *
            gi_wp2
            refine region_quiet_inRound (F := Fence.wide) (C := fun w' => w' = A.drew) rfl (by kernel_rfl) (by kernel_rfl) (by kernel_rfl) rfl ?_
            simp only
            gi_big_quiet_step (fail)
            gi_big_quiet_step (fail)
            gi_big_quiet_step (fail)
            gi_big_quiet_step (fail)
            gi_big_quiet_step (fail)
            gi_big_quiet_step (fail)
            gi_big_quiet_step (fail)
            refine wpQuietIn_nil ?_
            intro w' hw'
            subst hw'
            gi_wp2
            exact ⟨(KeepsNew.drew A).from, KeepsIn.zero (Nat.le_refl _), k1, k2, k3, HI, k5.drew⟩
          · have HX2 : Hid (∃ q ∈ pre ++ [p], g1 q ≠ g2 q) := ⟨p, List.mem_append_right _ (List.mem_singleton_self p), he⟩
            have t1 : ((((g1 p).toNat : Nat) : Int) == ((g2 p).toNat : Nat)) = false := by
              have : (g1 p).toNat ≠ (g2 p).toNat := fun e => he (UInt8.toNat.inj e)
              simp; omega
            have c0 : A.drew.cell? ⟨w.heap.size, 0, none⟩ = some (.bool false) := k1.cell 0
            have f0 : A.drew.frozen? ⟨w.heap.size, 0, none⟩ = false := k1.frozen 0
            have l0 := k1.lt
            have m1 : At (A.drew.setCell ⟨w.heap.size, 0, none⟩ (.bool false)) w.heap.size 4 #[.bool false] := At.set (w := A.drew) k1 0 _
            clear he hp
            generalize ((g1 p).toNat : Int) = v1 at *
            generalize ((g2 p).toNat : Int) = v2 at *
            gi_wp2
            refine region_quiet_inRound (F := Fence.wide) (C := fun w' => w' = A.drew) rfl (by kernel_rfl) (by kernel_rfl) (by kernel_rfl) rfl ?_
            simp only
            gi_big_quiet_step (fail)
            gi_big_quiet_step (fail)
            gi_big_quiet_step (fail)
            gi_big_quiet_step (fail)
            gi_big_quiet_step (fail)
            gi_big_quiet_step (fail)
            gi_big_quiet_step (fail)
            refine wpQuietIn_nil ?_
            intro w' hw'
            subst hw'
            gi_wp2
            exact ⟨(KeepsNew.drew A).from.trans ((KeepsOthers.setCell _ _ _).from _), rfl, HX2.out, m1, k5.drew.setCell (Nat.le_refl _) _⟩
        case done =>
          intro D W hD hI hd
          obtain ⟨k1, k2, k3, k4, k5⟩ := hI
          have HA : Hid (irfB xs ys t = true) := by
            show _ = _; rw [HIF.out, List.all_eq_true]; intro p hp; exact decide_eq_true (k4.out p hp)
          have c0 := k1.cell 0
          have f0 := k1.frozen 0
          have l0 := k1.lt
          have m1 := k1.set 0 (.bool true)
          have d6 : (W.setCell ⟨w.heap.size, 0, none⟩ (.bool true)).heap[D]? = some (.deferred (some [])) := (heap_setCell_other _ _ _ _ (by simp; omega)).trans hd
          have bel := k5.setCell (p := ⟨w.heap.size, 0, none⟩) (Nat.le_refl _) (.bool true)
          clear k1 k2 k3
          gi_wp2
          refine ⟨by simp, .inl ⟨D, _, rfl, run_takeDeferred d6, ?_⟩⟩
          exact ⟨_, results_irf _ w.heap.size (.bool true) ((World.putObj_heap_other (by omega)).trans m1) _ rfl, by rw [HA.out], bel.trans ⟨rfl, rfl, rfl, by simp [World.putObj], fun k hk => World.putObj_heap_other (by omega)⟩⟩
        case stop =>
          rintro D c pre W hD hp ⟨rfl, ⟨q, hq1, hq2⟩, k1, k5⟩ hd
          have HA : Hid (irfB xs ys t = false) := by
            show _ = _; rw [HIF.out, List.all_eq_false]; exact ⟨q, hp.subset hq1, by simpa using hq2⟩
          gi_wp2
          refine ⟨by simp, .inl ⟨D, _, rfl, run_takeDeferred hd, ?_⟩⟩
          exact ⟨_, results_irf _ w.heap.size (.bool false) ((World.putObj_heap_other (by have := k1.lt; omega)).trans k1) _ rfl, by rw [HA.out], k5.trans ⟨rfl, rfl, rfl, by simp [World.putObj], fun k hk => World.putObj_heap_other (by have := k5.size; omega)⟩⟩

      clear hK2
      refine wpIn_noP9 ?_
      refine wpIn_wide.2 ?_
      have sD : S W5.drew := HSX _ _ hs5' ((Below.refl _ _).drew)
      refine wp_region_held_drew (S := S) (by kernel_rfl) sD (fun hHeld => ?_)
      refine wpAnyH_take (i := 0) (oi := _) (v := .agg (stC nmS)) rfl (by kernel_rfl) (by kernel_rfl) (by kernel_rfl) (fun _ _ _ h => h) (yieldsIf_row rfl 78 (.tmp 10) rfl w4.heap.size 78 (stC nmS) (by rfl) (fun _ h => HSN _ h) 11 5 Tryd.underlying78 (by kernel_rfl)) hHeld ?_
      simp only [Act.put, List.getElem_toArray, List.getElem_cons_zero, List.setIfInBounds_toArray, List.set_cons_succ, List.set_cons_zero]
      refine wpAnyH_take (i := 1) (oi := _) (v := ?_) rfl (by kernel_rfl) (by kernel_rfl) (by kernel_rfl) (fun _ _ _ h => h) (Or.inl ⟨by rfl, by intro w0 _; go_simp; rfl⟩) hHeld ?_
      simp only [Act.put, List.getElem_toArray, List.getElem_cons_zero, List.getElem_cons_succ, List.setIfInBounds_toArray, List.set_cons_succ, List.set_cons_zero]
      refine wpAnyH_take (i := 3) (oi := _) (v := .agg (stC nmS)) rfl (by kernel_rfl) (by kernel_rfl) (by kernel_rfl) (fun _ _ _ h => h) (yieldsIf_row rfl 78 (.tmp 10) rfl w4.heap.size 78 (stC nmS) (by rfl) (fun _ h => HSN _ h) 11 5 Tryd.underlying78 (by kernel_rfl)) hHeld ?_
      simp only [Act.put, List.getElem_toArray, List.getElem_cons_zero, List.getElem_cons_succ, List.setIfInBounds_toArray, List.set_cons_succ, List.set_cons_zero]
      refine wpAnyH_take (i := 4) (oi := _) (v := .agg (tabC f)) rfl (by kernel_rfl) (by kernel_rfl) (by kernel_rfl) (fun _ _ _ h => h) (yieldsIf_row rfl 86 (.tmp 7) rfl w1.heap.size 86 (tabC f) (by rfl) (fun _ h => HST _ h) 9 9 Tryd.underlying86 (by kernel_rfl)) hHeld ?_
      simp only [Act.put, List.getElem_toArray, List.getElem_cons_zero, List.getElem_cons_succ, List.setIfInBounds_toArray, List.set_cons_succ, List.set_cons_zero]
      obtain ⟨WD, hWD⟩ : ∃ WD : World, WD = W5.drew := ⟨_, rfl⟩
      rw [← hWD] at sD ⊢
      clear hHeld hWD
--@ORDERS
      refine wpAnyH_ready (rs := [2, 6, 7]) (by kernel_rfl) (by simp) ?_
      refine AllReadyH.cons rfl (fun K hK => ?_) (AllReadyH.cons rfl (fun K hK => ?_) (AllReadyH.cons rfl (fun K hK => ?_) (AllReadyH.nil)))
      · go_simp
        go_at_call 58
        refine (HIO.out _ (HX.out _ (HSB _ sD))).mono ?_
        rintro e V1 ⟨rfl, hbV1⟩
        have sV1 := HSX _ _ sD hbV1
        refine hK.out _ _ sV1 (fun hHeldV1 => ?_)
        clear hK K
        try simp only [Act.put, List.getElem_toArray, List.getElem_cons_zero, List.getElem_cons_succ, List.setIfInBounds_toArray, List.set_cons_succ, List.set_cons_zero]
        refine wpAnyH_ready (rs := [5, 6, 7]) (by kernel_rfl) (by simp) ?_
        refine AllReadyH.cons rfl (fun K hK => ?_) (AllReadyH.cons rfl (fun K hK => ?_) (AllReadyH.cons rfl (fun K hK => ?_) (AllReadyH.nil)))
        · go_simp
          go_at_call 64
          refine (HAO.out _).mono ?_
          rintro e V2 ⟨rfl, hbV2⟩
          have sV2 := HSX _ _ sV1 hbV2
          refine hK.out _ _ sV2 (fun hHeldV2 => ?_)
          clear hK K
          try simp only [Act.put, List.getElem_toArray, List.getElem_cons_zero, List.getElem_cons_succ, List.setIfInBounds_toArray, List.set_cons_succ, List.set_cons_zero]
          refine wpAnyH_ready (rs := [6, 7]) (by kernel_rfl) (by simp) ?_
          refine AllReadyH.cons rfl (fun K hK => ?_) (AllReadyH.cons rfl (fun K hK => ?_) (AllReadyH.nil))
          · go_simp
            have hbV3 : Below V2.heap.size V2 (V2.alloc (.cells zSA 78)) := (Below.refl _ _).alloc (Nat.le_refl _) _
            have sV3 := HSX _ _ sV2 hbV3
            have qV3 : At (V2.alloc (.cells zSA 78)) V2.heap.size 78 zSA := At.new _ _ _
            have lV3 := HSL _ sV2
            obtain ⟨V3, hvV3⟩ : ∃ V : World, V = V2.alloc (.cells zSA 78) := ⟨_, rfl⟩
            rw [← hvV3] at sV3 qV3 hbV3
            have e6V3 := qV3.lt
            have hzV3 := hbV3.size
            rw [← hvV3]
            clear hvV3
            refine hK.out _ _ sV3 (fun hHeldV3 => ?_)
            clear hK K
            try simp only [Act.put, List.getElem_toArray, List.getElem_cons_zero, List.getElem_cons_succ, List.setIfInBounds_toArray, List.set_cons_succ, List.set_cons_zero]
            refine wpAnyH_ready (rs := [7]) (by kernel_rfl) (by simp) ?_
            refine AllReadyH.cons rfl (fun K hK => ?_) (AllReadyH.nil)
            · go_simp
              have hbV4 : Below V3.heap.size V3 (V3.alloc (.cells zSA 78)) := (Below.refl _ _).alloc (Nat.le_refl _) _
              have sV4 := HSX _ _ sV3 hbV4
              have qV4 : At (V3.alloc (.cells zSA 78)) V3.heap.size 78 zSA := At.new _ _ _
              have lV4 := HSL _ sV3
              have p6V4 := qV3.keep hbV4
              obtain ⟨V4, hvV4⟩ : ∃ V : World, V = V3.alloc (.cells zSA 78) := ⟨_, rfl⟩
              rw [← hvV4] at sV4 qV4 hbV4 p6V4
              have e6V4 := p6V4.lt
              have e7V4 := qV4.lt
              have hzV4 := hbV4.size
              rw [← hvV4]
              clear hvV4
              refine hK.out _ _ sV4 (fun hHeldV4 => ?_)
              clear hK K
              try simp only [Act.put, List.getElem_toArray, List.getElem_cons_zero, List.getElem_cons_succ, List.setIfInBounds_toArray, List.set_cons_succ, List.set_cons_zero]
              have hne : V2.heap.size ≠ V3.heap.size := by omega
              refine wpAnyH_ready (rs := [8]) (by kernel_rfl) (by simp) ?_
              refine AllReadyH.cons rfl (fun K hK => ?_) AllReadyH.nil
              rw [if_pos (by rfl)]
              refine wp_store_row 78 (.tmp 11) (.tmp 31) rfl V2.heap.size (stC g1) (by rfl) (by rfl) 78 zSA p6V4 (by kernel_rfl) rfl (stC_one _) ?_
              have gA := grown_setRow V4 V2.heap.size (stC g1)
              have pA := At.setRow p6V4 (stC g1)
              have qA := qV4.grown gA (fun e => hne (Option.some.inj e).symm)
              have sA := HSG _ _ _ sV4 gA lV3
              refine hK.out _ _ sA (fun hHeldA => ?_)
              clear hK K
              try simp only [Act.put, List.getElem_toArray, List.getElem_cons_zero, List.getElem_cons_succ]
              generalize World.setRow V4 V2.heap.size (stC g1) = WA at *
              refine wpAnyH_ready (rs := [9]) (by kernel_rfl) (by simp) ?_
              refine AllReadyH.cons rfl (fun K hK => ?_) AllReadyH.nil
              rw [if_pos (by rfl)]
              refine wp_store_row 78 (.tmp 12) (.tmp 34) rfl V3.heap.size (stC g2) (by rfl) (by rfl) 78 zSA qA (by kernel_rfl) rfl (stC_one _) ?_
              have gB := grown_setRow WA V3.heap.size (stC g2)
              have qB := At.setRow qA (stC g2)
              have pB := pA.grown gB (fun e => hne (Option.some.inj e))
              have sB := HSG _ _ _ sA gB lV4
              refine hK.out _ _ sB (fun hHeldB => ?_)
              clear hK K
              try simp only [Act.put, List.getElem_toArray, List.getElem_cons_zero, List.getElem_cons_succ]
              generalize World.setRow WA V3.heap.size (stC g2) = WB at *
              refine wpAnyH_done (by kernel_rfl) ?_ _
              exact FIN _ _ _ sB pB qB
          · go_simp
            have hbV5 : Below V2.heap.size V2 (V2.alloc (.cells zSA 78)) := (Below.refl _ _).alloc (Nat.le_refl _) _
            have sV5 := HSX _ _ sV2 hbV5
            have qV5 : At (V2.alloc (.cells zSA 78)) V2.heap.size 78 zSA := At.new _ _ _
            have lV5 := HSL _ sV2
            obtain ⟨V5, hvV5⟩ : ∃ V : World, V = V2.alloc (.cells zSA 78) := ⟨_, rfl⟩
            rw [← hvV5] at sV5 qV5 hbV5
            have e7V5 := qV5.lt
            have hzV5 := hbV5.size
            rw [← hvV5]
            clear hvV5
            refine hK.out _ _ sV5 (fun hHeldV5 => ?_)
            clear hK K
            try simp only [Act.put, List.getElem_toArray, List.getElem_cons_zero, List.getElem_cons_succ, List.setIfInBounds_toArray, List.set_cons_succ, List.set_cons_zero]
            refine wpAnyH_ready (rs := [6]) (by kernel_rfl) (by simp) ?_
            refine AllReadyH.cons rfl (fun K hK => ?_) (AllReadyH.nil)
            · go_simp
              have hbV6 : Below V5.heap.size V5 (V5.alloc (.cells zSA 78)) := (Below.refl _ _).alloc (Nat.le_refl _) _
              have sV6 := HSX _ _ sV5 hbV6
              have qV6 : At (V5.alloc (.cells zSA 78)) V5.heap.size 78 zSA := At.new _ _ _
              have lV6 := HSL _ sV5
              have p7V6 := qV5.keep hbV6
              obtain ⟨V6, hvV6⟩ : ∃ V : World, V = V5.alloc (.cells zSA 78) := ⟨_, rfl⟩
              rw [← hvV6] at sV6 qV6 hbV6 p7V6
              have e7V6 := p7V6.lt
              have e6V6 := qV6.lt
              have hzV6 := hbV6.size
              rw [← hvV6]
              clear hvV6
              refine hK.out _ _ sV6 (fun hHeldV6 => ?_)
              clear hK K
              try simp only [Act.put, List.getElem_toArray, List.getElem_cons_zero, List.getElem_cons_succ, List.setIfInBounds_toArray, List.set_cons_succ, List.set_cons_zero]
              have hne : V5.heap.size ≠ V2.heap.size := by omega
              refine wpAnyH_ready (rs := [8]) (by kernel_rfl) (by simp) ?_
              refine AllReadyH.cons rfl (fun K hK => ?_) AllReadyH.nil
              rw [if_pos (by rfl)]
              refine wp_store_row 78 (.tmp 11) (.tmp 31) rfl V5.heap.size (stC g1) (by rfl) (by rfl) 78 zSA qV6 (by kernel_rfl) rfl (stC_one _) ?_
              have gA := grown_setRow V6 V5.heap.size (stC g1)
              have pA := At.setRow qV6 (stC g1)
              have qA := p7V6.grown gA (fun e => hne (Option.some.inj e).symm)
              have sA := HSG _ _ _ sV6 gA lV6
              refine hK.out _ _ sA (fun hHeldA => ?_)
              clear hK K
              try simp only [Act.put, List.getElem_toArray, List.getElem_cons_zero, List.getElem_cons_succ]
              generalize World.setRow V6 V5.heap.size (stC g1) = WA at *
              refine wpAnyH_ready (rs := [9]) (by kernel_rfl) (by simp) ?_
              refine AllReadyH.cons rfl (fun K hK => ?_) AllReadyH.nil
              rw [if_pos (by rfl)]
              refine wp_store_row 78 (.tmp 12) (.tmp 34) rfl V2.heap.size (stC g2) (by rfl) (by rfl) 78 zSA qA (by kernel_rfl) rfl (stC_one _) ?_
              have gB := grown_setRow WA V2.heap.size (stC g2)
              have qB := At.setRow qA (stC g2)
              have pB := pA.grown gB (fun e => hne (Option.some.inj e))
              have sB := HSG _ _ _ sA gB lV5
              refine hK.out _ _ sB (fun hHeldB => ?_)
              clear hK K
              try simp only [Act.put, List.getElem_toArray, List.getElem_cons_zero, List.getElem_cons_succ]
              generalize World.setRow WA V2.heap.size (stC g2) = WB at *
              refine wpAnyH_done (by kernel_rfl) ?_ _
              exact FIN _ _ _ sB pB qB
        · go_simp
          have hbV7 : Below V1.heap.size V1 (V1.alloc (.cells zSA 78)) := (Below.refl _ _).alloc (Nat.le_refl _) _
          have sV7 := HSX _ _ sV1 hbV7
          have qV7 : At (V1.alloc (.cells zSA 78)) V1.heap.size 78 zSA := At.new _ _ _
          have lV7 := HSL _ sV1
          obtain ⟨V7, hvV7⟩ : ∃ V : World, V = V1.alloc (.cells zSA 78) := ⟨_, rfl⟩
          rw [← hvV7] at sV7 qV7 hbV7
          have e6V7 := qV7.lt
          have hzV7 := hbV7.size
          rw [← hvV7]
          clear hvV7
          refine hK.out _ _ sV7 (fun hHeldV7 => ?_)
          clear hK K
          try simp only [Act.put, List.getElem_toArray, List.getElem_cons_zero, List.getElem_cons_succ, List.setIfInBounds_toArray, List.set_cons_succ, List.set_cons_zero]
          refine wpAnyH_ready (rs := [5, 7]) (by kernel_rfl) (by simp) ?_
          refine AllReadyH.cons rfl (fun K hK => ?_) (AllReadyH.cons rfl (fun K hK => ?_) (AllReadyH.nil))
          · go_simp
            go_at_call 64
            refine (HAO.out _).mono ?_
            rintro e V8 ⟨rfl, hbV8⟩
            have sV8 := HSX _ _ sV7 hbV8
            have p6V8 := qV7.keep hbV8
            have e6V8 := p6V8.lt
            refine hK.out _ _ sV8 (fun hHeldV8 => ?_)
            clear hK K
            try simp only [Act.put, List.getElem_toArray, List.getElem_cons_zero, List.getElem_cons_succ, List.setIfInBounds_toArray, List.set_cons_succ, List.set_cons_zero]
            refine wpAnyH_ready (rs := [7]) (by kernel_rfl) (by simp) ?_
            refine AllReadyH.cons rfl (fun K hK => ?_) (AllReadyH.nil)
            · go_simp
              have hbV9 : Below V8.heap.size V8 (V8.alloc (.cells zSA 78)) := (Below.refl _ _).alloc (Nat.le_refl _) _
              have sV9 := HSX _ _ sV8 hbV9
              have qV9 : At (V8.alloc (.cells zSA 78)) V8.heap.size 78 zSA := At.new _ _ _
              have lV9 := HSL _ sV8
              have p6V9 := p6V8.keep hbV9
              obtain ⟨V9, hvV9⟩ : ∃ V : World, V = V8.alloc (.cells zSA 78) := ⟨_, rfl⟩
              rw [← hvV9] at sV9 qV9 hbV9 p6V9
              have e6V9 := p6V9.lt
              have e7V9 := qV9.lt
              have hzV9 := hbV9.size
              rw [← hvV9]
              clear hvV9
              refine hK.out _ _ sV9 (fun hHeldV9 => ?_)
              clear hK K
              try simp only [Act.put, List.getElem_toArray, List.getElem_cons_zero, List.getElem_cons_succ, List.setIfInBounds_toArray, List.set_cons_succ, List.set_cons_zero]
              have hne : V1.heap.size ≠ V8.heap.size := by omega
              refine wpAnyH_ready (rs := [8]) (by kernel_rfl) (by simp) ?_
              refine AllReadyH.cons rfl (fun K hK => ?_) AllReadyH.nil
              rw [if_pos (by rfl)]
              refine wp_store_row 78 (.tmp 11) (.tmp 31) rfl V1.heap.size (stC g1) (by rfl) (by rfl) 78 zSA p6V9 (by kernel_rfl) rfl (stC_one _) ?_
              have gA := grown_setRow V9 V1.heap.size (stC g1)
              have pA := At.setRow p6V9 (stC g1)
              have qA := qV9.grown gA (fun e => hne (Option.some.inj e).symm)
              have sA := HSG _ _ _ sV9 gA lV7
              refine hK.out _ _ sA (fun hHeldA => ?_)
              clear hK K
              try simp only [Act.put, List.getElem_toArray, List.getElem_cons_zero, List.getElem_cons_succ]
              generalize World.setRow V9 V1.heap.size (stC g1) = WA at *
              refine wpAnyH_ready (rs := [9]) (by kernel_rfl) (by simp) ?_
              refine AllReadyH.cons rfl (fun K hK => ?_) AllReadyH.nil
              rw [if_pos (by rfl)]
              refine wp_store_row 78 (.tmp 12) (.tmp 34) rfl V8.heap.size (stC g2) (by rfl) (by rfl) 78 zSA qA (by kernel_rfl) rfl (stC_one _) ?_
              have gB := grown_setRow WA V8.heap.size (stC g2)
              have qB := At.setRow qA (stC g2)
              have pB := pA.grown gB (fun e => hne (Option.some.inj e))
              have sB := HSG _ _ _ sA gB lV9
              refine hK.out _ _ sB (fun hHeldB => ?_)
              clear hK K
              try simp only [Act.put, List.getElem_toArray, List.getElem_cons_zero, List.getElem_cons_succ]
              generalize World.setRow WA V8.heap.size (stC g2) = WB at *
              refine wpAnyH_done (by kernel_rfl) ?_ _
              exact FIN _ _ _ sB pB qB
          · go_simp
            have hbV10 : Below V7.heap.size V7 (V7.alloc (.cells zSA 78)) := (Below.refl _ _).alloc (Nat.le_refl _) _
            have sV10 := HSX _ _ sV7 hbV10
            have qV10 : At (V7.alloc (.cells zSA 78)) V7.heap.size 78 zSA := At.new _ _ _
            have lV10 := HSL _ sV7
            have p6V10 := qV7.keep hbV10
            obtain ⟨V10, hvV10⟩ : ∃ V : World, V = V7.alloc (.cells zSA 78) := ⟨_, rfl⟩
            rw [← hvV10] at sV10 qV10 hbV10 p6V10
            have e6V10 := p6V10.lt
            have e7V10 := qV10.lt
            have hzV10 := hbV10.size
            rw [← hvV10]
            clear hvV10
            refine hK.out _ _ sV10 (fun hHeldV10 => ?_)
            clear hK K
            try simp only [Act.put, List.getElem_toArray, List.getElem_cons_zero, List.getElem_cons_succ, List.setIfInBounds_toArray, List.set_cons_succ, List.set_cons_zero]
            refine wpAnyH_ready (rs := [5]) (by kernel_rfl) (by simp) ?_
            refine AllReadyH.cons rfl (fun K hK => ?_) (AllReadyH.nil)
            · go_simp
              go_at_call 64
              refine (HAO.out _).mono ?_
              rintro e V11 ⟨rfl, hbV11⟩
              have sV11 := HSX _ _ sV10 hbV11
              have p6V11 := p6V10.keep hbV11
              have e6V11 := p6V11.lt
              have p7V11 := qV10.keep hbV11
              have e7V11 := p7V11.lt
              refine hK.out _ _ sV11 (fun hHeldV11 => ?_)
              clear hK K
              try simp only [Act.put, List.getElem_toArray, List.getElem_cons_zero, List.getElem_cons_succ, List.setIfInBounds_toArray, List.set_cons_succ, List.set_cons_zero]
              have hne : V1.heap.size ≠ V7.heap.size := by omega
              refine wpAnyH_ready (rs := [8]) (by kernel_rfl) (by simp) ?_
              refine AllReadyH.cons rfl (fun K hK => ?_) AllReadyH.nil
              rw [if_pos (by rfl)]
              refine wp_store_row 78 (.tmp 11) (.tmp 31) rfl V1.heap.size (stC g1) (by rfl) (by rfl) 78 zSA p6V11 (by kernel_rfl) rfl (stC_one _) ?_
              have gA := grown_setRow V11 V1.heap.size (stC g1)
              have pA := At.setRow p6V11 (stC g1)
              have qA := p7V11.grown gA (fun e => hne (Option.some.inj e).symm)
              have sA := HSG _ _ _ sV11 gA lV7
              refine hK.out _ _ sA (fun hHeldA => ?_)
              clear hK K
              try simp only [Act.put, List.getElem_toArray, List.getElem_cons_zero, List.getElem_cons_succ]
              generalize World.setRow V11 V1.heap.size (stC g1) = WA at *
              refine wpAnyH_ready (rs := [9]) (by kernel_rfl) (by simp) ?_
              refine AllReadyH.cons rfl (fun K hK => ?_) AllReadyH.nil
              rw [if_pos (by rfl)]
              refine wp_store_row 78 (.tmp 12) (.tmp 34) rfl V7.heap.size (stC g2) (by rfl) (by rfl) 78 zSA qA (by kernel_rfl) rfl (stC_one _) ?_
              have gB := grown_setRow WA V7.heap.size (stC g2)
              have qB := At.setRow qA (stC g2)
              have pB := pA.grown gB (fun e => hne (Option.some.inj e))
              have sB := HSG _ _ _ sA gB lV10
              refine hK.out _ _ sB (fun hHeldB => ?_)
              clear hK K
              try simp only [Act.put, List.getElem_toArray, List.getElem_cons_zero, List.getElem_cons_succ]
              generalize World.setRow WA V7.heap.size (stC g2) = WB at *
              refine wpAnyH_done (by kernel_rfl) ?_ _
              exact FIN _ _ _ sB pB qB
        · go_simp
          have hbV12 : Below V1.heap.size V1 (V1.alloc (.cells zSA 78)) := (Below.refl _ _).alloc (Nat.le_refl _) _
          have sV12 := HSX _ _ sV1 hbV12
          have qV12 : At (V1.alloc (.cells zSA 78)) V1.heap.size 78 zSA := At.new _ _ _
          have lV12 := HSL _ sV1
          obtain ⟨V12, hvV12⟩ : ∃ V : World, V = V1.alloc (.cells zSA 78) := ⟨_, rfl⟩
          rw [← hvV12] at sV12 qV12 hbV12
          have e7V12 := qV12.lt
          have hzV12 := hbV12.size
          rw [← hvV12]
          clear hvV12
          refine hK.out _ _ sV12 (fun hHeldV12 => ?_)
          clear hK K
          try simp only [Act.put, List.getElem_toArray, List.getElem_cons_zero, List.getElem_cons_succ, List.setIfInBounds_toArray, List.set_cons_succ, List.set_cons_zero]
          refine wpAnyH_ready (rs := [5, 6]) (by kernel_rfl) (by simp) ?_
          refine AllReadyH.cons rfl (fun K hK => ?_) (AllReadyH.cons rfl (fun K hK => ?_) (AllReadyH.nil))
          · go_simp
            go_at_call 64
            refine (HAO.out _).mono ?_
            rintro e V13 ⟨rfl, hbV13⟩
            have sV13 := HSX _ _ sV12 hbV13
            have p7V13 := qV12.keep hbV13
            have e7V13 := p7V13.lt
            refine hK.out _ _ sV13 (fun hHeldV13 => ?_)
            clear hK K
            try simp only [Act.put, List.getElem_toArray, List.getElem_cons_zero, List.getElem_cons_succ, List.setIfInBounds_toArray, List.set_cons_succ, List.set_cons_zero]
            refine wpAnyH_ready (rs := [6]) (by kernel_rfl) (by simp) ?_
            refine AllReadyH.cons rfl (fun K hK => ?_) (AllReadyH.nil)
            · go_simp
              have hbV14 : Below V13.heap.size V13 (V13.alloc (.cells zSA 78)) := (Below.refl _ _).alloc (Nat.le_refl _) _
              have sV14 := HSX _ _ sV13 hbV14
              have qV14 : At (V13.alloc (.cells zSA 78)) V13.heap.size 78 zSA := At.new _ _ _
              have lV14 := HSL _ sV13
              have p7V14 := p7V13.keep hbV14
              obtain ⟨V14, hvV14⟩ : ∃ V : World, V = V13.alloc (.cells zSA 78) := ⟨_, rfl⟩
              rw [← hvV14] at sV14 qV14 hbV14 p7V14
              have e7V14 := p7V14.lt
              have e6V14 := qV14.lt
              have hzV14 := hbV14.size
              rw [← hvV14]
              clear hvV14
              refine hK.out _ _ sV14 (fun hHeldV14 => ?_)
              clear hK K
              try simp only [Act.put, List.getElem_toArray, List.getElem_cons_zero, List.getElem_cons_succ, List.setIfInBounds_toArray, List.set_cons_succ, List.set_cons_zero]
              have hne : V13.heap.size ≠ V1.heap.size := by omega
              refine wpAnyH_ready (rs := [8]) (by kernel_rfl) (by simp) ?_
              refine AllReadyH.cons rfl (fun K hK => ?_) AllReadyH.nil
              rw [if_pos (by rfl)]
              refine wp_store_row 78 (.tmp 11) (.tmp 31) rfl V13.heap.size (stC g1) (by rfl) (by rfl) 78 zSA qV14 (by kernel_rfl) rfl (stC_one _) ?_
              have gA := grown_setRow V14 V13.heap.size (stC g1)
              have pA := At.setRow qV14 (stC g1)
              have qA := p7V14.grown gA (fun e => hne (Option.some.inj e).symm)
              have sA := HSG _ _ _ sV14 gA lV14
              refine hK.out _ _ sA (fun hHeldA => ?_)
              clear hK K
              try simp only [Act.put, List.getElem_toArray, List.getElem_cons_zero, List.getElem_cons_succ]
              generalize World.setRow V14 V13.heap.size (stC g1) = WA at *
              refine wpAnyH_ready (rs := [9]) (by kernel_rfl) (by simp) ?_
              refine AllReadyH.cons rfl (fun K hK => ?_) AllReadyH.nil
              rw [if_pos (by rfl)]
              refine wp_store_row 78 (.tmp 12) (.tmp 34) rfl V1.heap.size (stC g2) (by rfl) (by rfl) 78 zSA qA (by kernel_rfl) rfl (stC_one _) ?_
              have gB := grown_setRow WA V1.heap.size (stC g2)
              have qB := At.setRow qA (stC g2)
              have pB := pA.grown gB (fun e => hne (Option.some.inj e))
              have sB := HSG _ _ _ sA gB lV12
              refine hK.out _ _ sB (fun hHeldB => ?_)
              clear hK K
              try simp only [Act.put, List.getElem_toArray, List.getElem_cons_zero, List.getElem_cons_succ]
              generalize World.setRow WA V1.heap.size (stC g2) = WB at *
              refine wpAnyH_done (by kernel_rfl) ?_ _
              exact FIN _ _ _ sB pB qB
          · go_simp
            have hbV15 : Below V12.heap.size V12 (V12.alloc (.cells zSA 78)) := (Below.refl _ _).alloc (Nat.le_refl _) _
            have sV15 := HSX _ _ sV12 hbV15
            have qV15 : At (V12.alloc (.cells zSA 78)) V12.heap.size 78 zSA := At.new _ _ _
            have lV15 := HSL _ sV12
            have p7V15 := qV12.keep hbV15
            obtain ⟨V15, hvV15⟩ : ∃ V : World, V = V12.alloc (.cells zSA 78) := ⟨_, rfl⟩
            rw [← hvV15] at sV15 qV15 hbV15 p7V15
            have e7V15 := p7V15.lt
            have e6V15 := qV15.lt
            have hzV15 := hbV15.size
            rw [← hvV15]
            clear hvV15
            refine hK.out _ _ sV15 (fun hHeldV15 => ?_)
            clear hK K
            try simp only [Act.put, List.getElem_toArray, List.getElem_cons_zero, List.getElem_cons_succ, List.setIfInBounds_toArray, List.set_cons_succ, List.set_cons_zero]
            refine wpAnyH_ready (rs := [5]) (by kernel_rfl) (by simp) ?_
            refine AllReadyH.cons rfl (fun K hK => ?_) (AllReadyH.nil)
            · go_simp
              go_at_call 64
              refine (HAO.out _).mono ?_
              rintro e V16 ⟨rfl, hbV16⟩
              have sV16 := HSX _ _ sV15 hbV16
              have p7V16 := p7V15.keep hbV16
              have e7V16 := p7V16.lt
              have p6V16 := qV15.keep hbV16
              have e6V16 := p6V16.lt
              refine hK.out _ _ sV16 (fun hHeldV16 => ?_)
              clear hK K
              try simp only [Act.put, List.getElem_toArray, List.getElem_cons_zero, List.getElem_cons_succ, List.setIfInBounds_toArray, List.set_cons_succ, List.set_cons_zero]
              have hne : V12.heap.size ≠ V1.heap.size := by omega
              refine wpAnyH_ready (rs := [8]) (by kernel_rfl) (by simp) ?_
              refine AllReadyH.cons rfl (fun K hK => ?_) AllReadyH.nil
              rw [if_pos (by rfl)]
              refine wp_store_row 78 (.tmp 11) (.tmp 31) rfl V12.heap.size (stC g1) (by rfl) (by rfl) 78 zSA p6V16 (by kernel_rfl) rfl (stC_one _) ?_
              have gA := grown_setRow V16 V12.heap.size (stC g1)
              have pA := At.setRow p6V16 (stC g1)
              have qA := p7V16.grown gA (fun e => hne (Option.some.inj e).symm)
              have sA := HSG _ _ _ sV16 gA lV15
              refine hK.out _ _ sA (fun hHeldA => ?_)
              clear hK K
              try simp only [Act.put, List.getElem_toArray, List.getElem_cons_zero, List.getElem_cons_succ]
              generalize World.setRow V16 V12.heap.size (stC g1) = WA at *
              refine wpAnyH_ready (rs := [9]) (by kernel_rfl) (by simp) ?_
              refine AllReadyH.cons rfl (fun K hK => ?_) AllReadyH.nil
              rw [if_pos (by rfl)]
              refine wp_store_row 78 (.tmp 12) (.tmp 34) rfl V1.heap.size (stC g2) (by rfl) (by rfl) 78 zSA qA (by kernel_rfl) rfl (stC_one _) ?_
              have gB := grown_setRow WA V1.heap.size (stC g2)
              have qB := At.setRow qA (stC g2)
              have pB := pA.grown gB (fun e => hne (Option.some.inj e))
              have sB := HSG _ _ _ sA gB lV12
              refine hK.out _ _ sB (fun hHeldB => ?_)
              clear hK K
              try simp only [Act.put, List.getElem_toArray, List.getElem_cons_zero, List.getElem_cons_succ]
              generalize World.setRow WA V1.heap.size (stC g2) = WB at *
              refine wpAnyH_done (by kernel_rfl) ?_ _
              exact FIN _ _ _ sB pB qB
      · go_simp
        have hbV17 : Below WD.heap.size WD (WD.alloc (.cells zSA 78)) := (Below.refl _ _).alloc (Nat.le_refl _) _
        have sV17 := HSX _ _ sD hbV17
        have qV17 : At (WD.alloc (.cells zSA 78)) WD.heap.size 78 zSA := At.new _ _ _
        have lV17 := HSL _ sD
        obtain ⟨V17, hvV17⟩ : ∃ V : World, V = WD.alloc (.cells zSA 78) := ⟨_, rfl⟩
        rw [← hvV17] at sV17 qV17 hbV17
        have e6V17 := qV17.lt
        have hzV17 := hbV17.size
        rw [← hvV17]
        clear hvV17
        refine hK.out _ _ sV17 (fun hHeldV17 => ?_)
        clear hK K
        try simp only [Act.put, List.getElem_toArray, List.getElem_cons_zero, List.getElem_cons_succ, List.setIfInBounds_toArray, List.set_cons_succ, List.set_cons_zero]
        refine wpAnyH_ready (rs := [2, 7]) (by kernel_rfl) (by simp) ?_
        refine AllReadyH.cons rfl (fun K hK => ?_) (AllReadyH.cons rfl (fun K hK => ?_) (AllReadyH.nil))
        · go_simp
          go_at_call 58
          refine (HIO.out _ (HX.out _ (HSB _ sV17))).mono ?_
          rintro e V18 ⟨rfl, hbV18⟩
          have sV18 := HSX _ _ sV17 hbV18
          have p6V18 := qV17.keep hbV18
          have e6V18 := p6V18.lt
          refine hK.out _ _ sV18 (fun hHeldV18 => ?_)
          clear hK K
          try simp only [Act.put, List.getElem_toArray, List.getElem_cons_zero, List.getElem_cons_succ, List.setIfInBounds_toArray, List.set_cons_succ, List.set_cons_zero]
          refine wpAnyH_ready (rs := [5, 7]) (by kernel_rfl) (by simp) ?_
          refine AllReadyH.cons rfl (fun K hK => ?_) (AllReadyH.cons rfl (fun K hK => ?_) (AllReadyH.nil))
          · go_simp
            go_at_call 64
            refine (HAO.out _).mono ?_
            rintro e V19 ⟨rfl, hbV19⟩
            have sV19 := HSX _ _ sV18 hbV19
            have p6V19 := p6V18.keep hbV19
            have e6V19 := p6V19.lt
            refine hK.out _ _ sV19 (fun hHeldV19 => ?_)
            clear hK K
            try simp only [Act.put, List.getElem_toArray, List.getElem_cons_zero, List.getElem_cons_succ, List.setIfInBounds_toArray, List.set_cons_succ, List.set_cons_zero]
            refine wpAnyH_ready (rs := [7]) (by kernel_rfl) (by simp) ?_
            refine AllReadyH.cons rfl (fun K hK => ?_) (AllReadyH.nil)
            · go_simp
              have hbV20 : Below V19.heap.size V19 (V19.alloc (.cells zSA 78)) := (Below.refl _ _).alloc (Nat.le_refl _) _
              have sV20 := HSX _ _ sV19 hbV20
              have qV20 : At (V19.alloc (.cells zSA 78)) V19.heap.size 78 zSA := At.new _ _ _
              have lV20 := HSL _ sV19
              have p6V20 := p6V19.keep hbV20
              obtain ⟨V20, hvV20⟩ : ∃ V : World, V = V19.alloc (.cells zSA 78) := ⟨_, rfl⟩
              rw [← hvV20] at sV20 qV20 hbV20 p6V20
              have e6V20 := p6V20.lt
              have e7V20 := qV20.lt
              have hzV20 := hbV20.size
              rw [← hvV20]
              clear hvV20
              refine hK.out _ _ sV20 (fun hHeldV20 => ?_)
              clear hK K
              try simp only [Act.put, List.getElem_toArray, List.getElem_cons_zero, List.getElem_cons_succ, List.setIfInBounds_toArray, List.set_cons_succ, List.set_cons_zero]
              have hne : WD.heap.size ≠ V19.heap.size := by omega
              refine wpAnyH_ready (rs := [8]) (by kernel_rfl) (by simp) ?_
              refine AllReadyH.cons rfl (fun K hK => ?_) AllReadyH.nil
              rw [if_pos (by rfl)]
              refine wp_store_row 78 (.tmp 11) (.tmp 31) rfl WD.heap.size (stC g1) (by rfl) (by rfl) 78 zSA p6V20 (by kernel_rfl) rfl (stC_one _) ?_
              have gA := grown_setRow V20 WD.heap.size (stC g1)
              have pA := At.setRow p6V20 (stC g1)
              have qA := qV20.grown gA (fun e => hne (Option.some.inj e).symm)
              have sA := HSG _ _ _ sV20 gA lV17
              refine hK.out _ _ sA (fun hHeldA => ?_)
              clear hK K
              try simp only [Act.put, List.getElem_toArray, List.getElem_cons_zero, List.getElem_cons_succ]
              generalize World.setRow V20 WD.heap.size (stC g1) = WA at *
              refine wpAnyH_ready (rs := [9]) (by kernel_rfl) (by simp) ?_
              refine AllReadyH.cons rfl (fun K hK => ?_) AllReadyH.nil
              rw [if_pos (by rfl)]
              refine wp_store_row 78 (.tmp 12) (.tmp 34) rfl V19.heap.size (stC g2) (by rfl) (by rfl) 78 zSA qA (by kernel_rfl) rfl (stC_one _) ?_
              have gB := grown_setRow WA V19.heap.size (stC g2)
              have qB := At.setRow qA (stC g2)
              have pB := pA.grown gB (fun e => hne (Option.some.inj e))
              have sB := HSG _ _ _ sA gB lV20
              refine hK.out _ _ sB (fun hHeldB => ?_)
              clear hK K
              try simp only [Act.put, List.getElem_toArray, List.getElem_cons_zero, List.getElem_cons_succ]
              generalize World.setRow WA V19.heap.size (stC g2) = WB at *
              refine wpAnyH_done (by kernel_rfl) ?_ _
              exact FIN _ _ _ sB pB qB
          · go_simp
            have hbV21 : Below V18.heap.size V18 (V18.alloc (.cells zSA 78)) := (Below.refl _ _).alloc (Nat.le_refl _) _
            have sV21 := HSX _ _ sV18 hbV21
            have qV21 : At (V18.alloc (.cells zSA 78)) V18.heap.size 78 zSA := At.new _ _ _
            have lV21 := HSL _ sV18
            have p6V21 := p6V18.keep hbV21
            obtain ⟨V21, hvV21⟩ : ∃ V : World, V = V18.alloc (.cells zSA 78) := ⟨_, rfl⟩
            rw [← hvV21] at sV21 qV21 hbV21 p6V21
            have e6V21 := p6V21.lt
            have e7V21 := qV21.lt
            have hzV21 := hbV21.size
            rw [← hvV21]
            clear hvV21
            refine hK.out _ _ sV21 (fun hHeldV21 => ?_)
            clear hK K
            try simp only [Act.put, List.getElem_toArray, List.getElem_cons_zero, List.getElem_cons_succ, List.setIfInBounds_toArray, List.set_cons_succ, List.set_cons_zero]
            refine wpAnyH_ready (rs := [5]) (by kernel_rfl) (by simp) ?_
            refine AllReadyH.cons rfl (fun K hK => ?_) (AllReadyH.nil)
            · go_simp
              go_at_call 64
              refine (HAO.out _).mono ?_
              rintro e V22 ⟨rfl, hbV22⟩
              have sV22 := HSX _ _ sV21 hbV22
              have p6V22 := p6V21.keep hbV22
              have e6V22 := p6V22.lt
              have p7V22 := qV21.keep hbV22
              have e7V22 := p7V22.lt
              refine hK.out _ _ sV22 (fun hHeldV22 => ?_)
              clear hK K
              try simp only [Act.put, List.getElem_toArray, List.getElem_cons_zero, List.getElem_cons_succ, List.setIfInBounds_toArray, List.set_cons_succ, List.set_cons_zero]
              have hne : WD.heap.size ≠ V18.heap.size := by omega
              refine wpAnyH_ready (rs := [8]) (by kernel_rfl) (by simp) ?_
              refine AllReadyH.cons rfl (fun K hK => ?_) AllReadyH.nil
              rw [if_pos (by rfl)]
              refine wp_store_row 78 (.tmp 11) (.tmp 31) rfl WD.heap.size (stC g1) (by rfl) (by rfl) 78 zSA p6V22 (by kernel_rfl) rfl (stC_one _) ?_
              have gA := grown_setRow V22 WD.heap.size (stC g1)
              have pA := At.setRow p6V22 (stC g1)
              have qA := p7V22.grown gA (fun e => hne (Option.some.inj e).symm)
              have sA := HSG _ _ _ sV22 gA lV17
              refine hK.out _ _ sA (fun hHeldA => ?_)
              clear hK K
              try simp only [Act.put, List.getElem_toArray, List.getElem_cons_zero, List.getElem_cons_succ]
              generalize World.setRow V22 WD.heap.size (stC g1) = WA at *
              refine wpAnyH_ready (rs := [9]) (by kernel_rfl) (by simp) ?_
              refine AllReadyH.cons rfl (fun K hK => ?_) AllReadyH.nil
              rw [if_pos (by rfl)]
              refine wp_store_row 78 (.tmp 12) (.tmp 34) rfl V18.heap.size (stC g2) (by rfl) (by rfl) 78 zSA qA (by kernel_rfl) rfl (stC_one _) ?_
              have gB := grown_setRow WA V18.heap.size (stC g2)
              have qB := At.setRow qA (stC g2)
              have pB := pA.grown gB (fun e => hne (Option.some.inj e))
              have sB := HSG _ _ _ sA gB lV21
              refine hK.out _ _ sB (fun hHeldB => ?_)
              clear hK K
              try simp only [Act.put, List.getElem_toArray, List.getElem_cons_zero, List.getElem_cons_succ]
              generalize World.setRow WA V18.heap.size (stC g2) = WB at *
              refine wpAnyH_done (by kernel_rfl) ?_ _
              exact FIN _ _ _ sB pB qB
        · go_simp
          have hbV23 : Below V17.heap.size V17 (V17.alloc (.cells zSA 78)) := (Below.refl _ _).alloc (Nat.le_refl _) _
          have sV23 := HSX _ _ sV17 hbV23
          have qV23 : At (V17.alloc (.cells zSA 78)) V17.heap.size 78 zSA := At.new _ _ _
          have lV23 := HSL _ sV17
          have p6V23 := qV17.keep hbV23
          obtain ⟨V23, hvV23⟩ : ∃ V : World, V = V17.alloc (.cells zSA 78) := ⟨_, rfl⟩
          rw [← hvV23] at sV23 qV23 hbV23 p6V23
          have e6V23 := p6V23.lt
          have e7V23 := qV23.lt
          have hzV23 := hbV23.size
          rw [← hvV23]
          clear hvV23
          refine hK.out _ _ sV23 (fun hHeldV23 => ?_)
          clear hK K
          try simp only [Act.put, List.getElem_toArray, List.getElem_cons_zero, List.getElem_cons_succ, List.setIfInBounds_toArray, List.set_cons_succ, List.set_cons_zero]
          refine wpAnyH_ready (rs := [2]) (by kernel_rfl) (by simp) ?_
          refine AllReadyH.cons rfl (fun K hK => ?_) (AllReadyH.nil)
          · go_simp
            go_at_call 58
            refine (HIO.out _ (HX.out _ (HSB _ sV23))).mono ?_
            rintro e V24 ⟨rfl, hbV24⟩
            have sV24 := HSX _ _ sV23 hbV24
            have p6V24 := p6V23.keep hbV24
            have e6V24 := p6V24.lt
            have p7V24 := qV23.keep hbV24
            have e7V24 := p7V24.lt
            refine hK.out _ _ sV24 (fun hHeldV24 => ?_)
            clear hK K
            try simp only [Act.put, List.getElem_toArray, List.getElem_cons_zero, List.getElem_cons_succ, List.setIfInBounds_toArray, List.set_cons_succ, List.set_cons_zero]
            refine wpAnyH_ready (rs := [5]) (by kernel_rfl) (by simp) ?_
            refine AllReadyH.cons rfl (fun K hK => ?_) (AllReadyH.nil)
            · go_simp
              go_at_call 64
              refine (HAO.out _).mono ?_
              rintro e V25 ⟨rfl, hbV25⟩
              have sV25 := HSX _ _ sV24 hbV25
              have p6V25 := p6V24.keep hbV25
              have e6V25 := p6V25.lt
              have p7V25 := p7V24.keep hbV25
              have e7V25 := p7V25.lt
              refine hK.out _ _ sV25 (fun hHeldV25 => ?_)
              clear hK K
              try simp only [Act.put, List.getElem_toArray, List.getElem_cons_zero, List.getElem_cons_succ, List.setIfInBounds_toArray, List.set_cons_succ, List.set_cons_zero]
              have hne : WD.heap.size ≠ V17.heap.size := by omega
              refine wpAnyH_ready (rs := [8]) (by kernel_rfl) (by simp) ?_
              refine AllReadyH.cons rfl (fun K hK => ?_) AllReadyH.nil
              rw [if_pos (by rfl)]
              refine wp_store_row 78 (.tmp 11) (.tmp 31) rfl WD.heap.size (stC g1) (by rfl) (by rfl) 78 zSA p6V25 (by kernel_rfl) rfl (stC_one _) ?_
              have gA := grown_setRow V25 WD.heap.size (stC g1)
              have pA := At.setRow p6V25 (stC g1)
              have qA := p7V25.grown gA (fun e => hne (Option.some.inj e).symm)
              have sA := HSG _ _ _ sV25 gA lV17
              refine hK.out _ _ sA (fun hHeldA => ?_)
              clear hK K
              try simp only [Act.put, List.getElem_toArray, List.getElem_cons_zero, List.getElem_cons_succ]
              generalize World.setRow V25 WD.heap.size (stC g1) = WA at *
              refine wpAnyH_ready (rs := [9]) (by kernel_rfl) (by simp) ?_
              refine AllReadyH.cons rfl (fun K hK => ?_) AllReadyH.nil
              rw [if_pos (by rfl)]
              refine wp_store_row 78 (.tmp 12) (.tmp 34) rfl V17.heap.size (stC g2) (by rfl) (by rfl) 78 zSA qA (by kernel_rfl) rfl (stC_one _) ?_
              have gB := grown_setRow WA V17.heap.size (stC g2)
              have qB := At.setRow qA (stC g2)
              have pB := pA.grown gB (fun e => hne (Option.some.inj e))
              have sB := HSG _ _ _ sA gB lV23
              refine hK.out _ _ sB (fun hHeldB => ?_)
              clear hK K
              try simp only [Act.put, List.getElem_toArray, List.getElem_cons_zero, List.getElem_cons_succ]
              generalize World.setRow WA V17.heap.size (stC g2) = WB at *
              refine wpAnyH_done (by kernel_rfl) ?_ _
              exact FIN _ _ _ sB pB qB
      · go_simp
        have hbV26 : Below WD.heap.size WD (WD.alloc (.cells zSA 78)) := (Below.refl _ _).alloc (Nat.le_refl _) _
        have sV26 := HSX _ _ sD hbV26
        have qV26 : At (WD.alloc (.cells zSA 78)) WD.heap.size 78 zSA := At.new _ _ _
        have lV26 := HSL _ sD
        obtain ⟨V26, hvV26⟩ : ∃ V : World, V = WD.alloc (.cells zSA 78) := ⟨_, rfl⟩
        rw [← hvV26] at sV26 qV26 hbV26
        have e7V26 := qV26.lt
        have hzV26 := hbV26.size
        rw [← hvV26]
        clear hvV26
        refine hK.out _ _ sV26 (fun hHeldV26 => ?_)
        clear hK K
        try simp only [Act.put, List.getElem_toArray, List.getElem_cons_zero, List.getElem_cons_succ, List.setIfInBounds_toArray, List.set_cons_succ, List.set_cons_zero]
        refine wpAnyH_ready (rs := [2, 6]) (by kernel_rfl) (by simp) ?_
        refine AllReadyH.cons rfl (fun K hK => ?_) (AllReadyH.cons rfl (fun K hK => ?_) (AllReadyH.nil))
        · go_simp
          go_at_call 58
          refine (HIO.out _ (HX.out _ (HSB _ sV26))).mono ?_
          rintro e V27 ⟨rfl, hbV27⟩
          have sV27 := HSX _ _ sV26 hbV27
          have p7V27 := qV26.keep hbV27
          have e7V27 := p7V27.lt
          refine hK.out _ _ sV27 (fun hHeldV27 => ?_)
          clear hK K
          try simp only [Act.put, List.getElem_toArray, List.getElem_cons_zero, List.getElem_cons_succ, List.setIfInBounds_toArray, List.set_cons_succ, List.set_cons_zero]
          refine wpAnyH_ready (rs := [5, 6]) (by kernel_rfl) (by simp) ?_
          refine AllReadyH.cons rfl (fun K hK => ?_) (AllReadyH.cons rfl (fun K hK => ?_) (AllReadyH.nil))
          · go_simp
            go_at_call 64
            refine (HAO.out _).mono ?_
            rintro e V28 ⟨rfl, hbV28⟩
            have sV28 := HSX _ _ sV27 hbV28
            have p7V28 := p7V27.keep hbV28
            have e7V28 := p7V28.lt
            refine hK.out _ _ sV28 (fun hHeldV28 => ?_)
            clear hK K
            try simp only [Act.put, List.getElem_toArray, List.getElem_cons_zero, List.getElem_cons_succ, List.setIfInBounds_toArray, List.set_cons_succ, List.set_cons_zero]
            refine wpAnyH_ready (rs := [6]) (by kernel_rfl) (by simp) ?_
            refine AllReadyH.cons rfl (fun K hK => ?_) (AllReadyH.nil)
            · go_simp
              have hbV29 : Below V28.heap.size V28 (V28.alloc (.cells zSA 78)) := (Below.refl _ _).alloc (Nat.le_refl _) _
              have sV29 := HSX _ _ sV28 hbV29
              have qV29 : At (V28.alloc (.cells zSA 78)) V28.heap.size 78 zSA := At.new _ _ _
              have lV29 := HSL _ sV28
              have p7V29 := p7V28.keep hbV29
              obtain ⟨V29, hvV29⟩ : ∃ V : World, V = V28.alloc (.cells zSA 78) := ⟨_, rfl⟩
              rw [← hvV29] at sV29 qV29 hbV29 p7V29
              have e7V29 := p7V29.lt
              have e6V29 := qV29.lt
              have hzV29 := hbV29.size
              rw [← hvV29]
              clear hvV29
              refine hK.out _ _ sV29 (fun hHeldV29 => ?_)
              clear hK K
              try simp only [Act.put, List.getElem_toArray, List.getElem_cons_zero, List.getElem_cons_succ, List.setIfInBounds_toArray, List.set_cons_succ, List.set_cons_zero]
              have hne : V28.heap.size ≠ WD.heap.size := by omega
              refine wpAnyH_ready (rs := [8]) (by kernel_rfl) (by simp) ?_
              refine AllReadyH.cons rfl (fun K hK => ?_) AllReadyH.nil
              rw [if_pos (by rfl)]
              refine wp_store_row 78 (.tmp 11) (.tmp 31) rfl V28.heap.size (stC g1) (by rfl) (by rfl) 78 zSA qV29 (by kernel_rfl) rfl (stC_one _) ?_
              have gA := grown_setRow V29 V28.heap.size (stC g1)
              have pA := At.setRow qV29 (stC g1)
              have qA := p7V29.grown gA (fun e => hne (Option.some.inj e).symm)
              have sA := HSG _ _ _ sV29 gA lV29
              refine hK.out _ _ sA (fun hHeldA => ?_)
              clear hK K
              try simp only [Act.put, List.getElem_toArray, List.getElem_cons_zero, List.getElem_cons_succ]
              generalize World.setRow V29 V28.heap.size (stC g1) = WA at *
              refine wpAnyH_ready (rs := [9]) (by kernel_rfl) (by simp) ?_
              refine AllReadyH.cons rfl (fun K hK => ?_) AllReadyH.nil
              rw [if_pos (by rfl)]
              refine wp_store_row 78 (.tmp 12) (.tmp 34) rfl WD.heap.size (stC g2) (by rfl) (by rfl) 78 zSA qA (by kernel_rfl) rfl (stC_one _) ?_
              have gB := grown_setRow WA WD.heap.size (stC g2)
              have qB := At.setRow qA (stC g2)
              have pB := pA.grown gB (fun e => hne (Option.some.inj e))
              have sB := HSG _ _ _ sA gB lV26
              refine hK.out _ _ sB (fun hHeldB => ?_)
              clear hK K
              try simp only [Act.put, List.getElem_toArray, List.getElem_cons_zero, List.getElem_cons_succ]
              generalize World.setRow WA WD.heap.size (stC g2) = WB at *
              refine wpAnyH_done (by kernel_rfl) ?_ _
              exact FIN _ _ _ sB pB qB
          · go_simp
            have hbV30 : Below V27.heap.size V27 (V27.alloc (.cells zSA 78)) := (Below.refl _ _).alloc (Nat.le_refl _) _
            have sV30 := HSX _ _ sV27 hbV30
            have qV30 : At (V27.alloc (.cells zSA 78)) V27.heap.size 78 zSA := At.new _ _ _
            have lV30 := HSL _ sV27
            have p7V30 := p7V27.keep hbV30
            obtain ⟨V30, hvV30⟩ : ∃ V : World, V = V27.alloc (.cells zSA 78) := ⟨_, rfl⟩
            rw [← hvV30] at sV30 qV30 hbV30 p7V30
            have e7V30 := p7V30.lt
            have e6V30 := qV30.lt
            have hzV30 := hbV30.size
            rw [← hvV30]
            clear hvV30
            refine hK.out _ _ sV30 (fun hHeldV30 => ?_)
            clear hK K
            try simp only [Act.put, List.getElem_toArray, List.getElem_cons_zero, List.getElem_cons_succ, List.setIfInBounds_toArray, List.set_cons_succ, List.set_cons_zero]
            refine wpAnyH_ready (rs := [5]) (by kernel_rfl) (by simp) ?_
            refine AllReadyH.cons rfl (fun K hK => ?_) (AllReadyH.nil)
            · go_simp
              go_at_call 64
              refine (HAO.out _).mono ?_
              rintro e V31 ⟨rfl, hbV31⟩
              have sV31 := HSX _ _ sV30 hbV31
              have p7V31 := p7V30.keep hbV31
              have e7V31 := p7V31.lt
              have p6V31 := qV30.keep hbV31
              have e6V31 := p6V31.lt
              refine hK.out _ _ sV31 (fun hHeldV31 => ?_)
              clear hK K
              try simp only [Act.put, List.getElem_toArray, List.getElem_cons_zero, List.getElem_cons_succ, List.setIfInBounds_toArray, List.set_cons_succ, List.set_cons_zero]
              have hne : V27.heap.size ≠ WD.heap.size := by omega
              refine wpAnyH_ready (rs := [8]) (by kernel_rfl) (by simp) ?_
              refine AllReadyH.cons rfl (fun K hK => ?_) AllReadyH.nil
              rw [if_pos (by rfl)]
              refine wp_store_row 78 (.tmp 11) (.tmp 31) rfl V27.heap.size (stC g1) (by rfl) (by rfl) 78 zSA p6V31 (by kernel_rfl) rfl (stC_one _) ?_
              have gA := grown_setRow V31 V27.heap.size (stC g1)
              have pA := At.setRow p6V31 (stC g1)
              have qA := p7V31.grown gA (fun e => hne (Option.some.inj e).symm)
              have sA := HSG _ _ _ sV31 gA lV30
              refine hK.out _ _ sA (fun hHeldA => ?_)
              clear hK K
              try simp only [Act.put, List.getElem_toArray, List.getElem_cons_zero, List.getElem_cons_succ]
              generalize World.setRow V31 V27.heap.size (stC g1) = WA at *
              refine wpAnyH_ready (rs := [9]) (by kernel_rfl) (by simp) ?_
              refine AllReadyH.cons rfl (fun K hK => ?_) AllReadyH.nil
              rw [if_pos (by rfl)]
              refine wp_store_row 78 (.tmp 12) (.tmp 34) rfl WD.heap.size (stC g2) (by rfl) (by rfl) 78 zSA qA (by kernel_rfl) rfl (stC_one _) ?_
              have gB := grown_setRow WA WD.heap.size (stC g2)
              have qB := At.setRow qA (stC g2)
              have pB := pA.grown gB (fun e => hne (Option.some.inj e))
              have sB := HSG _ _ _ sA gB lV26
              refine hK.out _ _ sB (fun hHeldB => ?_)
              clear hK K
              try simp only [Act.put, List.getElem_toArray, List.getElem_cons_zero, List.getElem_cons_succ]
              generalize World.setRow WA WD.heap.size (stC g2) = WB at *
              refine wpAnyH_done (by kernel_rfl) ?_ _
              exact FIN _ _ _ sB pB qB
        · go_simp
          have hbV32 : Below V26.heap.size V26 (V26.alloc (.cells zSA 78)) := (Below.refl _ _).alloc (Nat.le_refl _) _
          have sV32 := HSX _ _ sV26 hbV32
          have qV32 : At (V26.alloc (.cells zSA 78)) V26.heap.size 78 zSA := At.new _ _ _
          have lV32 := HSL _ sV26
          have p7V32 := qV26.keep hbV32
          obtain ⟨V32, hvV32⟩ : ∃ V : World, V = V26.alloc (.cells zSA 78) := ⟨_, rfl⟩
          rw [← hvV32] at sV32 qV32 hbV32 p7V32
          have e7V32 := p7V32.lt
          have e6V32 := qV32.lt
          have hzV32 := hbV32.size
          rw [← hvV32]
          clear hvV32
          refine hK.out _ _ sV32 (fun hHeldV32 => ?_)
          clear hK K
          try simp only [Act.put, List.getElem_toArray, List.getElem_cons_zero, List.getElem_cons_succ, List.setIfInBounds_toArray, List.set_cons_succ, List.set_cons_zero]
          refine wpAnyH_ready (rs := [2]) (by kernel_rfl) (by simp) ?_
          refine AllReadyH.cons rfl (fun K hK => ?_) (AllReadyH.nil)
          · go_simp
            go_at_call 58
            refine (HIO.out _ (HX.out _ (HSB _ sV32))).mono ?_
            rintro e V33 ⟨rfl, hbV33⟩
            have sV33 := HSX _ _ sV32 hbV33
            have p7V33 := p7V32.keep hbV33
            have e7V33 := p7V33.lt
            have p6V33 := qV32.keep hbV33
            have e6V33 := p6V33.lt
            refine hK.out _ _ sV33 (fun hHeldV33 => ?_)
            clear hK K
            try simp only [Act.put, List.getElem_toArray, List.getElem_cons_zero, List.getElem_cons_succ, List.setIfInBounds_toArray, List.set_cons_succ, List.set_cons_zero]
            refine wpAnyH_ready (rs := [5]) (by kernel_rfl) (by simp) ?_
            refine AllReadyH.cons rfl (fun K hK => ?_) (AllReadyH.nil)
            · go_simp
              go_at_call 64
              refine (HAO.out _).mono ?_
              rintro e V34 ⟨rfl, hbV34⟩
              have sV34 := HSX _ _ sV33 hbV34
              have p7V34 := p7V33.keep hbV34
              have e7V34 := p7V34.lt
              have p6V34 := p6V33.keep hbV34
              have e6V34 := p6V34.lt
              refine hK.out _ _ sV34 (fun hHeldV34 => ?_)
              clear hK K
              try simp only [Act.put, List.getElem_toArray, List.getElem_cons_zero, List.getElem_cons_succ, List.setIfInBounds_toArray, List.set_cons_succ, List.set_cons_zero]
              have hne : V26.heap.size ≠ WD.heap.size := by omega
              refine wpAnyH_ready (rs := [8]) (by kernel_rfl) (by simp) ?_
              refine AllReadyH.cons rfl (fun K hK => ?_) AllReadyH.nil
              rw [if_pos (by rfl)]
              refine wp_store_row 78 (.tmp 11) (.tmp 31) rfl V26.heap.size (stC g1) (by rfl) (by rfl) 78 zSA p6V34 (by kernel_rfl) rfl (stC_one _) ?_
              have gA := grown_setRow V34 V26.heap.size (stC g1)
              have pA := At.setRow p6V34 (stC g1)
              have qA := p7V34.grown gA (fun e => hne (Option.some.inj e).symm)
              have sA := HSG _ _ _ sV34 gA lV32
              refine hK.out _ _ sA (fun hHeldA => ?_)
              clear hK K
              try simp only [Act.put, List.getElem_toArray, List.getElem_cons_zero, List.getElem_cons_succ]
              generalize World.setRow V34 V26.heap.size (stC g1) = WA at *
              refine wpAnyH_ready (rs := [9]) (by kernel_rfl) (by simp) ?_
              refine AllReadyH.cons rfl (fun K hK => ?_) AllReadyH.nil
              rw [if_pos (by rfl)]
              refine wp_store_row 78 (.tmp 12) (.tmp 34) rfl WD.heap.size (stC g2) (by rfl) (by rfl) 78 zSA qA (by kernel_rfl) rfl (stC_one _) ?_
              have gB := grown_setRow WA WD.heap.size (stC g2)
              have qB := At.setRow qA (stC g2)
              have pB := pA.grown gB (fun e => hne (Option.some.inj e))
              have sB := HSG _ _ _ sA gB lV26
              refine hK.out _ _ sB (fun hHeldB => ?_)
              clear hK K
              try simp only [Act.put, List.getElem_toArray, List.getElem_cons_zero, List.getElem_cons_succ]
              generalize World.setRow WA WD.heap.size (stC g2) = WB at *
              refine wpAnyH_done (by kernel_rfl) ?_ _
              exact FIN _ _ _ sB pB qB
--@ORDERSEND
    · rw [h1, Bool.false_and] at HIF
      rw [h1] at HSV
      clear hv hMV h1 hx hy hT
      generalize tbF ys = f at *
      generalize wnN t.data.toList = n at *
      go_enter Tryd.func22, Tryd.ntmps22
      go_wp2_with fail
      refine HTW.out.mono ?_
      rintro e w1 ⟨rfl, hb1⟩
      have a1 := a0.keep hb1
      have B1 := hB0.trans (hb1.mono hs0)
      have hs1 := B1.size
      have a2 := a1.alloc (.cells (tabA f) 86)
      have B2 := B1.alloc hs1 (.cells (tabA f) 86)
      have hs2 := B2.size
      clear a0 hb1 hB0 HTW a1 B1
      go_wp2_with fail
      refine (HSV.out _ (HX.out _ B2)).mono ?_
      rintro e w3 ⟨rfl, hb3⟩
      have a3 := a2.keep hb3
      have B3 := B2.trans (hb3.mono hs2)
      have f3 := a3.frozen 0
      have c3 := a3.cell 0
      have l3 := a3.lt
      have a4 := a3.set 0 (.bool false)
      clear a2 B2 hb3
      go_wp2
      refine bodyPost_ret (results_irf _ w.heap.size (.bool false) a4 _ rfl) rfl ⟨by rw [HIF.out], B3.setCell (Nat.le_refl _) _⟩
  · rw [hv, Bool.false_and, Bool.and_false] at HIF
    rw [hv] at HTW
    clear hv hx hy hT
    generalize tbF ys = f at *
    generalize wnN t.data.toList = n at *
    go_enter Tryd.func22, Tryd.ntmps22
    go_wp2_with fail
    refine HTW.out.mono ?_
    rintro e w1 ⟨rfl, hb1⟩
    have a1 := a0.keep hb1
    have B1 := hB0.trans (hb1.mono hs0)
    have hs1 := B1.size
    have a2 := a1.alloc (.cells (tabA f) 86)
    have B2 := B1.alloc hs1 (.cells (tabA f) 86)
    have hs2 := B2.size
    have f3 := a2.frozen 0
    have c3 := a2.cell 0
    have l3 := a2.lt
    have a4 := a2.set 0 (.bool false)
    clear a0 hb1 hB0 HTW a1 B1
    go_wp2
    refine bodyPost_ret (results_irf _ w.heap.size (.bool false) a4 _ rfl) rfl ⟨by rw [HIF.out], B2.setCell (Nat.le_refl _) _⟩
end Go.Proofs.YtplapaojgcloaaaDoor
namespace Go.PE
open Go.PM Go.PD Go.RowKit
theorem irf_false {xs : List St} {ys : List Mv} {t : ByteArray} {p : Nat} (hp : p ∈ elN (wnN t.data.toList)) (h : runS xs xs.length nmT p ≠ aoS (tabOf ys) nmT p) : irfB xs ys t = false := by
  have : ((elN (wnN t.data.toList)).all fun p => decide (runS xs xs.length nmT p = aoS (tabOf ys) nmT p)) = false := List.all_eq_false.2 ⟨p, hp, by simpa using h⟩
  unfold irfB; rw [this]; simp
theorem irf_true {xs : List St} {ys : List Mv} {t : ByteArray} (h1 : svalid xs = true) (h2 : mvalid ys = true) (h3 : wvB t = true)
    (h : ∀ j, j < t.size → ∀ p, (elN (wnN t.data.toList))[j]? = some p → runS xs xs.length nmT p = aoS (tabOf ys) nmT p) : irfB xs ys t = true := by
  unfold irfB
  rw [h1, h2, h3, Bool.true_and, Bool.true_and, Bool.true_and, List.all_eq_true]
  intro p hp
  obtain ⟨j, hj, e⟩ := List.getElem_of_mem hp
  have hl : t.size = (elN (wnN t.data.toList)).length := by
    have := congrArg List.length (wv_list h3)
    rwa [List.length_map, size_data] at this
  exact decide_eq_true (h j (by omega) p (by rw [List.getElem?_eq_getElem hj, e]))
theorem irf_no {xs : List St} {ys : List Mv} {t : ByteArray} (h : (svalid xs && (mvalid ys && wvB t)) = false) : irfB xs ys t = false := by
  unfold irfB
  rw [← Bool.and_assoc (mvalid ys), ← Bool.and_assoc (svalid xs), h]; rfl
/-- one wanted place: the two texts that are compared -/
theorem irf_cmp {ys : List Mv} (h : MV ys) {p : Nat} (hp : p < 9) (g : Nat → UInt8) : (⟨#[rdS g (nm p)]⟩ : ByteArray) = srcM ys (nm p) ↔ g p = aoS (tabOf ys) nmT p := by
  unfold aoS
  rw [if_pos hp, srcM_nm h hp, rdS_nm g hp, ← one_inj, rd_name (srcM_isSr h p hp)]
end Go.PE
namespace Go.Proofs.YtplapaojgcloaaaDoor
open Go.RowKit Go.PM Go.PE
attribute [local go_sem] Oper.semAt_some

set_option maxRecDepth 100000 in
set_option maxHeartbeats 2000000 in
theorem spIsRightFor_c (xs : List St) (ys : List Mv) (v u : Value) (t : ByteArray) (ht : t.size ≤ 1048576) (w : World) (hx : RdS w v xs) (hy : RdM w u ys) (hzy : ∀ m ∈ ys, m.1.size ≤ 9223372036854775807 ∧ m.2.size ≤ 9223372036854775807) (hny : ys.length ≤ 1048576) :
    Calls Tryd.prog 24 #[v, u, .string t] w fun e w' => e = .returned (.bool (irfB xs ys t)) ∧ Below w.heap.size w w' := by
  have HX := Lib.hid (fun W (hb : Below w.heap.size w W) => hx.below hb)
  have HY := Lib.hid (fun W (hb : Below w.heap.size w W) => hy.below hb)
  have HSV := Lib.hid (spSequenceValid_c xs v w hx)
  have HMV := Lib.hid (fun W hW => spMovesValid_c ys u W hW hzy hny)
  have HWV := Lib.hid (fun W => spWantedValid_c t (by omega) W)
  rcases Bool.eq_false_or_eq_true (svalid xs) with h1 | h1
  · rw [h1] at HSV
    rcases Bool.eq_false_or_eq_true (mvalid ys) with h2 | h2
    · rw [h2] at HMV
      rcases Bool.eq_false_or_eq_true (wvB t) with h3 | h3
      · rw [h3] at HWV
        have hMV : MV ys := by simpa [mvalid] using h2
        have HRU := Lib.hid (fun W hW => l2Run_c xs (fun k hk => svalid_at h1 k hk) v nmT W hW)
        have HFR := Lib.hid (fun W => l2Fresh_c W)
        have HEX := Lib.hid (fun k hk => wv_extract h3 k hk)
        have HFA := Lib.hid (fun p hp hne => irf_false (xs := xs) (ys := ys) (t := t) (p := p) hp hne)
        have HTR := Lib.hid (fun h => irf_true (xs := xs) (ys := ys) (t := t) h1 h2 h3 h)
        have HCM := Lib.hid (fun p hp g => irf_cmp (ys := ys) hMV (p := p) hp g)
        have HVA := Lib.hid (fun f a h W => l2Value_c f a h W)
        have HSO := Lib.hid (fun a W hW => l1Source_c ys u a W hW)
        have HNC : Hid (∀ p, p < 9 → okC (nm p) = true) := fun p hp => by unfold okC; rw [(cidx_nm hp).1]; rfl
        have HCB : Hid (cellsB = stB nmT) := by show _ = _; rfl
        clear h1 h2 h3 hx hy hMV
        go_enter Tryd.func24, Tryd.ntmps24
        go_wp2_with fail
        refine HSV.out.mono ?_
        rintro e w1 ⟨rfl, hb1⟩
        have hs1 := hb1.size
        go_wp2_with fail
        refine (HMV.out _ (HY.out _ hb1)).mono ?_
        rintro e w2 ⟨rfl, hb2⟩
        have B2 := hb1.trans (hb2.mono hs1)
        have hs2 := B2.size
        clear hb1 hb2
        go_wp2_with (first | (go_at_call 26; refine (HWV.out _).mono ?_; rintro e w' ⟨rfl, rfl⟩) | (go_at_call 69; refine (HFR.out _).mono ?_; rintro e w' ⟨rfl, rfl⟩; refine held ?_))
        unfold Held
        rw [HCB.out]
        go_wp2_with fail
        refine (HRU.out _ (HX.out _ B2)).mono ?_
        rintro e w3 ⟨rfl, hb3⟩
        have B3 := B2.trans (hb3.mono hs2)
        have hs3 := B3.size
        clear hb3 B2
        generalize runS xs xs.length nmT = g at *
        go_wp2
        go_loopw [8, 27] (fun _ i wr => ∃ (k : Nat), k ≤ t.size ∧ i = .int .i64 k ∧ Hid (∀ j, j < k → ∀ p, (elN (wnN t.data.toList))[j]? = some p → g p = aoS (tabOf ys) nmT p) ∧ Below w.heap.size w wr) (fun _ i _ => t.size - (RowKit.intOf i).toNat)
        case atStart => exact ⟨0, by omega, rfl, fun j hj => absurd hj (Nat.not_lt_zero j), B3⟩
        case round =>
          clear B3
          obtain ⟨k, hk, rfl, hpr, hb⟩ := hrel
          have hbs := hb.size
          by_cases hlt : k < t.size
          · have i0 : (0 : Int) ≤ (k : Int) := by omega
            have i1 : (k : Int) < (t.size : Int) := by omega
            obtain ⟨p, hp9, hex, htb, hel⟩ := HEX.out k hlt
            have hcm := HCM.out p hp9 g
            have hva : ∀ x : Ext wr.heap.size wr, Calls Tryd.prog 70 #[.string (stB g), .string (nm p)] x.val fun e w' => e = .returned (.string ⟨#[rdS g (nm p)]⟩) ∧ x.val = w' := fun x => HVA.out g (nm p) (HNC.out p hp9) x.val
            have hso : ∀ x : Ext wr.heap.size wr, Calls Tryd.prog 71 #[u, .string (nm p)] x.val fun e w' => e = .returned (.string (srcM ys (nm p))) ∧ Below x.val.heap.size x.val w' := fun x => HSO.out (nm p) x.val (HY.out _ (hb.trans (x.property.mono hbs)))
            have hbb := bne_str (⟨#[rdS g (nm p)]⟩ : ByteArray) (srcM ys (nm p))
            have HMEM : Hid (p ∈ elN (wnN t.data.toList)) := List.mem_of_getElem? hel
            by_cases he : g p = aoS (tabOf ys) nmT p
            · have HP : Hid (∀ j, j < k + 1 → ∀ q, (elN (wnN t.data.toList))[j]? = some q → g q = aoS (tabOf ys) nmT q) := fun j hj q hq => by
                by_cases e : j = k
                · subst e; rw [hel] at hq; cases hq; exact he
                · exact hpr.out j (by omega) q hq
              have hbf : (!((⟨#[rdS g (nm p)]⟩ : ByteArray).toList == (srcM ys (nm p)).toList)) = false := by rw [hbb]; simpa using hcm.2 he
              clear hcm hbb he hel htb
              generalize srcM ys (nm p) = q1 at *
              generalize (⟨#[rdS g (nm p)]⟩ : ByteArray) = q2 at *
              generalize nm p = a at *
              go_wp2
              refine wp_region_ext wr.heap.size (by kernel_rfl) (by kernel_rfl) ?_
              go_big_quiet_step (fail)
              go_big_quiet_step (fail)
              go_big_quiet_step (fail)
              go_big_quiet_step (fail)
              go_big_quiet_step (fail)
              go_big_quiet_step (fail)
              go_big_quiet_step (exact ext_same _ (hva _))
              go_big_quiet_step (fail)
              go_big_quiet_step (fail)
              go_big_quiet_step (fail)
              go_big_quiet_step (fail)
              go_big_quiet_step (fail)
              go_big_quiet_step (fail)
              go_big_quiet_step (exact ext_call _ (Nat.le_refl _) (hso _))
              go_big_quiet_step (fail)
              refine wpQuiet_nil ?_
              intro w4 hw'
              obtain ⟨xw, hxw⟩ := hw'
              have hb4 : Below wr.heap.size wr w4 := by rw [hxw]; exact xw.property
              clear hxw xw hva hso
              have hb5 := hb.trans (hb4.mono hbs)
              clear hb hb4
              go_wp2
              go_roundw
              case rel => exact ⟨k + 1, by omega, by go_num, HP, hb5⟩
              case measure => simp [RowKit.intOf]; omega
            · have HR : Hid (irfB xs ys t = false) := HFA.out p HMEM.out he
              have hbf : (!((⟨#[rdS g (nm p)]⟩ : ByteArray).toList == (srcM ys (nm p)).toList)) = true := by rw [hbb]; simpa using fun e => he (hcm.1 e)
              clear hcm hbb he hel htb
              generalize srcM ys (nm p) = q1 at *
              generalize (⟨#[rdS g (nm p)]⟩ : ByteArray) = q2 at *
              generalize nm p = a at *
              go_wp2
              refine wp_region_ext wr.heap.size (by kernel_rfl) (by kernel_rfl) ?_
              go_big_quiet_step (fail)
              go_big_quiet_step (fail)
              go_big_quiet_step (fail)
              go_big_quiet_step (fail)
              go_big_quiet_step (fail)
              go_big_quiet_step (fail)
              go_big_quiet_step (exact ext_same _ (hva _))
              go_big_quiet_step (fail)
              go_big_quiet_step (fail)
              go_big_quiet_step (fail)
              go_big_quiet_step (fail)
              go_big_quiet_step (fail)
              go_big_quiet_step (fail)
              go_big_quiet_step (exact ext_call _ (Nat.le_refl _) (hso _))
              go_big_quiet_step (fail)
              refine wpQuiet_nil ?_
              intro w4 hw'
              obtain ⟨xw, hxw⟩ := hw'
              have hb4 : Below wr.heap.size wr w4 := by rw [hxw]; exact xw.property
              clear hxw xw hva hso
              have hb5 := hb.trans (hb4.mono hbs)
              clear hb hb4
              go_wp2
              go_ret
              exact ⟨by rw [HR.out]; rfl, hb5⟩
          · have HR : Hid (irfB xs ys t = true) := HTR.out (fun j hj p hp => hpr.out j (by omega) p hp)
            have i1 : ¬ (k : Int) < (t.size : Int) := by omega
            clear hk hlt hpr
            go_wp2
            go_ret
            exact ⟨by rw [HR.out]; rfl, hb⟩
      · rw [h3] at HWV
        have HR : Hid (irfB xs ys t = false) := irf_no (by rw [h3]; simp)
        clear h1 h2 h3 hx hy
        go_enter Tryd.func24, Tryd.ntmps24
        go_wp2_with fail
        refine HSV.out.mono ?_
        rintro e w1 ⟨rfl, hb1⟩
        have hs1 := hb1.size
        go_wp2_with fail
        refine (HMV.out _ (HY.out _ hb1)).mono ?_
        rintro e w2 ⟨rfl, hb2⟩
        have B2 := hb1.trans (hb2.mono hs1)
        clear hb1 hb2
        go_wp2_with (go_at_call 26; refine (HWV.out _).mono ?_; rintro e w' ⟨rfl, rfl⟩)
        go_ret
        exact ⟨by rw [HR.out]; rfl, B2⟩
    · rw [h2] at HMV
      have HR : Hid (irfB xs ys t = false) := irf_no (by rw [h2]; simp)
      clear h1 h2 hx hy
      go_enter Tryd.func24, Tryd.ntmps24
      go_wp2_with fail
      refine HSV.out.mono ?_
      rintro e w1 ⟨rfl, hb1⟩
      have hs1 := hb1.size
      go_wp2_with fail
      refine (HMV.out _ (HY.out _ hb1)).mono ?_
      rintro e w2 ⟨rfl, hb2⟩
      have B2 := hb1.trans (hb2.mono hs1)
      clear hb1 hb2
      go_wp2
      go_ret
      exact ⟨by rw [HR.out]; rfl, B2⟩
  · rw [h1] at HSV
    have HR : Hid (irfB xs ys t = false) := irf_no (by rw [h1]; rfl)
    clear h1 hx hy
    go_enter Tryd.func24, Tryd.ntmps24
    go_wp2_with fail
    refine HSV.out.mono ?_
    rintro e w1 ⟨rfl, hb1⟩
    go_wp2
    go_ret
    exact ⟨by rw [HR.out]; rfl, hb1⟩
end Go.Proofs.YtplapaojgcloaaaDoor
namespace Go.PE
open Go.PM Go.RowKit
theorem rdB_new {w w' : World} {B n : Nat} {v : Value} (h : RdB w B v n) (hb : Below w.heap.size w w') (_hB : B ≤ w'.heap.size) : RdB w' w'.heap.size v n := by
  obtain ⟨A, cap, e, h1, h2, h3⟩ := h.keep (grown_below hb none) (fun r e => by cases e)
  refine ⟨A, cap, e, h1, h2, fun k hk => ?_⟩
  obtain ⟨b, off, c, e1, hb, hl, hc⟩ := h3 k hk
  exact ⟨b, off, c, e1, by omega, hl, hc⟩
theorem irf_ds {xs : List St} {ys : List Mv} {t : ByteArray} (h : irfB xs ys t = true) : irfB (dsS xs t) ys t = true := by
  have h1 := (irf_yes.1 h).1
  have h2 := irf_wv h
  rw [dsS_yes (by rw [h1, h2]; rfl)]
  exact irf_short h
end Go.PE
namespace Go.Proofs.YtplapaojgcloaaaDoor
open Go.RowKit Go.PM Go.PE
attribute [local go_sem] Oper.semAt_some
set_option maxRecDepth 100000 in
set_option maxHeartbeats 3200000 in
theorem exIsRightFor (w : World) (v0 : Value) (n0 : Nat) (hv : RdB w w.heap.size v0 n0) (v1 : Value) (n1 : Nat) (hu : RdB w w.heap.size v1 n1) (hT : Tz w) :
    Calls Tryd.prog 4 #[v0, v1] w fun e w' => e = .returned (.bool true) ∧ Below w.heap.size w w' := by
  have hv0 := hv
  have hu0 := hu
  obtain ⟨A, cap, rfl, hc, hn, _⟩ := hv
  obtain ⟨A1, cap1, rfl, hc1, hn1, _⟩ := hu
  by_cases hbig : 1048576 < n0
  · have t : decide ((n0 : Int) > 1048576) = true := by simp; omega
    go_enter Tryd.func4, Tryd.ntmps4
    go_wp2
    go_ret
    exact ⟨rfl, Below.refl _ _⟩
  have t : decide ((n0 : Int) > 1048576) = false := by simp; omega
  by_cases hbig1 : 1048576 < n1
  · have t1 : decide ((n1 : Int) > 1048576) = true := by simp; omega
    go_enter Tryd.func4, Tryd.ntmps4
    go_wp2
    go_ret
    exact ⟨rfl, Below.refl _ _⟩
  have t1 : decide ((n1 : Int) > 1048576) = false := by simp; omega
  have HD := Lib.hid (drawIsRightFor_c w _ n0 hv0)
  have HDW := Lib.hid (fun W (hb : Below w.heap.size w W) => drawWantedValid_c W (.slice A1 n1 cap1) n1 (rdB_new hu0 hb hb.size))
  clear hv0
  go_enter Tryd.func4, Tryd.ntmps4
  go_wp2_with fail
  refine HD.out.mono ?_
  rintro e w1 ⟨u, y, s, xs, ys, rfl, hou, hoy, hsh, b1⟩
  have hs1 := b1.size
  have hT1 := hT.below b1
  have hx1 := Rd.of_own hou
  have hy1 := Rd.of_own hoy
  have HI := Lib.hid (fun t (ht : t.size ≤ 1048576) W (hb : Below w1.heap.size w1 W) => imIsRightFor_c xs ys u y t ht W (RdS.below hx1 hb) (RdM.below hy1 hb) (hT1.below hb))
  have HSP := Lib.hid (fun W (hb : Below w1.heap.size w1 W) => spIsRightFor_c xs ys u y s (by have := hsh.out.2.1; omega) W (RdS.below hx1 hb) (RdM.below hy1 hb) (fun m hm => by have := hsh.out.2.2.2 m hm; omega) (by have := hsh.out.2.2.1; omega))
  have HIW := Lib.hid (fun t (ht : t.size ≤ 20) W (hb : Below w1.heap.size w1 W) => imWantedValid_c t (by omega) W (hT1.below hb))
  have HSW := Lib.hid (fun t (ht : t.size ≤ 20) W => spWantedValid_b t (by omega) W)
  have HIR := Lib.hid (fun W (hb : Below w1.heap.size w1 W) => imIsRight_c xs ys u y W (RdS.below hx1 hb) (RdM.below hy1 hb))
  have HDS := Lib.hid (fun W (hb : Below w1.heap.size w1 W) => imDropSteps_c xs u s (by have := hsh.out.2.1; omega) W (RdS.below hx1 hb) (hT1.below hb))
  have HI2 := Lib.hid (fun v W (hx : RdS W v (dsS xs s)) (hb : Below w1.heap.size w1 W) => imIsRightFor_c (dsS xs s) ys v y s (by have := hsh.out.2.1; omega) W hx (RdM.below hy1 hb) (hT1.below hb))
  have hsz : s.size ≤ 20 := hsh.out.2.1
  have HALL := Lib.hid (irf_all xs ys)
  have HYDS : Hid (irfB xs ys s = true → irfB (dsS xs s) ys s = true) := irf_ds
  have HYWV : Hid (irfB xs ys s = true → wvB s = true) := irf_wv
  have HNOT : Hid (irfB xs ys s = false → irB xs ys = true → wvB s = false) := irf_not
  have HIS := Lib.hid (fun W hb => HI.out s (by omega) W hb)
  have HIA := Lib.hid (fun W hb => HI.out placesB (by decide) W hb)
  rw [HALL.out] at HIA
  clear hou hoy hx1 hy1 HD HI HALL hT1
  go_wp2_with fail
  refine (HIS.out w1 (Below.refl _ _)).mono ?_
  rintro e w2 ⟨rfl, b2⟩
  go_wp2_with fail
  refine (HDW.out w2 (b1.trans (b2.mono hs1))).mono ?_
  rintro e w3 ⟨t, rfl, htz, b3⟩
  have hB3 : Below w1.heap.size w1 w3 := b2.trans (b3.mono b2.size)
  have htz := htz.out
  clear b3 b2 HDW
  go_wp2_with fail
  refine (HSP.out w3 hB3).mono ?_
  rintro e w4 ⟨rfl, b4⟩
  have hB4 := hB3.trans (b4.mono hB3.size)
  clear b4 hB3
  go_wp2_with fail
  refine (HIW.out t htz w4 hB4).mono ?_
  rintro e w5 ⟨rfl, b5⟩
  have hB5 := hB4.trans (b5.mono hB4.size)
  clear b5 hB4
  go_wp2_with fail
  refine (HSW.out t htz w5).mono ?_
  rintro e w6 ⟨rfl, b6⟩
  have hB6 := hB5.trans (b6.mono hB5.size)
  clear b6 hB5
  go_wp2_with fail
  refine (HIR.out w6 hB6).mono ?_
  rintro e w7 ⟨rfl, b7⟩
  have hB7 := hB6.trans (b7.mono hB6.size)
  clear b7 hB6
  go_wp2_with fail
  refine (HIA.out w7 hB7).mono ?_
  rintro e w8 ⟨rfl, b8⟩
  have hB8 := hB7.trans (b8.mono hB7.size)
  clear b8 hB7
  generalize irfB xs ys s = is at *
  generalize irB xs ys = ri at *
  cases is with
  | true =>
    have HY1 := Lib.hid (HYDS.out rfl)
    have HY2 := Lib.hid (HYWV.out rfl)
    rw [HY1.out] at HI2
    rw [HY2.out] at HDS
    go_wp2_with fail
    refine (HDS.out w8 hB8).mono ?_
    rintro e w9 ⟨v9, rfl, ho9, b9⟩
    have hB9 := hB8.trans (b9.mono hB8.size)
    have hx9 := Rd.of_own ho9
    clear b9 hB8 ho9
    go_wp2_with fail
    refine (HI2.out v9 w9 hx9 hB9).mono ?_
    rintro e w10 ⟨rfl, b10⟩
    have hB10 := hB9.trans (b10.mono hB9.size)
    clear b10 hB9
    go_wp2_with fail
    refine (HIW.out s hsz w10 hB10).mono ?_
    rintro e w11 ⟨rfl, b11⟩
    rw [HY2.out]
    go_wp2
    go_ret
    exact ⟨rfl, b1.trans ((hB10.trans (b11.mono hB10.size)).mono hs1)⟩
  | false =>
    cases ri with
    | true =>
      have HY2 := Lib.hid (HNOT.out rfl rfl)
      go_wp2_with fail
      refine (HIW.out s hsz w8 hB8).mono ?_
      rintro e w9 ⟨rfl, b9⟩
      rw [HY2.out]
      go_wp2
      go_ret
      exact ⟨rfl, b1.trans ((hB8.trans (b9.mono hB8.size)).mono hs1)⟩
    | false =>
      go_wp2
      go_ret
      exact ⟨rfl, b1.trans (hB8.mono hs1)⟩

namespace fnIsRightFor
open Go.RowKit Go.PM Go.ChangeShapes Go.WideShapes Go.ChangeAt
open Go.ChangeMaps (open_string shut_string)
set_option maxRecDepth 100000 in
theorem lifted (os : Os) (started : os.Started) (H : Type) (enc : TypeId × Value → H) :
    ReturnsInHanded {} Tryd.checked os 4 .any (fun w args => (Rows.fnIsRightForSpec.pre enc Tryd.prog Tryd.f4 [] false w args ∧ laidMetH Tryd.prog laidL w) ∧ sizedMet enc Tryd.prog Tryd.f4 (OpenSpec.ofChange Rows.fnIsRightForSpec) false w args)
      (Rows.fnIsRightForSpec.post enc Tryd.prog Tryd.f4 false true false false) := by
  refine returnsInHanded_of_change_and (C := Tryd.checked) (X := fun w _ => laidMetH Tryd.prog laidL w) (fun _ _ _ hh h => h.of_heap hh) own started (by kernel_rfl) Tryd.func4
    (ChangeSpec.witness_at (enc := enc) (C := Tryd.checked) (os := os) (X := fun w _ => laidMetH Tryd.prog laidL w) false (laidWorld os) #[.slice none 0 0, .slice none 0 0] 8 rfl (by kernel_rfl) (by kernel_rfl) (by kernel_rfl) (by kernel_rfl) (by kernel_rfl) (laidWorld_met os _)) ?_
  intro W base args ds gs before hval0 hW _ _ hL _
  have hval : ∀ (j : Nat) t v, Tryd.f4.params[j]? = some t → args[j]? = some v → Value.okWide Tryd.prog W .any base t v := hval0
  have hW' := hW
  obtain ⟨p, q, hA0, hV, rfl, hfz, hnd⟩ := hW
  have hA : DataW.TrodAll enc Tryd.prog W 0 (fun _ => true) true Tryd.f4.params.toList args.toList ds p := hA0
  rw [Tryd.params4] at hA hval
  obtain ⟨v0, vs0, d0, ds0, p0, q0, hargs, rfl, rfl, h0, r0⟩ := trodAll_cons hA
  obtain ⟨v1, vs1, d1, ds1, p1, q1, rfl, rfl, rfl, h1, r1⟩ := trodAll_cons r0
  obtain ⟨rfl, rfl, rfl⟩ := trodAll_nil r1
  obtain rfl : args = #[v0, v1] := by cases args; simp_all
  obtain ⟨rfl, rfl⟩ := trodVars_none hV
  have hG := tz_of_laid hL
  have k0 := h0
  have lt0 : ∀ x ∈ p0, x.block < W.heap.size := by obtain ⟨m, hm⟩ := k0; exact DataW.trod_lt m _ _ _ hm
  have k1 := h1
  have lt1 : ∀ x ∈ p1, x.block < W.heap.size := by obtain ⟨m, hm⟩ := k1; exact DataW.trod_lt m _ _ _ hm
  obtain ⟨a0, len0, cap0, rfl⟩ := okWide_slice Tryd.underlying22 (hval 0 22 v0 rfl rfl)
  have hx0 : RdB W W.heap.size (.slice a0 len0 cap0) len0 := by obtain ⟨fuel, hf⟩ := h0; exact open_bytes hf
  obtain ⟨a1, len1, cap1, rfl⟩ := okWide_slice Tryd.underlying22 (hval 1 22 v1 rfl rfl)
  have hx1 : RdB W W.heap.size (.slice a1 len1 cap1) len1 := by obtain ⟨fuel, hf⟩ := h1; exact open_bytes hf
  clear hA0 hval0
  refine (exIsRightFor W _ len0 hx0 _ len1 hx1 hG).mono fun e W' ⟨he, bel⟩ => ?_
  subst he
  exact ⟨_, rfl, _, _, _, [], _, [], hW', trodAll_mk1 (shut_bool Tryd.underlying4 _), (trodAll_cons_mk (Below.trod laidOut (by kernel_rfl) (of_decide_eq_true (by kernel_rfl)) k0 bel lt0) (trodAll_cons_mk (Below.trod laidOut (by kernel_rfl) (of_decide_eq_true (by kernel_rfl)) k1 bel lt1) trodAll_mk0)), rfl, bel.frame _, fun h => by cases h⟩

theorem over : Rows.fnIsRightForRow.holds Tryd.pinned (OpenSpec.ofChange Rows.fnIsRightForSpec) :=
  OpenClaim.holds_of_wide 4 Tryd.f4 rfl rfl rfl rfl rfl rfl rfl ⟨rfl, rfl, rfl, rfl, rfl⟩ rfl rfl rfl rfl rfl (by kernel_rfl) Tryd.func4 (by kernel_rfl)
    (of_decide_eq_true (by kernel_rfl)) (by unfold Func.isWrapper; first | (rw [if_pos (by decide +kernel)]; kernel_rfl) | (rw [if_neg (by decide +kernel)]; exact ⟨rfl, rfl⟩))
    (fun os started H enc _ => lifted os started H enc)

/-- The statement. -/
theorem proved : Rows.FnIsRightForCardSaid :=
  Claim7.holds_tied_plain_at .later [] [.data, .data] true Rows.fnIsRightForCard.stood.harness false
    over (fun _ h => by cases h) (by kernel_rfl) (fun _ h => by cases h) fnIsRightFor_row_tie rfl ⟨rfl, rfl⟩ (by kernel_rfl) rfl
    (fun f fn hf hfn => by
      obtain rfl : f = 4 := Option.some.inj ((show Tryd.prog.funcNamed "loop.example/parallelmoves/laws.FnIsRightFor" = some 4 by kernel_rfl).symm.trans hf) |>.symm
      obtain rfl : fn = Tryd.f4 := (Option.some.inj (Tryd.func4.symm.trans hfn)).symm
      exact ⟨by kernel_rfl, fun j t ht => by
        rw [Tryd.params4] at ht
        rcases j with _ | _ | j
        · obtain rfl : t = 22 := by simpa using ht.symm
          exact (show Tryd.prog.wantsStandIn 22 = false by kernel_rfl)
        · obtain rfl : t = 22 := by simpa using ht.symm
          exact (show Tryd.prog.wantsStandIn 22 = false by kernel_rfl)
        · simp at ht⟩)
    (by kernel_rfl)
end fnIsRightFor
end Go.Proofs.YtplapaojgcloaaaDoor
