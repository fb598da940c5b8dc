/- Proved: for every input of the form's own reach the law FnDropSteps answers true and its arguments read afterwards as before; no further condition. -/
import Derived.Test.YtplapaojgcloaaaDoorWaJE
import Derived.Test.YtplapaojgcloaaaDoorWaJC
import Derived.Test.YtplapaojgcloaaaDoorWaJB
import Derived.Test.YtplapaojgcloaaaDoorDraw3
import Derived.Test.YtplapaojgcloaaaDoorCut1
import Derived.Test.YtplapaojgcloaaaDoorWaJA
import Derived.Test.YtplapaojgcloaaaDoorTop3
import Derived.Test.YtplapaojgcloaaaDoorLate
import Derived.Test.YtplapaojgcloaaaDoorTurn
import Derived.ChangeKeysEq
import Derived.Test.YtplapaojgcloaaaDoorHar
import Derived.Test.YtplapaojgcloaaaDoorP2
import Derived.Test.YtplapaojgcloaaaDoorBytes
import Derived.Test.YtplapaojgcloaaaDoorOpen
namespace Go.PE
open Go.PM Go.RowKit
def otB (s : Bool) (a : ByteArray) : Bool := s && decide (a = spT)
theorem beq_t (x : ByteArray) : (x.toList == [116]) = decide (x = spT) := by
  have := beq_str x spT
  rwa [ByteArray.toList_eq spT] at this
theorem ot_rn (xs : List Mv) (t a : ByteArray) : tlB (otB (soB xs t)) (fun _ => spB xs t) a = rnB (spN xs t) a := by
  unfold tlB otB rnB
  rcases Bool.eq_false_or_eq_true (soB xs t) with h | h
  · obtain ⟨h1, h2, -⟩ := so_spec h
    rw [h, h2, Bool.true_and]
    by_cases e : a = spT
    · rw [decide_eq_true e, if_pos rfl, if_pos e]
      show nm (spN xs t) = _
      match spN xs t, h1 with
      | 0, _ | 1, _ | 2, _ | 3, _ | 4, _ | 5, _ | 6, _ | 7, _ | 8, _ => decide +kernel
    · rw [decide_eq_false e, if_neg e]; rfl
  · have : spN xs t = 9 := by unfold spN; rw [h]; rfl
    rw [h, this]
    show (if (false && decide (a = spT)) = true then _ else a) = _
    rw [Bool.false_and]
    exact (rnB_nine a).symm
theorem ot_map (xs : List Mv) (t : ByteArray) (ys : List St) : ys.map (tlX (otB (soB xs t)) (fun _ => spB xs t)) = ys.map (rnX (spN xs t)) := by
  refine List.map_congr_left fun x _ => ?_
  unfold tlX rnX
  rw [ot_rn, ot_rn]
end Go.PE
namespace Go.Proofs.YtplapaojgcloaaaDoor
open Go.RowKit Go.PM Go.PE

theorem tellW_c (p q : Nat) (s : ByteArray) (b : Bool) (a : ByteArray) (W : World) (h1 : At W p 9 #[.string s]) (h2 : At W q 4 #[.bool b]) :
    Calls Tryd.prog 87 #[.string a, .pointer (some ⟨p, 0, none⟩), .pointer (some ⟨q, 0, none⟩)] W fun e w' => e = .returned (.tuple #[.string s, .bool (otB b a)]) ∧ Below W.heap.size W w' := by
  have c1 := h1.cell 0
  have c2 := h2.cell 0
  cases b with
  | true =>
    have HO : Hid (otB true a = (a.toList == [116])) := by show _ = _; rw [beq_t]; unfold otB; rw [Bool.true_and]
    go_enter Tryd.func87, Tryd.ntmps87
    go_wp2
    go_ret2
    exact ⟨by rw [HO.out]; rfl, Below.refl _ _⟩
  | false =>
    have HO : Hid (otB false a = false) := rfl
    go_enter Tryd.func87, Tryd.ntmps87
    go_wp2
    go_ret2
    exact ⟨by rw [HO.out]; rfl, Below.refl _ _⟩
set_option maxRecDepth 100000 in
set_option maxHeartbeats 1600000 in
theorem imOrderWanted_c (xs : List Mv) (v : Value) (t : ByteArray) (ht : t.size ≤ 1048576) (w : World) (hx : RdM w v xs) (hT : Tz w) :
    Calls Tryd.prog 40 #[v, .string t] w fun e w' => ∃ v', e = .returned (.tuple #[v', .bool (mvalid xs && wvB t)]) ∧ w'.ownsRow w.heap.size 72 3 v' (owS xs t).length (scells (owS xs t)) ∧ Below w.heap.size w w' := by
  have HK := Lib.hid (imKeepWanted_c xs v t ht w hx hT)
  have HO := Lib.hid (fun v' W hW => imOrderMoves_c (kwM xs t) v' W hW)
  have HS := Lib.hid (fun W hb => imSpareFor_c xs v t ht W (hx.below hb) (hT.below hb))
  rcases Bool.eq_false_or_eq_true (mvalid xs && wvB t) with hv | hv
  · have hln : (stL (ordM (kwM xs t))).length ≤ 1048576 := by
      have := ordM_len (kwM xs t); rw [stL_len']; omega
    have HOW : Hid ((stL (ordM (kwM xs t))).map (tlX (otB (soB xs t)) (fun _ => spB xs t)) = owS xs t) := by show _ = _; rw [ot_map]; rfl
    rw [hv] at HK ⊢
    clear hv hx hT
    go_enter Tryd.func40, Tryd.ntmps40
    go_wp2_with fail
    refine HK.out.mono ?_
    rintro e w1 ⟨v1, rfl, ho1, hb1⟩
    have hs1 := hb1.size
    have hk1 := Rd.of_own ho1
    clear ho1
    go_wp2_with fail
    refine (HO.out v1 w1 hk1).mono ?_
    rintro e w2 ⟨v2, rfl, ho2, hb2⟩
    have hB2 := hb1.trans (hb2.mono hs1)
    have hs2 := hB2.size
    have hk2 : RdS w2 v2 (stL (ordM (kwM xs t))) := by
      have := Rd.of_own ho2
      rwa [← stL_len'] at this
    clear ho2 hb2 hb1 hk1
    go_wp2_with fail
    refine (HS.out w2 hB2).mono ?_
    rintro e w3 ⟨rfl, hb3⟩
    have hB3 := hB2.trans (hb3.mono hs2)
    have hs3 := hB3.size
    have hk3 := RdS.below hk2 hb3
    go_wp2_with fail
    have kA : At (w3.alloc (.cells #[.string (spB xs t)] 9)) w3.heap.size 9 #[.string (spB xs t)] := At.new _ _ _
    have kB : At ((w3.alloc (.cells #[.string (spB xs t)] 9)).alloc (.cells #[.bool (soB xs t)] 4)) (w3.heap.size + 1) 4 #[.bool (soB xs t)] := by
      have := At.new (w3.alloc (.cells #[.string (spB xs t)] 9)) 4 #[.bool (soB xs t)]
      rwa [World.size_alloc] at this
    have bA : Below w3.heap.size w3 (w3.alloc (.cells #[.string (spB xs t)] 9)) := (Below.refl _ _).alloc (Nat.le_refl _) _
    have bB : Below w3.heap.size w3 ((w3.alloc (.cells #[.string (spB xs t)] 9)).alloc (.cells #[.bool (soB xs t)] 4)) := bA.alloc bA.size _
    have kA2 := kA.keep ((Below.refl _ _).alloc (Nat.le_refl _) (.cells #[.bool (soB xs t)] 4))
    have hB4 := hB3.trans (bB.mono hs3)
    have hs4 := hB4.size
    have hk4 := RdS.below hk3 bB
    clear kA bA bB hk3 hb3 hk2 hs3 hB3
    generalize ((w3.alloc (.cells #[.string (spB xs t)] 9)).alloc (.cells #[.bool (soB xs t)] 4)) = w4 at *
    refine (renameW_c (otB (soB xs t)) (fun _ => spB xs t) _ _ _ v2 w4 hln hk4 (fun a W hW => tellW_c _ _ _ _ a W (kA2.keep hW) (kB.keep hW))).mono ?_
    rintro e w5 ⟨v5, rfl, ho5, hb5⟩
    rw [HOW.out] at ho5
    have hB5 := hB4.trans (hb5.mono hs4)
    have ho6 := own_more ho5 hs4
    clear ho5 hb5
    go_wp2
    go_ret2
    exact ⟨_, rfl, ho6, hB5⟩
  · have HN := Lib.hid (owS_no hv)
    have hown0 : ∀ W : World, W.ownsRow w.heap.size 72 3 (.slice none 0 0) ([] : List St).length (scells []) := fun W => ⟨rfl, .inl ⟨rfl, rfl⟩⟩
    rw [hv] at HK ⊢
    clear hv hx hT
    go_enter Tryd.func40, Tryd.ntmps40
    go_wp2_with fail
    refine HK.out.mono ?_
    rintro e w1 ⟨v1, rfl, ho1, hb1⟩
    clear ho1
    go_wp2
    go_ret2
    exact ⟨_, rfl, by rw [HN.out]; exact hown0 _, hb1⟩
end Go.Proofs.YtplapaojgcloaaaDoor
namespace Go.PE
open Go.PM Go.RowKit
theorem kw_all (xs : List Mv) (t : ByteArray) : owS xs t = (stL (ordF 19 (busyF (kwM xs t) 9))).map (rnX (spN xs t)) := by
  rw [← ordM_yes kwM_MV]; rfl
end Go.PE
namespace Go.Proofs.YtplapaojgcloaaaDoor
open Go.RowKit Go.PM Go.PE
attribute [local go_sem] Oper.semAt_some

theorem infoSt9 : (Tryd.prog.info? 72).map (fun i => (i.zero, i.size, i.bytes)) = some (some (.agg #[.int .i64 0, .string ⟨#[]⟩, .string ⟨#[]⟩]), 3, 40) := by kernel_rfl
/-- append of one step, and where it lies -/
theorem app_lies_st {ops : Array Oper} {rest : List Oper} {o : Oper} {a : Act} {Q : Exit → Act → World → Prop} {w : World} (hgd : o.guard = none) (s x : Operand)
    (ho : o.op = .call { callee := .builtin .append, args := #[s, x], argTypes := #[23, 23] })
    (base : Nat) (v : Value) (ys : List St) (m : St) (ad : Addr) (c : Nat) (hs : a.eval s = v) (hx : a.eval x = .slice (some ad) 1 c)
    (hown : w.ownsRow base 72 3 v ys.length (scells ys)) (hnew : ∀ j u, [Value.int .i64 m.1, Value.string m.2.1, Value.string m.2.2][j]? = some u → w.cell? (ad.add j) = some u)
    (hlen : ys.length ≤ 1048576) (hbase : base ≤ w.heap.size)
    (h : ∀ v' w', w'.ownsRow base 72 3 v' (ys ++ [m]).length (scells (ys ++ [m])) → w.grownBy w' v.ownBlock → (v'.ownBlock = v.ownBlock ∨ v'.ownBlock = some w.heap.size) → wpList Tryd.prog ops Q rest (a.put o.dst v') w') : wpList Tryd.prog ops Q (o :: rest) a w := by
  obtain ⟨i0, hi0, hz0, hz1, hz2⟩ := info_parts infoSt9
  refine wpList_append_lies w hgd s x _ ho base 72 i0 _ 3 40 Tryd.underlying23 hi0 hz0 hz1 hz2 rfl (by omega) v ys.length (scells ys) hs hown ad 1 c [Value.int .i64 m.1, Value.string m.2.1, Value.string m.2.2] hx rfl hnew
    (by intro u hu; simp at hu; rcases hu with rfl | rfl | rfl <;> rfl) (by omega) (by simp only [maxLen]; omega) (by omega) hbase _ rfl ?_
  intro g cap w' h2 h3 h4 _
  have hcs : scells ys ++ [Value.int .i64 m.1, Value.string m.2.1, Value.string m.2.2] = scells (ys ++ [m]) := by rw [scells_append]; simp [scells]
  refine h _ w' ?_ h3 ?_
  · rw [← hcs, List.length_append]; exact h2
  · rcases h4 with h4 | h4
    · exact .inl h4.symm
    · right; rw [h4]; rfl

theorem cells_new9 (W : World) (a : Array Value) (e : TypeId) : ∀ j u, a.toList[j]? = some u → (W.alloc (.cells a e)).cell? ((⟨W.heap.size, 0, none⟩ : Addr).add j) = some u := fun j u h => by
  rw [add_off, Nat.zero_add]
  exact (At.new W e a).cell j |>.trans (by rw [← Array.getElem?_toList]; exact h)
set_option maxRecDepth 100000 in
set_option maxHeartbeats 3200000 in
theorem spOrderWanted_c (xs : List Mv) (v : Value) (t : ByteArray) (ht : t.size ≤ 1048576) (w : World) (hx : RdM w v xs) (hz : ∀ m ∈ xs, m.1.size ≤ 9223372036854775807 ∧ m.2.size ≤ 9223372036854775807) (hn' : xs.length ≤ 1048576) :
    Calls Tryd.prog 39 #[v, .string t] w fun e w' => ∃ v', e = .returned (.tuple #[v', .bool (mvalid xs && wvB t)]) ∧ w'.ownsRow w.heap.size 72 3 v' (owS xs t).length (scells (owS xs t)) ∧ Below w.heap.size w w' := by
  have HK := Lib.hid (spKeepWanted_c xs v t ht w hx hz hn')
  have HO := Lib.hid (fun v' W hW => l5Order_c (kwM xs t) kwM_MV v' W hW)
  have HS := Lib.hid (fun W hb => spSpareFor_c xs v t ht W (hx.below hb) hz hn')
  rcases Bool.eq_false_or_eq_true (mvalid xs && wvB t) with hv | hv
  · have hl19 := ordF_len 19 (busyF (kwM xs t) 9)
    have HYL : Hid (∀ k (hk : k < (stL (ordF 19 (busyF (kwM xs t) 9))).length), (((stL (ordF 19 (busyF (kwM xs t) 9))).take k).map (tlX (otB (soB xs t)) (fun _ => spB xs t))) ++ [tlX (otB (soB xs t)) (fun _ => spB xs t) (stL (ordF 19 (busyF (kwM xs t) 9)))[k]] = ((stL (ordF 19 (busyF (kwM xs t) 9))).take (k + 1)).map (tlX (otB (soB xs t)) (fun _ => spB xs t))) := fun k hk => by rw [take_snoc _ k hk, List.map_append]; rfl
    have HTK : Hid ((stL (ordF 19 (busyF (kwM xs t) 9))).map (tlX (otB (soB xs t)) (fun _ => spB xs t)) = owS xs t) := by show _ = _; rw [ot_map, kw_all]
    have hll : (stL (ordF 19 (busyF (kwM xs t) 9))).length ≤ 19 := by rw [stL_len']; exact hl19
    have hlq : (ordF 19 (busyF (kwM xs t) 9)).length = (stL (ordF 19 (busyF (kwM xs t) 9))).length := (stL_len' _).symm
    rw [hlq] at HO
    rw [hv] at HK ⊢
    generalize stL (ordF 19 (busyF (kwM xs t) 9)) = ss at *
    generalize kwM xs t = kw at *
    generalize spB xs t = sp at *
    generalize soB xs t = so at *
    generalize owS xs t = ow at *
    clear hv hx hl19 hlq
    go_enter Tryd.func39, Tryd.ntmps39
    go_wp2_with fail
    refine HK.out.mono ?_
    rintro e w1 ⟨v1, rfl, ho1, hb1⟩
    have hs1 := hb1.size
    have hE := World.ownsRow_lit (e := 72) (base := w.heap.size) (size := 3) w1 #[] 0 hs1 (Nat.zero_le _) rfl
    have bA : Below w1.heap.size w1 (w1.alloc (.cells #[] 72)) := (Below.refl _ _).alloc (Nat.le_refl _) _
    have hB2 := hb1.trans (bA.mono hs1)
    have hk2 := (Rd.of_own (own_keep ho1 bA))
    clear ho1 hb1 bA
    go_wp2_with fail
    refine (HS.out _ hB2).mono ?_
    rintro e w3 ⟨rfl, hb3⟩
    have hs2 := hB2.size
    have hB3 := hB2.trans (hb3.mono hs2)
    have hs3 := hB3.size
    have hk3 := RdM.below hk2 hb3
    have hE3 := own_keep hE hb3
    clear hE hk2
    go_wp2_with (first | done | (go_at_call 84; refine (HO.out _ _ hk3).mono ?_; rintro e w4 ⟨z, rfl, hoz, hb4⟩; refine held ?_))
    unfold Held
    have hap : z.ownBlock ≠ (Value.slice (some ⟨w1.heap.size, 0, none⟩) 0 0).ownBlock ∨ (Value.slice (some ⟨w1.heap.size, 0, none⟩) 0 0).ownBlock = none := ne_turn (own_ne hE3 hoz (Nat.le_refl _))
    have hoz2 := own_more hoz hs3
    have hE4 := own_keep hE3 hb4
    have hB4 := hB3.trans (hb4.mono hs3)
    have hlv : lenV z = ss.length := by obtain ⟨A, c, e, _⟩ := Rd.of_own hoz; rw [e]; rfl
    clear hE3 hB3 hb4 hoz hk3 hb3 hs3 hs2 hB2
    have hzz : ∃ A c, z = .slice A ss.length c := by obtain ⟨A, c, e, _⟩ := Rd.of_own hoz2; exact ⟨A, c, e⟩
    obtain ⟨Az, cz, rfl⟩ := hzz
    go_wp2
    go_loopw [8, 12, 32] (fun o _ i wr => ∃ (k : Nat), k ≤ ss.length ∧ i = .int .i64 k ∧ wr.ownsRow w.heap.size 72 3 (.slice Az ss.length cz) ss.length (scells ss) ∧ wr.ownsRow w.heap.size 72 3 o ((ss.take k).map (tlX (otB so) (fun _ => sp))).length (scells ((ss.take k).map (tlX (otB so) (fun _ => sp)))) ∧ ((Value.slice Az ss.length cz).ownBlock ≠ o.ownBlock ∨ o.ownBlock = none) ∧ Below w.heap.size w wr) (fun _ _ i _ => ss.length - (RowKit.intOf i).toNat)
    case atStart => exact ⟨0, by omega, rfl, own_keep hoz2 (Below.refl _ _), hE4, hap, hB4⟩
    case round =>
      clear hoz2 hE4 hap hB4
      obtain ⟨k, hk, rfl, hoz, ho, hap, hb⟩ := hrel
      have hbs := hb.size
      by_cases hlt : k < ss.length
      · obtain ⟨A, cap, eA, hn, hc, hcell⟩ := RdS.open (Rd.of_own hoz)
        obtain ⟨b, off, rfl, hbl, hc1, hc2, hc3⟩ := hcell k hlt
        obtain ⟨rfl, -, rfl⟩ := (by simpa using eA : _ ∧ _)
        have hd1 := hc1
        have hd2 := hc2
        have hd3 := hc3
        clear hc1 hc2 hc3 hcell eA
        have HYK := Lib.hid (HYL.out k hlt)
        have hlk : ((ss.take k).map (tlX (otB so) (fun _ => sp))).length ≤ 1048576 := by rw [List.length_map, List.length_take]; omega
        unfold tlX tlB otB at HYK
        rw [← beq_t, ← beq_t] at HYK
        change Hid (_ ++ [_] = List.map (tlX (otB so) (fun _ => sp)) _) at HYK
        change Hid (List.map (tlX (otB so) (fun _ => sp)) (ss.take k) ++ [_] = _) at HYK
        generalize (ss.take k).map (tlX (otB so) (fun _ => sp)) = zs at *
        generalize ss[k].1 = x1 at *
        generalize ss[k].2.1 = x2 at *
        generalize ss[k].2.2 = x3 at *
        have i1 : (k : Int) < (ss.length : Int) := by omega
        have i0' : (0 : Int) ≤ (k : Int) := by omega
        cases so with
        | false =>
          have HYB : Hid (zs ++ [(x1, x2, x3)] = List.map (tlX (otB false) (fun _ => sp)) (ss.take (k + 1))) := HYK.out
          clear HYK HK HO HS HYL HTK
          have bA : Below wr.heap.size wr (wr.alloc (.cells #[.int .i64 x1, .string x2, .string x3] 72)) := (Below.refl _ _).alloc (Nat.le_refl _) _
          have ho0 := own_keep ho bA
          have hoz0 := own_keep hoz bA
          have hb0 := hb.trans (bA.mono hbs)
          have hs0 := hb0.size
          have hsz : (wr.alloc (.cells #[.int .i64 x1, .string x2, .string x3] 72)).heap.size = wr.heap.size + 1 := by simp
          have hnw := cells_new9 (wr.alloc (.cells #[.int .i64 x1, .string x2, .string x3] 72)) #[.int .i64 x1, .string x2, .string x3] 72
          rw [hsz] at hnw
          go_wp2_with (at_builtin; refine held ?_)
          unfold Held
          generalize (wr.alloc (.cells #[.int .i64 x1, .string x2, .string x3] 72)) = Wn at *
          have bn : Below Wn.heap.size Wn (Wn.alloc (.cells #[.int .i64 x1, .string x2, .string x3] 72)) := (Below.refl _ _).alloc (Nat.le_refl _) _
          refine app_lies_st rfl (.tmp 56) (.tmp 58) rfl w.heap.size u8 zs (x1, x2, x3) ⟨wr.heap.size + 1, 0, none⟩ 1 (by rfl) (by rfl) (own_keep ho0 bn) hnw hlk (by simp; omega) ?_
          intro v' wx hv' hg' hl'
          have zx := own_grown (own_keep hoz0 bn) hg' hap
          have hbx := (hb0.trans (bn.mono hs0)).trans (below_grown hg' (B := w.heap.size) (by simp; omega) (own_block_ge ho0))
          have hap' : (Value.slice (some ⟨b, off, none⟩) ss.length cz).ownBlock ≠ v'.ownBlock ∨ v'.ownBlock = none := by
            rcases hl' with hl' | hl'
            · rw [hl']; exact hap
            · left; rw [hl', World.size_alloc]
              intro e
              have := (own_blk hoz0 e).1
              omega
          rw [HYB.out] at hv'
          clear hg' hl' hnw bn hap ho0 hoz0 hb0
          go_wp2
          go_roundw
          case rel => exact ⟨k + 1, by omega, by go_num, zx, hv', hap', hbx⟩
          case measure => simp [RowKit.intOf]; omega
        | true =>
          generalize h2 : (x2.toList == [116]) = e2 at *
          generalize h3 : (x3.toList == [116]) = e3 at *
          cases e2 with
          | true =>
            cases e3 with
            | true =>
              have HYB : Hid (zs ++ [(x1, sp, sp)] = List.map (tlX (otB true) (fun _ => sp)) (ss.take (k + 1))) := HYK.out
              clear HYK HK HO HS HYL HTK
              have bA : Below wr.heap.size wr (wr.alloc (.cells #[.int .i64 x1, .string sp, .string sp] 72)) := (Below.refl _ _).alloc (Nat.le_refl _) _
              have ho0 := own_keep ho bA
              have hoz0 := own_keep hoz bA
              have hb0 := hb.trans (bA.mono hbs)
              have hs0 := hb0.size
              have hsz : (wr.alloc (.cells #[.int .i64 x1, .string sp, .string sp] 72)).heap.size = wr.heap.size + 1 := by simp
              have hnw := cells_new9 (wr.alloc (.cells #[.int .i64 x1, .string sp, .string sp] 72)) #[.int .i64 x1, .string sp, .string sp] 72
              rw [hsz] at hnw
              go_wp2_with (at_builtin; refine held ?_)
              unfold Held
              generalize (wr.alloc (.cells #[.int .i64 x1, .string sp, .string sp] 72)) = Wn at *
              have bn : Below Wn.heap.size Wn (Wn.alloc (.cells #[.int .i64 x1, .string sp, .string sp] 72)) := (Below.refl _ _).alloc (Nat.le_refl _) _
              refine app_lies_st rfl (.tmp 56) (.tmp 58) rfl w.heap.size u8 zs (x1, sp, sp) ⟨wr.heap.size + 1, 0, none⟩ 1 (by rfl) (by rfl) (own_keep ho0 bn) hnw hlk (by simp; omega) ?_
              intro v' wx hv' hg' hl'
              have zx := own_grown (own_keep hoz0 bn) hg' hap
              have hbx := (hb0.trans (bn.mono hs0)).trans (below_grown hg' (B := w.heap.size) (by simp; omega) (own_block_ge ho0))
              have hap' : (Value.slice (some ⟨b, off, none⟩) ss.length cz).ownBlock ≠ v'.ownBlock ∨ v'.ownBlock = none := by
                rcases hl' with hl' | hl'
                · rw [hl']; exact hap
                · left; rw [hl', World.size_alloc]
                  intro e
                  have := (own_blk hoz0 e).1
                  omega
              rw [HYB.out] at hv'
              clear hg' hl' hnw bn hap ho0 hoz0 hb0
              go_wp2
              go_roundw
              case rel => exact ⟨k + 1, by omega, by go_num, zx, hv', hap', hbx⟩
              case measure => simp [RowKit.intOf]; omega
            | false =>
              have HYB : Hid (zs ++ [(x1, sp, x3)] = List.map (tlX (otB true) (fun _ => sp)) (ss.take (k + 1))) := HYK.out
              clear HYK HK HO HS HYL HTK
              have bA : Below wr.heap.size wr (wr.alloc (.cells #[.int .i64 x1, .string sp, .string x3] 72)) := (Below.refl _ _).alloc (Nat.le_refl _) _
              have ho0 := own_keep ho bA
              have hoz0 := own_keep hoz bA
              have hb0 := hb.trans (bA.mono hbs)
              have hs0 := hb0.size
              have hsz : (wr.alloc (.cells #[.int .i64 x1, .string sp, .string x3] 72)).heap.size = wr.heap.size + 1 := by simp
              have hnw := cells_new9 (wr.alloc (.cells #[.int .i64 x1, .string sp, .string x3] 72)) #[.int .i64 x1, .string sp, .string x3] 72
              rw [hsz] at hnw
              go_wp2_with (at_builtin; refine held ?_)
              unfold Held
              generalize (wr.alloc (.cells #[.int .i64 x1, .string sp, .string x3] 72)) = Wn at *
              have bn : Below Wn.heap.size Wn (Wn.alloc (.cells #[.int .i64 x1, .string sp, .string x3] 72)) := (Below.refl _ _).alloc (Nat.le_refl _) _
              refine app_lies_st rfl (.tmp 56) (.tmp 58) rfl w.heap.size u8 zs (x1, sp, x3) ⟨wr.heap.size + 1, 0, none⟩ 1 (by rfl) (by rfl) (own_keep ho0 bn) hnw hlk (by simp; omega) ?_
              intro v' wx hv' hg' hl'
              have zx := own_grown (own_keep hoz0 bn) hg' hap
              have hbx := (hb0.trans (bn.mono hs0)).trans (below_grown hg' (B := w.heap.size) (by simp; omega) (own_block_ge ho0))
              have hap' : (Value.slice (some ⟨b, off, none⟩) ss.length cz).ownBlock ≠ v'.ownBlock ∨ v'.ownBlock = none := by
                rcases hl' with hl' | hl'
                · rw [hl']; exact hap
                · left; rw [hl', World.size_alloc]
                  intro e
                  have := (own_blk hoz0 e).1
                  omega
              rw [HYB.out] at hv'
              clear hg' hl' hnw bn hap ho0 hoz0 hb0
              go_wp2
              go_roundw
              case rel => exact ⟨k + 1, by omega, by go_num, zx, hv', hap', hbx⟩
              case measure => simp [RowKit.intOf]; omega
          | false =>
            cases e3 with
            | true =>
              have HYB : Hid (zs ++ [(x1, x2, sp)] = List.map (tlX (otB true) (fun _ => sp)) (ss.take (k + 1))) := HYK.out
              clear HYK HK HO HS HYL HTK
              have bA : Below wr.heap.size wr (wr.alloc (.cells #[.int .i64 x1, .string x2, .string sp] 72)) := (Below.refl _ _).alloc (Nat.le_refl _) _
              have ho0 := own_keep ho bA
              have hoz0 := own_keep hoz bA
              have hb0 := hb.trans (bA.mono hbs)
              have hs0 := hb0.size
              have hsz : (wr.alloc (.cells #[.int .i64 x1, .string x2, .string sp] 72)).heap.size = wr.heap.size + 1 := by simp
              have hnw := cells_new9 (wr.alloc (.cells #[.int .i64 x1, .string x2, .string sp] 72)) #[.int .i64 x1, .string x2, .string sp] 72
              rw [hsz] at hnw
              go_wp2_with (at_builtin; refine held ?_)
              unfold Held
              generalize (wr.alloc (.cells #[.int .i64 x1, .string x2, .string sp] 72)) = Wn at *
              have bn : Below Wn.heap.size Wn (Wn.alloc (.cells #[.int .i64 x1, .string x2, .string sp] 72)) := (Below.refl _ _).alloc (Nat.le_refl _) _
              refine app_lies_st rfl (.tmp 56) (.tmp 58) rfl w.heap.size u8 zs (x1, x2, sp) ⟨wr.heap.size + 1, 0, none⟩ 1 (by rfl) (by rfl) (own_keep ho0 bn) hnw hlk (by simp; omega) ?_
              intro v' wx hv' hg' hl'
              have zx := own_grown (own_keep hoz0 bn) hg' hap
              have hbx := (hb0.trans (bn.mono hs0)).trans (below_grown hg' (B := w.heap.size) (by simp; omega) (own_block_ge ho0))
              have hap' : (Value.slice (some ⟨b, off, none⟩) ss.length cz).ownBlock ≠ v'.ownBlock ∨ v'.ownBlock = none := by
                rcases hl' with hl' | hl'
                · rw [hl']; exact hap
                · left; rw [hl', World.size_alloc]
                  intro e
                  have := (own_blk hoz0 e).1
                  omega
              rw [HYB.out] at hv'
              clear hg' hl' hnw bn hap ho0 hoz0 hb0
              go_wp2
              go_roundw
              case rel => exact ⟨k + 1, by omega, by go_num, zx, hv', hap', hbx⟩
              case measure => simp [RowKit.intOf]; omega
            | false =>
              have HYB : Hid (zs ++ [(x1, x2, x3)] = List.map (tlX (otB true) (fun _ => sp)) (ss.take (k + 1))) := HYK.out
              clear HYK HK HO HS HYL HTK
              have bA : Below wr.heap.size wr (wr.alloc (.cells #[.int .i64 x1, .string x2, .string x3] 72)) := (Below.refl _ _).alloc (Nat.le_refl _) _
              have ho0 := own_keep ho bA
              have hoz0 := own_keep hoz bA
              have hb0 := hb.trans (bA.mono hbs)
              have hs0 := hb0.size
              have hsz : (wr.alloc (.cells #[.int .i64 x1, .string x2, .string x3] 72)).heap.size = wr.heap.size + 1 := by simp
              have hnw := cells_new9 (wr.alloc (.cells #[.int .i64 x1, .string x2, .string x3] 72)) #[.int .i64 x1, .string x2, .string x3] 72
              rw [hsz] at hnw
              go_wp2_with (at_builtin; refine held ?_)
              unfold Held
              generalize (wr.alloc (.cells #[.int .i64 x1, .string x2, .string x3] 72)) = Wn at *
              have bn : Below Wn.heap.size Wn (Wn.alloc (.cells #[.int .i64 x1, .string x2, .string x3] 72)) := (Below.refl _ _).alloc (Nat.le_refl _) _
              refine app_lies_st rfl (.tmp 56) (.tmp 58) rfl w.heap.size u8 zs (x1, x2, x3) ⟨wr.heap.size + 1, 0, none⟩ 1 (by rfl) (by rfl) (own_keep ho0 bn) hnw hlk (by simp; omega) ?_
              intro v' wx hv' hg' hl'
              have zx := own_grown (own_keep hoz0 bn) hg' hap
              have hbx := (hb0.trans (bn.mono hs0)).trans (below_grown hg' (B := w.heap.size) (by simp; omega) (own_block_ge ho0))
              have hap' : (Value.slice (some ⟨b, off, none⟩) ss.length cz).ownBlock ≠ v'.ownBlock ∨ v'.ownBlock = none := by
                rcases hl' with hl' | hl'
                · rw [hl']; exact hap
                · left; rw [hl', World.size_alloc]
                  intro e
                  have := (own_blk hoz0 e).1
                  omega
              rw [HYB.out] at hv'
              clear hg' hl' hnw bn hap ho0 hoz0 hb0
              go_wp2
              go_roundw
              case rel => exact ⟨k + 1, by omega, by go_num, zx, hv', hap', hbx⟩
              case measure => simp [RowKit.intOf]; omega
      · have hk' : k = ss.length := by omega
        rw [hk', List.take_length, HTK.out] at ho
        have HF := Lib.hid ho
        have i1 : ¬ (k : Int) < (ss.length : Int) := by omega
        clear ho hk' hoz hap HK HO HS HYL HTK
        go_wp2
        go_ret2
        exact ⟨_, rfl, HF.out, hb⟩
  · have HN := Lib.hid (owS_no hv)
    rw [hv] at HK ⊢
    clear hv hx
    go_enter Tryd.func39, Tryd.ntmps39
    go_wp2_with fail
    refine HK.out.mono ?_
    rintro e w1 ⟨v1, rfl, ho1, hb1⟩
    have hs1 := hb1.size
    have hE := World.ownsRow_lit (e := 72) (base := w.heap.size) (size := 3) w1 #[] 0 hs1 (Nat.zero_le _) rfl
    clear ho1
    go_wp2
    go_ret2
    exact ⟨_, rfl, by rw [HN.out]; exact hE, hb1.alloc hs1 _⟩
end Go.Proofs.YtplapaojgcloaaaDoor
namespace Go.PE
open Go.PM Go.RowKit
theorem rnB_size (s : Nat) {a : ByteArray} (h : a.size = 1) : (rnB s a).size = 1 := by
  unfold rnB; split
  · rfl
  · exact h
theorem ow_sh (xs : List Mv) (t : ByteArray) : shS 70 (owS xs t) := by
  have hv := ordM_valid (kwM_MV (ys := xs) (t := t))
  have hl := svalid_len hv
  refine ⟨?_, fun x hx => ?_⟩
  · rw [owS_len, ← stL_len']; omega
  · unfold owS at hx
    obtain ⟨y, hy, rfl⟩ := List.mem_map.1 hx
    obtain ⟨k, a, b⟩ := y
    have hok := Go.PD.sv_mem hv _ hy
    obtain ⟨s1, s2⟩ := st_sizes1 hok
    exact ⟨by show (rnB _ a).size ≤ 64; rw [rnB_size _ s1]; decide, by show (rnB _ b).size ≤ 64; rw [rnB_size _ s2]; decide⟩
end Go.PE
namespace Go.Proofs.YtplapaojgcloaaaDoor
open Go.RowKit Go.PM Go.PE

set_option maxRecDepth 100000 in
set_option maxHeartbeats 1600000 in
theorem l9Wanted_c (w : World) (B r : Nat) (p : Int) (hr : Rdr w 122 B r p) (p1 : p ≤ 1000000) :
    Calls Tryd.prog 48 #[.pointer (some ⟨r, 0, none⟩)] w fun e w' => ∃ s p', e = .returned (.string s) ∧ Hid (s.size ≤ 20) ∧ Rdr w' 122 B r p' ∧ p' ≤ p + 20 ∧ w.grownBy w' (some r) := by
  have hlt : r < w.heap.size := by obtain ⟨_, _, v, n, _, _, h⟩ := hr; exact h.lt
  have HP3 := Lib.hid (fun W q (R : Rdr W 122 B r q) (hq : q ≤ 1000100) => pick_c W B r 3 q R (by omega) (by omega) (by omega))
  have HP16 := Lib.hid (fun W q (R : Rdr W 122 B r q) (hq : q ≤ 1000100) => pick_c W B r 16 q R (by omega) (by omega) (by omega))
  have HN : Hid (∀ q, q < 9 → ((ByteArray.mk #[97, 98, 99, 100, 101, 102, 65, 66, 67]).extract q (q+1)).size = 1) := fun q hq => by rw [ByteArray.size_extract]; simp [ByteArray.size]; omega
  have g0 : w.grownBy w (some r) := grown_refl _ _
  go_enter Tryd.func48, Tryd.ntmps48
  go_wp2
  go_loopw [3, 4, 5] (fun o _ i wr => ∃ (k : Nat) (s : ByteArray) (q : Int), k ≤ 9 ∧ i = .int .i64 k ∧ o = .string s ∧ s.size ≤ k ∧ Rdr wr 122 B r q ∧ q ≤ p + k ∧ w.grownBy wr (some r)) (fun _ _ i _ => 9 - (RowKit.intOf i).toNat)
  case atStart => exact ⟨0, ⟨#[]⟩, p, by omega, rfl, rfl, Nat.le_refl _, hr, by omega, g0⟩
  case round =>
    clear hr g0
    obtain ⟨k, s, q, hk, rfl, rfl, hs, hr, hq, hg⟩ := hrel
    by_cases hlt2 : k < 9
    · have i0 : (0 : Int) ≤ (k : Int) := by omega
      have i1 : (k : Int) < 9 := by omega
      have hz := HN.out k hlt2
      have HPP := Lib.hid (HP3.out wr q hr (by omega))
      go_wp2_with fail
      refine HPP.out.mono ?_
      rintro e w2 ⟨j, rfl, k0, k1, R2, g2⟩
      have G2 := grown_trans hg g2
      by_cases h0 : j = 0
      · subst h0
        go_wp2
        go_roundw
        case rel => exact ⟨k + 1, _, q + 1, by omega, by go_num, rfl, by rw [ByteArray.size_append, hz]; omega, R2, by omega, G2⟩
        case measure => simp [RowKit.intOf]; omega
      · have t0 : (j == 0) = false := by simpa using h0
        go_wp2
        go_roundw
        case rel => exact ⟨k + 1, s, q + 1, by omega, by go_num, rfl, by omega, R2, by omega, G2⟩
        case measure => simp [RowKit.intOf]; omega
    · have hk9 : k = 9 := by omega
      subst hk9
      have HPP := Lib.hid (HP16.out wr q hr (by omega))
      go_wp2_with fail
      refine HPP.out.mono ?_
      rintro e w2 ⟨j, rfl, k0, k1, R2, g2⟩
      have G2 := grown_trans hg g2
      have hs2 := G2.size
      by_cases h0 : j = 0
      · subst h0
        go_wp2_with fail
        refine (of_c _ B r w2.heap.size 4 (q + 1) (fun s => s.size ≤ 4) (R2.keep ((Below.refl _ _).alloc (Nat.le_refl _) _)) (by decide) (by decide) (by omega) (Lits.strs _ _ _ 4 (by rfl)) (by omega)).mono ?_
        rintro e w3 ⟨s1, rfl, hz1, R3, g3⟩
        have G3 := grown_trans G2 (grown_trans (grown_below ((Below.refl _ _).alloc (Nat.le_refl _) _) (some r)) g3)
        go_wp2
        go_ret
        exact ⟨_, _, rfl, by show _ ≤ _; rw [ByteArray.size_append]; omega, R3, by omega, G3⟩
      · have t0 : (j == 0) = false := by simpa using h0
        by_cases h1 : j = 1
        · subst h1
          go_wp2
          go_ret
          exact ⟨_, _, rfl, by show _ ≤ _; decide, R2, by omega, G2⟩
        · have t1 : (j == 1) = false := by simpa using h1
          go_wp2
          go_ret
          exact ⟨_, _, rfl, by show _ ≤ _; omega, R2, by omega, G2⟩
set_option maxHeartbeats 800000 in
theorem l9Moves_c (w : World) (B r : Nat) (p : Int) (hr : Rdr w 122 B r p) (p1 : p ≤ 500000) :
    Calls Tryd.prog 106 #[.pointer (some ⟨r, 0, none⟩)] w fun e w' => ∃ v xs p', e = .returned v ∧ w'.ownsRow w.heap.size 70 2 v xs.length (mcells xs) ∧ Hid (xs.length ≤ 65 ∧ ∀ m ∈ xs, m.1.size ≤ 64 ∧ m.2.size ≤ 64) ∧ Rdr w' 122 B r p' ∧ p' ≤ p + 110 ∧ w.grownBy w' (some r) := by
  have HP := Lib.hid (pick_c w B r 3 p hr (by omega) (by omega) (by omega))
  go_enter Tryd.func106, Tryd.ntmps106
  go_wp2_with fail
  refine HP.out.mono ?_
  rintro e w1 ⟨k, rfl, k0, k1, R1, g1⟩
  have hs1 := g1.size
  by_cases h0 : k = 0
  · subst h0
    have HE := Lib.hid (l4Exchange_c w1 B r (p + 1) R1 (by omega))
    go_wp2_with fail
    refine HE.out.mono ?_
    rintro e w2 ⟨v, xs, p', rfl, ho, hsh, R2, hp, g2⟩
    have HSH := Lib.hid hsh
    clear hsh
    go_wp2
    go_ret
    exact ⟨_, xs, _, rfl, own_more ho hs1, HSH.out, R2, by omega, grown_trans g1 g2⟩
  · have t0 : (k == 0) = false := by simpa using h0
    have HE := Lib.hid (l1Some_c w1 B r (p + 1) R1 (by omega))
    go_wp2_with fail
    refine HE.out.mono ?_
    rintro e w2 ⟨v, xs, p', rfl, ho, hsh, R2, hp, g2⟩
    have HSH := Lib.hid hsh
    clear hsh
    go_wp2
    go_ret
    exact ⟨_, xs, _, rfl, own_more ho hs1, HSH.out, R2, by omega, grown_trans g1 g2⟩
set_option maxHeartbeats 800000 in
theorem l9Some_c (w : World) (B r : Nat) (p : Int) (hr : Rdr w 122 B r p) (p1 : p ≤ 500000) :
    Calls Tryd.prog 60 #[.pointer (some ⟨r, 0, none⟩)] w fun e w' => ∃ v s xs p', e = .returned (.tuple #[v, .string s]) ∧ w'.ownsRow w.heap.size 70 2 v xs.length (mcells xs) ∧ Hid (s.size ≤ 20 ∧ xs.length ≤ 65 ∧ ∀ m ∈ xs, m.1.size ≤ 64 ∧ m.2.size ≤ 64) ∧ Rdr w' 122 B r p' ∧ p' ≤ p + 200 ∧ w.grownBy w' (some r) := by
  have hlt : r < w.heap.size := by obtain ⟨_, _, v, n, _, _, h⟩ := hr; exact h.lt
  have HM := Lib.hid (l9Moves_c w B r p hr p1)
  go_enter Tryd.func60, Tryd.ntmps60
  go_wp2_with fail
  refine HM.out.mono ?_
  rintro e w1 ⟨v, xs, p2, rfl, ho, hsh, R1, hp, g1⟩
  have HW := Lib.hid (l9Wanted_c w1 B r p2 R1 (by omega))
  go_wp2_with fail
  refine HW.out.mono ?_
  rintro e w2 ⟨s, p3, rfl, hz, R2, hp3, g2⟩
  have ho2 := own_grown ho g2 (.inl (fun e => by have := own_block_ge ho r e; omega))
  go_wp2
  go_ret2
  exact ⟨_, s, xs, _, rfl, ho2, ⟨hz.out, hsh.out⟩, R2, by omega, grown_trans g1 g2⟩
set_option maxRecDepth 100000 in
set_option maxHeartbeats 1600000 in
theorem drawIsRightFor_c (w : World) (v : Value) (n : Nat) (hv : RdB w w.heap.size v n) :
    Calls Tryd.prog 21 #[v] w fun e w' => ∃ u y s xs ys, e = .returned (.tuple #[u, y, .string s]) ∧ w'.ownsRow w.heap.size 72 3 u xs.length (scells xs) ∧ w'.ownsRow w.heap.size 70 2 y ys.length (mcells ys) ∧ Hid (shS 70 xs ∧ s.size ≤ 20 ∧ ys.length ≤ 65 ∧ ∀ m ∈ ys, m.1.size ≤ 64 ∧ m.2.size ≤ 64) ∧ Below w.heap.size w w' := by
  have HO := Lib.hid (l13Open_c w v n hv)
  go_enter Tryd.func21, Tryd.ntmps21
  go_wp2_with fail
  refine HO.out.mono ?_
  rintro e w1 ⟨r, rfl, R1, b1⟩
  have hs1 := b1.size
  have hB := R1.1
  have HS := Lib.hid (l9Some_c w1 _ r 0 R1 (by omega))
  go_wp2_with fail
  refine HS.out.mono ?_
  rintro e w2 ⟨y, s, ys, p2, rfl, hoy, hsh, R2, hp, g2⟩
  have hlt : r < w1.heap.size := by obtain ⟨_, _, v, n, _, _, h⟩ := R1; exact h.lt
  have hs2 := g2.size
  have b2 : Below w.heap.size w w2 := b1.trans (below_grown g2 hs1 (fun g e => by cases e; exact hB))
  have HE := Lib.hid (spOrderWanted_c ys y s (by have := hsh.out.1; omega) w2 (Rd.of_own hoy) (fun m hm => by have := hsh.out.2.2 m hm; omega) (by have := hsh.out.2.1; omega))
  have HSW := Lib.hid (ow_sh ys s)
  clear HO HS
  generalize owS ys s = es at *
  generalize (mvalid ys && wvB s) = eo at *
  go_wp2_with fail
  refine HE.out.mono ?_
  rintro e w3 ⟨u, rfl, hou, b3⟩
  have hy3 := own_keep hoy b3
  have R3 := R2.keep b3
  have hs3 := b3.size
  have B3 : Below w.heap.size w w3 := b2.trans (b3.mono (by omega))
  clear HE hoy R2 b3 b2 g2
  have HL := Lib.hid (fun W q (R : Rdr W 122 w.heap.size r q) (hq : q ≤ 900000) => l2Some_c W w.heap.size r q R hq)
  cases eo
  case false =>
    go_wp2_with fail
    refine (HL.out _ _ R3 (by omega)).mono ?_
    rintro e w5 ⟨z, xs, p5, rfl, hoz, hsz, R5, hp5, g5⟩
    have HSZ := Lib.hid hsz
    have hy5 := own_more (own_grown hy3 g5 (.inl (fun e => by have := own_block_ge hy3 r e; omega))) hs1
    have hz5 := own_more hoz (show w.heap.size ≤ w3.heap.size by omega)
    have B5 : Below w.heap.size w w5 := B3.trans (below_grown g5 (by omega) (fun g e => by cases e; exact hB))
    clear hsz
    go_wp2
    refine bodyPost_ret (results_tmp3 Tryd.results21 _ _ _) rfl ?_
    exact ⟨_, _, s, xs, ys, rfl, hz5, hy5, ⟨HSZ.out, hsh.out⟩, B5⟩
  case true =>
    have HP := Lib.hid (pick_c w3 _ r 2 p2 R3 (by omega) (by omega) (by omega))
    go_wp2_with fail
    refine HP.out.mono ?_
    rintro e w4 ⟨k, rfl, k0, k1, R4, g4⟩
    have hu4 := own_grown hou g4 (.inl (fun e => by have := own_block_ge hou r e; omega))
    have hy4 := own_grown hy3 g4 (.inl (fun e => by have := own_block_ge hy3 r e; omega))
    have hs4 := g4.size
    have B4 : Below w.heap.size w w4 := B3.trans (below_grown g4 (by omega) (fun g e => by cases e; exact hB))
    clear HP g4 B3 R3 hy3 hou
    by_cases h0 : k = 0
    · subst h0
      have hu5 := own_more hu4 (show w.heap.size ≤ w2.heap.size by omega)
      have hy5 := own_more hy4 hs1
      clear hu4 hy4
      go_wp2
      refine bodyPost_ret (results_tmp3 Tryd.results21 _ _ _) rfl ?_
      exact ⟨_, _, s, es, ys, rfl, hu5, hy5, ⟨HSW.out, hsh.out⟩, B4⟩
    · have t0 : (k == 0) = false := by simpa using h0
      clear h0
      go_wp2_with fail
      refine (HL.out _ _ R4 (by omega)).mono ?_
      rintro e w5 ⟨z, xs, p5, rfl, hoz, hsz, R5, hp5, g5⟩
      have HSZ := Lib.hid hsz
      have hy5 := own_more (own_grown hy4 g5 (.inl (fun e => by have := own_block_ge hy4 r e; omega))) hs1
      have hz5 := own_more hoz (show w.heap.size ≤ w4.heap.size by omega)
      have B5 : Below w.heap.size w w5 := B4.trans (below_grown g5 (by omega) (fun g e => by cases e; exact hB))
      clear hsz
      go_wp2
      refine bodyPost_ret (results_tmp3 Tryd.results21 _ _ _) rfl ?_
      exact ⟨_, _, s, xs, ys, rfl, hz5, hy5, ⟨HSZ.out, hsh.out⟩, B5⟩
set_option maxRecDepth 100000 in
set_option maxHeartbeats 800000 in
theorem drawWantedValid_c (w : World) (v : Value) (n : Nat) (hv : RdB w w.heap.size v n) :
    Calls Tryd.prog 23 #[v] w fun e w' => ∃ s, e = .returned (.string s) ∧ Hid (s.size ≤ 20) ∧ Below w.heap.size w w' := by
  have HO := Lib.hid (l13Open_c w v n hv)
  go_enter Tryd.func23, Tryd.ntmps23
  go_wp2_with fail
  refine HO.out.mono ?_
  rintro e w1 ⟨r, rfl, R1, b1⟩
  have hs1 := b1.size
  have hB := R1.1
  have hlt : r < w1.heap.size := by obtain ⟨_, _, v, n, _, _, h⟩ := R1; exact h.lt
  have HP := Lib.hid (pick_c w1 _ r 3 0 R1 (by omega) (by omega) (by omega))
  go_wp2_with fail
  refine HP.out.mono ?_
  rintro e w2 ⟨k, rfl, k0, k1, R2, g2⟩
  have hs2 := g2.size
  have B2 : Below w.heap.size w w2 := b1.trans (below_grown g2 hs1 (fun g e => by cases e; exact hB))
  clear HO HP
  by_cases h0 : k = 0
  · subst h0
    go_wp2_with fail
    refine (of_c _ w.heap.size r w2.heap.size 7 (0 + 1) (fun s => s.size ≤ 9) (R2.keep ((Below.refl _ _).alloc (Nat.le_refl _) _)) (by decide) (by decide) (by omega) (Lits.strs _ _ _ 9 (by rfl)) (by omega)).mono ?_
    rintro e w3 ⟨s1, rfl, hz1, R3, g3⟩
    have B3 : Below w.heap.size w w3 := (B2.alloc B2.size _).trans (below_grown g3 (by have := B2.size; simp; omega) (fun g e => by cases e; exact hB))
    go_wp2
    go_ret
    exact ⟨_, rfl, by show _ ≤ _; omega, B3⟩
  · have t0 : (k == 0) = false := by simpa using h0
    have HW := Lib.hid (l9Wanted_c w2 _ r (0 + 1) R2 (by omega))
    go_wp2_with fail
    refine HW.out.mono ?_
    rintro e w3 ⟨s, p3, rfl, hz, R3, hp3, g3⟩
    have B3 : Below w.heap.size w w3 := B2.trans (below_grown g3 B2.size (fun g e => by cases e; exact hB))
    go_wp2
    go_ret
    exact ⟨_, rfl, hz, B3⟩
end Go.Proofs.YtplapaojgcloaaaDoor
namespace Go.Proofs.YtplapaojgcloaaaDoor
open Go.RowKit Go.PM Go.PE

set_option maxHeartbeats 800000 in
theorem drawDropSteps_c (w : World) (v : Value) (n : Nat) (hv : RdB w w.heap.size v n) :
    Calls Tryd.prog 13 #[v] w fun e w' => ∃ u s xs, e = .returned (.tuple #[u, .string s]) ∧ w'.ownsRow w.heap.size 72 3 u xs.length (scells xs) ∧ Hid (shS 70 xs ∧ s.size ≤ 20) ∧ Below w.heap.size w w' := by
  have HO := Lib.hid (l13Open_c w v n hv)
  go_enter Tryd.func13, Tryd.ntmps13
  go_wp2_with fail
  refine HO.out.mono ?_
  rintro e w1 ⟨r, rfl, R1, b1⟩
  have hs1 := b1.size
  have hB := R1.1
  have hlt : r < w1.heap.size := by obtain ⟨_, _, v, n, _, _, h⟩ := R1; exact h.lt
  have HL := Lib.hid (l2Some_c w1 _ r 0 R1 (by omega))
  go_wp2_with fail
  refine HL.out.mono ?_
  rintro e w2 ⟨z, xs, p2, rfl, hoz, hsz, R2, hp2, g2⟩
  have HSZ := Lib.hid hsz
  have B2 : Below w.heap.size w w2 := b1.trans (below_grown g2 hs1 (fun g e => by cases e; exact hB))
  have hs2 := g2.size
  have HW := Lib.hid (l9Wanted_c w2 _ r p2 R2 (by omega))
  clear hsz HO HL
  go_wp2_with fail
  refine HW.out.mono ?_
  rintro e w3 ⟨s, p3, rfl, hz, R3, hp3, g3⟩
  have ho3 := own_more (own_grown hoz g3 (.inl (fun e => by have := own_block_ge hoz r e; omega))) hs1
  have B3 : Below w.heap.size w w3 := B2.trans (below_grown g3 B2.size (fun g e => by cases e; exact hB))
  go_wp2
  go_ret2
  exact ⟨_, s, xs, rfl, ho3, ⟨HSZ.out, hz.out⟩, B3⟩
end Go.Proofs.YtplapaojgcloaaaDoor
namespace Go.PE
open Go.PM Go.RowKit
/-- a text as a set of cells -/
def Rep (s : ByteArray) (n : Nat) : Prop := ∀ p, p < 11 → (cellsL.getD p 0 ∈ s.data.toList ↔ n.testBit p = true)
theorem rep_wn {t : ByteArray} (h : wvB t = true) : Rep t (wnN t.data.toList) := by
  intro p hp
  have e : (cellsL.getD p 0 ∈ t.data.toList) = (cellsL.getD p 0 ∈ (elN (wnN t.data.toList)).map (cellsL.getD · 0)) := congrArg (fun l : List UInt8 => cellsL.getD p 0 ∈ l) (wv_list h)
  rw [e, List.mem_map]
  constructor
  · rintro ⟨q, hq, he⟩
    have hq' := el_mem.1 hq
    rw [← cells_inj q hq'.1 p hp he]; exact hq'.2
  · intro hb
    exact ⟨p, el_mem.2 ⟨hp, hb⟩, rfl⟩
/-- a text without a letter -/
def woB (s c : ByteArray) : ByteArray := ⟨(s.data.toList.filter fun b => decide ((⟨#[b]⟩ : ByteArray) ≠ c)).toArray⟩
def woK (s c : ByteArray) (k : Nat) : ByteArray := ⟨((s.data.toList.take k).filter fun b => decide ((⟨#[b]⟩ : ByteArray) ≠ c)).toArray⟩
theorem woK_zero (s c : ByteArray) : woK s c 0 = ⟨#[]⟩ := rfl
theorem woK_full (s c : ByteArray) : woK s c s.size = woB s c := by
  unfold woK woB
  rw [List.take_of_length_le (Nat.le_of_eq (size_data s))]
theorem woK_step (s c : ByteArray) (k : Nat) (hk : k < s.size) : woK s c (k + 1) = if s.extract k (k + 1) = c then woK s c k else woK s c k ++ s.extract k (k + 1) := by
  have hk' : k < s.data.toList.length := by rw [size_data]; exact hk
  have hx : s.extract k (k + 1) = ⟨#[s.data.toList[k]]⟩ := by
    rw [extract_one s k hk]
    simp [List.getD_eq_getElem?_getD, List.getElem?_eq_getElem hk']
  unfold woK
  rw [take_snoc _ k hk', List.filter_append, hx]
  generalize s.data.toList[k] = d at *
  split
  · next h => simp [h]
  · next h =>
    apply ByteArray.ext
    rw [ByteArray.data_append]
    simp [h]
theorem woB_size (s c : ByteArray) : (woB s c).size ≤ s.size := by
  rw [← size_data, ← size_data s]
  exact List.length_filter_le _ _
theorem woK_size (s c : ByteArray) (k : Nat) : (woK s c k).size ≤ s.size := by
  rw [← size_data, ← size_data s]
  exact Nat.le_trans (List.length_filter_le _ _) (by rw [List.length_take]; omega)
theorem woB_mem (s c : ByteArray) (b : UInt8) : b ∈ (woB s c).data.toList ↔ b ∈ s.data.toList ∧ (⟨#[b]⟩ : ByteArray) ≠ c := by
  unfold woB
  rw [show (⟨(s.data.toList.filter fun b => decide ((⟨#[b]⟩ : ByteArray) ≠ c)).toArray⟩ : ByteArray).data.toList = s.data.toList.filter fun b => decide ((⟨#[b]⟩ : ByteArray) ≠ c) from by simp, List.mem_filter, decide_eq_true_eq]
theorem app_mem (s c : ByteArray) (b : UInt8) : b ∈ (s ++ c).data.toList ↔ b ∈ s.data.toList ∨ b ∈ c.data.toList := by
  rw [ByteArray.data_append, Array.toList_append, List.mem_append]
theorem one_mem {c : ByteArray} (h : c.size = 1) (b : UInt8) : b ∈ c.data.toList ↔ (⟨#[b]⟩ : ByteArray) = c := by
  obtain ⟨d, rfl⟩ := one_of_size h
  constructor
  · intro hb
    have : b = d := by simpa using hb
    rw [this]
  · intro hb
    injection hb with h1
    have : b = d := by simpa using h1
    rw [this]; simp
theorem cell_eq {a : ByteArray} (h : isC a = true) {p : Nat} (hp : p < 11) : ((⟨#[cellsL.getD p 0]⟩ : ByteArray) = a) ↔ p = cidx a := by
  constructor
  · intro e
    have : tq p = a := e
    rw [← this, (tq_cell hp).2]
  · intro e
    rw [e]; exact tq_of h
theorem not_cell {a : ByteArray} (h : isC a = false) {p : Nat} (hp : p < 11) : (⟨#[cellsL.getD p 0]⟩ : ByteArray) ≠ a := by
  intro e
  have : tq p = a := e
  rw [← this, (tq_cell hp).1] at h; cases h
theorem rep_cell {s : ByteArray} {n : Nat} (hr : Rep s n) {a : ByteArray} (h : isC a = true) : (∃ c, a = ⟨#[c]⟩ ∧ (c ∈ s.data.toList ↔ n.testBit (cidx a) = true)) := by
  have := hr (cidx a) (cidx_lt h)
  exact ⟨_, (tq_of h).symm, this⟩
/-- what the specification makes of a step that is kept -/
theorem rep_move {s a b : ByteArray} {n : Nat} (hr : Rep s n) (hn : n < 2048) (ha : isC a = true) (hb : okC b = true) : Rep (woB (woB s a) b ++ b) (aheadN (0, a, b) n) := by
  intro p hp
  rw [ahead_move ha hb hn, app_mem, woB_mem, woB_mem, one_mem (okC_size hb), hr p hp]
  rcases Bool.eq_false_or_eq_true (isC b) with hc | hc
  · rw [hc, ne_eq, ne_eq, cell_eq ha hp, cell_eq hc hp]
    simp only [Bool.true_and, Bool.or_eq_true, Bool.and_eq_true, decide_eq_true_eq]
    by_cases e : p = cidx b <;> simp [e]
  · have h1 : (⟨#[cellsL.getD p 0]⟩ : ByteArray) ≠ b := not_cell hc hp
    rw [hc, ne_eq, ne_eq, cell_eq ha hp]
    generalize (⟨#[cellsL.getD p 0]⟩ : ByteArray) = y at *
    simp [h1]
theorem rep_swap {s a b : ByteArray} {n : Nat} (hr : Rep s n) (ha : isC a = true) (hb : isC b = true) (hab : a ≠ b) :
    Rep ((if n.testBit (cidx a) then woB (woB s a) b ++ b else woB (woB s a) b) ++ (if n.testBit (cidx b) then a else ⟨#[]⟩)) (aheadN (1, a, b) n) := by
  have hne : cidx a ≠ cidx b := fun e => hab (by rw [← tq_of ha, ← tq_of hb, e])
  intro p hp
  rw [ahead_swap ha hb, app_mem]
  have e1 : cellsL.getD p 0 ∈ (woB (woB s a) b).data.toList ↔ n.testBit p = true ∧ p ≠ cidx a ∧ p ≠ cidx b := by
    rw [woB_mem, woB_mem, hr p hp, ne_eq, ne_eq, cell_eq ha hp, cell_eq hb hp, and_assoc]
  have e2 : cellsL.getD p 0 ∈ (if n.testBit (cidx a) then woB (woB s a) b ++ b else woB (woB s a) b).data.toList ↔ (n.testBit p = true ∧ p ≠ cidx a ∧ p ≠ cidx b) ∨ (n.testBit (cidx a) = true ∧ p = cidx b) := by
    split
    · next h => rw [app_mem, e1, one_mem (isC_size hb), cell_eq hb hp]; simp [h]
    · next h => rw [e1]; simp [h]
  have e3 : cellsL.getD p 0 ∈ (if n.testBit (cidx b) then a else (⟨#[]⟩ : ByteArray)).data.toList ↔ n.testBit (cidx b) = true ∧ p = cidx a := by
    split
    · next h => rw [one_mem (isC_size ha), cell_eq ha hp]; simp [h]
    · next h => simp [h]
  rw [e2, e3]
  by_cases q1 : p = cidx a
  · subst q1; simp [hne]
  · by_cases q2 : p = cidx b
    · subst q2; simp [q1]
    · simp [q1, q2]
end Go.PE
namespace Go.PE
open Go.PM Go.RowKit
def allB : ByteArray := ⟨#[97, 98, 99, 100, 101, 102, 65, 66, 67, 116, 117]⟩
theorem all_at {p : Nat} (hp : p < 11) : ofB allB p = cellsL.getD p 0 := by
  match p, hp with
  | 0, _ | 1, _ | 2, _ | 3, _ | 4, _ | 5, _ | 6, _ | 7, _ | 8, _ | 9, _ | 10, _ => rfl
theorem all_valid : stateV allB = true := by decide +kernel
/-- the state in which only what is needed is as it was -/
def othK (m k : Nat) : ByteArray := ⟨((List.range k).map fun p => if m.testBit p then cellsL.getD p 0 else 57).toArray⟩
theorem othK_zero (m : Nat) : othK m 0 = ⟨#[]⟩ := rfl
theorem othK_yes {m k : Nat} (h : m.testBit k = true) : othK m (k + 1) = othK m k ++ ⟨#[cellsL.getD k 0]⟩ := by
  apply ByteArray.ext
  rw [ByteArray.data_append]
  unfold othK
  rw [List.range_succ, List.map_append]
  simp [h]
theorem othK_no {m k : Nat} (h : m.testBit k = false) : othK m (k + 1) = othK m k ++ ⟨#[57]⟩ := by
  apply ByteArray.ext
  rw [ByteArray.data_append]
  unfold othK
  rw [List.range_succ, List.map_append]
  simp [h]
theorem othK_size (m k : Nat) : (othK m k).size = k := by rw [← size_data]; simp [othK]
theorem oth_at (m : Nat) {p : Nat} (hp : p < 11) : ofB (othK m 11) p = if m.testBit p then cellsL.getD p 0 else 57 := by
  unfold ofB othK
  simp [List.getD_eq_getElem?_getD, hp]
theorem cells_V : ∀ p, p < 11 → isV (cellsL.getD p 0) = true := by decide +kernel
theorem oth_valid (m : Nat) : stateV (othK m 11) = true := by
  unfold stateV
  rw [Bool.and_eq_true, decide_eq_true_eq]
  refine ⟨?_, othK_size m 11⟩
  rw [List.all_eq_true]
  intro c hc
  have : c ∈ (List.range 11).map fun p => if m.testBit p then cellsL.getD p 0 else 57 := by simpa [othK] using hc
  obtain ⟨p, hp, rfl⟩ := List.mem_map.1 this
  split
  · exact cells_V p (List.mem_range.1 hp)
  · decide +kernel
theorem io_eq {xs : List St} (h : svalid xs = true) {s : ByteArray} (hs : stateV s = true) : ioB xs s = stB (runL xs (ofB s)) := by
  unfold ioB
  rw [h, hs, runL_runS]; rfl
theorem stB_idx (f : Nat → UInt8) {p : Nat} (hp : p < 11) (h : p < (stB f).size) : (stB f)[p] = f p := by
  match p, hp with
  | 0, _ | 1, _ | 2, _ | 3, _ | 4, _ | 5, _ | 6, _ | 7, _ | 8, _ | 9, _ | 10, _ => rfl
/-- what is dropped changes no wanted place, and nothing else is needed -/
theorem drop_ok {xs : List St} (h : svalid xs = true) {n : Nat} (hn : n < 2048) {p : Nat} (hp : p < 11) (hb : n.testBit p = true) :
    runL xs (ofB allB) p = runL (bkS xs n).1 (ofB allB) p ∧ runL xs (ofB allB) p = runL (bkS xs n).1 (ofB (othK (bkS xs n).2 11)) p := by
  constructor
  · exact bk_run hn xs (Go.PD.sv_mem h) _ _ (fun _ _ _ => rfl) p hp hb
  · refine bk_run hn xs (Go.PD.sv_mem h) _ _ (fun q hq hbq => ?_) p hp hb
    rw [all_at hq, oth_at _ hq, if_pos hbq]
theorem has_wn {t : ByteArray} (h : wvB t = true) {p : Nat} (hp : p < 11) : pmH t ⟨#[cellsL.getD p 0]⟩ = (wnN t.data.toList).testBit p := by
  rw [pmH_one, Bool.eq_iff_iff, decide_eq_true_eq]
  exact rep_wn h p hp
theorem ds_again {xs : List St} {t : ByteArray} (h : (svalid xs && wvB t) = true) : dsS (bkS xs (wnN t.data.toList)).1 t = (bkS xs (wnN t.data.toList)).1 := by
  rw [Bool.and_eq_true] at h
  rw [dsS_yes (by rw [bk_valid h.1, h.2]; rfl), bk_again]
end Go.PE
namespace Go.PE
open Go.PM Go.RowKit
theorem app_emp (q : ByteArray) : q ++ (⟨#[]⟩ : ByteArray) = q := by
  apply ByteArray.ext
  rw [ByteArray.data_append]
  simp
theorem rep_idx {s : ByteArray} {n : Nat} (hr : Rep s n) {a : ByteArray} (h : isC a = true) (h0 : 0 < a.size) : decide ((0 : Int) ≤ Lib.indexByte s.data.toList a[0]) = n.testBit (cidx a) := by
  have hp := hr (cidx a) (cidx_lt h)
  have e : a[0] = cellsL.getD (cidx a) 0 := by
    have h1 := tq_of h
    obtain ⟨c, rfl⟩ := one_of_size (isC_size h)
    have : (⟨#[cellsL.getD (cidx ⟨#[c]⟩) 0]⟩ : ByteArray) = ⟨#[c]⟩ := h1
    injection this with h2
    have h3 : cellsL.getD (cidx ⟨#[c]⟩) 0 = c := by simpa using h2
    rw [h3]; rfl
  rw [e, Bool.eq_iff_iff, decide_eq_true_eq, indexByte_mem]
  exact hp
end Go.PE
namespace Go.Proofs.YtplapaojgcloaaaDoor
open Go.RowKit Go.PM Go.PE Go.Lib
attribute [local go_sem] Oper.semAt_some

set_option maxHeartbeats 800000 in
theorem l9Without_c (s c : ByteArray) (hs : s.size ≤ 1048576) (w : World) :
    Calls Tryd.prog 130 #[.string s, .string c] w fun e w' => e = .returned (.string (woB s c)) ∧ w = w' := by
  have HS := Lib.hid (fun k hk => woK_step s c k hk)
  have HZ := Lib.hid (woK_zero s c)
  have HF := Lib.hid (woK_full s c)
  have HK := Lib.hid (fun k => woK_size s c k)
  have HB := Lib.hid (fun x => beq_str x c)
  go_enter Tryd.func130, Tryd.ntmps130
  go_wp2
  go_loopw [5, 6, 9] (fun o _ i wr => ∃ (k : Nat), k ≤ s.size ∧ i = .int .i64 k ∧ o = .string (woK s c k) ∧ wr = w) (fun _ _ i _ => s.size - (RowKit.intOf i).toNat)
  case atStart => exact ⟨0, by omega, rfl, by rw [HZ.out], rfl⟩
  case round =>
    obtain ⟨k, hk, rfl, rfl, rfl⟩ := hrel
    by_cases hlt : k < s.size
    · have i1 : (k : Int) < (s.size : Int) := by omega
      have hst := HS.out k hlt
      have hsz := HK.out k
      by_cases he : s.extract k (k + 1) = c
      · have hbq : ((s.extract k (k + 1)).toList == c.toList) = true := (HB.out _).trans (decide_eq_true he)
        rw [if_pos he] at hst
        have HST := Lib.hid hst
        clear he hst
        go_wp2
        go_roundw
        case rel => exact ⟨k + 1, by omega, by go_num, by rw [HST.out], trivial⟩
        case measure => simp [RowKit.intOf]; omega
      · have hbq : ((s.extract k (k + 1)).toList == c.toList) = false := (HB.out _).trans (decide_eq_false he)
        have hz1 : (s.extract k (k + 1)).size = 1 := by rw [ByteArray.size_extract]; omega
        rw [if_neg he] at hst
        have HST := Lib.hid hst
        clear he hst
        generalize woK s c k = q at *
        go_wp2
        go_roundw
        case rel => exact ⟨k + 1, by omega, by go_num, by rw [HST.out], trivial⟩
        case measure => simp [RowKit.intOf]; omega
    · have hk' : k = s.size := by omega
      have HFK : Hid (woK s c k = woB s c) := by show _ = _; rw [hk']; exact HF.out
      have i1 : ¬ (k : Int) < (s.size : Int) := by omega
      clear hk hk' hlt
      go_wp2
      go_ret
      exact ⟨by rw [← HFK.out]; rfl, rfl⟩
set_option maxRecDepth 100000 in
set_option maxHeartbeats 1600000 in
theorem l9Ahead_c (k : Int) (a b s : ByteArray) (n : Nat) (hok : stOk (k, a, b) = true) (hk : keptN (k, a, b) n = true) (hn : n < 2048) (hr : Rep s n) (hs : s.size ≤ 1048000) (w : World) :
    Calls Tryd.prog 102 #[.agg #[.int .i64 k, .string a, .string b], .string s] w fun e w' => ∃ q, e = .returned (.string q) ∧ Hid (Rep q (aheadN (k, a, b) n) ∧ q.size ≤ s.size + 2) ∧ Below w.heap.size w w' := by
  obtain ⟨s1, s2⟩ := st_sizes1 hok
  have p1 : 0 < a.size := by omega
  have p2 : 0 < b.size := by omega
  have HW := Lib.hid (fun s' c (h : s'.size ≤ 1048000) W => l9Without_c s' c (by omega) W)
  have HFa := Lib.hid (fun W => l13Find_c s a[0] W (by omega))
  have HFb := Lib.hid (fun W => l13Find_c s b[0] W (by omega))
  have hzw1 := woB_size s a
  have hzw2 := woB_size (woB s a) b
  have HW1 := Lib.hid (fun W => l9Without_c s a (by omega) W)
  have HW2 := Lib.hid (fun W => l9Without_c (woB s a) b (by omega) W)
  have hN1 : At (w.alloc (.cells #[.int .i64 k, .string a, .string b] 72)) w.heap.size 72 #[.int .i64 k, .string a, .string b] := At.new _ _ _
  have hB1 : Below w.heap.size w (w.alloc (.cells #[.int .i64 k, .string a, .string b] 72)) := (Below.refl _ _).alloc (Nat.le_refl _) _
  rcases stOk_kind hok with rfl | rfl
  · obtain ⟨ha, hb⟩ := stOk_move hok
    have hre := Lib.hid (rep_move hr hn ha hb)
    rw [keptN_move ha, Bool.and_eq_true] at hk
    have hia := (rep_idx hr ha p1).trans hk.2
    have ha0 : 0 ≤ Lib.indexByte s.data.toList a[0] := of_decide_eq_true hia
    generalize aheadN (0, a, b) n = ah at *
    clear hk hok ha hb hr hn
    generalize woB (woB s a) b = q2 at *
    generalize woB s a = q1 at *
    generalize Lib.indexByte s.data.toList a[0] = za at *
    generalize Lib.indexByte s.data.toList b[0] = zb at *
    have ha0' : decide ((0 : Int) ≤ za) = true := hia
    go_enter Tryd.func102, Tryd.ntmps102
    go_wp2
    obtain ⟨W1, hW1⟩ : ∃ W1 : World, W1 = w.alloc (.cells #[.int .i64 0, .string a, .string b] 72) := ⟨_, rfl⟩
    rw [← hW1] at hN1 hB1 ⊢
    clear hW1
    have hl1 := hN1.lt
    have x1 : ∀ x : Ext W1.heap.size W1, x.val.cell? ⟨w.heap.size, 1, none⟩ = some (.string a) := fun x => (x.property.cell (p := ⟨w.heap.size, 1, none⟩) hl1).trans (hN1.cell 1)
    have x2 : ∀ x : Ext W1.heap.size W1, x.val.cell? ⟨w.heap.size, 2, none⟩ = some (.string b) := fun x => (x.property.cell (p := ⟨w.heap.size, 2, none⟩) hl1).trans (hN1.cell 2)
    refine wp_region_ext W1.heap.size (by kernel_rfl) (by kernel_rfl) ?_
    repeat (go_big_quiet_step ((go_at_call 56; first | (with_reducible exact ext_same _ (HFa.out _)) | (with_reducible exact ext_same _ (HFb.out _)))))
    refine wpQuiet_nil ?_
    intro w2 hw'
    obtain ⟨xw, hxw⟩ := hw'
    have hb2 := xw.property
    rw [← hxw] at hb2
    clear hxw xw x1 x2
    replace hN1 := hN1.keep hb2
    replace hB1 := hB1.trans (hb2.mono hB1.size)
    clear hb2 hl1
    have hl1 := hN1.lt
    have c0 : w2.cell? ⟨w.heap.size, 0, none⟩ = some (.int .i64 0) := hN1.cell 0
    go_wp2
    have x1 : ∀ x : Ext w2.heap.size w2, x.val.cell? ⟨w.heap.size, 1, none⟩ = some (.string a) := fun x => (x.property.cell (p := ⟨w.heap.size, 1, none⟩) hl1).trans (hN1.cell 1)
    have x2 : ∀ x : Ext w2.heap.size w2, x.val.cell? ⟨w.heap.size, 2, none⟩ = some (.string b) := fun x => (x.property.cell (p := ⟨w.heap.size, 2, none⟩) hl1).trans (hN1.cell 2)
    refine wp_region_ext w2.heap.size (by kernel_rfl) (by kernel_rfl) ?_
    repeat (go_big_quiet_step ((go_at_call 130; first | (with_reducible exact ext_same _ (HW1.out _)) | (with_reducible exact ext_same _ (HW2.out _)))))
    refine wpQuiet_nil ?_
    intro w3 hw'
    obtain ⟨xw, hxw⟩ := hw'
    have hb3 := xw.property
    rw [← hxw] at hb3
    clear hxw xw x1 x2
    have hB3 := hB1.trans (hb3.mono hB1.size)
    go_wp2
    go_ret
    exact ⟨_, rfl, ⟨hre.out, by rw [ByteArray.size_append]; omega⟩, hB3⟩
  · obtain ⟨ha, hb⟩ := stOk_swap hok
    rw [keptN_swap ha hb, Bool.and_eq_true, Bool.or_eq_true, decide_eq_true_eq] at hk
    obtain ⟨hab, hk⟩ := hk
    have hre := Lib.hid (rep_swap hr ha hb hab)
    have hia := rep_idx hr ha p1
    have hib := rep_idx hr hb p2
    have hnb : (b.toList == a.toList) = false := (beq_str b a).trans (decide_eq_false fun e => hab e.symm)
    generalize aheadN (1, a, b) n = ah at *
    generalize n.testBit (cidx a) = fa at *
    generalize n.testBit (cidx b) = fb at *
    clear hok ha hb hr hn hab
    generalize woB (woB s a) b = q2 at *
    generalize woB s a = q1 at *
    generalize Lib.indexByte s.data.toList a[0] = za at *
    generalize Lib.indexByte s.data.toList b[0] = zb at *
    go_enter Tryd.func102, Tryd.ntmps102
    go_wp2
    obtain ⟨W1, hW1⟩ : ∃ W1 : World, W1 = w.alloc (.cells #[.int .i64 1, .string a, .string b] 72) := ⟨_, rfl⟩
    rw [← hW1] at hN1 hB1 ⊢
    clear hW1
    have hl1 := hN1.lt
    have x1 : ∀ x : Ext W1.heap.size W1, x.val.cell? ⟨w.heap.size, 1, none⟩ = some (.string a) := fun x => (x.property.cell (p := ⟨w.heap.size, 1, none⟩) hl1).trans (hN1.cell 1)
    have x2 : ∀ x : Ext W1.heap.size W1, x.val.cell? ⟨w.heap.size, 2, none⟩ = some (.string b) := fun x => (x.property.cell (p := ⟨w.heap.size, 2, none⟩) hl1).trans (hN1.cell 2)
    refine wp_region_ext W1.heap.size (by kernel_rfl) (by kernel_rfl) ?_
    repeat (go_big_quiet_step ((go_at_call 56; first | (with_reducible exact ext_same _ (HFa.out _)) | (with_reducible exact ext_same _ (HFb.out _)))))
    refine wpQuiet_nil ?_
    intro w2 hw'
    obtain ⟨xw, hxw⟩ := hw'
    have hb2 := xw.property
    rw [← hxw] at hb2
    clear hxw xw x1 x2
    replace hN1 := hN1.keep hb2
    replace hB1 := hB1.trans (hb2.mono hB1.size)
    clear hb2 hl1
    have hl1 := hN1.lt
    have c0 : w2.cell? ⟨w.heap.size, 0, none⟩ = some (.int .i64 1) := hN1.cell 0
    go_wp2
    have x1 : ∀ x : Ext w2.heap.size w2, x.val.cell? ⟨w.heap.size, 1, none⟩ = some (.string a) := fun x => (x.property.cell (p := ⟨w.heap.size, 1, none⟩) hl1).trans (hN1.cell 1)
    have x2 : ∀ x : Ext w2.heap.size w2, x.val.cell? ⟨w.heap.size, 2, none⟩ = some (.string b) := fun x => (x.property.cell (p := ⟨w.heap.size, 2, none⟩) hl1).trans (hN1.cell 2)
    refine wp_region_ext w2.heap.size (by kernel_rfl) (by kernel_rfl) ?_
    repeat (go_big_quiet_step ((go_at_call 130; first | (with_reducible exact ext_same _ (HW1.out _)) | (with_reducible exact ext_same _ (HW2.out _)))))
    refine wpQuiet_nil ?_
    intro w3 hw'
    obtain ⟨xw, hxw⟩ := hw'
    have hb3 := xw.property
    rw [← hxw] at hb3
    clear hxw xw x1 x2
    have hB3 := hB1.trans (hb3.mono hB1.size)
    replace hN1 := hN1.keep hb3
    have c1 : w3.cell? ⟨w.heap.size, 1, none⟩ = some (.string a) := hN1.cell 1
    have c2 : w3.cell? ⟨w.heap.size, 2, none⟩ = some (.string b) := hN1.cell 2
    clear hN1 hb3 hB1 c0 HFa HFb HW1 HW2 HW
    cases fa with
    | true =>
      have ha0 : (0 : Int) ≤ za := of_decide_eq_true hia
      cases fb with
      | true =>
        have hb0 : (0 : Int) ≤ zb := of_decide_eq_true hib
        go_wp2
        go_ret
        exact ⟨_, rfl, ⟨hre.out, by simp only [ByteArray.size_append]; omega⟩, hB3⟩
      | false =>
        have hb0 : ¬ (0 : Int) ≤ zb := of_decide_eq_false hib
        go_wp2
        go_ret
        have hx : Rep ((q2 ++ b) ++ ⟨#[]⟩) ah := hre.out
        rw [app_emp] at hx
        exact ⟨_, rfl, ⟨hx, by simp only [ByteArray.size_append]; omega⟩, hB3⟩
    | false =>
      have ha0 : ¬ (0 : Int) ≤ za := of_decide_eq_false hia
      cases fb with
      | true =>
        have hb0 : (0 : Int) ≤ zb := of_decide_eq_true hib
        go_wp2
        go_ret
        exact ⟨_, rfl, ⟨hre.out, by simp only [ByteArray.size_append]; omega⟩, hB3⟩
      | false => exact absurd hk (by simp)
end Go.Proofs.YtplapaojgcloaaaDoor
namespace Go.PM
open Go.RowKit
section
variable {F : Fence} {m : Nat} {P : Program} {ops : Array Oper} {md : Region.Mode} {C D : World → Prop} {Q : Exit → Act → World → Prop}
/-- operations one behind the other, a fact kept till the first of the last ones -/
def wpListT (F : Fence) (m : Nat) (P : Program) (ops : Array Oper) (D : World → Prop) (Q : Exit → Act → World → Prop) (rest : List Oper) : List Oper → Act → World → Prop
  | [], a, w => D w ∧ wpListIn F m P ops Q rest a w
  | o :: l, a, w => D w ∧ Oper.wpIn F m P o a w (wpListT F m P ops D Q rest l) Q
theorem wpAnyT_of_list {rest : List Oper} (hne : rest ≠ []) : ∀ (l : List Oper) (k : Nat) (listed : Array Bool) (a : Act) (w : World), (∀ j, (l ++ rest)[j]? = ops[k + j]?) →
    Region.waitsFor md ops (k + l.length) 0 = true → (∀ o ∈ l, o.guard = none) → Region.seqB md ops (l.length + rest.length) k listed = true → wpListT F m P ops D Q rest l a w → wpAnyT F m P md ops D Q (l.length + rest.length) listed a w
  | [], k, listed, a, w, hl, hw0, _, hB, h => by
    obtain ⟨hD, hlist⟩ := h
    cases rest with
    | nil => exact absurd rfl hne
    | cons o r =>
      have hl' : ∀ j, (o :: r)[j]? = ops[k + j]? := fun j => by simpa using hl j
      have hB' : Region.seqB md ops (o :: r).length k listed = true := by simpa using hB
      have hany := wpAnyIn_of_seq' (md := md) (Q' := Q) (o :: r) k listed a w hl' hB' hlist
      simp only [List.length_cons, Region.seqB, Bool.and_eq_true, decide_eq_true_eq] at hB'
      simp only [List.length_nil, Nat.zero_add, List.length_cons] at hany ⊢
      refine ⟨hD, hany.1, fun j hj => ?_⟩
      rw [hB'.1] at hj
      have hjn : j = k := by simpa using hj
      subst hjn
      have hw0' : Region.waitsFor md ops j 0 = true := by simpa using hw0
      simp only [hw0', if_true]
      exact hany.2 _ (by rw [hB'.1]; simp)
  | o :: l, k, listed, a, w, hl, hw0, hg, hB, h => by
    obtain ⟨hD, hop⟩ := h
    have h0 : ops[k]? = some o := by simpa using (hl 0).symm
    have e : (o :: l).length + rest.length = (l.length + rest.length) + 1 := by simp only [List.length_cons]; omega
    rw [e] at hB ⊢
    simp only [Region.seqB, Bool.and_eq_true, decide_eq_true_eq] at hB
    refine ⟨hD, fun h1 => (by rw [hB.1] at h1; cases h1), fun j hj => ?_⟩
    rw [hB.1] at hj
    have hjk : j = k := by simpa using hj
    subst hjk
    have hwn : Region.wanted o (yielded ops a.tmps) = true := by simp [Region.wanted, hg o (by simp)]
    have hw : wpOpIn F m P ops Q j (wpListT F m P ops D Q rest l) a w := by
      unfold wpOpIn
      simp only [h0]
      rw [if_pos hwn]; exact hop
    refine wpOpIn_mono (fun a' w' h' => ?_) hw
    have hT := wpAnyT_of_list hne l (j + 1) (listed.setIfInBounds j true) a' w' (fun i => by have := hl (i + 1); simpa [Nat.add_assoc, Nat.add_comm 1 i] using this) (by
      have : j + 1 + l.length = j + (o :: l).length := by simp only [List.length_cons]; omega
      rw [this]; exact hw0) (fun o' ho' => hg o' (by simp [ho'])) hB.2 h'
    split
    · exact wpAnyT_any _ _ _ _ hT
    · exact hT
/-- what is asked of the region's form -/
def lateB2 (ops : Array Oper) (n k : Nat) : Bool :=
  Region.noSelect ops && decide (0 < n) && decide (n + k < ops.size) && sinkB1 .any ops n && Region.chainB .any ops n && Region.lexHead .any ops (ops.size - n) (n - 1) 1 ((Array.replicate ops.size false).setIfInBounds 0 true) &&
    Region.waitsFor .any ops (n + k) 0 && Region.free .any ops (Array.replicate ops.size false) 0 && (Region.ready .any ops (Array.replicate ops.size false)).contains 0
/-- A region that draws its order, whose first operation reads what only the last ones turn: it first, n - 1 quiet ones, k that turn something else, the others one behind the other. -/
theorem any_late2 {a : Act} {w : World} {l : List Oper} (n k : Nat) (hro : F.round = none) (hB : lateB2 l.toArray n k = true) (o0 : Oper) (h0 : l[0]? = some o0) (hgn : ∀ o ∈ (l.drop n).take k, o.guard = none) (v0 : Value)
    (hQ : ∀ c a w, Q (.panic c) (a.put o0.dst v0) w → Q (.panic c) a w) (hy : YieldsD P l.toArray D o0 v0 a) (hCD : ∀ w, C w → D w) (hC : C w)
    (h : wpQuietIn F m P l.toArray C (fun a' => ∀ w', C w' → wpListT F m P l.toArray D Q (l.drop (n + k)) ((l.drop n).take k) a' w') ((l.drop 1).take (n - 1)) (a.put o0.dst v0)) :
    wpAnyIn F m P .any l.toArray Q l.toArray.size (Array.replicate l.toArray.size false) a w := by
  simp only [lateB2, Bool.and_eq_true, decide_eq_true_eq] at hB
  obtain ⟨⟨⟨⟨⟨⟨⟨⟨hsel, hn0⟩, hn⟩, hs⟩, hc⟩, hlex⟩, hw0⟩, hf0⟩, hr0⟩ := hB
  have hn' : n + k < l.length := by simpa using hn
  have hr0' : 0 ∈ Region.ready .any l.toArray (Array.replicate l.toArray.size false) := by simpa using hr0
  have h0a : l.toArray[0]? = some o0 := by simpa using h0
  have inv0 : HeadInv .any l.toArray n (Array.replicate l.toArray.size false) :=
    ⟨by simp, fun j oj _ hl => (by rw [getD_replicate_false] at hl; cases hl), fun t _ ht => getD_in (by simpa using ht) (getD_replicate_false _ _)⟩
  have inv1 := inv0.set hr0' hn0
  have htl : ((l.drop 1).take (n - 1)).length = n - 1 := by simp; omega
  have H := wpAnyLQ1_lex (md := .any) (g := l.toArray.size - n) hsel hs hc (by omega) ((l.drop 1).take (n - 1)) 1 _ (a.put o0.dst v0) (by decide) (fun j hj => by
    have hj' : j < n - 1 := by rw [htl] at hj; exact hj
    simp [hj', Nat.add_comm]) (by rw [htl]; omega) inv1 (by rw [htl]; exact hlex) h
  have hlm : ((l.drop n).take k).length = k := by simp; omega
  have hlr : (l.drop (n + k)).length = l.length - (n + k) := by simp
  have hsz : ((l.drop n).take k).length + (l.drop (n + k)).length = l.toArray.size - n := by rw [hlm, hlr]; simp; omega
  have happ : (l.drop n).take k ++ l.drop (n + k) = l.drop n := by rw [← List.drop_drop]; exact List.take_append_drop _ _
  have T := wpAnyT_of_headQ (D := D) (Q := Q) (g := l.toArray.size - n) hro hCD (fun listed a' w' hw' hL => by
    obtain ⟨hseq, hLq⟩ := hL
    rw [← hsz] at hseq ⊢
    exact wpAnyT_of_list (fun e => by rw [e] at hlr; simp at hlr; omega) _ n listed a' w' (fun j => by rw [happ]; simp [List.getElem?_drop]) (by rw [hlm]; exact hw0) hgn hseq (hLq w' hw')) _ _ _ _ hC H
  rw [htl, show n - 1 + (l.toArray.size - n) = l.toArray.size - 1 by omega] at T
  have := late_first (md := .any) hro h0a (Region.noSelect_spec hsel) hQ (l.toArray.size - 1) _ a w (Region.free_spec h0a hf0) hr0' hy T
  rw [show l.toArray.size - 1 + 1 = l.toArray.size by omega] at this
  exact this
theorem region_late2_inRound {id r : Nat} {a : Act} {w : World} {l : List Oper} (n k : Nat) (hro : F.round = none) (hd : noDefer l.toArray = true) (hm : P.follows .mixedOrders = true) (hB : lateB2 l.toArray n k = true) (o0 : Oper) (h0 : l[0]? = some o0) (hgn : ∀ o ∈ (l.drop n).take k, o.guard = none) (v0 : Value)
    (hQ : ∀ c a w, Q (.panic c) (a.put o0.dst v0) w → Q (.panic c) a w) (hy : YieldsD P l.toArray D o0 v0 a) (hCD : ∀ w, C w → D w) (hC : C w.drew)
    (h : wpQuietIn F m P l.toArray C (fun a' => ∀ w', C w' → wpListT F m P l.toArray D Q (l.drop (n + k)) ((l.drop n).take k) a' w') ((l.drop 1).take (n - 1)) (a.put o0.dst v0)) :
    (Code.region id l.toArray true).wpIn (F.inRound r) m P Q a w :=
  region_inRound hro hd hm (any_late2 n k hro hB o0 h0 hgn v0 hQ hy hCD hC h)
theorem region_late2 {id : Nat} {a : Act} {w : World} {l : List Oper} (n k : Nat) (hro : F.round = none) (hm : P.follows .mixedOrders = true) (hB : lateB2 l.toArray n k = true) (o0 : Oper) (h0 : l[0]? = some o0) (hgn : ∀ o ∈ (l.drop n).take k, o.guard = none) (v0 : Value)
    (hQ : ∀ c a w, Q (.panic c) (a.put o0.dst v0) w → Q (.panic c) a w) (hy : YieldsD P l.toArray D o0 v0 a) (hCD : ∀ w, C w → D w) (hC : C w.drew)
    (h : wpQuietIn F m P l.toArray C (fun a' => ∀ w', C w' → wpListT F m P l.toArray D Q (l.drop (n + k)) ((l.drop n).take k) a' w') ((l.drop 1).take (n - 1)) (a.put o0.dst v0)) :
    (Code.region id l.toArray true).wpIn F m P Q a w :=
  wpIn_region_any hm (any_late2 n k hro hB o0 h0 hgn v0 hQ hy hCD hC h)
end
end Go.PM
namespace Go.PS
open Go.PM Go.RowKit
/-- swaps as steps -/
def swS (p : Nat × Nat) : St := (1, nm p.1, nm p.2)
def swL (ps : List (Nat × Nat)) : List St := ps.map swS
theorem swL_app (ps qs : List (Nat × Nat)) : swL (ps ++ qs) = swL ps ++ swL qs := by simp [swL]
theorem swL_len (ps : List (Nat × Nat)) : (swL ps).length = ps.length := by simp [swL]
theorem scells_one (xs : List St) : ∀ u ∈ scells xs, u.oneCell' = true := by
  intro u hu
  unfold scells at hu
  obtain ⟨x, _, hx⟩ := List.mem_flatMap.1 hu
  simp at hx
  rcases hx with rfl | rfl | rfl <;> rfl
theorem op_k {F : Fence} {n : Nat} {P : Program} {o : Oper} {a : Act} {w : World} {X : Act → World → Prop} {Q : Exit → Act → World → Prop} (h : ∀ K : Act → World → Prop, (∀ a w, X a w → K a w) → Oper.wpIn F n P o a w K Q) : Oper.wpIn F n P o a w X Q := h X fun _ _ h => h
/-- the cells of a row of one's own, at its address -/
theorem own_cellsAt {w : World} {base : Nat} {e : TypeId} {n b cap : Nat} {xs : List Value} {size : Nat} (h : w.ownsRow base e size (.slice (some ⟨b, 0, none⟩) n cap) n xs) : ∀ j u, xs[j]? = some u → w.cell? ((⟨b, 0, none⟩ : Addr).add j) = some u := by
  intro j u hu
  have hj : j < n * size := by have := (List.getElem?_eq_some_iff.1 hu).1; rw [h.1] at this; exact this
  rw [show (⟨b, 0, none⟩ : Addr).add j = ⟨b, j, none⟩ by unfold Addr.add; split <;> simp_all]
  rw [h.cellAt j hj]; exact hu
end Go.PS
namespace Go.Proofs.YtplapaojgcloaaaDoor
open Go.RowKit Go.PM Go.PS
theorem infoSt3 : (Tryd.prog.info? 72).map (fun i => (i.zero, i.size, i.bytes)) = some (some (.agg #[.int .i64 0, .string ⟨#[]⟩, .string ⟨#[]⟩]), 3, 40) := by kernel_rfl
theorem sliceIn_st {F : Fence} {n : Nat} {o : Oper} {a : Act} {w : World} {K : Act → World → Prop} {Q : Exit → Act → World → Prop} (x : Operand) (ho : o.op = .buildSlice 23 1 #[(0, x)]) (k : Int) (s t : ByteArray) (hx : a.eval x = .agg #[.int .i64 k, .string s, .string t])
    (h : K (a.put o.dst (.slice (some ⟨w.heap.size, 0, none⟩) 1 1)) (w.alloc (.cells #[.int .i64 k, .string s, .string t] 72))) : o.wpIn F n Tryd.prog a w K Q := by
  obtain ⟨i0, hi0, hz0, hz1, hz2⟩ := info_parts infoSt3
  refine sliceIn 23 72 1 #[(0, x)] ho #[.int .i64 k, .string s, .string t] i0 _ Tryd.underlying23 hi0 hz0 (by rw [hz1]; decide) (by rw [hz1]; decide) ?_ h
  have hr : Array.range 3 = #[0, 1, 2] := by decide
  simp [hx, hz1, Instr.fill, Value.cells, hr]
theorem listIn_st {F : Fence} {k : Nat} {ops : Array Oper} {rest : List Oper} {o : Oper} {a : Act} {Q : Exit → Act → World → Prop} {w : World} (hgd : o.guard = none) (s x : Operand)
    (ho : o.op = .call { callee := .builtin .append, args := #[s, x], argTypes := #[23, 23] })
    (base : Nat) (v : Value) (ys : List St) (m : St) (ad : Addr) (c : Nat) (hs : a.eval s = v) (hx : a.eval x = .slice (some ad) 1 c)
    (hown : w.ownsRow base 72 3 v ys.length (scells ys)) (hnew : ∀ j u, [Value.int .i64 m.1, Value.string m.2.1, Value.string m.2.2][j]? = some u → w.cell? (ad.add j) = some u)
    (hlen : ys.length ≤ 1048576) (hbase : base ≤ w.heap.size)
    (h : ∀ v' w', w'.ownsRow base 72 3 v' (ys ++ [m]).length (scells (ys ++ [m])) → w.grownBy w' v.ownBlock → wpListIn F k Tryd.prog ops Q rest (a.put o.dst v') w') : wpListIn F k Tryd.prog ops Q (o :: rest) a w := by
  obtain ⟨i0, hi0, hz0, hz1, hz2⟩ := info_parts infoSt3
  refine wpListIn_append_own w hgd s x _ ho base 72 i0 _ 3 40 Tryd.underlying23 hi0 hz0 hz1 hz2 rfl (by omega) v ys.length (scells ys) hs hown ad 1 c [Value.int .i64 m.1, Value.string m.2.1, Value.string m.2.2] hx rfl hnew
    (by intro u hu; simp at hu; rcases hu with rfl | rfl | rfl <;> rfl) (by simp only [maxLen]; omega) (by omega) hbase ?_
  intro v' w' h2 h3 _
  refine h v' w' ?_ h3
  have hcs : scells ys ++ [Value.int .i64 m.1, Value.string m.2.1, Value.string m.2.2] = scells (ys ++ [m]) := by rw [scells_append]; simp [scells]
  rw [← hcs, List.length_append]
  simpa using h2
/-- append of a whole row of steps -/
theorem run_app_rows (w : World) (ty : TypeId) (base base2 : Nat) (v v2 : Value) (ys zs : List St) (hown : w.ownsRow base 72 3 v ys.length (scells ys)) (hown2 : w.ownsRow base2 72 3 v2 zs.length (scells zs))
    (hlen : ys.length + zs.length ≤ 1048576) (hbase : base ≤ w.heap.size) :
    ∃ v' w', (Builtin.append_ #[23, 23] ty #[v, v2]).run Tryd.prog w = .ok v' w' ∧ w'.ownsRow base 72 3 v' (ys ++ zs).length (scells (ys ++ zs)) ∧ w.grownBy w' v.ownBlock := by
  obtain ⟨i0, hi0, hz0, hz1, hz2⟩ := info_parts infoSt3
  have hc2 := hown2.2
  rcases hc2 with ⟨rfl, hn⟩ | ⟨g, cap, cur, rfl, _, _, _⟩
  · have hz : zs = [] := List.length_eq_zero_iff.1 hn
    subst hz
    refine ⟨v, w, run_append_owned_none w base 23 ty 72 i0 3 Tryd.underlying23 hi0 v ys.length (scells ys) hown, by simpa using hown, grown_refl _ _⟩
  · obtain ⟨v', w', hr, r1, r2, _⟩ := run_append_own (P := Tryd.prog) w base 23 ty 72 i0 _ 3 40 Tryd.underlying23 hi0 hz0 hz1 hz2 rfl (by omega) v ys.length (scells ys) hown ⟨g, 0, none⟩ zs.length cap (scells zs) (scells_length zs) (own_cellsAt hown2) (scells_one zs) (by simp only [maxLen]; omega) (by omega) hbase
    refine ⟨v', w', hr, ?_, r2⟩
    rw [List.length_append, scells_append]; exact r1
theorem listIn_rows {F : Fence} {k : Nat} {ops : Array Oper} {rest : List Oper} {o : Oper} {a : Act} {Q : Exit → Act → World → Prop} {w : World} (hgd : o.guard = none) (s x : Operand)
    (ho : o.op = .call { callee := .builtin .append, args := #[s, x], argTypes := #[23, 23] })
    (base base2 : Nat) (v v2 : Value) (ys zs : List St) (hs : a.eval s = v) (hx : a.eval x = v2)
    (hown : w.ownsRow base 72 3 v ys.length (scells ys)) (hown2 : w.ownsRow base2 72 3 v2 zs.length (scells zs))
    (hlen : ys.length + zs.length ≤ 1048576) (hbase : base ≤ w.heap.size)
    (h : ∀ v' w', w'.ownsRow base 72 3 v' (ys ++ zs).length (scells (ys ++ zs)) → w.grownBy w' v.ownBlock → wpListIn F k Tryd.prog ops Q rest (a.put o.dst v') w') : wpListIn F k Tryd.prog ops Q (o :: rest) a w := by
  refine wpListIn_plain hgd fun K hK' => ?_
  obtain ⟨v', w', hrun, r1, r2⟩ := run_app_rows w o.type base base2 v v2 ys zs hown hown2 hlen hbase
  unfold Oper.wpIn
  refine ⟨?_, ?_⟩
  · simp [Oper.about, ho, resolve, Target.leads, Sem.run_pure]
  · rw [Oper.semAt_plain F _ _ (by rw [ho]; intro c hc'; cases hc')]
    simp [execOp, ho, resolve, invoke, builtin, hs, hx, hrun, Result.andThen]
    exact hK' _ _ (h v' w' r1 r2)
end Go.Proofs.YtplapaojgcloaaaDoor
namespace Go.PE
open Go.PM Go.RowKit
theorem kept_eq (k : Int) (a : ByteArray) (n : Nat) : keptN (k, a, a) n = false := by
  unfold keptN
  show (decide (a ≠ a) && _) = false
  rw [decide_eq_false (by simp), Bool.false_and]
end Go.PE
namespace Go.Proofs.YtplapaojgcloaaaDoor
open Go.RowKit Go.PM Go.PE Go.PS
attribute [local go_sem] Oper.semAt_some

theorem list_rows9 {ops : Array Oper} {rest : List Oper} {o : Oper} {a : Act} {Q : Exit → Act → World → Prop} {w : World} (hgd : o.guard = none) (s x : Operand)
    (ho : o.op = .call { callee := .builtin .append, args := #[s, x], argTypes := #[23, 23] })
    (base base2 : Nat) (v v2 : Value) (ys zs : List St) (hs : a.eval s = v) (hx : a.eval x = v2)
    (hown : w.ownsRow base 72 3 v ys.length (scells ys)) (hown2 : w.ownsRow base2 72 3 v2 zs.length (scells zs))
    (hlen : ys.length + zs.length ≤ 1048576) (hbase : base ≤ w.heap.size)
    (h : ∀ v' w', w'.ownsRow base 72 3 v' (ys ++ zs).length (scells (ys ++ zs)) → w.grownBy w' v.ownBlock → wpList Tryd.prog ops Q rest (a.put o.dst v') w') : wpList Tryd.prog ops Q (o :: rest) a w := by
  refine wpList_plain hgd fun K hK' => ?_
  obtain ⟨v', w', hrun, r1, r2⟩ := run_app_rows w o.type base base2 v v2 ys zs hown hown2 hlen hbase
  unfold Oper.wp
  simp [execOp, ho, resolve, invoke, builtin, hs, hx, hrun, Result.andThen]
  exact hK' _ _ (h v' w' r1 r2)
set_option maxRecDepth 100000 in
set_option maxHeartbeats 3200000 in
theorem l9Back_c (xs : List St) (hv : svalid xs = true) (t : ByteArray) (h2 : wvB t = true) (v : Value) (w : World) (hx : RdS w v xs) :
    Calls Tryd.prog 54 #[v, .string t] w fun e w' => ∃ v' q, e = .returned (.tuple #[v', .string q]) ∧ Hid (q.size ≤ 1000 ∧ Rep q (bkS xs (wnN t.data.toList)).2) ∧ w'.ownsRow w.heap.size 72 3 v' ((bkS xs (wnN t.data.toList)).1).length (scells (bkS xs (wnN t.data.toList)).1) ∧ Below w.heap.size w w' := by
  have hlt := wn_2048 t.data.toList
  have hlen := svalid_len hv
  have hz9 := wv_size h2
  have hrw := Lib.hid (rep_wn h2)
  have HLT := Lib.hid (fun ys => bkS_lt hlt ys)
  generalize wnN t.data.toList = n0 at *
  have HBS := Lib.hid (fun k hk => bkS_drop xs n0 k hk)
  have HBL := Lib.hid (fun ys => bkS_len n0 ys)
  have HOK := Lib.hid (fun k hk => svalid_at hv k hk)
  have hE := World.ownsRow_lit (e := 72) (base := w.heap.size) (size := 3) w #[] 0 (Nat.le_refl _) (Nat.zero_le _) rfl
  have hB0 : Below w.heap.size w (w.alloc (.cells #[] 72)) := (Below.refl _ _).alloc (Nat.le_refl _) _
  obtain ⟨A, cap, rfl, hn, hc, hcell⟩ := hx.open
  have HCELL := Lib.hid hcell
  clear hcell hx h2
  go_enter Tryd.func54, Tryd.ntmps54
  go_wp2
  have HE0 : Hid ((w.alloc (.cells #[] 72)).ownsRow w.heap.size 72 3 (.slice (some ⟨w.heap.size, 0, none⟩) 0 0) ((bkS (xs.drop xs.length) n0).1).length (scells (bkS (xs.drop xs.length) n0).1)) := by
    show World.ownsRow _ _ _ _ _ _ _
    rw [List.drop_length]; exact hE
  generalize (w.alloc (.cells #[] 72)) = W0 at *
  go_loopw [6, 7, 8, 9, 10, 11] (fun o s i _ _ _ wr => ∃ (k : Nat), k ≤ xs.length ∧ i = .int .i64 ((k : Int) - 1) ∧ (∃ q, s = .string q ∧ q.size ≤ 9 + 2 * (xs.length - k) ∧ Rep q (bkS (xs.drop k) n0).2) ∧ wr.ownsRow w.heap.size 72 3 o ((bkS (xs.drop k) n0).1).length (scells (bkS (xs.drop k) n0).1) ∧ Below w.heap.size w wr) (fun _ _ i _ _ _ _ => (RowKit.intOf i + 1).toNat)
  case atStart => exact ⟨xs.length, by omega, rfl, ⟨t, rfl, by omega, by rw [List.drop_length]; exact hrw.out⟩, HE0.out, hB0⟩
  case round =>
    clear hE hB0
    obtain ⟨k, hk, rfl, ⟨sq, rfl, hsq, hrp⟩, ho, hb⟩ := hrel
    have hrp := Lib.hid hrp
    have hbs := hb.size
    by_cases hlt0 : 0 < k
    · obtain ⟨k, rfl⟩ : ∃ k', k = k' + 1 := ⟨k - 1, by omega⟩
      have ek : ((k + 1 : Nat) : Int) - 1 = (k : Int) := by omega
      rw [ek]
      have hk2 : k < xs.length := by omega
      obtain ⟨b, off, rfl, hbl, hc1, hc2, hc3⟩ := HCELL.out k hk2
      have hd1 := (hb.cell (p := ⟨b, off + k * 3, none⟩) hbl).trans hc1
      have hd2 := (hb.cell (p := ⟨b, off + k * 3 + 1, none⟩) hbl).trans hc2
      have hd3 := (hb.cell (p := ⟨b, off + k * 3 + 2, none⟩) hbl).trans hc3
      clear hc1 hc2 hc3
      have HBK : Hid (bkS (xs.drop k) n0 = if keptN (xs[k].1, xs[k].2.1, xs[k].2.2) (bkS (xs.drop (k + 1)) n0).2 then ((xs[k].1, xs[k].2.1, xs[k].2.2) :: (bkS (xs.drop (k + 1)) n0).1, aheadN (xs[k].1, xs[k].2.1, xs[k].2.2) (bkS (xs.drop (k + 1)) n0).2) else bkS (xs.drop (k + 1)) n0) := HBS.out k hk2
      have hok : stOk (xs[k].1, xs[k].2.1, xs[k].2.2) = true := HOK.out k hk2
      have hlt2 := HLT.out (xs.drop (k + 1))
      have hbl2 := HBL.out (xs.drop (k + 1))
      rw [List.length_drop] at hbl2
      have i0 : (0 : Int) ≤ (k : Int) := by omega
      have i1 : (k : Int) < (xs.length : Int) := by omega
      generalize xs[k].1 = x1 at *
      generalize xs[k].2.1 = x2 at *
      generalize xs[k].2.2 = x3 at *
      obtain ⟨s1, s2⟩ := st_sizes1 hok
      have p1 : 0 < x2.size := by omega
      have p2 : 0 < x3.size := by omega
      have hN1 : At (wr.alloc (.cells #[.int .i64 x1, .string x2, .string x3] 72)) wr.heap.size 72 #[.int .i64 x1, .string x2, .string x3] := At.new _ _ _
      have bA : Below wr.heap.size wr (wr.alloc (.cells #[.int .i64 x1, .string x2, .string x3] 72)) := (Below.refl _ _).alloc (Nat.le_refl _) _
      have ho1 := own_keep ho bA
      have hb1 := hb.trans (bA.mono hbs)
      have HFa := Lib.hid (fun W => l13Find_c sq x2[0] W (by omega))
      have HFb := Lib.hid (fun W => l13Find_c sq x3[0] W (by omega))
      have hkd := stOk_kind hok
      have HIA : Hid (isC x2 = true → decide ((0 : Int) ≤ Lib.indexByte sq.data.toList x2[0]) = (bkS (xs.drop (k + 1)) n0).2.testBit (cidx x2)) := fun h => rep_idx hrp.out h p1
      have HIB : Hid (isC x3 = true → decide ((0 : Int) ≤ Lib.indexByte sq.data.toList x3[0]) = (bkS (xs.drop (k + 1)) n0).2.testBit (cidx x3)) := fun h => rep_idx hrp.out h p2
      generalize Lib.indexByte sq.data.toList x2[0] = za at *
      generalize Lib.indexByte sq.data.toList x3[0] = zb at *
      clear ho hb bA
      go_wp2
      obtain ⟨W1, hW1⟩ : ∃ W1 : World, W1 = wr.alloc (.cells #[.int .i64 x1, .string x2, .string x3] 72) := ⟨_, rfl⟩
      rw [← hW1] at hN1 hb1 ho1 ⊢
      clear hW1
      have hl1 := hN1.lt
      have y1 : ∀ x : Ext W1.heap.size W1, x.val.cell? ⟨wr.heap.size, 1, none⟩ = some (.string x2) := fun x => (x.property.cell (p := ⟨wr.heap.size, 1, none⟩) hl1).trans (hN1.cell 1)
      have y2 : ∀ x : Ext W1.heap.size W1, x.val.cell? ⟨wr.heap.size, 2, none⟩ = some (.string x3) := fun x => (x.property.cell (p := ⟨wr.heap.size, 2, none⟩) hl1).trans (hN1.cell 2)
      refine wp_region_ext W1.heap.size (by kernel_rfl) (by kernel_rfl) ?_
      repeat (go_big_quiet_step ((go_at_call 56; first | (with_reducible exact ext_same _ (HFa.out _)) | (with_reducible exact ext_same _ (HFb.out _)))))
      refine wpQuiet_nil ?_
      intro w4 hw'
      obtain ⟨xw, hxw⟩ := hw'
      have hbw := xw.property
      rw [← hxw] at hbw
      clear hxw xw y1 y2 HFa HFb hd1 hd2 hd3
      have hN4 := hN1.keep hbw
      have ho4 := own_keep ho1 hbw
      have hb4 := hb1.trans (hbw.mono hb1.size)
      have c0 : w4.cell? ⟨wr.heap.size, 0, none⟩ = some (.int .i64 x1) := hN4.cell 0
      have c1 : w4.cell? ⟨wr.heap.size, 1, none⟩ = some (.string x2) := hN4.cell 1
      have c2 : w4.cell? ⟨wr.heap.size, 2, none⟩ = some (.string x3) := hN4.cell 2
      have hxs4 := hb4.size
      clear hN1 ho1 hb1 hbw hl1
      by_cases he : x2 = x3
      · have hq : (x2.toList == x3.toList) = true := (beq_str x2 x3).trans (decide_eq_true he)
        have HKP : Hid (keptN (x1, x2, x3) (bkS (xs.drop (k + 1)) n0).2 = false) := by show _ = _; rw [he]; exact kept_eq _ _ _
        clear he hN4
        have HNX : Hid (∃ q, q.size ≤ 9 + 2 * (xs.length - k) ∧ Rep q (bkS (xs.drop k) n0).2 ∧ sq = q) := ⟨sq, by omega, by rw [HBK.out, if_neg (by rw [HKP.out]; decide)]; exact hrp.out, rfl⟩
        have HO : Hid ((bkS (xs.drop k) n0).1 = (bkS (xs.drop (k + 1)) n0).1) := by show _ = _; rw [HBK.out, if_neg (by rw [HKP.out]; decide)]
        clear HBK HKP hrp
        go_wp2
        go_roundw
        case rel =>
          obtain ⟨q, z1, z2, rfl⟩ := HNX.out
          exact ⟨k, by omega, by go_num, ⟨sq, rfl, z1, z2⟩, by rw [HO.out]; exact ho4, hb4⟩
        case measure => simp [RowKit.intOf]
      · have hq : (x2.toList == x3.toList) = false := (beq_str x2 x3).trans (decide_eq_false he)
        rcases hkd with rfl | rfl
        · obtain ⟨ha, hb'⟩ := stOk_move hok
          have hkm := keptN_move (b := x3) ha (bkS (xs.drop (k + 1)) n0).2
          rw [decide_eq_true (show x2 ≠ x3 from he), Bool.true_and, ← HIA.out ha] at hkm
          by_cases hza : (0 : Int) ≤ za
          · have hzd : decide ((0 : Int) ≤ za) = true := decide_eq_true hza
            have HKP : Hid (keptN (0, x2, x3) (bkS (xs.drop (k + 1)) n0).2 = true) := by show _ = _; rw [hkm]; exact hzd
            clear he hkm HIA HIB ha hb'
            have HAH := Lib.hid (fun W => l9Ahead_c 0 x2 x3 sq (bkS (xs.drop (k + 1)) n0).2 hok HKP.out hlt2 hrp.out (by omega) W)
            have HO : Hid ([(0, x2, x3)] ++ (bkS (xs.drop (k + 1)) n0).1 = (bkS (xs.drop k) n0).1) := by show _ = _; rw [HBK.out, if_pos HKP.out]; rfl
            have HA2 : Hid (aheadN (0, x2, x3) (bkS (xs.drop (k + 1)) n0).2 = (bkS (xs.drop k) n0).2) := by show _ = _; rw [HBK.out, if_pos HKP.out]
            rw [HA2.out] at HAH
            clear HBK HKP hrp hok
            go_wp2_with fail
            refine (HAH.out _).mono ?_
            rintro e w5 ⟨q5, rfl, hq5, hb5⟩
            have hN5 := hN4.keep hb5
            have ho5 := own_keep ho4 hb5
            have hB5 := hb4.trans (hb5.mono hb4.size)
            have c0 : w5.cell? ⟨wr.heap.size, 0, none⟩ = some (.int .i64 0) := hN5.cell 0
            have c1 : w5.cell? ⟨wr.heap.size, 1, none⟩ = some (.string x2) := hN5.cell 1
            have c2 : w5.cell? ⟨wr.heap.size, 2, none⟩ = some (.string x3) := hN5.cell 2
            have hs5 := hB5.size
            clear hN4 ho4 hb4 hb5 HAH hN5 hxs4
            go_wp2_with (at_builtin; refine held ?_)
            unfold Held
            have bn : Below w5.heap.size w5 (w5.alloc (.cells #[.int .i64 0, .string x2, .string x3] 72)) := (Below.refl _ _).alloc (Nat.le_refl _) _
            have hL : (w5.alloc (.cells #[.int .i64 0, .string x2, .string x3] 72)).ownsRow w.heap.size 72 3 (.slice (some ⟨w5.heap.size, 0, none⟩) 1 1) [(0, x2, x3)].length (scells [(0, x2, x3)]) := World.ownsRow_lit (e := 72) (base := w.heap.size) (size := 3) w5 #[.int .i64 0, .string x2, .string x3] 1 hs5 (by decide) rfl
            refine list_rows9 rfl (.tmp 63) (.tmp 64) rfl w.heap.size w.heap.size _ u6 [(0, x2, x3)] (bkS (xs.drop (k + 1)) n0).1 (by rfl) (by rfl) hL (own_keep ho5 bn) (by simp; omega) (by simp; omega) ?_
            intro v6 w6 ho6 hg6
            have hB6 := (hB5.trans (bn.mono hs5)).trans (below_grown hg6 (B := w.heap.size) (by simp; omega) (own_block_ge hL))
            rw [HO.out] at ho6
            clear hg6 hL bn ho5 hB5 c0 c1 c2
            go_wp2
            go_roundw
            case rel => exact ⟨k, by omega, by go_num, ⟨q5, rfl, by have := hq5.out.2; omega, hq5.out.1⟩, ho6, hB6⟩
            case measure => simp [RowKit.intOf]
          · have hzd : decide ((0 : Int) ≤ za) = false := decide_eq_false hza
            have HKP : Hid (keptN (0, x2, x3) (bkS (xs.drop (k + 1)) n0).2 = false) := by show _ = _; rw [hkm]; exact hzd
            clear he hkm HIA HIB ha hb' hN4
            have HNX : Hid (∃ q, q.size ≤ 9 + 2 * (xs.length - k) ∧ Rep q (bkS (xs.drop k) n0).2 ∧ sq = q) := ⟨sq, by omega, by rw [HBK.out, if_neg (by rw [HKP.out]; decide)]; exact hrp.out, rfl⟩
            have HO : Hid ((bkS (xs.drop k) n0).1 = (bkS (xs.drop (k + 1)) n0).1) := by show _ = _; rw [HBK.out, if_neg (by rw [HKP.out]; decide)]
            clear HBK HKP hrp
            go_wp2
            go_roundw
            case rel =>
              obtain ⟨q, z1, z2, rfl⟩ := HNX.out
              exact ⟨k, by omega, by go_num, ⟨sq, rfl, z1, z2⟩, by rw [HO.out]; exact ho4, hb4⟩
            case measure => simp [RowKit.intOf]
        · obtain ⟨ha, hb'⟩ := stOk_swap hok
          have hkm := keptN_swap ha hb' (bkS (xs.drop (k + 1)) n0).2
          rw [decide_eq_true (show x2 ≠ x3 from he), Bool.true_and, ← HIA.out ha, ← HIB.out hb'] at hkm
          by_cases hza : (0 : Int) ≤ za
          · have hzd : decide ((0 : Int) ≤ za) = true := decide_eq_true hza
            have HKP : Hid (keptN (1, x2, x3) (bkS (xs.drop (k + 1)) n0).2 = true) := by show _ = _; rw [hkm, hzd]; rfl
            clear he hkm HIA HIB ha hb'
            have HAH := Lib.hid (fun W => l9Ahead_c 1 x2 x3 sq (bkS (xs.drop (k + 1)) n0).2 hok HKP.out hlt2 hrp.out (by omega) W)
            have HO : Hid ([(1, x2, x3)] ++ (bkS (xs.drop (k + 1)) n0).1 = (bkS (xs.drop k) n0).1) := by show _ = _; rw [HBK.out, if_pos HKP.out]; rfl
            have HA2 : Hid (aheadN (1, x2, x3) (bkS (xs.drop (k + 1)) n0).2 = (bkS (xs.drop k) n0).2) := by show _ = _; rw [HBK.out, if_pos HKP.out]
            rw [HA2.out] at HAH
            clear HBK HKP hrp hok
            go_wp2_with fail
            refine (HAH.out _).mono ?_
            rintro e w5 ⟨q5, rfl, hq5, hb5⟩
            have hN5 := hN4.keep hb5
            have ho5 := own_keep ho4 hb5
            have hB5 := hb4.trans (hb5.mono hb4.size)
            have c0 : w5.cell? ⟨wr.heap.size, 0, none⟩ = some (.int .i64 1) := hN5.cell 0
            have c1 : w5.cell? ⟨wr.heap.size, 1, none⟩ = some (.string x2) := hN5.cell 1
            have c2 : w5.cell? ⟨wr.heap.size, 2, none⟩ = some (.string x3) := hN5.cell 2
            have hs5 := hB5.size
            clear hN4 ho4 hb4 hb5 HAH hN5 hxs4
            go_wp2_with (at_builtin; refine held ?_)
            unfold Held
            have bn : Below w5.heap.size w5 (w5.alloc (.cells #[.int .i64 1, .string x2, .string x3] 72)) := (Below.refl _ _).alloc (Nat.le_refl _) _
            have hL : (w5.alloc (.cells #[.int .i64 1, .string x2, .string x3] 72)).ownsRow w.heap.size 72 3 (.slice (some ⟨w5.heap.size, 0, none⟩) 1 1) [(1, x2, x3)].length (scells [(1, x2, x3)]) := World.ownsRow_lit (e := 72) (base := w.heap.size) (size := 3) w5 #[.int .i64 1, .string x2, .string x3] 1 hs5 (by decide) rfl
            refine list_rows9 rfl (.tmp 63) (.tmp 64) rfl w.heap.size w.heap.size _ u6 [(1, x2, x3)] (bkS (xs.drop (k + 1)) n0).1 (by rfl) (by rfl) hL (own_keep ho5 bn) (by simp; omega) (by simp; omega) ?_
            intro v6 w6 ho6 hg6
            have hB6 := (hB5.trans (bn.mono hs5)).trans (below_grown hg6 (B := w.heap.size) (by simp; omega) (own_block_ge hL))
            rw [HO.out] at ho6
            clear hg6 hL bn ho5 hB5 c0 c1 c2
            go_wp2
            go_roundw
            case rel => exact ⟨k, by omega, by go_num, ⟨q5, rfl, by have := hq5.out.2; omega, hq5.out.1⟩, ho6, hB6⟩
            case measure => simp [RowKit.intOf]
          · have hzd : decide ((0 : Int) ≤ za) = false := decide_eq_false hza
            by_cases hzb : (0 : Int) ≤ zb
            · have hze : decide ((0 : Int) ≤ zb) = true := decide_eq_true hzb
              have HKP : Hid (keptN (1, x2, x3) (bkS (xs.drop (k + 1)) n0).2 = true) := by show _ = _; rw [hkm, hzd, hze]; rfl
              clear he hkm HIA HIB ha hb'
              have HAH := Lib.hid (fun W => l9Ahead_c 1 x2 x3 sq (bkS (xs.drop (k + 1)) n0).2 hok HKP.out hlt2 hrp.out (by omega) W)
              have HO : Hid ([(1, x2, x3)] ++ (bkS (xs.drop (k + 1)) n0).1 = (bkS (xs.drop k) n0).1) := by show _ = _; rw [HBK.out, if_pos HKP.out]; rfl
              have HA2 : Hid (aheadN (1, x2, x3) (bkS (xs.drop (k + 1)) n0).2 = (bkS (xs.drop k) n0).2) := by show _ = _; rw [HBK.out, if_pos HKP.out]
              rw [HA2.out] at HAH
              clear HBK HKP hrp hok
              go_wp2_with fail
              refine (HAH.out _).mono ?_
              rintro e w5 ⟨q5, rfl, hq5, hb5⟩
              have hN5 := hN4.keep hb5
              have ho5 := own_keep ho4 hb5
              have hB5 := hb4.trans (hb5.mono hb4.size)
              have c0 : w5.cell? ⟨wr.heap.size, 0, none⟩ = some (.int .i64 1) := hN5.cell 0
              have c1 : w5.cell? ⟨wr.heap.size, 1, none⟩ = some (.string x2) := hN5.cell 1
              have c2 : w5.cell? ⟨wr.heap.size, 2, none⟩ = some (.string x3) := hN5.cell 2
              have hs5 := hB5.size
              clear hN4 ho4 hb4 hb5 HAH hN5 hxs4
              go_wp2_with (at_builtin; refine held ?_)
              unfold Held
              have bn : Below w5.heap.size w5 (w5.alloc (.cells #[.int .i64 1, .string x2, .string x3] 72)) := (Below.refl _ _).alloc (Nat.le_refl _) _
              have hL : (w5.alloc (.cells #[.int .i64 1, .string x2, .string x3] 72)).ownsRow w.heap.size 72 3 (.slice (some ⟨w5.heap.size, 0, none⟩) 1 1) [(1, x2, x3)].length (scells [(1, x2, x3)]) := World.ownsRow_lit (e := 72) (base := w.heap.size) (size := 3) w5 #[.int .i64 1, .string x2, .string x3] 1 hs5 (by decide) rfl
              refine list_rows9 rfl (.tmp 63) (.tmp 64) rfl w.heap.size w.heap.size _ u6 [(1, x2, x3)] (bkS (xs.drop (k + 1)) n0).1 (by rfl) (by rfl) hL (own_keep ho5 bn) (by simp; omega) (by simp; omega) ?_
              intro v6 w6 ho6 hg6
              have hB6 := (hB5.trans (bn.mono hs5)).trans (below_grown hg6 (B := w.heap.size) (by simp; omega) (own_block_ge hL))
              rw [HO.out] at ho6
              clear hg6 hL bn ho5 hB5 c0 c1 c2
              go_wp2
              go_roundw
              case rel => exact ⟨k, by omega, by go_num, ⟨q5, rfl, by have := hq5.out.2; omega, hq5.out.1⟩, ho6, hB6⟩
              case measure => simp [RowKit.intOf]
            · have hze : decide ((0 : Int) ≤ zb) = false := decide_eq_false hzb
              have HKP : Hid (keptN (1, x2, x3) (bkS (xs.drop (k + 1)) n0).2 = false) := by show _ = _; rw [hkm, hzd, hze]; rfl
              clear he hkm HIA HIB ha hb' hN4
              have HNX : Hid (∃ q, q.size ≤ 9 + 2 * (xs.length - k) ∧ Rep q (bkS (xs.drop k) n0).2 ∧ sq = q) := ⟨sq, by omega, by rw [HBK.out, if_neg (by rw [HKP.out]; decide)]; exact hrp.out, rfl⟩
              have HO : Hid ((bkS (xs.drop k) n0).1 = (bkS (xs.drop (k + 1)) n0).1) := by show _ = _; rw [HBK.out, if_neg (by rw [HKP.out]; decide)]
              clear HBK HKP hrp
              go_wp2
              go_roundw
              case rel =>
                obtain ⟨q, z1, z2, rfl⟩ := HNX.out
                exact ⟨k, by omega, by go_num, ⟨sq, rfl, z1, z2⟩, by rw [HO.out]; exact ho4, hb4⟩
              case measure => simp [RowKit.intOf]
    · obtain rfl : k = 0 := by omega
      have ek : ((0 : Nat) : Int) - 1 = -1 := rfl
      rw [ek]
      rw [List.drop_zero] at ho
      have HQ : Hid (sq.size ≤ 1000 ∧ Rep sq (bkS xs n0).2) := ⟨by omega, by have := hrp.out; rwa [List.drop_zero] at this⟩
      go_wp2
      go_ret2
      exact ⟨_, sq, rfl, HQ, ho, hb⟩
end Go.Proofs.YtplapaojgcloaaaDoor
namespace Go.PE
open Go.PM Go.RowKit
theorem dsS_len (xs : List St) (t : ByteArray) : (dsS xs t).length ≤ 60 := by
  unfold dsS
  split
  · next h =>
    rw [Bool.and_eq_true] at h
    have h1 := svalid_len h.1
    have h2 := bkS_len (wnN t.data.toList) xs
    omega
  · simp
end Go.PE
namespace Go.Proofs.YtplapaojgcloaaaDoor
open Go.RowKit Go.PM Go.PE Go.PS
attribute [local go_sem] Oper.semAt_some

set_option maxRecDepth 100000 in
set_option maxHeartbeats 1600000 in
theorem spDropSteps_c (xs : List St) (v : Value) (t : ByteArray) (ht : t.size ≤ 1048576) (w : World) (hx : RdS w v xs) :
    Calls Tryd.prog 15 #[v, .string t] w fun e w' => ∃ v', e = .returned (.tuple #[v', .bool (svalid xs && wvB t)]) ∧ w'.ownsRow w.heap.size 72 3 v' (dsS xs t).length (scells (dsS xs t)) ∧ Below w.heap.size w w' := by
  have HV := Lib.hid (spSequenceValid_c xs v w hx)
  have HW := Lib.hid (fun W => spWantedValid_c t (by omega) W)
  have HX := Lib.hid (fun W (hb : Below w.heap.size w W) => hx.below hb)
  rcases Bool.eq_false_or_eq_true (svalid xs) with h1 | h1
  · rcases Bool.eq_false_or_eq_true (wvB t) with h2 | h2
    · have HA : Hid ((svalid xs && wvB t) = true) := by show _ = _; rw [h1, h2]; rfl
      have HN := Lib.hid (dsS_yes HA.out)
      have HL := Lib.hid (fun W hW => l9Back_c xs h1 t h2 v W hW)
      rw [h1] at HV
      rw [h2] at HW
      clear h1 h2 hx
      go_enter Tryd.func15, Tryd.ntmps15
      go_wp2_with fail
      refine HV.out.mono ?_
      rintro e w1 ⟨rfl, hb1⟩
      have hs1 := hb1.size
      go_wp2_with (first | (go_at_call 26; refine (HW.out _).mono ?_; rintro e w' ⟨rfl, rfl⟩) | (go_at_call 54; refine (HL.out _ (HX.out _ hb1)).mono ?_; rintro e w2 ⟨v2, q2, rfl, hq2, ho2, hb2⟩; refine held ?_))
      unfold Held
      have hB2 := hb1.trans (hb2.mono hs1)
      have ho3 := own_more ho2 hs1
      clear hb2 ho2
      go_wp2
      go_ret2
      exact ⟨_, by rw [HA.out]; rfl, by rw [HN.out]; exact ho3, hB2⟩
    · have HA : Hid ((svalid xs && wvB t) = false) := by show _ = _; rw [h1, h2]; rfl
      have HN := Lib.hid (dsS_no HA.out)
      rw [h1] at HV
      rw [h2] at HW
      clear h1 h2 hx
      go_enter Tryd.func15, Tryd.ntmps15
      go_wp2_with fail
      refine HV.out.mono ?_
      rintro e w1 ⟨rfl, hb1⟩
      have hs1 := hb1.size
      have hE := World.ownsRow_lit (e := 72) (base := w.heap.size) (size := 3) w1 #[] 0 hs1 (Nat.zero_le _) rfl
      go_wp2_with (go_at_call 26; refine (HW.out _).mono ?_; rintro e w' ⟨rfl, rfl⟩)
      go_ret2
      exact ⟨_, by rw [HA.out]; rfl, by rw [HN.out]; exact hE, hb1.alloc hs1 _⟩
  · have HA : Hid ((svalid xs && wvB t) = false) := by show _ = _; rw [h1]; rfl
    have HN := Lib.hid (dsS_no HA.out)
    rw [h1] at HV
    clear h1 hx
    go_enter Tryd.func15, Tryd.ntmps15
    go_wp2_with fail
    refine HV.out.mono ?_
    rintro e w1 ⟨rfl, hb1⟩
    have hs1 := hb1.size
    have hE := World.ownsRow_lit (e := 72) (base := w.heap.size) (size := 3) w1 #[] 0 hs1 (Nat.zero_le _) rfl
    go_wp2
    go_ret2
    exact ⟨_, by rw [HA.out]; rfl, by rw [HN.out]; exact hE, hb1.alloc hs1 _⟩
set_option maxRecDepth 100000 in
set_option maxHeartbeats 1600000 in
theorem spNeededAhead_c (xs : List St) (v : Value) (t : ByteArray) (ht : t.size ≤ 1048576) (w : World) (hx : RdS w v xs) :
    Calls Tryd.prog 17 #[v, .string t] w fun e w' => e = .returned (.tuple #[.string (naB xs t), .bool (svalid xs && wvB t)]) ∧ Below w.heap.size w w' := by
  have HV := Lib.hid (spSequenceValid_c xs v w hx)
  have HW := Lib.hid (fun W => spWantedValid_c t (by omega) W)
  have HX := Lib.hid (fun W (hb : Below w.heap.size w W) => hx.below hb)
  have HNX : Hid (∀ q, q < 11 → (ByteArray.mk #[97, 98, 99, 100, 101, 102, 65, 66, 67, 116, 117]).extract q (q+1) = ⟨#[cellsL.getD q 0]⟩) := fun q hq => extract_one ⟨#[97, 98, 99, 100, 101, 102, 65, 66, 67, 116, 117]⟩ q hq
  have HI : Hid (∀ q (_ : q < 11) (h : q < (ByteArray.mk #[97, 98, 99, 100, 101, 102, 65, 66, 67, 116, 117]).size), (ByteArray.mk #[97, 98, 99, 100, 101, 102, 65, 66, 67, 116, 117])[q] = cellsL.getD q 0) := by
    show ∀ q, _
    intro q hq h
    match q, hq with
    | 0, _ | 1, _ | 2, _ | 3, _ | 4, _ | 5, _ | 6, _ | 7, _ | 8, _ | 9, _ | 10, _ => rfl
  rcases Bool.eq_false_or_eq_true (svalid xs) with h1 | h1
  · rcases Bool.eq_false_or_eq_true (wvB t) with h2 | h2
    · have HA : Hid ((svalid xs && wvB t) = true) := by show _ = _; rw [h1, h2]; rfl
      have HN := Lib.hid (naB_yes HA.out)
      have HL := Lib.hid (fun W hW => l9Back_c xs h1 t h2 v W hW)
      rw [h1] at HV
      rw [h2] at HW
      generalize bkS xs (wnN t.data.toList) = bk at *
      have HPS := Lib.hid (fun k => pickB_succ cellsL bk.2.testBit k)
      have HPZ := Lib.hid (fun k => pickB_size cellsL bk.2.testBit k)
      clear h1 h2 hx
      go_enter Tryd.func17, Tryd.ntmps17
      go_wp2_with fail
      refine HV.out.mono ?_
      rintro e w1 ⟨rfl, hb1⟩
      have hs1 := hb1.size
      go_wp2_with (first | (go_at_call 26; refine (HW.out _).mono ?_; rintro e w' ⟨rfl, rfl⟩) | (go_at_call 54; refine (HL.out _ (HX.out _ hb1)).mono ?_; rintro e w2 ⟨v2, q2, rfl, hq2, ho2, hb2⟩; refine held ?_))
      unfold Held
      have hB2 := hb1.trans (hb2.mono hs1)
      have hqz := hq2.out.1
      have HFI := Lib.hid (fun c W => l13Find_c q2 c W (by omega))
      have HR : Hid (∀ p, p < 11 → decide ((0 : Int) ≤ Lib.indexByte q2.data.toList (cellsL.getD p 0)) = bk.2.testBit p) := fun p hp => by
        rw [Bool.eq_iff_iff, decide_eq_true_eq, indexByte_mem]; exact hq2.out.2 p hp
      clear hb2 ho2
      go_wp2
      go_loopw [6, 9, 24] (fun o _ i wr => ∃ (k : Nat), k ≤ 11 ∧ i = .int .i64 k ∧ o = .string (pickB cellsL bk.2.testBit k) ∧ Below w.heap.size w wr) (fun _ _ i _ => 11 - (RowKit.intOf i).toNat)
      case atStart => exact ⟨0, by omega, rfl, rfl, hB2⟩
      case round =>
        obtain ⟨k, hk, rfl, rfl, hb⟩ := hrel
        by_cases hlt : k < 11
        · have i0 : (0 : Int) ≤ (k : Int) := by omega
          have i1 : (k : Int) < 11 := by omega
          have hex := HNX.out k hlt
          have hix := HI.out k hlt
          have hr := HR.out k hlt
          have hsz := HPZ.out k
          have hps := HPS.out k
          have HFC := Lib.hid (fun W => HFI.out (cellsL.getD k 0) W)
          generalize cellsL.getD k 0 = c at *
          generalize Lib.indexByte q2.data.toList c = z at *
          rcases Bool.eq_false_or_eq_true (bk.2.testBit k) with hbt | hbt
          · rw [hbt] at hr
            rw [hbt, if_pos rfl] at hps
            have HPP := Lib.hid hps
            have hz0 : (0 : Int) ≤ z := of_decide_eq_true hr
            clear hps
            generalize pickB cellsL bk.2.testBit k = pk at *
            go_wp2_with (go_at_call 56; refine (HFC.out _).mono ?_; rintro e w' ⟨rfl, rfl⟩)
            go_roundw
            case rel => exact ⟨k + 1, by omega, by go_num, by rw [HPP.out], hb⟩
            case measure => simp [RowKit.intOf]; omega
          · rw [hbt] at hr
            rw [hbt, if_neg (by decide)] at hps
            have HPP := Lib.hid hps
            have hz0 : ¬ (0 : Int) ≤ z := of_decide_eq_false hr
            clear hps
            go_wp2_with (go_at_call 56; refine (HFC.out _).mono ?_; rintro e w' ⟨rfl, rfl⟩)
            go_roundw
            case rel => exact ⟨k + 1, by omega, by go_num, by rw [HPP.out], hb⟩
            case measure => simp [RowKit.intOf]; omega
        · have hk9 : k = 11 := by omega
          subst hk9
          go_wp2
          go_ret2
          exact ⟨by rw [HA.out, HN.out]; rfl, hb⟩
    · have HA : Hid ((svalid xs && wvB t) = false) := by show _ = _; rw [h1, h2]; rfl
      have HN := Lib.hid (naB_no HA.out)
      rw [h1] at HV
      rw [h2] at HW
      clear h1 h2 hx
      go_enter Tryd.func17, Tryd.ntmps17
      go_wp2_with fail
      refine HV.out.mono ?_
      rintro e w1 ⟨rfl, hb1⟩
      go_wp2_with (go_at_call 26; refine (HW.out _).mono ?_; rintro e w' ⟨rfl, rfl⟩)
      go_ret2
      exact ⟨by rw [HA.out, HN.out]; rfl, hb1⟩
  · have HA : Hid ((svalid xs && wvB t) = false) := by show _ = _; rw [h1]; rfl
    have HN := Lib.hid (naB_no HA.out)
    rw [h1] at HV
    clear h1 hx
    go_enter Tryd.func17, Tryd.ntmps17
    go_wp2_with fail
    refine HV.out.mono ?_
    rintro e w1 ⟨rfl, hb1⟩
    go_wp2
    go_ret2
    exact ⟨by rw [HA.out, HN.out]; rfl, hb1⟩
end Go.Proofs.YtplapaojgcloaaaDoor
namespace Go.Proofs.YtplapaojgcloaaaDoor
open Go.RowKit Go.PM
set_option maxRecDepth 100000 in
set_option maxHeartbeats 2000000 in
theorem eq_str (d : Nat) (a b : ByteArray) (W : World) : (Op.equalIn (d + 1) 9 (.string a) (.string b)).run Tryd.prog W = .ok (a == b) W := by
  simp [Op.equalIn, go_sem]
theorem eq_items (f g : Nat → ByteArray) (W : World) : ∀ is : List Nat, (∀ i ∈ is, i < 9) → (Op.eqItems 9999 9 1 (tabA f) (tabA g) is).run Tryd.prog W = .ok (is.all fun p => f p == g p) W := by
  intro is
  induction is with
  | nil => intro _; rfl
  | cons i is ih =>
    intro h
    have hi := h i (List.mem_cons_self ..)
    have h1 : (part 9 (tabA f) (i * 1)).run Tryd.prog W = .ok (.string (f i)) W := run_part_plain (P := Tryd.prog) W (by kernel_rfl) (by rw [Nat.mul_one]; exact tabC_at f i hi)
    have h2 : (part 9 (tabA g) (i * 1)).run Tryd.prog W = .ok (.string (g i)) W := run_part_plain (P := Tryd.prog) W (by kernel_rfl) (by rw [Nat.mul_one]; exact tabC_at g i hi)
    have h3 := eq_str 9998 (f i) (g i) W
    rw [Op.eqItems, Sem.run_bind, h1, Result.andThen_ok, Sem.run_bind, h2, Result.andThen_ok, Sem.run_bind, h3, Result.andThen_ok, List.all_cons]
    cases hb : (f i == g i)
    · rfl
    · rw [if_neg (by decide), ih (fun j hj => h j (List.mem_cons_of_mem _ hj)), Bool.true_and]
theorem eq_tab (f g : Nat → ByteArray) (W : World) : (Op.equal 86 (tabX f) (tabX g)).run Tryd.prog W = .ok ((List.range 9).all fun p => f p == g p) W := by
  have his : (Tryd.prog.info? 9).isSome = true := by kernel_rfl
  obtain ⟨i, hi⟩ := Option.isSome_iff_exists.1 his
  have hc : Tryd.prog.cellsOf 9 = 1 := by kernel_rfl
  have h := run_equalIn_array (P := Tryd.prog) (w := W) 9999 (t := 86) (e := 9) (n := 9) (tabA f) (tabA g) Tryd.underlying86 hi
  rw [hc] at h
  exact h.trans (eq_items f g W _ (fun i hi => by simpa using hi))
theorem beq_ba (a b : ByteArray) : (a == b) = decide (a = b) := by
  cases a with | mk a =>
  cases b with | mk b =>
  have h : ((ByteArray.mk a) == (ByteArray.mk b)) = (a == b) := rfl
  rw [h]
  by_cases e : a = b
  · subst e; simp
  · have : ¬ (ByteArray.mk a) = (ByteArray.mk b) := fun x => e (congrArg ByteArray.data x)
    simp [e]
theorem all_beq (f g : Nat → ByteArray) (l : List Nat) : (l.all fun p => f p == g p) = l.all fun p => decide (f p = g p) := by
  have : (fun p => f p == g p) = fun p => decide (f p = g p) := by funext p; exact beq_ba _ _
  rw [this]
end Go.Proofs.YtplapaojgcloaaaDoor
namespace Go.Proofs.YtplapaojgcloaaaDoor
open Go.RowKit Go.PM

set_option maxRecDepth 100000 in
set_option maxHeartbeats 1000000 in
/-- two moves as values are compared text by text -/
theorem eq_mv (a b c d : ByteArray) (W : World) : (Op.equalIn 10000 70 (.agg #[.string a, .string b]) (.agg #[.string c, .string d])).run Tryd.prog W = .ok (mvEq a b c d) W := by
  have hs : Tryd.prog.stoodInHeld 70 = false := by kernel_rfl
  have e1 : (a == c) = decide (a = c) := beq_ba _ _
  have e2 : (b == d) = decide (b = d) := beq_ba _ _
  have q1 := eq_str 9998 a c
  have q2 := eq_str 9998 b d
  rw [Op.equalIn]
  generalize hE : Op.equalIn 9999 = E at *
  simp only [mvEq]
  rw [e1] at q1
  rw [e2] at q2
  clear e1 e2 hE
  by_cases h1 : a = c
  · by_cases h2 : b = d
    · subst h1; subst h2
      simp at q1 q2
      simp [go_sem, hs, q1, q2]
    · subst h1
      simp [h2] at q1 q2
      simp [go_sem, hs, q1, q2, h2]
  · simp [h1] at q1
    simp [go_sem, hs, q1, h1]

end Go.Proofs.YtplapaojgcloaaaDoor
namespace Go.PM
def stpEq (a b : St) : Bool := decide (a = b)
theorem stpEq_no {a b : St} (h : (!stpEq a b) = true) : a ≠ b := by simpa [stpEq] using h
theorem stpEq_yes {a b : St} (h : (!stpEq a b) = false) : a = b := by simpa [stpEq] using h
end Go.PM
namespace Go.Proofs.YtplapaojgcloaaaDoor
open Go.RowKit Go.PM

set_option maxRecDepth 100000 in
set_option maxHeartbeats 1000000 in
theorem eq_mvD (d : Nat) (a b c e : ByteArray) (W : World) : (Op.equalIn (d + 2) 70 (.agg #[.string a, .string b]) (.agg #[.string c, .string e])).run Tryd.prog W = .ok (mvEq a b c e) W := by
  have hs : Tryd.prog.stoodInHeld 70 = false := by kernel_rfl
  have e1 : (a == c) = decide (a = c) := beq_ba _ _
  have e2 : (b == e) = decide (b = e) := beq_ba _ _
  have q1 := eq_str d a c
  have q2 := eq_str d b e
  rw [Op.equalIn]
  generalize hE : Op.equalIn (d + 1) = E at *
  simp only [mvEq]
  rw [e1] at q1
  rw [e2] at q2
  clear e1 e2 hE
  by_cases h1 : a = c
  · by_cases h2 : b = e
    · subst h1; subst h2
      simp at q1 q2
      simp [go_sem, hs, q1, q2]
    · subst h1
      simp [h2] at q1 q2
      simp [go_sem, hs, q1, q2, h2]
  · simp [h1] at q1
    simp [go_sem, hs, q1, h1]
theorem eq_i64 (d : Nat) (a b : Int) (W : World) : (Op.equalIn (d + 1) 3 (.int .i64 a) (.int .i64 b)).run Tryd.prog W = .ok (decide (a = b)) W := by
  have : (a == b) = decide (a = b) := by rw [Bool.eq_iff_iff, beq_iff_eq, decide_eq_true_eq]
  simp [Op.equalIn, go_sem, this]
set_option maxRecDepth 100000 in
set_option maxHeartbeats 1000000 in
/-- two steps as values are compared kind by kind and text by text -/
theorem eq_stp (x y : St) (W : World) : (Op.equalIn 10000 72 (.agg #[.int .i64 x.1, .string x.2.1, .string x.2.2]) (.agg #[.int .i64 y.1, .string y.2.1, .string y.2.2])).run Tryd.prog W = .ok (stpEq x y) W := by
  obtain ⟨k, a, b⟩ := x
  obtain ⟨l, c, e⟩ := y
  have hs : Tryd.prog.stoodInHeld 72 = false := by kernel_rfl
  have q0 := eq_i64 9998 k l
  have q1 := eq_mvD 9997 a b c e
  rw [Op.equalIn]
  generalize hE : Op.equalIn 9999 = E at *
  clear hE
  by_cases h1 : k = l
  · by_cases h2 : a = c ∧ b = e
    · obtain ⟨h2, h3⟩ := h2
      subst h1; subst h2; subst h3
      simp [mvEq] at q0 q1
      simp [go_sem, hs, q0, q1, stpEq]
    · subst h1
      have h3 : mvEq a b c e = false := by unfold mvEq; exact decide_eq_false h2
      have h4 : stpEq (k, a, b) (k, c, e) = false := by
        unfold stpEq
        rw [decide_eq_false_iff_not]
        intro e; cases e; exact h2 ⟨rfl, rfl⟩
      rw [h3] at q1
      simp at q0
      simp [go_sem, hs, q0, q1, h4]
  · have h4 : stpEq (k, a, b) (l, c, e) = false := by
      unfold stpEq
      rw [decide_eq_false_iff_not]
      intro e; cases e; exact h1 rfl
    simp [h1] at q0
    simp [go_sem, hs, q0, h4]

set_option maxRecDepth 100000 in
set_option maxHeartbeats 1600000 in
theorem pmSteps_c (xs ys : List St) (v u : Value) (w : World) (hx : RdS w v xs) (hy : RdS w u ys) :
    Calls Tryd.prog 18 #[v, u] w fun e w' => e = .returned (.bool (decide (xs = ys))) ∧ Below w.heap.size w w' := by
  obtain ⟨A, cap, rfl, hn, hc, hcell⟩ := hx.open
  obtain ⟨A', cap', rfl, hn', hc', hcell'⟩ := hy.open
  clear hx hy
  rcases Nat.lt_or_ge ys.length xs.length with hle | hle
  · have hm : min (xs.length : Int) (ys.length : Int) = ys.length := by omega
    have HLE := Lib.hid hle
    clear hle
    go_enter Tryd.func18, Tryd.ntmps18
    go_wp2
    go_loopw [11] (fun i wr => ∃ (k : Nat), k ≤ ys.length ∧ i = .int .i64 k ∧ Hid (xs.take k = ys.take k) ∧ Below w.heap.size w wr) (fun i _ => ys.length - (intOf i).toNat)
    case atStart => exact ⟨0, by omega, rfl, by show _ = _; simp, Below.refl _ _⟩
    case round =>
      obtain ⟨k, hk, rfl, ht, hb⟩ := hrel
      by_cases hlt : k < ys.length
      · have hlt1 : k < xs.length := by have := HLE.out; omega
        have hlt2 : k < ys.length := by have := HLE.out; omega
        obtain ⟨b, off, rfl, hbl, hc0, hc1, hc2⟩ := hcell k hlt1
        obtain ⟨b', off', rfl, hbl', hc0', hc1', hc2'⟩ := hcell' k hlt2
        have hd0 := (hb.cell (p := ⟨b, off + k * 3, none⟩) hbl).trans hc0
        have hd1 := (hb.cell (p := ⟨b, off + k * 3 + 1, none⟩) hbl).trans hc1
        have hd2 := (hb.cell (p := ⟨b, off + k * 3 + 2, none⟩) hbl).trans hc2
        have hd5 := (hb.cell (p := ⟨b', off' + k * 3, none⟩) hbl').trans hc0'
        have hd3 := (hb.cell (p := ⟨b', off' + k * 3 + 1, none⟩) hbl').trans hc1'
        have hd4 := (hb.cell (p := ⟨b', off' + k * 3 + 2, none⟩) hbl').trans hc2'
        clear hc0 hc1 hc2 hcell hc0' hc1' hc2' hcell'
        have i1 : (k : Int) < (ys.length : Int) := by omega
        go_wp2
        have hx0 : ∀ x : Ext w.heap.size wr, x.val.cell? ⟨b, off + k * 3, none⟩ = some (.int .i64 xs[k].1) := fun x => (x.property.cell (p := ⟨b, _, none⟩) hbl).trans hd0
        have hx1 : ∀ x : Ext w.heap.size wr, x.val.cell? ⟨b, off + k * 3 + 1, none⟩ = some (.string xs[k].2.1) := fun x => (x.property.cell (p := ⟨b, _, none⟩) hbl).trans hd1
        have hx2 : ∀ x : Ext w.heap.size wr, x.val.cell? ⟨b, off + k * 3 + 2, none⟩ = some (.string xs[k].2.2) := fun x => (x.property.cell (p := ⟨b, _, none⟩) hbl).trans hd2
        have hx5 : ∀ x : Ext w.heap.size wr, x.val.cell? ⟨b', off' + k * 3, none⟩ = some (.int .i64 ys[k].1) := fun x => (x.property.cell (p := ⟨b', _, none⟩) hbl').trans hd5
        have hx3 : ∀ x : Ext w.heap.size wr, x.val.cell? ⟨b', off' + k * 3 + 1, none⟩ = some (.string ys[k].2.1) := fun x => (x.property.cell (p := ⟨b', _, none⟩) hbl').trans hd3
        have hx4 : ∀ x : Ext w.heap.size wr, x.val.cell? ⟨b', off' + k * 3 + 2, none⟩ = some (.string ys[k].2.2) := fun x => (x.property.cell (p := ⟨b', _, none⟩) hbl').trans hd4
        clear hd0 hd1 hd2 hd3 hd4 hd5
        have i0 : (0 : Int) ≤ (k : Int) := by omega
        have i2 : (k : Int) < xs.length := by omega
        have i3 : (k : Int) < ys.length := by omega
        have hE := fun W => eq_stp xs[k] ys[k] W
        refine wp_region_ext w.heap.size (by kernel_rfl) (by kernel_rfl) ?_
        repeat (go_big_quiet_step (fail))
        refine wpQuiet_nil ?_
        intro w2 hw'
        obtain ⟨xw, hxw⟩ := hw'
        have hb2 := xw.property
        rw [← hxw] at hb2
        clear hxw xw
        clear hx0 hx1 hx2 hx3 hx4 hx5 hE
        go_wp2
        · have h : (!stpEq xs[k] ys[k]) = true := by assumption
          go_ret
          refine ⟨?_, hb.trans hb2⟩
          have : ¬ xs = ys := by
            intro e; subst e; exact stpEq_no h rfl
          simp [this]
        · have h : (!stpEq xs[k] ys[k]) = false := by assumption
          go_roundw
          case rel =>
            refine ⟨k + 1, by omega, by go_num, ?_, hb.trans hb2⟩
            show _ = _
            rw [take_snoc xs k hlt1, take_snoc ys k hlt2, ht.out, stpEq_yes h]
          case measure => simp [intOf]; omega
      · have hk' : k = ys.length := by omega
        have h2 := ht.out
        have h3 := HLE.out
        rw [hk'] at h2
        have HD : Hid (((xs.length : Int) == (ys.length : Int)) = decide (xs = ys)) := by
          show _ = _
          by_cases he : xs.length = ys.length
          · rw [List.take_of_length_le (by omega), List.take_of_length_le (by omega)] at h2
            rw [h2]; simp
          · have h4 : ¬ xs = ys := fun e => he (by rw [e])
            have h5 : ¬ ((xs.length : Int) = (ys.length : Int)) := by omega
            rw [decide_eq_false h4]
            simpa using h5
        clear h2 h3 ht
        go_wp2
        go_ret
        exact ⟨by rw [← HD.out]; rfl, hb⟩
  · have hm : min (xs.length : Int) (ys.length : Int) = xs.length := by omega
    have HLE := Lib.hid hle
    clear hle
    go_enter Tryd.func18, Tryd.ntmps18
    go_wp2
    go_loopw [11] (fun i wr => ∃ (k : Nat), k ≤ xs.length ∧ i = .int .i64 k ∧ Hid (xs.take k = ys.take k) ∧ Below w.heap.size w wr) (fun i _ => xs.length - (intOf i).toNat)
    case atStart => exact ⟨0, by omega, rfl, by show _ = _; simp, Below.refl _ _⟩
    case round =>
      obtain ⟨k, hk, rfl, ht, hb⟩ := hrel
      by_cases hlt : k < xs.length
      · have hlt1 : k < xs.length := by have := HLE.out; omega
        have hlt2 : k < ys.length := by have := HLE.out; omega
        obtain ⟨b, off, rfl, hbl, hc0, hc1, hc2⟩ := hcell k hlt1
        obtain ⟨b', off', rfl, hbl', hc0', hc1', hc2'⟩ := hcell' k hlt2
        have hd0 := (hb.cell (p := ⟨b, off + k * 3, none⟩) hbl).trans hc0
        have hd1 := (hb.cell (p := ⟨b, off + k * 3 + 1, none⟩) hbl).trans hc1
        have hd2 := (hb.cell (p := ⟨b, off + k * 3 + 2, none⟩) hbl).trans hc2
        have hd5 := (hb.cell (p := ⟨b', off' + k * 3, none⟩) hbl').trans hc0'
        have hd3 := (hb.cell (p := ⟨b', off' + k * 3 + 1, none⟩) hbl').trans hc1'
        have hd4 := (hb.cell (p := ⟨b', off' + k * 3 + 2, none⟩) hbl').trans hc2'
        clear hc0 hc1 hc2 hcell hc0' hc1' hc2' hcell'
        have i1 : (k : Int) < (xs.length : Int) := by omega
        go_wp2
        have hx0 : ∀ x : Ext w.heap.size wr, x.val.cell? ⟨b, off + k * 3, none⟩ = some (.int .i64 xs[k].1) := fun x => (x.property.cell (p := ⟨b, _, none⟩) hbl).trans hd0
        have hx1 : ∀ x : Ext w.heap.size wr, x.val.cell? ⟨b, off + k * 3 + 1, none⟩ = some (.string xs[k].2.1) := fun x => (x.property.cell (p := ⟨b, _, none⟩) hbl).trans hd1
        have hx2 : ∀ x : Ext w.heap.size wr, x.val.cell? ⟨b, off + k * 3 + 2, none⟩ = some (.string xs[k].2.2) := fun x => (x.property.cell (p := ⟨b, _, none⟩) hbl).trans hd2
        have hx5 : ∀ x : Ext w.heap.size wr, x.val.cell? ⟨b', off' + k * 3, none⟩ = some (.int .i64 ys[k].1) := fun x => (x.property.cell (p := ⟨b', _, none⟩) hbl').trans hd5
        have hx3 : ∀ x : Ext w.heap.size wr, x.val.cell? ⟨b', off' + k * 3 + 1, none⟩ = some (.string ys[k].2.1) := fun x => (x.property.cell (p := ⟨b', _, none⟩) hbl').trans hd3
        have hx4 : ∀ x : Ext w.heap.size wr, x.val.cell? ⟨b', off' + k * 3 + 2, none⟩ = some (.string ys[k].2.2) := fun x => (x.property.cell (p := ⟨b', _, none⟩) hbl').trans hd4
        clear hd0 hd1 hd2 hd3 hd4 hd5
        have i0 : (0 : Int) ≤ (k : Int) := by omega
        have i2 : (k : Int) < xs.length := by omega
        have i3 : (k : Int) < ys.length := by omega
        have hE := fun W => eq_stp xs[k] ys[k] W
        refine wp_region_ext w.heap.size (by kernel_rfl) (by kernel_rfl) ?_
        repeat (go_big_quiet_step (fail))
        refine wpQuiet_nil ?_
        intro w2 hw'
        obtain ⟨xw, hxw⟩ := hw'
        have hb2 := xw.property
        rw [← hxw] at hb2
        clear hxw xw
        clear hx0 hx1 hx2 hx3 hx4 hx5 hE
        go_wp2
        · have h : (!stpEq xs[k] ys[k]) = true := by assumption
          go_ret
          refine ⟨?_, hb.trans hb2⟩
          have : ¬ xs = ys := by
            intro e; subst e; exact stpEq_no h rfl
          simp [this]
        · have h : (!stpEq xs[k] ys[k]) = false := by assumption
          go_roundw
          case rel =>
            refine ⟨k + 1, by omega, by go_num, ?_, hb.trans hb2⟩
            show _ = _
            rw [take_snoc xs k hlt1, take_snoc ys k hlt2, ht.out, stpEq_yes h]
          case measure => simp [intOf]; omega
      · have hk' : k = xs.length := by omega
        have h2 := ht.out
        have h3 := HLE.out
        rw [hk'] at h2
        have HD : Hid (((xs.length : Int) == (ys.length : Int)) = decide (xs = ys)) := by
          show _ = _
          by_cases he : xs.length = ys.length
          · rw [List.take_of_length_le (by omega), List.take_of_length_le (by omega)] at h2
            rw [h2]; simp
          · have h4 : ¬ xs = ys := fun e => he (by rw [e])
            have h5 : ¬ ((xs.length : Int) = (ys.length : Int)) := by omega
            rw [decide_eq_false h4]
            simpa using h5
        clear h2 h3 ht
        go_wp2
        go_ret
        exact ⟨by rw [← HD.out]; rfl, hb⟩
end Go.Proofs.YtplapaojgcloaaaDoor
namespace Go.Proofs.YtplapaojgcloaaaDoor
open Go.RowKit Go.PM Go.PE
attribute [local go_sem] Oper.semAt_some
set_option maxRecDepth 100000 in
set_option maxHeartbeats 6400000 in
theorem exDropSteps (w : World) (v0 : Value) (n0 : Nat) (hv : RdB w w.heap.size v0 n0) (hT : Tz w) :
    Calls Tryd.prog 3 #[v0] w fun e w' => e = .returned (.bool true) ∧ Below w.heap.size w w' := by
  have hv0 := hv
  obtain ⟨A, cap, rfl, hc, hn, _⟩ := hv
  by_cases hbig : 1048576 < n0
  · have t : decide ((n0 : Int) > 1048576) = true := by simp; omega
    go_enter Tryd.func3, Tryd.ntmps3
    go_wp2
    go_ret
    exact ⟨rfl, Below.refl _ _⟩
  have t : decide ((n0 : Int) > 1048576) = false := by simp; omega
  have HD := Lib.hid (drawDropSteps_c w _ n0 hv0)
  clear hv0
  go_enter Tryd.func3, Tryd.ntmps3
  go_wp2_with fail
  refine HD.out.mono ?_
  rintro e w1 ⟨u, s, xs, rfl, hou, hsh, b1⟩
  have hs1 := b1.size
  have hT1 := hT.below b1
  have hx1 := Rd.of_own hou
  have hsz : s.size ≤ 20 := hsh.out.2
  have HIO := Lib.hid (fun t (ht : t.size ≤ 9223372036854775807) W (hb : Below w1.heap.size w1 W) => imInOrder_c xs u t W (RdS.below hx1 hb) ht)
  have HDI := Lib.hid (fun W (hb : Below w1.heap.size w1 W) => imDropSteps_c xs u s (by omega) W (RdS.below hx1 hb) (hT1.below hb))
  have HDP := Lib.hid (fun W (hb : Below w1.heap.size w1 W) => spDropSteps_c xs u s (by omega) W (RdS.below hx1 hb))
  have HNI := Lib.hid (fun W (hb : Below w1.heap.size w1 W) => imNeededAhead_c xs u s (by omega) W (RdS.below hx1 hb) (hT1.below hb))
  have HNP := Lib.hid (fun W (hb : Below w1.heap.size w1 W) => spNeededAhead_c xs u s (by omega) W (RdS.below hx1 hb))
  have HPS := Lib.hid (fun (v v' : Value) W (h : RdS W v (dsS xs s)) (h' : RdS W v' (dsS xs s)) => (pmSteps_c (dsS xs s) (dsS xs s) v v' W h h').mono fun e w' h => (⟨by rw [h.1]; simp, h.2⟩ : e = .returned (.bool true) ∧ Below W.heap.size W w'))
  have HTT : ∀ W, Below w1.heap.size w1 W → Tz W := fun W hb => hT1.below hb
  have hln : ∃ Au cu, u = .slice Au xs.length cu := by obtain ⟨A, c, e, _⟩ := hx1; exact ⟨A, c, e⟩
  obtain ⟨Au, cu, rfl⟩ := hln
  rcases Bool.eq_false_or_eq_true (svalid xs && wvB s) with hok | hok
  · have hok' := hok
    rw [Bool.and_eq_true] at hok'
    have hds := dsS_yes hok
    have hna := naB_yes hok
    have hn2 := wn_2048 s.data.toList
    have HAG := Lib.hid (ds_again hok)
    have hbv := bk_valid hok'.1 (wnN s.data.toList)
    have HIA : Hid (ioB xs allB = stB (runL xs (ofB allB))) := io_eq hok'.1 all_valid
    have HIB : Hid (ioB (bkS xs (wnN s.data.toList)).1 allB = stB (runL (bkS xs (wnN s.data.toList)).1 (ofB allB))) := io_eq hbv all_valid
    have HIC : Hid (ioB (bkS xs (wnN s.data.toList)).1 (othK (bkS xs (wnN s.data.toList)).2 11) = stB (runL (bkS xs (wnN s.data.toList)).1 (ofB (othK (bkS xs (wnN s.data.toList)).2 11)))) := io_eq hbv (oth_valid _)
    have HOK := Lib.hid (fun p hp hb => drop_ok hok'.1 hn2 (p := p) hp hb)
    have HHW := Lib.hid (fun p hp => has_wn hok'.2 (p := p) hp)
    have hbl := bkS_len (wnN s.data.toList) xs
    have HHN : Hid (∀ p, p < 11 → pmH (nmN (bkS xs (wnN s.data.toList)).2) ⟨#[cellsL.getD p 0]⟩ = (bkS xs (wnN s.data.toList)).2.testBit p) := fun p hp => pmH_pick _ p hp
    have hl60 := svalid_len hok'.1
    rw [hok, hds] at HDI HDP
    rw [hok, hna] at HNI HNP
    rw [hds] at HPS
    have HD2 := Lib.hid (fun v W (h : RdS W v (bkS xs (wnN s.data.toList)).1) hT => imDropSteps_c (bkS xs (wnN s.data.toList)).1 v s (by omega) W h hT)
    rw [HAG.out] at HD2
    have HI2 := Lib.hid (fun v t (ht : t.size ≤ 9223372036854775807) W (h : RdS W v (bkS xs (wnN s.data.toList)).1) => imInOrder_c (bkS xs (wnN s.data.toList)).1 v t W h ht)
    have hnz := nmN_size (bkS xs (wnN s.data.toList)).2
    have HPN := Lib.hid (fun c W => pmHas_c (nmN (bkS xs (wnN s.data.toList)).2) c W (by omega))
    have HPW := Lib.hid (fun c W => pmHas_c s c W (by omega))
    generalize wnN s.data.toList = n at *
    generalize (bkS xs n).2 = m at *
    generalize (bkS xs n).1 = ds at *
    generalize nmN m = nm' at *
    clear hds hna hok hok' hn2 hbv hou hx1 HD hsh hT1
    go_wp2_with fail
    refine (HDI.out w1 (Below.refl _ _)).mono ?_
    rintro e w2 ⟨g, rfl, hg, b2⟩
    have hg2 := Rd.of_own hg
    clear hg
    go_wp2_with fail
    refine (HDP.out w2 b2).mono ?_
    rintro e w3 ⟨g', rfl, hg', b3⟩
    have hB3 := b2.trans (b3.mono b2.size)
    have hg3 := RdS.below hg2 b3
    have hg'3 := Rd.of_own hg'
    clear hg' hg2 b2 b3
    go_wp2_with fail
    refine (HNI.out w3 hB3).mono ?_
    rintro e w4 ⟨rfl, b4⟩
    have hB4 := hB3.trans (b4.mono hB3.size)
    have hg4 := RdS.below hg3 b4
    have hg'4 := RdS.below hg'3 b4
    clear hg3 hg'3 b4 hB3
    go_wp2_with fail
    refine (HNP.out w4 hB4).mono ?_
    rintro e w5 ⟨rfl, b5⟩
    have hB5 := hB4.trans (b5.mono hB4.size)
    have hg5 := RdS.below hg4 b5
    have hg'5 := RdS.below hg'4 b5
    clear hg4 hg'4 b5 hB4
    have HP5 := Lib.hid (HPS.out g g' w5 hg5 hg'5)
    go_wp2_with fail
    refine HP5.out.mono ?_
    rintro e w6 ⟨rfl, b6⟩
    have hB6 := hB5.trans (b6.mono hB5.size)
    have hg6 := RdS.below hg5 b6
    clear hg5 hg'5 b6 hB5 HP5
    have hgl : ∃ Ag cg, g = .slice Ag ds.length cg := by obtain ⟨A, c, e, _⟩ := hg6; exact ⟨A, c, e⟩
    obtain ⟨Ag, cg, rfl⟩ := hgl
    have HNX : Hid (∀ q, q < 11 → (ByteArray.mk #[97, 98, 99, 100, 101, 102, 65, 66, 67, 116, 117]).extract q (q+1) = ⟨#[cellsL.getD q 0]⟩) := fun q hq => extract_one ⟨#[97, 98, 99, 100, 101, 102, 65, 66, 67, 116, 117]⟩ q hq
    have HOY : Hid (∀ k, m.testBit k = true → othK m (k + 1) = othK m k ++ ⟨#[cellsL.getD k 0]⟩) := fun k h => othK_yes h
    have HON : Hid (∀ k, m.testBit k = false → othK m (k + 1) = othK m k ++ ⟨#[57]⟩) := fun k h => othK_no h
    have HOZ := Lib.hid (fun k => othK_size m k)
    have HO0 := Lib.hid (othK_zero m)
    have HA1 := Lib.hid (fun W hb => HIO.out allB (by decide) W hb)
    have HA2 := Lib.hid (fun W h => HI2.out (.slice Ag ds.length cg) allB (by decide) W h)
    have HA3 := Lib.hid (fun W h => HI2.out (.slice Ag ds.length cg) (othK m 11) (by rw [othK_size]; decide) W h)
    rw [HIA.out] at HA1
    rw [HIB.out] at HA2
    rw [HIC.out] at HA3
    have hz1 : (stB (runL xs (ofB allB))).size = 11 := rfl
    have hz2 : (stB (runL ds (ofB allB))).size = 11 := rfl
    have hz3 : (stB (runL ds (ofB (othK m 11)))).size = 11 := rfl
    have HX1 := Lib.hid (fun p hp h => stB_idx (runL xs (ofB allB)) (p := p) hp h)
    have HX2 := Lib.hid (fun p hp h => stB_idx (runL ds (ofB allB)) (p := p) hp h)
    have HX3 := Lib.hid (fun p hp h => stB_idx (runL ds (ofB (othK m 11))) (p := p) hp h)
    generalize stB (runL xs (ofB allB)) = S1 at *
    generalize stB (runL ds (ofB allB)) = S2 at *
    generalize stB (runL ds (ofB (othK m 11))) = S3 at *
    generalize runL xs (ofB allB) = f1 at *
    generalize runL ds (ofB allB) = f2 at *
    generalize runL ds (ofB (othK m 11)) = f3 at *
    have HALL : Hid (allB = ⟨#[97, 98, 99, 100, 101, 102, 65, 66, 67, 116, 117]⟩) := rfl
    rw [HALL.out] at HA1 HA2
    clear HIA HIB HIC HIO HI2 HDI HDP HNI HNP HALL
    go_wp2
    go_loopw [14, 15, 16, 101] (fun o _ _ i wr => ∃ k : Nat, k ≤ 11 ∧ i = .int .i64 k ∧ o = .string (othK m k) ∧ Below w6.heap.size w6 wr) (fun _ _ _ i _ => 11 - (RowKit.intOf i).toNat)
    case atStart => exact ⟨0, by omega, rfl, by rw [HO0.out], Below.refl _ _⟩
    case round =>
      obtain ⟨k, hk, rfl, rfl, hb⟩ := hrel
      by_cases hlt : k < 11
      · have i0 : (0 : Int) ≤ (k : Int) := by omega
        have i1 : (k : Int) < 11 := by omega
        have hex := HNX.out k hlt
        have hoz := HOZ.out k
        have hhn := HHN.out k hlt
        have hoy := HOY.out k
        have hon := HON.out k
        have HPP := Lib.hid (fun W => HPN.out ⟨#[cellsL.getD k 0]⟩ W)
        rw [hhn] at HPP
        clear hhn
        generalize cellsL.getD k 0 = c at *
        rcases Bool.eq_false_or_eq_true (m.testBit k) with hbt | hbt
        · have HOO := Lib.hid (hoy hbt)
          rw [hbt] at HPP
          clear hoy hon
          generalize othK m k = ok at *
          go_wp2_with (go_at_call 19; refine (HPP.out _).mono ?_; rintro e w7 ⟨rfl, hb7⟩; refine held ?_)
          unfold Held
          have hb8 := hb.trans (hb7.mono hb.size)
          clear hb7
          go_wp2
          go_roundw
          case rel => exact ⟨k + 1, by omega, by go_num, by rw [HOO.out], hb8⟩
          case measure => simp [RowKit.intOf]; omega
        · have HOO := Lib.hid (hon hbt)
          rw [hbt] at HPP
          clear hoy hon
          generalize othK m k = ok at *
          go_wp2_with (go_at_call 19; refine (HPP.out _).mono ?_; rintro e w7 ⟨rfl, hb7⟩; refine held ?_)
          unfold Held
          have hb8 := hb.trans (hb7.mono hb.size)
          clear hb7
          go_wp2
          go_roundw
          case rel => exact ⟨k + 1, by omega, by go_num, by rw [HOO.out], hb8⟩
          case measure => simp [RowKit.intOf]; omega
      · have hk11 : k = 11 := by omega
        subst hk11
        have hB7 := hB6.trans (hb.mono hB6.size)
        have hg7 := RdS.below hg6 hb
        clear hb hg6 hB6
        generalize othK m 11 = o11 at *
        go_wp2_with fail
        refine (HA1.out wr hB7).mono ?_
        rintro e w8 ⟨rfl, b8⟩
        have hB8 := hB7.trans (b8.mono hB7.size)
        have hg8 := RdS.below hg7 b8
        clear b8 hB7 hg7
        go_wp2_with fail
        refine (HA2.out w8 hg8).mono ?_
        rintro e w9 ⟨rfl, b9⟩
        have hB9 := hB8.trans (b9.mono hB8.size)
        have hg9 := RdS.below hg8 b9
        clear b9 hB8 hg8
        go_wp2_with fail
        refine (HA3.out w9 hg9).mono ?_
        rintro e w10 ⟨rfl, b10⟩
        have hB10 := hB9.trans (b10.mono hB9.size)
        have hg10 := RdS.below hg9 b10
        clear b10 hB9 hg9 HA1 HA2 HA3 HPN HHN HOY HON HOZ
        have hs10 := hB10.size
        go_wp2
        go_loopw [23, 137] (fun _ i wr => ∃ k : Nat, k ≤ 11 ∧ i = .int .i64 k ∧ Below w10.heap.size w10 wr) (fun _ i _ => 11 - (RowKit.intOf i).toNat)
        case atStart => exact ⟨0, by omega, rfl, Below.refl _ _⟩
        case round =>
          obtain ⟨k, hk, rfl, hb⟩ := hrel
          by_cases hlt : k < 11
          · have i0 : (0 : Int) ≤ (k : Int) := by omega
            have i1 : (k : Int) < 11 := by omega
            have j1 : (k : Int) < (S1.size : Int) := by omega
            have j2 : (k : Int) < (S2.size : Int) := by omega
            have j3 : (k : Int) < (S3.size : Int) := by omega
            have l1 : k < S1.size := by omega
            have l2 : k < S2.size := by omega
            have l3 : k < S3.size := by omega
            have hex := HNX.out k hlt
            have hhw := HHW.out k hlt
            have hy1 := HX1.out k hlt
            have hy2 := HX2.out k hlt
            have hy3 := HX3.out k hlt
            have hdo := HOK.out k hlt
            have HPP := Lib.hid (fun W => HPW.out ⟨#[cellsL.getD k 0]⟩ W)
            rw [hhw] at HPP
            clear hhw
            generalize cellsL.getD k 0 = c at *
            rcases Bool.eq_false_or_eq_true (n.testBit k) with hbt | hbt
            · obtain ⟨e2, e3⟩ := hdo hbt
              rw [← e2] at hy2
              rw [← e3] at hy3
              rw [hbt] at HPP
              clear e2 e3 hdo
              generalize f1 k = x at *
              go_wp2
              refine wp_region_ext wr.heap.size (by kernel_rfl) (by kernel_rfl) ?_
              repeat (go_big_quiet_step ((go_at_call 19; exact ext_call _ (Nat.le_refl _) (HPP.out _))))
              refine wpQuiet_nil ?_
              intro w11 hw'
              obtain ⟨xw, hxw⟩ := hw'
              have hbw := xw.property
              rw [← hxw] at hbw
              clear hxw xw
              have hb8 := hb.trans (hbw.mono hb.size)
              clear hbw
              go_wp2
              go_roundw
              case rel => exact ⟨k + 1, by omega, by go_num, hb8⟩
              case measure => simp [RowKit.intOf]; omega
            · rw [hbt] at HPP
              clear hdo
              go_wp2
              refine wp_region_ext wr.heap.size (by kernel_rfl) (by kernel_rfl) ?_
              repeat (go_big_quiet_step ((go_at_call 19; exact ext_call _ (Nat.le_refl _) (HPP.out _))))
              refine wpQuiet_nil ?_
              intro w11 hw'
              obtain ⟨xw, hxw⟩ := hw'
              have hbw := xw.property
              rw [← hxw] at hbw
              clear hxw xw
              have hb8 := hb.trans (hbw.mono hb.size)
              clear hbw
              go_wp2
              go_roundw
              case rel => exact ⟨k + 1, by omega, by go_num, hb8⟩
              case measure => simp [RowKit.intOf]; omega
          · have hk11 : k = 11 := by omega
            subst hk11
            have hB11 := hB10.trans (hb.mono hs10)
            have hg11 := RdS.below hg10 hb
            clear hb hg10 hB10 HX1 HX2 HX3 HOK HHW HPW HNX
            have HDD := Lib.hid (HD2.out _ wr hg11 (HTT wr hB11))
            go_wp2_with fail
            refine HDD.out.mono ?_
            rintro e w12 ⟨v12, rfl, ho12, b12⟩
            have hB12 := hB11.trans (b12.mono hB11.size)
            have hg12 := RdS.below hg11 b12
            have hv12 := Rd.of_own ho12
            clear b12 ho12 hB11 hg11 HDD
            go_wp2_with fail
            refine (HPS.out v12 _ w12 hv12 hg12).mono ?_
            rintro e w13 ⟨rfl, b13⟩
            have hB13 := hB12.trans (b13.mono hB12.size)
            have j1 : (ds.length : Int) ≤ (xs.length : Int) := by omega
            go_wp2
            go_ret
            exact ⟨rfl, b1.trans (hB13.mono hs1)⟩
  · have hds := dsS_no hok
    have hna := naB_no hok
    rw [hok] at HDI HDP HNI HNP
    generalize dsS xs s = ds at *
    generalize naB xs s = nb at *
    clear hds hna hok hou hx1 HD hsh hT1
    go_wp2_with fail
    refine (HDI.out w1 (Below.refl _ _)).mono ?_
    rintro e w2 ⟨g, rfl, hg, b2⟩
    have hg2 := Rd.of_own hg
    clear hg
    go_wp2_with fail
    refine (HDP.out w2 b2).mono ?_
    rintro e w3 ⟨g', rfl, hg', b3⟩
    have hB3 := b2.trans (b3.mono b2.size)
    have hg3 := RdS.below hg2 b3
    have hg'3 := Rd.of_own hg'
    clear hg' hg2 b2 b3
    go_wp2_with fail
    refine (HNI.out w3 hB3).mono ?_
    rintro e w4 ⟨rfl, b4⟩
    have hB4 := hB3.trans (b4.mono hB3.size)
    have hg4 := RdS.below hg3 b4
    have hg'4 := RdS.below hg'3 b4
    clear hg3 hg'3 b4 hB3
    go_wp2_with fail
    refine (HNP.out w4 hB4).mono ?_
    rintro e w5 ⟨rfl, b5⟩
    have hB5 := hB4.trans (b5.mono hB4.size)
    have hg5 := RdS.below hg4 b5
    have hg'5 := RdS.below hg'4 b5
    clear hg4 hg'4 b5 hB4
    have HPA := Lib.hid (fun W h h' => HPS.out g g' W h h')
    go_wp2_with fail
    refine (HPA.out w5 hg5 hg'5).mono ?_
    rintro e w6 ⟨rfl, b6⟩
    have hB6 := hB5.trans (b6.mono hB5.size)
    have hg6 := RdS.below hg5 b6
    have hg'6 := RdS.below hg'5 b6
    clear hg5 hg'5 b6 hB5
    go_wp2_with fail
    refine (HPA.out w6 hg6 hg'6).mono ?_
    rintro e w7 ⟨rfl, b7⟩
    have hB7 := hB6.trans (b7.mono hB6.size)
    go_wp2
    go_ret
    exact ⟨rfl, b1.trans (hB7.mono hs1)⟩

namespace fnDropSteps
open Go.RowKit Go.PM Go.ChangeShapes Go.WideShapes Go.ChangeAt
open Go.ChangeMaps (open_string shut_string)
set_option maxRecDepth 100000 in
theorem lifted (os : Os) (started : os.Started) (H : Type) (enc : TypeId × Value → H) :
    ReturnsInHanded {} Tryd.checked os 3 .any (fun w args => (Rows.fnDropStepsSpec.pre enc Tryd.prog Tryd.f3 [] false w args ∧ laidMetH Tryd.prog laidL w) ∧ sizedMet enc Tryd.prog Tryd.f3 (OpenSpec.ofChange Rows.fnDropStepsSpec) false w args)
      (Rows.fnDropStepsSpec.post enc Tryd.prog Tryd.f3 false true false false) := by
  refine returnsInHanded_of_change_and (C := Tryd.checked) (X := fun w _ => laidMetH Tryd.prog laidL w) (fun _ _ _ hh h => h.of_heap hh) own started (by kernel_rfl) Tryd.func3
    (ChangeSpec.witness_at (enc := enc) (C := Tryd.checked) (os := os) (X := fun w _ => laidMetH Tryd.prog laidL w) false (laidWorld os) #[.slice none 0 0] 8 rfl (by kernel_rfl) (by kernel_rfl) (by kernel_rfl) (by kernel_rfl) (by kernel_rfl) (laidWorld_met os _)) ?_
  intro W base args ds gs before hval0 hW _ _ hL _
  have hval : ∀ (j : Nat) t v, Tryd.f3.params[j]? = some t → args[j]? = some v → Value.okWide Tryd.prog W .any base t v := hval0
  have hW' := hW
  obtain ⟨p, q, hA0, hV, rfl, hfz, hnd⟩ := hW
  have hA : DataW.TrodAll enc Tryd.prog W 0 (fun _ => true) true Tryd.f3.params.toList args.toList ds p := hA0
  rw [Tryd.params3] at hA hval
  obtain ⟨v0, vs0, d0, ds0, p0, q0, hargs, rfl, rfl, h0, r0⟩ := trodAll_cons hA
  obtain ⟨rfl, rfl, rfl⟩ := trodAll_nil r0
  obtain rfl : args = #[v0] := by cases args; simp_all
  obtain ⟨rfl, rfl⟩ := trodVars_none hV
  have hG := tz_of_laid hL
  have k0 := h0
  have lt0 : ∀ x ∈ p0, x.block < W.heap.size := by obtain ⟨m, hm⟩ := k0; exact DataW.trod_lt m _ _ _ hm
  obtain ⟨a0, len0, cap0, rfl⟩ := okWide_slice Tryd.underlying22 (hval 0 22 v0 rfl rfl)
  have hx0 : RdB W W.heap.size (.slice a0 len0 cap0) len0 := by obtain ⟨fuel, hf⟩ := h0; exact open_bytes hf
  clear hA0 hval0
  refine (exDropSteps W _ len0 hx0 hG).mono fun e W' ⟨he, bel⟩ => ?_
  subst he
  exact ⟨_, rfl, _, _, _, [], _, [], hW', trodAll_mk1 (shut_bool Tryd.underlying4 _), (trodAll_cons_mk (Below.trod laidOut (by kernel_rfl) (of_decide_eq_true (by kernel_rfl)) k0 bel lt0) trodAll_mk0), rfl, bel.frame _, fun h => by cases h⟩

theorem over : Rows.fnDropStepsRow.holds Tryd.pinned (OpenSpec.ofChange Rows.fnDropStepsSpec) :=
  OpenClaim.holds_of_wide 3 Tryd.f3 rfl rfl rfl rfl rfl rfl rfl ⟨rfl, rfl, rfl, rfl, rfl⟩ rfl rfl rfl rfl rfl (by kernel_rfl) Tryd.func3 (by kernel_rfl)
    (of_decide_eq_true (by kernel_rfl)) (by unfold Func.isWrapper; first | (rw [if_pos (by decide +kernel)]; kernel_rfl) | (rw [if_neg (by decide +kernel)]; exact ⟨rfl, rfl⟩))
    (fun os started H enc _ => lifted os started H enc)

/-- The statement. -/
theorem proved : Rows.FnDropStepsCardSaid :=
  Claim7.holds_tied_plain_at .later [] [.data, .data] true Rows.fnDropStepsCard.stood.harness false
    over (fun _ h => by cases h) (by kernel_rfl) (fun _ h => by cases h) fnDropSteps_row_tie rfl ⟨rfl, rfl⟩ (by kernel_rfl) rfl
    (fun f fn hf hfn => by
      obtain rfl : f = 3 := Option.some.inj ((show Tryd.prog.funcNamed "loop.example/parallelmoves/laws.FnDropSteps" = some 3 by kernel_rfl).symm.trans hf) |>.symm
      obtain rfl : fn = Tryd.f3 := (Option.some.inj (Tryd.func3.symm.trans hfn)).symm
      exact ⟨by kernel_rfl, fun j t ht => by
        rw [Tryd.params3] at ht
        rcases j with _ | j
        · obtain rfl : t = 22 := by simpa using ht.symm
          exact (show Tryd.prog.wantsStandIn 22 = false by kernel_rfl)
        · simp at ht⟩)
    (by kernel_rfl)
end fnDropSteps
end Go.Proofs.YtplapaojgcloaaaDoor
