import Derived.Test.YteadhnpmmpninaaSpotD
import Derived.Test.YteadhnpmmpninaaTail
import Derived.Test.YteadhnpmmpninaaNames
import Derived.Test.YteadhnpmmpninaaNamesIn
namespace Go.PW
open Go.RowKit Go.PM
/-- the cells of the spots: names and sources -/
def spA (n : Nat → ByteArray) (s : Nat → Value) : Array Value := Array.ofFn (n := 38) fun j => if j.val % 2 = 0 then .string (n (j.val / 2)) else s (j.val / 2)
theorem spA_size (n : Nat → ByteArray) (s : Nat → Value) : (spA n s).size = 38 := by simp [spA]
theorem spA_name (n : Nat → ByteArray) (s : Nat → Value) (i : Nat) (hi : i < 19) : (spA n s)[i * 2]? = some (.string (n i)) := by
  have h : i * 2 < 38 := by omega
  simp [spA, h]
theorem spA_src (n : Nat → ByteArray) (s : Nat → Value) (i : Nat) (hi : i < 19) : (spA n s)[i * 2 + 1]? = some (s i) := by
  have h : i * 2 + 1 < 38 := by omega
  have h2 : ¬ (i * 2 + 1) % 2 = 0 := by omega
  have h3 : (i * 2 + 1) / 2 = i := by omega
  simp [spA, h, h3]
theorem spA_setName (n : Nat → ByteArray) (s : Nat → Value) (i : Nat) (_hi : i < 19) (x : ByteArray) : (spA n s).setIfInBounds (i * 2) (.string x) = spA (upd n i x) s := by
  apply Array.ext
  · simp [spA]
  · intro j h1 h2
    rw [Array.getElem_setIfInBounds (by simpa [spA] using h2)]
    simp only [spA, Array.getElem_ofFn, upd]
    by_cases e : i * 2 = j
    · subst e
      simp
    · by_cases e2 : j % 2 = 0
      · have : ¬ j / 2 = i := by omega
        simp [e, e2, this]
      · simp [e, e2]
theorem spA_setSrc (n : Nat → ByteArray) (s : Nat → Value) (i : Nat) (_hi : i < 19) (x : Value) : (spA n s).setIfInBounds (i * 2 + 1) x = spA n (fun q => if q = i then x else s q) := by
  apply Array.ext
  · simp [spA]
  · intro j h1 h2
    rw [Array.getElem_setIfInBounds (by simpa [spA] using h2)]
    simp only [spA, Array.getElem_ofFn]
    by_cases e : i * 2 + 1 = j
    · subst e
      have h2 : ¬ (i * 2 + 1) % 2 = 0 := by omega
      have h3 : (i * 2 + 1) / 2 = i := by omega
      simp [h3]
    · by_cases e2 : j % 2 = 0
      · simp [e, e2]
      · have : ¬ j / 2 = i := by omega
        simp [e, e2, this]
abbrev zS : Array Value := #[.string ⟨#[]⟩, .pointer none, .string ⟨#[]⟩, .pointer none, .string ⟨#[]⟩, .pointer none, .string ⟨#[]⟩, .pointer none, .string ⟨#[]⟩, .pointer none, .string ⟨#[]⟩, .pointer none, .string ⟨#[]⟩, .pointer none, .string ⟨#[]⟩, .pointer none, .string ⟨#[]⟩, .pointer none, .string ⟨#[]⟩, .pointer none, .string ⟨#[]⟩, .pointer none, .string ⟨#[]⟩, .pointer none, .string ⟨#[]⟩, .pointer none, .string ⟨#[]⟩, .pointer none, .string ⟨#[]⟩, .pointer none, .string ⟨#[]⟩, .pointer none, .string ⟨#[]⟩, .pointer none, .string ⟨#[]⟩, .pointer none, .string ⟨#[]⟩, .pointer none]
theorem zS_eq : zS = spA (fun _ => emp) (fun _ => .pointer none) := rfl
/-- the first k names are laid -/
def nmK (k : Nat) : Nat → ByteArray := fun i => if i < k then sn i else emp
theorem nmK_zero : nmK 0 = fun _ => emp := by funext i; simp [nmK]
theorem nmK_succ (k : Nat) : upd (nmK k) k (sn k) = nmK (k + 1) := by
  funext i
  unfold upd nmK
  by_cases h : i = k
  · subst h; simp
  · by_cases h2 : i < k
    · simp [h, h2, Nat.lt_succ_of_lt h2]
    · have : ¬ i < k + 1 := by omega
      simp [h, h2, this]
/-- the first k sources are laid -/
def srcK (f : Nat → ByteArray) (b k : Nat) : Nat → Value := fun i => if i < k then spotV b (nxT f i) else .pointer none
theorem srcK_zero (f : Nat → ByteArray) (b : Nat) : srcK f b 0 = fun _ => .pointer none := by funext i; simp [srcK]
theorem srcK_succ (f : Nat → ByteArray) (b k : Nat) : (fun q => if q = k then spotV b (nxT f k) else srcK f b k q) = srcK f b (k + 1) := by
  funext i
  unfold srcK
  by_cases h : i = k
  · subst h; simp
  · by_cases h2 : i < k
    · simp [h, h2, Nat.lt_succ_of_lt h2]
    · have : ¬ i < k + 1 := by omega
      simp [h, h2, this]
theorem srcK_same (f : Nat → ByteArray) (b k : Nat) (h : nxT f k = none) : srcK f b k = srcK f b (k + 1) := by
  rw [← srcK_succ, h]
  funext i
  by_cases h : i = k
  · subst h; simp [srcK, spotV]
  · simp [h]
end Go.PW
namespace Go.Proofs.Yteadhnpmmpninaa
open Go.RowKit Go.PM Go.PW Go.Lib
attribute [local go_sem] Oper.semAt_some

set_option maxRecDepth 100000 in
set_option maxHeartbeats 800000 in
theorem spotsOf_c (f : Nat → ByteArray) (hf : SV f) (w : World) :
    Calls Try.prog 56 #[tabX f] w fun e w' => (∃ b, e = .returned (.pointer (some ⟨b, 0, none⟩)) ∧ w.heap.size ≤ b ∧ Spots w' b (nxT f)) ∧ Below w.heap.size w w' := by
  have HEX : Hid (∀ q, q < 19 → (ByteArray.mk #[97, 98, 99, 100, 101, 102, 65, 66, 67, 48, 49, 50, 51, 52, 53, 54, 55, 56, 57]).extract q (q+1) = sn q) := by
    show ∀ q, _
    intro q hq
    rw [extract_one _ _ (by show q < 19; exact hq)]; rfl
  refine (callsIn_wide (n := 5)).1 ?_
  refine callsIn_of_wp_marks Try.func56 rfl trivial ?_ rfl
  simp only [Try.ntmps56, List.size_toArray, List.length_cons, List.length_nil, Nat.reduceAdd, Nat.reduceSub, Array.replicate_succ, Array.replicate_zero, List.push_toArray, List.append_toArray, List.nil_append, List.cons_append]
  gi_wp2
  gi_loopw [4, 10] (fun _ i wr => ∃ k : Nat, k ≤ 19 ∧ i = .int .i64 k ∧ At wr w.heap.size 56 (tabA f) ∧ At wr (w.heap.size + 1) 119 (spA (nmK k) (fun _ => .pointer none)) ∧ At wr (w.heap.size + 2) 70 #[.pointer (some ⟨w.heap.size + 1, 0, none⟩)] ∧ Below w.heap.size w wr) (fun _ i _ => 19 - (RowKit.intOf i).toNat)
  case atStart =>
    refine ⟨0, by omega, rfl, ?_, ?_, ?_, by (repeat' (first | (with_reducible exact Below.refl _ _) | (with_reducible assumption) | (with_reducible refine Below.alloc ?_ ?_ _) | (with_reducible refine Below.drew ?_) | (with_reducible refine Below.setCell ?_ ?_ _) | (with_reducible exact Nat.le_refl _) | omega | ((repeat (first | rewrite [World.size_alloc] | rewrite [World.size_setCell] | rewrite [World.size_drew])); omega) | (simp; omega) | (simp; done)))⟩
    · exact ((At.new _ _ _).alloc _).alloc _
    · rw [nmK_zero, ← zS_eq]
      have := At.new (w.alloc (.cells (tabA f) 56)) 119 zS
      rw [World.size_alloc] at this
      exact this.alloc _
    · have := At.new ((w.alloc (.cells (tabA f) 56)).alloc (.cells zS 119)) 70 #[.pointer (some ⟨w.heap.size + 1, 0, none⟩)]
      rw [World.size_alloc, World.size_alloc] at this
      exact this
  case round =>
    obtain ⟨k, hk, rfl, h1, h2, h3, hb⟩ := hrel
    have hbs := hb.size
    by_cases hlt : k < 19
    · have hc3 : wr.drew.cell? ⟨w.heap.size + 2, 0, none⟩ = some (.pointer (some ⟨w.heap.size + 1, 0, none⟩)) := h3.cell 0
      have hl2 := h2.lt
      have hc2 : wr.drew.cell? ⟨w.heap.size + 1, k * 2, none⟩ = some (.string (nmK k k)) := (h2.cell (k * 2)).trans (spA_name _ _ k hlt)
      have hf2 : wr.drew.frozen? ⟨w.heap.size + 1, k * 2, none⟩ = false := h2.frozen (k * 2)
      have hex := HEX.out k hlt
      have HSET := Lib.hid (spA_setName (nmK k) (fun _ => .pointer none) k hlt (sn k))
      have i0 : (0 : Int) ≤ (k : Int) := by omega
      have i1 : (k : Int) < 19 := by omega
      gi_wp2
      refine regionIn_tail (F := Fence.wide) (C := fun w' => w' = wr.drew) 9 rfl (by kernel_rfl) (by kernel_rfl) rfl ?_
      simp only [List.take_succ_cons, List.take_zero, List.drop_succ_cons, List.drop_zero]
      repeat (gi_big_quiet_step (fail))
      refine wpQuietIn_nil ?_
      intro w' hw'
      subst hw'
      have d1 := h1.far (p := ⟨w.heap.size + 1, k * 2, none⟩) (by simp) (.string (sn k))
      have d2 := h2.set (k * 2) (.string (sn k))
      have d3 := h3.far (p := ⟨w.heap.size + 1, k * 2, none⟩) (by simp) (.string (sn k))
      rw [HSET.out, nmK_succ] at d2
      clear h1 h2 h3
      gi_wp2
      go_roundw
      case rel => exact ⟨k + 1, by omega, by go_num, d1, d2, d3, by (repeat' (first | (with_reducible exact Below.refl _ _) | (with_reducible assumption) | (with_reducible refine Below.alloc ?_ ?_ _) | (with_reducible refine Below.drew ?_) | (with_reducible refine Below.setCell ?_ ?_ _) | (with_reducible exact Nat.le_refl _) | omega | ((repeat (first | rewrite [World.size_alloc] | rewrite [World.size_setCell] | rewrite [World.size_drew])); omega) | (simp; omega) | (simp; done)))⟩
      case measure => simp [RowKit.intOf]; omega
    · have hk19 : k = 19 := by omega
      have HNE := Lib.hid (fun p (hp : p < 9) => sx_lt hf hp)
      rw [hk19] at h2
      have HK := Lib.hid hk19
      clear hk19
      have hs1 := h1.lt
      have hs2 := h2.lt
      have hs3 := h3.lt
      gi_wp2
      refine range_law (F := Fence.wide) (gf := 89) (lf := #[.int .i64 9]) (lb := #[]) rfl (by decide) rfl trivial (fun args w => rfl) (encs := fun p : Nat => #[.int .i64 p]) (xs := List.range 9)
        (below_iter _ _ trivial rfl (by decide)) (fun _ => rfl)
        (fun pre W => At W w.heap.size 56 (tabA f) ∧ At W (w.heap.size + 1) 119 (spA (nmK 19) (srcK f (w.heap.size + 1) pre.length)) ∧ At W (w.heap.size + 2) 70 #[.pointer (some ⟨w.heap.size + 1, 0, none⟩)] ∧ Below w.heap.size w W)
        (fun _ _ _ => False) ?own (fun _ => ownFrom_pure _ _) ?start ?a1 ?assign ?body ?done ?stop
      case own =>
        rintro s A A' row ⟨q1, q2, q3, q4⟩ hg hr
        have hr' : ∀ r, row = some r → w.heap.size + 3 ≤ r := fun r e => by have := (hr r e).1; omega
        refine ⟨(hg.block _ q1.lt (fun e => ?_)).trans q1, (hg.block _ q2.lt (fun e => ?_)).trans q2, (hg.block _ q3.lt (fun e => ?_)).trans q3, q4.trans (below_grown hg q4.size (fun g e => ?_))⟩
        · have := hr' _ e.symm; omega
        · have := hr' _ e.symm; omega
        · have := hr' _ e.symm; omega
        · have := hr' _ e; omega
      case start => exact ⟨h1, by rw [List.length_nil, srcK_zero]; exact h2, h3, hb⟩
      case assign =>
        intro l p W Kc hK
        gi_wp2
        exact hK
      case body =>
        rintro l pre p W ⟨q1, q2, q3, q4⟩ hp hsz
        obtain ⟨hl, hp9⟩ := pre_len pre p hp
        rw [hl] at q2
        have HL : Hid ((pre ++ [p]).length = p + 1) := by show _ = _; simp [hl]
        have HSRC := Lib.hid (fun W => source_c f p hp9 W)
        have hsx := (HNE.out p hp9).1
        have HSN : Hid (srcT f p = sn (sx f p)) := (HNE.out p hp9).2.symm
        have HNM : Hid (nm p = sn p) := (sn_nm p hp9).symm
        have HYES := Lib.hid (nxT_some (f := f) hp9)
        have HSTAY := Lib.hid (nxT_stay (f := f) hp9)
        have HS1 := Lib.hid (srcK_succ f (w.heap.size + 1) p)
        have HS2 := Lib.hid (srcK_same f (w.heap.size + 1) p)
        have HSET := Lib.hid (spA_setSrc (nmK 19) (srcK f (w.heap.size + 1) p) p (by omega))
        have hpos := fun W => positionIn_yes ⟨#[97, 98, 99, 100, 101, 102, 65, 66, 67, 48, 49, 50, 51, 52, 53, 54, 55, 56, 57]⟩ (ch (sx f p)) (sx f p) (ch_all _ hsx).1 W
        have HPOS := Lib.hid hpos
        have c0 : W.cell? ⟨w.heap.size, 0, none⟩ = some (.string (f 0)) := q1.cell 0
        have c1 : W.cell? ⟨w.heap.size, 1, none⟩ = some (.string (f 1)) := q1.cell 1
        have c2 : W.cell? ⟨w.heap.size, 2, none⟩ = some (.string (f 2)) := q1.cell 2
        have c3 : W.cell? ⟨w.heap.size, 3, none⟩ = some (.string (f 3)) := q1.cell 3
        have c4 : W.cell? ⟨w.heap.size, 4, none⟩ = some (.string (f 4)) := q1.cell 4
        have c5 : W.cell? ⟨w.heap.size, 5, none⟩ = some (.string (f 5)) := q1.cell 5
        have c6 : W.cell? ⟨w.heap.size, 6, none⟩ = some (.string (f 6)) := q1.cell 6
        have c7 : W.cell? ⟨w.heap.size, 7, none⟩ = some (.string (f 7)) := q1.cell 7
        have c8 : W.cell? ⟨w.heap.size, 8, none⟩ = some (.string (f 8)) := q1.cell 8
        clear hpos hl hf
        gi_wp2
        refine ⟨trivial, ?_⟩
        refine CallsIn.inRound l (callsIn_wide.2 ((HSRC.out W).mono ?_))
        rintro e W2 ⟨rfl, hb2⟩
        rw [HSN.out]
        have hz4 := q4.size
        have k1 := q1.keep hb2
        have k2 := q2.keep hb2
        have k3 := q3.keep hb2
        have k4 : Below w.heap.size w W2 := q4.trans (hb2.mono hz4)
        have kf := keepsFrom_below (B := wr.heap.size) hb2
        have kz := hb2.size
        clear c0 c1 c2 c3 c4 c5 c6 c7 c8 q1 q2 q3 q4 hb2
        have hone : sn (sx f p) = ⟨#[ch (sx f p)]⟩ := rfl
        by_cases hst : sx f p = p
        · have hnx := HSTAY.out hst
          have e1 : srcK f (w.heap.size + 1) p = srcK f (w.heap.size + 1) (p + 1) := HS2.out hnx
          rw [hst]
          rw [e1] at k2
          have HNM2 := Lib.hid (fun W => name_c p hp9 W)
          have hb1 : ((sn p).toList == (sn p).toList) = true := by simp
          gi_wp2
          refine ⟨trivial, CallsIn.inRound l (callsIn_wide.2 ((HNM2.out _).mono ?_))⟩
          rintro e wq ⟨rfl, rfl⟩
          rw [HNM.out]
          gi_wp2
          exact ⟨kf, KeepsIn.zero kz, k1, by rw [HL.out]; exact k2, k3, k4⟩
        · have hnx := HYES.out hst
          have e1 := HSET.out (spotV (w.heap.size + 1) (nxT f p))
          rw [HS1.out, hnx] at e1
          have E1 := Lib.hid e1
          have HNM2 := Lib.hid (fun W => name_c p hp9 W)
          have hb1 : ((sn (sx f p)).toList == (sn p).toList) = false := by
            rw [beq_str, decide_eq_false_iff_not]
            exact fun e => hst (sn_inj hsx (by omega) e)
          clear e1 hone hnx
          have HOLD := Lib.hid ((k2.cell (p * 2 + 1)).trans (spA_src (nmK 19) (srcK f (w.heap.size + 1) p) p (by omega)))
          generalize sx f p = j at *
          gi_wp2
          refine ⟨trivial, CallsIn.inRound l (callsIn_wide.2 ((HNM2.out _).mono ?_))⟩
          rintro e wq ⟨rfl, rfl⟩
          rw [HNM.out]
          gi_wp2
          refine ⟨trivial, CallsIn.inRound l (callsIn_wide.2 ((HPOS.out _).mono ?_))⟩
          rintro e wq ⟨rfl, rfl⟩
          have c3 : W2.drew.cell? ⟨w.heap.size + 2, 0, none⟩ = some (.pointer (some ⟨w.heap.size + 1, 0, none⟩)) := k3.cell 0
          have cq : W2.drew.cell? ⟨w.heap.size + 1, p * 2 + 1, none⟩ = some (srcK f (w.heap.size + 1) p p) := HOLD.out
          have fq : W2.drew.frozen? ⟨w.heap.size + 1, p * 2 + 1, none⟩ = false := k2.frozen _
          have l2 := k2.lt
          have i0 : (0 : Int) ≤ (p : Int) := by omega
          have i1 : (p : Int) < 19 := by omega
          have i2 : (0 : Int) ≤ (j : Int) := by omega
          have i3 : (j : Int) < 19 := by omega
          gi_wp2
          refine region_tail_inRound (F := Fence.wide) (C := fun w' => w' = W2.drew) 9 rfl (by kernel_rfl) (by kernel_rfl) (by kernel_rfl) rfl ?_
          simp only [List.take_succ_cons, List.take_zero, List.drop_succ_cons, List.drop_zero]
          repeat (gi_big_quiet_step (fail))
          refine wpQuietIn_nil ?_
          intro w' hw'
          subst hw'
          clear c3 hb1
          gi_wp2
          have d1 := k1.far (p := ⟨w.heap.size + 1, p * 2 + 1, none⟩) (by simp) (.pointer (some ⟨w.heap.size + 1, j * 2, none⟩))
          have d2 := k2.set (p * 2 + 1) (.pointer (some ⟨w.heap.size + 1, j * 2, none⟩))
          have d3 := k3.far (p := ⟨w.heap.size + 1, p * 2 + 1, none⟩) (by simp) (.pointer (some ⟨w.heap.size + 1, j * 2, none⟩))
          have d4 := k4.setCell (p := ⟨w.heap.size + 1, p * 2 + 1, none⟩) (by simp) (.pointer (some ⟨w.heap.size + 1, j * 2, none⟩))
          have e2 := E1.out
          rw [show spotV (w.heap.size + 1) (some j) = .pointer (some ⟨w.heap.size + 1, j * 2, none⟩) from rfl] at e2
          rw [e2] at d2
          refine ⟨(kf.trans ((KeepsOthers.setCell _ _ _).from _)).trans ((KeepsOthers.drew _).from _), KeepsIn.zero (by simp [World.size_setCell, World.size_drew]; exact kz), d1, by rw [HL.out]; exact d2, d3, d4.drew⟩
      case done =>
        intro D W hD hI hd
        obtain ⟨q1, q2, q3, q4⟩ := hI
        have hDD : w.heap.size + 3 ≤ D := by omega
        have l2 := q2.lt
        have q2' : At W (w.heap.size + 1) 119 (spA (nmK 19) (srcK f (w.heap.size + 1) 9)) := q2
        have c3 : W.cell? ⟨w.heap.size + 2, 0, none⟩ = some (.pointer (some ⟨w.heap.size + 1, 0, none⟩)) := q3.cell 0
        have HSP : Hid (Spots (W.putObj D (.deferred none)) (w.heap.size + 1) (nxT f)) := by
          have hA : At (W.putObj D (.deferred none)) (w.heap.size + 1) 119 (spA (nmK 19) (srcK f (w.heap.size + 1) 9)) := (World.putObj_heap_other (by omega)).trans q2'
          refine ⟨⟨_, _, hA⟩, fun i hi => ?_, fun i hi => ?_⟩
          · rw [hA.cell, spA_name _ _ i hi]; simp [nmK, hi]
          · rw [hA.cell, spA_src _ _ i hi]
            by_cases h9 : i < 9
            · simp [srcK, h9]
            · simp [srcK, h9, nxT_digit h9, spotV]
        clear q2
        gi_wp2
        refine ⟨by simp, .inl ⟨D, _, rfl, run_takeDeferred hd, ?_⟩⟩
        refine ⟨_, results_tmp rfl _ _ _, ⟨_, rfl, by omega, HSP.out⟩, ?_⟩
        exact q4.trans ⟨rfl, rfl, rfl, by simp [World.putObj], fun k hk => World.putObj_heap_other (by omega)⟩
      case stop =>
        intro _ _ _ _ _ _ hff
        exact hff.elim
end Go.Proofs.Yteadhnpmmpninaa
