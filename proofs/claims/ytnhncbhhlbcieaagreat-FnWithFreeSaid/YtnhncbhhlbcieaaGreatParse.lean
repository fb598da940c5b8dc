import Derived.Test.YtnhncbhhlbcieaaGreatPieces
import Derived.Test.YtnhncbhhlbcieaaGreatSp1
import Derived.Test.YtnhncbhhlbcieaaGreatTurn
namespace Go.PM
open Go.RowKit
theorem cutS_size (s : ByteArray) (c : UInt8) (i : Nat) : ∀ x ∈ (cutS s c i).1, x.size ≤ s.size := by
  induction i with
  | zero => intro x hx; cases hx
  | succ i ih =>
    rw [cutS]
    split
    · intro x hx
      rcases List.mem_append.1 hx with h | h
      · exact ih x h
      · have : x = s.extract (cutS s c i).2 i := by simpa using h
        subst this
        rw [ByteArray.size_extract]
        omega
    · exact ih
theorem cutP_size {s : ByteArray} {c : UInt8} {x : ByteArray} (h : x ∈ cutP s c) : x.size ≤ s.size := cutS_size s c _ x h
theorem cutP_len (s : ByteArray) (c : UInt8) : (cutP s c).length ≤ s.size + 1 := cutS_len s c _
def pOk (x : ByteArray) : Bool := match x.data.toList with
  | [_, e, _] => decide (e = 61)
  | _ => false
def pM (x : ByteArray) : Mv := (x.extract 0 1, x.extract 2 x.size)
theorem three_of_size {x : ByteArray} (h : x.size = 3) : ∃ a b c, x = ⟨#[a, b, c]⟩ := by
  obtain ⟨⟨l⟩⟩ := x
  match l, h with
  | [a, b, c], _ => exact ⟨a, b, c, rfl⟩
theorem pOk_size {x : ByteArray} (h : ¬ x.size = 3) : pOk x = false := by
  obtain ⟨⟨l⟩⟩ := x
  unfold pOk
  split
  · next e => simp at e; subst e; exact absurd rfl h
  · rfl
def prsL (t : ByteArray) : List Mv := (cutP t 44).map pM
def prsOk (t : ByteArray) : Bool := decide (t = ⟨#[45]⟩) || ((cutP t 44).all pOk && mvalid (prsL t))
def prsM (t : ByteArray) : List Mv := if t = ⟨#[45]⟩ then [] else if (cutP t 44).all pOk && mvalid (prsL t) then prsL t else []
theorem all_no {α : Type} {p : α → Bool} {l : List α} (k : Nat) (hk : k < l.length) (h : p l[k] = false) : l.all p = false := by
  cases hh : l.all p with
  | false => rfl
  | true => rw [List.all_eq_true] at hh; rw [hh _ (List.getElem_mem hk)] at h; cases h
theorem all_yes {α : Type} {p : α → Bool} {l : List α} (h : ∀ k (hk : k < l.length), p l[k] = true) : l.all p = true := by
  rw [List.all_eq_true]
  intro x hx
  obtain ⟨k, hk, rfl⟩ := List.getElem_of_mem hx
  exact h k hk
theorem rows_apart {w : World} {base base' : Nat} {e e' : TypeId} {size size' n n' : Nat} {v v' : Value} {cs cs' : List Value} (h : w.ownsRow base e size v n cs) (h' : w.ownsRow base' e' size' v' n' cs') (hne : e ≠ e') : v.ownBlock ≠ v'.ownBlock ∨ v'.ownBlock = none := by
  rcases h'.2 with ⟨rfl, _⟩ | ⟨g, cap, cur, rfl, _, hg, _⟩
  · exact .inr rfl
  · refine .inl fun e1 => ?_
    rcases h.2 with ⟨rfl, _⟩ | ⟨g2, cap2, cur2, rfl, _, hg2, _⟩
    · cases e1
    · cases e1
      rw [hg] at hg2
      cases hg2
      exact hne rfl
theorem Rd.one {w : World} {v : Value} {ys : List ByteArray} (h : Rd w 1 v ys.length (ys.map Value.string)) : ∃ A cap, v = .slice A ys.length cap ∧ ys.length ≤ 9223372036854775807 ∧ ys.length ≤ cap ∧
    ∀ k (hk : k < ys.length), ∃ b off, A = some ⟨b, off, none⟩ ∧ b < w.heap.size ∧ w.cell? ⟨b, off + k, none⟩ = some (.string ys[k]) := by
  obtain ⟨A, cap, e, hc, hn, hl, hr⟩ := h
  refine ⟨A, cap, e, hn, hc, fun k hk => ?_⟩
  obtain ⟨b, off, eA, hb, hcell⟩ := hr (by omega)
  exact ⟨b, off, eA, hb, hcell k _ (by simp [hk])⟩
end Go.PM
namespace Go.Proofs.YtnhncbhhlbcieaaGreat
open Go.RowKit Go.PM

set_option maxRecDepth 100000 in
set_option maxHeartbeats 3200000 in
theorem spParseMoves_c (t : ByteArray) (w : World) (ht : t.size ≤ 1048576) :
    Calls Tryz.prog 91 #[.string t] w fun e w' => ∃ v', e = .returned (.tuple #[v', .bool (prsOk t)]) ∧ w'.ownsRow w.heap.size 56 2 v' (prsM t).length (mcells (prsM t)) ∧ Below w.heap.size w w' := by
  have hE := World.ownsRow_lit (e := 56) (base := w.heap.size) (size := 2) w #[] 0 (Nat.le_refl _) (Nat.zero_le _) rfl
  have hd45 : (t.toList == [45]) = decide (t = ⟨#[45]⟩) := by
    have e : (ByteArray.mk #[45]).toList = [45] := by rw [ByteArray.toList_eq]
    have h := beq_str t ⟨#[45]⟩
    rw [e] at h; exact h
  by_cases h0 : t = ⟨#[45]⟩
  · have HK : Hid (prsOk t = true) := by show _ = _; rw [prsOk, decide_eq_true h0]; rfl
    have HM : Hid (prsM t = []) := if_pos h0
    subst h0
    clear hd45
    go_enter Tryz.func91, Tryz.ntmps91
    go_wp2
    go_ret2
    exact ⟨_, by rw [HK.out]; rfl, by rw [HM.out]; exact hE, by (repeat' (first | (with_reducible exact Below.refl _ _) | (with_reducible assumption) | (with_reducible refine Below.alloc ?_ ?_ _) | (with_reducible refine Below.drew ?_) | (with_reducible refine Below.setCell ?_ ?_ _) | (with_reducible exact Nat.le_refl _) | omega | ((repeat (first | rewrite [World.size_alloc] | rewrite [World.size_setCell] | rewrite [World.size_drew])); omega) | (simp; omega) | (simp; done)))⟩
  · have HK : Hid (prsOk t = ((cutP t 44).all pOk && mvalid (prsL t))) := by show _ = _; rw [prsOk, decide_eq_false h0]; rfl
    have HM : Hid (prsM t = if (cutP t 44).all pOk && mvalid (prsL t) then prsL t else []) := if_neg h0
    have HL : Hid (prsL t = (cutP t 44).map pM) := rfl
    have hb0 : (t.toList == [45]) = false := by rw [hd45, decide_eq_false h0]
    have HZ : Hid (∀ x ∈ cutP t 44, x.size ≤ 1048576) := fun x hx => Nat.le_trans (cutP_size hx) ht
    have hln := cutP_len t 44
    have HLB : Hid ((cutP t 44).all pOk = true → (cutP t 44).length ≤ 1048576) := fun h => by
      have := cutP_three (s := t) (c := 44) (fun x hx => by
        rcases Nat.decEq x.size 3 with h3 | h3
        · have h4 := List.all_eq_true.1 h x hx
          rw [pOk_size h3] at h4; cases h4
        · exact h3)
      omega
    have HLN : Hid ((prsL t).length = (cutP t 44).length) := by show _ = _; simp [prsL]
    have HZM : Hid (∀ m ∈ prsL t, m.1.size ≤ 9223372036854775807 ∧ m.2.size ≤ 9223372036854775807) := fun m hm => by
      obtain ⟨x, hx, rfl⟩ := List.mem_map.1 hm
      have := HZ.out x hx
      simp only [pM, ByteArray.size_extract]
      omega
    have HC := Lib.hid (l13Cut_c t 44 (w.alloc (.cells #[] 56)) ht)
    clear h0 hd45
    generalize prsL t = ms at *
    generalize cutP t 44 = ys at *
    go_enter Tryz.func91, Tryz.ntmps91
    go_wp2_with fail
    refine HC.out.mono ?_
    rintro e w1 ⟨u, rfl, ho1, hb1⟩
    have bel1 : Below w.heap.size w w1 := ((Below.refl _ _).alloc (Nat.le_refl _) _).trans (hb1.mono (by simp))
    have hs1 := bel1.size
    have hE1 := own_keep hE hb1
    obtain ⟨A, cap, rfl, hn, hc, _⟩ := Rd.one (Rd.of_own ho1)
    clear HC hE hb1
    go_wp2
    go_loopw [4, 6, 14] (fun o _ i wr => ∃ (k : Nat), k ≤ ys.length ∧ i = .int .i64 k ∧ Hid (∀ j (hj : j < ys.length), j < k → pOk ys[j] = true) ∧ wr.ownsRow w.heap.size 56 2 o ((ys.take k).map pM).length (mcells ((ys.take k).map pM)) ∧ Below w.heap.size w wr ∧ wr.ownsRow (w.alloc (.cells #[] 56)).heap.size 9 1 (.slice A ys.length cap) ys.length (ys.map Value.string)) (fun _ _ i _ => ys.length - (intOf i).toNat)
    case atStart => exact ⟨0, by omega, rfl, fun j _ h => absurd h (Nat.not_lt_zero _), hE1, bel1, ho1⟩
    case round =>
      obtain ⟨k, hk, rfl, hp, ho, hb, hy⟩ := hrel
      have hbs := hb.size
      by_cases hlt : k < ys.length
      · obtain ⟨A', cap', e', _, _, hcell⟩ := Rd.one (Rd.of_own hy)
        obtain ⟨rfl, rfl⟩ : A = A' ∧ cap = cap' := by cases e'; exact ⟨rfl, rfl⟩
        clear e'
        obtain ⟨b, off, rfl, hbl, hd1⟩ := hcell k hlt
        have hsz := HZ.out ys[k] (List.getElem_mem hlt)
        have HNO : Hid (pOk ys[k] = false → ys.all pOk = false) := fun h => all_no k hlt h
        have HST : Hid ((ys.take (k + 1)).map pM = (ys.take k).map pM ++ [pM ys[k]]) := by show _ = _; rw [take_snoc ys k hlt, List.map_append]; rfl
        have HPP : Hid (pOk ys[k] = true → ∀ j (hj : j < ys.length), j < k + 1 → pOk ys[j] = true) := fun h j hj hjk => by
          rcases Nat.lt_succ_iff_lt_or_eq.1 hjk with h2 | h2
          · exact hp.out j hj h2
          · subst h2; exact h
        have hl2 : ((ys.take k).map pM).length ≤ k := by simp; omega
        clear hcell
        generalize ys[k] = x at *
        by_cases h3 : x.size = 3
        · obtain ⟨a, e, c, rfl⟩ := three_of_size h3
          have hx0 : (ByteArray.mk #[a, e, c]).extract 0 1 = ⟨#[a]⟩ := rfl
          have hx1 : (ByteArray.mk #[a, e, c]).extract 2 3 = ⟨#[c]⟩ := rfl
          by_cases h61 : e = 61
          · subst h61
            have q : (((ByteArray.mk #[a, 61, c])[1].toNat : Int) != 61) = false := rfl
            have HPM : Hid (pM ⟨#[a, 61, c]⟩ = (⟨#[a]⟩, ⟨#[c]⟩)) := rfl
            have HP2 := Lib.hid (HPP.out rfl)
            have hnw := two_new wr.drew (.string ⟨#[a]⟩) (.string ⟨#[c]⟩) 56
            have hsd : wr.drew.heap.size = wr.heap.size := rfl
            go_wp2
            refine region_late_wide (m := 0) (C := fun w' => w' = wr.drew) (D := fun _ => True) 6 (by kernel_rfl) (by kernel_rfl) _ _ (by rfl) (by rfl) (by rfl) u4 (by intro _ _ _ h; exact h) (yieldsD_move (by rfl) _ (by rfl) u4 (by rfl)) (fun _ _ => trivial) rfl ?_
            simp only [List.take_succ_cons, List.take_zero, List.drop_succ_cons, List.drop_zero, Nat.reduceSub, Nat.reduceAdd]
            simp only [Act.put, List.setIfInBounds_toArray, List.set_cons_succ, List.set_cons_zero]
            repeat (gi_big_quiet_step (fail))
            refine wpQuietIn_nil ?_
            intro w' hw' K hK
            subst hw'
            refine sliceIn_mv (.tmp 32) rfl ⟨#[a]⟩ ⟨#[c]⟩ (by rfl) ?_
            refine hK _ _ trivial ?_
            clear hK K
            simp only [Act.put, List.setIfInBounds_toArray, List.set_cons_succ, List.set_cons_zero]
            refine listIn_mv rfl (.tmp 27) (.tmp 33) rfl w.heap.size u4 ((ys.take k).map pM) (⟨#[a]⟩, ⟨#[c]⟩) ⟨wr.drew.heap.size, 0, none⟩ 1 (by rfl) (by rfl) (own_keep (show wr.drew.ownsRow w.heap.size 56 2 u4 ((ys.take k).map pM).length (mcells ((ys.take k).map pM)) from ho) ((Below.refl _ _).alloc (Nat.le_refl _) _)) hnw (by omega) (by simp; omega) ?_
            intro v' w3 hown3 hgrow3
            have hb3 := below_grown hgrow3 (B := w.heap.size) (by simp; omega) (own_block_ge ho)
            have hy3 := own_grown (own_keep (show wr.drew.ownsRow (w.alloc (.cells #[] 56)).heap.size 9 1 (.slice (some ⟨b, off, none⟩) ys.length cap) ys.length (ys.map Value.string) from hy) ((Below.refl _ _).alloc (Nat.le_refl _) _)) hgrow3 (rows_apart hy ho (by decide))
            have hbd : Below w.heap.size w wr.drew := hb.drew
            gi_wp2
            go_wp2
            go_roundw
            case rel => exact ⟨k + 1, by omega, by go_num, HP2.out, by rw [HST.out, HPM.out]; exact hown3, (hbd.alloc hbs _).trans hb3, hy3⟩
            case measure => simp [intOf] <;> omega
          · have q : (((ByteArray.mk #[a, e, c])[1].toNat : Int) != 61) = true := by
              show ((e.toNat : Int) != 61) = true
              simp only [bne_iff_ne]
              intro h
              have h6 : (61 : UInt8).toNat = 61 := rfl
              exact h61 (UInt8.toNat_inj.1 (by omega))
            have HD : Hid (ys.all pOk = false) := HNO.out (decide_eq_false h61)
            have hE3 := World.ownsRow_lit (e := 56) (base := w.heap.size) (size := 2) wr #[] 0 hbs (Nat.zero_le _) rfl
            go_wp2
            go_ret2
            exact ⟨_, by rw [HK.out, HD.out]; rfl, by rw [HM.out, HD.out]; exact hE3, hb.alloc hbs _⟩
        · have q : ¬ ((x.size : Int) = 3) := by omega
          have HD : Hid (ys.all pOk = false) := HNO.out (pOk_size h3)
          have hE3 := World.ownsRow_lit (e := 56) (base := w.heap.size) (size := 2) wr #[] 0 hbs (Nat.zero_le _) rfl
          go_wp2
          go_ret2
          exact ⟨_, by rw [HK.out, HD.out]; rfl, by rw [HM.out, HD.out]; exact hE3, hb.alloc hbs _⟩
      · have hkk : k = ys.length := by omega
        have HA : Hid (ys.all pOk = true) := all_yes fun j hj => hp.out j hj (by omega)
        rw [hkk, List.take_of_length_le (Nat.le_refl _), ← HL.out] at ho
        have HMV := Lib.hid (spMovesValid_c ms u4 wr (Rd.of_own ho) HZM.out (by have := HLN.out; have := HLB.out HA.out; omega))
        go_wp2_with fail
        refine HMV.out.mono ?_
        rintro e w3 ⟨rfl, hb3⟩
        rcases Bool.eq_false_or_eq_true (mvalid ms) with hv | hv
        · have HV := Lib.hid hv
          rw [hv]
          have ho3 := own_keep ho hb3
          clear hv
          go_wp2
          go_ret2
          exact ⟨_, by rw [HK.out, HA.out, HV.out]; rfl, by rw [HM.out, HA.out, HV.out]; exact ho3, hb.trans (hb3.mono hbs)⟩
        · have HV := Lib.hid hv
          rw [hv]
          have hE3 := World.ownsRow_lit (e := 56) (base := w.heap.size) (size := 2) w3 #[] 0 (Nat.le_trans hbs hb3.size) (Nat.zero_le _) rfl
          clear hv
          go_wp2
          go_ret2
          exact ⟨_, by rw [HK.out, HA.out, HV.out]; rfl, by rw [HM.out, HA.out, HV.out]; exact hE3, ((hb.trans (hb3.mono hbs)).alloc (Nat.le_trans hbs hb3.size) _)⟩
end Go.Proofs.YtnhncbhhlbcieaaGreat
