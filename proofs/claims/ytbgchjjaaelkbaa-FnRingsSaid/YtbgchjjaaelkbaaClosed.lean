import Derived.Test.YtbgchjjaaelkbaaRings
import Derived.Test.YtbgchjjaaelkbaaWheelP
import Derived.Test.YtbgchjjaaelkbaaRange
import Derived.Deep.AppendLies
namespace Go.PW
open Go.PM
def shut1 (f : Nat → ByteArray) (l : List Nat) : Bool := l.all fun i => decide (rcount f i = 1)
theorem ringsF_mem {nx : Nat → Option Nat} : ∀ k, ∀ l ∈ ringsF nx k, ∃ s, s < k ∧ l = way nx s ∧ onRb nx s = true := by
  intro k
  induction k with
  | zero => intro l h; simp [ringsF] at h
  | succ k ih =>
    intro l h
    by_cases hc : onRb nx k = true ∧ k ∉ (ringsF nx k).flatten
    · rw [ringsF_yes hc.1 hc.2, List.mem_append] at h
      rcases h with h | h
      · obtain ⟨s, h1, h2⟩ := ih l h; exact ⟨s, by omega, h2⟩
      · simp at h; exact ⟨k, by omega, h, hc.1⟩
    · rw [ringsF_no hc] at h
      obtain ⟨s, h1, h2⟩ := ih l h; exact ⟨s, by omega, h2⟩
theorem all_eq {α : Type _} {p q : α → Bool} : ∀ (l : List α), (∀ i ∈ l, p i = q i) → l.all p = l.all q
  | [], _ => rfl
  | a :: l, h => by rw [List.all_cons, List.all_cons, h a (by simp), all_eq l fun i hi => h i (by simp [hi])]
theorem shut_iff {f : Nat → ByteArray} (hf : SV f) {l : List Nat} (hl : l ∈ ringsF (nxT f) 9) : shut f l = shut1 f l := by
  obtain ⟨s, hs, rfl, hon⟩ := ringsF_mem 9 l hl
  unfold shut shut1
  have h : ∀ i ∈ way (nxT f) s, decide (rcount f i ≤ 1) = decide (rcount f i = 1) := fun i hi => by
    rw [decide_eq_decide]; exact ring_one hf (by omega) hon hi
  exact all_eq _ h
theorem closed_take {f : Nat → ByteArray} {l : List Nat} {j : Nat} (hj : j < l.length) : shut1 f (l.take (j + 1)) = (shut1 f (l.take j) && decide (rcount f l[j] = 1)) := by
  unfold shut1
  rw [take_snoc l j hj, List.all_append]; simp
def closedT (f : Nat → ByteArray) (rs : List (List Nat)) : List ByteArray := (rs.filter (shut1 f)).map txt
theorem closedT_yes {f : Nat → ByteArray} {rs : List (List Nat)} {l : List Nat} (h : shut1 f l = true) : closedT f (rs ++ [l]) = closedT f rs ++ [txt l] := by simp [closedT, h]
theorem closedT_no {f : Nat → ByteArray} {rs : List (List Nat)} {l : List Nat} (h : shut1 f l = false) : closedT f (rs ++ [l]) = closedT f rs := by simp [closedT, h]
theorem closedT_len {f : Nat → ByteArray} (rs : List (List Nat)) : (closedT f rs).length ≤ rs.length := by
  unfold closedT; rw [List.length_map]; exact List.length_filter_le _ _
def closedB (xs : List Mv) : List ByteArray := if mvalid xs then closedT (tabOf xs) (ringsF (nxT (tabOf xs)) 9) else []
theorem closedB_len (xs : List Mv) : (closedB xs).length ≤ 1000 := by
  unfold closedB
  by_cases h : mvalid xs = true
  · rw [if_pos h]
    have h1 := (ringsF_lt (nice (SV_tab (by simpa [mvalid] using h))) 9 (by omega)).2.1
    have h2 := closedT_len (f := tabOf xs) (ringsF (nxT (tabOf xs)) 9)
    omega
  · rw [if_neg h]; simp
end Go.PW
namespace Go.Proofs.Ytbgchjjaaelkbaa
open Go.RowKit Go.PM Go.PW Go.Lib

theorem app_strL {ops : Array Oper} {rest : List Oper} {o : Oper} {a : Act} {Q : Exit → Act → World → Prop} {w : World} (hgd : o.guard = none) (s x : Operand)
    (ho : o.op = .call { callee := .builtin .append, args := #[s, x], argTypes := #[36, 36] })
    (base : Nat) (v : Value) (ys : List ByteArray) (m : ByteArray) (ad : Addr) (c : Nat) (hs : a.eval s = v) (hx : a.eval x = .slice (some ad) 1 c)
    (hown : w.ownsRow base 9 1 v ys.length (tcells ys)) (hnew : ∀ j u, [Value.string m][j]? = some u → w.cell? (ad.add j) = some u)
    (hlen : ys.length ≤ 1048576) (hbase : base ≤ w.heap.size)
    (h : ∀ v' w', w'.ownsRow base 9 1 v' (ys ++ [m]).length (tcells (ys ++ [m])) → w.grownBy w' v.ownBlock → (∀ g, v'.ownBlock = some g → v.ownBlock = some g ∨ g = w.heap.size) → wpList Try.prog ops Q rest (a.put o.dst v') w') : wpList Try.prog ops Q (o :: rest) a w := by
  obtain ⟨i0, hi0, hz0, hz1, hz2⟩ := info_parts infoStr
  refine wpList_append_lies w hgd s x _ ho base 9 i0 _ 1 16 Try.underlying36 hi0 hz0 hz1 hz2 rfl (by omega) v ys.length (tcells ys) hs hown ad 1 c [Value.string m] hx rfl hnew
    (by intro u hu; simp at hu; subst hu; rfl) (by omega) (by simp only [maxLen]; omega) (by omega) hbase _ rfl ?_
  intro g cap w' h2 h3 h4 _
  refine h _ w' ?_ h3 (fun g' e => by cases e; exact h4)
  rw [tcells_append, List.length_append]
  simpa [tcells] using h2
set_option maxRecDepth 100000 in
set_option maxHeartbeats 1600000 in
theorem l3Closed_c (xs : List Mv) (h1 : MV xs) (v : Value) (w : World) (hx : RdM w v xs) :
    Calls Try.prog 83 #[v] w fun e w' => ∃ v', e = .returned v' ∧ w'.ownsRow w.heap.size 9 1 v' (closedT (tabOf xs) (ringsF (nxT (tabOf xs)) 9)).length (tcells (closedT (tabOf xs) (ringsF (nxT (tabOf xs)) 9))) ∧ Below w.heap.size w w' := by
  have hf := SV_tab h1
  have hn := nice hf
  have HL := Lib.hid (fun W (hW : RdM W v xs) => l3Rings_c xs h1 v W hW)
  have HX := Lib.hid (fun W (hW : Below w.heap.size w W) => hx.below hW)
  have HRD := Lib.hid (fun W (hW : RdM W v xs) (i : Nat) => show Calls Try.prog 129 #[v, .string (sn i)] W fun e w' => e = .returned (.string (namesW (rdH (tabOf xs) (sn i)))) ∧ Below W.heap.size W w' from by
    have := l1Readers_c xs v (sn i) W hW
    rwa [rsH_rdH h1] at this)
  have HRC : Hid (∀ i, rcount (tabOf xs) i = (namesW (rdH (tabOf xs) (sn i))).size) := fun _ => rfl
  have hE := World.ownsRow_lit (e := 9) (base := w.heap.size) (size := 1) w #[] 0 (Nat.le_refl _) (Nat.zero_le _) rfl
  have hlt9 := ringsF_lt hn 9 (by omega)
  have HWL : Hid (∀ l ∈ ringsF (nxT (tabOf xs)) 9, l.length ≤ 19) := fun l hl => by
    obtain ⟨s, hs, rfl, _⟩ := ringsF_mem 9 l hl
    exact (way_rho hn (by omega)).len
  have HRT : Hid (ringsT (nxT (tabOf xs)) 9 = (ringsF (nxT (tabOf xs)) 9).map txt) := rfl
  clear hf hn
  generalize tabOf xs = f at *
  generalize hrs : ringsF (nxT f) 9 = rs at *
  generalize ringsT (nxT f) 9 = rt at *
  go_enter Try.func83, Try.ntmps83
  go_wp2_with fail
  refine (HL.out _ (HX.out _ ((Below.refl _ _).alloc (Nat.le_refl _) _))).mono ?_
  rintro e w1 ⟨v', rfl, ho, hb1⟩
  have hb1w : Below w.heap.size w w1 := ((Below.refl _ _).alloc (Nat.le_refl _) _).trans (hb1.mono (by simp))
  have hE1 := own_keep hE hb1
  have hge : ∀ g, v'.ownBlock = some g → w.heap.size + 1 ≤ g := fun g e => by have := own_block_ge ho g e; simpa using this
  have hs1 := hb1w.size
  have hr1 : RdT w1 v' rt := Rd.of_own ho
  rw [HRT.out] at hr1
  obtain ⟨A, cap, rfl, hn1, hc1, hcell⟩ := hr1.open
  have hcel : ∀ k (hk : k < rs.length), ∃ b off, A = some ⟨b, off, none⟩ ∧ b < w1.heap.size ∧ w1.cell? ⟨b, off + k, none⟩ = some (.string (txt rs[k])) := fun k hk => by
    have := hcell k (by simpa using hk)
    simpa using this
  rw [List.length_map] at hn1 hc1
  have HBG : Hid (∀ b off, A = some ⟨b, off, none⟩ → rs.length ≠ 0 → w.heap.size + 1 ≤ b) := fun b off e hne => by
    rcases ho.2 with ⟨h0, _⟩ | ⟨g, cap', cur, h0, _⟩
    · injection h0 with e1 _ _
      rw [e1] at e; cases e
    · injection h0 with e1 _ _
      rw [e1] at e
      cases e
      exact hge _ (by rw [e1]; rfl)
  clear hr1 ho hb1 hcell hge
  have hlen : (rs.map txt).length = rs.length := List.length_map ..
  rw [hlen]
  go_wp2
  go_loopw [3, 5, 6, 7, 12] (fun o _ _ _ i wr => ∃ (k : Nat), k ≤ rs.length ∧ i = .int .i64 k ∧ wr.ownsRow w.heap.size 9 1 o (closedT f (rs.take k)).length (tcells (closedT f (rs.take k))) ∧ Hid (∀ g, o.ownBlock = some g → g < w.heap.size + 1 ∨ w1.heap.size ≤ g) ∧ Below w.heap.size w wr ∧ KeepsNew (w.heap.size + 1) w1 wr) (fun _ _ _ _ i _ => rs.length - (RowKit.intOf i).toNat)
  case atStart => exact ⟨0, by omega, rfl, hE1, (fun g e => by cases e; exact .inl (Nat.lt_succ_self _)), hb1w, KeepsNew.refl _ _⟩
  case round =>
    obtain ⟨k, hk, rfl, ho, HOB, hbw, hkn⟩ := hrel
    have hbs := hkn.size
    have hbws := hbw.size
    by_cases hlt : k < rs.length
    · obtain ⟨b, off, rfl, hbl, hc⟩ := hcel k hlt
      have hbge := HBG.out b off rfl (by omega)
      have hbl2 : b < wr.heap.size := by omega
      have hd : wr.cell? ⟨b, off + k, none⟩ = some (.string (txt rs[k])) := by
        rw [← hc]; unfold World.cell?; rw [hkn.same b hbge hbl]
      have hl19 := HWL.out rs[k] (List.getElem_mem hlt)
      have hlt19 : ∀ i ∈ rs[k], i < 19 := fun i hi => hlt9.1 i (List.mem_flatten.2 ⟨rs[k], List.getElem_mem hlt, hi⟩)
      have hle := closedT_len (f := f) (rs.take k)
      rw [List.length_take] at hle
      have hrl : rs.length ≤ 9 := hlt9.2.1
      have HY := Lib.hid (fun (h : shut1 f rs[k] = true) => closedT_yes (f := f) (rs := rs.take k) (l := rs[k]) h)
      have HN := Lib.hid (fun (h : shut1 f rs[k] = false) => closedT_no (f := f) (rs := rs.take k) (l := rs[k]) h)
      have HTK := Lib.hid (take_snoc rs k hlt)
      clear hc hcel
      generalize rs[k] = r at *
      have htz := txt_size r
      have hcz : (txt r).size = r.length := htz
      have HEX : Hid (∀ j (hj : j < r.length), (txt r).extract j (j + 1) = sn r[j]) := fun j hj => by
        rw [extract_one _ _ (by rw [hcz]; exact hj), txt_list, List.getD_eq_getElem?_getD, List.getElem?_map, List.getElem?_eq_getElem hj]; rfl
      have HCT := Lib.hid (fun j (hj : j < r.length) => closed_take (f := f) (l := r) (j := j) hj)
      have HALL : Hid (r.take r.length = r) := List.take_length
      generalize htr : txt r = t at *
      have HTR := Lib.hid htr
      clear htr
      go_wp2
      rename World => wo
      go_loopw [6, 7, 18] (fun cl _ i W => ∃ (j : Nat), j ≤ r.length ∧ i = .int .i64 j ∧ cl = .bool (shut1 f (r.take j)) ∧ Below wo.heap.size wo W) (fun _ _ i _ => r.length - (RowKit.intOf i).toNat)
      case atStart => exact ⟨0, by omega, rfl, rfl, Below.refl _ _⟩
      case round =>
        obtain ⟨j, hj, rfl, rfl, hbi⟩ := hrel
        have hbis := hbi.size
        have hbiw := hbw.trans (hbi.mono hbws)
        have hbiws := hbiw.size
        by_cases hjl : j < r.length
        · have hex := HEX.out j hjl
          have hct := HCT.out j hjl
          rcases Bool.eq_false_or_eq_true (shut1 f (r.take j)) with hsh | hsh
          · have hxr := HX.out _ hbiw
            have hrd := HRD.out _ hxr r[j]
            have hrc := HRC.out r[j]
            rw [hsh, Bool.true_and] at hct
            generalize namesW (rdH f (sn r[j])) = q at *
            have HRX := Lib.hid hrd
            have HC2 := Lib.hid hct
            have HR2 := Lib.hid hrc
            clear hrd hct hrc hxr
            rw [hsh]
            generalize sn r[j] = sr at *
            by_cases hq : q.size = 1
            · have hqq : ((q.size : Int) == 1) = true := by rw [hq]; rfl
              have HF : Hid (shut1 f (r.take (j + 1)) = true) := by show _ = _; rw [HC2.out, HR2.out]; simpa using hq
              clear hq hsh
              go_wp2_with fail
              refine HRX.out.mono ?_
              rintro e w4 ⟨rfl, hb4⟩
              have hbi4 := hbi.trans (hb4.mono hbis)
              clear hb4
              go_wp2
              go_roundw
              case rel => exact ⟨j + 1, by omega, by go_num, by rw [HF.out], hbi4⟩
              case measure => simp [RowKit.intOf]; omega
            · have hqq : ((q.size : Int) == 1) = false := by simp; omega
              have HF : Hid (shut1 f (r.take (j + 1)) = false) := by show _ = _; rw [HC2.out, HR2.out]; simpa using hq
              clear hq hsh
              go_wp2_with fail
              refine HRX.out.mono ?_
              rintro e w4 ⟨rfl, hb4⟩
              have hbi4 := hbi.trans (hb4.mono hbis)
              clear hb4
              go_wp2
              go_roundw
              case rel => exact ⟨j + 1, by omega, by go_num, by rw [HF.out], hbi4⟩
              case measure => simp [RowKit.intOf]; omega
          · rw [hsh, Bool.false_and] at hct
            have HF := Lib.hid hct
            clear hct
            rw [hsh]
            clear hsh
            go_wp2
            go_roundw
            case rel => exact ⟨j + 1, by omega, by go_num, by rw [HF.out], hbi⟩
            case measure => simp [RowKit.intOf]; omega
        · have hj' : j = r.length := by omega
          subst hj'
          rw [HALL.out]
          have hb5 := hbw.trans (hbi.mono hbws)
          have hk5 : KeepsNew (w.heap.size + 1) w1 wr := hkn.trans (KeepsNew.below hbi)
          have hk5s := hk5.size
          have ho5 := own_keep ho hbi
          rcases Bool.eq_false_or_eq_true (shut1 f r) with hsh | hsh
          · have hyy := HY.out hsh
            rw [← HTK.out] at hyy
            have HF := Lib.hid hyy
            rw [hsh]
            have hnw := one_new wr (.string t) 9
            have hown0 := own_keep ho5 ((Below.refl _ _).alloc (Nat.le_refl _) (.cells #[.string t] 9))
            clear hyy hsh
            go_wp2_with (at_builtin; refine app_strL rfl (.tmp 35) (.tmp 37) rfl w.heap.size u3 (closedT f (rs.take k)) t ⟨wr.heap.size, 0, none⟩ 1 (by rfl) (by rfl) hown0 hnw (by omega) (by simp; omega) ?_; intro v' w3 hown3 hgrow3 hlies3)
            have hb3 := below_grown hgrow3 (B := w.heap.size) (by have := hb5.size; simp; omega) (own_block_ge ho5)
            have hk6 : KeepsNew (w.heap.size + 1) w1 w3 := ⟨by have := hgrow3.size; simp at this; omega, fun x hx1 hx2 => by
              rw [hgrow3.block x (by simp; omega) (fun e => by have := HOB.out x e.symm; omega), Below.heap_alloc _ _ _ (by omega)]
              exact hk5.same x hx1 hx2⟩
            have HOB3 : Hid (∀ g, Value.ownBlock v' = some g → g < w.heap.size + 1 ∨ w1.heap.size ≤ g) := fun g e => by
              rcases hlies3 g e with h | h
              · exact HOB.out g h
              · right; simp at h; omega
            clear hlies3
            go_roundw
            case rel =>
              refine ⟨k + 1, by omega, by go_num, ?_, HOB3, (hb5.alloc hb5.size _).trans hb3, hk6⟩
              rw [HF.out]; exact hown3
            case measure => simp [RowKit.intOf]; omega
          · have hnn := HN.out hsh
            rw [← HTK.out] at hnn
            have HF := Lib.hid hnn
            rw [hsh]
            clear hnn hsh
            go_wp2
            go_roundw
            case rel => exact ⟨k + 1, by omega, by go_num, by rw [HF.out]; exact ho5, HOB, hb5, hk5⟩
            case measure => simp [RowKit.intOf]; omega
    · have hk' : k = rs.length := by omega
      have ho2 := ho
      rw [hk', List.take_of_length_le (Nat.le_refl _)] at ho2
      clear hk' ho
      go_wp2
      go_ret
      exact ⟨_, rfl, ho2, hbw⟩

theorem spClosedRings_c (xs : List Mv) (v : Value) (w : World) (hx : RdM w v xs) (hz : ∀ m ∈ xs, m.1.size ≤ 9223372036854775807 ∧ m.2.size ≤ 9223372036854775807) (hn' : xs.length ≤ 1048576) :
    Calls Try.prog 30 #[v] w fun e w' => ∃ v', e = .returned (.tuple #[v', .bool (mvalid xs)]) ∧ w'.ownsRow w.heap.size 9 1 v' (closedB xs).length (tcells (closedB xs)) ∧ Below w.heap.size w w' := by
  rcases Bool.eq_false_or_eq_true (mvalid xs) with h1 | h1
  · rw [h1, show closedB xs = closedT (tabOf xs) (ringsF (nxT (tabOf xs)) 9) from if_pos h1]
    have HL := Lib.hid (fun W (hW : RdM W v xs) => l3Closed_c xs (by simpa [mvalid] using h1) v W hW)
    go_enter Try.func30, Try.ntmps30
    go_wp2_with fail
    refine (spMovesValid_c xs v _ hx hz hn').mono ?_
    rintro e w1 ⟨he, hb1⟩
    rw [h1] at he
    subst he
    have hs1 := hb1.size
    go_wp2_with fail
    refine (HL.out _ (hx.below hb1)).mono ?_
    rintro e w2 ⟨v', rfl, ho, hb2⟩
    have ho2 := own_more ho hs1
    go_wp2
    go_ret2
    exact ⟨_, rfl, ho2, hb1.trans (hb2.mono hs1)⟩
  · rw [h1, show closedB xs = [] from if_neg (by rw [h1]; decide)]
    go_enter Try.func30, Try.ntmps30
    go_wp2_with fail
    refine (spMovesValid_c xs v _ hx hz hn').mono ?_
    rintro e w1 ⟨he, hb1⟩
    rw [h1] at he
    subst he
    have hs1 := hb1.size
    have hE := World.ownsRow_lit (e := 9) (base := w.heap.size) (size := 1) w1 #[] 0 hs1 (Nat.zero_le _) rfl
    go_wp2
    go_ret2
    exact ⟨_, rfl, hE, by (repeat' (first | (with_reducible exact Below.refl _ _) | (with_reducible assumption) | (with_reducible refine Below.alloc ?_ ?_ _) | (with_reducible refine Below.drew ?_) | (with_reducible refine Below.setCell ?_ ?_ _) | (with_reducible exact Nat.le_refl _) | omega | ((repeat (first | rewrite [World.size_alloc] | rewrite [World.size_setCell] | rewrite [World.size_drew])); omega) | (simp; omega) | (simp; done)))⟩
end Go.Proofs.Ytbgchjjaaelkbaa
