/- Proved: for every input of the form's own reach the law FnRings answers true and its argument reads afterwards as before; no further condition. -/
import Derived.Test.YtbgchjjaaelkbaaDeep2
import Derived.Test.YtbgchjjaaelkbaaClosedI
import Derived.Test.YtbgchjjaaelkbaaIdx
import Derived.Test.YtbgchjjaaelkbaaMarkT
import Derived.Test.YtbgchjjaaelkbaaDraw3
import Derived.Test.YtbgchjjaaelkbaaRings
import Derived.Test.YtbgchjjaaelkbaaReaders
import Derived.Test.YtbgchjjaaelkbaaApp
import Derived.Test.YtbgchjjaaelkbaaHar
import Derived.Test.YtbgchjjaaelkbaaOpen
import Derived.Test.YtbgchjjaaelkbaaBytes
namespace Go.PM
open Go.RowKit
def busyH (xs : List Mv) (p : Nat) : Bool := decide (srcM xs (nm p) ≠ nm p)
/-- the moves that change something, of the first k places in their order -/
def busyF (xs : List Mv) (k : Nat) : List Mv := ((List.range k).filter (busyH xs)).map fun p => (nm p, srcM xs (nm p))
theorem busyF_yes (xs : List Mv) (k : Nat) (h : busyH xs k = true) : busyF xs (k + 1) = busyF xs k ++ [(nm k, srcM xs (nm k))] := by
  simp [busyF, List.range_succ, h]
theorem busyF_no (xs : List Mv) (k : Nat) (h : busyH xs k = false) : busyF xs (k + 1) = busyF xs k := by
  simp [busyF, List.range_succ, h]
theorem busyF_len (xs : List Mv) (k : Nat) : (busyF xs k).length ≤ k := by
  unfold busyF
  rw [List.length_map]
  have := List.length_filter_le (busyH xs) (List.range k)
  simpa using this
theorem key_inj {α β : Type _} {f : α → β} : ∀ {l : List α}, (l.map f).Nodup → ∀ {a b : α}, a ∈ l → b ∈ l → f a = f b → a = b
  | [], _, _, _, ha, _, _ => by cases ha
  | x :: l, h, a, b, ha, hb, e => by
    rw [List.map_cons, List.nodup_cons] at h
    rw [List.mem_cons] at ha hb
    rcases ha with rfl | ha
    · rcases hb with rfl | hb
      · rfl
      · exact absurd (List.mem_map.2 ⟨b, hb, e.symm⟩) h.1
    · rcases hb with rfl | hb
      · exact absurd (List.mem_map.2 ⟨a, ha, e⟩) h.1
      · exact key_inj h.2 ha hb e
theorem srcM_of_mem {xs : List Mv} (h : MV xs) {m : Mv} (hm : m ∈ xs) : srcM xs m.1 = m.2 := by
  unfold srcM
  cases hf : xs.find? (fun x => decide (x.1 = m.1)) with
  | none => exact absurd (List.find?_eq_none.1 hf m hm) (by simp)
  | some x =>
    have e1 : x.1 = m.1 := by simpa using List.find?_some hf
    have := key_inj h.2 (List.mem_of_find?_eq_some hf) hm e1
    subst this; rfl
theorem mem_of_srcM {xs : List Mv} {a : ByteArray} (h : srcM xs a ≠ a) : (a, srcM xs a) ∈ xs := by
  unfold srcM at h ⊢
  cases hf : xs.find? (fun x => decide (x.1 = a)) with
  | none => rw [hf] at h; exact absurd rfl h
  | some x =>
    have e1 : x.1 = a := by simpa using List.find?_some hf
    have e2 := List.mem_of_find?_eq_some hf
    rw [← e1]; exact e2
theorem busy_count {xs : List Mv} (h : MV xs) : (busyM xs).length = (busyF xs 9).length := by
  have n1 : ((busyM xs).map (·.1)).Nodup := h.2.sublist ((List.filter_sublist (l := xs)).map _)
  have n2 : ((busyF xs 9).map (·.1)).Nodup := by
    have e : (busyF xs 9).map (·.1) = ((List.range 9).filter (busyH xs)).map nm := by simp [busyF]
    rw [e]
    have : ∀ l : List Nat, l.Nodup → (∀ p ∈ l, p < 9) → (l.map nm).Nodup := by
      intro l
      induction l with
      | nil => intro _ _; simp
      | cons a l ih =>
        intro h1 h2
        rw [List.nodup_cons] at h1
        rw [List.map_cons, List.nodup_cons]
        refine ⟨fun hm => ?_, ih h1.2 fun p hp => h2 p (by simp [hp])⟩
        obtain ⟨b, hb, e⟩ := List.mem_map.1 hm
        have := nm_inj (h2 b (by simp [hb])) (h2 a (by simp)) e
        subst this; exact h1.1 hb
    exact this _ ((List.nodup_range (n := 9)).sublist List.filter_sublist) (fun p hp => by
      have := (List.mem_filter.1 hp).1; simpa using this)
  have l1 := nodup_le ((busyM xs).map (·.1)) ((busyF xs 9).map (·.1)) n1 (fun a ha => by
    obtain ⟨m, hm, rfl⟩ := List.mem_map.1 ha
    obtain ⟨hm1, hm2⟩ := List.mem_filter.1 hm
    have hok := h.1 m hm1
    unfold mok at hok; rw [Bool.and_eq_true] at hok
    have hp := pidx_spec hok.1
    refine List.mem_map.2 ⟨(nm (pidx m.1), srcM xs (nm (pidx m.1))), ?_, hp.2⟩
    unfold busyF
    refine List.mem_map.2 ⟨pidx m.1, List.mem_filter.2 ⟨by simpa using hp.1, ?_⟩, rfl⟩
    unfold busyH
    rw [hp.2, srcM_of_mem h hm1]
    simp only [decide_eq_true_eq] at hm2 ⊢
    exact fun e => hm2 e.symm)
  have l2 := nodup_le ((busyF xs 9).map (·.1)) ((busyM xs).map (·.1)) n2 (fun a ha => by
    obtain ⟨m, hm, rfl⟩ := List.mem_map.1 ha
    unfold busyF at hm
    obtain ⟨p, hp, rfl⟩ := List.mem_map.1 hm
    obtain ⟨hp1, hp2⟩ := List.mem_filter.1 hp
    unfold busyH at hp2
    have hne : srcM xs (nm p) ≠ nm p := by simpa using hp2
    refine List.mem_map.2 ⟨_, List.mem_filter.2 ⟨mem_of_srcM hne, ?_⟩, rfl⟩
    simp only [decide_eq_true_eq]
    exact fun e => hne e.symm)
  simp only [List.length_map] at l1 l2
  omega
end Go.PM
namespace Go.Proofs.Ytbgchjjaaelkbaa
open Go.RowKit Go.PM

set_option maxRecDepth 100000 in
set_option maxHeartbeats 1000000 in
theorem l1Busy_c (xs : List Mv) (v : Value) (w : World) (hx : RdM w v xs) :
    Calls Try.prog 75 #[v] w fun e w' => ∃ v', e = .returned v' ∧ w'.ownsRow w.heap.size 33 2 v' (busyF xs 9).length (mcells (busyF xs 9)) ∧ Below w.heap.size w w' := by
  have HN : Hid (∀ q, q < 9 → (ByteArray.mk #[97, 98, 99, 100, 101, 102, 65, 66, 67]).extract q (q+1) = nm q) := by
    show ∀ q, _
    intro q hq
    match q, hq with
    | 0, _ | 1, _ | 2, _ | 3, _ | 4, _ | 5, _ | 6, _ | 7, _ | 8, _ => decide +kernel
  have HS := Lib.hid (fun W (hW : RdM W v xs) (p : Nat) => l1Source_c xs v (nm p) W hW)
  have HX := Lib.hid (fun W (hW : Below w.heap.size w W) => hx.below hW)
  have hE := World.ownsRow_lit (e := 33) (base := w.heap.size) (size := 2) w #[] 0 (Nat.le_refl _) (Nat.zero_le _) rfl
  go_enter Try.func75, Try.ntmps75
  go_wp2
  go_loopw [3, 8] (fun o i wr => ∃ (k : Nat), k ≤ 9 ∧ i = .int .i64 k ∧ wr.ownsRow w.heap.size 33 2 o (busyF xs k).length (mcells (busyF xs k)) ∧ Below w.heap.size w wr) (fun _ i _ => 9 - (intOf i).toNat)
  case atStart => exact ⟨0, by omega, rfl, hE, by (repeat' (first | (with_reducible exact Below.refl _ _) | (with_reducible assumption) | (with_reducible refine Below.alloc ?_ ?_ _) | (with_reducible refine Below.drew ?_) | (with_reducible refine Below.setCell ?_ ?_ _) | (with_reducible exact Nat.le_refl _) | omega | ((repeat (first | rewrite [World.size_alloc] | rewrite [World.size_setCell] | rewrite [World.size_drew])); omega) | (simp; omega) | (simp; done)))⟩
  case round =>
    obtain ⟨k, hk, rfl, ho, hb⟩ := hrel
    have hbs := hb.size
    by_cases hlt : k < 9
    · have hex := HN.out k hlt
      have hxr := HX.out wr hb
      have HY := Lib.hid (busyF_yes xs k)
      have HZ := Lib.hid (busyF_no xs k)
      have HH := Lib.hid (show busyH xs k = decide (srcM xs (nm k) ≠ nm k) from rfl)
      have hle := busyF_len xs k
      have hcall := HS.out wr hxr k
      have HC := Lib.hid hcall
      clear hcall
      generalize srcM xs (nm k) = sk at *
      generalize nm k = q at *
      go_wp2_with fail
      refine HC.out.mono ?_
      rintro e w2 ⟨rfl, hb2⟩
      have hb2s := hb2.size
      have ho2 := own_keep ho hb2
      have hbw := hb.trans (hb2.mono hbs)
      have hbws := hbw.size
      have hnw := two_new w2 (.string q) (.string sk) 33
      go_wp2_with (at_builtin; refine app_mv rfl (.tmp 21) (.tmp 25) rfl w.heap.size u3 (busyF xs k) (q, sk) ⟨w2.heap.size, 0, none⟩ 1 (by rfl) (by rfl) ?hown ?hnew ?hlen ?hbase ?_; rotate_left 4; intro v' w3 hown3 hgrow3)
      case hown => exact own_keep ho2 ((Below.refl _ _).alloc (Nat.le_refl _) _)
      try case hnew => exact hnw
      case hlen => omega
      case hbase => simp; omega
      · have h : (!(sk.toList == q.toList)) = true := by assumption
        rw [bne_str] at h
        have hb3 := below_grown hgrow3 (B := w.heap.size) (by simp; omega) (own_block_ge ho)
        go_roundw
        case rel =>
          refine ⟨k + 1, by omega, by go_num, ?_, ?_⟩
          · rw [HY.out (by rw [HH.out]; exact h)]; exact hown3
          · exact Below.trans (by (repeat' (first | (with_reducible exact Below.refl _ _) | (with_reducible assumption) | (with_reducible refine Below.alloc ?_ ?_ _) | (with_reducible refine Below.drew ?_) | (with_reducible refine Below.setCell ?_ ?_ _) | (with_reducible exact Nat.le_refl _) | omega | ((repeat (first | rewrite [World.size_alloc] | rewrite [World.size_setCell] | rewrite [World.size_drew])); omega) | (simp; omega) | (simp; done)))) hb3
        case measure => simp [intOf]; omega
      · have h : (!(sk.toList == q.toList)) = false := by assumption
        rw [bne_str] at h
        go_roundw
        case rel =>
          refine ⟨k + 1, by omega, by go_num, ?_, by (repeat' (first | (with_reducible exact Below.refl _ _) | (with_reducible assumption) | (with_reducible refine Below.alloc ?_ ?_ _) | (with_reducible refine Below.drew ?_) | (with_reducible refine Below.setCell ?_ ?_ _) | (with_reducible exact Nat.le_refl _) | omega | ((repeat (first | rewrite [World.size_alloc] | rewrite [World.size_setCell] | rewrite [World.size_drew])); omega) | (simp; omega) | (simp; done)))⟩
          rw [HZ.out (by rw [HH.out]; exact h)]; exact ho2
        case measure => simp [intOf]; omega
    · have hk9 : k = 9 := by omega
      subst hk9
      go_wp2
      go_ret
      exact ⟨_, rfl, ho, hb⟩

def countI (xs : List Mv) : Int := if mvalid xs then ((busyF xs 9).length : Int) else -1
set_option maxRecDepth 100000 in
theorem spCountBusy_c (xs : List Mv) (v : Value) (w : World) (hx : RdM w v xs) (hz : ∀ m ∈ xs, m.1.size ≤ 9223372036854775807 ∧ m.2.size ≤ 9223372036854775807) (hn' : xs.length ≤ 1048576) :
    Calls Try.prog 33 #[v] w fun e w' => e = .returned (.int .i64 (countI xs)) ∧ Below w.heap.size w w' := by
  have HO : Hid (countI xs = if mvalid xs then ((busyF xs 9).length : Int) else -1) := rfl
  rcases Bool.eq_false_or_eq_true (mvalid xs) with h1 | h1
  all_goals
    go_enter Try.func33, Try.ntmps33
    go_wp2_with fail
    refine (spMovesValid_c xs v _ hx hz hn').mono ?_
    rintro e w1 ⟨he, hb1⟩
    rw [h1] at he
    subst he
    have hs1 := hb1.size
    have hx1 := hx.below hb1
  · go_wp2_with fail
    refine (l1Busy_c xs v _ hx1).mono ?_
    rintro e w2 ⟨v', rfl, ho, hb2⟩
    obtain ⟨A, cap, rfl, _⟩ := Rd.of_own ho
    go_wp2
    go_ret
    exact ⟨by rw [HO.out, h1]; rfl, hb1.trans (hb2.mono hs1)⟩
  · go_wp2
    go_ret
    exact ⟨by rw [HO.out, h1]; rfl, hb1⟩
set_option maxRecDepth 100000 in
theorem imCountBusy_c (xs : List Mv) (v : Value) (w : World) (hx : RdM w v xs) (hn' : xs.length ≤ 1048576) :
    Calls Try.prog 32 #[v] w fun e w' => e = .returned (.int .i64 (countI xs)) ∧ Below w.heap.size w w' := by
  rcases Bool.eq_false_or_eq_true (mvalid xs) with h1 | h1
  · have HO : Hid (((dropM xs).length : Int) = countI xs) := by
      show _ = _
      rw [countI, if_pos h1, dropM, if_pos h1, busy_count (by simpa [mvalid] using h1)]
    go_enter Try.func32, Try.ntmps32
    go_wp2_with fail
    refine (imDropIdle_c xs v _ hx hn').mono ?_
    rintro e w1 ⟨v', he, ho, hb1⟩
    rw [h1] at he
    subst he
    obtain ⟨A, cap, rfl, _⟩ := Rd.of_own ho
    go_wp2
    go_ret
    exact ⟨by rw [← HO.out]; rfl, hb1⟩
  · have HO : Hid (countI xs = -1) := by show _ = _; rw [countI, h1]; rfl
    go_enter Try.func32, Try.ntmps32
    go_wp2_with fail
    refine (imDropIdle_c xs v _ hx hn').mono ?_
    rintro e w1 ⟨v', he, ho, hb1⟩
    rw [h1] at he
    subst he
    go_wp2
    go_ret
    exact ⟨by rw [HO.out]; rfl, hb1⟩
end Go.Proofs.Ytbgchjjaaelkbaa
namespace Go.Proofs.Ytbgchjjaaelkbaa
open Go.RowKit Go.PM Go.PW

set_option maxRecDepth 100000 in
set_option maxHeartbeats 400000 in
theorem pmTexts_c (xs ys : List ByteArray) (v u : Value) (w : World) (hx : RdT w v xs) (hy : RdT w u ys) :
    Calls Try.prog 31 #[v, u] w fun e w' => e = .returned (.bool (decide (xs = ys))) ∧ Below w.heap.size w w' := by
  obtain ⟨A, cap, rfl, hn, hc, hcell⟩ := hx.open
  obtain ⟨A', cap', rfl, hn', hc', hcell'⟩ := hy.open
  obtain ⟨m, hm⟩ : ∃ m, m = min xs.length ys.length := ⟨_, rfl⟩
  have hmi : min (xs.length : Int) (ys.length : Int) = (m : Int) := by rw [hm]; omega
  have hm1 : m ≤ xs.length := by omega
  have hm2 : m ≤ ys.length := by omega
  have HM := Lib.hid hm
  clear hm
  go_enter Try.func31, Try.ntmps31
  go_wp2
  try rw [hmi]
  go_loopw [5, 11] (fun _ i wr => ∃ (k : Nat), k ≤ m ∧ i = .int .i64 k ∧ Hid (xs.take k = ys.take k) ∧ Below w.heap.size w wr) (fun _ i _ => m - (intOf i).toNat)
  case atStart => exact ⟨0, by omega, rfl, by show _ = _; simp, Below.refl _ _⟩
  case round =>
    obtain ⟨k, hk, rfl, ht, hb⟩ := hrel
    by_cases hlt : k < m
    · obtain ⟨b, off, rfl, hbl, hc1⟩ := hcell k (by omega)
      obtain ⟨b', off', rfl, hbl', hc1'⟩ := hcell' k (by omega)
      have hd1 := (hb.cell (p := ⟨b, off + k, none⟩) hbl).trans hc1
      have hd3 := (hb.cell (p := ⟨b', off' + k, none⟩) hbl').trans hc1'
      clear hc1 hcell hc1' hcell'
      have hlt1 : k < xs.length := by omega
      have hlt2 : k < ys.length := by omega
      have i0 : (0 : Int) ≤ (k : Int) := by omega
      have i1 : (k : Int) < xs.length := by omega
      have i2 : (k : Int) < ys.length := by omega
      generalize hx : xs[k] = xk at *
      generalize hy : ys[k] = yk at *
      have HXY := Lib.hid (And.intro hx hy)
      clear hx hy
      go_wp2
      have hx1 : ∀ x : Ext w.heap.size wr, x.val.cell? ⟨b, off + k, none⟩ = some (.string xk) := fun x => (x.property.cell (p := ⟨b, _, none⟩) hbl).trans hd1
      have hx3 : ∀ x : Ext w.heap.size wr, x.val.cell? ⟨b', off' + k, none⟩ = some (.string yk) := fun x => (x.property.cell (p := ⟨b', _, none⟩) hbl').trans hd3
      clear hd1 hd3
      refine wp_region_ext w.heap.size (by kernel_rfl) (by kernel_rfl) ?_
      repeat (go_big_quiet_step (fail))
      refine wpQuiet_nil ?_
      intro w2 hw'
      obtain ⟨xw, hxw⟩ := hw'
      have hb2 := xw.property
      rw [← hxw] at hb2
      clear hxw xw hx1 hx3
      go_wp2
      · have h : (!(xk.toList == yk.toList)) = true := by assumption
        go_ret
        refine ⟨?_, hb.trans hb2⟩
        have : ¬ xs = ys := by
          intro e; subst e
          rw [← HXY.out.1, ← HXY.out.2] at h
          simp at h
        simp [this]
      · have h : (!(xk.toList == yk.toList)) = false := by assumption
        go_roundw
        case rel =>
          refine ⟨k + 1, by omega, by go_num, ?_, hb.trans hb2⟩
          show _ = _
          rw [take_snoc xs k hlt1, take_snoc ys k hlt2, ht.out, HXY.out.1, HXY.out.2]
          rw [bne_str, decide_eq_false_iff_not, Classical.not_not] at h
          rw [h]
        case measure => simp [intOf]; omega
    · have hkm : k = m := by omega
      by_cases hl : xs.length = ys.length
      · have hl1 : ((xs.length : Int) == ys.length) = true := by simp [hl]
        have HE : Hid (xs = ys) := by
          show _ = _
          have h1 := ht.out
          have h2 := HM.out
          rw [List.take_of_length_le (by omega), List.take_of_length_le (by omega)] at h1
          exact h1
        clear hl hkm
        go_wp2
        go_ret
        exact ⟨by simp [HE.out], hb⟩
      · have hl1 : ((xs.length : Int) == ys.length) = false := by simp; omega
        have HE : Hid (¬ xs = ys) := fun e => hl (by rw [e])
        clear hl hkm
        go_wp2
        go_ret
        exact ⟨by simp [HE.out], hb⟩

theorem drawRingsOf_c (w : World) (v : Value) (n : Nat) (hv : RdB w w.heap.size v n) :
    Calls Try.prog 26 #[v] w fun e w' => ∃ u xs, e = .returned u ∧ w'.ownsRow w.heap.size 33 2 u xs.length (mcells xs) ∧ (xs.length ≤ 65 ∧ ∀ m ∈ xs, m.1.size ≤ 64 ∧ m.2.size ≤ 64) ∧ Below w.heap.size w w' := by
  have HO := Lib.hid (l13Open_c w v n hv)
  go_enter Try.func26, Try.ntmps26
  go_wp2_with fail
  refine HO.out.mono ?_
  rintro e w1 ⟨r, rfl, R1, b1⟩
  have hs1 := b1.size
  have hB := R1.1
  have HS := Lib.hid (l1Some_c w1 _ r 0 R1 (by omega))
  go_wp2_with fail
  refine HS.out.mono ?_
  rintro e w2 ⟨u, xs, p', rfl, ho, hsh, R2, hp, g2⟩
  have ho2 := own_more ho hs1
  have b2 : Below w.heap.size w w2 := b1.trans (below_grown g2 hs1 (fun g e => by cases e; exact hB))
  go_wp2
  go_ret
  exact ⟨_, xs, rfl, ho2, hsh, b2⟩
end Go.Proofs.Ytbgchjjaaelkbaa
namespace Go.PW
open Go.PM Go.RowKit Go.Lib
variable {f : Nat → ByteArray} {s : Nat}
theorem wb_some (hf : SV f) (hs : s < 19) {i : Nat} (hi : i + 1 < (way (nxT f) s).length) : (way (nxT f) s)[i] < 9 ∧ sx f (way (nxT f) s)[i] = (way (nxT f) s)[i + 1] := by
  have hr := way_rho (nice hf) hs
  obtain ⟨a, t, e1, e2, e3⟩ := hr.step (j := i) hi
  rw [hr.some_ (j := i) (by omega)] at e1
  rw [hr.some_ (j := i + 1) hi] at e3
  obtain rfl := Option.some.inj e1
  obtain rfl := Option.some.inj e3
  have h9 := (nice hf).low _ _ e2
  refine ⟨h9, ?_⟩
  by_cases e : sx f (way (nxT f) s)[i] = (way (nxT f) s)[i]
  · rw [nxT_stay h9 e] at e2; cases e2
  · rw [nxT_some h9 e] at e2; exact Option.some.inj e2
theorem wb_zero (hf : SV f) (hs : s < 19) (h0 : 0 < (way (nxT f) s).length) : (way (nxT f) s)[0] = s := by
  have hr := way_rho (nice hf) hs
  have := hr.some_ h0
  exact (Option.some.inj this).symm
theorem pmI_sn {i : Nat} (hi : i < 19) : pmI (sn i) = if i < 9 then (i : Int) else -1 := by
  unfold pmI
  rw [(ch_all i hi).2.2.1]
  by_cases h : i < 9
  · rw [if_pos (by simpa using h), if_pos h, sn_nm i h, pidx_nm h]
  · rw [if_neg (by simpa using h), if_neg h]
theorem txt_extract (l : List Nat) (j : Nat) (hj : j < l.length) : (txt l).extract j (j + 1) = sn l[j] := by
  have hz := txt_size l
  rw [extract_one _ _ (by omega), txt_list, List.getD_eq_getElem?_getD, List.getElem?_map, List.getElem?_eq_getElem hj]; rfl
end Go.PW
namespace Go.PW
open Go.PM Go.RowKit
variable {nx : Nat → Option Nat}
theorem ringsF_in (hn : Nice nx) {q : Nat} (hq : q < 9) (hr : onRb nx q = true) : ∀ k, q < k → q ∈ (ringsF nx k).flatten := by
  intro k
  induction k with
  | zero => intro h; omega
  | succ k ih =>
    intro h
    by_cases hc : onRb nx k = true ∧ k ∉ (ringsF nx k).flatten
    · rw [ringsF_yes hc.1 hc.2, List.flatten_append, List.mem_append]
      rcases Nat.lt_or_ge q k with h1 | h1
      · exact .inl (ih h1)
      · right
        have : q = k := by omega
        subst this
        obtain ⟨l, hl⟩ := way_first nx q hn (by omega)
        simp [hl]
    · rw [ringsF_no hc]
      rcases Nat.lt_or_ge q k with h1 | h1
      · exact ih h1
      · have : q = k := by omega
        subst this
        exact Classical.not_not.1 fun hm => hc ⟨hr, hm⟩
theorem ringsF_mem2 : ∀ k, ∀ l ∈ ringsF nx k, ∃ s, s < k ∧ l = way nx s ∧ onRb nx s = true ∧ s ∉ (ringsF nx s).flatten := by
  intro k
  induction k with
  | zero => intro l h; simp [ringsF] at h
  | succ k ih =>
    intro l h
    by_cases hc : onRb nx k = true ∧ k ∉ (ringsF nx k).flatten
    · rw [ringsF_yes hc.1 hc.2, List.mem_append] at h
      rcases h with h | h
      · obtain ⟨s, h1, h2⟩ := ih l h; exact ⟨s, by omega, h2⟩
      · simp at h; exact ⟨k, by omega, h, hc⟩
    · rw [ringsF_no hc] at h
      obtain ⟨s, h1, h2⟩ := ih l h; exact ⟨s, by omega, h2⟩
theorem ring_next (hn : Nice nx) {s : Nat} (hs : s < 19) (hr : onRb nx s = true) {x y : Nat} (hx : x ∈ way nx s) (h : nx x = some y) : y ∈ way nx s := by
  have ho := way_rho hn hs
  have e := ho.onR.1 ((onRb_iff hn hs).1 hr)
  obtain ⟨j, hj⟩ := List.getElem?_of_mem hx
  have hjl := (List.getElem?_eq_some_iff.1 hj).1
  rw [ho.at_ j hjl] at hj
  have h2 : orb nx s (j + 1) = some y := by simp only [orb, hj, Option.bind_some]; exact h
  by_cases hl : j + 1 < (way nx s).length
  · rw [ho.some_ hl] at h2
    rw [← Option.some.inj h2]; exact List.getElem_mem hl
  · rw [show j + 1 = (way nx s).length by omega, e] at h2
    obtain rfl := Option.some.inj h2
    exact List.mem_of_getElem? (ho.at_ 0 ho.pos)
theorem ring_orb (hn : Nice nx) {s : Nat} (hs : s < 19) (hr : onRb nx s = true) {x : Nat} (hx : x ∈ way nx s) : ∀ k y, orb nx x k = some y → y ∈ way nx s := by
  intro k
  induction k with
  | zero => intro y h; simp only [orb, Option.some.injEq] at h; rw [← h]; exact hx
  | succ k ih =>
    intro y h
    simp only [orb, Option.bind_eq_some_iff] at h
    obtain ⟨z, h1, h2⟩ := h
    exact ring_next hn hs hr (ih z h1) h2
theorem ring_back (hn : Nice nx) {s : Nat} (hs : s < 19) (hr : onRb nx s = true) {x : Nat} (hx : x ∈ way nx s) : ∃ k, orb nx x k = some s := by
  have ho := way_rho hn hs
  have e := ho.onR.1 ((onRb_iff hn hs).1 hr)
  obtain ⟨j, hj⟩ := List.getElem?_of_mem hx
  have hjl := (List.getElem?_eq_some_iff.1 hj).1
  rw [ho.at_ j hjl] at hj
  refine ⟨(way nx s).length - j, ?_⟩
  have := orb_add (nx := nx) s j ((way nx s).length - j)
  rw [show j + ((way nx s).length - j) = (way nx s).length by omega, e, hj] at this
  exact this.symm
/-- the first place of a ring is its least -/
theorem ring_min (hn : Nice nx) {s : Nat} (hs : s < 9) (hr : onRb nx s = true) (hf : s ∉ (ringsF nx s).flatten) : ∀ q ∈ way nx s, s ≤ q := by
  intro q hq
  rcases Nat.lt_or_ge q s with hlt | hge
  · exfalso
    have hoq := ring_all hn (by omega) ((onRb_iff hn (by omega)).1 hr) q hq
    have hrq := (onRb_iff hn (show q < 19 by omega)).2 hoq
    have h1 := ringsF_in hn (by omega) hrq s hlt
    obtain ⟨l, hl, hql⟩ := List.mem_flatten.1 h1
    obtain ⟨s', hs', rfl, hr', _⟩ := ringsF_mem2 s l hl
    obtain ⟨k, hk⟩ := ring_back hn (show s < 19 by omega) hr hq
    have := ring_orb hn (show s' < 19 by omega) hr' hql k s hk
    exact hf (List.mem_flatten.2 ⟨_, hl, this⟩)
  · exact hge
theorem ringsF_sorted (hn : Nice nx) : ∀ k, k ≤ 9 → (ringsF nx k).Pairwise (fun a b => ∀ x y, a.head? = some x → b.head? = some y → x < y) := by
  intro k
  induction k with
  | zero => intro _; simp [ringsF]
  | succ k ih =>
    intro hk
    by_cases hc : onRb nx k = true ∧ k ∉ (ringsF nx k).flatten
    · rw [ringsF_yes hc.1 hc.2, List.pairwise_append]
      refine ⟨ih (by omega), by simp, fun a ha b hb x y hx hy => ?_⟩
      simp at hb
      subst hb
      obtain ⟨l, hl⟩ := way_first nx k hn (by omega)
      rw [hl] at hy
      simp at hy
      obtain ⟨s, hs, rfl, _⟩ := ringsF_mem2 k a ha
      obtain ⟨l2, hl2⟩ := way_first nx s hn (by omega)
      rw [hl2] at hx
      simp at hx
      omega
    · rw [ringsF_no hc]; exact ih (by omega)
theorem filter_at {α : Type _} (p : α → Bool) : ∀ (l : List α) (n : Nat) (h : n < l.length), p l[n] = true → (l.filter p)[((l.take n).filter p).length]? = some l[n]
  | [], n, h, _ => by simp at h
  | a :: l, 0, _, hp => by
    have hp : p a = true := hp
    simp [hp]
  | a :: l, n + 1, h, hp => by
    have h' : n < l.length := by simpa using h
    have hp : p l[n] = true := hp
    have ih := filter_at p l n h' hp
    by_cases ha : p a = true
    · simp [ha]; exact ih
    · simp [ha]; exact ih
/-- what there is to say of a ring -/
structure RingR (f : Nat → ByteArray) (r : List Nat) : Prop where
  two : 2 ≤ r.length
  le : r.length ≤ 19
  low : ∀ i (h : i < r.length), r[i] < 9
  next : ∀ i (h : i < r.length), sx f r[i] = r[(i + 1) % r.length]'(Nat.mod_lt _ (by omega))
  dep : ∀ i (h : i < r.length), depN (nxT f) r[i] = 0
  min : ∀ i (h : i < r.length), r[0]'(by omega) ≤ r[i]
theorem ringR (f : Nat → ByteArray) (hf : SV f) {r : List Nat} (h : r ∈ ringsF (nxT f) 9) : RingR f r := by
  obtain ⟨s, hs, rfl, hr, hfr⟩ := ringsF_mem2 9 r h
  have hn := nice hf
  have hs19 : s < 19 := by omega
  have ho := way_rho hn hs19
  obtain ⟨i0, h1, h2, h3⟩ := ring_last hf hs19
  obtain ⟨h4, h5, h6⟩ := h3.1 hr
  have hall := ring_all hn hs19 ((onRb_iff hn hs19).1 hr)
  have h0 := wb_zero hf hs19 ho.pos
  refine ⟨h4, ho.len, fun i hi => ring_low hn (hall _ (List.getElem_mem hi)), fun i hi => ?_, fun i hi => ?_, fun i hi => ?_⟩
  · by_cases hl : i + 1 < (way (nxT f) s).length
    · rw [(wb_some hf hs19 hl).2]
      congr 1
      exact (Nat.mod_eq_of_lt hl).symm
    · have he : i + 1 = (way (nxT f) s).length := by omega
      have h7 : (way (nxT f) s)[i] = i0 := by
        rw [show (way (nxT f) s).length - 1 = i by omega, List.getElem?_eq_getElem hi] at h1
        exact Option.some.inj h1
      rw [h7, h6]
      have h8 : (i + 1) % (way (nxT f) s).length = 0 := by rw [he, Nat.mod_self]
      simp only [h8]
      exact h0.symm
  · have h7 := hall _ (List.getElem_mem hi)
    have hx := ho.lt _ (List.getElem_mem hi)
    refine (depN_stops hn hx).unique ⟨by omega, fun j hj => by omega, _, rfl, .inr h7⟩
  · rw [h0]; exact ring_min hn hs hr hfr _ (List.getElem_mem hi)
end Go.PW
namespace Go.Proofs.Ytbgchjjaaelkbaa
open Go.RowKit Go.PM Go.PW
theorem rings_all {xs : List Mv} (h : MV xs) : ∃ rs : List (List Nat), ringsB xs = rs.map txt ∧ closedB xs = (rs.filter (shut1 (tabOf xs))).map txt ∧ rs.length ≤ 9 ∧ (∀ n (h : n < rs.length), RingR (tabOf xs) rs[n]) ∧
    (∀ n (h : n + 1 < rs.length) x y, rs[n][0]? = some x → rs[n + 1][0]? = some y → x < y) := by
  have hf := SV_tab h
  have hm : mvalid xs = true := by simpa [mvalid] using h
  refine ⟨ringsF (nxT (tabOf xs)) 9, by rw [ringsB, if_pos hm]; rfl, by rw [closedB, if_pos hm]; rfl, (ringsF_lt (nice hf) 9 (by omega)).2.1, fun n hn => ringR _ hf (List.getElem_mem hn), fun n hn x y hx hy => ?_⟩
  have := List.pairwise_iff_getElem.1 (ringsF_sorted (nice hf) 9 (by omega)) n (n + 1) (by omega) hn (by omega)
  exact this x y (by rw [List.head?_eq_getElem?]; exact hx) (by rw [List.head?_eq_getElem?]; exact hy)
set_option maxRecDepth 100000 in
set_option maxHeartbeats 6400000 in
theorem exRings (w : World) (v0 : Value) (n0 : Nat) (hv : RdB w w.heap.size v0 n0) :
    Calls Try.prog 4 #[v0] w fun e w' => e = .returned (.bool true) ∧ Below w.heap.size w w' := by
  have hv0 := hv
  obtain ⟨A, cap, rfl, hc, hn, _⟩ := hv
  by_cases hbig : 1048576 < n0
  · have t : decide ((n0 : Int) > 1048576) = true := by simp; omega
    go_enter Try.func4, Try.ntmps4
    go_wp2
    go_ret
    exact ⟨rfl, Below.refl _ _⟩
  have t : decide ((n0 : Int) > 1048576) = false := by simp; omega
  have HD := Lib.hid (drawRingsOf_c w _ n0 hv0)
  clear hv0
  go_enter Try.func4, Try.ntmps4
  go_wp2_with fail
  refine HD.out.mono ?_
  rintro e w1 ⟨u, xs, rfl, ho, ⟨hl, hz⟩, b1⟩
  have hs1 := b1.size
  have R1 : RdM w1 u xs := Rd.of_own ho
  have HZ : Hid (∀ m ∈ xs, m.1.size ≤ 9223372036854775807 ∧ m.2.size ≤ 9223372036854775807) := fun m hm => by have := hz m hm; omega
  clear HD ho hz
  have hl2 : xs.length ≤ 1048576 := by omega
  obtain ⟨bv, hbv⟩ : ∃ bv, mvalid xs = bv := ⟨_, rfl⟩
  have HBV := Lib.hid hbv
  clear hbv
  go_wp2_with fail
  refine (imRingsOf_c xs u _ R1).mono ?_
  rintro e w2 ⟨v4, he, o4, h2⟩
  rw [HBV.out] at he
  subst he
  have b2 := b1.trans (h2.mono hs1)
  have hs2 := b2.size
  have R2 := R1.below h2
  go_wp2_with fail
  refine (imClosedRings_c xs u _ R2).mono ?_
  rintro e w3 ⟨v6, he, o6, h3⟩
  rw [HBV.out] at he
  subst he
  have b3 := b2.trans (h3.mono hs2)
  have hs3 := b3.size
  have R3 := R2.below h3
  have q4 := own_keep o4 h3
  go_wp2_with fail
  refine (spRingsOf_c xs u _ R3 HZ.out hl2).mono ?_
  rintro e w4 ⟨v8, he, o8, h4⟩
  rw [HBV.out] at he
  subst he
  have b4 := b3.trans (h4.mono hs3)
  have hs4 := b4.size
  have R4 := R3.below h4
  replace q4 := own_keep q4 h4
  have q6 := own_keep o6 h4
  go_wp2_with fail
  refine (spClosedRings_c xs u _ R4 HZ.out hl2).mono ?_
  rintro e w5 ⟨v10, he, o10, h5⟩
  rw [HBV.out] at he
  subst he
  have b5 := b4.trans (h5.mono hs4)
  have hs5 := b5.size
  have R5 := R4.below h5
  have T4 : RdT w5 v4 (ringsB xs) := Rd.of_own (own_keep q4 h5)
  have T6 : RdT w5 v6 (closedB xs) := Rd.of_own (own_keep q6 h5)
  have T8 : RdT w5 v8 (ringsB xs) := Rd.of_own (own_keep o8 h5)
  have T10 : RdT w5 v10 (closedB xs) := Rd.of_own o10
  clear R1 R2 R3 R4 q4 q6 o4 o6 o8 o10 h2 h3 h4 h5 b1 b2 b3 b4
  go_wp2_with fail
  refine (pmTexts_c _ _ v4 v8 _ T4 T8).mono ?_
  rintro e w6 ⟨he, h6⟩
  rw [show decide (ringsB xs = ringsB xs) = true by simp] at he
  subst he
  have b6 := b5.trans (h6.mono hs5)
  have hs6 := b6.size
  have R6 := R5.below h6
  replace T4 := T4.below h6
  replace T6 := T6.below h6
  replace T8 := T8.below h6
  replace T10 := T10.below h6
  go_wp2_with fail
  refine (pmTexts_c _ _ v6 v10 _ T6 T10).mono ?_
  rintro e w7 ⟨he, h7⟩
  rw [show decide (closedB xs = closedB xs) = true by simp] at he
  subst he
  have b7 := b6.trans (h7.mono hs6)
  have hs7 := b7.size
  have R7 := R6.below h7
  replace T4 := T4.below h7
  replace T6 := T6.below h7
  replace T8 := T8.below h7
  replace T10 := T10.below h7
  have HCI := Lib.hid (fun W (hW : RdM W u xs) => imCountBusy_c xs u W hW hl2)
  have HCS := Lib.hid (fun W (hW : RdM W u xs) => spCountBusy_c xs u W hW HZ.out hl2)
  generalize countI xs = ci at *
  go_wp2_with fail
  refine (HCI.out _ R7).mono ?_
  rintro e w8 ⟨rfl, h8⟩
  have b8 := b7.trans (h8.mono hs7)
  have hs8 := b8.size
  have R8 := R7.below h8
  replace T4 := T4.below h8
  replace T6 := T6.below h8
  replace T8 := T8.below h8
  replace T10 := T10.below h8
  go_wp2_with fail
  refine (HCS.out _ R8).mono ?_
  rintro e w9 ⟨rfl, h9⟩
  have b9 := b8.trans (h9.mono hs8)
  have hs9 := b9.size
  have R9 := R8.below h9
  replace T4 := T4.below h9
  replace T6 := T6.below h9
  replace T8 := T8.below h9
  replace T10 := T10.below h9
  clear R5 R6 R7 R8 h6 h7 h8 h9 b5 b6 b7 b8
  cases bv with
  | false =>
    go_wp2_with fail
    refine (pmTexts_c _ _ v4 v8 _ T4 T8).mono ?_
    rintro e w10 ⟨he, h10⟩
    rw [show decide (ringsB xs = ringsB xs) = true by simp] at he
    subst he
    have b10 := b9.trans (h10.mono hs9)
    have hs10 := b10.size
    have R10 := R9.below h10
    go_wp2_with fail
    refine (pmTexts_c _ _ v6 v10 _ (T6.below h10) (T10.below h10)).mono ?_
    rintro e w11 ⟨he, h11⟩
    rw [show decide (closedB xs = closedB xs) = true by simp] at he
    subst he
    have b11 := b10.trans (h11.mono hs10)
    have hs11 := b11.size
    have R11 := R10.below h11
    go_wp2_with fail
    refine (HCI.out _ R11).mono ?_
    rintro e w12 ⟨rfl, h12⟩
    have b12 := b11.trans (h12.mono hs11)
    have hs12 := b12.size
    go_wp2_with fail
    refine (HCS.out _ (R11.below h12)).mono ?_
    rintro e w13 ⟨rfl, h13⟩
    go_wp2
    go_ret
    exact ⟨by simp, b12.trans (h13.mono hs12)⟩
  | true =>
    have hmv : MV xs := by have := HBV.out; simpa [mvalid] using this
    have hm1 := HBV.out
    have hf := SV_tab hmv
    obtain ⟨rs, hRB, hCB, hrl, hRR, hSO⟩ := rings_all hmv
    rw [hRB] at T4
    rw [hCB] at T6
    have HIM := Lib.hid (fun (i : Nat) (hi : i < 9) (W : World) (hW : RdM W u xs) => show Calls Try.prog 34 #[u, .string (sn i)] W fun e w' => e = .returned (.tuple #[.string (sn (sx (tabOf xs) i)), .bool true]) ∧ Below W.heap.size W w' from by
      have := imSourceOf_c xs u (sn i) W hW
      have hip : isP (sn i) = true := by rw [(ch_all i (by omega)).2.2.1]; simpa using hi
      rw [hm1, hip, sn_nm i hi, ← srcM_nm hmv hi, ← (sx_lt hf hi).2, ← sn_nm i hi] at this
      exact this)
    have HIR := Lib.hid (fun (i : Nat) (hi : i < 9) (W : World) (hW : RdM W u xs) => show Calls Try.prog 35 #[u, .string (sn i)] W fun e w' => e = .returned (.tuple #[.string (namesW (rdH (tabOf xs) (sn i))), .bool true]) ∧ Below W.heap.size W w' from by
      have := imReadersOf_c xs u (sn i) W hW
      have his : isS (sn i) = true := (ch_all i (by omega)).2.1
      rw [hm1, his] at this
      exact this)
    have HID := Lib.hid (fun (i : Nat) (hi : i < 9) (h0 : depN (nxT (tabOf xs)) i = 0) (W : World) (hW : RdM W u xs) => show Calls Try.prog 36 #[u, .string (sn i)] W fun e w' => e = .returned (.int .i64 0) ∧ Below W.heap.size W w' from by
      have := imDepthOf_c xs u (sn i) W hW
      have hip : isP (sn i) = true := by rw [(ch_all i (by omega)).2.2.1]; simpa using hi
      have hpi : pidx (sn i) = i := by rw [sn_nm i hi]; exact pidx_nm hi
      unfold depthI at this
      rw [hm1, hip, hpi, h0] at this
      exact this)
    have HPI := Lib.hid (fun (i : Nat) (hi : i < 9) (W : World) => show Calls Try.prog 25 #[.string (sn i)] W fun e w' => e = .returned (.int .i64 (i : Int)) ∧ Below W.heap.size W w' from by
      have := pmIndex_c (sn i) W
      rw [pmI_sn (by omega), if_pos hi] at this
      exact this)
    have HRC : Hid (∀ i, rcount (tabOf xs) i = (namesW (rdH (tabOf xs) (sn i))).size) := fun _ => rfl
    have HRR := Lib.hid hRR
    have HSO := Lib.hid hSO
    clear hRB hCB hmv hm1 hf hRR hSO T8 T10 HCI HCS HBV HZ
    generalize tabOf xs = f at *
    obtain ⟨A4, c4, rfl, hn4, hc4, cell4⟩ := T4.open
    obtain ⟨A6, c6, rfl, hn6, hc6, cell6⟩ := T6.open
    have hl4 : (rs.map txt).length = rs.length := List.length_map ..
    have hl6 : ((rs.filter (shut1 f)).map txt).length = (rs.filter (shut1 f)).length := List.length_map ..
    have HC4 : Hid (∀ k (hk : k < rs.length), ∃ b off, A4 = some ⟨b, off, none⟩ ∧ b < w9.heap.size ∧ w9.cell? ⟨b, off + k, none⟩ = some (.string (txt rs[k]))) := fun k hk => by
      have := cell4 k (by simpa using hk)
      simpa using this
    have HC6 : Hid (∀ k x, (rs.filter (shut1 f))[k]? = some x → ∃ b off, A6 = some ⟨b, off, none⟩ ∧ b < w9.heap.size ∧ w9.cell? ⟨b, off + k, none⟩ = some (.string (txt x))) := fun k x hk => by
      obtain ⟨hk1, hk2⟩ := List.getElem?_eq_some_iff.1 hk
      have := cell6 k (by simpa using hk1)
      simp only [List.getElem_map] at this
      rw [hk2] at this
      exact this
    have HFA := Lib.hid (fun n h hp => filter_at (shut1 f) rs n h hp)
    have hfl : (rs.filter (shut1 f)).length ≤ rs.length := List.length_filter_le _ _
    clear cell4 cell6 T4 T6
    rw [hl4, hl6]
    go_wp2
    go_loopw [12, 105] (fun c i wr => ∃ (n : Nat), n ≤ rs.length ∧ i = .int .i64 n ∧ c = .int .i64 (((rs.take n).filter (shut1 f)).length : Nat) ∧ Below w9.heap.size w9 wr) (fun _ i _ => rs.length - (RowKit.intOf i).toNat)
    case atStart => exact ⟨0, by omega, rfl, rfl, Below.refl _ _⟩
    case round =>
      obtain ⟨n, hnl, rfl, rfl, hb⟩ := hrel
      have hbs := hb.size
      have hcl : ((rs.take n).filter (shut1 f)).length ≤ n := by
        have := List.length_filter_le (shut1 f) (rs.take n)
        rw [List.length_take] at this; omega
      by_cases hlt : n < rs.length
      · obtain ⟨b, off, rfl, hbl, hc1⟩ := HC4.out n hlt
        have hd := (hb.cell (p := ⟨b, off + n, none⟩) hbl).trans hc1
        have hRR := HRR.out n hlt
        have HTK := Lib.hid (take_snoc rs n hlt)
        have HFN := Lib.hid (HFA.out n hlt)
        have HSN : Hid (∀ m, n = m + 1 → ∀ (hm : m < rs.length) x y, rs[m][0]? = some x → rs[n][0]? = some y → x < y) := fun m e hm x y hx hy => by
          subst e; exact HSO.out m hlt x y hx hy
        generalize hr : rs[n] = r at *
        have HRN := Lib.hid hr
        have HRI := Lib.hid hRR
        have h2 := hRR.two
        have h19 := hRR.le
        have htz := txt_size r
        have HEX := Lib.hid (fun j hj => txt_extract r j hj)
        have HCT := Lib.hid (fun j (hj : j < r.length) => closed_take (f := f) (l := r) (j := j) hj)
        have HALL : Hid (r.take r.length = r) := List.take_length
        have hex0 := HEX.out 0 (by omega)
        have hr0 := hRR.low 0 (by omega)
        have HMIN : Hid (∀ i (hi : i < r.length) z, r[0]? = some z → z ≤ r[i]) := fun i hi z hz => by
          rw [List.getElem?_eq_getElem (by omega)] at hz
          rw [← Option.some.inj hz]; exact hRR.min i hi
        generalize hr0e : r[0]'(by omega) = r0 at *
        have HR0 : Hid (r[0]? = some r0) := by show _ = _; rw [← hr0e]; exact List.getElem?_eq_getElem _
        clear hc1 hRR hr hr0e
        generalize hty : txt r = ty at *
        have HTY := Lib.hid hty
        clear hty
        have hty2 : ty.size = r.length := htz
        rename World => wo
        go_wp2
        go_loopw [15, 112] (fun sh i wr => ∃ (k : Nat), k ≤ r.length ∧ i = .int .i64 k ∧ sh = .bool (shut1 f (r.take k)) ∧ Below wo.heap.size wo wr) (fun _ i _ => r.length - (RowKit.intOf i).toNat)
        case atStart => exact ⟨0, by omega, rfl, rfl, Below.refl _ _⟩
        case round =>
          obtain ⟨k, hkl, rfl, rfl, hbi⟩ := hrel
          have hbis := hbi.size
          have hxr := R9.below (hb.trans (hbi.mono hbs))
          by_cases hkt : k < r.length
          · have hx9 := HRI.out.low k hkt
            have hnx := HRI.out.next k hkt
            have hdp := HRI.out.dep k hkt
            have hmn := HMIN.out k hkt r0 HR0.out
            have hct := HCT.out k hkt
            have hex := HEX.out k hkt
            have hml : (k + 1) % r.length < r.length := Nat.mod_lt _ (by omega)
            have hex2 := HEX.out _ hml
            have him := HIM.out r[k] hx9 _ hxr
            rw [hnx] at him
            have hrd := HIR.out r[k] hx9
            have hde := HID.out r[k] hx9 hdp
            have hpi := HPI.out r[k] hx9
            have hp0 := HPI.out r0 hr0
            have hrc := HRC.out r[k]
            generalize r[k] = x at *
            obtain ⟨k2, hk2⟩ : ∃ k2, k2 = (k + 1) % r.length := ⟨_, rfl⟩
            have hmi : ((k : Int) + 1) % (r.length : Int) = (k2 : Int) := by
              rw [hk2]
              first
                | (push_cast; rfl)
                | norm_cast
                | simp
            have hk2l : k2 < r.length := by rw [hk2]; exact hml
            generalize r[(k + 1) % r.length]'hml = y at *
            rw [← hk2] at hex2
            clear hk2
            have HIMX := Lib.hid him
            have HMI := Lib.hid hmi
            have hbw := hbi
            clear him hnx hdp
            have hte : ((sn y).toList == (sn y).toList) = true := by simp
            have HRDX := Lib.hid hrd
            have HDEX := Lib.hid hde
            have HPIX := Lib.hid hpi
            have HP0X := Lib.hid hp0
            have HRCX := Lib.hid hrc
            clear hrd hde hpi hp0 hrc hmi
            generalize namesW (rdH f (sn x)) = q at *
            generalize sn y = sy at *
            generalize hsx : sn x = sx1 at *
            generalize hs0 : sn r0 = s0 at *
            have hmi := HMI.out
            go_wp2_with fail
            refine HIMX.out.mono ?_
            rintro e w11 ⟨rfl, h11⟩
            have b11 := hbi.trans (h11.mono hbis)
            have hs11 := b11.size
            have R11 := hxr.below h11
            go_wp2_with fail
            refine (HRDX.out _ R11).mono ?_
            rintro e w12 ⟨rfl, h12⟩
            have b12 := b11.trans (h12.mono hs11)
            have hs12 := b12.size
            have R12 := R11.below h12
            have HCTX := Lib.hid hct
            have hex0' : ty.extract 0 1 = s0 := hex0
            have hmn2 : ¬ (x : Int) < (r0 : Int) := by omega
            have i0 : (0 : Int) ≤ (k2 : Int) := by omega
            have i1 : (k2 : Int) < (r.length : Int) := by omega
            have i2 : (0 : Int) ≤ (k : Int) := by omega
            have i3 : (k : Int) < (r.length : Int) := by omega
            have hde : ∀ x : Ext w12.heap.size w12, Calls Try.prog 36 #[u, .string sx1] x.val fun e w' => e = .returned (.int .i64 0) ∧ Below x.val.heap.size x.val w' := fun x => HDEX.out x.val (R12.below x.property)
            have hpi : ∀ x_1 : Ext w12.heap.size w12, Calls Try.prog 25 #[.string sx1] x_1.val fun e w' => e = .returned (.int .i64 (x : Int)) ∧ Below x_1.val.heap.size x_1.val w' := fun x => HPIX.out x.val
            have hp0 : ∀ x : Ext w12.heap.size w12, Calls Try.prog 25 #[.string s0] x.val fun e w' => e = .returned (.int .i64 (r0 : Int)) ∧ Below x.val.heap.size x.val w' := fun x => HP0X.out x.val
            clear hct hex0
            by_cases hk0 : (0 : Int) < (k : Int)
            · have hk1 : 0 < k := by omega
              have hk1d : decide (0 < k) = true := by simpa using hk1
              have hk0d : decide ((0 : Int) < (k : Int)) = true := by simpa using hk1
              go_wp2
              refine wp_region_ext w12.heap.size (by kernel_rfl) (by kernel_rfl) ?_
              repeat (go_big_quiet_step (first | (go_at_call 36; exact ext_call _ (Nat.le_refl _) (hde _)) | (go_at_call 25; with_reducible exact ext_call _ (Nat.le_refl _) (hpi _)) | (go_at_call 25; with_reducible exact ext_call _ (Nat.le_refl _) (hp0 _))))
              refine wpQuiet_nil ?_
              intro w13 hw'
              obtain ⟨xw, hxw⟩ := hw'
              have hb13 := xw.property
              rw [← hxw] at hb13
              clear hxw xw hde hpi hp0
              have b13 := b12.trans (hb13.mono hs12)
              clear hb13 b12 b11 h11 h12 R11 R12
              rcases Bool.eq_false_or_eq_true (shut1 f (r.take k)) with hsh | hsh
              · by_cases hq : q.size = 1
                · have hq1 : ((q.size : Int) == 1) = true := by rw [hq]; rfl
                  have HF : Hid (shut1 f (r.take (k + 1)) = true) := by show _ = _; rw [HCTX.out, hsh, HRCX.out]; simpa using hq
                  rw [hsh]
                  clear hq hsh
                  go_wp2
                  go_roundw
                  case rel => exact ⟨k + 1, by omega, by go_num, by rw [HF.out], b13⟩
                  case measure => simp [RowKit.intOf]; omega
                · have hq1 : ((q.size : Int) == 1) = false := by simp; omega
                  have HF : Hid (shut1 f (r.take (k + 1)) = false) := by show _ = _; rw [HCTX.out, hsh, HRCX.out]; simpa using hq
                  rw [hsh]
                  clear hq hsh
                  go_wp2
                  go_roundw
                  case rel => exact ⟨k + 1, by omega, by go_num, by rw [HF.out], b13⟩
                  case measure => simp [RowKit.intOf]; omega
              · have HF : Hid (shut1 f (r.take (k + 1)) = false) := by show _ = _; rw [HCTX.out, hsh, Bool.false_and]
                rw [hsh]
                clear hsh
                go_wp2
                go_roundw
                case rel => exact ⟨k + 1, by omega, by go_num, by rw [HF.out], b13⟩
                case measure => simp [RowKit.intOf]; omega
            · have hk1 : ¬ 0 < k := by omega
              have hk1d : decide (0 < k) = false := decide_eq_false hk1
              have hk0d : decide ((0 : Int) < (k : Int)) = false := decide_eq_false hk0
              go_wp2
              refine wp_region_ext w12.heap.size (by kernel_rfl) (by kernel_rfl) ?_
              repeat (go_big_quiet_step (first | (go_at_call 36; exact ext_call _ (Nat.le_refl _) (hde _)) | (go_at_call 25; with_reducible exact ext_call _ (Nat.le_refl _) (hpi _)) | (go_at_call 25; with_reducible exact ext_call _ (Nat.le_refl _) (hp0 _))))
              refine wpQuiet_nil ?_
              intro w13 hw'
              obtain ⟨xw, hxw⟩ := hw'
              have hb13 := xw.property
              rw [← hxw] at hb13
              clear hxw xw hde hpi hp0
              have b13 := b12.trans (hb13.mono hs12)
              clear hb13 b12 b11 h11 h12 R11 R12
              rcases Bool.eq_false_or_eq_true (shut1 f (r.take k)) with hsh | hsh
              · by_cases hq : q.size = 1
                · have hq1 : ((q.size : Int) == 1) = true := by rw [hq]; rfl
                  have HF : Hid (shut1 f (r.take (k + 1)) = true) := by show _ = _; rw [HCTX.out, hsh, HRCX.out]; simpa using hq
                  rw [hsh]
                  clear hq hsh
                  go_wp2
                  go_roundw
                  case rel => exact ⟨k + 1, by omega, by go_num, by rw [HF.out], b13⟩
                  case measure => simp [RowKit.intOf]; omega
                · have hq1 : ((q.size : Int) == 1) = false := by simp; omega
                  have HF : Hid (shut1 f (r.take (k + 1)) = false) := by show _ = _; rw [HCTX.out, hsh, HRCX.out]; simpa using hq
                  rw [hsh]
                  clear hq hsh
                  go_wp2
                  go_roundw
                  case rel => exact ⟨k + 1, by omega, by go_num, by rw [HF.out], b13⟩
                  case measure => simp [RowKit.intOf]; omega
              · have HF : Hid (shut1 f (r.take (k + 1)) = false) := by show _ = _; rw [HCTX.out, hsh, Bool.false_and]
                rw [hsh]
                clear hsh
                go_wp2
                go_roundw
                case rel => exact ⟨k + 1, by omega, by go_num, by rw [HF.out], b13⟩
                case measure => simp [RowKit.intOf]; omega
          · have hkl2 : k = r.length := by omega
            subst hkl2
            rw [HALL.out]
            have b10 := hb.trans (hbi.mono hbs)
            have hs10 := b10.size
            have hsh10 : Hid (∀ b', shut1 f r = b' → ((rs.take (n + 1)).filter (shut1 f)).length = ((rs.take n).filter (shut1 f)).length + (if b' then 1 else 0)) := by
              show ∀ b', _
              rintro b' rfl
              rw [HTK.out, List.filter_append]
              by_cases h : shut1 f r = true <;> simp [h]
            have hz2 : (2 : Int) ≤ (r.length : Int) := by omega
            have hz3 : decide ((r.length : Int) < 2) = false := by simp; omega
            have hcell10 : ∀ k o, w9.cell? ⟨b, k, none⟩ = some o → wr.cell? ⟨b, k, none⟩ = some o := fun k o h => (b10.cell (p := ⟨b, k, none⟩) hbl).trans h
            have hex0' : ty.extract 0 1 = sn r0 := hex0
            have hp0 : ∀ x : Ext wr.heap.size wr, Calls Try.prog 25 #[.string (sn r0)] x.val fun e w' => e = .returned (.int .i64 (r0 : Int)) ∧ Below x.val.heap.size x.val w' := fun x => HPI.out r0 hr0 x.val
            by_cases hn0 : n = 0
            · have hn1 : ¬ (0 : Int) < (n : Int) := by omega
              have hn2 : ¬ 0 < n := by omega
              have hn2d : decide (0 < n) = false := decide_eq_false hn2
              have hn1d : decide ((0 : Int) < (n : Int)) = false := decide_eq_false hn1
              clear hn0
              go_wp2
              refine wp_region_ext wr.heap.size (by kernel_rfl) (by kernel_rfl) ?_
              repeat (go_big_quiet_step (fail))
              refine wpQuiet_nil ?_
              intro w13 hw'
              obtain ⟨xw, hxw⟩ := hw'
              have hb13 := xw.property
              rw [← hxw] at hb13
              clear hxw xw hp0
              have b13 := b10.trans (hb13.mono hs10)
              clear hn1 hn2 hn2d hn1d hz3 hz2 hb13
              rcases Bool.eq_false_or_eq_true (shut1 f r) with hsh | hsh
              · have hcnt := HFN.out hsh
                obtain ⟨b6, off6, rfl, hbl6, hc6'⟩ := HC6.out _ r hcnt
                rw [HTY.out] at hc6'
                have hcell6 := (b13.cell (p := ⟨b6, off6 + _, none⟩) hbl6).trans hc6'
                have hclt := (List.getElem?_eq_some_iff.1 hcnt).1
                have hte : (ty.toList == ty.toList) = true := by simp
                have HCN : Hid (((rs.take (n + 1)).filter (shut1 f)).length = ((rs.take n).filter (shut1 f)).length + 1) := hsh10.out true hsh
                rw [hsh]
                clear hsh hcnt hc6'
                generalize ((rs.take n).filter (shut1 f)).length = cnt at *
                have i6 : (0 : Int) ≤ (cnt : Int) := by omega
                have i7 : (cnt : Int) < ((rs.filter (shut1 f)).length : Int) := by omega
                go_wp2
                go_roundw
                case rel => exact ⟨n + 1, by omega, by go_num, by rw [HCN.out]; go_num, b13⟩
                case measure => simp [RowKit.intOf]; omega
              · have HCN : Hid (((rs.take (n + 1)).filter (shut1 f)).length = ((rs.take n).filter (shut1 f)).length) := hsh10.out false hsh
                rw [hsh]
                clear hsh
                go_wp2
                go_roundw
                case rel => exact ⟨n + 1, by omega, by go_num, by rw [HCN.out], b13⟩
                case measure => simp [RowKit.intOf]; omega
            · obtain ⟨m, rfl⟩ : ∃ m, n = m + 1 := ⟨n - 1, by omega⟩
              have hn1 : (0 : Int) < ((m + 1 : Nat) : Int) := by omega
              have hnm : ((m + 1 : Nat) : Int) - 1 = (m : Int) := by omega
              have hn1a : (0 : Int) < (m : Int) + 1 := by omega
              have hn1b : decide ((0 : Int) < (m : Int) + 1) = true := decide_eq_true hn1a
              have hn1c : decide ((0 : Int) < ((m + 1 : Nat) : Int)) = true := decide_eq_true hn1
              have hnma : (m : Int) + 1 - 1 = (m : Int) := by omega
              obtain ⟨b', off', hbe, hbl', hcm⟩ := HC4.out m (by omega)
              cases hbe
              have hrm := HRR.out m (by omega)
              have hlow := hrm.low 0 (by have := hrm.two; omega)
              have hgt : rs[m][0]? = some (rs[m][0]'(by have := hrm.two; omega)) := List.getElem?_eq_getElem _
              have hlt2 := HSN.out m rfl (by omega) _ r0 hgt HR0.out
              have hexm : (txt rs[m]).extract 0 1 = sn (rs[m][0]'(by have := hrm.two; omega)) := txt_extract _ 0 _
              have hzm : 1 ≤ (txt rs[m]).size := by rw [txt_size]; have := hrm.two; omega
              have hpm : ∀ x : Ext wr.heap.size wr, Calls Try.prog 25 #[.string (sn (rs[m][0]'(by have := hrm.two; omega)))] x.val fun e w' => e = .returned (.int .i64 (rs[m][0]'(by have := hrm.two; omega) : Nat)) ∧ Below x.val.heap.size x.val w' := fun x => HPI.out _ hlow x.val
              have hcx : ∀ x : Ext wr.heap.size wr, x.val.cell? ⟨b, off + m, none⟩ = some (.string (txt rs[m])) := fun x => (x.property.cell (p := ⟨b, off + m, none⟩) (show b < wr.heap.size by omega)).trans (hcell10 _ _ hcm)
              clear hgt hcm
              generalize rs[m][0]'(by have := hrm.two; omega) = xm at *
              generalize txt rs[m] = tm at *
              have hlt3 : ¬ (r0 : Int) ≤ (xm : Int) := by omega
              have i4 : (0 : Int) ≤ (m : Int) := by omega
              have i5 : (m : Int) < (rs.length : Int) := by omega
              go_wp2
              refine wp_region_ext wr.heap.size (by kernel_rfl) (by kernel_rfl) ?_
              repeat (go_big_quiet_step (first | (go_at_call 25; with_reducible exact ext_call _ (Nat.le_refl _) (hpm _)) | (go_at_call 25; with_reducible exact ext_call _ (Nat.le_refl _) (hp0 _))))
              refine wpQuiet_nil ?_
              intro w13 hw'
              obtain ⟨xw, hxw⟩ := hw'
              have hb13 := xw.property
              rw [← hxw] at hb13
              clear hxw xw hp0
              have b13 := b10.trans (hb13.mono hs10)
              rcases Bool.eq_false_or_eq_true (shut1 f r) with hsh | hsh
              · have hcnt := HFN.out hsh
                obtain ⟨b6, off6, rfl, hbl6, hc6'⟩ := HC6.out _ r hcnt
                rw [HTY.out] at hc6'
                have hcell6 := (b13.cell (p := ⟨b6, off6 + _, none⟩) hbl6).trans hc6'
                have hclt := (List.getElem?_eq_some_iff.1 hcnt).1
                have hte : (ty.toList == ty.toList) = true := by simp
                have HCN : Hid (((rs.take ((m + 1) + 1)).filter (shut1 f)).length = ((rs.take (m + 1)).filter (shut1 f)).length + 1) := hsh10.out true hsh
                rw [hsh]
                clear hsh hcnt hc6'
                generalize ((rs.take (m + 1)).filter (shut1 f)).length = cnt at *
                have i6 : (0 : Int) ≤ (cnt : Int) := by omega
                have i7 : (cnt : Int) < ((rs.filter (shut1 f)).length : Int) := by omega
                go_wp2
                go_roundw
                case rel => exact ⟨(m + 1) + 1, by omega, by go_num, by rw [HCN.out]; go_num, b13⟩
                case measure => simp [RowKit.intOf]; omega
              · have HCN : Hid (((rs.take ((m + 1) + 1)).filter (shut1 f)).length = ((rs.take (m + 1)).filter (shut1 f)).length) := hsh10.out false hsh
                rw [hsh]
                clear hsh
                go_wp2
                go_roundw
                case rel => exact ⟨(m + 1) + 1, by omega, by go_num, by rw [HCN.out], b13⟩
                case measure => simp [RowKit.intOf]; omega
      · have hnr : n = rs.length := by omega
        have hT : ((rs.take n).filter (shut1 f)).length = (rs.filter (shut1 f)).length := by rw [hnr, List.take_length]
        have hT2 : ((((rs.take n).filter (shut1 f)).length : Int) == ((rs.filter (shut1 f)).length : Int)) = true := by rw [hT]; simp
        clear hT hnr
        go_wp2
        go_ret
        exact ⟨rfl, b9.trans (hb.mono hs9)⟩

namespace fnRings
open Go.RowKit Go.PM Go.ChangeShapes Go.WideShapes Go.ChangeAt
open Go.ChangeMaps (open_string shut_string)
set_option maxRecDepth 100000 in
theorem lifted (os : Os) (started : os.Started) (H : Type) (enc : TypeId × Value → H) :
    ReturnsInHanded {} Try.checked os 4 .any (Rows.fnRingsSpec.pre6 enc Try.prog Try.f4 Rows.fnRingsRow.domain false) (Rows.fnRingsSpec.post enc Try.prog Try.f4 false true false false) := by
  refine returnsInHanded_of_change (C := Try.checked) own started (by kernel_rfl) Try.func4
    (ChangeSpec.witness6 (enc := enc) (C := Try.checked) false ⟨#[], #[.slice none 0 0], []⟩ 8 (by kernel_rfl) (by kernel_rfl) (by kernel_rfl) (by kernel_rfl)) ?_
  intro W base args ds gs before hval0 hW hcnd _
  have hval : ∀ (j : Nat) t v, Try.f4.params[j]? = some t → args[j]? = some v → Value.okWide Try.prog W .any base t v := hval0
  have hW' := hW
  obtain ⟨p, q, hA0, hV, rfl, hfz, hnd⟩ := hW
  have hA : DataW.TrodAll enc Try.prog W 0 (fun _ => true) true Try.f4.params.toList args.toList ds p := hA0
  rw [Try.params4] at hA hval
  obtain ⟨v0, vs0, d0, ds0, p0, q0, hargs, rfl, rfl, h0, r0⟩ := trodAll_cons hA
  obtain ⟨rfl, rfl, rfl⟩ := trodAll_nil r0
  obtain rfl : args = #[v0] := by cases args; simp_all
  obtain ⟨rfl, rfl⟩ := trodVars_none hV
  have k0 := h0
  have lt0 : ∀ x ∈ p0, x.block < W.heap.size := by obtain ⟨m, hm⟩ := k0; exact DataW.trod_lt m _ _ _ hm
  obtain ⟨a0, len0, cap0, rfl⟩ := okWide_slice Try.underlying22 (hval 0 22 v0 rfl rfl)
  have hx0 : RdB W W.heap.size (.slice a0 len0 cap0) len0 := by obtain ⟨fuel, hf⟩ := h0; exact open_bytes hf
  clear hA0 hval0
  refine (exRings W _ len0 hx0).mono fun e W' ⟨he, bel⟩ => ?_
  subst he
  exact ⟨_, rfl, _, _, _, [], _, [], hW', trodAll_mk1 (shut_bool Try.underlying4 _), (trodAll_cons_mk (Below.trod laidOut (by kernel_rfl) (of_decide_eq_true (by kernel_rfl)) k0 bel lt0) trodAll_mk0), rfl, bel.frame _, fun h => by cases h⟩

theorem over : Rows.fnRingsRow.holds Try.pinned (OpenSpec.ofChange Rows.fnRingsSpec) :=
  OpenClaim.holds_of_wide 4 Try.f4 rfl rfl rfl rfl rfl rfl rfl ⟨rfl, rfl, rfl, rfl, rfl⟩ rfl rfl rfl rfl rfl (by kernel_rfl) Try.func4 (by kernel_rfl)
    (of_decide_eq_true (by kernel_rfl)) (by unfold Func.isWrapper; first | (rw [if_pos (by decide +kernel)]; kernel_rfl) | (rw [if_neg (by decide +kernel)]; exact ⟨rfl, rfl⟩))
    (fun os started H enc _ => lifted os started H enc)

/-- The statement. -/
theorem proved : Rows.FnRingsSaid := over
end fnRings
end Go.Proofs.Ytbgchjjaaelkbaa
