import Derived.Test.YtcpibkffeenehaaDoorShelf
import Derived.Test.YtcpibkffeenehaaDoorMarkT
import Derived.Test.YtcpibkffeenehaaDoorClP
import Derived.Test.YtcpibkffeenehaaDoorHold
import Derived.Shelf.Utf8.RuneCount
import Derived.Shelf.Unicode.DecodeAny
namespace Go.PF
open Go.PM Go.PD Go.RowKit Go.Lib
/-- a row of texts of which some are there already -/
def rowS (done : List ByteArray) (n : Nat) : List Value := tcells done ++ List.replicate (n - done.length) (.string ⟨#[]⟩)
theorem rowS_zero (n : Nat) : rowS [] n = (List.replicate n [Value.string ⟨#[]⟩]).flatten := by
  unfold rowS tcells
  simp only [List.map_nil, List.nil_append, List.length_nil, Nat.sub_zero]
  induction n with
  | zero => rfl
  | succ n ih => rw [List.replicate_succ, List.replicate_succ, List.flatten_cons, ← ih]; rfl
theorem rowS_at {done : List ByteArray} {n : Nat} (h : done.length < n) : (rowS done n)[done.length]? = some (.string ⟨#[]⟩) := by
  unfold rowS
  have hl : (tcells done).length = done.length := tcells_length done
  rw [List.getElem?_append_right (by omega), hl, Nat.sub_self, List.getElem?_replicate, if_pos (by omega)]
theorem rowS_set {done : List ByteArray} {n : Nat} (h : done.length < n) (q : ByteArray) : (rowS done n).set done.length (.string q) = rowS (done ++ [q]) n := by
  unfold rowS
  have hl : (tcells done).length = done.length := tcells_length done
  rw [List.set_append_right _ _ (by omega), hl, Nat.sub_self, tcells_append, show n - done.length = (n - (done ++ [q]).length) + 1 by rw [List.length_append, List.length_singleton]; omega, List.replicate_succ, List.set_cons_zero]
  simp [tcells]
theorem rowS_full {done : List ByteArray} {n : Nat} (h : done.length = n) : rowS done n = tcells done := by
  unfold rowS
  rw [h, Nat.sub_self]; simp
/-- pieces and what is left of a text -/
def PcI (l : List UInt8) (done : List ByteArray) (r : ByteArray) : Prop := done.flatMap (·.data.toList) ++ r.data.toList = l
theorem PcI_start (s : ByteArray) : PcI s.data.toList [] s := rfl
theorem PcI_step {l : List UInt8} {done : List ByteArray} {r : ByteArray} (h : PcI l done r) (k : Nat) (_hk : k ≤ r.size) : PcI l (done ++ [r.extract 0 k]) (r.extract k r.size) := by
  unfold PcI at h ⊢
  rw [← h, List.flatMap_append, List.append_assoc]
  congr 1
  rw [List.flatMap_singleton, extract_data, extract_data, List.drop_zero, Nat.sub_zero]
  have : (r.data.toList.drop k).take (r.size - k) = r.data.toList.drop k := List.take_of_length_le (by rw [List.length_drop, size_data]; exact Nat.le_refl _)
  rw [this, List.take_append_drop]
theorem PcI_end {l : List UInt8} {done : List ByteArray} {r : ByteArray} (h : PcI l done r) : (done ++ [r]).flatMap (·.data.toList) = l := by
  unfold PcI at h
  rw [List.flatMap_append, List.flatMap_singleton]
  exact h
theorem dec_le (s : ByteArray) : (Lib.decodeGo s).2 ≤ s.size := by
  by_cases h : s.size = 0
  · simp [Lib.decodeGo, h]
  · have e : Lib.decodeGo s = Utf8.decode s 0 := if_neg h
    rw [e, Lib.decode_at]
    unfold Lib.decodeN
    repeat' split
    all_goals (first | (show (1 : Nat) ≤ _; omega) | (show (2 : Nat) ≤ _; omega) | (show (3 : Nat) ≤ _; omega) | (show (4 : Nat) ≤ _; omega))
theorem chars_ch (s : ByteArray) : Lib.charsB s = s.data.toList.map ch := by
  apply List.ext_getElem
  · rw [List.length_map, size_data]
    exact Lib.charsUpTo_length s s.size
  · intro k h1 h2
    have hk : k < s.size := by rw [List.length_map, size_data] at h2; exact h2
    simp only [Lib.charsB, Lib.charsUpTo, List.getElem_map, List.getElem_range]
    rw [extract_one s k hk, List.getD_eq_getElem?_getD, List.getElem?_eq_getElem (by rw [size_data]; exact hk)]
    rfl
end Go.PF
namespace Go.Proofs.YtcpibkffeenehaaDoor
open Go.RowKit Go.PM Go.PD Go.PF
/-- the library's tables of UTF-8 lie in memory as its text has them -/
def U8w (w : World) : Prop := Lib.Utf8Tabs 1 2 w
theorem U8w.below {w w' : World} (h : U8w w) (hb : Below w.heap.size w w') : U8w w' := Utf8Tabs_below h hb
abbrev u8ren : Go.Shelf.Ren := Tryd.lays260_ren
theorem u8lays : Go.Proofs.Lays.n260 Tryd.prog u8ren := Tryd.lays260
theorem infoU8 : (Tryd.prog.info? 9).map (fun i => (i.zero, i.size, i.bytes)) = some (some (.string ⟨#[]⟩), 1, 16) := by kernel_rfl
theorem iter_below (w : World) (s : ByteArray) (p : Nat) : Below w.heap.size w (w.iter s p) := (Below.refl _ _).alloc (Nat.le_refl _) _
set_option maxRecDepth 100000 in
set_option maxHeartbeats 2000000 in
theorem explode_any (s : ByteArray) (hs : s.size ≤ 1048576) (w : World) (hT : U8w w) :
    Calls Tryd.prog 101 #[.string s, .int .i64 (-1)] w fun e w' => ∃ (A : Option Addr) (qs : List ByteArray), e = .returned (.slice A qs.length qs.length) ∧ RdT w' (.slice A qs.length qs.length) qs ∧ qs.length ≤ 1048576 ∧ (qs = [] ∨ qs.flatMap (·.data.toList) = s.data.toList) ∧ Below w.heap.size w w' := by
  have HC := Lib.hid (Tryd.utf8_RuneCountInString s w (by omega))
  have hle := Lib.runeCount_le s
  have HD := Lib.hid (fun (r : ByteArray) W (hb : Below w.heap.size w W) => Tryd.utf8_DecodeRuneInString r W (hT.below hb))
  have HDL := Lib.hid (fun r => dec_le r)
  have HP0 := Lib.hid (PcI_start s)
  have HPS := Lib.hid (fun done r h k hk => PcI_step (l := s.data.toList) (done := done) (r := r) h k hk)
  have HPE := Lib.hid (fun done r h => PcI_end (l := s.data.toList) (done := done) (r := r) h)
  generalize Lib.runeCount s = N at *
  generalize s.data.toList = l at *
  obtain ⟨i0, hi0, hz0, hz1, hz2⟩ := info_parts infoU8
  have hmk := fun W : World => run_make (P := Tryd.prog) W 56 9 i0 _ Tryd.underlying56 hi0 hz0 .i64 .i64 N N (by omega) (Int.le_refl _) (by rw [hz2]; omega) (by omega)
  simp only [Int.toNat_natCast, hz1] at hmk
  go_enter Tryd.func101, Tryd.ntmps101
  go_wp2_with fail
  refine HC.out.mono ?_
  rintro e w1 ⟨rfl, pos, rfl⟩
  have hb1 := iter_below w s pos
  have hs1 := hb1.size
  generalize w.iter s pos = w1 at *
  have hO := own_made w1 w.heap.size 9 #[Value.string ⟨#[]⟩] 1 N rfl (by omega) (by omega) hs1
  have hB : Below w.heap.size w (w1.alloc (Obj.cells (madeCells #[Value.string ⟨#[]⟩] (N * 1)) 9)) := hb1.alloc hs1 _
  rw [Nat.mul_one] at hmk hO hB
  go_wp2
  generalize (w1.alloc (Obj.cells (madeCells #[Value.string ⟨#[]⟩] N) 9)) = W1 at *
  go_loopw [0, 7, 8, 9] (fun r i _ _ wr => ∃ (done : List ByteArray) (q : ByteArray), (done = [] ∨ done.length + 1 ≤ N) ∧ i = .int .i64 done.length ∧ r = .string q ∧ q.size ≤ 1048576 ∧ Hid (PcI l done q) ∧ wr.ownsRow w.heap.size 9 1 (.slice (some ⟨w1.heap.size, 0, none⟩) N N) N (rowS done N) ∧ Below w.heap.size w wr) (fun _ i _ _ _ => N - (RowKit.intOf i).toNat)
  case atStart => exact ⟨[], s, .inl rfl, rfl, rfl, hs, HP0.out, by rw [rowS_zero]; exact hO, hB⟩
  case round =>
    clear hO hB
    obtain ⟨done, q, hdn, rfl, rfl, hqs, hp, ho, hb⟩ := hrel
    have hbs := hb.size
    by_cases hlt : done.length + 1 < N
    · have t0 : ((done.length : Nat) : Int) < (N : Int) - 1 := by omega
      have hdl := HDL.out q
      have HDC := Lib.hid (HD.out q wr hb)
      have HS := Lib.hid (fun k hk => HPS.out done q hp.out k hk)
      generalize (Lib.decodeGo q).1 = R at *
      generalize (Lib.decodeGo q).2 = K at *
      go_wp2_with fail
      refine HDC.out.mono ?_
      rintro e w2 ⟨rfl, hb2⟩
      have hbw := hb.trans (hb2.mono hbs)
      have ho2 := own_keep ho hb2
      have hf1 := ho2.frozenAt done.length
      have hq1 := (ho2.cellAt done.length (by omega)).trans (rowS_at (by omega))
      have i0 : (0 : Int) ≤ (K : Int) := by omega
      have i1 : (K : Int) ≤ (q.size : Int) := by omega
      have i2 : ((done.length : Nat) : Int) < (N : Int) := by omega
      have hlg := (own_lt ho2).1
      clear hb hb2 ho
      go_wp2
      go_roundw
      case rel =>
        refine ⟨done ++ [q.extract 0 K], q.extract K q.size, .inr (by rw [List.length_append, List.length_singleton]; omega), by rw [List.length_append, List.length_singleton]; go_num, rfl, by rw [ByteArray.size_extract]; omega, HS.out K hdl, ?_, ?_⟩
        · rw [← rowS_set (by omega)]
          exact (ho2.stored done.length _).1
        · exact hbw.setCell (by simp; omega) _
      case measure => simp [RowKit.intOf]; omega
    · have t0 : ¬ ((done.length : Nat) : Int) < (N : Int) - 1 := by omega
      by_cases hN : N = 0
      · subst hN
        have hd : done = [] := by
          rcases hdn with h | h
          · exact h
          · omega
        subst hd
        have hR := Rd.of_own ho
        rw [rowS_full (by rfl)] at hR
        go_wp2
        go_ret
        exact ⟨_, [], rfl, hR, by simp, .inl rfl, hb⟩
      · have hdl : done.length + 1 = N := by
          rcases hdn with h | h
          · subst h; simp at hlt ⊢; omega
          · omega
        have t1 : (0 : Int) < (N : Int) := by omega
        have t2 : (N : Int) - 1 = ((done.length : Nat) : Int) := by omega
        have i2 : ((done.length : Nat) : Int) < (N : Int) := by omega
        have hf1 := ho.frozenAt done.length
        have hq1 := (ho.cellAt done.length (by omega)).trans (rowS_at (by omega))
        have hlg := (own_lt ho).1
        have ho3 := (ho.stored done.length (.string q)).1
        rw [rowS_set (by omega), rowS_full (by rw [List.length_append, List.length_singleton]; omega)] at ho3
        have hR := Rd.of_own ho3
        have HE := Lib.hid (HPE.out done q hp.out)
        have hbw := hb.setCell (p := ⟨w1.heap.size, done.length, none⟩) hs1 (.string q)
        have hql : (done ++ [q]).length = N := by rw [List.length_append, List.length_singleton]; omega
        have HL := Lib.hid hql
        clear ho ho3 hlt hdn hql
        go_wp2
        go_ret
        exact ⟨_, done ++ [q], by rw [HL.out]; rfl, by rw [HL.out]; unfold RdT; rw [HL.out]; exact hR, by rw [HL.out]; omega, .inr HE.out, hbw⟩
theorem split_any (s : ByteArray) (hs : s.size ≤ 1048576) (w : World) (hT : U8w w) :
    Calls Tryd.prog 45 #[.string s, .string ⟨#[]⟩] w fun e w' => ∃ (A : Option Addr) (qs : List ByteArray), e = .returned (.slice A qs.length qs.length) ∧ RdT w' (.slice A qs.length qs.length) qs ∧ qs.length ≤ 1048576 ∧ (qs = [] ∨ qs.flatMap (·.data.toList) = s.data.toList) ∧ Below w.heap.size w w' := by
  have HX := Lib.hid (explode_any s hs w hT)
  have HG : Hid (Calls Tryd.prog 79 #[.string s, .string ⟨#[]⟩, .int .i64 0, .int .i64 (-1)] w fun e w' => ∃ (A : Option Addr) (qs : List ByteArray), e = .returned (.slice A qs.length qs.length) ∧ RdT w' (.slice A qs.length qs.length) qs ∧ qs.length ≤ 1048576 ∧ (qs = [] ∨ qs.flatMap (·.data.toList) = s.data.toList) ∧ Below w.heap.size w w') := by
    show Calls _ _ _ _ _
    go_enter Tryd.func79, Tryd.ntmps79
    go_wp2_with fail
    refine HX.out.mono ?_
    rintro e w1 ⟨A, qs, rfl, h1, h2, h3, h4⟩
    go_wp2
    go_ret
    exact ⟨A, qs, rfl, h1, h2, h3, h4⟩
  clear HX
  go_enter Tryd.func45, Tryd.ntmps45
  go_wp2_with fail
  refine HG.out.mono ?_
  rintro e w1 ⟨A, qs, rfl, h1, h2, h3, h4⟩
  go_wp2
  go_ret
  exact ⟨A, qs, rfl, h1, h2, h3, h4⟩
theorem rdT_new (w : World) (ts : List ByteArray) (t : TypeId) (h : ts.length ≤ 1048576) : RdT (w.alloc (.cells (ts.map Value.string).toArray t)) (.slice (some ⟨w.heap.size, 0, none⟩) ts.length ts.length) ts := by
  refine ⟨_, _, rfl, Nat.le_refl _, by omega, by rw [tcells_length]; omega, fun _ => ⟨w.heap.size, 0, rfl, by simp, fun j u hj => ?_⟩⟩
  have hA : At (w.alloc (.cells (ts.map Value.string).toArray t)) w.heap.size t (ts.map Value.string).toArray := At.new _ _ _
  rw [Nat.zero_add, hA.cell j, List.getElem?_toArray]
  exact hj
theorem split_c (s : ByteArray) (hs : s.size ≤ 1048576) (w : World) (hT : U8w w) :
    Calls Tryd.prog 45 #[.string s, .string ⟨#[]⟩] w fun e w' => ∃ (A : Option Addr) (qs : List ByteArray), e = .returned (.slice A qs.length qs.length) ∧ RdT w' (.slice A qs.length qs.length) qs ∧ qs.length ≤ 1048576 ∧ Pcs s.data.toList qs ∧ Below w.heap.size w w' := by
  by_cases hc : ∃ c ∈ s.data.toList, ¬ c.toNat < 128
  · refine (split_any s hs w hT).mono ?_
    rintro e w1 ⟨A, qs, h0, h1, h2, h3, h4⟩
    exact ⟨A, qs, h0, h1, h2, .inr ⟨hc, h3⟩, h4⟩
  · refine (Tryd.strings_Split_chars s ⟨#[]⟩ w rfl (by omega) (fun j b hj => ?_)).mono ?_
    · refine Classical.byContradiction fun hn => hc ⟨b, List.mem_of_getElem? hj, hn⟩
    · rintro e w1 ⟨rfl, rfl⟩
      have hl : (s.data.toList.map ch).length = s.size := by rw [List.length_map, size_data]
      refine ⟨some ⟨(w.iter s s.size).heap.size, 0, none⟩, s.data.toList.map ch, by rw [hl], ?_, by rw [hl]; exact hs, .inl rfl, ?_⟩
      · have := rdT_new (w.iter s s.size) (s.data.toList.map ch) 9 (by rw [hl]; exact hs)
        rw [chars_ch]
        exact this
      · exact (iter_below w s s.size).alloc (iter_below w s s.size).size _
end Go.Proofs.YtcpibkffeenehaaDoor
