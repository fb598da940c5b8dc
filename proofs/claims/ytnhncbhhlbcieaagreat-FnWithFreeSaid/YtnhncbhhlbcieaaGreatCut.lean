import Derived.Test.YtnhncbhhlbcieaaGreatApp
import Derived.Test.YtnhncbhhlbcieaaGreatHold
import Derived.Test.YtnhncbhhlbcieaaGreatHar
namespace Go.PM
open Go.RowKit
/-- the pieces that end before place i, and where the open one begins -/
def cutS (s : ByteArray) (c : UInt8) : Nat → List ByteArray × Nat
  | 0 => ([], 0)
  | i + 1 => if ∀ h : i < s.size, s[i] = c then ((cutS s c i).1 ++ [s.extract (cutS s c i).2 i], i + 1) else cutS s c i
def cutP (s : ByteArray) (c : UInt8) : List ByteArray := (cutS s c (s.size + 1)).1
theorem cutS_len (s : ByteArray) (c : UInt8) (i : Nat) : (cutS s c i).1.length ≤ i := by
  induction i with
  | zero => exact Nat.le_refl _
  | succ i ih =>
    rw [cutS]
    split
    · simp; omega
    · omega
theorem cutS_from (s : ByteArray) (c : UInt8) (i : Nat) : (cutS s c i).2 ≤ i := by
  induction i with
  | zero => exact Nat.le_refl _
  | succ i ih =>
    rw [cutS]
    split
    · exact Nat.le_refl _
    · omega
theorem cutS_end (s : ByteArray) (c : UInt8) : cutS s c (s.size + 1) = ((cutS s c s.size).1 ++ [s.extract (cutS s c s.size).2 s.size], s.size + 1) := by
  rw [cutS, if_pos]; intro h; omega
theorem cutS_yes (s : ByteArray) (c : UInt8) (i : Nat) (h : i < s.size) (hc : s[i] = c) : cutS s c (i + 1) = ((cutS s c i).1 ++ [s.extract (cutS s c i).2 i], i + 1) := by
  rw [cutS, if_pos]; intro _; exact hc
theorem cutS_no (s : ByteArray) (c : UInt8) (i : Nat) (h : i < s.size) (hc : ¬ s[i] = c) : cutS s c (i + 1) = cutS s c i := by
  rw [cutS, if_neg]; intro hh; exact hc (hh h)
theorem one_new (w : World) (a : Value) (t : TypeId) : ∀ j u, [a][j]? = some u → (w.alloc (.cells #[a] t)).cell? ((⟨w.heap.size, 0, none⟩ : Addr).add j) = some u := by
  intro j u hj
  match j, hj with
  | 0, hj => simp at hj; subst hj; simp [Addr.add]
end Go.PM
namespace Go.Proofs.YtnhncbhhlbcieaaGreat
open Go.RowKit Go.PM
theorem infoStr : (Tryz.prog.info? 9).map (fun i => (i.zero, i.size, i.bytes)) = some (some (.string ⟨#[]⟩), 1, 16) := by kernel_rfl
theorem app_str {ops : Array Oper} {rest : List Oper} {o : Oper} {a : Act} {Q : Exit → Act → World → Prop} {w : World} (hgd : o.guard = none) (s x : Operand)
    (ho : o.op = .call { callee := .builtin .append, args := #[s, x], argTypes := #[48, 48] })
    (base : Nat) (v : Value) (ys : List ByteArray) (m : ByteArray) (ad : Addr) (c : Nat) (hs : a.eval s = v) (hx : a.eval x = .slice (some ad) 1 c)
    (hown : w.ownsRow base 9 1 v ys.length (ys.map Value.string)) (hnew : ∀ j u, [Value.string m][j]? = some u → w.cell? (ad.add j) = some u)
    (hlen : ys.length ≤ 1048576) (hbase : base ≤ w.heap.size)
    (h : ∀ v' w', w'.ownsRow base 9 1 v' (ys ++ [m]).length ((ys ++ [m]).map Value.string) → w.grownBy w' v.ownBlock → wpList Tryz.prog ops Q rest (a.put o.dst v') w') : wpList Tryz.prog ops Q (o :: rest) a w := by
  obtain ⟨i0, hi0, hz0, hz1, hz2⟩ := info_parts infoStr
  refine wpList_append_own w hgd s x _ ho base 9 i0 _ 1 16 Tryz.underlying48 hi0 hz0 hz1 hz2 rfl (by omega) v ys.length (ys.map Value.string) hs hown ad 1 c [Value.string m] hx rfl hnew
    (by intro u hu; simp at hu; subst hu; rfl) (by simp only [maxLen]; omega) (by omega) hbase ?_
  intro v' w' h2 h3 _
  refine h v' w' ?_ h3
  rw [List.map_append, List.length_append]
  simpa using h2

set_option maxRecDepth 100000 in
set_option maxHeartbeats 1600000 in
theorem l13Cut_c (s : ByteArray) (c : UInt8) (w : World) (hs : s.size ≤ 1048576) :
    Calls Tryz.prog 98 #[.string s, .int .u8 c.toNat] w fun e w' => ∃ v, e = .returned v ∧ w'.ownsRow w.heap.size 9 1 v (cutP s c).length ((cutP s c).map Value.string) ∧ Below w.heap.size w w' := by
  have hE := World.ownsRow_lit (e := 9) (base := w.heap.size) (size := 1) w #[] 0 (Nat.le_refl _) (Nat.zero_le _) rfl
  have HL := Lib.hid (fun k => cutS_len s c k)
  have HF := Lib.hid (fun k => cutS_from s c k)
  have HE := Lib.hid (cutS_end s c)
  have HY := Lib.hid (fun k h hc => cutS_yes s c k h hc)
  have HN := Lib.hid (fun k h hc => cutS_no s c k h hc)
  go_enter Tryz.func98, Tryz.ntmps98
  go_wp2
  go_loopw [5, 6, 7] (fun o f i wr => ∃ (k : Nat), k ≤ s.size + 1 ∧ i = .int .i64 k ∧ f = .int .i64 ((cutS s c k).2 : Nat) ∧ wr.ownsRow w.heap.size 9 1 o (cutS s c k).1.length ((cutS s c k).1.map Value.string) ∧ Below w.heap.size w wr) (fun _ _ i _ => s.size + 1 - (intOf i).toNat)
  case atStart => exact ⟨0, by omega, rfl, rfl, hE, by (repeat' (first | (with_reducible exact Below.refl _ _) | (with_reducible assumption) | (with_reducible refine Below.alloc ?_ ?_ _) | (with_reducible refine Below.drew ?_) | (with_reducible refine Below.setCell ?_ ?_ _) | (with_reducible exact Nat.le_refl _) | omega | ((repeat (first | rewrite [World.size_alloc] | rewrite [World.size_setCell] | rewrite [World.size_drew])); omega) | (simp; omega) | (simp; done)))⟩
  case round =>
    obtain ⟨k, hk, rfl, rfl, ho, hb⟩ := hrel
    have hbs := hb.size
    have hlen := HL.out k
    have hfr := HF.out k
    by_cases hlt : k ≤ s.size
    · have f0 : (0 : Int) ≤ ((cutS s c k).2 : Nat) := by omega
      have f1 : ((cutS s c k).2 : Int) ≤ (k : Int) := by omega
      have i1 : (k : Int) ≤ (s.size : Int) := by omega
      have hst := HY.out k
      have hno := HN.out k
      have hen := HE.out
      by_cases heq : k = s.size
      · subst heq
        have q1 : ((s.size : Int) == s.size) = true := by simp
        have HC : Hid (cutS s c (s.size + 1) = ((cutS s c s.size).1 ++ [s.extract (cutS s c s.size).2 s.size], s.size + 1)) := by
          show _ = _
          exact hen
        clear hst hno hen
        generalize cutS s c s.size = r at *
        obtain ⟨ys, fr⟩ := r
        simp only at *
        have hnw := one_new wr (.string (s.extract fr s.size)) 9
        go_wp2_with (at_builtin; refine held ?_)
        unfold Held
        refine app_str rfl (.tmp 26) (.tmp 31) rfl w.heap.size u5 ys (s.extract fr s.size) ⟨wr.heap.size, 0, none⟩ 1 (by rfl) (by rfl) (own_keep ho ((Below.refl _ _).alloc (Nat.le_refl _) _)) hnw (by omega) (by simp; omega) ?_
        intro v' w3 hown3 hgrow3
        go_wp2
        have hb3 := below_grown hgrow3 (B := w.heap.size) (by simp; omega) (own_block_ge ho)
        go_roundw
        case rel => exact ⟨s.size + 1, by omega, by go_num, by rw [HC.out]; go_num, by rw [HC.out]; exact hown3, (hb.alloc hbs _).trans hb3⟩
        case measure => simp [intOf] <;> omega
      · have q1 : ((k : Int) == s.size) = false := by simp; omega
        have hk2 : k < s.size := by omega
        by_cases hcc : s[k] = c
        · have q2 : ((s[k].toNat : Int) == c.toNat) = true := by simp [hcc]
          have HC : Hid (cutS s c (k + 1) = ((cutS s c k).1 ++ [s.extract (cutS s c k).2 k], k + 1)) := hst hk2 hcc
          clear hst hno hen hcc
          generalize cutS s c k = r at *
          obtain ⟨ys, fr⟩ := r
          simp only at *
          have hnw := one_new wr (.string (s.extract fr k)) 9
          go_wp2_with (at_builtin; refine held ?_)
          unfold Held
          refine app_str rfl (.tmp 26) (.tmp 31) rfl w.heap.size u5 ys (s.extract fr k) ⟨wr.heap.size, 0, none⟩ 1 (by rfl) (by rfl) (own_keep ho ((Below.refl _ _).alloc (Nat.le_refl _) _)) hnw (by omega) (by simp; omega) ?_
          intro v' w3 hown3 hgrow3
          go_wp2
          have hb3 := below_grown hgrow3 (B := w.heap.size) (by simp; omega) (own_block_ge ho)
          go_roundw
          case rel => exact ⟨k + 1, by omega, by go_num, by rw [HC.out]; go_num, by rw [HC.out]; exact hown3, (hb.alloc hbs _).trans hb3⟩
          case measure => simp [intOf] <;> omega
        · have q2 : ((s[k].toNat : Int) == c.toNat) = false := by
            simp only [beq_eq_false_iff_ne]
            intro e
            exact hcc (UInt8.toNat_inj.1 (by omega))
          have HC : Hid (cutS s c (k + 1) = cutS s c k) := hno hk2 hcc
          clear hst hno hen hcc
          go_wp2
          go_roundw
          case rel => exact ⟨k + 1, by omega, by go_num, by rw [HC.out], by rw [HC.out]; exact ho, hb⟩
          case measure => simp [intOf] <;> omega
    · have hk' : k = s.size + 1 := by omega
      have h3 := ho
      rw [hk'] at h3
      have H3 := Lib.hid h3
      clear h3 hk' ho
      go_wp2
      go_ret
      exact ⟨_, rfl, H3.out, hb⟩
end Go.Proofs.YtnhncbhhlbcieaaGreat
