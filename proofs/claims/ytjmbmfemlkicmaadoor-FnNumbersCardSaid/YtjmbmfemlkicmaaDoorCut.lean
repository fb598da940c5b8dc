import Derived.Test.YtjmbmfemlkicmaaDoorApp
import Derived.Test.YtjmbmfemlkicmaaDoorHold
import Derived.Test.YtjmbmfemlkicmaaDoorHar
namespace Go.PM
open Go.RowKit
/-- the pieces that end before place i, and where the open one begins -/
def cutS (s : ByteArray) (c : UInt8) : Nat → List ByteArray × Nat
  | 0 => ([], 0)
  | i + 1 => if ∀ h : i < s.size, s[i] = c then ((cutS s c i).1 ++ [s.extract (cutS s c i).2 i], i + 1) else cutS s c i
def cutP (s : ByteArray) (c : UInt8) : List ByteArray := (cutS s c (s.size + 1)).1
theorem cutS_len (s : ByteArray) (c : UInt8) (i : Nat) : (cutS s c i).1.length ≤ i := by
  induction i with
  | zero => exact Nat.le_refl _
  | succ i ih =>
    rw [cutS]
    split
    · simp; omega
    · omega
theorem cutS_from (s : ByteArray) (c : UInt8) (i : Nat) : (cutS s c i).2 ≤ i := by
  induction i with
  | zero => exact Nat.le_refl _
  | succ i ih =>
    rw [cutS]
    split
    · exact Nat.le_refl _
    · omega
theorem cutS_end (s : ByteArray) (c : UInt8) : cutS s c (s.size + 1) = ((cutS s c s.size).1 ++ [s.extract (cutS s c s.size).2 s.size], s.size + 1) := by
  rw [cutS, if_pos]; intro h; omega
theorem cutS_yes (s : ByteArray) (c : UInt8) (i : Nat) (h : i < s.size) (hc : s[i] = c) : cutS s c (i + 1) = ((cutS s c i).1 ++ [s.extract (cutS s c i).2 i], i + 1) := by
  rw [cutS, if_pos]; intro _; exact hc
theorem cutS_no (s : ByteArray) (c : UInt8) (i : Nat) (h : i < s.size) (hc : ¬ s[i] = c) : cutS s c (i + 1) = cutS s c i := by
  rw [cutS, if_neg]; intro hh; exact hc (hh h)
theorem one_new (w : World) (a : Value) (t : TypeId) : ∀ j u, [a][j]? = some u → (w.alloc (.cells #[a] t)).cell? ((⟨w.heap.size, 0, none⟩ : Addr).add j) = some u := by
  intro j u hj
  match j, hj with
  | 0, hj => simp at hj; subst hj; simp [Addr.add]
end Go.PM
namespace Go.Proofs.YtjmbmfemlkicmaaDoor
open Go.RowKit Go.PM
theorem infoStr : (Tryd.prog.info? 9).map (fun i => (i.zero, i.size, i.bytes)) = some (some (.string ⟨#[]⟩), 1, 16) := by kernel_rfl
theorem app_str {ops : Array Oper} {rest : List Oper} {o : Oper} {a : Act} {Q : Exit → Act → World → Prop} {w : World} (hgd : o.guard = none) (s x : Operand)
    (ho : o.op = .call { callee := .builtin .append, args := #[s, x], argTypes := #[34, 34] })
    (base : Nat) (v : Value) (ys : List ByteArray) (m : ByteArray) (ad : Addr) (c : Nat) (hs : a.eval s = v) (hx : a.eval x = .slice (some ad) 1 c)
    (hown : w.ownsRow base 9 1 v ys.length (ys.map Value.string)) (hnew : ∀ j u, [Value.string m][j]? = some u → w.cell? (ad.add j) = some u)
    (hlen : ys.length ≤ 1048576) (hbase : base ≤ w.heap.size)
    (h : ∀ v' w', w'.ownsRow base 9 1 v' (ys ++ [m]).length ((ys ++ [m]).map Value.string) → w.grownBy w' v.ownBlock → wpList Tryd.prog ops Q rest (a.put o.dst v') w') : wpList Tryd.prog ops Q (o :: rest) a w := by
  obtain ⟨i0, hi0, hz0, hz1, hz2⟩ := info_parts infoStr
  refine wpList_append_own w hgd s x _ ho base 9 i0 _ 1 16 Tryd.underlying34 hi0 hz0 hz1 hz2 rfl (by omega) v ys.length (ys.map Value.string) hs hown ad 1 c [Value.string m] hx rfl hnew
    (by intro u hu; simp at hu; subst hu; rfl) (by simp only [maxLen]; omega) (by omega) hbase ?_
  intro v' w' h2 h3 _
  refine h v' w' ?_ h3
  rw [List.map_append, List.length_append]
  simpa using h2

end Go.Proofs.YtjmbmfemlkicmaaDoor
