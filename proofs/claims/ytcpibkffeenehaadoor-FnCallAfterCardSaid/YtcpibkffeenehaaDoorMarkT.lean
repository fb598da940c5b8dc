import Derived.Test.YtcpibkffeenehaaDoorMark
namespace Go.PM
open Go.RowKit
def tcells (ts : List ByteArray) : List Value := ts.map Value.string
theorem tcells_length (ts : List ByteArray) : (tcells ts).length = ts.length := by simp [tcells]
theorem tcells_append (a b : List ByteArray) : tcells (a ++ b) = tcells a ++ tcells b := by simp [tcells]
def RdT (w : World) (v : Value) (ts : List ByteArray) : Prop := Rd w 1 v ts.length (tcells ts)
theorem RdT.below {w w' : World} {v : Value} {ts : List ByteArray} (h : RdT w v ts) (hb : Below w.heap.size w w') : RdT w' v ts := Rd.below h hb
theorem RdT.open {w : World} {v : Value} {ts : List ByteArray} (h : RdT w v ts) : ∃ A cap, v = .slice A ts.length cap ∧ ts.length ≤ 9223372036854775807 ∧ ts.length ≤ cap ∧
    ∀ k (hk : k < ts.length), ∃ b off, A = some ⟨b, off, none⟩ ∧ b < w.heap.size ∧ w.cell? ⟨b, off + k, none⟩ = some (.string ts[k]) := by
  obtain ⟨A, cap, e, hc, hn, hl, hr⟩ := h
  refine ⟨A, cap, e, hn, hc, fun k hk => ?_⟩
  obtain ⟨b, off, eA, hb, hcell⟩ := hr (by omega)
  exact ⟨b, off, eA, hb, hcell _ _ (by unfold tcells; rw [List.getElem?_map, List.getElem?_eq_getElem hk]; rfl)⟩
/-- n marked texts, the first mark being number k -/
def tmarks : Nat → Nat → List ByteArray
  | 0, _ => []
  | n + 1, k => mT k :: tmarks n (k + 1)
theorem tmarks_length (n k : Nat) : (tmarks n k).length = n := by
  induction n generalizing k with
  | zero => rfl
  | succ n ih => simp [tmarks, ih]
theorem tmarks_at (n k i : Nat) (h : i < (tmarks n k).length) : (tmarks n k)[i] = mT (k + i) := by
  induction n generalizing k i with
  | zero => simp [tmarks] at h
  | succ n ih =>
    cases i with
    | zero => rfl
    | succ i =>
      simp only [tmarks, List.getElem_cons_succ]
      rw [ih]
      congr 1; omega
def tmix (ts : List ByteArray) (i k : Nat) : List ByteArray := tmarks i k ++ ts.drop i
theorem tmarks_snoc (i k : Nat) : tmarks (i + 1) k = tmarks i k ++ [mT (k + i)] := by
  induction i generalizing k with
  | zero => rfl
  | succ i ih =>
    rw [tmarks, ih (k + 1)]
    simp only [tmarks, List.cons_append]
    rw [show k + 1 + i = k + (i + 1) by omega]
theorem tmix_length (ts : List ByteArray) (i k : Nat) (h : i ≤ ts.length) : (tmix ts i k).length = ts.length := by
  simp [tmix, tmarks_length]; omega
theorem tmix_set (ts : List ByteArray) (i k : Nat) (h : i < ts.length) : (tcells (tmix ts i k)).set i (.string (mT (k + i))) = tcells (tmix ts (i + 1) k) := by
  have hl : (tcells (tmarks i k)).length = i := by rw [tcells_length, tmarks_length]
  unfold tmix
  rw [tmarks_snoc, List.drop_eq_getElem_cons h, tcells_append, tcells_append, tcells_append]
  rw [List.set_append_right _ _ (by omega), hl, Nat.sub_self]
  simp only [tcells, List.map_cons, List.map_nil, List.set_cons_zero, List.append_assoc, List.cons_append, List.nil_append]
end Go.PM
namespace Go.Proofs.YtcpibkffeenehaaDoor
open Go.RowKit Go.PM

end Go.Proofs.YtcpibkffeenehaaDoor
