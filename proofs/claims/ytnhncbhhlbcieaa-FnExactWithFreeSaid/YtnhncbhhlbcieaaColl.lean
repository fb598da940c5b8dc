import Derived.Test.YtnhncbhhlbcieaaRangeR
import Derived.Test.YtnhncbhhlbcieaaList
import Derived.Test.YtnhncbhhlbcieaaP2
namespace Go.PM
open Go.RowKit
/-- a move as a step -/
def stpM (m : Mv) : St := (0, m.1, m.2)
def stL (ms : List Mv) : List St := ms.map stpM
theorem three_new (w : World) (a b c : Value) (t : TypeId) : ∀ j u, [a, b, c][j]? = some u → (w.alloc (.cells #[a, b, c] t)).cell? ((⟨w.heap.size, 0, none⟩ : Addr).add j) = some u := by
  intro j u hj
  match j, hj with
  | 0, hj => simp at hj; subst hj; simp [Addr.add]
  | 1, hj => simp at hj; subst hj; simp [Addr.add]
  | 2, hj => simp at hj; subst hj; simp [Addr.add]
theorem wpListIn_lies {F : Fence} {k : Nat} {P : Program} {w : World} {ops : Array Oper} {rest : List Oper} {o : Oper} {a : Act} {Q : Exit → Act → World → Prop} (hgd : o.guard = none) (s x : Operand) (t : TypeId)
    (ho : o.op = .call { callee := .builtin .append, args := #[s, x], argTypes := #[t, t] })
    (base : Nat) (e : TypeId) (i : TypeInfo) (z : Value) (size bytes : Nat) (ht : P.underlying t = some (.slice e)) (hi : P.info? e = some i) (hz : i.zero = some z)
    (hsize : i.size = size) (hby : i.bytes = bytes) (hzs : z.cells.size = size) (hsz : 0 < size)
    (v : Value) (n : Nat) (xs : List Value) (hs : a.eval s = v) (hown : w.ownsRow base e size v n xs)
    (ad : Addr) (m c : Nat) (news : List Value) (hx : a.eval x = .slice (some ad) m c) (hl : news.length = m * size) (hnews : ∀ j u, news[j]? = some u → w.cell? (ad.add j) = some u) (h1 : ∀ u ∈ news, u.oneCell' = true)
    (hm : 0 < m) (h63 : n + m ≤ maxLen) (hbytes : (n + m) * bytes ≤ 140737488355328) (hbase : base ≤ w.heap.size)
    (h : ∀ g cap w', w'.ownsRow base e size (.slice (some ⟨g, 0, none⟩) (n + m) cap) (n + m) (xs ++ news) → w.grownBy w' v.ownBlock → (v.ownBlock = some g ∨ g = w.heap.size) → g < w'.heap.size → wpListIn F k P ops Q rest (a.put o.dst (.slice (some ⟨g, 0, none⟩) (n + m) cap)) w') : wpListIn F k P ops Q (o :: rest) a w := by
  refine wpListIn_plain hgd fun K hK' => ?_
  obtain ⟨g, cap, w', hr, h2, h3, h4, h5⟩ := run_append_lies (P := P) w t o.type base e i z size bytes ht hi hz hsize hby hzs hsz v n xs hown ad m c news hl hnews h1 hm h63 hbytes hbase _ rfl
  unfold Oper.wpIn
  refine ⟨?_, ?_⟩
  · simp [Oper.about, ho, resolve, Target.leads, Sem.run_pure]
  · rw [Oper.semAt_plain F _ _ (by rw [ho]; intro c hc'; cases hc')]
    simp [execOp, ho, resolve, invoke, builtin, hs, hx, hr, Result.andThen]
    exact hK' _ _ (h g cap w' h2 h3 h4 h5)
/-- a row of one's own, and where it lies -/
def RowAt (A : World) (bx : Nat) (bt base : Nat) (e : TypeId) (size : Nat) (r : Option Nat) (n : Nat) (cs : List Value) (o : Value) : Prop :=
  At A bx bt #[o] ∧ A.ownsRow base e size o n cs ∧ o.ownBlock = r
theorem RowAt.turn {A A' : World} {bx bt base : Nat} {e : TypeId} {size : Nat} {r : Option Nat} {n : Nat} {cs : List Value} {o : Value} {row : Option Nat} (h : RowAt A bx bt base e size r n cs o) (hg : A.grownBy A' row) (hr : ∀ q, row = some q → ∃ ob : Obj, A.heap[q]? = some ob ∧ ob.isCells = false) : RowAt A' bx bt base e size r n cs o :=
  ⟨h.1.turn hg hr, own_turn h.2.1 hg hr, h.2.2⟩
theorem RowAt.lives {A : World} {bx bt base : Nat} {e : TypeId} {size : Nat} {r : Option Nat} {n : Nat} {cs : List Value} {o : Value} (h : RowAt A bx bt base e size r n cs o) : ∀ g, r = some g → ∃ ob : Obj, A.heap[g]? = some ob ∧ ob.isCells = true := by
  intro g hg
  obtain ⟨_, h2, h3⟩ := h
  rcases h2.2 with ⟨rfl, _⟩ | ⟨g', cap, cur, rfl, _, hh, _⟩
  · rw [hg] at h3; cases h3
  · rw [hg] at h3
    cases h3
    exact ⟨_, hh, rfl⟩
end Go.PM
namespace Go.Proofs.Ytnhncbhhlbcieaa
open Go.RowKit Go.PM
attribute [local go_sem] Oper.semAt_some

end Go.Proofs.Ytnhncbhhlbcieaa
