import Derived.Test.YtinggcjjdgibbabDoorFmtS
import Derived.Test.YtinggcjjdgibbabDoorTie
import Derived.Test.YtinggcjjdgibbabDoorCards
import Derived.Test.YtinggcjjdgibbabDoorOpen
import Derived.ChangeSame
import Derived.ChangeVars
import Derived.JoinedOf
import Derived.LaidLaws
import Derived.LaidHandle
import Derived.SevenTiedAt
namespace Go.Proofs.YtinggcjjdgibbabDoor
open Go.RowKit Go.PM Go.ChangeShapes Go.WideShapes
theorem gSigns : Tryd.prog.globalNamed "loop.example/parallelmoves/impl.stepSigns" = some 0 := by kernel_rfl
theorem gSignsType : (Tryd.prog.globals[0]?).map (·.type) = some 88 := by kernel_rfl
theorem cellsSigns : Tryd.prog.cellsOf 88 = 2 := by kernel_rfl
theorem cellsStr1 : Tryd.prog.cellsOf 9 = 1 := by kernel_rfl
abbrev laidL : List (String × DataW Unit) := [("loop.example/parallelmoves/impl.stepSigns", Rows.laid_loop_example_parallelmoves_impl_stepSigns)]
def signCells : Array Value := #[.string ⟨#[61]⟩, .string ⟨#[126]⟩]
theorem bytes_eq {s : ByteArray} {l : List UInt8} (h : s.data.toList = l) : s = ⟨l.toArray⟩ := by
  subst h; simp
theorem cells_of_signs {H : Type} {enc : TypeId × Value → H} {W : World} {base : Nat} {sp : Nat → Bool} {held : Bool} {fuel : Nat} {cs : Array Value} {p : List MemPlace}
    (hd : DataW.trod enc Tryd.prog W base sp held fuel 88 cs.toList = some (.agg [.lit (.string [61]), .lit (.string [126])], p)) : cs = signCells := by
  obtain ⟨l⟩ := cs
  cases fuel with
  | zero => simp [DataW.trod] at hd
  | succ fuel =>
    simp only [DataW.trod, Tryd.underlying88, cellsSigns, cellsStr1] at hd
    split at hd
    · rename_i hl
      obtain ⟨c0, c1, rfl⟩ : ∃ c0 c1, l = [c0, c1] := by
        match l, hl with
        | [a, b], _ => exact ⟨a, b, rfl⟩
      have e : List.range 2 = [0, 1] := rfl
      rw [e] at hd
      simp only [Option.map_eq_some_iff, List.mapM_cons, List.mapM_nil, Option.bind_eq_bind, Option.bind_eq_some_iff, Option.pure_def, Option.some.injEq] at hd
      obtain ⟨xs, ⟨y0, h0, _, ⟨y1, h1, _, rfl, rfl⟩, rfl⟩, hx⟩ := hd
      obtain ⟨s0, e0, rfl, _⟩ := DataW.trod_string Tryd.underlying9 h0
      obtain ⟨s1, e1, rfl, _⟩ := DataW.trod_string Tryd.underlying9 h1
      simp at e0 e1 hx
      obtain ⟨⟨hx0, hx1⟩, _⟩ := hx
      subst e0; subst e1
      rw [bytes_eq hx0, bytes_eq hx1]; rfl
    · cases hd
theorem var_of_laid {W : World} (h : laidMetH Tryd.prog laidL W) : W.var? Tryd.prog "loop.example/parallelmoves/impl.stepSigns" = some signCells := by
  have h' : laidMet Tryd.prog laidL W := h
  obtain ⟨ps, ⟨g, t, cs, fuel, p, q, hg, ht, hvar, hd, _, _⟩, _⟩ := h'
  obtain rfl := Option.some.inj (gSigns.symm.trans hg)
  obtain rfl := Option.some.inj (gSignsType.symm.trans ht)
  rw [hvar]
  congr 1
  exact cells_of_signs hd
theorem sg_of_var {W : World} (h : W.var? Tryd.prog "loop.example/parallelmoves/impl.stepSigns" = some signCells) : Sg W := by
  have h0 : W.cell? ⟨0, 0, none⟩ = some (.string ⟨#[61]⟩) := World.var?_cell gSigns h 0
  have h1 : W.cell? ⟨0, 1, none⟩ = some (.string ⟨#[126]⟩) := World.var?_cell gSigns h 1
  refine ⟨h0, h1, ?_⟩
  refine Classical.byContradiction fun hn => ?_
  unfold World.cell? at h0
  rw [Array.getElem?_eq_none (by simpa using hn)] at h0
  cases h0
noncomputable def laidWorld (os : Os) : World :=
  let w0 := World.holding Tryd.prog os ⟨#[], #[], []⟩
  { w0 with heap := w0.heap.modify 0 fun
      | .cells _ t frozen => .cells signCells t frozen
      | o => o }
set_option maxRecDepth 100000 in
theorem reads_signs {H : Type} (enc : TypeId × Value → H) (W : World) (sp : Nat → Bool) : DataW.trod enc Tryd.prog W 0 sp true 3 88 signCells.toList = some (.agg [.lit (.string [61]), .lit (.string [126])], []) := by kernel_rfl
set_option maxRecDepth 100000 in
theorem laidWorld_row (os : Os) (args : Array Value) : ((laidWorld os).forCall (fun _ _ => 0) ⟨#[], args, []⟩).memory.heap[0]? = some (.cells signCells 88 (0, 0)) := by kernel_rfl
set_option maxRecDepth 100000 in
theorem laidWorld_met (os : Os) (args : Array Value) : laidMetH Tryd.prog laidL ((laidWorld os).forCall (fun _ _ => 0) ⟨#[], args, []⟩).memory := by
  show laidMet Tryd.prog laidL _
  exact ⟨_, ⟨0, 88, signCells, 8, [], [], by kernel_rfl, by kernel_rfl, by kernel_rfl, by kernel_rfl, rfl, rfl⟩, by decide, fun b off h => by
    have h' : MemPlace.cell b off ∈ [MemPlace.cell 0 0, .cell 0 1] := h
    have hb : b = 0 := by
      simp at h'
      omega
    subst hb
    refine ⟨⟨_, _, laidWorld_row os args⟩, fun u v hc => ?_⟩
    simp only [World.cell?, laidWorld_row os args] at hc
    simp at h'
    rcases h' with rfl | rfl <;> simp [signCells] at hc⟩
set_option maxRecDepth 100000 in
/-- what the row's condition on the table gives, and that the table reads behind the call as before -/
theorem signs_open {H : Type} {enc : TypeId × Value → H} {W : World} {gs : List (DataW H)} {q : List MemPlace} (hL : laidMetH Tryd.prog laidL W) (hV : DataW.TrodVars enc Tryd.prog W (fun _ => true) ["loop.example/parallelmoves/impl.stepSigns"] gs q) :
    ∃ (g : DataW H) (q1 : List MemPlace), gs = [g] ∧ Sg W ∧ ∀ (W' : World), Below W.heap.size W W' → ∀ sp : Nat → Bool, DataW.TrodVars enc Tryd.prog W' sp ["loop.example/parallelmoves/impl.stepSigns"] [g] q1 := by
  obtain ⟨g, t, cs, fuel, d, p', rfl, hg, ht, hvar, hd, rfl⟩ := trodVars_one hV
  obtain rfl := Option.some.inj (gSigns.symm.trans hg)
  obtain rfl := Option.some.inj (gSignsType.symm.trans ht)
  have hv := var_of_laid hL
  obtain rfl : cs = signCells := Option.some.inj (hvar.symm.trans hv)
  obtain ⟨rfl, rfl⟩ := DataW.Trod.unique (v := .agg signCells) ⟨fuel, hd⟩ ⟨3, reads_signs enc W _⟩
  have hs := sg_of_var hv
  refine ⟨_, _, rfl, hs, fun W' hb sp => trodVars_mk1 gSigns gSignsType (cs := signCells) (fuel := 3) ?_ (reads_signs enc W' sp)⟩
  have hh : W'.heap[0]? = W.heap[0]? := hb.block _ hs.lt
  rw [← hv]
  unfold World.var?
  rw [gSigns]
  simp only [Option.bind_some, hh]
end Go.Proofs.YtinggcjjdgibbabDoor
