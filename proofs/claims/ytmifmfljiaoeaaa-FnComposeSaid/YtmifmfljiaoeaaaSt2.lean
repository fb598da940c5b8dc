import Derived.Test.YtmifmfljiaoeaaaSt
import Derived.Test.YtmifmfljiaoeaaaM2
import Derived.Test.YtmifmfljiaoeaaaTail
import Derived.BigQuiet
import Derived.ChangeAlike
import Derived.RegionTactic
namespace Go.Proofs.Ytmifmfljiaoeaaa
open Go.RowKit Go.PM

theorem read_c (f : Nat → UInt8) (a : ByteArray) (h : okC a = true) (w : World) :
    Calls Try.prog 90 #[stV f, .string a] w fun e w' => e = .returned (.int .u8 (rdS f a).toNat) ∧ Below w.heap.size w w' := by
  rcases Bool.eq_false_or_eq_true (isC a) with hc | hc
  · have hlt := cidx_lt hc
    have hr := rdS_cell (f := f) hc
    have hci := fun W => cellOf_yes a hc W
    have hA := At.new w 62 (stC f)
    have hpc := (hA.cell _).trans (stC_at f _ hlt)
    have HR := Lib.hid hr
    have i0 : (0 : Int) ≤ (cidx a : Int) := by omega
    have i1 : (cidx a : Int) < 11 := by omega
    clear h hc hr
    generalize cidx a = k at *
    go_enter Try.func90, Try.ntmps90
    go_wp2_with (go_at_call 106; refine (hci _).mono ?_; rintro e w' ⟨rfl, rfl⟩)
    go_ret
    exact ⟨by rw [HR.out]; rfl, by (repeat' (first | (with_reducible exact Below.refl _ _) | (with_reducible assumption) | (with_reducible refine Below.alloc ?_ ?_ _) | (with_reducible refine Below.drew ?_) | (with_reducible refine Below.setCell ?_ ?_ _) | (with_reducible exact Nat.le_refl _) | omega | ((repeat (first | rewrite [World.size_alloc] | rewrite [World.size_setCell] | rewrite [World.size_drew])); omega) | (simp; omega) | (simp; done)))⟩
  · have hd : isD a = true := by unfold okC at h; rw [hc, Bool.false_or] at h; exact h
    have hr := rdS_digit (f := f) hc
    have hsz := isD_size hd
    have hci := fun W => cellOf_no a hc W
    obtain ⟨c, rfl⟩ := one_of_size hsz
    have HR : Hid (rdS f ⟨#[c]⟩ = c) := hr
    clear h hc hr hd hsz
    go_enter Try.func90, Try.ntmps90
    go_wp2_with (go_at_call 106; refine (hci _).mono ?_; rintro e w' ⟨rfl, rfl⟩)
    go_ret
    exact ⟨by rw [HR.out]; rfl, by (repeat' (first | (with_reducible exact Below.refl _ _) | (with_reducible assumption) | (with_reducible refine Below.alloc ?_ ?_ _) | (with_reducible refine Below.drew ?_) | (with_reducible refine Below.setCell ?_ ?_ _) | (with_reducible exact Nat.le_refl _) | omega | ((repeat (first | rewrite [World.size_alloc] | rewrite [World.size_setCell] | rewrite [World.size_drew])); omega) | (simp; omega) | (simp; done)))⟩
theorem text_c (f : Nat → UInt8) (w : World) :
    Calls Try.prog 55 #[stV f] w fun e w' => e = .returned (.string (stB f)) ∧ Below w.heap.size w w' := by
  have hA := At.new w 62 (stC f)
  have hcv : ∀ W, At W w.heap.size 62 (stC f) → (convert 22 9 (.slice (some ⟨w.heap.size, 0, none⟩) 11 11)).run Try.prog W = .ok (.string (stB f)) W := fun W hW => by
    rw [run_convert_bytes_string _ _ _ _ _ _ _ Try.underlying22 Try.underlying5 Try.underlying9]
    have hl : (loadCells ⟨w.heap.size, 0, none⟩ 11).run Try.prog W = .ok ([((f 0).toNat : Int), (f 1).toNat, (f 2).toNat, (f 3).toNat, (f 4).toNat, (f 5).toNat, (f 6).toNat, (f 7).toNat, (f 8).toNat, (f 9).toNat, (f 10).toNat].map (Value.int .u8)).toArray W :=
      run_loadCells_list (P := Try.prog) W ⟨w.heap.size, 0, none⟩ (stC f).toList (fun j v hj => by
        have hadd : (⟨w.heap.size, 0, none⟩ : Addr).add j = ⟨w.heap.size, j, none⟩ := by unfold Addr.add; split <;> simp_all
        rw [hadd, hW.cell]
        simpa using hj)
    rw [run_bytesToString (ns := [((f 0).toNat : Int), (f 1).toNat, (f 2).toNat, (f 3).toNat, (f 4).toNat, (f 5).toNat, (f 6).toNat, (f 7).toNat, (f 8).toNat, (f 9).toNat, (f 10).toNat]) _ _ _ _ hl]
    simp [stB]
    rfl
  have hcv1 := hcv _ hA
  clear hcv
  generalize stB f = t at *
  go_enter Try.func55, Try.ntmps55
  go_wp2
  go_ret
  exact ⟨rfl, by (repeat' (first | (with_reducible exact Below.refl _ _) | (with_reducible assumption) | (with_reducible refine Below.alloc ?_ ?_ _) | (with_reducible refine Below.drew ?_) | (with_reducible refine Below.setCell ?_ ?_ _) | (with_reducible exact Nat.le_refl _) | omega | ((repeat (first | rewrite [World.size_alloc] | rewrite [World.size_setCell] | rewrite [World.size_drew])); omega) | (simp; omega) | (simp; done)))⟩
/-- a whole array is read in a quiet region: the step -/
theorem row_step {P : Program} {ops : Array Oper} {C : World → Prop} {Q : Act → Prop} {a : Act} {o : Oper} {rest : List Oper} (hw : Region.wanted o (yielded ops a.tmps) = true) (ty : TypeId) (x : Operand) (ho : o.op = .load ty x) (b : Nat) (t : TypeId) (cs : Array Value)
    (hx : a.eval x = .pointer (some ⟨b, 0, none⟩)) (hC : ∀ W, C W → At W b t cs) (k : Nat) (e : TypeId) (hu : P.underlying ty = some (.array k e)) (hi : (P.info? ty).map (·.size) = some cs.size) (h : wpQuiet P ops C Q rest (a.put o.dst (.agg cs))) : wpQuiet P ops C Q (o :: rest) a :=
  BigFrame.wpQuiet_want hw fun _ hK => quiet_row ty x ho b t cs hx hC k e hu hi (hK _ h)

end Go.Proofs.Ytmifmfljiaoeaaa
