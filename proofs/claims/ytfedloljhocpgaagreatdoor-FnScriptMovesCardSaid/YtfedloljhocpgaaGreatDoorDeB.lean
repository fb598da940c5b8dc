import Derived.Test.YtfedloljhocpgaaGreatDoorDeA
import Derived.Laws.EntriesVeiled
import Derived.Great.BuildSlice
namespace Go.PG
open Go.RowKit Go.PM
structure Mk (w0 : World) (l : List (ByteArray × Value)) (os : List Obj) (w : World) : Prop where
  below : Below w0.heap.size w0 w
  map : MapAt w w0.heap.size l
  size : w.heap.size = w0.heap.size + 1 + os.length
  objs : ∀ j o, os[j]? = some o → w.heap[w0.heap.size + 1 + j]? = some o
theorem Mk.start (w : World) : Mk w [] [] (w.alloc (.map #[] 0)) :=
  ⟨(Below.refl _ _).alloc (Nat.le_refl _) _, heap_alloc_new w _, by simp, fun j o h => by simp at h⟩
theorem Mk.put {w0 w w' : World} {l l' : List (ByteArray × Value)} {os : List Obj} (h : Mk w0 l os w) (hm : MapAt w' w0.heap.size l') (hs : w'.heap.size = w.heap.size) (hg : w.grownBy w' (some w0.heap.size)) : Mk w0 l' os w' := by
  have h1 := h.below.size
  refine ⟨h.below.trans (below_grown hg h1 (fun g e => by cases e; exact Nat.le_refl _)), hm, hs.trans h.size, fun j o hj => ?_⟩
  have hl := (List.getElem?_eq_some_iff.1 hj).1
  have h2 := h.size
  rw [hg.block _ (by omega) (fun e => by have := Option.some.inj e; omega)]
  exact h.objs j o hj
theorem Mk.new {w0 w : World} {l : List (ByteArray × Value)} {os : List Obj} (h : Mk w0 l os w) (o : Obj) : Mk w0 l (os ++ [o]) (w.alloc o) := by
  have h1 := h.below.size
  have h2 := h.size
  refine ⟨h.below.alloc h1 _, h.map.keep ((Below.refl _ _).alloc (Nat.le_refl _) _), by simp; omega, fun j o' hj => ?_⟩
  by_cases hl : j < os.length
  · rw [List.getElem?_append_left hl] at hj
    have := h.objs j o' hj
    exact (((Below.refl w.heap.size w).alloc (Nat.le_refl _) o).block _ (by omega)).trans this
  · have hj' : j = os.length := by have := (List.getElem?_eq_some_iff.1 hj).1; simp at this; omega
    subst hj'
    simp at hj
    subst hj
    rw [← h.size]
    exact heap_alloc_new w o
theorem Mk.keep {w0 w w' : World} {l : List (ByteArray × Value)} {os : List Obj} (h : Mk w0 l os w) (j : Nat) {t : TypeId} {cs : Array Value} (hj : os[j]? = some (.cells cs t)) : At w (w0.heap.size + 1 + j) t cs := h.objs j _ hj
end Go.PG
namespace Go.Proofs.YtfedloljhocpgaaGreatDoor
open Go.RowKit Go.PM Go.PG

theorem movesBy_c (f n : Nat) (w : World) (hn : w.heap.size = n) :
    Calls Tryz.prog 194 #[fnV f] w fun e w' => e = .returned (cloV 267 n) ∧ w' = w.alloc (.cells #[fnV f] 30) := by
  subst hn
  unfold fnV cloV
  go_enter Tryz.func194, Tryz.ntmps194
  go_wp2
  go_ret
  exact ⟨rfl, rfl⟩
theorem stepsBy_c (f n : Nat) (w : World) (hn : w.heap.size = n) :
    Calls Tryz.prog 198 #[fnV f] w fun e w' => e = .returned (cloV 268 n) ∧ w' = w.alloc (.cells #[fnV f] 27) := by
  subst hn
  unfold fnV cloV
  go_enter Tryz.func198, Tryz.ntmps198
  go_wp2
  go_ret
  exact ⟨rfl, rfl⟩
theorem truthBy_c (f n : Nat) (w : World) (hn : w.heap.size = n) :
    Calls Tryz.prog 206 #[fnV f] w fun e w' => e = .returned (cloV 274 n) ∧ w' = w.alloc (.cells #[fnV f] 62) := by
  subst hn
  unfold fnV cloV
  go_enter Tryz.func206, Tryz.ntmps206
  go_wp2
  go_ret
  exact ⟨rfl, rfl⟩
theorem textsBy_c (f n : Nat) (w : World) (hn : w.heap.size = n) :
    Calls Tryz.prog 209 #[fnV f] w fun e w' => e = .returned (cloV 277 n) ∧ w' = w.alloc (.cells #[fnV f] 33) := by
  subst hn
  unfold fnV cloV
  go_enter Tryz.func209, Tryz.ntmps209
  go_wp2
  go_ret
  exact ⟨rfl, rfl⟩
theorem textBy_c (f n : Nat) (w : World) (hn : w.heap.size = n) :
    Calls Tryz.prog 210 #[fnV f] w fun e w' => e = .returned (cloV 279 n) ∧ w' = w.alloc (.cells #[fnV f] 246) := by
  subst hn
  unfold fnV cloV
  go_enter Tryz.func210, Tryz.ntmps210
  go_wp2
  go_ret
  exact ⟨rfl, rfl⟩
theorem numbersBy_c (k j c n : Nat) (w : World) (hn : w.heap.size = n) :
    Calls Tryz.prog 218 #[.slice (some ⟨k, 0, none⟩) j c] w fun e w' => e = .returned (cloV 284 n) ∧ w' = w.alloc (.cells #[.slice (some ⟨k, 0, none⟩) j c] 288) := by
  subst hn
  unfold cloV
  go_enter Tryz.func218, Tryz.ntmps218
  go_wp2
  go_ret
  exact ⟨rfl, rfl⟩
theorem movesBy_m (f : Nat) {w0 w : World} {l : List (ByteArray × Value)} {os : List Obj} (hS : Mk w0 l os w) :
    Calls Tryz.prog 194 #[fnV f] w fun e w' => e = .returned (cloV 267 (w0.heap.size + 1 + os.length)) ∧ Mk w0 l (os ++ [.cells #[fnV f] 30]) w' :=
  (movesBy_c f _ w hS.size).mono fun _ _ h => ⟨h.1, by rw [h.2]; exact hS.new _⟩
theorem stepsBy_m (f : Nat) {w0 w : World} {l : List (ByteArray × Value)} {os : List Obj} (hS : Mk w0 l os w) :
    Calls Tryz.prog 198 #[fnV f] w fun e w' => e = .returned (cloV 268 (w0.heap.size + 1 + os.length)) ∧ Mk w0 l (os ++ [.cells #[fnV f] 27]) w' :=
  (stepsBy_c f _ w hS.size).mono fun _ _ h => ⟨h.1, by rw [h.2]; exact hS.new _⟩
theorem truthBy_m (f : Nat) {w0 w : World} {l : List (ByteArray × Value)} {os : List Obj} (hS : Mk w0 l os w) :
    Calls Tryz.prog 206 #[fnV f] w fun e w' => e = .returned (cloV 274 (w0.heap.size + 1 + os.length)) ∧ Mk w0 l (os ++ [.cells #[fnV f] 62]) w' :=
  (truthBy_c f _ w hS.size).mono fun _ _ h => ⟨h.1, by rw [h.2]; exact hS.new _⟩
theorem textsBy_m (f : Nat) {w0 w : World} {l : List (ByteArray × Value)} {os : List Obj} (hS : Mk w0 l os w) :
    Calls Tryz.prog 209 #[fnV f] w fun e w' => e = .returned (cloV 277 (w0.heap.size + 1 + os.length)) ∧ Mk w0 l (os ++ [.cells #[fnV f] 33]) w' :=
  (textsBy_c f _ w hS.size).mono fun _ _ h => ⟨h.1, by rw [h.2]; exact hS.new _⟩
theorem textBy_m (f : Nat) {w0 w : World} {l : List (ByteArray × Value)} {os : List Obj} (hS : Mk w0 l os w) :
    Calls Tryz.prog 210 #[fnV f] w fun e w' => e = .returned (cloV 279 (w0.heap.size + 1 + os.length)) ∧ Mk w0 l (os ++ [.cells #[fnV f] 246]) w' :=
  (textBy_c f _ w hS.size).mono fun _ _ h => ⟨h.1, by rw [h.2]; exact hS.new _⟩
theorem numbersBy_m (j c : Nat) (o : Obj) {w0 w : World} {l : List (ByteArray × Value)} {os : List Obj} (hS : Mk w0 l os w) :
    Calls Tryz.prog 218 #[.slice (some ⟨w.heap.size, 0, none⟩) j c] (w.alloc o) fun e w' => e = .returned (cloV 284 (w0.heap.size + 1 + os.length + 1)) ∧ Mk w0 l (os ++ [o] ++ [.cells #[.slice (some ⟨w0.heap.size + 1 + os.length, 0, none⟩) j c] 288]) w' := by
  have h1 := hS.new o
  rw [hS.size]
  exact (numbersBy_c _ j c _ (w.alloc o) (by rw [World.size_alloc, hS.size])).mono fun _ _ h => ⟨h.1, by rw [h.2]; exact h1.new _⟩
def tabA (N : Nat) : List (ByteArray × Value) :=
  [(⟨#[109, 111, 118, 101, 115]⟩, fnV 191),
   (⟨#[101, 102, 102, 101, 99, 116]⟩, fnV 193),
   (⟨#[98, 117, 115, 121]⟩, cloV 267 (N + 1)),
   (⟨#[115, 111, 114, 116]⟩, cloV 267 (N + 1 + 1)),
   (⟨#[117, 110, 100, 111]⟩, cloV 267 (N + 1 + 2)),
   (⟨#[115, 116, 101, 112, 115]⟩, fnV 196),
   (⟨#[111, 114, 100, 101, 114]⟩, cloV 268 (N + 1 + 3)),
   (⟨#[102, 101, 119, 101, 115, 116]⟩, cloV 268 (N + 1 + 4)),
   (⟨#[115, 119, 97, 112]⟩, cloV 268 (N + 1 + 5)),
   (⟨#[110, 101, 97, 114]⟩, cloV 268 (N + 1 + 6)),
   (⟨#[100, 105, 114, 101, 99, 116]⟩, cloV 268 (N + 1 + 7)),
   (⟨#[114, 105, 103, 104, 116]⟩, fnV 201),
   (⟨#[105, 115, 100, 105, 114, 101, 99, 116]⟩, fnV 204),
   (⟨#[115, 112, 97, 114, 101]⟩, cloV 274 (N + 1 + 8)),
   (⟨#[115, 116, 105, 108, 108]⟩, cloV 274 (N + 1 + 9)),
   (⟨#[114, 105, 110, 103, 115]⟩, cloV 277 (N + 1 + 10)),
   (⟨#[99, 108, 111, 115, 101, 100]⟩, cloV 277 (N + 1 + 11)),
   (⟨#[119, 104, 101, 101, 108, 115]⟩, cloV 277 (N + 1 + 12)),
   (⟨#[108, 101, 97, 118, 101, 115]⟩, cloV 279 (N + 1 + 13)),
   (⟨#[112, 108, 97, 99, 101, 115]⟩, cloV 279 (N + 1 + 14)),
   (⟨#[108, 111, 115, 116]⟩, cloV 279 (N + 1 + 15)),
   (⟨#[114, 101, 103, 105, 115, 116, 101, 114, 115]⟩, cloV 279 (N + 1 + 16)),
   (⟨#[116, 111, 117, 99, 104, 101, 100]⟩, fnV 215),
   (⟨#[116, 114, 97, 102, 102, 105, 99]⟩, fnV 217),
   (⟨#[99, 111, 117, 110, 116, 115]⟩, cloV 284 (N + 1 + 17 + 1)),
   (⟨#[115, 101, 97, 114, 99, 104, 101, 100]⟩, cloV 284 (N + 1 + 19 + 1)),
   (⟨#[115, 101, 116, 116, 108, 101, 115]⟩, cloV 284 (N + 1 + 21 + 1)),
   (⟨#[97, 103, 97, 105, 110]⟩, cloV 284 (N + 1 + 23 + 1))]
def objA (N : Nat) : List Obj :=
  [.cells #[fnV 65] 30,
   .cells #[fnV 195] 30,
   .cells #[fnV 11] 30,
   .cells #[fnV 6] 27,
   .cells #[fnV 199] 27,
   .cells #[fnV 9] 27,
   .cells #[fnV 200] 27,
   .cells #[fnV 10] 27,
   .cells #[fnV 207] 62,
   .cells #[fnV 208] 62,
   .cells #[fnV 12] 33,
   .cells #[fnV 13] 33,
   .cells #[fnV 14] 33,
   .cells #[fnV 211] 246,
   .cells #[fnV 212] 246,
   .cells #[fnV 213] 246,
   .cells #[fnV 214] 246,
   .cells #[fnV 20, fnV 21, fnV 22, fnV 23] 39,
   .cells #[.slice (some ⟨N + 1 + 17, 0, none⟩) 4 4] 288,
   .cells #[fnV 219, fnV 220, fnV 221] 39,
   .cells #[.slice (some ⟨N + 1 + 19, 0, none⟩) 3 3] 288,
   .cells #[fnV 222] 39,
   .cells #[.slice (some ⟨N + 1 + 21, 0, none⟩) 1 1] 288,
   .cells #[fnV 223, fnV 224] 39,
   .cells #[.slice (some ⟨N + 1 + 23, 0, none⟩) 2 2] 288]
set_option maxRecDepth 100000 in
set_option maxHeartbeats 4000000 in
theorem commandsAlone_c (w : World) :
    Calls Tryz.prog 162 #[] w fun e w' => e = .returned (.map (some w.heap.size)) ∧ Mk w (tabA w.heap.size) (objA w.heap.size) w' := by
  have hS := Mk.start w
  have hmk : ∀ W, (Instr.makeMap 193 none).run Tryz.prog W = .ok (.map (some W.heap.size)) (W.alloc (.map #[] 0)) := fun W => rfl
  go_enter Tryz.func162, Tryz.ntmps162
  go_wp2_with (first | (refine wpList_insF rfl rfl rfl Tryz.underlying193 Tryz.underlying9 rfl hS.map (by kernel_rfl) ?_; intro w' hM hsz hg; replace hS := hS.put hM hsz hg; clear hM hsz hg) | (refine wpList_insT rfl rfl rfl Tryz.underlying193 Tryz.underlying9 rfl rfl hS.map (by kernel_rfl) ?_; intro w' hM hsz hg; simp only [List.getElem_toArray, List.getElem_cons_succ, List.getElem_cons_zero] at hM; replace hS := hS.put hM hsz hg; clear hM hsz hg) | (go_at_call 194; refine (movesBy_m _ hS).mono ?_; clear hS; rintro e w' ⟨rfl, hS⟩) | (go_at_call 198; refine (stepsBy_m _ hS).mono ?_; clear hS; rintro e w' ⟨rfl, hS⟩) | (go_at_call 206; refine (truthBy_m _ hS).mono ?_; clear hS; rintro e w' ⟨rfl, hS⟩) | (go_at_call 209; refine (textsBy_m _ hS).mono ?_; clear hS; rintro e w' ⟨rfl, hS⟩) | (go_at_call 210; refine (textBy_m _ hS).mono ?_; clear hS; rintro e w' ⟨rfl, hS⟩) | (go_at_call 218; refine (numbersBy_m _ _ _ hS).mono ?_; clear hS; rintro e w' ⟨rfl, hS⟩))
  go_ret
  simp only [List.nil_append, List.cons_append] at hS
  exact ⟨rfl, hS⟩
def tabR : List (ByteArray × Value) :=
  [(⟨#[109, 111, 118, 101, 115]⟩, fnV 226),
   (⟨#[99, 97, 108, 108]⟩, fnV 228),
   (⟨#[116, 104, 101, 110]⟩, fnV 229),
   (⟨#[112, 111, 119, 101, 114]⟩, fnV 230),
   (⟨#[107, 101, 101, 112]⟩, fnV 231),
   (⟨#[115, 116, 101, 112, 115]⟩, fnV 233),
   (⟨#[119, 97, 110, 116, 101, 100]⟩, fnV 235),
   (⟨#[100, 114, 111, 112]⟩, fnV 237),
   (⟨#[102, 114, 101, 101]⟩, fnV 238),
   (⟨#[102, 111, 114]⟩, fnV 240),
   (⟨#[110, 101, 101, 100, 101, 100]⟩, fnV 241),
   (⟨#[115, 116, 97, 116, 101]⟩, fnV 242),
   (⟨#[114, 117, 110]⟩, fnV 244),
   (⟨#[98, 97, 99, 107]⟩, fnV 245),
   (⟨#[97, 114, 103, 115]⟩, fnV 247),
   (⟨#[99, 111, 115, 116]⟩, fnV 249),
   (⟨#[98, 101, 115, 116]⟩, fnV 250)]
set_option maxRecDepth 100000 in
set_option maxHeartbeats 4000000 in
theorem commandsWithRest_c (w : World) :
    Calls Tryz.prog 164 #[] w fun e w' => e = .returned (.map (some w.heap.size)) ∧ Mk w tabR [] w' := by
  have hS := Mk.start w
  have hmk : ∀ W, (Instr.makeMap 193 none).run Tryz.prog W = .ok (.map (some W.heap.size)) (W.alloc (.map #[] 0)) := fun W => rfl
  go_enter Tryz.func164, Tryz.ntmps164
  go_wp2_with (refine wpList_insF rfl rfl rfl Tryz.underlying193 Tryz.underlying9 rfl hS.map (by kernel_rfl) ?_; intro w' hM hsz hg; replace hS := hS.put hM hsz hg; clear hM hsz hg)
  go_ret
  exact ⟨rfl, hS⟩
end Go.Proofs.YtfedloljhocpgaaGreatDoor

