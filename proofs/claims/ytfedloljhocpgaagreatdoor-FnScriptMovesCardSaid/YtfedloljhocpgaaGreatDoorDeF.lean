import Derived.Test.YtfedloljhocpgaaGreatDoorDeD
import Derived.Test.YtfedloljhocpgaaGreatDoorApp
import Derived.Test.YtfedloljhocpgaaGreatDoorHold
namespace Go.PG
open Go.RowKit Go.PM
theorem grown_setc (w : World) (b i : Nat) (v : Value) : w.grownBy (w.setCell ⟨b, i, none⟩ v) (some b) :=
  ⟨rfl, rfl, rfl, by rw [World.size_setCell]; exact Nat.le_refl _, fun k _ hne => heap_setCell_other _ _ _ _ (fun e => hne (by rw [e]))⟩
def Nw (w : World) (v v' : Value) : Prop := v' = v ∨ ∀ g, v'.ownBlock = some g → w.heap.size ≤ g
theorem Nw.refl (w : World) (v : Value) : Nw w v v := .inl rfl
theorem Nw.older {w w1 : World} {v v' : Value} (h : Nw w1 v v') (hs : w.heap.size ≤ w1.heap.size) : Nw w v v' := h.imp id fun h g hg => Nat.le_trans hs (h g hg)
theorem Rd.nw {w0 w1 w2 w3 : World} {s n k : Nat} {v v' : Value} {cs ds : List Value} {r : Nat} (h0 : Rd w0 s v k ds) (hn : Nw w1 v v') (h : Rd w2 s v' n cs) (hg : w2.grownBy w3 (some r)) (h1 : w0.heap.size ≤ r) (h2 : r < w1.heap.size) : Rd w3 s v' n cs := by
  obtain ⟨A, cap, rfl, hc, hl, hsz, hr⟩ := h
  refine ⟨A, cap, rfl, hc, hl, hsz, fun hp => ?_⟩
  obtain ⟨b, off, eA, hb, hcell⟩ := hr hp
  refine ⟨b, off, eA, Nat.lt_of_lt_of_le hb hg.size, fun j u hu => ?_⟩
  refine hg.cell (hcell j u hu) ?_
  subst eA
  show some b ≠ some r
  intro e
  have hbr : b = r := Option.some.inj e
  rcases hn with hv | hf
  · rw [← hv] at h0
    obtain ⟨A', cap', e', _, _, _, hr'⟩ := h0
    obtain ⟨rfl, rfl, rfl⟩ : A' = some ⟨b, off, none⟩ ∧ k = n ∧ cap' = cap := by injection e' with a1 a2 a3; exact ⟨a1.symm, a2.symm, a3.symm⟩
    obtain ⟨b', off', e'', hb', _⟩ := hr' hp
    have : b = b' := by injection e'' with a1; injection a1
    omega
  · have := hf b rfl
    omega
end Go.PG
namespace Go.Proofs.YtfedloljhocpgaaGreatDoor
open Go.RowKit Go.PM Go.PG
theorem infoIi : (Tryz.prog.info? 3).map (fun i => (i.zero, i.size, i.bytes)) = some (some (.int .i64 0), 1, 8) := by kernel_rfl
theorem app_i {ops : Array Oper} {rest : List Oper} {o : Oper} {a : Act} {Q : Exit → Act → World → Prop} {w : World} (hgd : o.guard = none) (s x : Operand)
    (ho : o.op = .call { callee := .builtin .append, args := #[s, x], argTypes := #[40, 40] })
    (base : Nat) (v : Value) (ys : List Int) (m : Int) (ad : Addr) (c : Nat) (hs : a.eval s = v) (hx : a.eval x = .slice (some ad) 1 c)
    (hown : w.ownsRow base 3 1 v ys.length (icells ys)) (hnew : ∀ j u, [Value.int .i64 m][j]? = some u → w.cell? (ad.add j) = some u)
    (hlen : ys.length ≤ 1048576) (hbase : base ≤ w.heap.size)
    (h : ∀ v' w', w'.ownsRow base 3 1 v' (ys ++ [m]).length (icells (ys ++ [m])) → w.grownBy w' v.ownBlock → wpList Tryz.prog ops Q rest (a.put o.dst v') w') : wpList Tryz.prog ops Q (o :: rest) a w := by
  obtain ⟨i0, hi0, hz0, hz1, hz2⟩ := info_parts infoIi
  refine wpList_append_own w hgd s x _ ho base 3 i0 _ 1 8 Tryz.underlying40 hi0 hz0 hz1 hz2 rfl (by omega) v ys.length (icells ys) hs hown ad 1 c [Value.int .i64 m] hx rfl hnew
    (by intro u hu; simp at hu; subst hu; rfl) (by simp only [maxLen]; omega) (by omega) hbase ?_
  intro v' w' h2 h3 _
  refine h v' w' ?_ h3
  rw [icells_append, List.length_append]
  simpa [icells] using h2
theorem num_at (W : World) (t : TypeId) (m : Int) (j : Nat) (u : Value) (hj : [Value.int .i64 m][j]? = some u) : (W.alloc (.cells #[.int .i64 m] t)).cell? ((⟨W.heap.size, 0, none⟩ : Addr).add j) = some u := by
  cases j with
  | zero => cases hj; exact (At.new W t _).cell 0
  | succ j => cases hj
set_option maxRecDepth 100000 in
set_option maxHeartbeats 1600000 in
theorem numbersByF_c (A : Option Addr) (n c : Nat) (B : Option Addr) (m d : Nat) (rs out : ByteArray) (ho : out.size ≤ 50000000) (w : World) (bs bc : Nat) (fs : List Nat) (ns : List Int) (hfn : fs.length = ns.length) (h0 : 0 < ns.length) (hl : ns.length ≤ 100)
    (hbc : bc < w.heap.size) (hc : w.cell? ⟨bc, 0, none⟩ = some (.slice (some ⟨bs, 0, none⟩) ns.length ns.length)) (hbs : bs < w.heap.size) (hcs : ∀ (j f : Nat), fs[j]? = some f → w.cell? ⟨bs, j, none⟩ = some (fnV f))
    (he : ∀ f ∈ fs, ∀ xs W, (callFunc f xs).run Tryz.prog W = .ok (.enter f xs) W) (hz : ∀ k ∈ ns, i64ok k) (hT : Tp w)
    (hF : ∀ (j f : Nat) (x : Int), fs[j]? = some f → ns[j]? = some x → ∀ W, Below w.heap.size w W → Calls Tryz.prog f #[.slice A n c] W fun e w' => e = .returned (.int .i64 x) ∧ Below W.heap.size W w') :
    Calls Tryz.prog 284 #[deskV (.slice A n c) (.slice B m d) out, .string rs, .pointer (some ⟨bc, 0, none⟩)] w fun e w' => e = .returned (.tuple #[deskV (.slice A n c) (.slice B m d) (sayB out (numB ns)), .bool (ns[0] != -1)]) ∧ Below w.heap.size w w' := by
  have HF := Lib.hid hF
  have HE := Lib.hid he
  have HC := Lib.hid hcs
  clear hF he hcs
  have K1 : At ((w.alloc (.cells #[.slice A n c, .slice B m d, .string out] 93)).alloc (.cells #[.slice none 0 0, .slice none 0 0, .string ⟨#[]⟩] 93)) w.heap.size 93 #[.slice A n c, .slice B m d, .string out] := (At.new w _ _).alloc _
  have K2 : At ((w.alloc (.cells #[.slice A n c, .slice B m d, .string out] 93)).alloc (.cells #[.slice none 0 0, .slice none 0 0, .string ⟨#[]⟩] 93)) (w.heap.size + 1) 93 #[.slice none 0 0, .slice none 0 0, .string ⟨#[]⟩] := by have := At.new (w.alloc (.cells #[.slice A n c, .slice B m d, .string out] 93)) 93 #[.slice none 0 0, .slice none 0 0, .string ⟨#[]⟩]; simpa using this
  have hB3 : Below w.heap.size w ((w.alloc (.cells #[.slice A n c, .slice B m d, .string out] 93)).alloc (.cells #[.slice none 0 0, .slice none 0 0, .string ⟨#[]⟩] 93)) := ((Below.refl _ _).alloc (Nat.le_refl _) _).alloc (by simp) _
  have hsz : ((w.alloc (.cells #[.slice A n c, .slice B m d, .string out] 93)).alloc (.cells #[.slice none 0 0, .slice none 0 0, .string ⟨#[]⟩] 93)).heap.size = w.heap.size + 2 := by simp
  have hc3 := (hB3.cell (p := ⟨bc, 0, none⟩) hbc).trans hc
  have HNS : Hid (∀ t, t.length = ns.length → ∀ i, i < ns.length → t = ns.take i → i = ns.length) := fun t h1 i _ h2 => by subst h2; rw [List.length_take] at h1; omega
  obtain ⟨K, hK⟩ : ∃ K, ns.length = K := ⟨_, rfl⟩
  have HK := Lib.hid hK
  obtain ⟨x0, nt, hns⟩ : ∃ x t, ns = x :: t := by cases ns with | nil => simp at h0 | cons x t => exact ⟨x, t, rfl⟩
  have hx0 : ns[0] = x0 := by subst hns; rfl
  have HNX := Lib.hid hns
  rw [hK] at hc hc3
  rw [hx0]
  clear hns hx0 hc HNS
  go_enter Tryz.func284, Tryz.ntmps284
  go_wp2
  generalize ((w.alloc (.cells #[.slice A n c, .slice B m d, .string out] 93)).alloc (.cells #[.slice none 0 0, .slice none 0 0, .string ⟨#[]⟩] 93)) = W3 at *
  go_loopw [7, 9, 12] (fun l _ i wr => ∃ (k : Nat), k ≤ K ∧ i = .int .i64 k ∧ wr.ownsRow W3.heap.size 3 1 l (ns.take k).length (icells (ns.take k)) ∧ At wr w.heap.size 93 #[.slice A n c, .slice B m d, .string out] ∧ At wr (w.heap.size + 1) 93 #[.slice none 0 0, .slice none 0 0, .string ⟨#[]⟩] ∧ W3.heap.size ≤ wr.heap.size ∧ Below w.heap.size w wr) (fun _ _ i _ => K - (intOf i).toNat)
  case atStart => exact ⟨0, by omega, rfl, ⟨rfl, .inl ⟨rfl, rfl⟩⟩, K1, K2, Nat.le_refl _, hB3⟩
  case round =>
    clear K1 K2 hB3 hc3
    obtain ⟨k, hk, rfl, hown, k1, k2, hs, hb⟩ := hrel
    have hbs2 := hb.size
    by_cases hlt : k < K
    · have hkn : k < ns.length := by have := HK.out; omega
      have hkf : k < fs.length := by omega
      have hf1 : fs[k]? = some fs[k] := List.getElem?_eq_getElem hkf
      have hn1 : ns[k]? = some ns[k] := List.getElem?_eq_getElem hkn
      have hcell := (hb.cell (p := ⟨bs, k, none⟩) hbs).trans (HC.out k _ hf1)
      have he := HE.out _ (List.getElem_mem hkf)
      have hcall := HF.out k _ _ hf1 hn1 wr hb
      have HTK : Hid (ns.take (k + 1) = ns.take k ++ [ns[k]]) := take_snoc ns k hkn
      have i1 : (k : Int) < (K : Int) := by omega
      have q0 := k1.cell 0
      simp at q0
      have HLT : Hid ((ns.take k).length = k) := by show _ = _; rw [List.length_take]; omega
      clear hf1 hn1
      unfold fnV at hcell
      generalize fs[k] = f at *
      generalize ns[k] = x at *
      go_wp2_with fail
      refine hcall.mono ?_
      rintro e w4 ⟨rfl, hb4⟩
      have own4 := own_keep hown hb4
      have m1 := k1.keep hb4
      have m2 := k2.keep hb4
      have hb5 := hb.trans (hb4.mono hbs2)
      have hs5 := hb5.size
      have hs6 : W3.heap.size ≤ w4.heap.size := Nat.le_trans hs hb4.size
      have hnw := num_at w4 3 x
      have hl5 : (ns.take k).length ≤ 1048576 := by have := HLT.out; omega
      clear hown k1 k2 hb hb4 hcall hcell q0
      go_wp2_with (at_builtin; refine held ?_)
      unfold Held
      refine app_i rfl (.tmp 16) (.tmp 21) rfl W3.heap.size u7 (ns.take k) x ⟨w4.heap.size, 0, none⟩ 1 (by rfl) (by rfl) (own_keep own4 ((Below.refl _ _).alloc (Nat.le_refl _) _)) hnw hl5 (by simp; omega) ?_
      intro v' w6 hown6 hgrow6
      have hge := own_block_ge own4
      have hw6 : w4.heap.size + 1 ≤ w6.heap.size := by have := hgrow6.size; simp at this; omega
      have p1 := (m1.alloc (.cells #[.int .i64 x] 3)).grown hgrow6 (fun e => by have := hge _ e.symm; omega)
      have p2 := (m2.alloc (.cells #[.int .i64 x] 3)).grown hgrow6 (fun e => by have := hge _ e.symm; omega)
      have hb6 := (hb5.alloc hs5 (.cells #[.int .i64 x] 3)).trans (below_grown hgrow6 (by simp; omega) (fun g e => by have := hge _ e; omega))
      rw [← HTK.out] at hown6
      clear m1 m2 hb5 own4 hnw hgrow6
      go_wp2
      go_roundw
      case rel => exact ⟨k + 1, by omega, by go_num, hown6, p1, p2, by omega, hb6⟩
      case measure => simp [intOf]; omega
    · have hkK : k = K := by omega
      have hR : RdI wr u7 (x0 :: nt) := by
        have h1 := Rd.of_own hown
        rw [hkK, ← HK.out, List.take_length, HNX.out] at h1
        exact h1
      have hz' : ∀ k ∈ x0 :: nt, i64ok k := by rw [← HNX.out]; exact hz
      have hl' : nt.length ≤ 100 := by have h1 := HNX.out; have := congrArg List.length h1; simp at this; omega
      have hW := withNumbers_c A n c B m d u7 x0 nt hz' hl' out ho wr hR (hT.below hb)
      rw [← HNX.out] at hW
      have q0 := k1.cell 0
      have q1 := k1.cell 1
      have q2 := k1.cell 2
      simp at q0 q1 q2
      have i1 : ¬ (k : Int) < (K : Int) := by omega
      clear hR hz' hown
      go_wp2_with fail
      refine hW.mono ?_
      rintro e w5 ⟨rfl, hb5⟩
      have n2 := k2.keep hb5
      have hB5 := hb.trans (hb5.mono hbs2)
      have hs5 := hB5.size
      have k20 := n2.cell 0
      have k21 := n2.cell 1
      have k22 := n2.cell 2
      have f0 := n2.frozen 0
      have f1 := n2.frozen 1
      have f2 := n2.frozen 2
      have hlt2 := n2.lt
      have kk := ((n2.set 0 (.slice A n c)).set 1 (.slice B m d)).set 2 (.string (sayB out (numB ns)))
      have hB2 : Below w.heap.size w (((w5.setCell ⟨w.heap.size + 1, 0, none⟩ (.slice A n c)).setCell ⟨w.heap.size + 1, 1, none⟩ (.slice B m d)).setCell ⟨w.heap.size + 1, 2, none⟩ (.string (sayB out (numB ns)))) := ((hB5.setCell (by simp) _).setCell (by simp) _).setCell (by simp) _
      simp at kk k20 k21 k22
      clear hW q0 q1 q2 k1 k2 hb hb5 n2
      go_wp2
      refine bodyPost_ret (v := .tuple #[deskV (.slice A n c) (.slice B m d) (sayB out (numB ns)), .bool (x0 != -1)]) (results_desk2 _ 5 6 Tryz.results284 _ (w.heap.size + 1) _ _ _ _ kk _ rfl rfl) rfl ⟨rfl, hB2⟩
end Go.Proofs.YtfedloljhocpgaaGreatDoor

