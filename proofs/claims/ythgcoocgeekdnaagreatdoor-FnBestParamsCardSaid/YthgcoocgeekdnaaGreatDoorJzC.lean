import Derived.Test.YthgcoocgeekdnaaGreatDoorJzB
import Derived.Test.YthgcoocgeekdnaaGreatDoorRows
import Derived.Test.YthgcoocgeekdnaaGreatDoorLib
import Derived.ProofKit
import Derived.OpenShut
import Derived.ShutString
import Derived.ChangeOld
import Derived.Deep.Slices
import Derived.ChangeSame
import Derived.Carry
import Derived.Test.YthgcoocgeekdnaaGreatDoorDraw
import Derived.Test.YthgcoocgeekdnaaGreatDoorReaders
import Derived.Test.YthgcoocgeekdnaaGreatDoorDraw3
import Derived.Test.YthgcoocgeekdnaaGreatDoorRange
import Derived.Test.YthgcoocgeekdnaaGreatDoorShelf
import Derived.Test.YthgcoocgeekdnaaGreatDoorJzA
import Derived.Test.YthgcoocgeekdnaaGreatDoorClP
import Derived.Test.YthgcoocgeekdnaaGreatDoorHold
import Derived.Shelf.Utf8.RuneCount
import Derived.Shelf.Unicode.DecodeAny
import Derived.Test.YthgcoocgeekdnaaGreatDoorSlF
import Derived.Test.YthgcoocgeekdnaaGreatDoorNamesIn
import Derived.Test.YthgcoocgeekdnaaGreatDoorNames
import Derived.Test.YthgcoocgeekdnaaGreatDoorTail
import Derived.Test.YthgcoocgeekdnaaGreatDoorRow
import Derived.Test.YthgcoocgeekdnaaGreatDoorComp
import Derived.Test.YthgcoocgeekdnaaGreatDoorIm3
import Derived.Test.YthgcoocgeekdnaaGreatDoorM2
import Derived.BigQuiet
import Derived.ChangeAlike
import Derived.RegionTactic
import Derived.Test.YthgcoocgeekdnaaGreatDoorIm2
import Derived.Test.YthgcoocgeekdnaaGreatDoorMoves
import Derived.Test.YthgcoocgeekdnaaGreatDoorTurn
import Derived.Test.YthgcoocgeekdnaaGreatDoorHar
namespace Go.Proofs.YthgcoocgeekdnaaGreatDoor
open Go.RowKit Go.PM Go.PD Go.PF Go.Lib
attribute [local go_sem] Oper.semAt_some
/-- how many calls have a register at a place -/
def vtN (cs : List ByteArray) (i : Nat) (r : ByteArray) : Nat := cs.countP fun a => decide (a.extract i (i + 1) = r)
theorem vtN_take (cs : List ByteArray) (i : Nat) (r : ByteArray) (k : Nat) (hk : k < cs.length) : vtN (cs.take (k + 1)) i r = vtN (cs.take k) i r + if cs[k].extract i (i + 1) = r then 1 else 0 := by
  unfold vtN
  rw [take_snoc cs k hk, List.countP_append, List.countP_singleton]
  simp only [decide_eq_true_eq]

set_option maxRecDepth 100000 in
set_option maxHeartbeats 3200000 in
theorem l11Votes_c (cs : List ByteArray) (h5 : cs.length ≤ 5) (v : Value) (w : World) (hx : RdT w v cs) (i : Nat) (hi : ∀ c ∈ cs, i < c.size) (hi4 : i ≤ 4) (r : ByteArray) :
    Calls Tryz.prog 25 #[v, .int .i64 (i : Int), .string r] w fun e w' => e = .returned (.int .i64 (vtN cs i r : Int)) ∧ Below w.heap.size w w' := by
  obtain ⟨A, cap, rfl, hn, hc, hcell⟩ := hx.open
  clear hx
  have HT := Lib.hid (fun k hk => vtN_take cs i r k hk)
  have HI : Hid (∀ k (hk : k < cs.length), i < cs[k].size) := fun k hk => hi _ (List.getElem_mem hk)
  have HR : Hid (∀ k, vtN (cs.take k) i r ≤ 5) := fun k => by
    have h1 := List.countP_le_length (l := cs.take k) (p := fun a => decide (a.extract i (i + 1) = r))
    have h2 : (cs.take k).length ≤ 5 := by rw [List.length_take]; omega
    exact Nat.le_trans h1 h2
  have H0 : Hid (vtN (cs.take 0) i r = 0) := rfl
  have HF : Hid (vtN (cs.take cs.length) i r = vtN cs i r) := by show _ = _; rw [List.take_length]
  clear hi
  go_enter Tryz.func25, Tryz.ntmps25
  go_wp2
  go_loopw [7, 9, 12] (fun o _ i' wr => ∃ (k : Nat), k ≤ cs.length ∧ i' = .int .i64 k ∧ o = .int .i64 (vtN (cs.take k) i r : Int) ∧ Below w.heap.size w wr) (fun _ _ i _ => cs.length - (RowKit.intOf i).toNat)
  case atStart => exact ⟨0, by omega, rfl, by rw [H0.out]; rfl, Below.refl _ _⟩
  case round =>
    obtain ⟨k, hk, rfl, rfl, hb⟩ := hrel
    have hbs := hb.size
    by_cases hlt : k < cs.length
    · obtain ⟨b, off, rfl, hbl, hc1⟩ := hcell k hlt
      have hd1 := (hb.cell (p := ⟨b, off + k, none⟩) hbl).trans hc1
      have HTK := Lib.hid (HT.out k hlt)
      have hik := HI.out k hlt
      have hr := HR.out k
      have i0 : (0 : Int) ≤ (k : Int) := by omega
      have i1 : (k : Int) < (cs.length : Int) := by omega
      clear hc1 hcell
      obtain ⟨nx, HNX⟩ : ∃ nx, Hid (vtN (cs.take (k + 1)) i r = nx) := ⟨_, rfl⟩
      rw [HNX.out] at HTK
      generalize vtN (cs.take k) i r = cur at *
      generalize cs[k] = q at *
      by_cases he : q.extract i (i + 1) = r
      · have q1 : ((q.extract i (i + 1)).toList == r.toList) = true := by rw [beq_str]; simpa using he
        have HN : Hid (nx = cur + 1) := by have := HTK.out; rw [if_pos he] at this; exact this
        clear HTK he
        go_wp2
        go_roundw
        case rel => exact ⟨k + 1, by omega, by go_num, by rw [HNX.out, HN.out]; go_num, hb⟩
        case measure => simp [RowKit.intOf]; omega
      · have q1 : ((q.extract i (i + 1)).toList == r.toList) = false := by rw [beq_str]; simpa using he
        have HN : Hid (nx = cur) := by have := HTK.out; rw [if_neg he] at this; exact this
        clear HTK he
        go_wp2
        go_roundw
        case rel => exact ⟨k + 1, by omega, by go_num, by rw [HNX.out, HN.out], hb⟩
        case measure => simp [RowKit.intOf]; omega
    · have HK : Hid (k = cs.length) := by show _ = _; omega
      have i1 : ¬ (k : Int) < (cs.length : Int) := by omega
      go_wp2
      go_ret
      exact ⟨by rw [← HF.out, HK.out]; rfl, hb⟩
def gB (cs : List ByteArray) (i : Nat) : ByteArray := ⟨(grF cs i).toArray⟩
def kB (cs : List ByteArray) (i k : Nat) : ByteArray := ⟨(grK cs i (grF cs i) k).toArray⟩
theorem grS_len (cs : List ByteArray) (i : Nat) (ps b : List UInt8) (k : Nat) (h : b.length ≤ 1) : (grS cs i ps b k).length ≤ 1 := by
  unfold grS
  split
  · exact h
  · split
    · exact Nat.le_refl _
    · split
      · exact Nat.le_refl _
      · exact h
theorem grK_len (cs : List ByteArray) (i : Nat) (ps : List UInt8) : ∀ k, (grK cs i ps k).length ≤ 1
  | 0 => Nat.zero_le _
  | k + 1 => grS_len cs i ps _ k (grK_len cs i ps k)
theorem grF_len (cs : List ByteArray) : ∀ i, (grF cs i).length ≤ i
  | 0 => Nat.le_refl _
  | i + 1 => by
    have h1 := grF_len cs i
    have h2 := grK_len cs i (grF cs i) 6
    show (grF cs i ++ grK cs i (grF cs i) 6).length ≤ i + 1
    rw [List.length_append]; omega
theorem gB_succ (cs : List ByteArray) (i : Nat) : gB cs (i + 1) = gB cs i ++ kB cs i 6 := by
  apply ByteArray.ext
  rw [ByteArray.data_append]
  show (grF cs i ++ grK cs i (grF cs i) 6).toArray = (grF cs i).toArray ++ (grK cs i (grF cs i) 6).toArray
  simp
theorem nm_reg (k : Nat) (hk : k < 6) : nm k = ch (regsL.getD k 0) := by
  match k, hk with
  | 0, _ | 1, _ | 2, _ | 3, _ | 4, _ | 5, _ => rfl
/-- one register more looked at -/
theorem kB_succ (cs : List ByteArray) (i k : Nat) (hk : k < 6) : kB cs i (k + 1) = if 0 ≤ indexByte (gB cs i).data.toList (regsL.getD k 0) then kB cs i k else if kB cs i k = ⟨#[]⟩ then nm k else if vtN cs i (nm k) > vtN cs i (kB cs i k) then nm k else kB cs i k := by
  have e1 : (gB cs i).data.toList = grF cs i := by simp [gB]
  rw [e1, nm_reg k hk]
  have hl := grK_len cs i (grF cs i) k
  show (⟨(grS cs i (grF cs i) (grK cs i (grF cs i) k) k).toArray⟩ : ByteArray) = if 0 ≤ _ then (⟨(grK cs i (grF cs i) k).toArray⟩ : ByteArray) else if (⟨(grK cs i (grF cs i) k).toArray⟩ : ByteArray) = _ then _ else if _ > vtN cs i (⟨(grK cs i (grF cs i) k).toArray⟩ : ByteArray) then _ else (⟨(grK cs i (grF cs i) k).toArray⟩ : ByteArray)
  generalize grK cs i (grF cs i) k = b at *
  unfold grS
  by_cases hm : 0 ≤ indexByte (grF cs i) (regsL.getD k 0)
  · rw [if_pos ((indexByte_mem _ _).1 hm), if_pos hm]
  · rw [if_neg (fun h => hm ((indexByte_mem _ _).2 h)), if_neg hm]
    match b, hl with
    | [], _ => rw [if_pos rfl]
    | [d], _ =>
      rw [if_neg (fun e => by cases e)]
      show (⟨(if votN cs i (regsL.getD k 0) > votN cs i d then _ else _ : List UInt8).toArray⟩ : ByteArray) = if votN cs i (regsL.getD k 0) > votN cs i d then _ else _
      split <;> rfl
set_option maxRecDepth 100000 in
set_option maxHeartbeats 6400000 in
theorem spGreedyParams_c (n : Int) (cs : List ByteArray) (v : Value) (w : World) (hx : RdT w v cs) (hz : ∀ c ∈ cs, c.size ≤ 1048576) (hn' : cs.length ≤ 1048576) :
    Calls Tryz.prog 10 #[.int .i64 n, v] w fun e w' => e = .returned (.tuple #[.string (gpB n cs), .bool (csOk n cs)]) ∧ Below w.heap.size w w' := by
  have HV := Lib.hid (spCallsValid_c n cs v w hx hz hn')
  rcases Bool.eq_false_or_eq_true (csOk n cs) with h2 | h2
  · obtain ⟨h1, h4, h5, _⟩ := cs_at h2
    have hs := cs_size h2
    obtain ⟨m, rfl⟩ := Int.eq_ofNat_of_zero_le (show (0 : Int) ≤ n by omega)
    have HVT := Lib.hid (fun W (hW : Below w.heap.size w W) i (hi : i < m) r => l11Votes_c cs h5 v W (hx.below hW) i (fun c hc => by have := hs c hc; omega) (by omega) r)
    have HO : Hid (gpB (m : Int) cs = gB cs m) := by show _ = _; unfold gpB; rw [h2]; rfl
    have HF := Lib.hid (fun i (hi : i ≤ 4) c W => l13Find_c (gB cs i) c W (by have := grF_len cs i; show (grF cs i).toArray.size ≤ _; rw [List.size_toArray]; omega))
    have HK := Lib.hid (fun i k hk => kB_succ cs i k hk)
    have HG := Lib.hid (fun i => gB_succ cs i)
    have HL : Hid (∀ i, (gB cs i).size ≤ i) := fun i => by have := grF_len cs i; show (grF cs i).toArray.size ≤ i; rw [List.size_toArray]; exact this
    have HKL : Hid (∀ i k, (kB cs i k).size ≤ 1) := fun i k => by have := grK_len cs i (grF cs i) k; show (grK cs i (grF cs i) k).toArray.size ≤ 1; rw [List.size_toArray]; exact this
    have H0 : Hid (gB cs 0 = ⟨#[]⟩) := rfl
    have HK0 : Hid (∀ i, kB cs i 0 = ⟨#[]⟩) := fun i => rfl
    rw [h2] at HV ⊢
    clear hx hz h2 hs
    go_enter Tryz.func10, Tryz.ntmps10
    go_wp2_with fail
    refine HV.out.mono ?_
    rintro e w1 ⟨rfl, hb1⟩
    go_wp2
    go_loopw [6, 7, 8, 9, 10, 16] (fun o _ _ _ _ i wr => ∃ (k : Nat), k ≤ m ∧ i = .int .i64 k ∧ o = .string (gB cs k) ∧ Below w.heap.size w wr) (fun _ _ _ _ _ i _ => m - (RowKit.intOf i).toNat)
    case atStart => exact ⟨0, by omega, rfl, by rw [H0.out], hb1⟩
    case round =>
      obtain ⟨i, hi, rfl, rfl, hb⟩ := hrel
      by_cases hlt : i < m
      · have HFi := Lib.hid (HF.out i (by omega))
        have HVi := Lib.hid (fun W hW r => HVT.out W hW i hlt r)
        have HKi := Lib.hid (HK.out i)
        have HGi := Lib.hid (HG.out i)
        have hli := HL.out i
        have HKLi := Lib.hid (HKL.out i)
        have HK0i := Lib.hid (HK0.out i)
        have i0 : (0 : Int) ≤ (i : Int) := by omega
        have i1 : (i : Int) < (m : Int) := by omega
        have i4 : i ≤ 3 := by omega
        clear HF HVT HK HG HL HKL HK0
        obtain ⟨nx, HNX⟩ : ∃ nx, Hid (gB cs (i + 1) = nx) := ⟨_, rfl⟩
        rw [HNX.out] at HGi
        generalize gB cs i = g at *
        go_wp2
        go_loopw [8, 9, 10, 19] (fun o _ _ j wr => ∃ (k : Nat), k ≤ 6 ∧ j = .int .i64 k ∧ o = .string (kB cs i k) ∧ Below w.heap.size w wr) (fun _ _ _ j _ => 6 - (RowKit.intOf j).toNat)
        case atStart => exact ⟨0, by omega, rfl, by rw [HK0i.out], hb⟩
        case round =>
          obtain ⟨k, hk, rfl, rfl, hb⟩ := hrel
          by_cases hlk : k < 6
          · have hkn := HKi.out k hlk
            have hcl := HKLi.out k
            have HC : Hid (∀ (a : ByteArray) (_ : a = ch (regsL.getD k 0)) (h0 : 0 < a.size) W, Calls Tryz.prog 24 #[.string g, .int .u8 ((a[0]'h0).toNat : Nat)] W fun e w' => e = .returned (.int .i64 (indexByte g.data.toList (regsL.getD k 0))) ∧ W = w') := fun a ha h0 W => by
              subst ha
              exact HFi.out (regsL.getD k 0) W
            have VA : Hid (∀ (a : ByteArray) (_ : a = nm k) W (hW : Below w.heap.size w W), Calls Tryz.prog 25 #[v, .int .i64 (i : Int), .string a] W fun e w' => e = .returned (.int .i64 (vtN cs i (nm k) : Int)) ∧ Below W.heap.size W w') := fun a ha W hW => by
              subst ha
              exact HVi.out W hW (nm k)
            have VB := Lib.hid (fun W (hW : Below w.heap.size w W) => HVi.out W hW (kB cs i k))
            obtain ⟨nk, HNK⟩ : ∃ nk, Hid (kB cs i (k + 1) = nk) := ⟨_, rfl⟩
            rw [HNK.out] at hkn
            clear HFi HVi HKi
            generalize indexByte g.data.toList (regsL.getD k 0) = zz at *
            generalize vtN cs i (nm k) = va at *
            generalize vtN cs i (kB cs i k) = vb at *
            generalize kB cs i k = cur at *
            by_cases hz : 0 ≤ zz
            · rw [if_pos hz] at hkn
              have HS := Lib.hid (HNK.out.trans hkn)
              have hcs : k = 0 ∨ k = 1 ∨ k = 2 ∨ k = 3 ∨ k = 4 ∨ k = 5 := by omega
              clear hkn HNK VA VB
              have HB := Lib.hid hb
              rcases hcs with rfl | rfl | rfl | rfl | rfl | rfl
              all_goals
                go_wp2_with (go_at_call 24; refine (HC.out _ rfl (by decide) _).mono ?_; rintro e w' ⟨rfl, rfl⟩)
                go_roundw
                case rel => first | exact ⟨1, by decide, rfl, by rw [HS.out], HB.out⟩ | exact ⟨2, by decide, rfl, by rw [HS.out], HB.out⟩ | exact ⟨3, by decide, rfl, by rw [HS.out], HB.out⟩ | exact ⟨4, by decide, rfl, by rw [HS.out], HB.out⟩ | exact ⟨5, by decide, rfl, by rw [HS.out], HB.out⟩ | exact ⟨6, by decide, rfl, by rw [HS.out], HB.out⟩
                case measure => simp [RowKit.intOf]
            · rw [if_neg hz] at hkn
              by_cases hemp : cur = ⟨#[]⟩
              · subst hemp
                rw [if_pos rfl] at hkn
                have HS := Lib.hid (HNK.out.trans hkn)
                have hcs : k = 0 ∨ k = 1 ∨ k = 2 ∨ k = 3 ∨ k = 4 ∨ k = 5 := by omega
                clear hkn HNK VA VB hcl
                have HB := Lib.hid hb
                rcases hcs with rfl | rfl | rfl | rfl | rfl | rfl
                all_goals
                  go_wp2_with (go_at_call 24; refine (HC.out _ rfl (by decide) _).mono ?_; rintro e w' ⟨rfl, rfl⟩)
                  go_roundw
                  case rel => first | exact ⟨1, by decide, rfl, by rw [HS.out]; rfl, HB.out⟩ | exact ⟨2, by decide, rfl, by rw [HS.out]; rfl, HB.out⟩ | exact ⟨3, by decide, rfl, by rw [HS.out]; rfl, HB.out⟩ | exact ⟨4, by decide, rfl, by rw [HS.out]; rfl, HB.out⟩ | exact ⟨5, by decide, rfl, by rw [HS.out]; rfl, HB.out⟩ | exact ⟨6, by decide, rfl, by rw [HS.out]; rfl, HB.out⟩
                  case measure => simp [RowKit.intOf]
              · rw [if_neg hemp] at hkn
                have q1 : ¬ cur.toList = [] := fun e => by
                  rw [ByteArray.toList_eq] at e
                  have h1 := toB cur
                  rw [e] at h1
                  exact hemp h1.symm
                have q2 : cur.toList.isEmpty = false := by
                  cases hl : cur.toList with
                  | nil => exact absurd hl q1
                  | cons a l => rfl
                have hcs : k = 0 ∨ k = 1 ∨ k = 2 ∨ k = 3 ∨ k = 4 ∨ k = 5 := by omega
                by_cases hgt : va > vb
                · rw [if_pos hgt] at hkn
                  have HS := Lib.hid (HNK.out.trans hkn)
                  have hgt' : (va : Int) > (vb : Int) := by omega
                  clear hkn HNK hemp
                  rcases hcs with rfl | rfl | rfl | rfl | rfl | rfl
                  all_goals
                    go_wp2_with (go_at_call 24; refine (HC.out _ rfl (by decide) _).mono ?_; rintro e w' ⟨rfl, rfl⟩)
                    refine (VA.out _ rfl _ hb).mono ?_
                    rintro e w2 ⟨rfl, hb2⟩
                    have B2 := hb.trans (hb2.mono hb.size)
                    go_wp2_with fail
                    refine (VB.out _ B2).mono ?_
                    rintro e w3 ⟨rfl, hb3⟩
                    have HB2 := Lib.hid (B2.trans (hb3.mono B2.size))
                    go_wp2
                    go_roundw
                    case rel => first | exact ⟨1, by decide, rfl, by rw [HS.out]; rfl, HB2.out⟩ | exact ⟨2, by decide, rfl, by rw [HS.out]; rfl, HB2.out⟩ | exact ⟨3, by decide, rfl, by rw [HS.out]; rfl, HB2.out⟩ | exact ⟨4, by decide, rfl, by rw [HS.out]; rfl, HB2.out⟩ | exact ⟨5, by decide, rfl, by rw [HS.out]; rfl, HB2.out⟩ | exact ⟨6, by decide, rfl, by rw [HS.out]; rfl, HB2.out⟩
                    case measure => simp [RowKit.intOf]
                · rw [if_neg hgt] at hkn
                  have HS := Lib.hid (HNK.out.trans hkn)
                  have hgt' : ¬ (va : Int) > (vb : Int) := by omega
                  clear hkn HNK hemp
                  rcases hcs with rfl | rfl | rfl | rfl | rfl | rfl
                  all_goals
                    go_wp2_with (go_at_call 24; refine (HC.out _ rfl (by decide) _).mono ?_; rintro e w' ⟨rfl, rfl⟩)
                    refine (VA.out _ rfl _ hb).mono ?_
                    rintro e w2 ⟨rfl, hb2⟩
                    have B2 := hb.trans (hb2.mono hb.size)
                    go_wp2_with fail
                    refine (VB.out _ B2).mono ?_
                    rintro e w3 ⟨rfl, hb3⟩
                    have HB2 := Lib.hid (B2.trans (hb3.mono B2.size))
                    go_wp2
                    go_roundw
                    case rel => first | exact ⟨1, by decide, rfl, by rw [HS.out], HB2.out⟩ | exact ⟨2, by decide, rfl, by rw [HS.out], HB2.out⟩ | exact ⟨3, by decide, rfl, by rw [HS.out], HB2.out⟩ | exact ⟨4, by decide, rfl, by rw [HS.out], HB2.out⟩ | exact ⟨5, by decide, rfl, by rw [HS.out], HB2.out⟩ | exact ⟨6, by decide, rfl, by rw [HS.out], HB2.out⟩
                    case measure => simp [RowKit.intOf]
          · have hk' : k = 6 := by omega
            subst hk'
            have hkl := HKLi.out 6
            generalize kB cs i 6 = kk at *
            go_wp2
            go_roundw
            case rel => exact ⟨i + 1, by omega, by go_num, by rw [HNX.out, HGi.out], hb⟩
            case measure => simp [RowKit.intOf]; omega
      · have HE : Hid (i = m) := by show _ = _; omega
        have i1 : ¬ (i : Int) < (m : Int) := by omega
        go_wp2
        go_ret2
        exact ⟨by rw [HO.out, HE.out]; rfl, hb⟩
  · have HO : Hid (gpB n cs = ⟨#[]⟩) := by show _ = _; unfold gpB; rw [h2]; rfl
    rw [h2] at HV ⊢
    clear hx hz h2
    go_enter Tryz.func10, Tryz.ntmps10
    go_wp2_with fail
    refine HV.out.mono ?_
    rintro e w1 ⟨rfl, hb1⟩
    go_wp2
    go_ret2
    exact ⟨by rw [HO.out]; rfl, hb1⟩
end Go.Proofs.YthgcoocgeekdnaaGreatDoor
namespace Go.Proofs.YthgcoocgeekdnaaGreatDoor
open Go.RowKit Go.PM Go.ChangeShapes Go.WideShapes Go.Deep

theorem own : ownKnob Tryz.prog.godebug = none := by kernel_rfl
theorem laidOut : laidOutB Tryz.prog = true := by kernel_rfl

theorem exists_list {α : Type} (Q : Nat → α → Prop) : ∀ n, (∀ i, i < n → ∃ m, Q i m) → ∃ xs : List α, xs.length = n ∧ ∀ i (h : i < xs.length), Q i xs[i]
  | 0, _ => ⟨[], rfl, fun i h => absurd h (Nat.not_lt_zero _)⟩
  | n + 1, h => by
    obtain ⟨xs, hl, hx⟩ := exists_list Q n fun i hi => h i (by omega)
    obtain ⟨m, hm⟩ := h n (by omega)
    refine ⟨xs ++ [m], by simp [hl], fun i hi => ?_⟩
    by_cases h1 : i < xs.length
    · rw [List.getElem_append_left h1]; exact hx i h1
    · have h2 : i = xs.length := by simp at hi; omega
      subst h2
      rw [List.getElem_append_right (Nat.le_refl _)]
      simpa [hl] using hm

theorem rdM_mk {w : World} {ad : Addr} {cap : Nat} (xs : List Mv) (hc : xs.length ≤ cap) (hn : xs.length ≤ 9223372036854775807)
    (h : ∀ i (hi : i < xs.length), w.cell? (ad.add (i * 2)) = some (.string xs[i].1) ∧ w.cell? ((ad.add (i * 2)).add 1) = some (.string xs[i].2)) : RdM w (.slice (some ad) xs.length cap) xs := by
  refine ⟨some ad, cap, rfl, hc, hn, mcells_length xs, fun h0 => ?_⟩
  have h1 := (h 0 h0).1
  obtain ⟨b, off, spot⟩ := ad
  have hs : spot = none := by
    have := World.cell?_spot h1
    simpa [Addr.add] using this
  subst hs
  have hadd : ∀ o i, (Addr.mk b o none).add i = ⟨b, o + i, none⟩ := fun o i => by
    unfold Addr.add; split
    · next h => subst h; rfl
    · rfl
  refine ⟨b, off, rfl, ?_, fun j u hu => ?_⟩
  · rcases Nat.lt_or_ge b w.heap.size with hlt | hge
    · exact hlt
    · rw [hadd] at h1
      simp [World.cell?, Array.getElem?_eq_none hge] at h1
  · have hj : j < xs.length * 2 := by rw [← mcells_length]; exact (List.getElem?_eq_some_iff.1 hu).1
    have hk : j / 2 < xs.length := by omega
    have hm := mcells_at xs (j / 2) _ (List.getElem?_eq_getElem hk)
    have hh := h (j / 2) hk
    rw [hadd, hadd] at hh
    rcases Nat.mod_two_eq_zero_or_one j with h0 | h0
    · have e : j / 2 * 2 = j := by omega
      rw [e] at hm hh
      rw [hm.1] at hu
      rw [hh.1, hu]
    · have e : j / 2 * 2 + 1 = j := by omega
      rw [e] at hm
      rw [Nat.add_assoc, e] at hh
      rw [hm.2] at hu
      rw [hh.2, hu]

end Go.Proofs.YthgcoocgeekdnaaGreatDoor
namespace Go.Proofs.YthgcoocgeekdnaaGreatDoor
open Go.RowKit Go.PM
open Go.ChangeShapes Go.WideShapes Go.Deep in
set_option maxRecDepth 100000 in
theorem open_bytes {H : Type} {enc : TypeId × Value → H} {W : World} {base fuel : Nat} {spare : Nat → Bool} {held : Bool} {a : Option Addr} {n c : Nat} {x : DataW H × List MemPlace}
    (h : DataW.trod enc Tryz.prog W base spare held fuel 22 [.slice a n c] = some x) : RdB W W.heap.size (.slice a n c) n := by
  rcases open_slice Tryz.underlying22 h with ⟨hcs, _⟩ | ⟨ad, len, cap, m, k, D, Pl, hcs, hb, hl, hm, hmm, hx, hi⟩
  · simp at hcs
    obtain ⟨rfl, rfl, rfl⟩ := hcs
    exact ⟨none, 0, rfl, by omega, by omega, fun k hk => absurd hk (Nat.not_lt_zero k)⟩
  · simp at hcs
    obtain ⟨rfl, rfl, rfl⟩ := hcs
    have hC : Tryz.prog.cellsOf 5 = 1 := by kernel_rfl
    have hml : n ≤ m := by rw [hmm]; split <;> omega
    have hM : maxLen = 9223372036854775807 := rfl
    have hcell : ∀ i, i < n → ∃ kk, W.cell? (ad.add i) = some (.int .u8 kk) ∧ 0 ≤ kk ∧ kk ≤ 255 := fun i hin => by
      obtain ⟨cs', hc', ht⟩ := hi i (by omega)
      rw [hC] at hc'
      obtain ⟨kk, hk, _, hwf⟩ := DataW.trod_int Tryz.underlying5 ht
      subst hk
      obtain ⟨_, hcl, hat⟩ := World.cells?_some hc'
      have h1 := hat 0 (by omega)
      refine ⟨kk, by simpa [Addr.add] using h1, ?_⟩
      simpa [Lit.wf, IntKind.min, IntKind.max, IntKind.signed, IntKind.bits] using hwf
    clear hi hx h
    refine ⟨some ad, c, rfl, by omega, by omega, fun i hin => ?_⟩
    obtain ⟨b, off, spot⟩ := ad
    have hs : spot = none := by
      obtain ⟨_, h0, _⟩ := hcell 0 (by omega)
      have := World.cell?_spot h0
      simpa [Addr.add] using this
    subst hs
    obtain ⟨kk, h1, hw1, hw2⟩ := hcell i hin
    have hadd : (Addr.mk b off none).add i = ⟨b, off + i, none⟩ := by
      unfold Addr.add; split
      · next h => subst h; rfl
      · rfl
    rw [hadd] at h1
    have hb : b < W.heap.size := by
      rcases Nat.lt_or_ge b W.heap.size with hlt | hge
      · exact hlt
      · simp [World.cell?, Array.getElem?_eq_none hge] at h1
    exact ⟨b, off, kk, rfl, hb, hb, h1, hw1, by omega⟩
end Go.Proofs.YthgcoocgeekdnaaGreatDoor
namespace Go.PM
open Go.RowKit
/-- one of a text's letters is the given text -/
def pmH (s c : ByteArray) : Bool := (List.range s.size).any fun i => decide (s.extract i (i + 1) = c)
def pmK (s c : ByteArray) (k : Nat) : Bool := (List.range k).any fun i => decide (s.extract i (i + 1) = c)
theorem pmK_succ (s c : ByteArray) (k : Nat) : pmK s c (k + 1) = (pmK s c k || decide (s.extract k (k + 1) = c)) := by
  simp [pmK, List.range_succ]
theorem pmK_yes {s c : ByteArray} (k : Nat) (hk : k < s.size) (h : s.extract k (k + 1) = c) : pmH s c = true := by
  rw [pmH, List.any_eq_true]
  exact ⟨k, by simpa using hk, decide_eq_true h⟩
theorem extract_at (s : ByteArray) (i : Nat) (h : i < s.size) : s.extract i (i + 1) = ⟨#[s[i]]⟩ := by
  apply ByteArray.ext
  apply Array.ext
  · simp only [ByteArray.data_extract, Array.size_extract]
    have : s.data.size = s.size := rfl
    simp; omega
  · intro j h1 h2
    have hj : j = 0 := by simpa using h2
    subst hj
    simp
    rfl
theorem pmH_one (s : ByteArray) (c : UInt8) : pmH s ⟨#[c]⟩ = decide (c ∈ s.data.toList) := by
  rw [pmH, Bool.eq_iff_iff, List.any_eq_true, decide_eq_true_eq]
  constructor
  · rintro ⟨i, hi, h⟩
    have hi' : i < s.size := by simpa using hi
    have h' := of_decide_eq_true h
    rw [extract_at s i hi'] at h'
    have : s[i] = c := by simpa using h'
    rw [← this]
    exact List.getElem_mem (l := s.data.toList) (n := i) (by simpa using hi')
  · intro h
    obtain ⟨i, hi, e⟩ := List.getElem_of_mem h
    have hi' : i < s.size := by simpa using hi
    refine ⟨i, by simpa using hi', decide_eq_true ?_⟩
    rw [extract_at s i hi', ← e]
    rfl
theorem place_inj : ∀ p < 9, ∀ q < 9, placesL.getD q 0 = placesL.getD p 0 → q = p := by decide +kernel
theorem nm_byte (p : Nat) (hp : p < 9) : nm p = ⟨#[placesL.getD p 0]⟩ := by
  match p, hp with
  | 0, _ | 1, _ | 2, _ | 3, _ | 4, _ | 5, _ | 6, _ | 7, _ | 8, _ => decide +kernel
theorem pmH_names (h : Nat → Bool) (p : Nat) (hp : p < 9) : pmH (namesW h) (nm p) = h p := by
  rw [nm_byte p hp, pmH_one, Bool.eq_iff_iff, decide_eq_true_eq]
  unfold namesW namesL
  simp only [List.mem_map, List.mem_filter, List.mem_range]
  constructor
  · rintro ⟨q, ⟨hq, hh⟩, e⟩
    rw [place_inj p hp q hq e] at hh; exact hh
  · intro hh; exact ⟨p, ⟨hp, hh⟩, rfl⟩
theorem srcM_isS {xs : List Mv} (h : MV xs) {a : ByteArray} (ha : isP a = true) : isS (srcM xs a) = true := by
  unfold srcM
  cases hf : xs.find? (fun m => decide (m.1 = a)) with
  | none => show isS a = true; unfold isS; rw [ha]; rfl
  | some m =>
    have hm := h.1 m (List.mem_of_find?_eq_some hf)
    unfold mok at hm; rw [Bool.and_eq_true] at hm
    exact hm.2
theorem nm_of_isP {a : ByteArray} (h : isP a = true) : ∃ p, p < 9 ∧ a = nm p := by
  obtain ⟨c, rfl⟩ := one_of_size (isP_size h)
  have h2 : c ∈ placesL := by simpa [isP] using h
  simp only [placesL, List.mem_cons, List.not_mem_nil, or_false] at h2
  rcases h2 with rfl | rfl | rfl | rfl | rfl | rfl | rfl | rfl | rfl
  · exact ⟨0, by decide, by decide +kernel⟩
  · exact ⟨1, by decide, by decide +kernel⟩
  · exact ⟨2, by decide, by decide +kernel⟩
  · exact ⟨3, by decide, by decide +kernel⟩
  · exact ⟨4, by decide, by decide +kernel⟩
  · exact ⟨5, by decide, by decide +kernel⟩
  · exact ⟨6, by decide, by decide +kernel⟩
  · exact ⟨7, by decide, by decide +kernel⟩
  · exact ⟨8, by decide, by decide +kernel⟩
end Go.PM
namespace Go.Proofs.YthgcoocgeekdnaaGreatDoor
open Go.RowKit Go.PM
theorem pmH_rdrs {xs : List Mv} (h : MV xs) (a : ByteArray) (p : Nat) (hp : p < 9) : pmH (rdrs xs a) (nm p) = (decide (nm p ≠ a) && decide (srcM xs (nm p) = a)) := by
  rw [rdrs, ← rsH_rdH h, pmH_names _ p hp]; rfl
theorem pmH_source {xs : List Mv} (h : MV xs) {a : ByteArray} (ha : isP a = true) (hne : ¬ srcM xs a = a) : pmH (rdrs xs (srcM xs a)) a = true := by
  obtain ⟨p, hp, rfl⟩ := nm_of_isP ha
  rw [pmH_rdrs h _ p hp]
  have h1 : nm p ≠ srcM xs (nm p) := fun e => hne e.symm
  simp [h1]
theorem rdrs_size (xs : List Mv) (a : ByteArray) : (rdrs xs a).size ≤ 9 := namesL_size _ 9

set_option maxHeartbeats 800000 in
theorem pmHas_c (s c : ByteArray) (w : World) (hs : s.size ≤ 1000) :
    Calls Tryz.prog 15 #[.string s, .string c] w fun e w' => e = .returned (.bool (pmH s c)) ∧ Below w.heap.size w w' := by
  have HF : Hid (pmK s c s.size = pmH s c) := rfl
  go_enter Tryz.func15, Tryz.ntmps15
  go_wp2
  go_loopw [5, 8] (fun _ i wr => ∃ (k : Nat), k ≤ s.size ∧ i = .int .i64 k ∧ Hid (pmK s c k = false) ∧ Below w.heap.size w wr) (fun _ i _ => s.size - (intOf i).toNat)
  case atStart => exact ⟨0, by omega, rfl, rfl, Below.refl _ _⟩
  case round =>
    obtain ⟨k, hk, rfl, hp, hb⟩ := hrel
    have hbs := hb.size
    by_cases hlt : k < s.size
    · have i1 : (k : Int) < (s.size : Int) := by omega
      have HS := Lib.hid (pmK_succ s c k)
      have HY := Lib.hid (fun h => pmK_yes (s := s) (c := c) k hlt h)
      have hb2 := beq_str (s.extract k (k + 1)) c
      by_cases he : s.extract k (k + 1) = c
      · have H1 := Lib.hid (HY.out he)
        have q : ((s.extract k (k + 1)).toList == c.toList) = true := by rw [hb2, decide_eq_true he]
        clear hb2 he
        go_wp2
        go_ret
        exact ⟨by rw [H1.out]; rfl, hb⟩
      · have H1 : Hid (pmK s c (k + 1) = false) := by show _ = _; rw [HS.out, hp.out, decide_eq_false he]; rfl
        have q : ((s.extract k (k + 1)).toList == c.toList) = false := by rw [hb2, decide_eq_false he]
        clear hb2 he
        go_wp2
        go_roundw
        case rel => exact ⟨k + 1, by omega, by go_num, H1, hb⟩
        case measure => simp [intOf] <;> omega
    · have hk' : k = s.size := by omega
      have H1 : Hid (pmH s c = false) := by show _ = _; rw [← HF.out, ← hk']; exact hp.out
      clear hk'
      go_wp2
      go_ret
      exact ⟨by rw [H1.out]; rfl, hb⟩
end Go.Proofs.YthgcoocgeekdnaaGreatDoor
namespace Go.Proofs.YthgcoocgeekdnaaGreatDoor
open Go.RowKit Go.PM Go.PD Go.PF Go.PW
attribute [local go_sem] Oper.semAt_some
theorem cho0_parts : (⟨cho0.best.toArray⟩ : ByteArray) = ⟨#[]⟩ ∧ cho0.least = -1 := ⟨rfl, rfl⟩
theorem no_parts {n : Int} {cs : List ByteArray} (h : csOk n cs = false) : bpB n cs = ⟨#[]⟩ ∧ lcI n cs = -1 ∧ cbI n cs = -1 ∧ gpB n cs = ⟨#[]⟩ := by
  have e := cho_no h
  refine ⟨?_, ?_, ?_, ?_⟩
  · unfold bpB; rw [e]; rfl
  · unfold lcI; rw [e]; rfl
  · unfold cbI; rw [e]; rfl
  · unfold gpB; rw [h]; rfl
theorem yes_parts {n : Int} {cs : List ByteArray} (h : csOk n cs = true) : 0 ≤ lcI n cs ∧ 1 ≤ cbI n cs ∧ (mustN cs : Int) ≤ lcI n cs := by
  obtain ⟨_, _, _, k4, _, k6, k7⟩ := best_good h
  refine ⟨k4, ?_, k7⟩
  unfold cbI
  rw [if_neg (by omega)]
  omega
/-- the arguments of calls that are no register, up to a call and a place in it -/
def muN (cs : List ByteArray) (k : Nat) : Nat := mustN (cs.take k)
def mwN (c : ByteArray) (i : Nat) : Nat := (c.data.toList.take i).countP noReg
theorem muN_succ (cs : List ByteArray) (k : Nat) (hk : k < cs.length) : muN cs (k + 1) = muN cs k + mwN cs[k] cs[k].size := by
  have e : cs[k].data.toList.take cs[k].size = cs[k].data.toList := List.take_of_length_le (by rw [size_data]; exact Nat.le_refl _)
  unfold muN mwN mustN
  rw [take_snoc cs k hk, List.map_append, List.sum_append, e]
  simp
theorem mwN_succ (c : ByteArray) (i : Nat) (hi : i < c.size) : mwN c (i + 1) = mwN c i + if pmH ⟨#[97, 98, 99, 100, 101, 102]⟩ (c.extract i (i + 1)) then 0 else 1 := by
  have h1 : i < c.data.toList.length := by rw [size_data]; exact hi
  unfold mwN
  rw [take_snoc _ i h1, List.countP_append, List.countP_singleton, extract_at c i hi, pmH_one]
  have e : (c.data.toList[i]) = c[i] := rfl
  rw [e]
  unfold noReg
  have e2 : ((⟨#[97, 98, 99, 100, 101, 102]⟩ : ByteArray).data.toList) = regsL := rfl
  rw [e2]
  by_cases hm : c[i] ∈ regsL
  · rw [decide_eq_true hm]; rfl
  · rw [decide_eq_false hm]; rfl
theorem mwN_le (c : ByteArray) (i : Nat) : mwN c i ≤ i := by
  have h1 := List.countP_le_length (l := c.data.toList.take i) (p := noReg)
  have h2 : (c.data.toList.take i).length ≤ i := by rw [List.length_take]; omega
  exact Nat.le_trans h1 h2

theorem muN_le {cs : List ByteArray} (h : ∀ c ∈ cs, c.size ≤ 4) : ∀ k, k ≤ cs.length → muN cs k ≤ 4 * k
  | 0, _ => by show mustN (cs.take 0) ≤ 0; simp [mustN]
  | k + 1, hk => by
    have h1 := muN_le h k (by omega)
    have h2 := muN_succ cs k (by omega)
    have h3 := mwN_le cs[k] cs[k].size
    have h4 := h _ (List.getElem_mem (show k < cs.length by omega))
    omega
theorem gpB_size (n : Int) (cs : List ByteArray) : (gpB n cs).size ≤ 4 := by
  cases h : csOk n cs with
  | false => rw [(no_parts h).2.2.2]; decide
  | true =>
    obtain ⟨_, k2⟩ := gre_good h
    obtain ⟨_, h4, _, _⟩ := cs_at h
    have e : gpB n cs = ⟨(grF cs n.toNat).toArray⟩ := by unfold gpB; rw [h]; rfl
    rw [e]
    show (grF cs n.toNat).toArray.size ≤ 4
    rw [List.size_toArray]; omega
set_option maxRecDepth 100000 in
set_option maxHeartbeats 12800000 in
theorem exBestParams_g (K : World → Prop) (hK : ∀ w w', K w → Below w.heap.size w w' → K w')
    (iB : ∀ n cs v W, K W → RdT W v cs → drS n cs → Calls Tryz.prog 5 #[.int .i64 n, v] W fun e w' => e = .returned (.tuple #[.string (bpB n cs), .bool (decide (0 ≤ lcI n cs))]) ∧ Below W.heap.size W w')
    (iL : ∀ n cs v W, K W → RdT W v cs → drS n cs → Calls Tryz.prog 7 #[.int .i64 n, v] W fun e w' => e = .returned (.int .i64 (lcI n cs)) ∧ Below W.heap.size W w')
    (iC : ∀ n cs v W, K W → RdT W v cs → drS n cs → Calls Tryz.prog 8 #[.int .i64 n, v] W fun e w' => e = .returned (.int .i64 (cbI n cs)) ∧ Below W.heap.size W w')
    (iG : ∀ n cs v W, K W → RdT W v cs → drS n cs → Calls Tryz.prog 9 #[.int .i64 n, v] W fun e w' => e = .returned (.tuple #[.string (gpB n cs), .bool (csOk n cs)]) ∧ Below W.heap.size W w')
    (iV : ∀ n cs v W, K W → RdT W v cs → drS n cs → Calls Tryz.prog 13 #[.int .i64 n, v] W fun e w' => e = .returned (.bool (csOk n cs)) ∧ Below W.heap.size W w')
    (iT : ∀ ps cs v W, K W → RdT W v cs → prS ps cs → Calls Tryz.prog 16 #[.string ps, v] W fun e w' => e = .returned (.int .i64 (tcI ps.data.toList cs)) ∧ Below W.heap.size W w')
    (iI : ∀ ps cs v W, K W → RdT W v cs → prS ps cs → Calls Tryz.prog 17 #[.string ps, v] W fun e w' => e = .returned (.bool (ibB ps cs)) ∧ Below W.heap.size W w')
    (w : World) (v0 : Value) (n0 : Nat) (hv : RdB w w.heap.size v0 n0) (hT : K w) :
    Calls Tryz.prog 3 #[v0] w fun e w' => e = .returned (.bool true) ∧ Below w.heap.size w w' := by
  have hv0 := hv
  obtain ⟨A, cap, rfl, hc, hn, _⟩ := hv
  by_cases hbig : 1048576 < n0
  · have t : decide ((n0 : Int) > 1048576) = true := by simp; omega
    go_enter Tryz.func3, Tryz.ntmps3
    go_wp2
    go_ret
    exact ⟨rfl, Below.refl _ _⟩
  have t : decide ((n0 : Int) > 1048576) = false := by simp; omega
  have HD := Lib.hid (drawBestParams_c w _ n0 hv0)
  clear hv0
  go_enter Tryz.func3, Tryz.ntmps3
  go_wp2_with fail
  refine HD.out.mono ?_
  rintro e w1 ⟨n, v, cs, rfl, ho, hsh, b1⟩
  have hs1 := b1.size
  have hT1 := hK _ _ hT b1
  have hx : RdT w1 v cs := Rd.of_own ho
  have hz : ∀ c ∈ cs, c.size ≤ 1048576 := fun c hc => by have := hsh.out.2.2.2 c hc; omega
  have hl6 : cs.length ≤ 6 := hsh.out.2.2.1
  have hn' : cs.length ≤ 1048576 := by omega
  have HBI := Lib.hid (iB n cs v w1 hT1 hx hsh.out)
  have HBS := Lib.hid (fun W (hb : Below w1.heap.size w1 W) => spBestParams_c n cs v W (hx.below hb) hz hn')
  have HLI := Lib.hid (fun W (hb : Below w1.heap.size w1 W) => iL n cs v W (hK _ _ hT1 hb) (hx.below hb) hsh.out)
  have HLS := Lib.hid (fun W (hb : Below w1.heap.size w1 W) => spLeastCost_c n cs v W (hx.below hb) hz hn')
  have HCI := Lib.hid (fun W (hb : Below w1.heap.size w1 W) => iC n cs v W (hK _ _ hT1 hb) (hx.below hb) hsh.out)
  have HCS := Lib.hid (fun W (hb : Below w1.heap.size w1 W) => spCountBest_c n cs v W (hx.below hb) hz hn')
  have HGI := Lib.hid (fun W (hb : Below w1.heap.size w1 W) => iG n cs v W (hK _ _ hT1 hb) (hx.below hb) hsh.out)
  have HGS := Lib.hid (fun W (hb : Below w1.heap.size w1 W) => spGreedyParams_c n cs v W (hx.below hb) hz hn')
  have HVI := Lib.hid (fun W (hb : Below w1.heap.size w1 W) => iV n cs v W (hK _ _ hT1 hb) (hx.below hb) hsh.out)
  have HVS := Lib.hid (fun W (hb : Below w1.heap.size w1 W) => spCallsValid_c n cs v W (hx.below hb) hz hn')
  have HLC := Lib.hid (lc_ok n cs)
  rw [HLC.out] at HBI HBS
  rcases Bool.eq_false_or_eq_true (csOk n cs) with h1 | h1
  · obtain ⟨k1, k2, k3⟩ := yes_parts h1
    obtain ⟨k4, k5⟩ := tc_best h1
    obtain ⟨k6, k7⟩ := tc_greedy h1
    have hd3 := hsh.out.2.2
    have hc4 := hd3.2
    have h5 := (cs_at h1).2.2.1
    have P1 : prS (bpB n cs) cs := ⟨bpB_size n cs, hd3⟩
    have P2 : prS (gpB n cs) cs := ⟨gpB_size n cs, hd3⟩
    have HTB := Lib.hid (fun W (hb : Below w1.heap.size w1 W) => iT (bpB n cs) cs v W (hK _ _ hT1 hb) (hx.below hb) P1)
    have HTG := Lib.hid (fun W (hb : Below w1.heap.size w1 W) => iT (gpB n cs) cs v W (hK _ _ hT1 hb) (hx.below hb) P2)
    have HIB := Lib.hid (fun W (hb : Below w1.heap.size w1 W) => iI (bpB n cs) cs v W (hK _ _ hT1 hb) (hx.below hb) P1)
    have HIG := Lib.hid (fun W (hb : Below w1.heap.size w1 W) => iI (gpB n cs) cs v W (hK _ _ hT1 hb) (hx.below hb) P2)
    have HPM := Lib.hid (fun c W => pmHas_c ⟨#[97, 98, 99, 100, 101, 102]⟩ c W (by decide))
    have HMS := Lib.hid (fun k hk => muN_succ cs k hk)
    have HWS := Lib.hid (fun c i hi => mwN_succ c i hi)
    have HML := Lib.hid (fun k hk => muN_le hc4 k hk)
    have HWL := Lib.hid (fun c i => mwN_le c i)
    have HM0 : Hid (muN cs 0 = 0) := rfl
    have HW0 : Hid (∀ c, mwN c 0 = 0) := fun c => rfl
    have HMF : Hid (muN cs cs.length = mustN cs) := by show _ = _; unfold muN; rw [List.take_length]
    rw [k4] at HTB
    rw [k5] at HIB
    rw [k7] at HIG
    obtain ⟨B, cap2, rfl, _, _, hcell⟩ := hx.open
    rw [h1] at HBI HBS HGI HGS HVI HVS
    clear HD hsh hx hz HLC h1 k4 k5 k7 hT hT1 iB iL iC iG iV iT iI ho P1 P2 hd3
    generalize bpB n cs = bs at *
    generalize tcI (gpB n cs).data.toList cs = tg at *
    generalize gpB n cs = gs at *
    generalize lcI n cs = ll at *
    generalize cbI n cs = cb at *
    generalize mustN cs = mm at *
    have q1 : (bs.toList == bs.toList) = true := by simp
    have q2 : (gs.toList == gs.toList) = true := by simp
    have q3 : (ll == ll) = true := by simp
    have q4 : (cb == cb) = true := by simp
    have q5 : (ll != ll) = false := by simp
    have q6 : (cb != cb) = false := by simp
    have q7 : (!(bs.toList == bs.toList)) = false := by simp
    have q8 : (!(gs.toList == gs.toList)) = false := by simp
    go_wp2_with fail
    refine HBI.out.mono ?_
    rintro e w2 ⟨rfl, B2⟩
    go_wp2_with fail
    refine (HBS.out _ B2).mono ?_
    rintro e w3 ⟨rfl, b3⟩
    have B3 : Below w1.heap.size w1 w3 := B2.trans (b3.mono B2.size)
    clear B2 b3
    go_wp2_with fail
    refine (HLI.out _ B3).mono ?_
    rintro e w4 ⟨rfl, b4⟩
    have B4 : Below w1.heap.size w1 w4 := B3.trans (b4.mono B3.size)
    clear B3 b4
    go_wp2_with fail
    refine (HCI.out _ B4).mono ?_
    rintro e w5 ⟨rfl, b5⟩
    have B5 : Below w1.heap.size w1 w5 := B4.trans (b5.mono B4.size)
    clear B4 b5
    go_wp2_with fail
    refine (HGI.out _ B5).mono ?_
    rintro e w6 ⟨rfl, b6⟩
    have B6 : Below w1.heap.size w1 w6 := B5.trans (b6.mono B5.size)
    clear B5 b6
    go_wp2_with fail
    refine (HGS.out _ B6).mono ?_
    rintro e w7 ⟨rfl, b7⟩
    have B7 : Below w1.heap.size w1 w7 := B6.trans (b7.mono B6.size)
    clear B6 b7
    go_wp2_with fail
    refine (HLS.out _ B7).mono ?_
    rintro e w8 ⟨rfl, b8⟩
    have B8 : Below w1.heap.size w1 w8 := B7.trans (b8.mono B7.size)
    clear B7 b8
    go_wp2_with fail
    refine (HCS.out _ B8).mono ?_
    rintro e w9 ⟨rfl, b9⟩
    have B9 : Below w1.heap.size w1 w9 := B8.trans (b9.mono B8.size)
    clear B8 b9
    go_wp2_with fail
    refine (HVI.out _ B9).mono ?_
    rintro e w10 ⟨rfl, b10⟩
    have B10 : Below w1.heap.size w1 w10 := B9.trans (b10.mono B9.size)
    clear B9 b10
    go_wp2_with fail
    refine (HVS.out _ B10).mono ?_
    rintro e w11 ⟨rfl, b11⟩
    have B11 : Below w1.heap.size w1 w11 := B10.trans (b11.mono B10.size)
    clear B10 b11
    clear HBI HBS HLI HLS HCI HCS HGI HGS HVI HVS
    go_wp2
    go_loopw [15, 17, 18, 160] (fun o _ _ i wr => ∃ (k : Nat), k ≤ cs.length ∧ i = .int .i64 k ∧ o = .int .i64 (muN cs k : Int) ∧ Below w1.heap.size w1 wr) (fun _ _ _ i _ => cs.length - (RowKit.intOf i).toNat)
    case atStart => exact ⟨0, by omega, rfl, by rw [HM0.out]; rfl, B11⟩
    case round =>
      clear B11
      obtain ⟨k, hk, rfl, rfl, hb⟩ := hrel
      have hbs := hb.size
      by_cases hlt : k < cs.length
      · obtain ⟨b, off, rfl, hbl, hc1⟩ := hcell k hlt
        have hd1 := (hb.cell (p := ⟨b, off + k, none⟩) hbl).trans hc1
        have HMK := Lib.hid (HMS.out k hlt)
        have hmk := HML.out k hk
        have hck := hc4 _ (List.getElem_mem hlt)
        have i0 : (0 : Int) ≤ (k : Int) := by omega
        have i1 : (k : Int) < (cs.length : Int) := by omega
        obtain ⟨nx, HNX⟩ : ∃ nx, Hid (muN cs (k + 1) = nx) := ⟨_, rfl⟩
        rw [HNX.out] at HMK
        clear hc1 hcell HMS HML HM0 HMF
        generalize muN cs k = cur at *
        generalize cs[k] = q at *
        have HWQ := Lib.hid (fun i hi => HWS.out q i hi)
        have HWLQ := Lib.hid (fun i => HWL.out q i)
        have HW0Q := Lib.hid (HW0.out q)
        clear HWS HWL HW0
        go_wp2
        go_loopw [15, 18, 166] (fun o _ i wr => ∃ (j : Nat), j ≤ q.size ∧ i = .int .i64 j ∧ o = .int .i64 ((cur + mwN q j : Nat) : Int) ∧ Below w1.heap.size w1 wr) (fun _ _ i _ => q.size - (RowKit.intOf i).toNat)
        case atStart => exact ⟨0, by omega, rfl, by rw [HW0Q.out]; rfl, hb⟩
        case round =>
          clear hb hbs
          obtain ⟨j, hj, rfl, rfl, hb⟩ := hrel
          have hbs := hb.size
          by_cases hlj : j < q.size
          · have hwj := HWQ.out j hlj
            have hwl := HWLQ.out j
            have HP := Lib.hid (fun W => HPM.out (q.extract j (j + 1)) W)
            have j0 : (0 : Int) ≤ (j : Int) := by omega
            have j1 : (j : Int) < (q.size : Int) := by omega
            obtain ⟨nw, HNW⟩ : ∃ nw, Hid (mwN q (j + 1) = nw) := ⟨_, rfl⟩
            rw [HNW.out] at hwj
            generalize mwN q j = cw at *
            cases hp : pmH ⟨#[97, 98, 99, 100, 101, 102]⟩ (q.extract j (j + 1)) with
            | true =>
              rw [hp] at hwj HP
              have HS : Hid (nw = cw) := hwj
              clear hp hwj HPM
              go_wp2_with fail
              refine (HP.out _).mono ?_
              rintro e w20 ⟨rfl, b20⟩
              have B20 : Below w1.heap.size w1 w20 := hb.trans (b20.mono hbs)
              go_wp2
              go_roundw
              case rel => exact ⟨j + 1, by omega, by go_num, by rw [HNW.out, HS.out]; go_num, B20⟩
              case measure => simp [RowKit.intOf]; omega
            | false =>
              rw [hp] at hwj HP
              have HS : Hid (nw = cw + 1) := hwj
              clear hp hwj HPM
              go_wp2_with fail
              refine (HP.out _).mono ?_
              rintro e w20 ⟨rfl, b20⟩
              have B20 : Below w1.heap.size w1 w20 := hb.trans (b20.mono hbs)
              go_wp2
              go_roundw
              case rel => exact ⟨j + 1, by omega, by go_num, by rw [HNW.out, HS.out]; go_num, B20⟩
              case measure => simp [RowKit.intOf]; omega
          · have HJ : Hid (j = q.size) := by show _ = _; omega
            have j1 : ¬ (j : Int) < (q.size : Int) := by omega
            go_wp2
            go_roundw
            case rel => exact ⟨k + 1, by omega, by go_num, by rw [HNX.out, HMK.out, HJ.out], hb⟩
            case measure => simp [RowKit.intOf]; omega
      · have HKE : Hid (k = cs.length) := by show _ = _; omega
        have i1 : ¬ (k : Int) < (cs.length : Int) := by omega
        have hmu : muN cs k = mm := by rw [HKE.out]; exact HMF.out
        rw [hmu]
        clear hmu hlt hk HMS HML HMF HM0 HWS HWL HW0 hcell HPM
        have f1 : decide (tg ≥ ll) = true := decide_eq_true k6
        have f2 : decide (cb ≥ 1) = true := decide_eq_true k2
        have f3 : decide (ll ≥ (mm : Int)) = true := decide_eq_true k3
        go_wp2_with fail
        refine (HTG.out _ hb).mono ?_
        rintro e w21 ⟨rfl, b21⟩
        have B21 : Below w1.heap.size w1 w21 := hb.trans (b21.mono hbs)
        go_wp2_with fail
        refine (HTB.out _ B21).mono ?_
        rintro e w22 ⟨rfl, b22⟩
        have B22 : Below w1.heap.size w1 w22 := B21.trans (b22.mono B21.size)
        go_wp2_with fail
        refine (HIB.out _ B22).mono ?_
        rintro e w23 ⟨rfl, b23⟩
        have B23 : Below w1.heap.size w1 w23 := B22.trans (b23.mono B22.size)
        clear b21 b22 b23 B21 B22 HTG HTB HIB
        by_cases he : tg = ll
        · rw [decide_eq_true he] at HIG
          have r1 : (tg == ll) = true := by simpa using he
          clear he
          go_wp2_with fail
          refine (HIG.out _ B23).mono ?_
          rintro e w24 ⟨rfl, b24⟩
          have B24 : Below w1.heap.size w1 w24 := B23.trans (b24.mono B23.size)
          go_wp2
          go_ret
          exact ⟨rfl, b1.trans (B24.mono hs1)⟩
        · rw [decide_eq_false he] at HIG
          have r1 : (tg == ll) = false := by simpa using he
          clear he
          go_wp2_with fail
          refine (HIG.out _ B23).mono ?_
          rintro e w24 ⟨rfl, b24⟩
          have B24 : Below w1.heap.size w1 w24 := B23.trans (b24.mono B23.size)
          go_wp2
          go_ret
          exact ⟨rfl, b1.trans (B24.mono hs1)⟩
  · obtain ⟨k1, k2, k3, k4⟩ := no_parts h1
    rw [h1, k1] at HBI HBS
    rw [k2] at HLI HLS
    rw [k3] at HCI HCS
    rw [h1, k4] at HGI HGS
    rw [h1] at HVI HVS
    clear HD hsh hx hz HLC h1 k1 k2 k3 k4 hT hT1 iB iL iC iG iV iT iI ho
    go_wp2_with fail
    refine HBI.out.mono ?_
    rintro e w2 ⟨rfl, B2⟩
    go_wp2_with fail
    refine (HBS.out _ B2).mono ?_
    rintro e w3 ⟨rfl, b3⟩
    have B3 : Below w1.heap.size w1 w3 := B2.trans (b3.mono B2.size)
    clear B2 b3
    go_wp2_with fail
    refine (HLI.out _ B3).mono ?_
    rintro e w4 ⟨rfl, b4⟩
    have B4 : Below w1.heap.size w1 w4 := B3.trans (b4.mono B3.size)
    clear B3 b4
    go_wp2_with fail
    refine (HCI.out _ B4).mono ?_
    rintro e w5 ⟨rfl, b5⟩
    have B5 : Below w1.heap.size w1 w5 := B4.trans (b5.mono B4.size)
    clear B4 b5
    go_wp2_with fail
    refine (HGI.out _ B5).mono ?_
    rintro e w6 ⟨rfl, b6⟩
    have B6 : Below w1.heap.size w1 w6 := B5.trans (b6.mono B5.size)
    clear B5 b6
    go_wp2_with fail
    refine (HGS.out _ B6).mono ?_
    rintro e w7 ⟨rfl, b7⟩
    have B7 : Below w1.heap.size w1 w7 := B6.trans (b7.mono B6.size)
    clear B6 b7
    go_wp2_with fail
    refine (HLS.out _ B7).mono ?_
    rintro e w8 ⟨rfl, b8⟩
    have B8 : Below w1.heap.size w1 w8 := B7.trans (b8.mono B7.size)
    clear B7 b8
    go_wp2_with fail
    refine (HCS.out _ B8).mono ?_
    rintro e w9 ⟨rfl, b9⟩
    have B9 : Below w1.heap.size w1 w9 := B8.trans (b9.mono B8.size)
    clear B8 b9
    go_wp2_with fail
    refine (HVI.out _ B9).mono ?_
    rintro e w10 ⟨rfl, b10⟩
    have B10 : Below w1.heap.size w1 w10 := B9.trans (b10.mono B9.size)
    clear B9 b10
    go_wp2_with fail
    refine (HVS.out _ B10).mono ?_
    rintro e w11 ⟨rfl, b11⟩
    have B11 : Below w1.heap.size w1 w11 := B10.trans (b11.mono B10.size)
    clear B10 b11
    go_wp2_with fail
    refine (HLS.out _ B11).mono ?_
    rintro e w12 ⟨rfl, b12⟩
    have B12 : Below w1.heap.size w1 w12 := B11.trans (b12.mono B11.size)
    clear B11 b12
    go_wp2_with fail
    refine (HCS.out _ B12).mono ?_
    rintro e w13 ⟨rfl, b13⟩
    have B13 : Below w1.heap.size w1 w13 := B12.trans (b13.mono B12.size)
    clear B12 b13
    go_wp2_with fail
    refine (HVI.out _ B13).mono ?_
    rintro e w14 ⟨rfl, b14⟩
    have B14 : Below w1.heap.size w1 w14 := B13.trans (b14.mono B13.size)
    clear B13 b14
    go_wp2_with fail
    refine (HVS.out _ B14).mono ?_
    rintro e w15 ⟨rfl, b15⟩
    have B15 : Below w1.heap.size w1 w15 := B14.trans (b15.mono B14.size)
    clear B14 b15
    go_wp2
    go_ret
    exact ⟨rfl, b1.trans (B15.mono hs1)⟩
end Go.Proofs.YthgcoocgeekdnaaGreatDoor
namespace Go.PM
open Go.RowKit
variable {F : Fence} {n : Nat} {P : Program}
theorem KeepsNew.alloc {B : Nat} (W : World) (o : Obj) : KeepsNew B W (W.alloc o) := KeepsNew.below ((Below.refl _ _).alloc (Nat.le_refl _) _)
theorem KeepsNew.block {B : Nat} {W W' : World} (h : KeepsNew B W W') {k : Nat} {o : Obj} (hB : B ≤ k) (hk : W.heap[k]? = some o) : W'.heap[k]? = some o := (h.same k hB (Array.getElem?_eq_some_iff.1 hk).1).trans hk
/-- The function gf, called with mk of a yield, hands the elements of xs to it one behind the other, and stops where a round says no. What the caller keeps (Pr) may be read; a round leaves all blocks that were laid since the call as they were. -/
def IterK {α : Type} (Pr : World → Prop) (F : Fence) (n : Nat) (P : Program) (gf : Nat) (mk : Value → Array Value) (encs : α → Array Value) (xs : List α) : Prop :=
  ∀ (l : Nat) (J Jx : List α → World → Prop) (W : World),
    OwnFrom W.heap.size J → OwnFrom W.heap.size Jx → (∀ pre A, J pre A → Pr A) →
    (∀ pre x A, J pre A → W.heap.size ≤ A.heap.size → pre ++ [x] <+: xs → YieldAt F (n - 1) P l (encs x) A fun e A' =>
      (e = .returned (.bool true) ∧ J (pre ++ [x]) A' ∧ KeepsNew W.heap.size A A') ∨ (e = .returned (.bool false) ∧ Jx (pre ++ [x]) A' ∧ KeepsNew W.heap.size A A')) →
    J [] W →
    CallsIn F n P gf (mk (.func (.yield l) #[] #[])) W fun e W' => (∃ v, e = .returned v) ∧ (J xs W' ∨ ∃ pre, pre <+: xs ∧ Jx pre W')
def postK {α : Type} (B : Nat) (I : List α → World → Prop) (Ix : Code → List α → World → Prop) (xs : List α) (W : World) : Exit → Act → World → Prop
  | .normal, _, W' => I xs W' ∧ KeepsNew B W W'
  | .ret, _, W' => Ix .ret xs W' ∧ KeepsNew B W W'
  | .exit id, _, W' => Ix (.exit id) xs W' ∧ KeepsNew B W W'
  | .goto t, _, W' => Ix (.goto t) xs W' ∧ KeepsNew B W W'
  | .panic _, _, _ => False
  | .outgrown, _, _ => False
theorem range_lawK {α : Type} {Pr : World → Prop} {g : Operand} {ps : Array Tmp} {assign body : Code} {Q : Exit → Act → World → Prop} {a : Act} {w : World} (hro : F.round = none) (h1 : 1 ≤ n)
    {gf : Nat} {lf lb : Array Value} (hg : a.eval g = .func (.func gf) lf lb) (hFg : F.fn gf) (eg : ∀ args w, (callFunc gf args).run P w = .ok (.enter gf args) w)
    {encs : α → Array Value} {xs : List α} (hit : IterK Pr F (n - 1) P gf (fun y => lf ++ #[y] ++ lb) encs xs) (hps : ∀ x, (encs x).size = ps.size)
    (I : List α → World → Prop) (Ix : Code → List α → World → Prop) (hPr : ∀ pre A, I pre A → Pr A) (hI : OwnFrom w.heap.size I) (hIx : ∀ c, OwnFrom w.heap.size (Ix c)) (h0 : I [] w) (Ax : α → Act → World → Prop) (hAx : ∀ x a', OwnFrom w.heap.size (fun (_ : Unit) W => Ax x a' W))
    (hassign : ∀ (l : Nat) (pre : List α) (x : α) (W : World) (K : Act → World → Prop), I pre W → pre ++ [x] <+: xs → w.heap.size + 2 ≤ W.heap.size → (∀ a' W', KeepsNew w.heap.size W W' → I pre W' → Ax x a' W' → K a' W') →
      assign.wpIn (F.inRound l) (n - 1 - 1) P (Exit.then K (fun _ _ _ => False)) { tmps := (ps.zip (encs x)).foldl (fun t (p, v) => t.setIfInBounds p v) a.tmps, defers := [] } W)
    (hbody : ∀ (l : Nat) (pre : List α) (x : α) (a' : Act) (W : World), I pre W → Ax x a' W → pre ++ [x] <+: xs → w.heap.size + 2 ≤ W.heap.size → body.wpIn (F.inRound l) (n - 1 - 1) P (postK w.heap.size I Ix (pre ++ [x]) W) a' W)
    (hdone : ∀ (D : Nat) (W : World), w.heap.size ≤ D → I xs W → W.heap[D]? = some (.deferred (some [])) → Q .normal { a with defers := { target := .collected D, args := #[] } :: a.defers } W)
    (hstop : ∀ (D : Nat) (c : Code) (pre : List α) (W : World), w.heap.size ≤ D → pre <+: xs → Ix c pre W → W.heap[D]? = some (.deferred (some [])) → c.wpIn F n P Q { a with defers := { target := .collected D, args := #[] } :: a.defers } W) :
    (Code.rangeFunc g ps assign body).wpIn F n P Q a w := by
  refine wpIn_rangeFunc fun fn hfn => ?_
  rw [hro]
  have key : ∃ rc : LoopState → Option Code → Loop, rc = fun s j => { state := s, pending := j, fn, tmps := a.tmps, params := ps, assign, body, defers := w.heap.size } := ⟨_, rfl⟩
  obtain ⟨rc, hrc⟩ := key
  let V := (w.alloc (.deferred (some []))).alloc (.loop (rc .ready none))
  let Bk : LoopState → Option Code → World → Prop := fun s j A => A.heap[w.heap.size + 1]? = some (.loop (rc s j)) ∧ A.heap[w.heap.size]? = some (.deferred (some []))
  have bkput : ∀ {s j s' j' A}, Bk s j A → Bk s' j' (A.putObj (w.heap.size + 1) (.loop (rc s' j'))) := fun h =>
    ⟨World.putObj_heap_same (Array.getElem?_eq_some_iff.1 h.1).1, (World.putObj_heap_other (by omega)).trans h.2⟩
  have hVs : V.heap.size = w.heap.size + 2 := by simp [V, World.size_alloc]
  have bknew : ∀ {s j A A' row}, Bk s j A → A.grownBy A' row → (∀ r, row = some r → V.heap.size ≤ r ∧ ∃ o : Obj, A.heap[r]? = some o ∧ o.isCells = false) → Bk s j A' := fun h hg' hr =>
    ⟨(hg'.block _ (Array.getElem?_eq_some_iff.1 h.1).1 (fun e => by have := (hr _ e.symm).1; omega)).trans h.1, (hg'.block _ (Array.getElem?_eq_some_iff.1 h.2).1 (fun e => by have := (hr _ e.symm).1; omega)).trans h.2⟩
  have hV : Bk .ready none V := by
    refine ⟨?_, ?_⟩
    · have := World.alloc_heap_new (w.alloc (.deferred (some []))) (.loop (rc .ready none)); rwa [World.size_alloc] at this
    · exact (Below.heap_alloc _ _ _ (by simp)).trans (World.alloc_heap_new w _)
  have hIV : I [] V := hI.alloc _ (hI.alloc _ h0)
  refine ⟨w.heap.size + 1, [{ target := .collected w.heap.size, args := #[] }], V, { target := .fn (.func gf) lb, args := lf ++ #[.func (.yield (w.heap.size + 1)) #[] #[]] }, V, gf,
    lf ++ #[.func (.yield (w.heap.size + 1)) #[] #[]] ++ lb, V, ?_, ?_, ?_, ?_, fun _ => h1, ?_⟩
  · have := run_enterLoop_outer (P := P) (w := w) fn a.tmps ps assign body
    rw [this]; simp only [V, hrc]
  · simp only [resolve, hg]
    simp [go_sem]
  · intro f' hf'
    simp [Target.leads] at hf'
    subst hf'; exact hFg
  · simp [invoke, go_sem, eg]
  refine (hit (w.heap.size + 1) (fun pre A => I pre A ∧ Bk .ready none A) (fun pre A => ∃ c, Ix c pre A ∧ Bk .done (some c) A) V
    (fun pre A A' row h hg' hr => ⟨hI pre A A' row h.1 hg' (fun r e => ⟨by have := (hr r e).1; omega, (hr r e).2⟩), bknew h.2 hg' hr⟩)
    (fun pre A A' row ⟨c, h, hb⟩ hg' hr => ⟨c, hIx c pre A A' row h hg' (fun r e => ⟨by have := (hr r e).1; omega, (hr r e).2⟩), bknew hb hg' hr⟩) (fun pre A h => hPr pre A h.1) ?_ ⟨hIV, hV⟩).mono ?_
  · rintro pre x A ⟨hi, hb⟩ hsz hpx
    have hy := run_yield (P := P) (args := encs x) hb.1 (by rw [hrc]; exact hps x)
    rw [hrc] at hy
    refine ⟨fn, _, assign, body, hy, roundIn_of_wpIn hfn (hassign _ pre x A _ hi hpx (by omega) ?_)⟩
    intro a' Wa hkn hia hax
    have hlt := (Array.getElem?_eq_some_iff.1 hb.1).1
    replace hb : Bk .ready none Wa := ⟨(hkn.same _ (by omega) hlt).trans hb.1, (hkn.same _ (Nat.le_refl _) (by omega)).trans hb.2⟩
    clear hy hi
    refine ⟨_, run_beginRound hb.1 (by rw [hrc]), ?_⟩
    have hszA : A.heap.size ≤ Wa.heap.size := hkn.size
    have hb2 : Bk .busy none (Wa.putObj (w.heap.size + 1) (.loop (rc .busy none))) := bkput hb
    have e2 : ({ rc .ready none with state := .busy } : Loop) = rc .busy none := by rw [hrc]
    rw [e2]
    have hsP : (Wa.putObj (w.heap.size + 1) (.loop (rc .busy none))).heap.size = Wa.heap.size := by simp [World.putObj]
    refine wpIn_mono (hbody _ pre x a' _ (hI.putObj _ hia (by omega) hb.1 rfl) ((hAx x a').putObj (s := ()) _ hax (by omega) hb.1 rfl) hpx (by omega)) ?_
    have fin : ∀ (j : Option Code) (C : World), KeepsNew w.heap.size (Wa.putObj (w.heap.size + 1) (.loop (rc .busy none))) C →
        (Instr.endRound (w.heap.size + 1) j).run P C = .ok (.bool j.isNone) (C.putObj (w.heap.size + 1) (.loop (rc (if j.isNone then .ready else .done) j))) ∧ Bk .busy none C := fun j C hk => by
      have h1 := hk.block (by omega) hb2.1
      have h2 := hk.block (Nat.le_refl _) hb2.2
      have h3 := run_endRound (P := P) j h1
      refine ⟨?_, h1, h2⟩
      rw [h3]; rw [hrc]
    have kfin : ∀ (o : Obj) (C : World), KeepsNew w.heap.size (Wa.putObj (w.heap.size + 1) (.loop (rc .busy none))) C → KeepsNew V.heap.size A (C.putObj (w.heap.size + 1) o) := fun o C hk => by
      refine ⟨by have := hk.size; rw [hsP] at this; simp [World.putObj] at this ⊢; omega, fun k hk1 hk2 => ?_⟩
      rw [World.putObj_heap_other (by omega), hk.same k (by omega) (by omega), World.putObj_heap_other (by omega)]
      exact hkn.same k (by omega) hk2
    rintro e a3 C hp
    cases e with
    | normal =>
      obtain ⟨hi3, hk⟩ := hp
      obtain ⟨hr, hb3⟩ := fin none C hk
      exact ⟨_, _, hr, .inl ⟨rfl, ⟨hI.putObj _ hi3 (by omega) hb3.1 rfl, bkput hb3⟩, kfin _ C hk⟩⟩
    | ret =>
      obtain ⟨hi3, hk⟩ := hp
      obtain ⟨hr, hb3⟩ := fin (some .ret) C hk
      exact ⟨_, _, hr, .inr ⟨rfl, ⟨.ret, (hIx _).putObj _ hi3 (by omega) hb3.1 rfl, bkput hb3⟩, kfin _ C hk⟩⟩
    | exit id =>
      obtain ⟨hi3, hk⟩ := hp
      obtain ⟨hr, hb3⟩ := fin (some (.exit id)) C hk
      exact ⟨_, _, hr, .inr ⟨rfl, ⟨.exit id, (hIx _).putObj _ hi3 (by omega) hb3.1 rfl, bkput hb3⟩, kfin _ C hk⟩⟩
    | goto t =>
      obtain ⟨hi3, hk⟩ := hp
      obtain ⟨hr, hb3⟩ := fin (some (.goto t)) C hk
      exact ⟨_, _, hr, .inr ⟨rfl, ⟨.goto t, (hIx _).putObj _ hi3 (by omega) hb3.1 rfl, bkput hb3⟩, kfin _ C hk⟩⟩
    | panic ch => exact hp.elim
    | outgrown => exact hp.elim
  · rintro e C ⟨⟨v, rfl⟩, (⟨hi, hb⟩ | ⟨pre, hp, c, hi, hb⟩)⟩
    · have h3 := run_endLoop (P := P) hb.1 (by rw [hrc]; simp)
      refine ⟨none, _, by rw [h3, hrc], hdone _ _ (Nat.le_refl _) (hI.putObj _ hi (by omega) hb.1 rfl) ((World.putObj_heap_other (by omega)).trans hb.2)⟩
    · have h3 := run_endLoop (P := P) hb.1 (by rw [hrc]; simp)
      refine ⟨some c, _, by rw [h3, hrc], hstop _ c pre _ (Nat.le_refl _) hp ((hIx c).putObj _ hi (by omega) hb.1 rfl) ((World.putObj_heap_other (by omega)).trans hb.2)⟩
/-- The same where the assignment lays nothing. -/
theorem range_lawK1 {α : Type} {Pr : World → Prop} {g : Operand} {ps : Array Tmp} {assign body : Code} {Q : Exit → Act → World → Prop} {a : Act} {w : World} (hro : F.round = none) (h1 : 1 ≤ n)
    {gf : Nat} {lf lb : Array Value} (hg : a.eval g = .func (.func gf) lf lb) (hFg : F.fn gf) (eg : ∀ args w, (callFunc gf args).run P w = .ok (.enter gf args) w)
    {encs : α → Array Value} {xs : List α} (hit : IterK Pr F (n - 1) P gf (fun y => lf ++ #[y] ++ lb) encs xs) (hps : ∀ x, (encs x).size = ps.size)
    (I : List α → World → Prop) (Ix : Code → List α → World → Prop) (hPr : ∀ pre A, I pre A → Pr A) (hI : OwnFrom w.heap.size I) (hIx : ∀ c, OwnFrom w.heap.size (Ix c)) (h0 : I [] w) (a₁ : α → Act)
    (hassign : ∀ (l : Nat) (x : α) (W : World) (K : Act → World → Prop), K (a₁ x) W →
      assign.wpIn (F.inRound l) (n - 1 - 1) P (Exit.then K (fun _ _ _ => False)) { tmps := (ps.zip (encs x)).foldl (fun t (p, v) => t.setIfInBounds p v) a.tmps, defers := [] } W)
    (hbody : ∀ (l : Nat) (pre : List α) (x : α) (W : World), I pre W → pre ++ [x] <+: xs → w.heap.size + 2 ≤ W.heap.size → body.wpIn (F.inRound l) (n - 1 - 1) P (postK w.heap.size I Ix (pre ++ [x]) W) (a₁ x) W)
    (hdone : ∀ (D : Nat) (W : World), w.heap.size ≤ D → I xs W → W.heap[D]? = some (.deferred (some [])) → Q .normal { a with defers := { target := .collected D, args := #[] } :: a.defers } W)
    (hstop : ∀ (D : Nat) (c : Code) (pre : List α) (W : World), w.heap.size ≤ D → pre <+: xs → Ix c pre W → W.heap[D]? = some (.deferred (some [])) → c.wpIn F n P Q { a with defers := { target := .collected D, args := #[] } :: a.defers } W) :
    (Code.rangeFunc g ps assign body).wpIn F n P Q a w :=
  range_lawK hro h1 hg hFg eg hit hps I Ix hPr hI hIx h0 (fun x a' _ => a' = a₁ x) (fun _ _ _ _ _ _ h _ _ => h)
    (fun l _ x W K hi _ _ hK => hassign l x W K (hK _ _ (KeepsNew.refl _ _) hi rfl)) (fun l pre x a' W hi ha hp hs => by subst ha; exact hbody l pre x W hi hp hs) hdone hstop
end Go.PM
namespace Go.PF
open Go.PM Go.PD Go.RowKit Go.Lib
/-- a row of texts of which some are there already -/
def rowS (done : List ByteArray) (n : Nat) : List Value := tcells done ++ List.replicate (n - done.length) (.string ⟨#[]⟩)
theorem rowS_zero (n : Nat) : rowS [] n = (List.replicate n [Value.string ⟨#[]⟩]).flatten := by
  unfold rowS tcells
  simp only [List.map_nil, List.nil_append, List.length_nil, Nat.sub_zero]
  induction n with
  | zero => rfl
  | succ n ih => rw [List.replicate_succ, List.replicate_succ, List.flatten_cons, ← ih]; rfl
theorem rowS_at {done : List ByteArray} {n : Nat} (h : done.length < n) : (rowS done n)[done.length]? = some (.string ⟨#[]⟩) := by
  unfold rowS
  have hl : (tcells done).length = done.length := tcells_length done
  rw [List.getElem?_append_right (by omega), hl, Nat.sub_self, List.getElem?_replicate, if_pos (by omega)]
theorem rowS_set {done : List ByteArray} {n : Nat} (h : done.length < n) (q : ByteArray) : (rowS done n).set done.length (.string q) = rowS (done ++ [q]) n := by
  unfold rowS
  have hl : (tcells done).length = done.length := tcells_length done
  rw [List.set_append_right _ _ (by omega), hl, Nat.sub_self, tcells_append, show n - done.length = (n - (done ++ [q]).length) + 1 by rw [List.length_append, List.length_singleton]; omega, List.replicate_succ, List.set_cons_zero]
  simp [tcells]
theorem rowS_full {done : List ByteArray} {n : Nat} (h : done.length = n) : rowS done n = tcells done := by
  unfold rowS
  rw [h, Nat.sub_self]; simp
/-- pieces and what is left of a text -/
def PcI (l : List UInt8) (done : List ByteArray) (r : ByteArray) : Prop := done.flatMap (·.data.toList) ++ r.data.toList = l
theorem PcI_start (s : ByteArray) : PcI s.data.toList [] s := rfl
theorem PcI_step {l : List UInt8} {done : List ByteArray} {r : ByteArray} (h : PcI l done r) (k : Nat) (_hk : k ≤ r.size) : PcI l (done ++ [r.extract 0 k]) (r.extract k r.size) := by
  unfold PcI at h ⊢
  rw [← h, List.flatMap_append, List.append_assoc]
  congr 1
  rw [List.flatMap_singleton, extract_data, extract_data, List.drop_zero, Nat.sub_zero]
  have : (r.data.toList.drop k).take (r.size - k) = r.data.toList.drop k := List.take_of_length_le (by rw [List.length_drop, size_data]; exact Nat.le_refl _)
  rw [this, List.take_append_drop]
theorem PcI_end {l : List UInt8} {done : List ByteArray} {r : ByteArray} (h : PcI l done r) : (done ++ [r]).flatMap (·.data.toList) = l := by
  unfold PcI at h
  rw [List.flatMap_append, List.flatMap_singleton]
  exact h
theorem dec_le (s : ByteArray) : (Lib.decodeGo s).2 ≤ s.size := by
  by_cases h : s.size = 0
  · simp [Lib.decodeGo, h]
  · have e : Lib.decodeGo s = Utf8.decode s 0 := if_neg h
    rw [e, Lib.decode_at]
    unfold Lib.decodeN
    repeat' split
    all_goals (first | (show (1 : Nat) ≤ _; omega) | (show (2 : Nat) ≤ _; omega) | (show (3 : Nat) ≤ _; omega) | (show (4 : Nat) ≤ _; omega))
theorem chars_ch (s : ByteArray) : Lib.charsB s = s.data.toList.map ch := by
  apply List.ext_getElem
  · rw [List.length_map, size_data]
    exact Lib.charsUpTo_length s s.size
  · intro k h1 h2
    have hk : k < s.size := by rw [List.length_map, size_data] at h2; exact h2
    simp only [Lib.charsB, Lib.charsUpTo, List.getElem_map, List.getElem_range]
    rw [extract_one s k hk, List.getD_eq_getElem?_getD, List.getElem?_eq_getElem (by rw [size_data]; exact hk)]
    rfl
end Go.PF
namespace Go.Proofs.YthgcoocgeekdnaaGreatDoor
open Go.RowKit Go.PM Go.PD Go.PF
/-- the library's tables of UTF-8 lie in memory as its text has them -/
def U8w (w : World) : Prop := Lib.Utf8Tabs 1 2 w
theorem U8w.below {w w' : World} (h : U8w w) (hb : Below w.heap.size w w') : U8w w' := Utf8Tabs_below h hb
abbrev u8ren : Go.Shelf.Ren := Tryz.lays260_ren
theorem u8lays : Go.Proofs.Lays.n260 Tryz.prog u8ren := Tryz.lays260
theorem infoU8 : (Tryz.prog.info? 9).map (fun i => (i.zero, i.size, i.bytes)) = some (some (.string ⟨#[]⟩), 1, 16) := by kernel_rfl
theorem iter_below (w : World) (s : ByteArray) (p : Nat) : Below w.heap.size w (w.iter s p) := (Below.refl _ _).alloc (Nat.le_refl _) _
set_option maxRecDepth 100000 in
set_option maxHeartbeats 2000000 in
theorem explode_any (s : ByteArray) (hs : s.size ≤ 1048576) (w : World) (hT : U8w w) :
    Calls Tryz.prog 80 #[.string s, .int .i64 (-1)] w fun e w' => ∃ (A : Option Addr) (qs : List ByteArray), e = .returned (.slice A qs.length qs.length) ∧ RdT w' (.slice A qs.length qs.length) qs ∧ qs.length ≤ 1048576 ∧ (qs = [] ∨ qs.flatMap (·.data.toList) = s.data.toList) ∧ Below w.heap.size w w' := by
  have HC := Lib.hid (Tryz.utf8_RuneCountInString s w (by omega))
  have hle := Lib.runeCount_le s
  have HD := Lib.hid (fun (r : ByteArray) W (hb : Below w.heap.size w W) => Tryz.utf8_DecodeRuneInString r W (hT.below hb))
  have HDL := Lib.hid (fun r => dec_le r)
  have HP0 := Lib.hid (PcI_start s)
  have HPS := Lib.hid (fun done r h k hk => PcI_step (l := s.data.toList) (done := done) (r := r) h k hk)
  have HPE := Lib.hid (fun done r h => PcI_end (l := s.data.toList) (done := done) (r := r) h)
  generalize Lib.runeCount s = N at *
  generalize s.data.toList = l at *
  obtain ⟨i0, hi0, hz0, hz1, hz2⟩ := info_parts infoU8
  have hmk := fun W : World => run_make (P := Tryz.prog) W 23 9 i0 _ Tryz.underlying23 hi0 hz0 .i64 .i64 N N (by omega) (Int.le_refl _) (by rw [hz2]; omega) (by omega)
  simp only [Int.toNat_natCast, hz1] at hmk
  go_enter Tryz.func80, Tryz.ntmps80
  go_wp2_with fail
  refine HC.out.mono ?_
  rintro e w1 ⟨rfl, pos, rfl⟩
  have hb1 := iter_below w s pos
  have hs1 := hb1.size
  generalize w.iter s pos = w1 at *
  have hO := own_made w1 w.heap.size 9 #[Value.string ⟨#[]⟩] 1 N rfl (by omega) (by omega) hs1
  have hB : Below w.heap.size w (w1.alloc (Obj.cells (madeCells #[Value.string ⟨#[]⟩] (N * 1)) 9)) := hb1.alloc hs1 _
  rw [Nat.mul_one] at hmk hO hB
  go_wp2
  generalize (w1.alloc (Obj.cells (madeCells #[Value.string ⟨#[]⟩] N) 9)) = W1 at *
  go_loopw [0, 7, 8, 9] (fun r i _ _ wr => ∃ (done : List ByteArray) (q : ByteArray), (done = [] ∨ done.length + 1 ≤ N) ∧ i = .int .i64 done.length ∧ r = .string q ∧ q.size ≤ 1048576 ∧ Hid (PcI l done q) ∧ wr.ownsRow w.heap.size 9 1 (.slice (some ⟨w1.heap.size, 0, none⟩) N N) N (rowS done N) ∧ Below w.heap.size w wr) (fun _ i _ _ _ => N - (RowKit.intOf i).toNat)
  case atStart => exact ⟨[], s, .inl rfl, rfl, rfl, hs, HP0.out, by rw [rowS_zero]; exact hO, hB⟩
  case round =>
    clear hO hB
    obtain ⟨done, q, hdn, rfl, rfl, hqs, hp, ho, hb⟩ := hrel
    have hbs := hb.size
    by_cases hlt : done.length + 1 < N
    · have t0 : ((done.length : Nat) : Int) < (N : Int) - 1 := by omega
      have hdl := HDL.out q
      have HDC := Lib.hid (HD.out q wr hb)
      have HS := Lib.hid (fun k hk => HPS.out done q hp.out k hk)
      generalize (Lib.decodeGo q).1 = R at *
      generalize (Lib.decodeGo q).2 = K at *
      go_wp2_with fail
      refine HDC.out.mono ?_
      rintro e w2 ⟨rfl, hb2⟩
      have hbw := hb.trans (hb2.mono hbs)
      have ho2 := own_keep ho hb2
      have hf1 := ho2.frozenAt done.length
      have hq1 := (ho2.cellAt done.length (by omega)).trans (rowS_at (by omega))
      have i0 : (0 : Int) ≤ (K : Int) := by omega
      have i1 : (K : Int) ≤ (q.size : Int) := by omega
      have i2 : ((done.length : Nat) : Int) < (N : Int) := by omega
      have hlg := (own_lt ho2).1
      clear hb hb2 ho
      go_wp2
      go_roundw
      case rel =>
        refine ⟨done ++ [q.extract 0 K], q.extract K q.size, .inr (by rw [List.length_append, List.length_singleton]; omega), by rw [List.length_append, List.length_singleton]; go_num, rfl, by rw [ByteArray.size_extract]; omega, HS.out K hdl, ?_, ?_⟩
        · rw [← rowS_set (by omega)]
          exact (ho2.stored done.length _).1
        · exact hbw.setCell (by simp; omega) _
      case measure => simp [RowKit.intOf]; omega
    · have t0 : ¬ ((done.length : Nat) : Int) < (N : Int) - 1 := by omega
      by_cases hN : N = 0
      · subst hN
        have hd : done = [] := by
          rcases hdn with h | h
          · exact h
          · omega
        subst hd
        have hR := Rd.of_own ho
        rw [rowS_full (by rfl)] at hR
        go_wp2
        go_ret
        exact ⟨_, [], rfl, hR, by simp, .inl rfl, hb⟩
      · have hdl : done.length + 1 = N := by
          rcases hdn with h | h
          · subst h; simp at hlt ⊢; omega
          · omega
        have t1 : (0 : Int) < (N : Int) := by omega
        have t2 : (N : Int) - 1 = ((done.length : Nat) : Int) := by omega
        have i2 : ((done.length : Nat) : Int) < (N : Int) := by omega
        have hf1 := ho.frozenAt done.length
        have hq1 := (ho.cellAt done.length (by omega)).trans (rowS_at (by omega))
        have hlg := (own_lt ho).1
        have ho3 := (ho.stored done.length (.string q)).1
        rw [rowS_set (by omega), rowS_full (by rw [List.length_append, List.length_singleton]; omega)] at ho3
        have hR := Rd.of_own ho3
        have HE := Lib.hid (HPE.out done q hp.out)
        have hbw := hb.setCell (p := ⟨w1.heap.size, done.length, none⟩) hs1 (.string q)
        have hql : (done ++ [q]).length = N := by rw [List.length_append, List.length_singleton]; omega
        have HL := Lib.hid hql
        clear ho ho3 hlt hdn hql
        go_wp2
        go_ret
        exact ⟨_, done ++ [q], by rw [HL.out]; rfl, by rw [HL.out]; unfold RdT; rw [HL.out]; exact hR, by rw [HL.out]; omega, .inr HE.out, hbw⟩
theorem split_any (s : ByteArray) (hs : s.size ≤ 1048576) (w : World) (hT : U8w w) :
    Calls Tryz.prog 56 #[.string s, .string ⟨#[]⟩] w fun e w' => ∃ (A : Option Addr) (qs : List ByteArray), e = .returned (.slice A qs.length qs.length) ∧ RdT w' (.slice A qs.length qs.length) qs ∧ qs.length ≤ 1048576 ∧ (qs = [] ∨ qs.flatMap (·.data.toList) = s.data.toList) ∧ Below w.heap.size w w' := by
  have HX := Lib.hid (explode_any s hs w hT)
  have HG : Hid (Calls Tryz.prog 68 #[.string s, .string ⟨#[]⟩, .int .i64 0, .int .i64 (-1)] w fun e w' => ∃ (A : Option Addr) (qs : List ByteArray), e = .returned (.slice A qs.length qs.length) ∧ RdT w' (.slice A qs.length qs.length) qs ∧ qs.length ≤ 1048576 ∧ (qs = [] ∨ qs.flatMap (·.data.toList) = s.data.toList) ∧ Below w.heap.size w w') := by
    show Calls _ _ _ _ _
    go_enter Tryz.func68, Tryz.ntmps68
    go_wp2_with fail
    refine HX.out.mono ?_
    rintro e w1 ⟨A, qs, rfl, h1, h2, h3, h4⟩
    go_wp2
    go_ret
    exact ⟨A, qs, rfl, h1, h2, h3, h4⟩
  clear HX
  go_enter Tryz.func56, Tryz.ntmps56
  go_wp2_with fail
  refine HG.out.mono ?_
  rintro e w1 ⟨A, qs, rfl, h1, h2, h3, h4⟩
  go_wp2
  go_ret
  exact ⟨A, qs, rfl, h1, h2, h3, h4⟩
theorem rdT_new (w : World) (ts : List ByteArray) (t : TypeId) (h : ts.length ≤ 1048576) : RdT (w.alloc (.cells (ts.map Value.string).toArray t)) (.slice (some ⟨w.heap.size, 0, none⟩) ts.length ts.length) ts := by
  refine ⟨_, _, rfl, Nat.le_refl _, by omega, by rw [tcells_length]; omega, fun _ => ⟨w.heap.size, 0, rfl, by simp, fun j u hj => ?_⟩⟩
  have hA : At (w.alloc (.cells (ts.map Value.string).toArray t)) w.heap.size t (ts.map Value.string).toArray := At.new _ _ _
  rw [Nat.zero_add, hA.cell j, List.getElem?_toArray]
  exact hj
theorem split_c (s : ByteArray) (hs : s.size ≤ 1048576) (w : World) (hT : U8w w) :
    Calls Tryz.prog 56 #[.string s, .string ⟨#[]⟩] w fun e w' => ∃ (A : Option Addr) (qs : List ByteArray), e = .returned (.slice A qs.length qs.length) ∧ RdT w' (.slice A qs.length qs.length) qs ∧ qs.length ≤ 1048576 ∧ Pcs s.data.toList qs ∧ Below w.heap.size w w' := by
  by_cases hc : ∃ c ∈ s.data.toList, ¬ c.toNat < 128
  · refine (split_any s hs w hT).mono ?_
    rintro e w1 ⟨A, qs, h0, h1, h2, h3, h4⟩
    exact ⟨A, qs, h0, h1, h2, .inr ⟨hc, h3⟩, h4⟩
  · refine (Tryz.strings_Split_chars s ⟨#[]⟩ w rfl (by omega) (fun j b hj => ?_)).mono ?_
    · refine Classical.byContradiction fun hn => hc ⟨b, List.mem_of_getElem? hj, hn⟩
    · rintro e w1 ⟨rfl, rfl⟩
      have hl : (s.data.toList.map ch).length = s.size := by rw [List.length_map, size_data]
      refine ⟨some ⟨(w.iter s s.size).heap.size, 0, none⟩, s.data.toList.map ch, by rw [hl], ?_, by rw [hl]; exact hs, .inl rfl, ?_⟩
      · have := rdT_new (w.iter s s.size) (s.data.toList.map ch) 9 (by rw [hl]; exact hs)
        rw [chars_ch]
        exact this
      · exact (iter_below w s s.size).alloc (iter_below w s s.size).size _
end Go.Proofs.YthgcoocgeekdnaaGreatDoor
namespace Go.Proofs.YthgcoocgeekdnaaGreatDoor
open Go.RowKit Go.PM Go.PD Go.Lib
theorem areReg_c (s : ByteArray) (w : World) :
    Calls Tryz.prog 47 #[.string s] w fun e w' => e = .returned (.bool (decide (s.data.toList.Nodup ∧ ∀ c ∈ s.data.toList, c ∈ regsL))) ∧ w = w' := by
  have HPL : Hid (∀ W, Calls Tryz.prog 57 #[.string ⟨#[97, 98, 99, 100, 101, 102]⟩, .string s] W fun e w' => e = .returned (.string (rgB s.data.toList)) ∧ W = w') := fun W => namesIn_c ⟨#[97, 98, 99, 100, 101, 102]⟩ s (by decide) W
  have HD : Hid (decide (s.data.toList.Nodup ∧ ∀ c ∈ s.data.toList, c ∈ regsL) = decide ((rgB s.data.toList).size = s.size)) := by
    show _ = _
    rw [decide_eq_decide, ← rg_full, size_data]
  rw [HD.out]
  generalize rgB s.data.toList = rg at *
  by_cases h1 : rg.size = s.size
  · have t1 : ((rg.size : Int) == (s.size : Int)) = true := by simp [h1]
    rw [decide_eq_true h1]
    clear h1 HD
    go_enter Tryz.func47, Tryz.ntmps47
    go_wp2_with (go_at_call 57; refine (HPL.out _).mono ?_; rintro e w' ⟨rfl, rfl⟩)
    go_ret
    exact ⟨rfl, rfl⟩
  · have t1 : ((rg.size : Int) == (s.size : Int)) = false := by simp; omega
    rw [decide_eq_false h1]
    clear h1 HD
    go_enter Tryz.func47, Tryz.ntmps47
    go_wp2_with (go_at_call 57; refine (HPL.out _).mono ?_; rintro e w' ⟨rfl, rfl⟩)
    go_ret
    exact ⟨rfl, rfl⟩
end Go.Proofs.YthgcoocgeekdnaaGreatDoor
namespace Go.PM
open Go.RowKit
/-- the table with the sources of the first k places in it -/
def mix (f : Nat → ByteArray) (k : Nat) : Nat → ByteArray := fun q => if q < k then srcT f q else f q
theorem mix_zero (f : Nat → ByteArray) : mix f 0 = f := by funext q; simp [mix]
theorem mix_at (f : Nat → ByteArray) (k : Nat) : srcT (mix f k) k = srcT f k := by simp [srcT, mix]
theorem mix_set (f : Nat → ByteArray) (k : Nat) (hk : k < 9) : (tabA (mix f k)).setIfInBounds k (.string (srcT f k)) = tabA (mix f (k + 1)) := by
  have h := tabC_set (mix f k) k hk (srcT f k)
  have e : (fun q => if q = k then srcT f k else mix f k q) = mix f (k + 1) := by
    funext q
    by_cases hq : q = k
    · subst hq; simp [mix]
    · by_cases h2 : q < k
      · simp [mix, hq, h2, Nat.lt_succ_of_lt h2]
      · have : ¬ q < k + 1 := by omega
        simp [mix, hq, h2, this]
  rw [e] at h
  exact h
end Go.PM
namespace Go.Proofs.YthgcoocgeekdnaaGreatDoor
open Go.RowKit Go.PM
attribute [local go_sem] Oper.semAt_some

end Go.Proofs.YthgcoocgeekdnaaGreatDoor
namespace Go.PM
open Go.RowKit
/-- a table of which the first k places have turned -/
def mixG (h f : Nat → ByteArray) (k : Nat) : Nat → ByteArray := fun q => if q < k then h q else f q
theorem mixG_zero (h f : Nat → ByteArray) : mixG h f 0 = f := by funext q; simp [mixG]
theorem mixG_at (h f : Nat → ByteArray) (k : Nat) : mixG h f k k = f k := by simp [mixG]
theorem mixG_src (h f : Nat → ByteArray) (k : Nat) : srcT (mixG h f k) k = srcT f k := by simp [srcT, mixG]
theorem mixG_set (h f : Nat → ByteArray) (k : Nat) (hk : k < 9) : (tabA (mixG h f k)).setIfInBounds k (.string (h k)) = tabA (mixG h f (k + 1)) := by
  have h1 := tabC_set (mixG h f k) k hk (h k)
  have e : (fun q => if q = k then h k else mixG h f k q) = mixG h f (k + 1) := by
    funext q
    by_cases hq : q = k
    · subst hq; simp [mixG]
    · by_cases h2 : q < k
      · simp [mixG, hq, h2, Nat.lt_succ_of_lt h2]
      · have : ¬ q < k + 1 := by omega
        simp [mixG, hq, h2, this]
  rw [e] at h1
  exact h1
theorem mixG_same (h f : Nat → ByteArray) (k : Nat) (e : h k = f k) : mixG h f (k + 1) = mixG h f k := by
  funext q
  by_cases hq : q = k
  · subst hq; simp [mixG, e]
  · by_cases h2 : q < k
    · simp [mixG, h2, Nat.lt_succ_of_lt h2]
    · have : ¬ q < k + 1 := by omega
      simp [mixG, h2, this]
theorem tabC_all (f : Nat → ByteArray) : (tabC f).all (·.oneCell') = true := by simp [tabC, Value.oneCell']
theorem tabX_mixG (h f : Nat → ByteArray) : tabX (mixG h f 9) = tabX h := rfl
end Go.PM
namespace Go.Proofs.YthgcoocgeekdnaaGreatDoor
open Go.RowKit Go.PM Go.Lib
attribute [local go_sem] Oper.semAt_some

end Go.Proofs.YthgcoocgeekdnaaGreatDoor
namespace Go.Proofs.YthgcoocgeekdnaaGreatDoor
open Go.RowKit Go.PM Go.Lib
attribute [local go_sem] Oper.semAt_some

end Go.Proofs.YthgcoocgeekdnaaGreatDoor
namespace Go.PM
open Go.RowKit
theorem SVal_then {f g : Nat → ByteArray} (h1 : SVal (srcT f)) (h2 : SVal (srcT g)) : SVal (srcT (thenF f g)) := by
  intro p hp
  rw [srcT_then]
  exact SVal_cmp h1 h2 p hp
theorem SVal_tab {xs : List Mv} (h : MV xs) : SVal (srcT (tabOf xs)) := by
  intro p hp
  rw [srcT_M h hp]
  exact SVal_M h p hp
theorem SVal_zero : SVal (srcT fun _ => emp) := fun _ h => isS_nm h
/-- what the loop of power holds: what is done, what is left -/
structure PwR (f : Nat → ByteArray) (N : Nat) (d x : Nat → ByteArray) (k : Nat) : Prop where
  inv : PwInv f N d x k
  dv : SVal (srcT d)
  xv : SVal (srcT x)
theorem PwR.start {f : Nat → ByteArray} (h : SVal (srcT f)) (N : Nat) : PwR f N (fun _ => emp) f N := ⟨PwInv_start f N, SVal_zero, h⟩
theorem PwR.odd {f d x : Nat → ByteArray} {N n : Nat} (h : PwR f N d x n) (h1 : n % 2 = 1) : PwR f N (thenF d x) (thenF x x) (n / 2) := ⟨PwInv_odd h.inv h1, SVal_then h.dv h.xv, SVal_then h.xv h.xv⟩
theorem PwR.even {f d x : Nat → ByteArray} {N n : Nat} (h : PwR f N d x n) (h1 : n % 2 = 0) : PwR f N d (thenF x x) (n / 2) := ⟨PwInv_even h.inv h1, h.dv, SVal_then h.xv h.xv⟩
theorem PwR.done {f d x : Nat → ByteArray} {N : Nat} (h : PwR f N d x 0) : ∀ p, p < 9 → srcT d p = pwF (srcT f) N p := fun _ hp => PwInv_end h.inv hp
end Go.PM
namespace Go.Proofs.YthgcoocgeekdnaaGreatDoor
open Go.RowKit Go.PM

end Go.Proofs.YthgcoocgeekdnaaGreatDoor
namespace Go.PM
open Go.RowKit
def zS : Nat → UInt8 := fun _ => 0
abbrev zSA : Array Value := #[.int .u8 0, .int .u8 0, .int .u8 0, .int .u8 0, .int .u8 0, .int .u8 0, .int .u8 0, .int .u8 0, .int .u8 0, .int .u8 0, .int .u8 0]
theorem stC_zS : stC zS = zSA := by simp [stC, zS]
def stOf (s : ByteArray) : Nat → UInt8 := if stateV s then ofB s else zS
theorem stOf_yes {s : ByteArray} (h : stateV s = true) : stOf s = ofB s := if_pos h
theorem stOf_no {s : ByteArray} (h : stateV s = false) : stOf s = zS := if_neg (by rw [h]; decide)
def valL (l : List UInt8) (k : Nat) : Bool := (l.take k).all isV
theorem valL_succ (l : List UInt8) (k : Nat) (hk : k < l.length) : valL l (k + 1) = (valL l k && isV l[k]) := by
  unfold valL; rw [take_snoc l k hk, List.all_append]; simp
def mixS (s : ByteArray) (k : Nat) : Nat → UInt8 := fun p => if p < k then ofB s p else 0
theorem mixS_zero (s : ByteArray) : mixS s 0 = zS := by funext p; simp [mixS, zS]
theorem mixS_succ (s : ByteArray) (k : Nat) : updS (mixS s k) k (ofB s k) = mixS s (k + 1) := by
  funext p
  unfold updS mixS
  by_cases h : p = k
  · subst h; simp
  · by_cases h2 : p < k
    · simp [h, h2, Nat.lt_succ_of_lt h2]
    · have : ¬ p < k + 1 := by omega
      simp [h, h2, this]
theorem mixS_full (s : ByteArray) : stC (mixS s 11) = stC (ofB s) := stC_congr fun p hp => by simp [mixS, hp]
end Go.PM
namespace Go.Proofs.YthgcoocgeekdnaaGreatDoor
open Go.RowKit Go.PM

end Go.Proofs.YthgcoocgeekdnaaGreatDoor
namespace Go.Proofs.YthgcoocgeekdnaaGreatDoor
open Go.RowKit Go.PM

/-- a whole array is read in a quiet region: the step -/
theorem row_step {P : Program} {ops : Array Oper} {C : World → Prop} {Q : Act → Prop} {a : Act} {o : Oper} {rest : List Oper} (hw : Region.wanted o (yielded ops a.tmps) = true) (ty : TypeId) (x : Operand) (ho : o.op = .load ty x) (b : Nat) (t : TypeId) (cs : Array Value)
    (hx : a.eval x = .pointer (some ⟨b, 0, none⟩)) (hC : ∀ W, C W → At W b t cs) (k : Nat) (e : TypeId) (hu : P.underlying ty = some (.array k e)) (hi : (P.info? ty).map (·.size) = some cs.size) (h : wpQuiet P ops C Q rest (a.put o.dst (.agg cs))) : wpQuiet P ops C Q (o :: rest) a :=
  BigFrame.wpQuiet_want hw fun _ hK => quiet_row ty x ho b t cs hx hC k e hu hi (hK _ h)

end Go.Proofs.YthgcoocgeekdnaaGreatDoor
namespace Go.PF
open Go.PM Go.PD Go.RowKit Go.Lib
theorem all_pre {α : Type} {p : α → Bool} {pre xs : List α} (h : pre <+: xs) (hn : pre.all p = false) : xs.all p = false := by
  obtain ⟨r, rfl⟩ := h
  rw [List.all_append, hn]; rfl
theorem kf_cells {B : Nat} {A A' : World} {row : Option Nat} (hg : A.grownBy A' row) (hr : ∀ g o, row = some g → B ≤ g → A.heap[g]? = some o → o.isCells = true) : KeepsFrom B A A' :=
  ⟨hg.size, fun k o hk h1 h2 => (hg.block k (Array.getElem?_eq_some_iff.1 h1).1 (fun e => by have := hr k o e.symm hk h1; rw [h2] at this; cases this)).trans h1⟩
theorem all_snoc {α : Type} (p : α → Bool) (pre : List α) (x : α) : (pre ++ [x]).all p = (pre.all p && p x) := by simp
end Go.PF
namespace Go.Proofs.YthgcoocgeekdnaaGreatDoor
open Go.RowKit Go.PM Go.PD Go.PF Go.Lib
attribute [local go_sem] Oper.semAt_some

theorem parValid_c (s : ByteArray) (w : World) :
    Calls Tryz.prog 29 #[.string s] w fun e w' => e = .returned (.bool (parOk s.data.toList)) ∧ w = w' := by
  have HR := Lib.hid (fun W => areReg_c s W)
  have HO : Hid (parOk s.data.toList = (decide (1 ≤ s.size ∧ s.size ≤ 4) && decide (s.data.toList.Nodup ∧ ∀ c ∈ s.data.toList, c ∈ regsL))) := by
    show _ = _
    unfold parOk
    rw [size_data]
  generalize parOk s.data.toList = po at *
  generalize decide (s.data.toList.Nodup ∧ ∀ c ∈ s.data.toList, c ∈ regsL) = rr at *
  by_cases h1 : 1 ≤ s.size
  · by_cases h2 : s.size ≤ 4
    · have t1 : (1 : Int) ≤ (s.size : Int) := by omega
      have t2 : (s.size : Int) ≤ 4 := by omega
      have HO2 : Hid (po = rr) := by show _ = _; rw [HO.out, decide_eq_true ⟨h1, h2⟩]; rfl
      clear HO h1 h2
      go_enter Tryz.func29, Tryz.ntmps29
      go_wp2_with (go_at_call 47; refine (HR.out _).mono ?_; rintro e w' ⟨rfl, rfl⟩)
      go_ret
      exact ⟨by rw [HO2.out]; rfl, rfl⟩
    · have t1 : (1 : Int) ≤ (s.size : Int) := by omega
      have t2 : ¬ (s.size : Int) ≤ 4 := by omega
      have HO2 : Hid (po = false) := by show _ = _; rw [HO.out, decide_eq_false (fun h => h2 h.2)]; rfl
      clear HO h1 h2
      go_enter Tryz.func29, Tryz.ntmps29
      go_wp2
      go_ret
      exact ⟨by rw [HO2.out]; rfl, rfl⟩
  · have t1 : ¬ (1 : Int) ≤ (s.size : Int) := by omega
    have HO2 : Hid (po = false) := by show _ = _; rw [HO.out, decide_eq_false (fun h => h1 h.1)]; rfl
    clear HO h1
    go_enter Tryz.func29, Tryz.ntmps29
    go_wp2
    go_ret
    exact ⟨by rw [HO2.out]; rfl, rfl⟩
theorem parName_c (s : ByteArray) (k : Nat) (hk : k < s.size) (hs : s.size ≤ 1048576) (w : World) :
    Calls Tryz.prog 67 #[.string s, .int .i64 k] w fun e w' => e = .returned (.string (s.extract k (k + 1))) ∧ w = w' := by
  have i0 : (0 : Int) ≤ (k : Int) := by omega
  have i1 : (k : Int) < (s.size : Int) := by omega
  have i2 : (k : Int) + 1 ≤ (s.size : Int) := by omega
  go_enter Tryz.func67, Tryz.ntmps67
  go_wp2
  go_ret
  exact ⟨rfl, rfl⟩
end Go.Proofs.YthgcoocgeekdnaaGreatDoor
namespace Go.Proofs.YthgcoocgeekdnaaGreatDoor
open Go.RowKit Go.PM Go.PD Go.PF
attribute [local go_sem] Oper.semAt_some

set_option maxRecDepth 100000 in
set_option maxHeartbeats 2000000 in
theorem parCall_c (s : ByteArray) (qs : List ByteArray) (A : Option Addr) (cap : Nat) (hs : s.size ≤ 1048576) (w : World) (hx : RdT w (.slice A qs.length cap) qs) (hq : qs.length ≤ 1048576) :
    Calls Tryz.prog 55 #[.string s, .slice A qs.length cap] w fun e w' => ∃ v', e = .returned (.tuple #[v', .bool (callOk s.data.toList qs)]) ∧ w'.ownsRow w.heap.size 98 2 v' (callL s.data.toList qs).length (mcells (callL s.data.toList qs)) ∧ Below w.heap.size w w' := by
  have HV := Lib.hid (fun W => parValid_c s W)
  have HOK : Hid (callOk s.data.toList qs = ((parOk s.data.toList && decide (qs.length = s.size)) && qs.all isS)) := by
    show _ = _
    unfold callOk
    rw [size_data]
  have HN0 := Lib.hid (fun h => callL_no (ps := s.data.toList) (qs := qs) h)
  have HY0 := Lib.hid (fun h => callL_yes (ps := s.data.toList) (qs := qs) h)
  have hown0 : ∀ W : World, W.ownsRow w.heap.size 98 2 (.slice none 0 0) ([] : List Mv).length (mcells []) := fun W => ⟨rfl, .inl ⟨rfl, rfl⟩⟩
  rcases Bool.eq_false_or_eq_true (parOk s.data.toList) with h1 | h1
  · by_cases h2 : qs.length = s.size
    · have hl4 : s.size ≤ 4 := by have := (par_len h1).2; rwa [size_data] at this
      have HXS : Hid (∀ k (hk : k < (pcM s.data.toList qs).length) (h2 : k < qs.length) (h3 : k < s.size), (pcM s.data.toList qs)[k] = (s.extract k (k + 1), qs[k])) := fun k hk h2 h3 => by
        have h4 : k < s.data.toList.length := by rw [size_data]; exact h3
        rw [pcM_at k hk h4 h2, extract_one s k h3, List.getD_eq_getElem?_getD, List.getElem?_eq_getElem h4]; rfl
      have HXL : Hid ((pcM s.data.toList qs).length = qs.length) := by show _ = _; rw [pcM_len (by rw [size_data]; exact h2), size_data, h2]
      have HOK2 : Hid (callOk s.data.toList qs = qs.all isS) := by show _ = _; rw [HOK.out, h1, decide_eq_true h2]; rfl
      have HNO : Hid (∀ k (hk : k < qs.length), isS qs[k] = false → callOk s.data.toList qs = false) := fun k hk h => by
        rw [HOK2.out, List.all_eq_false]
        exact ⟨_, List.getElem_mem hk, by rw [h]; decide⟩
      have HYES : Hid ((∀ k (hk : k < qs.length), isS qs[k] = true) → callOk s.data.toList qs = true) := fun h => by
        rw [HOK2.out, List.all_eq_true]
        intro q hq
        obtain ⟨k, hk, rfl⟩ := List.getElem_of_mem hq
        exact h k hk
      have HNM := Lib.hid (fun k hk W => parName_c s k hk hs W)
      rw [h1] at HV
      obtain ⟨A', cap', hA, hn, hc, hcell⟩ := hx.open
      obtain ⟨rfl, -, rfl⟩ : A = A' ∧ qs.length = qs.length ∧ cap = cap' := by
        injection hA with a1 a2 a3
        exact ⟨a1, a2, by omega⟩
      clear hx h1 HOK HOK2 hA
      generalize callOk s.data.toList qs = ok at *
      generalize callL s.data.toList qs = cl at *
      generalize pcM s.data.toList qs = xs at *
      obtain ⟨i0, hi0, hz0, hz1, hz2⟩ := info_parts infoMv
      have hmk := fun W : World => run_make (P := Tryz.prog) W 76 98 i0 _ Tryz.underlying76 hi0 hz0 .i64 .i64 qs.length qs.length (by omega) (Int.le_refl _) (by rw [hz2]; omega) (by omega)
      simp only [Int.toNat_natCast, hz1] at hmk
      have hO := own_made w w.heap.size 98 #[Value.string ⟨#[]⟩, Value.string ⟨#[]⟩] 2 qs.length rfl (by omega) (by omega) (Nat.le_refl _)
      have hB : Below w.heap.size w (w.alloc (Obj.cells (madeCells #[Value.string ⟨#[]⟩, Value.string ⟨#[]⟩] (qs.length * 2)) 98)) := (Below.refl _ _).alloc (Nat.le_refl _) _
      have HZ0 : Hid (half xs 0 = (List.replicate qs.length [Value.string ⟨#[]⟩, Value.string ⟨#[]⟩]).flatten) := by show _ = _; rw [half_zero, HXL.out]
      have t2 : (((qs.length : Nat) : Int) == ((s.size : Nat) : Int)) = true := by simp [h2]
      have t3 : (((qs.length : Nat) : Int) != ((s.size : Nat) : Int)) = false := by simp [h2]
      have H2 := Lib.hid h2
      clear h2
      go_enter Tryz.func55, Tryz.ntmps55
      go_wp2_with (go_at_call 29; refine (HV.out _).mono ?_; rintro e w' ⟨rfl, rfl⟩)
      generalize (w.alloc (Obj.cells (madeCells #[Value.string ⟨#[]⟩, Value.string ⟨#[]⟩] (qs.length * 2)) 98)) = W1 at *
      go_loopw [7, 8, 24] (fun _ _ i wr => ∃ (k : Nat), k ≤ qs.length ∧ i = .int .i64 k ∧ Hid (∀ j (hj : j < qs.length), j < k → isS qs[j] = true) ∧ wr.ownsRow w.heap.size 98 2 (.slice (some ⟨w.heap.size, 0, none⟩) qs.length qs.length) qs.length (half xs k) ∧ Below w.heap.size w wr) (fun _ _ i _ => qs.length - (RowKit.intOf i).toNat)
      case atStart => exact ⟨0, by omega, rfl, fun j _ hj => absurd hj (Nat.not_lt_zero j), by rw [HZ0.out]; exact hO, hB⟩
      case round =>
        clear hO hB
        obtain ⟨k, hk, rfl, hall, ho, hb⟩ := hrel
        have hbs := hb.size
        by_cases hlt : k < qs.length
        · obtain ⟨b, off, rfl, hbl, hc1⟩ := hcell k hlt
          have hd1 := (hb.cell (p := ⟨b, off + k, none⟩) hbl).trans hc1
          have hks : k < s.size := by have := H2.out; omega
          have hkx : k < xs.length := by rw [HXL.out]; exact hlt
          have hxk := HXS.out k hkx hlt hks
          have hset := half_set xs k hkx
          have hat := half_at xs k hkx
          rw [hxk] at hset
          have HSET := Lib.hid hset
          have HNK := Lib.hid (HNO.out k hlt)
          have HNX : Hid (isS qs[k] = true → ∀ j (hj : j < qs.length), j < k + 1 → isS qs[j] = true) := fun h j hj hjk => by
            by_cases e : j = k
            · subst e; exact h
            · exact hall.out j hj (by omega)
          have HIS := Lib.hid (fun W => isSource_c qs[k] W)
          have HNA := Lib.hid (HNM.out k hks)
          clear hc1 hcell hset hxk
          have hf1 := ho.frozenAt (k * 2)
          have hf2 := ho.frozenAt (k * 2 + 1)
          have hg1 := (ho.cellAt (k * 2) (by omega)).trans hat.1
          have hg2 := (ho.cellAt (k * 2 + 1) (by omega)).trans hat.2
          have hol := (own_lt ho).1
          have i0' : (0 : Int) ≤ (k : Int) := by omega
          have i1' : (k : Int) < (qs.length : Int) := by omega
          clear hat
          generalize qs[k] = q at *
          generalize s.extract k (k + 1) = nmk at *
          rcases Bool.eq_false_or_eq_true (isS q) with hs1 | hs1
          · rw [hs1] at HIS
            have HK := Lib.hid (HNX.out hs1)
            clear hs1
            go_wp2_with (first | (go_at_call 66; refine (HIS.out _).mono ?_; rintro e w' ⟨rfl, rfl⟩) | (go_at_call 67; refine (HNA.out _).mono ?_; rintro e w' ⟨rfl, rfl⟩))
            go_roundw
            case rel =>
              refine ⟨k + 1, by omega, by go_num, HK, ?_, ?_⟩
              · rw [← HSET.out]
                exact ((ho.stored (k * 2) _).1.stored (k * 2 + 1) _).1
              · exact (hb.setCell (Nat.le_refl _) _).setCell (Nat.le_refl _) _
            case measure => simp [RowKit.intOf]; omega
          · rw [hs1] at HIS
            have HK := Lib.hid (HNK.out hs1)
            clear hs1
            go_wp2_with (first | (go_at_call 66; refine (HIS.out _).mono ?_; rintro e w' ⟨rfl, rfl⟩))
            go_ret2
            exact ⟨_, by rw [HK.out]; rfl, by rw [HN0.out HK.out]; exact hown0 _, hb⟩
        · have HT : Hid (ok = true) := HYES.out fun j hj => hall.out j hj (by omega)
          have hk' : k = qs.length := by omega
          have ho2 := ho
          rw [hk', ← HXL.out, half_full] at ho2
          have HO3 : Hid (wr.ownsRow w.heap.size 98 2 (.slice (some ⟨w.heap.size, 0, none⟩) qs.length qs.length) xs.length (mcells xs)) := by
            have := ho2
            rw [show (Value.slice (some ⟨w.heap.size, 0, none⟩) xs.length xs.length) = (Value.slice (some ⟨w.heap.size, 0, none⟩) qs.length qs.length) by rw [HXL.out]] at this
            exact this
          have i1' : ¬ (k : Int) < (qs.length : Int) := by omega
          clear hcell ho2 ho hk'
          go_wp2
          go_ret2
          exact ⟨_, by rw [HT.out]; rfl, by rw [HY0.out HT.out]; exact HO3.out, hb⟩
    · have HK : Hid (callOk s.data.toList qs = false) := by show _ = _; rw [HOK.out, h1, decide_eq_false h2]; rfl
      have t2 : (((qs.length : Nat) : Int) == ((s.size : Nat) : Int)) = false := by simp; omega
      have t3 : (((qs.length : Nat) : Int) != ((s.size : Nat) : Int)) = true := by simp; omega
      rw [h1] at HV
      clear h1 h2 HOK
      go_enter Tryz.func55, Tryz.ntmps55
      go_wp2_with (go_at_call 29; refine (HV.out _).mono ?_; rintro e w' ⟨rfl, rfl⟩)
      go_ret2
      exact ⟨_, by rw [HK.out]; rfl, by rw [HN0.out HK.out]; exact hown0 _, Below.refl _ _⟩
  · have HK : Hid (callOk s.data.toList qs = false) := by show _ = _; rw [HOK.out, h1]; rfl
    rw [h1] at HV
    clear h1 HOK
    go_enter Tryz.func55, Tryz.ntmps55
    go_wp2_with (go_at_call 29; refine (HV.out _).mono ?_; rintro e w' ⟨rfl, rfl⟩)
    go_ret2
    exact ⟨_, by rw [HK.out]; rfl, by rw [HN0.out HK.out]; exact hown0 _, Below.refl _ _⟩
set_option maxHeartbeats 800000 in
theorem imMovesFor_c (ps az : ByteArray) (hp : ps.size ≤ 1048576) (ha : az.size ≤ 1048576) (w : World) (hT : U8w w) :
    Calls Tryz.prog 43 #[.string ps, .string az] w fun e w' => ∃ v', e = .returned (.tuple #[v', .bool (clOk ps.data.toList az.data.toList)]) ∧ w'.ownsRow w.heap.size 98 2 v' (clL ps.data.toList az.data.toList).length (mcells (clL ps.data.toList az.data.toList)) ∧ Below w.heap.size w w' := by
  have HS := Lib.hid (split_c az ha w hT)
  go_enter Tryz.func43, Tryz.ntmps43
  go_wp2_with fail
  refine HS.out.mono ?_
  rintro e w1 ⟨A, qs, rfl, hR, hq, hP, hb1⟩
  have hs1 := hb1.size
  obtain ⟨e1, e2⟩ := call_eq (ps := ps.data.toList) hP
  have HC := Lib.hid (parCall_c ps qs A qs.length hp w1 hR hq)
  rw [e1, e2] at HC
  clear hR hP e1 e2 hq
  go_wp2_with fail
  refine HC.out.mono ?_
  rintro e w2 ⟨v', rfl, ho, hb2⟩
  go_wp2
  go_ret2
  exact ⟨_, rfl, own_more ho hs1, hb1.trans (hb2.mono hs1)⟩
theorem imCallValid_c (ps az : ByteArray) (hp : ps.size ≤ 1048576) (ha : az.size ≤ 1048576) (w : World) (hT : U8w w) :
    Calls Tryz.prog 26 #[.string ps, .string az] w fun e w' => e = .returned (.bool (clOk ps.data.toList az.data.toList)) ∧ Below w.heap.size w w' := by
  have HS := Lib.hid (imMovesFor_c ps az hp ha w hT)
  generalize clOk ps.data.toList az.data.toList = ok at *
  go_enter Tryz.func26, Tryz.ntmps26
  go_wp2_with fail
  refine HS.out.mono ?_
  rintro e w1 ⟨v', rfl, ho, hb1⟩
  go_wp2
  go_ret
  exact ⟨rfl, hb1⟩
end Go.Proofs.YthgcoocgeekdnaaGreatDoor
namespace Go.Proofs.YthgcoocgeekdnaaGreatDoor
open Go.RowKit Go.PM Go.PD Go.PF
attribute [local go_sem] Oper.semAt_some

end Go.Proofs.YthgcoocgeekdnaaGreatDoor
