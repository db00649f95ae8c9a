import Derived.Test.YtngnbflkiiehmaaGreatDoorZo
import Derived.Test.YtngnbflkiiehmaaGreatDoorZg
import Derived.Test.YtngnbflkiiehmaaGreatDoorZh
import Derived.Test.YtngnbflkiiehmaaGreatDoorZj
import Derived.Test.YtngnbflkiiehmaaGreatDoorZk
import Derived.Test.YtngnbflkiiehmaaGreatDoorZn
import Derived.Test.YtngnbflkiiehmaaGreatDoorZl
namespace Go.Proofs.YtngnbflkiiehmaaGreatDoor
open Go.RowKit Go.Proofs.Sha

/-- The contracts that the law leans on, said by themselves. -/
structure Parts (hS : ByteArray → ByteArray → ByteArray → ByteArray → Int → ByteArray) (K : World → Prop) : Prop where
  dig : DigSaid
  enc1 : ∀ (k v l r : ByteArray) (n : Int) (w : World), k.size ≤ 1048576 → v.size ≤ 1048576 → l.size ≤ 1048576 → r.size ≤ 1048576 → Calls Tryz.prog 6 #[nodeV k v l r, .int .i64 n] w fun e w' => e = .returned (.string (encS k v l r n)) ∧ Below w.heap.size w w'
  enc2 : ∀ (k v l r : ByteArray) (n : Int) (w : World), k.size ≤ 1048576 → v.size ≤ 1048576 → l.size ≤ 1048576 → r.size ≤ 1048576 → Calls Tryz.prog 7 #[nodeV k v l r, .int .i64 n] w fun e w' => e = .returned (.string (encS k v l r n)) ∧ Below w.heap.size w w'
  hash : ∀ (k v l r : ByteArray) (n : Int) (w : World), k.size ≤ 1048576 → v.size ≤ 1048576 → l.size ≤ 1048576 → r.size ≤ 1048576 → K w → Calls Tryz.prog 8 #[nodeV k v l r, .int .i64 n] w fun e w' => e = .returned (.string (hS k v l r n)) ∧ Below w.heap.size w w'
  dec : ∀ (s : ByteArray) (n : Int) (w : World), s.size ≤ 1048576 → Calls Tryz.prog 9 #[.string s, .int .i64 n] w fun e w' => decPost s n e ∧ Below w.heap.size w w'
  com1 : ∀ (v : Int) (root : ByteArray) (w : World), root.size ≤ 1048576 → Calls Tryz.prog 11 #[.int .i64 v, .string root] w fun e w' => e = .returned (.string (commitRec v root)) ∧ Below w.heap.size w w'
  com2 : ∀ (v : Int) (root : ByteArray) (w : World), root.size ≤ 1048576 → Calls Tryz.prog 12 #[.int .i64 v, .string root] w fun e w' => e = .returned (.string (commitRec v root)) ∧ Below w.heap.size w w'
  node : ∀ (enc : ByteArray) (w : World), enc.size ≤ 1048576 → Calls Tryz.prog 13 #[.string enc] w fun e w' => e = .returned (.string (nodeRec enc)) ∧ Below w.heap.size w w'
  read : ∀ (s : ByteArray) (n : Int) (w : World), s.size ≤ 1048576 → Calls Tryz.prog 14 #[.string s, .int .i64 n] w fun e w' => readPost s n e ∧ Below w.heap.size w w'
  keep : ∀ w w' : World, K w → Below w.heap.size w w' → K w'
  hash0 : ∀ (k v l r : ByteArray) (n : Int), (encS k v l r n).size = 0 → hS k v l r n = ⟨#[]⟩
  hash1 : ∀ (k v l r : ByteArray) (n : Int), ¬ (encS k v l r n).size = 0 → hS k v l r n = ⟨((sha (78 :: (encS k v l r n).data.toList)).take n.toNat).toArray⟩

theorem encS_small (k v l r : ByteArray) (n : Int) : (encS k v l r n).size ≤ 2400 := by
  unfold encS
  split
  · rename_i h
    have ho := nodeOk_out h
    rw [T_size]
    unfold encL
    simp only [List.length_append, sized_length, List.length_cons, List.length_nil]
    have e1 : k.data.toList.length = k.size := rfl
    have e2 : v.data.toList.length = v.size := rfl
    have e3 : l.data.toList.length = l.size := rfl
    have e4 : r.data.toList.length = r.size := rfl
    omega
  · exact Nat.zero_le _
theorem commitRec_some {v : Int} {root : ByteArray} (h : ¬ (commitRec v root).size = 0) : 1 ≤ v ∧ v ≤ 1000000 ∧ root.size ≤ 32 := by
  by_cases hh : 1 ≤ v ∧ v ≤ 1000000 ∧ root.size ≤ 32
  · exact hh
  · rw [commitRec, if_neg hh] at h; exact absurd rfl h

/-- What stands while the law goes on. -/
structure LS (K : World → Prop) (a2 : Option Addr) (n2 : Nat) (w : World) (gb : Nat) (ke va le ri : ByteArray) (W : World) : Prop where
  bl : Below w.heap.size w W
  nb : DN gb ke va le ri W
  ag : BArg a2 n2 W
  kk : K W
theorem LS.below {hS : ByteArray → ByteArray → ByteArray → ByteArray → Int → ByteArray} {K : World → Prop} (P : Hid (Parts hS K)) {a2 : Option Addr} {n2 : Nat} {w : World} {gb : Nat} {ke va le ri : ByteArray} {W W' : World} (h : LS K a2 n2 w gb ke va le ri W) (hb : Below W.heap.size W W') : LS K a2 n2 w gb ke va le ri W' :=
  ⟨h.bl.trans (hb.mono h.bl.size), h.nb.below hb, h.ag.below hb, P.out.keep _ _ h.kk hb⟩

set_option maxRecDepth 100000 in
set_option maxHeartbeats 2000000 in
theorem law_codec {hS : ByteArray → ByteArray → ByteArray → ByteArray → Int → ByteArray} {K : World → Prop} (P : Hid (Parts hS K)) (a1 a2 : Option Addr) (n1 n2 cap1 cap2 : Nat) (w : World) (h1 : BArg a1 n1 w) (h2 : BArg a2 n2 w) (hK : K w) :
    Calls Tryz.prog 3 #[.slice a1 n1 cap1, .slice a2 n2 cap2] w fun e w' => e = .returned (.bool true) ∧ Below w.heap.size w w' := by
  have l1 := h1.le
  have l2 := h2.le
  have z1 : decide ((1048576 : Int) < (n1 : Int)) = false := by simp; omega
  have z2 : decide ((1048576 : Int) < (n2 : Int)) = false := by simp; omega
  have HA : Hid (∀ w1, BArg a1 n1 w1 → Calls Tryz.prog 4 #[.slice a1 n1 cap1] w1 fun e w' => ∃ (ke va le ri : ByteArray) (k : Nat), ke.size ≤ 3000 ∧ va.size ≤ 3000 ∧ le.size ≤ 3000 ∧ ri.size ≤ 3000 ∧ k ≤ 33 ∧ e = .returned (.tuple #[nodeV ke va le ri, .int .i64 (k : Int)]) ∧ Below w1.heap.size w1 w') := fun w1 hh => drawEnc_any P.out.dig a1 n1 cap1 w1 hh
  have HB : Hid (∀ w1, BArg a2 n2 w1 → Calls Tryz.prog 5 #[.slice a2 n2 cap2] w1 fun e w' => ∃ (v : Nat) (root : ByteArray), v ≤ 1000001 ∧ root.size ≤ 33 ∧ e = .returned (.tuple #[.int .i64 (v : Int), .string root]) ∧ Below w1.heap.size w1 w') := fun w1 hh => drawCommit_any P.out.dig a2 n2 cap2 w1 hh
  go_enter Tryz.func3, Tryz.ntmps3
  go_wp2_with fail
  refine (HA.out _ h1).mono ?_
  rintro e w1 ⟨ke, va, le, ri, k, q1, q2, q3, q4, hk, rfl, hb1⟩
  obtain ⟨gb, hgb⟩ : ∃ gb, w1.heap.size = gb := ⟨_, rfl⟩
  have hS2 : LS K a2 n2 w gb ke va le ri (w1.alloc (.cells #[.string ke, .string va, .string le, .string ri] 24)) :=
    have hB := hb1.alloc hb1.size (.cells #[.string ke, .string va, .string le, .string ri] 24)
    ⟨hB, by unfold DN; rw [← hgb]; exact heap_alloc_new _ _, h2.below hB, P.out.keep _ _ hK hB⟩
  clear hb1
  go_wp2_with fail
  refine (HB.out _ hS2.ag).mono ?_
  rintro e w3 ⟨v, root, hv, hr, rfl, hb3⟩
  have hS3 := hS2.below P hb3
  clear hS2 hb3 HA HB h1 h2 hK
  obtain ⟨q, hq⟩ : ∃ q, encS ke va le ri (k : Int) = q := ⟨_, rfl⟩
  have HQ : Hid (encS ke va le ri (k : Int) = q) := hq
  have hqs := encS_size ke va le ri (k : Int)
  rw [hq] at hqs
  have HE1 : Hid (∀ w', Calls Tryz.prog 6 #[nodeV ke va le ri, .int .i64 (k : Int)] w' fun e w'' => e = .returned (.string q) ∧ Below w'.heap.size w' w'') := fun w' => by rw [← hq]; exact P.out.enc1 ke va le ri k w' (by omega) (by omega) (by omega) (by omega)
  have HE2 : Hid (∀ w', Calls Tryz.prog 7 #[nodeV ke va le ri, .int .i64 (k : Int)] w' fun e w'' => e = .returned (.string q) ∧ Below w'.heap.size w' w'') := fun w' => by rw [← hq]; exact P.out.enc2 ke va le ri k w' (by omega) (by omega) (by omega) (by omega)
  have HH : Hid (∀ w', K w' → Calls Tryz.prog 8 #[nodeV ke va le ri, .int .i64 (k : Int)] w' fun e w'' => e = .returned (.string (hS ke va le ri (k : Int))) ∧ Below w'.heap.size w' w'') := fun w' hk' => P.out.hash ke va le ri k w' (by omega) (by omega) (by omega) (by omega) hk'
  clear hq
  have hq1 := hqs.1
  have HQ2 : Hid (¬ q.size = 0 → 1 ≤ (k : Int) ∧ (k : Int) ≤ 32) := hqs.2
  clear hqs
  obtain ⟨c0, c1, c2, c3, _, _, _, _⟩ := hS3.nb.at
  go_wp2_with fail
  refine (HE1.out _).mono ?_
  rintro e w4 ⟨rfl, hb4⟩
  have hS4 := hS3.below P hb4
  clear hS3 hb4 c0 c1 c2 c3
  obtain ⟨c0, c1, c2, c3, _, _, _, _⟩ := hS4.nb.at
  go_wp2_with fail
  refine (HE2.out _).mono ?_
  rintro e w5 ⟨rfl, hb5⟩
  have hS5 := hS4.below P hb5
  clear hS4 hb5 c0 c1 c2 c3
  obtain ⟨c0, c1, c2, c3, _, _, _, _⟩ := hS5.nb.at
  by_cases h0 : q.size = 0
  · have y0 : ((q.size : Int) == 0) = true := by rw [h0]; rfl
    have HH0 : Hid (hS ke va le ri (k : Int) = ⟨#[]⟩) := P.out.hash0 ke va le ri k (by rw [HQ.out]; exact h0)
    go_wp2_with fail
    refine (HH.out _ hS5.kk).mono ?_
    rintro e w6 ⟨rfl, hb6⟩
    have hS6 := hS5.below P hb6
    rw [HH0.out]
    go_wp2_with fail
    go_ret
    exact ⟨rfl, hS6.bl⟩
  · have y0 : ((q.size : Int) == 0) = false := by rw [beq_eq_false_iff_ne]; omega
    have hk2 := HQ2.out h0
    have HI : Hid (IsEnc q (k : Int) ke va le ri) := (encS_is (by omega)).1 HQ.out
    have HDc : Hid (∀ w', Calls Tryz.prog 9 #[.string q, .int .i64 (k : Int)] w' fun e w'' => e = .returned (.tuple #[nodeV ke va le ri, .bool true]) ∧ Below w'.heap.size w' w'') := fun w' => (P.out.dec q k w' (by omega)).mono (by rintro e w'' ⟨hd, hb⟩; exact ⟨hd.one (.inl ⟨ke, va, le, ri, HI.out, rfl⟩), hb⟩)
    have hNq : (⟨#[78]⟩ ++ q : ByteArray).data.toList = 78 :: q.data.toList := by rw [ByteArray.data_append, Array.toList_append]; rfl
    have HDg : Hid (∀ w', Calls Tryz.prog 10 #[.string (⟨#[78]⟩ ++ q), .int .i64 (k : Int)] w' fun e w'' => e = .returned (.string (hS ke va le ri (k : Int))) ∧ Below w'.heap.size w' w'') := fun w' => by
      have hh := P.out.hash1 ke va le ri (k : Int) (by rw [HQ.out]; exact h0)
      have := P.out.dig (⟨#[78]⟩ ++ q) k w' (by rw [ByteArray.size_append]; show 1 + q.size ≤ _; omega) (by omega) (by omega)
      rw [hNq] at this
      rw [hh, HQ.out, Int.toNat_natCast]
      exact this
    obtain ⟨hs, hhs⟩ : ∃ hs, hS ke va le ri (k : Int) = hs := ⟨_, rfl⟩
    rw [hhs] at HH HDg
    have HHS : Hid (hS ke va le ri (k : Int) = hs) := hhs
    clear hhs hNq
    have eqs : ∀ t : ByteArray, (t.toList == t.toList) = true := fun t => by simp
    go_wp2_with fail
    refine (HDc.out _).mono ?_
    rintro e w6 ⟨rfl, hb6⟩
    have hS6 := hS5.below P hb6
    clear hS5 hb6 c0 c1 c2 c3
    have B1 : ∀ o, DN gb ke va le ri (w6.alloc o) := fun o => hS6.nb.below ((Below.refl _ _).alloc (Nat.le_refl _) _)
    have c0 : ∀ o, (w6.alloc o).cell? ⟨gb, 0, none⟩ = some (.string ke) := fun o => Lib.cell_of_heap (B1 o) 0
    have c1 : ∀ o, (w6.alloc o).cell? ⟨gb, 1, none⟩ = some (.string va) := fun o => Lib.cell_of_heap (B1 o) 1
    have c2 : ∀ o, (w6.alloc o).cell? ⟨gb, 2, none⟩ = some (.string le) := fun o => Lib.cell_of_heap (B1 o) 2
    have c3 : ∀ o, (w6.alloc o).cell? ⟨gb, 3, none⟩ = some (.string ri) := fun o => Lib.cell_of_heap (B1 o) 3
    have HS6 : Hid (∀ o, LS K a2 n2 w gb ke va le ri (w6.alloc o)) := fun o => hS6.below P ((Below.refl _ _).alloc (Nat.le_refl _) _)
    clear B1
    go_wp2_with fail
    refine (HH.out _ (HS6.out _).kk).mono ?_
    rintro e w7 ⟨rfl, hb7⟩
    have hS7 := (HS6.out _).below P hb7
    clear hS6 hb7 c0 c1 c2 c3 HS6 HH
    have f1 : ¬ (9223372036854775807 < 1 + q.size) := by omega
    go_wp2_with fail
    refine (HDg.out _).mono ?_
    rintro e w8 ⟨rfl, hb8⟩
    have hS8 := hS7.below P hb8
    clear hS7 hb8 HDg
    obtain ⟨hd, hhd⟩ : ∃ hd, commitRec (v : Int) root = hd := ⟨_, rfl⟩
    have HC1 : Hid (∀ w', Calls Tryz.prog 11 #[.int .i64 (v : Int), .string root] w' fun e w'' => e = .returned (.string hd) ∧ Below w'.heap.size w' w'') := fun w' => by rw [← hhd]; exact P.out.com1 v root w' (by omega)
    have HC2 : Hid (∀ w', Calls Tryz.prog 12 #[.int .i64 (v : Int), .string root] w' fun e w'' => e = .returned (.string hd) ∧ Below w'.heap.size w' w'') := fun w' => by rw [← hhd]; exact P.out.com2 v root w' (by omega)
    have HHd : Hid (commitRec (v : Int) root = hd) := hhd
    clear hhd
    go_wp2_with fail
    refine (HC1.out _).mono ?_
    rintro e w9 ⟨rfl, hb9⟩
    have hS9 := hS8.below P hb9
    clear hS8 hb9
    go_wp2_with fail
    refine (HC2.out _).mono ?_
    rintro e w10 ⟨rfl, hb10⟩
    have hS10 := hS9.below P hb10
    clear hS9 hb10 HC1 HC2
    by_cases hd0 : hd.size = 0
    · have y1 : ((hd.size : Int) == 0) = true := by rw [hd0]; rfl
      go_wp2_with fail
      go_ret
      exact ⟨rfl, hS10.bl⟩
    · have y1 : ((hd.size : Int) == 0) = false := by rw [beq_eq_false_iff_ne]; omega
      have hq2 : q.size ≤ 2400 := by rw [← HQ.out]; exact encS_small _ _ _ _ _
      have hcs := commitRec_some (v := (v : Int)) (root := root) (by rw [HHd.out]; exact hd0)
      have hdz : hd.size = 64 := by rw [← HHd.out]; exact commitRec_size hcs.1 hcs.2.1 hcs.2.2
      obtain ⟨rc, hrc⟩ : ∃ rc, nodeRec q = rc := ⟨_, rfl⟩
      obtain ⟨m, hm⟩ : ∃ m, secs q.size = m := ⟨_, rfl⟩
      have hm1 : 1 ≤ m ∧ m ≤ 40 := by rw [← hm]; unfold secs; omega
      have hrz : rc.size = 64 * m := by rw [← hrc, nodeRec_size (by omega) (by omega), hm]
      have HNR : Hid (∀ w', Calls Tryz.prog 13 #[.string q] w' fun e w'' => e = .returned (.string rc) ∧ Below w'.heap.size w' w'') := fun w' => by rw [← hrc]; exact P.out.node q w' (by omega)
      obtain ⟨S, hSx⟩ : ∃ S : ByteArray, S = hd ++ rc ++ root ++ ⟨#[83]⟩ := ⟨_, rfl⟩
      have hSz : S.size = 64 + 64 * m + root.size + 1 := by rw [hSx, ByteArray.size_append, ByteArray.size_append, ByteArray.size_append, hdz, hrz]; rfl
      have HC : Hid (IsCommit S 0 (v : Int) root) := by
        show IsCommit S 0 (v : Int) root
        rw [hSx, ← HHd.out, ByteArray.append_assoc, ByteArray.append_assoc]
        exact commit_front hcs.1 hcs.2.1 hcs.2.2
      have HN : Hid (IsNode S 64 q) := by
        show IsNode S 64 q
        rw [hSx, ← hrc, ByteArray.append_assoc]
        exact node_behind hdz (by omega) (by omega)
      have HR0 : Hid (∀ w', Calls Tryz.prog 14 #[.string S, .int .i64 0] w' fun e w'' => e = .returned (recV 2 ⟨#[]⟩ (v : Int) root 1) ∧ Below w'.heap.size w' w'') := fun w' => (P.out.read S 0 w' (by omega)).mono (by
        rintro e w'' ⟨hp, hb⟩
        exact ⟨hp.one (.inr (.inl ⟨(v : Int), root, by omega, HC.out, rfl⟩)), hb⟩)
      have HR1 : Hid (∀ w', Calls Tryz.prog 14 #[.string S, .int .i64 1] w' fun e w'' => e = .returned (recV 1 q 0 ⟨#[]⟩ (1 + (m : Int))) ∧ Below w'.heap.size w' w'') := fun w' => (P.out.read S 1 w' (by omega)).mono (by
        rintro e w'' ⟨hp, hb⟩
        exact ⟨hp.one (.inl ⟨q, by omega, HN.out, by rw [hm]⟩), hb⟩)
      have HR2 : Hid (∀ (j : Nat) w', j < m → Calls Tryz.prog 14 #[.string (S.extract 0 (64 + (64 * j + 63)) ++ ⟨#[0]⟩ ++ S.extract (64 + (64 * j + 63) + 1) S.size), .int .i64 1] w' fun e w'' => e = .returned (recV 0 ⟨#[]⟩ 0 ⟨#[]⟩ 0) ∧ Below w'.heap.size w' w'') := fun j w' hj => (P.out.read _ 1 w' (by rw [ByteArray.size_append, ByteArray.size_append, ByteArray.size_extract, ByteArray.size_extract]; show _ + 1 + _ ≤ _; omega)).mono (by
        rintro e w'' ⟨hp, hb⟩
        have := node_spoilt HN.out j (by rw [hm]; exact hj) _ (spoil_getD S (64 + (64 * j + 63)) 0 (by omega))
        exact ⟨hp.one (.inr (.inr ⟨fun _ => this, rfl⟩)), hb⟩)
      have HSx : Hid (S = hd ++ rc ++ root ++ ⟨#[83]⟩) := hSx
      clear hSx hm hrc HC HN hcs
      go_wp2_with fail
      refine (HNR.out _).mono ?_
      rintro e w11 ⟨rfl, hb11⟩
      have hS11 := hS10.below P hb11
      clear hS10 hb11 HNR
      have f2 : ¬ (9223372036854775807 < hd.size + rc.size) := by omega
      have f3 : ¬ (9223372036854775807 < hd.size + rc.size + root.size) := by omega
      have f4 : ¬ (9223372036854775807 < hd.size + rc.size + root.size + 1) := by omega
      have t1 : decide ((rc.size : Int) < 64) = false := by simp; omega
      have t2 : ((rc.size : Int) % 64 == 0) = true := by rw [beq_iff_eq]; omega
      go_wp2_with fail
      rw [← HSx.out]
      refine (HR0.out _).mono ?_
      rintro e w12 ⟨rfl, hb12⟩
      have hS12 := hS11.below P hb12
      clear hS11 hb12 HR0
      obtain ⟨ga, hga⟩ : ∃ ga, w12.heap.size = ga := ⟨_, rfl⟩
      have HA12 : Hid ((w12.alloc (.cells #[.int .i64 2, .string ⟨#[]⟩, .int .i64 (v : Int), .string root, .int .i64 1] 36)).heap[ga]? = some (.cells #[.int .i64 2, .string ⟨#[]⟩, .int .i64 (v : Int), .string root, .int .i64 1] 36)) := by
        show _ = _
        rw [← hga]; exact heap_alloc_new _ _
      have hS12' := hS12.below P ((Below.refl _ w12).alloc (Nat.le_refl _) (.cells #[.int .i64 2, .string ⟨#[]⟩, .int .i64 (v : Int), .string root, .int .i64 1] 36))
      clear hS12
      go_wp2_with fail
      refine (HR1.out _).mono ?_
      rintro e w13 ⟨rfl, hb13⟩
      have hS13 := hS12'.below P hb13
      have A13 : ∀ o, (w13.alloc o).heap[ga]? = some (.cells #[.int .i64 2, .string ⟨#[]⟩, .int .i64 (v : Int), .string root, .int .i64 1] 36) := fun o => below_cells ((Below.refl _ _).alloc (Nat.le_refl _) _) (below_cells hb13 HA12.out)
      have g0 : ∀ o, (w13.alloc o).cell? ⟨ga, 0, none⟩ = some (.int .i64 2) := fun o => Lib.cell_of_heap (A13 o) 0
      have g1 : ∀ o, (w13.alloc o).cell? ⟨ga, 1, none⟩ = some (.string ⟨#[]⟩) := fun o => Lib.cell_of_heap (A13 o) 1
      have g2 : ∀ o, (w13.alloc o).cell? ⟨ga, 2, none⟩ = some (.int .i64 (v : Int)) := fun o => Lib.cell_of_heap (A13 o) 2
      have g3 : ∀ o, (w13.alloc o).cell? ⟨ga, 3, none⟩ = some (.string root) := fun o => Lib.cell_of_heap (A13 o) 3
      have g4 : ∀ o, (w13.alloc o).cell? ⟨ga, 4, none⟩ = some (.int .i64 1) := fun o => Lib.cell_of_heap (A13 o) 4
      have HS13 : Hid (∀ o, LS K a2 n2 w gb ke va le ri (w13.alloc o)) := fun o => hS13.below P ((Below.refl _ _).alloc (Nat.le_refl _) _)
      clear A13 hS12' hb13 HR1 HA12 hS13
      have t3 : ((v : Int) == (v : Int)) = true := by simp
      have t4 : IntKind.i64.wrap ((1 + (m : Int)) * 64) = (hd.size : Int) + (rc.size : Int) := by rw [wrap_i64_in _ (by omega) (by omega)]; omega
      have t5 : IntKind.i64.wrap ((hd.size : Int) + (rc.size : Int)) = (hd.size : Int) + (rc.size : Int) := wrap_i64_in _ (by omega) (by omega)
      have t6 : ((hd.size : Int) + (rc.size : Int) == (hd.size : Int) + (rc.size : Int)) = true := by simp
      have t7 : ((hd.size : Int) == 64) = true := by rw [hdz]; rfl
      go_wp2_with fail
      refine (pick_any a2 n2 cap2 3 _ (HS13.out _).ag (by omega)).mono ?_
      rintro e w14 ⟨y, hy, rfl, hb14⟩
      have hS14 := (HS13.out _).below P hb14
      clear HS13 hb14 g0 g1 g2 g3 g4
      obtain ⟨j, hj⟩ : ∃ j, y % m = j := ⟨_, rfl⟩
      have hjm : j < m := by rw [← hj]; exact Nat.mod_lt _ (by omega)
      have x1 : (rc.size : Int) / 64 = (m : Int) := by omega
      have x2 : (y : Int) % (m : Int) = (j : Int) := by rw [← hj]; rfl
      clear hj t1 t2 t3 t4 t5 t6 t7
      obtain ⟨A, hA⟩ : ∃ A, 64 + (64 * j + 63) = A := ⟨_, rfl⟩
      have x3 : IntKind.i64.wrap ((j : Int) * 64) = (j : Int) * 64 := wrap_i64_in _ (by omega) (by omega)
      have x4 : IntKind.i64.wrap (64 + (j : Int) * 64) = 64 + (j : Int) * 64 := wrap_i64_in _ (by omega) (by omega)
      have x5 : IntKind.i64.wrap (64 + (j : Int) * 64 + 63) = (A : Int) := by rw [wrap_i64_in _ (by omega) (by omega)]; omega
      have x6 : IntKind.i64.wrap ((A : Int) + 1) = (A : Int) + 1 := wrap_i64_in _ (by omega) (by omega)
      have x7 : (A : Int) + 1 ≤ (S.size : Int) := by omega
      have x8 : (A : Int) ≤ (S.size : Int) := by omega
      have x9 : (0 : Int) ≤ (A : Int) + 1 := by omega
      have HR3 : Hid (∀ w', Calls Tryz.prog 14 #[.string (S.extract 0 A ++ ⟨#[0]⟩ ++ S.extract (A + 1) S.size), .int .i64 1] w' fun e w'' => e = .returned (recV 0 ⟨#[]⟩ 0 ⟨#[]⟩ 0) ∧ Below w'.heap.size w' w'') := by
        have := fun w' => HR2.out j w' hjm
        rw [hA] at this
        exact this
      have hAle : A + 1 ≤ S.size := by omega
      have k1 : (S.extract 0 A).size = A := by rw [ByteArray.size_extract]; omega
      have k2 : (S.extract (A + 1) S.size).size = S.size - (A + 1) := by rw [ByteArray.size_extract]; omega
      have e1 : ¬ (9223372036854775807 < (S.extract 0 A).size + 1) := by omega
      have e2 : ¬ (9223372036854775807 < (S.extract 0 A).size + 1 + (S.extract (A + 1) S.size).size) := by omega
      have e3 : ¬ (9223372036854775807 < A + 1) := by omega
      have e4 : ¬ (9223372036854775807 < A + 1 + (S.size - (A + 1))) := by omega
      clear hA HR2 f1 f2 f3 f4
      have HR4 : Hid (∀ w', Calls Tryz.prog 14 #[.string (S.extract 0 A ++ ⟨#[0]⟩ ++ S.extract ((A : Int) + 1).toNat S.size), .int .i64 1] w' fun e w'' => e = .returned (recV 0 ⟨#[]⟩ 0 ⟨#[]⟩ 0) ∧ Below w'.heap.size w' w'') := by
        rw [show ((A : Int) + 1).toNat = A + 1 by omega]; exact HR3
      have e5 : ¬ (9223372036854775807 < (S.extract 0 A).size + 1 + (S.extract ((A : Int) + 1).toNat S.size).size) := by rw [show ((A : Int) + 1).toNat = A + 1 by omega]; omega
      have e6 : ¬ (9223372036854775807 < A + 1 + (S.size - ((A : Int) + 1).toNat)) := by omega
      have x10 : (0 : Int) ≤ (A : Int) := by omega
      have e7 : ¬ (9223372036854775807 < min A S.size + 1) := by omega
      have e8 : ¬ (9223372036854775807 < min A S.size + 1 + (S.size - (A + 1))) := by omega
      have e9 : ¬ (9223372036854775807 < min A S.size + 1 + (S.size - ((A : Int) + 1).toNat)) := by omega
      clear hSz hdz hrz k1 k2 hAle
      go_wp2_with fail
      go_region_held3 (fun _ => True) (exact trivial)
        (first | (go_at_call 14; refine (HR4.out _).mono ?_; rintro e w15 ⟨rfl, hb15⟩; have n15 : w15.heap[w14.heap.size]? = some (.cells #[.int .i64 0, .string ⟨#[]⟩, .int .i64 0, .string ⟨#[]⟩, .int .i64 0] 36) := below_cells hb15 (heap_alloc_new w14.drew _); have k0 := Lib.cell_of_heap n15 0; have k1 := Lib.cell_of_heap n15 1; have k2 := Lib.cell_of_heap n15 2; have k3 := Lib.cell_of_heap n15 3; have k4 := Lib.cell_of_heap n15 4; have fr : ∀ j, w15.frozen? ⟨w14.heap.size, j, none⟩ = false := (fun j => by rw [World.frozen?, n15]; rfl); have f0 := fr 0; have f1 := fr 1; have f2 := fr 2; have f3 := fr 3; have f4 := fr 4; clear fr; have hS15 := (hS14.below P ((Below.refl _ w14).drew.alloc (Nat.le_refl _) (.cells #[.int .i64 0, .string ⟨#[]⟩, .int .i64 0, .string ⟨#[]⟩, .int .i64 0] 36))).below P hb15; clear hb15) | (go_at_call 14; refine (HR4.out _).mono ?_; rintro e w15 ⟨rfl, hb15⟩; have hS15 := hS14.below P ((Below.refl w14.heap.size w14).drew.trans hb15); clear hb15) | (go_at_call 14; refine (HR3.out _).mono ?_; rintro e w15 ⟨rfl, hb15⟩; have n15 : w15.heap[w14.heap.size]? = some (.cells #[.int .i64 0, .string ⟨#[]⟩, .int .i64 0, .string ⟨#[]⟩, .int .i64 0] 36) := below_cells hb15 (heap_alloc_new w14.drew _); have k0 := Lib.cell_of_heap n15 0; have k1 := Lib.cell_of_heap n15 1; have k2 := Lib.cell_of_heap n15 2; have k3 := Lib.cell_of_heap n15 3; have k4 := Lib.cell_of_heap n15 4; have fr : ∀ j, w15.frozen? ⟨w14.heap.size, j, none⟩ = false := (fun j => by rw [World.frozen?, n15]; rfl); have f0 := fr 0; have f1 := fr 1; have f2 := fr 2; have f3 := fr 3; have f4 := fr 4; clear fr; have hS15 := (hS14.below P ((Below.refl _ w14).drew.alloc (Nat.le_refl _) (.cells #[.int .i64 0, .string ⟨#[]⟩, .int .i64 0, .string ⟨#[]⟩, .int .i64 0] 36))).below P hb15; clear hb15) | (go_at_call 14; refine (HR3.out _).mono ?_; rintro e w15 ⟨rfl, hb15⟩; have hS15 := hS14.below P ((Below.refl w14.heap.size w14).drew.trans hb15); clear hb15))
      all_goals go_wp2_with fail
      · go_ret
        exact ⟨rfl, hS15.bl.alloc hS15.bl.size _⟩
      · go_ret
        have hge : w.heap.size ≤ w14.heap.size := hS14.bl.size
        exact ⟨rfl, ((((hS15.bl.setCell hge _).setCell hge _).setCell hge _).setCell hge _).setCell hge _⟩
end Go.Proofs.YtngnbflkiiehmaaGreatDoor
namespace Go.Proofs.YtngnbflkiiehmaaGreatDoor
open Go.RowKit Go.Proofs.Sha

def TabAt (w : World) : Prop := ∀ j, j < 64 → w.cell? ⟨0, j, none⟩ = some (.int .u32 ((kTab.getD j 0).toNat : Int))
theorem parts : Parts hashS TabAt := {
  dig := fun s k w hs h1 h2 => sdig_yes s k w hs h1 h2
  enc1 := fun k v l r n w hk hv hl hr => (enc_impl k v l r n w hk hv hl hr).mono (by rintro e w' ⟨t, rfl, HT, hb⟩; exact ⟨by rw [HT.out], hb⟩)
  enc2 := fun k v l r n w hk hv hl hr => (enc_any k v l r n w hk hv hl hr).mono (by rintro e w' ⟨t, rfl, HT, hb⟩; exact ⟨by rw [HT.out], hb⟩)
  hash := fun k v l r n w hk hv hl hr hK => (ihash_any k v l r n w hk hv hl hr hK).mono (by rintro e w' ⟨t, rfl, HT, hb⟩; exact ⟨by rw [HT.out], hb⟩)
  dec := fun s n w hs => dec_impl s n w hs
  com1 := fun v root w hs => (commitRec_impl v root w hs).mono (by rintro e w' ⟨t, rfl, HT, hb⟩; exact ⟨by rw [HT.out], hb⟩)
  com2 := fun v root w hs => (commitRec_any v root w hs).mono (by rintro e w' ⟨t, rfl, HT, hb⟩; exact ⟨by rw [HT.out], hb⟩)
  node := fun enc w hs => (nodeRec_impl enc w hs).mono (by rintro e w' ⟨t, rfl, HT, hb⟩; exact ⟨by rw [HT.out], hb⟩)
  read := fun s n w hs => read_impl s n w hs
  keep := fun w w' hK hb j hj => (hb.cell (World.block_lt_of_cell? w _ (hK j hj))).trans (hK j hj)
  hash0 := fun k v l r n h => if_pos h
  hash1 := fun k v l r n h => if_neg h }

theorem u8_wf {x : Int} (h : (Lit.int .u8 x).wf = true) : 0 ≤ x ∧ x < 256 := by
  have e1 : IntKind.u8.min = 0 := rfl
  have e2 : IntKind.u8.max = 255 := rfl
  unfold Lit.wf at h
  rw [Bool.and_eq_true, decide_eq_true_eq, decide_eq_true_eq, e1, e2] at h
  omega
theorem BArg.of {a : Option Addr} {xs : List Int} {w : World} (hl : xs.length ≤ 1048576) (hw : ∀ x ∈ xs, (Lit.int .u8 x).wf = true)
    (h : 0 < xs.length → ∃ b off : Nat, a = some ⟨b, off, none⟩ ∧ b < w.heap.size ∧ ∀ j, j < xs.length → w.cell? ⟨b, off + j, none⟩ = some (.int .u8 (xs.getD j 0))) : BArg a xs.length w := by
  refine ⟨hl, fun hp => ?_⟩
  obtain ⟨b, off, ha, hlt, hc⟩ := h hp
  refine ⟨b, off, ha, hlt, fun j hj => ?_⟩
  have hm : xs.getD j 0 ∈ xs := by
    rw [List.getD_eq_getElem?_getD, List.getElem?_eq_getElem hj]
    exact List.getElem_mem hj
  have hu := u8_wf (hw _ hm)
  refine ⟨(xs.getD j 0).toNat, by omega, ?_⟩
  rw [hc j hj, Int.toNat_of_nonneg hu.1]

set_option maxRecDepth 100000 in
theorem law_codec_h (a1 : Option Addr) (xs1 : List Int) (c1 : Nat) (a2 : Option Addr) (xs2 : List Int) (c2 : Nat) (w : World)
    (_hl1 : xs1.length ≤ maxLen) (hw1 : ∀ x ∈ xs1, (Lit.int .u8 x).wf = true) (h1 : 0 < xs1.length → ∃ b off : Nat, a1 = some ⟨b, off, none⟩ ∧ b < w.heap.size ∧ ∀ j, j < xs1.length → w.cell? ⟨b, off + j, none⟩ = some (.int .u8 (xs1.getD j 0)))
    (_hl2 : xs2.length ≤ maxLen) (hw2 : ∀ x ∈ xs2, (Lit.int .u8 x).wf = true) (h2 : 0 < xs2.length → ∃ b off : Nat, a2 = some ⟨b, off, none⟩ ∧ b < w.heap.size ∧ ∀ j, j < xs2.length → w.cell? ⟨b, off + j, none⟩ = some (.int .u8 (xs2.getD j 0)))
    (hK : ∀ j, j < 64 → w.cell? ⟨0, j, none⟩ = some (.int .u32 ((kTab.getD j 0).toNat : Int))) :
    Calls Tryz.prog 3 #[.slice a1 xs1.length c1, .slice a2 xs2.length c2] w fun e w' => e = .returned (.bool true) ∧ Below w.heap.size w w' := by
  by_cases g1 : 1048576 < xs1.length
  · have z1 : decide ((1048576 : Int) < (xs1.length : Int)) = true := by simp; omega
    clear hw1 hw2 h1 h2 hK
    go_enter Tryz.func3, Tryz.ntmps3
    go_wp2_with fail
    go_ret
    exact ⟨rfl, Below.refl _ _⟩
  by_cases g2 : 1048576 < xs2.length
  · have z1 : decide ((1048576 : Int) < (xs1.length : Int)) = false := by simp; omega
    have z2 : decide ((1048576 : Int) < (xs2.length : Int)) = true := by simp; omega
    clear hw1 hw2 h1 h2 hK
    go_enter Tryz.func3, Tryz.ntmps3
    go_wp2_with fail
    go_ret
    exact ⟨rfl, Below.refl _ _⟩
  exact law_codec (P := parts) a1 a2 xs1.length xs2.length c1 c2 w (BArg.of (by omega) hw1 h1) (BArg.of (by omega) hw2 h2) hK
end Go.Proofs.YtngnbflkiiehmaaGreatDoor
