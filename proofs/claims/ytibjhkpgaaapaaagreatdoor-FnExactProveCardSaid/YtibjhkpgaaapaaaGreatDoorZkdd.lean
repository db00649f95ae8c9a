import Derived.Test.YtibjhkpgaaapaaaGreatDoorZkbq
import Derived.Test.YtibjhkpgaaapaaaGreatDoorZkbr
import Derived.Test.YtibjhkpgaaapaaaGreatDoorZkbt
import Derived.Test.YtibjhkpgaaapaaaGreatDoorZkdc
import Derived.Test.YtibjhkpgaaapaaaGreatDoorZkda
import Derived.ProofKit
import Derived.OpenShut
import Derived.ChangeSlices
import Derived.Deep.Strs
import Derived.Lib.SmallJoins
import Derived.Test.YtibjhkpgaaapaaaGreatDoorCards
import Derived.Test.YtibjhkpgaaapaaaGreatDoorTie
import Derived.Deep.DeepHandedRow
import Derived.Lib.LaidTab
namespace Go.Proofs.YtibjhkpgaaapaaaGreatDoor
open Go.RowKit Go.Proofs.Sha

theorem dec_both (n : Int) : ∃ D : Dec, (∀ wd : Nat, (wd : Int) = n → DecOk wd D) ∧ Hid (∀ wd : Nat, (wd : Int) = n → 1 ≤ wd → wd ≤ 32 → DecSaid 198 wd D) ∧ Hid (∀ wd : Nat, (wd : Int) = n → 1 ≤ wd → wd ≤ 32 → DecSaid 146 wd D) := by
  obtain ⟨f, hf⟩ := Classical.axiomOfChoice (dec_ex n)
  obtain ⟨D, hD⟩ : ∃ D : Dec, D = ⟨fun s => (f s).1, fun s => (f s).2.1, fun s => (f s).2.2.1, fun s => (f s).2.2.2.1, fun s => (f s).2.2.2.2⟩ := ⟨_, rfl⟩
  refine ⟨D, fun wd hwd s hs => ?_, ?_, ?_⟩
  · have h1 := hf s
    rw [hD] at hs
    simp only at hs
    rw [hs] at h1
    have h2 := nodeOk_out (decOk_of h1)
    rw [hD]
    simp only
    unfold okKey okVal
    refine ⟨decide_eq_true (by omega), decide_eq_true (by omega), by omega, by omega⟩
  · intro wd hwd _ _ s w' hs
    refine (dec_impl s wd w' hs).mono ?_
    rintro e w'' ⟨h1, hb⟩
    rw [hwd] at h1
    rw [hD]
    exact ⟨h1.one (hf s), hb⟩
  · intro wd hwd _ _ s w' hs
    refine (dec_any s wd w' hs).mono ?_
    rintro e w'' ⟨h1, hb⟩
    rw [hwd] at h1
    rw [hD]
    exact ⟨h1.one (hf s), hb⟩
theorem srange_any (HD : Hid DigSaid) (D : Dec) (n : Int) (HD2 : Hid (∀ wd : Nat, (wd : Int) = n → 1 ≤ wd → wd ≤ 32 → DecSaid 146 wd D)) (hdo : ∀ wd : Nat, (wd : Int) = n → DecOk wd D) (a : Option Addr) (ss : List ByteArray) (c : Nat) (root lo hi : ByteArray) (w : World) (h : SArg a ss w) (hs : Hid (∀ j, (ss.getD j ⟨#[]⟩).size ≤ 1048575)) (hr : root.size ≤ 1048576) (hlo : lo.size ≤ 1048576) (hhi : hi.size ≤ 1048576) :
    Calls Tryz.prog 48 #[.agg #[.int .i64 n, .slice a ss.length c], .string root, .string lo, .string hi] w (RangeAt (rangeM (fndD D n.toNat ss) n ss.length root lo hi) w) := by
  cases hp : (poolOk n ss.length && hashOk root.size n) with
  | false => rw [rangeM_bad hp]; exact srange_bad n _ ss.length c root lo hi w h.le hr hp
  | true =>
    have hp2 := (Bool.and_eq_true _ _).mp hp
    have hp' : 1 ≤ n ∧ n ≤ 32 ∧ ss.length ≤ 20000 := of_decide_eq_true hp2.1
    obtain ⟨wd, rfl⟩ : ∃ wd : Nat, n = (wd : Int) := ⟨n.toNat, by omega⟩
    rw [Int.toNat_natCast]
    exact srange_good HD D wd (HD2.out wd rfl (by omega) (by omega)) (hdo wd rfl) _ ss c root lo hi w h hs (by omega) (by omega) hr hlo hhi hp2.1 hp2.2
theorem proveM_code (fnd : ByteArray → FN) (n : Int) (m : Nat) (root lo hi : ByteArray) (h1 : poolOk n m = true → 0 ≤ n) : (rangeM fnd n m root lo hi).2 = (proveM fnd n m root lo hi).2 ∧ ((rangeM fnd n m root lo hi).2 ≠ 0 → (proveM fnd n m root lo hi).1 = ⟨#[]⟩) ∧ ((rangeM fnd n m root lo hi).2 = 0 → poolOk n m = true ∧ hashOk root.size n = true ∧ (goF fnd hgW lo hi 501 root ⟨#[]⟩ ⟨#[]⟩ ⟨#[]⟩ 0).1 = 0 ∧ (proveM fnd n m root lo hi).1 = ⟨(prL fnd lo hi 501 root ⟨#[]⟩ ⟨#[]⟩).toArray⟩) := by
  unfold rangeM proveM proveX
  cases hp : poolOk n m with
  | false => refine ⟨rfl, fun _ => rfl, fun h => ?_⟩; simp at h
  | true =>
    have e : ((n.toNat : Nat) : Int) = n := by have := h1 hp; omega
    rw [e]
    cases hh : hashOk root.size n with
    | false => refine ⟨rfl, fun _ => rfl, fun h => ?_⟩; simp at h
    | true =>
      simp only [Bool.and_self, if_true]
      by_cases h0 : (goF fnd hgW lo hi 501 root ⟨#[]⟩ ⟨#[]⟩ ⟨#[]⟩ 0).1 = 0
      · rw [if_pos h0, if_pos h0]
        exact ⟨rfl, fun h => absurd rfl h, fun _ => ⟨trivial, trivial, h0, rfl⟩⟩
      · rw [if_neg h0, if_neg h0]
        exact ⟨rfl, fun _ => rfl, fun h => absurd h h0⟩
set_option maxRecDepth 100000 in
set_option maxHeartbeats 1000000 in
theorem sprove_any (HD : Hid DigSaid) (D : Dec) (n : Int) (HD2 : Hid (∀ wd : Nat, (wd : Int) = n → 1 ≤ wd → wd ≤ 32 → DecSaid 146 wd D)) (hdo : ∀ wd : Nat, (wd : Int) = n → DecOk wd D) (a : Option Addr) (ss : List ByteArray) (c : Nat) (root lo hi : ByteArray) (w : World) (h : SArg a ss w) (hs : Hid (∀ j, (ss.getD j ⟨#[]⟩).size ≤ 1048575)) (hr : root.size ≤ 1048576) (hlo : lo.size ≤ 1048576) (hhi : hi.size ≤ 1048576) :
    Calls Tryz.prog 12 #[.agg #[.int .i64 n, .slice a ss.length c], .string root, .string lo, .string hi] w fun e w' => e = .returned (.tuple #[.string (proveM (fndD D n.toNat ss) n ss.length root lo hi).1, .int .i64 (proveM (fndD D n.toNat ss) n ss.length root lo hi).2]) ∧ Below w.heap.size w w' := by
  have hpo : poolOk n ss.length = true → 1 ≤ n ∧ n ≤ 32 ∧ ss.length ≤ 20000 := fun hp => of_decide_eq_true hp
  obtain ⟨q1, q2, q3⟩ := proveM_code (fndD D n.toNat ss) n ss.length root lo hi (fun hp => by have := hpo hp; omega)
  have HR : Hid (∀ w', Below w.heap.size w w' → Calls Tryz.prog 48 #[.agg #[.int .i64 n, .slice a ss.length c], .string root, .string lo, .string hi] w' fun e w'' => ∃ a' c', e = .returned (.tuple #[.slice a' (rangeM (fndD D n.toNat ss) n ss.length root lo hi).1.length c', .int .i64 (rangeM (fndD D n.toNat ss) n ss.length root lo hi).2]) ∧ Below w'.heap.size w' w'') := fun w' hb => by
    refine (srange_any HD D n HD2 hdo a ss c root lo hi w' (h.below hb) hs hr hlo hhi).mono ?_
    rintro e w'' ⟨⟨a', c', he, _⟩, hb2⟩
    exact ⟨a', c', he, hb2⟩
  have hA : Below w.heap.size w (w.alloc (.cells #[.int .i64 n, .slice a ss.length c] 31)) := (Below.refl _ _).alloc (Nat.le_refl _) _
  have nA := heap_alloc_new w (.cells #[.int .i64 n, .slice a ss.length c] 31)
  obtain ⟨RM, hRM⟩ : ∃ RM, rangeM (fndD D n.toNat ss) n ss.length root lo hi = RM := ⟨_, rfl⟩
  obtain ⟨PM, hPM⟩ : ∃ PM, proveM (fndD D n.toNat ss) n ss.length root lo hi = PM := ⟨_, rfl⟩
  rw [hRM] at q1 q2 q3 HR
  rw [hPM] at q1 q2 q3 ⊢
  obtain ⟨ga, hga⟩ : ∃ ga, w.heap.size = ga := ⟨_, rfl⟩
  have nA' : (w.alloc (.cells #[.int .i64 n, .slice a ss.length c] 31)).heap[ga]? = some (.cells #[.int .i64 n, .slice a ss.length c] 31) := by rw [← hga]; exact nA
  clear nA
  have z0 := Lib.cell_of_heap nA' 0
  have z1 := Lib.cell_of_heap nA' 1
  by_cases h0 : RM.2 = 0
  · obtain ⟨hp, hh, hg0, hX⟩ := q3 h0
    obtain ⟨p1, p2, p3⟩ := hpo hp
    obtain ⟨wd, rfl⟩ : ∃ wd : Nat, n = (wd : Int) := ⟨n.toNat, by omega⟩
    rw [Int.toNat_natCast] at hg0 hX
    have hsz : root.size = 0 ∨ root.size = wd := by
      unfold hashOk at hh
      rcases (Bool.or_eq_true _ _).mp hh with h | h
      · exact .inl (of_decide_eq_true h)
      · exact .inr (by have := of_decide_eq_true h; omega)
    obtain ⟨N, hN⟩ : ∃ N, ss.length = N := ⟨_, rfl⟩
    have HHS : Hid (∀ w', Below w.heap.size w w' → Calls Tryz.prog 50 #[.agg #[.int .i64 (wd : Int), .slice a N c]] w' fun e w'' => ∃ g c', e = .returned (.slice (some ⟨g, 0, none⟩) N c') ∧ (∀ W, Below w''.heap.size w'' W → Calls Tryz.prog 49 #[.agg #[.int .i64 (wd : Int), .slice a N c], .slice (some ⟨g, 0, none⟩) N c', .string root, .agg #[.string ⟨#[]⟩, .string ⟨#[]⟩], .string lo, .string hi] W fun e W' => e = .returned (.string PM.1) ∧ Below W.heap.size W W') ∧ Below w'.heap.size w' w'') := by
      intro w' hb
      have hA := h.below hb
      rw [← hN]
      refine (hashes_any HD wd a ss c w' hA hs (by omega) (by omega)).mono ?_
      rintro e w'' ⟨g, c', rfl, hrow, hb2⟩
      refine ⟨g, c', rfl, fun W hW => ?_, hb2⟩
      have hA2 := hA.below hb2
      have HDd := HD2.out wd rfl (by omega) (by omega)
      refine (lp_all (fndD D wd ss) wd (fndD_ok D wd ss (hdo wd rfl)) (by omega) a ss.length c g c' lo hi hlo hhi w'' (fun w3 hash hb3 => ?_) 501 root ⟨#[]⟩ ⟨#[]⟩ ⟨#[]⟩ 0 W (by omega) hsz hg0 hW (by decide) (by decide)).mono ?_
      · have := lfind_any D wd HDd a ss c g c' (ss.map (hashT wd)) hash w3 (hA2.below hb3) (by rw [List.length_map]) (Nat.lt_of_lt_of_le hrow.lt hb3.size) (fun j hj => by
          have e := (hrow.below hb3).cell j hj
          rw [e, List.getElem?_map, List.getD_eq_getElem?_getD, List.getElem?_eq_getElem (by rw [List.length_map]; exact hj)]
          rfl)
        rw [first_hash] at this
        exact this
      · rintro e W' ⟨⟨t, rfl, _, ht⟩, hb4⟩
        refine ⟨?_, hb4⟩
        rw [hX, ← ht.out]
    have e0 : Hid (PM.2 = 0) := by show _ = _; rw [← q1]; exact h0
    have HR' : Hid (∀ w', Below w.heap.size w w' → Calls Tryz.prog 48 #[.agg #[.int .i64 (wd : Int), .slice a N c], .string root, .string lo, .string hi] w' fun e w'' => ∃ a' c', e = .returned (.tuple #[.slice a' RM.1.length c', .int .i64 0]) ∧ Below w'.heap.size w' w'') := fun w' hb => by rw [← hN, ← h0]; exact HR.out w' hb
    rw [hN] at hA nA' z0 z1 ⊢
    rw [show PM.2 = 0 from e0.out]
    have hg1 : ga < (w.alloc (.cells #[.int .i64 (wd : Int), .slice a N c] 31)).heap.size := (Array.getElem?_eq_some_iff.1 nA').1
    clear HR q1 q2 q3 h0 hN hX hg0 hp hh hRM hPM h hs hsz
    go_enter Tryz.func12, Tryz.ntmps12
    go_upto_region 1 with fail
    generalize w.alloc (.cells #[.int .i64 (wd : Int), .slice a N c] 31) = W at hA nA' z0 z1 hg1 ⊢
    go_upto_region 4 with (first | (go_at_call 48; refine (HR'.out _ hA).mono ?_; rintro e w1 ⟨a', c', rfl, hb1⟩; have hw1 := hA.trans (hb1.mono hA.size); have n1 := below_cells hb1 nA'))
    clear hb1 z0 z1
    have z0 : w1.cell? ⟨ga, 0, none⟩ = some (.int .i64 (wd : Int)) := Lib.cell_of_heap n1 0
    have z1 : w1.cell? ⟨ga, 1, none⟩ = some (.slice a N c) := Lib.cell_of_heap n1 1
    go_region_held3 (fun W => W.cell? ⟨ga, 0, none⟩ = some (.int .i64 (wd : Int)) ∧ W.cell? ⟨ga, 1, none⟩ = some (.slice a N c)) (first | exact ⟨z0, z1⟩ | exact ⟨Lib.cell_of_heap n2 0, Lib.cell_of_heap n2 1⟩ | exact ⟨Lib.cell_of_heap n3 0, Lib.cell_of_heap n3 1⟩) (first | (go_at_call 50; refine (HHS.out w1.drew hw1.drew).mono ?_; rintro e w2 ⟨g, c', rfl, HGG, hb2⟩; have hb2' : Below w1.heap.size w1 w2 := (Below.refl w1.heap.size w1).drew.trans hb2; have n2 := below_cells hb2' n1; have hw2 := hw1.trans (hb2'.mono hw1.size)) | (go_at_call 49; refine (HGG w2 (Below.refl _ _)).mono ?_; rintro e w3 ⟨rfl, hb3⟩; have n3 := below_cells hb3 n2; have hw3 := hw2.trans (hb3.mono hw2.size)))
    go_wp2_with fail
    go_ret2
    exact ⟨rfl, hw3⟩
  · have e0 := q2 h0
    have HR' : Hid (∀ w', Below w.heap.size w w' → Calls Tryz.prog 48 #[.agg #[.int .i64 n, .slice a ss.length c], .string root, .string lo, .string hi] w' fun e w'' => ∃ a' c', e = .returned (.tuple #[.slice a' RM.1.length c', .int .i64 PM.2]) ∧ Below w'.heap.size w' w'') := fun w' hb => by rw [← q1]; exact HR.out w' hb
    rw [q1] at h0
    rw [e0]
    have zz : (PM.2 == 0) = false := by simp [h0]
    clear HR q1 q2 q3 hRM hPM h hs e0
    go_enter Tryz.func12, Tryz.ntmps12
    go_wp2_with (first | (go_at_call 48; refine (HR'.out _ hA).mono ?_; rintro e w1 ⟨a', c', rfl, hb1⟩))
    go_ret2
    exact ⟨rfl, hA.trans (hb1.mono hA.size)⟩
end Go.Proofs.YtibjhkpgaaapaaaGreatDoor
namespace Go.Proofs.YtibjhkpgaaapaaaGreatDoor
open Go.RowKit Go.Proofs.Sha

set_option maxRecDepth 100000 in
set_option maxHeartbeats 2000000 in
theorem law_pr {K : World → Prop} (keep : Hid (∀ w1 w2, K w1 → Below w1.heap.size w1 w2 → K w2)) (n : Int) (a : Option Addr) (ss : List ByteArray) (c : Nat) (root lo hi : ByteArray) (w : World) (h : RArg a ss w) (hN : ss.length ≤ maxLen) (hM : ∀ j, (ss.getD j ⟨#[]⟩).size ≤ maxLen) (hr : root.size ≤ maxLen) (hlo : lo.size ≤ maxLen) (hhi : hi.size ≤ maxLen) (hK : K w)
    (X : ByteArray) (xc : Int)
    (H5 : Hid (root.size ≤ 1048576 → lo.size ≤ 1048576 → hi.size ≤ 1048576 → SmallS ss → ∀ g w', SArg (some ⟨g, 0, none⟩) ss w' → Calls Tryz.prog 12 #[.agg #[.int .i64 n, .slice (some ⟨g, 0, none⟩) ss.length ss.length], .string root, .string lo, .string hi] w' fun e w'' => e = .returned (.tuple #[.string X, .int .i64 xc]) ∧ Below w'.heap.size w' w''))
    (H7 : Hid (root.size ≤ 1048576 → ∀ g w', SArg (some ⟨g, 0, none⟩) ss w' → K w' → Calls Tryz.prog 14 #[.agg #[.int .i64 n, .slice (some ⟨g, 0, none⟩) ss.length ss.length], .string root, .string lo, .string hi] w' fun e w'' => e = .returned (.tuple #[.string X, .int .i64 xc]) ∧ Below w'.heap.size w' w'')) :
    Calls Tryz.prog 4 #[.agg #[.int .i64 n, .slice a ss.length c], .string root, .string lo, .string hi] w fun e w' => e = .returned (.bool true) ∧ Below w.heap.size w w' := by
  unfold maxLen at hr hlo hhi
  have hb0 : Below w.heap.size w (w.alloc (.cells #[.int .i64 n, .slice a ss.length c] 27)) := (Below.refl _ _).alloc (Nat.le_refl _) _
  by_cases hx0 : 1048576 < root.size
  · have z1 : decide ((1048576 : Int) < (root.size : Int)) = true := by rw [decide_eq_true_eq]; omega
    go_enter Tryz.func4, Tryz.ntmps4
    go_wp2_with fail
    go_ret
    exact ⟨rfl, hb0⟩
  have z1 : decide ((1048576 : Int) < (root.size : Int)) = false := by rw [decide_eq_false_iff_not]; omega
  by_cases hx1 : 1048576 < lo.size
  · have z2 : decide ((1048576 : Int) < (lo.size : Int)) = true := by rw [decide_eq_true_eq]; omega
    go_enter Tryz.func4, Tryz.ntmps4
    go_wp2_with fail
    go_ret
    exact ⟨rfl, hb0⟩
  have z2 : decide ((1048576 : Int) < (lo.size : Int)) = false := by rw [decide_eq_false_iff_not]; omega
  by_cases hx2 : 1048576 < hi.size
  · have z3 : decide ((1048576 : Int) < (hi.size : Int)) = true := by rw [decide_eq_true_eq]; omega
    go_enter Tryz.func4, Tryz.ntmps4
    go_wp2_with fail
    go_ret
    exact ⟨rfl, hb0⟩
  have z3 : decide ((1048576 : Int) < (hi.size : Int)) = false := by rw [decide_eq_false_iff_not]; omega
  have HS : Hid (∀ w', RArg a ss w' → Calls Tryz.prog 11 #[.agg #[.int .i64 n, .slice a ss.length c], .int .i64 1048576] w' fun e w'' => ∃ r : Int, e = .returned (.int .i64 r) ∧ Hid (0 ≤ r → SmallS ss) ∧ Below w'.heap.size w' w'') := fun w' h' => szPool_any n a ss c w' h' hN hM
  have HT : Hid (SmallS ss → ∀ w', RArg a ss w' → Calls Tryz.prog 13 #[.agg #[.int .i64 n, .slice a ss.length c]] w' fun e w'' => ∃ g, e = .returned (.agg #[.int .i64 n, .slice (some ⟨g, 0, none⟩) ss.length ss.length]) ∧ SArg (some ⟨g, 0, none⟩) ss w'' ∧ Below w'.heap.size w' w'') := fun hs w' h' => by
    refine (toPool_row n a ss c w' (h'.sarg hs)).mono ?_
    rintro e w'' ⟨g, he, hrow, hb⟩
    exact ⟨g, he, Row.sarg hrow hs, hb⟩
  have HQ : Hid (∀ g g2 w', SArg (some ⟨g, 0, none⟩) ss w' → SArg (some ⟨g2, 0, none⟩) ss w' → Calls Tryz.prog 15 #[.agg #[.int .i64 n, .slice (some ⟨g, 0, none⟩) ss.length ss.length], .agg #[.int .i64 n, .slice (some ⟨g2, 0, none⟩) ss.length ss.length]] w' fun e w'' => e = .returned (.bool true) ∧ Below w'.heap.size w' w'') := fun g g2 w' hw hw2 => eqPool_same n _ _ ss _ _ w' hw hw2
  clear hM hN
  go_enter Tryz.func4, Tryz.ntmps4
  go_wp2_with fail
  refine (HS.out _ (h.below hb0)).mono ?_
  rintro e w1 ⟨x1, rfl, HX, hb1⟩
  have hn1 := pblk_below hb1 (heap_alloc_new w (.cells #[.int .i64 n, .slice a ss.length c] 27))
  have hw1 : Below w.heap.size w w1 := hb0.trans (hb1.mono (by simp))
  clear hb1 hb0
  by_cases hx : x1 < 0
  · have zx : decide (x1 < 0) = true := decide_eq_true hx
    clear hx
    go_wp2_with fail
    go_ret
    exact ⟨rfl, hw1⟩
  have hs := HX.out (by omega)
  have zx : decide (x1 < 0) = false := decide_eq_false hx
  have H5' : Hid (∀ g w', SArg (some ⟨g, 0, none⟩) ss w' → Calls Tryz.prog 12 #[.agg #[.int .i64 n, .slice (some ⟨g, 0, none⟩) ss.length ss.length], .string root, .string lo, .string hi] w' fun e w'' => e = .returned (.tuple #[.string X, .int .i64 xc]) ∧ Below w'.heap.size w' w'') := H5.out (by omega) (by omega) (by omega) hs
  have H7' : Hid (∀ g w', SArg (some ⟨g, 0, none⟩) ss w' → K w' → Calls Tryz.prog 14 #[.agg #[.int .i64 n, .slice (some ⟨g, 0, none⟩) ss.length ss.length], .string root, .string lo, .string hi] w' fun e w'' => e = .returned (.tuple #[.string X, .int .i64 xc]) ∧ Below w'.heap.size w' w'') := H7.out (by omega)
  have HT' : Hid (∀ w', RArg a ss w' → Calls Tryz.prog 13 #[.agg #[.int .i64 n, .slice a ss.length c]] w' fun e w'' => ∃ g, e = .returned (.agg #[.int .i64 n, .slice (some ⟨g, 0, none⟩) ss.length ss.length]) ∧ SArg (some ⟨g, 0, none⟩) ss w'' ∧ Below w'.heap.size w' w'') := HT.out hs
  have hsl : ss.length ≤ 1048576 := hs.1
  clear H5 H7 HT HX hx hs HS hx0 hx1 hx2 hr hlo hhi
  obtain ⟨ga, hga⟩ : ∃ ga, w.heap.size = ga := ⟨_, rfl⟩
  rw [hga] at hn1
  rw [hga]
  have hgaH : Hid (w.heap.size = ga) := hga
  clear hga
  have c0 := Lib.cell_of_heap hn1 0
  have c1 := Lib.cell_of_heap hn1 1
  go_wp2_with fail
  refine (HT'.out _ (h.below hw1)).mono ?_
  rintro e w2 ⟨g2, rfl, hi2, hb2⟩
  have hn2 := pblk_below hb2 hn1
  have hw2 := hw1.trans (hb2.mono hw1.size)
  clear hb2 hn1 hw1 c0 c1
  go_wp2_with fail
  refine (H5'.out _ _ hi2).mono ?_
  rintro e w3 ⟨rfl, hb3⟩
  have hn3 := pblk_below hb3 hn2
  have hw3 := hw2.trans (hb3.mono hw2.size)
  clear hb3 hn2 hw2 hi2
  have c0 := Lib.cell_of_heap hn3 0
  have c1 := Lib.cell_of_heap hn3 1
  go_wp2_with fail
  refine (HT'.out _ (h.below hw3)).mono ?_
  rintro e w5 ⟨g5, rfl, hi5, hb5⟩
  have hn5 := pblk_below hb5 hn3
  have hw5 := hw3.trans (hb5.mono hw3.size)
  clear hb5 hn3 hw3 c0 c1
  have al5 : Below w5.heap.size w5 (w5.alloc (.cells #[.int .i64 n, .slice (some ⟨g5, 0, none⟩) ss.length ss.length] 31)) := (Below.refl _ _).alloc (Nat.le_refl _) _
  have hw6 := hw5.trans (al5.mono hw5.size)
  have hn6 := pblk_below al5 hn5
  have hi6 := hi5.below al5
  have nX := heap_alloc_new w5 (.cells #[.int .i64 n, .slice (some ⟨g5, 0, none⟩) ss.length ss.length] 31)
  obtain ⟨gx, hgx⟩ : ∃ gx, w5.heap.size = gx := ⟨_, rfl⟩
  rw [hgx] at nX
  clear al5 hn5 hw5 hi5
  go_upto_region 13 with fail
  generalize w5.alloc (.cells #[.int .i64 n, .slice (some ⟨g5, 0, none⟩) ss.length ss.length] 31) = W6 at hw6 hn6 hi6 nX ⊢
  clear hgx
  have d0 := Lib.cell_of_heap nX 0
  have d1 := Lib.cell_of_heap nX 1
  go_wp2_with fail
  refine (H7'.out _ _ hi6 (keep.out _ _ hK hw6)).mono ?_
  rintro e w7 ⟨rfl, hb7⟩
  have hn7 := pblk_below hb7 hn6
  have nX7 := pblk_below hb7 nX
  have hi7 := hi6.below hb7
  have hw7 := hw6.trans (hb7.mono hw6.size)
  clear hb7 hn6 nX hi6 d0 d1
  have y : (xc != xc) = false := by simp
  have y2 : (X.toList == X.toList) = true := by simp
  go_upto_region 16 with fail
  have c0 := Lib.cell_of_heap hn7 0
  have c1 := Lib.cell_of_heap hn7 1
  have d0 := Lib.cell_of_heap nX7 0
  have d1 := Lib.cell_of_heap nX7 1
  have hC : Hid (∀ W : World, Below w7.heap.size w7 W → W.cell? ⟨ga, 0, none⟩ = some (.int .i64 n) ∧ W.cell? ⟨ga, 1, none⟩ = some (.slice a ss.length c) ∧ W.cell? ⟨gx, 0, none⟩ = some (.int .i64 n) ∧ W.cell? ⟨gx, 1, none⟩ = some (.slice (some ⟨g5, 0, none⟩) ss.length ss.length)) := fun W hW => ⟨Lib.cell_of_heap (pblk_below hW hn7) 0, Lib.cell_of_heap (pblk_below hW hn7) 1, Lib.cell_of_heap (pblk_below hW nX7) 0, Lib.cell_of_heap (pblk_below hW nX7) 1⟩
  go_region_held3 (fun W => W.cell? ⟨ga, 0, none⟩ = some (.int .i64 n) ∧ W.cell? ⟨ga, 1, none⟩ = some (.slice a ss.length c) ∧ W.cell? ⟨gx, 0, none⟩ = some (.int .i64 n) ∧ W.cell? ⟨gx, 1, none⟩ = some (.slice (some ⟨g5, 0, none⟩) ss.length ss.length)) (first | exact ⟨c0, c1, d0, d1⟩ | exact hC.out _ hx10 | exact hC.out _ hx11) (first | (go_at_call 13; refine (HT'.out _ ((h.below hw7).below (Below.refl w7.heap.size w7).drew)).mono ?_; rintro e w10 ⟨g10, rfl, hi10, hb10⟩; have hx10 : Below w7.heap.size w7 w10 := (Below.refl w7.heap.size w7).drew.trans hb10; have hi10' := hi7.below hx10; clear hb10) | (go_at_call 15; refine (HQ.out _ _ _ hi10' hi10).mono ?_; rintro e w11 ⟨rfl, hb11⟩; have hx11 : Below w7.heap.size w7 w11 := hx10.trans (hb11.mono hx10.size)))
  have hw11 := hw7.trans (hx11.mono hw7.size)
  clear hn7 nX7 hi7 hw7 c0 c1 d0 d1 hC hi10 hi10' hb11 hx10 hx11 HQ
  go_wp2_with fail
  go_ret
  exact ⟨rfl, hw11⟩
theorem law_prove (n : Int) (a : Option Addr) (ss : List ByteArray) (c : Nat) (root lo hi : ByteArray) (w : World) (hN : ss.length ≤ maxLen) (hM : ∀ j, (ss.getD j ⟨#[]⟩).size ≤ maxLen)
    (h : 0 < ss.length → ∃ b off : Nat, a = some ⟨b, off, none⟩ ∧ b < w.heap.size ∧ ∀ j, j < ss.length → w.cell? ⟨b, off + j, none⟩ = some (.string (ss.getD j ⟨#[]⟩))) (hr : root.size ≤ maxLen) (hlo : lo.size ≤ maxLen) (hhi : hi.size ≤ maxLen)
    (hK : ∀ j, j < 64 → w.cell? ⟨0, j, none⟩ = some (.int .u32 ((kTab.getD j 0).toNat : Int))) :
    Calls Tryz.prog 4 #[.agg #[.int .i64 n, .slice a ss.length c], .string root, .string lo, .string hi] w fun e w' => e = .returned (.bool true) ∧ Below w.heap.size w w' := by
  obtain ⟨D, hdo, HD1, HD2⟩ := dec_both n
  obtain ⟨⟨X, xc⟩, hX⟩ : ∃ X, proveM (fndD D n.toNat ss) n ss.length root lo hi = X := ⟨_, rfl⟩
  refine law_pr (K := KT) (fun w1 w2 h1 hb => KT.below h1 hb) n a ss c root lo hi w ⟨h⟩ hN hM hr hlo hhi hK X xc ?_ ?_
  · intro q1 q2 q3 hs g w' hS
    have := sprove_any (fun t k w' ht h1 h2 => sdig_yes t k w' ht h1 h2) D n HD2 hdo (some ⟨g, 0, none⟩) ss ss.length root lo hi w' hS hs.2 q1 q2 q3
    rw [hX] at this
    exact this
  · intro q1 g w' hS hk
    have := iprove_any (fun s w' hs hk => ehash_any s w' hs hk) D n HD1 hdo (some ⟨g, 0, none⟩) ss ss.length root lo hi w' hS hk q1
    rw [hX] at this
    exact this
end Go.Proofs.YtibjhkpgaaapaaaGreatDoor
namespace Go.Proofs.Pools
open Go Go.ChangeShapes Go.WideShapes Go.ChangeAt Go.RowKit

/-- A struct of a number and a slice of texts that is handed in: what it holds, and that it reads so in every world in which what was there is as it was. -/
theorem open_pool {P : Program} {H : Type} {enc : TypeId × Value → H} {W : World} {b0 : Nat} {t e : TypeId} {f0 f1 : Field} {v : Value} {d : DataW H} {p : List MemPlace} (hs : P.underlying t = some (.struct #[f0, f1])) (hone : Go.Deep.oneCellFields P #[f0, f1] = true) (hC : P.cellsOf t = 2)
    (h0 : P.underlying f0.type = some (.int .i64)) (ht : P.underlying f1.type = some (.slice e)) (he : P.underlying e = some .string) (hc : P.cellsOf e = 1)
    (hv : Value.okWide P W .any b0 t v) (h : DataW.Trod enc P W 0 (fun _ => true) true t v d p) :
    ∃ (n : Int) (a : Option Addr) (c : Nat) (ss : List ByteArray), v = .agg #[.int .i64 n, .slice a ss.length c] ∧ ss.length ≤ maxLen ∧ (∀ j, (ss.getD j ⟨#[]⟩).size ≤ maxLen) ∧
      (0 < ss.length → ∃ b off : Nat, a = some ⟨b, off, none⟩ ∧ b < W.heap.size ∧ ∀ j, j < ss.length → W.cell? ⟨b, off + j, none⟩ = some (.string (ss.getD j ⟨#[]⟩))) ∧
      (∀ W' : World, Below W.heap.size W W' → DataW.Trod enc P W' 0 (fun b => decide (b < W.heap.size)) true t v d p) := by
  obtain ⟨v0, v1, y0, y1, m, rfl, rfl, rfl, hy0, hy1⟩ := Joins.open_agg2 hs hone hC hv h
  obtain ⟨n, e0, rfl, wn⟩ := DataW.trod_int h0 hy0
  simp only [List.cons.injEq, and_true] at e0
  subst e0
  rcases Deep.open_strs ht he hc hy1 with ⟨hc0, rfl⟩ | ⟨a, len, cap, q, Sx, hcs, _, hl, hm, hq, rfl, hx⟩
  · simp only [List.cons.injEq, and_true] at hc0
    subst hc0
    refine ⟨n, none, 0, [], rfl, Nat.zero_le _, fun _ => Nat.zero_le _, fun hx => absurd hx (Nat.lt_irrefl 0), fun W' _ => ?_⟩
    exact Joins.shut_agg2 hs hone hC (shut_int h0 wn) (shut_slice_nil ht)
  · simp only [List.cons.injEq, and_true] at hcs
    subst hcs
    simp only [if_true] at hq
    subst hq
    obtain ⟨b, off, spot⟩ := a
    have hcells : 0 < q → spot = none ∧ b < W.heap.size := fun h => by
      have h1 := (hx 0 (by omega)).1
      have hsp : spot = none := by simpa [Addr.add] using World.cell?_spot h1
      subst hsp
      rw [add_plain] at h1
      exact ⟨rfl, World.block_lt_of_cell? _ _ h1⟩
    have hlen : ((List.range len).map Sx).length = len := by rw [List.length_map, List.length_range]
    have hget : ∀ j, j < len → ((List.range len).map Sx).getD j ⟨#[]⟩ = Sx j := fun j hj => by
      rw [List.getD_eq_getElem?_getD, List.getElem?_map, List.getElem?_range hj]
      rfl
    refine ⟨n, some ⟨b, off, spot⟩, q, (List.range len).map Sx, by rw [hlen], by rw [hlen]; omega, fun j => ?_, fun hpos => ?_, fun W' hb => ?_⟩
    · by_cases hj : j < len
      · rw [hget j hj]; exact (hx j (by omega)).2
      · rw [List.getD_eq_getElem?_getD, List.getElem?_eq_none (by rw [hlen]; omega)]; exact Nat.zero_le _
    · rw [hlen] at hpos
      obtain ⟨rfl, hlt⟩ := hcells (by omega)
      refine ⟨b, off, rfl, hlt, fun j hj => ?_⟩
      rw [hlen] at hj
      rw [hget j hj, ← add_plain]
      exact (hx j (by omega)).1
    · refine Joins.shut_agg2 hs hone hC (shut_int h0 wn) ?_
      by_cases h0 : 0 < q
      · obtain ⟨rfl, hlt⟩ := hcells h0
        refine Deep.shut_strs_whole ht he hc (Nat.zero_le _) hl hm (by simpa using hlt) Sx (fun i hi => ?_) (fun i hi => (hx i hi).2)
        rw [hb.cell hlt, ← add_plain]
        exact (hx i hi).1
      · obtain rfl : q = 0 := by omega
        obtain rfl : len = 0 := by omega
        by_cases hlt : b < W.heap.size
        · have := Deep.shut_slice_whole_cells (enc := enc) (w := W') (base := 0) (spare := fun b => decide (b < W.heap.size)) (held := true) (a := ⟨b, off, spot⟩) (len := 0) (cap := 0) ht (Nat.zero_le _) hl hm (by simpa using hlt) (fun i => .lit (.string (Sx i).data.toList)) (fun _ => []) (fun i hi => absurd hi (Nat.not_lt_zero i))
          rwa [hc, Nat.mul_one, Deep.flatMap_nils, List.append_nil] at this
        · have := Deep.shut_slice_cells (enc := enc) (w := W') (base := 0) (spare := fun b => decide (b < W.heap.size)) (held := true) (a := ⟨b, off, spot⟩) (len := 0) (cap := 0) ht (Nat.zero_le _) hl hm (by simpa using hlt) (fun i => .lit (.string (Sx i).data.toList)) (fun _ => []) (fun i hi => absurd hi (Nat.not_lt_zero i))
          rwa [hc, Nat.mul_one, Deep.flatMap_nils, List.append_nil] at this
end Go.Proofs.Pools
namespace Go.Proofs.YtibjhkpgaaapaaaGreatDoor.fnExactProve
open Go.ChangeShapes Go.WideShapes Go.ChangeAt Go.RowKit Go.Proofs.Sha
open Go.ChangeMaps (open_string shut_string)

theorem own : ownKnob Tryz.prog.godebug = none := by kernel_rfl
theorem gTab : Tryz.prog.globalNamed "loop.example/s03048/impl.roundWords" = some 0 := by kernel_rfl
theorem gTabType : (Tryz.prog.globals[0]?).map (·.type) = some 294 := by kernel_rfl
theorem cellsTab : Tryz.prog.cellsOf 294 = 64 := by kernel_rfl
theorem cellsEl : Tryz.prog.cellsOf 177 = 1 := by kernel_rfl
def zs : List Int := kTab.map fun x => (x.toNat : Int)

/-- What the row's list gives: the table's cells hold its numbers. -/
theorem table {W : World} (h : laidMetH Tryz.prog Rows.fnExactProveRow.laid W) : Lib.TabIs Tryz.prog W "loop.example/s03048/impl.roundWords" .u32 zs :=
  Lib.tabIs_of_head (rest := []) gTab gTabType Tryz.underlying294 Tryz.underlying177 cellsEl cellsTab h
theorem tabCells {W : World} (h : laidMetH Tryz.prog Rows.fnExactProveRow.laid W) : ∀ j, j < 64 → W.cell? ⟨0, j, none⟩ = some (.int .u32 ((kTab.getD j 0).toNat : Int)) := fun j hj => by
  have h1 := (table h).cell gTab j (by exact hj)
  rw [h1]
  unfold zs
  rw [List.getD_eq_getElem?_getD, List.getElem?_map, List.getD_eq_getElem?_getD, List.getElem?_eq_getElem (by exact hj)]; rfl

def dat {H : Type} : DataW H := .agg (zs.map fun z => .lit (.int .u32 z))
/-- The table reads as itself, in whatever world. -/
theorem trod_tab {H : Type} (enc : TypeId × Value → H) (W : World) (sp : Nat → Bool) (hd : Bool) (n : Nat) : DataW.trod enc Tryz.prog W 0 sp hd (n + 2) 294 (kTab.map U) = some (dat, []) := by kernel_rfl
theorem trod_tab1 {H : Type} (enc : TypeId × Value → H) (W : World) (sp : Nat → Bool) (hd : Bool) : DataW.trod enc Tryz.prog W 0 sp hd 1 294 (kTab.map U) = none := by kernel_rfl

set_option maxRecDepth 100000 in
theorem contract (H : Type) (enc : TypeId × Value → H) (W : World) (base : Nat) (args : Array Value) (ds gs : List (DataW H)) (before : List MemPlace)
    (hval : ∀ (j : Nat) t v, Tryz.f4.params[j]? = some t → args[j]? = some v → Value.okWide Tryz.prog W .any base t v)
    (hW : DataW.Whole enc Tryz.prog Tryz.f4.params.toList Rows.fnExactProveSpec.vars false W args.toList ds gs before) (hL : laidMetH Tryz.prog Rows.fnExactProveRow.laid W) :
    Calls Tryz.prog 4 args W fun e W' => ∃ v, e = .returned v ∧ Rows.fnExactProveSpec.post enc Tryz.prog Tryz.f4 false true false false W args v W' := by
  have hW' := hW
  obtain ⟨p, q, hA0, hV, rfl, hfz, hnd⟩ := hW
  have hA : DataW.TrodAll enc Tryz.prog W 0 (fun _ => true) true Tryz.f4.params.toList args.toList ds p := hA0
  rw [Tryz.params4] at hA hval
  obtain ⟨v0, vs0, d0, ds0, p0, q0, hargs, rfl, rfl, h0, r0⟩ := trodAll_cons hA
  obtain ⟨v1, vs1, d1, ds1, p1, q1, rfl, rfl, rfl, h1, r1⟩ := trodAll_cons r0
  obtain ⟨v2, vs2, d2, ds2, p2, q2, rfl, rfl, rfl, h2, r2⟩ := trodAll_cons r1
  obtain ⟨v3, vs3, d3, ds3, p3, q3, rfl, rfl, rfl, h3, r3⟩ := trodAll_cons r2
  obtain ⟨rfl, rfl, rfl⟩ := trodAll_nil r3
  obtain rfl : args = #[v0, v1, v2, v3] := by cases args; simp_all
  obtain ⟨k0, x0, c0, s0, rfl, hs0, hm0, hx0, hz0⟩ := Pools.open_pool Tryz.underlying27 (by kernel_rfl) (by kernel_rfl) Tryz.underlying3 Tryz.underlying25 Tryz.underlying9 (by kernel_rfl) (hval 0 27 v0 rfl rfl) h0
  obtain ⟨s1, rfl, rfl, rfl, hs1⟩ := open_string Tryz.underlying9 (hval 1 9 v1 rfl rfl) h1
  obtain ⟨s2, rfl, rfl, rfl, hs2⟩ := open_string Tryz.underlying9 (hval 2 9 v2 rfl rfl) h2
  obtain ⟨s3, rfl, rfl, rfl, hs3⟩ := open_string Tryz.underlying9 (hval 3 9 v3 rfl rfl) h3
  obtain ⟨g, t, cs, fuel, d, p', rfl, hg, ht, hvar, hd, rfl⟩ := trodVars_one hV
  obtain rfl := Option.some.inj (gTab.symm.trans hg)
  obtain rfl := Option.some.inj (gTabType.symm.trans ht)
  have hcs : cs = (kTab.map U).toArray := Option.some.inj (hvar.symm.trans (table hL))
  subst hcs
  have hdd : d = dat ∧ p' = [] := by
    match fuel, hd with
    | 0, hd => simp [DataW.trod] at hd
    | 1, hd => rw [show (kTab.map U).toArray.toList = kTab.map U from rfl, trod_tab1] at hd; cases hd
    | n + 2, hd =>
      rw [show (kTab.map U).toArray.toList = kTab.map U from rfl, trod_tab] at hd
      cases hd
      exact ⟨rfl, rfl⟩
  obtain ⟨rfl, rfl⟩ := hdd
  have hcells := tabCells hL
  have hl0 : 0 < W.heap.size := World.block_lt_of_cell? W _ (hcells 0 (by omega))
  clear hA0
  refine (law_prove k0 x0 s0 c0 s1 s2 s3 W hs0 hm0 hx0 hs1 hs2 hs3 hcells).mono fun e W' ⟨he, hb⟩ => ?_
  subst he
  have hvar' : W'.var? Tryz.prog "loop.example/s03048/impl.roundWords" = some (kTab.map U).toArray := by
    unfold World.var? at hvar ⊢
    simp only [gTab, Option.bind_some] at hvar ⊢
    rw [hb.block 0 hl0]
    exact hvar
  exact ⟨_, rfl, ⟨_, _, _, [], _, MemPlace.row ⟨0, 0, none⟩ (kTab.map U).toArray.size ++ [], hW', trodAll_cons_mk (shut_bool Tryz.underlying4 _) trodAll_mk0, trodAll_cons_mk (hz0 W' hb) (trodAll_cons_mk (shut_string Tryz.underlying9 hs1) (trodAll_cons_mk (shut_string Tryz.underlying9 hs2) (trodAll_cons_mk (shut_string Tryz.underlying9 hs3) trodAll_mk0))),
    trodVars_mk1 (fuel := 2) gTab gTabType hvar' (trod_tab enc W' _ _ 0), hb.frame _, fun h => by cases h⟩⟩

theorem laid_met (os : Os) : laidMet Tryz.prog Rows.fnExactProveRow.laid (World.forCall ({ World.holding Tryz.prog os ⟨#[], #[], []⟩ with heap := (World.holding Tryz.prog os ⟨#[], #[], []⟩).heap.modify 0 fun | .cells _ t frozen => .cells (kTab.map U).toArray t frozen | o => o }) (fun _ _ => 0) ⟨#[], #[.agg #[.int .i64 0, .slice none 0 0], .string ByteArray.empty, .string ByteArray.empty, .string ByteArray.empty], []⟩).memory :=
  laidMet_of_run' 8 (by kernel_rfl) (by kernel_rfl)
theorem reads (os : Os) {H : Type} (enc : TypeId × Value → H) : ∃ places, DataW.whole enc Tryz.prog (World.forCall ({ World.holding Tryz.prog os ⟨#[], #[], []⟩ with heap := (World.holding Tryz.prog os ⟨#[], #[], []⟩).heap.modify 0 fun | .cells _ t frozen => .cells (kTab.map U).toArray t frozen | o => o }) (fun _ _ => 0) ⟨#[], #[.agg #[.int .i64 0, .slice none 0 0], .string ByteArray.empty, .string ByteArray.empty, .string ByteArray.empty], []⟩).memory Tryz.f4.params.toList Rows.fnExactProveSpec.vars false #[Value.agg #[.int .i64 0, .slice none 0 0], Value.string ByteArray.empty, Value.string ByteArray.empty, Value.string ByteArray.empty].toList 8 = some ([.agg [.lit (.int .i64 0), .nil], .lit (.string []), .lit (.string []), .lit (.string [])], [dat], places) :=
  ⟨MemPlace.row ⟨0, 0, none⟩ 64, by kernel_rfl⟩

set_option maxRecDepth 100000 in
theorem lifted (os : Os) (started : os.Started) (H : Type) (enc : TypeId × Value → H) (F : Stop.Interp) :
    ReturnsInHanded {} Tryz.checked os 4 .any ((OpenSpec.ofChange Rows.fnExactProveSpec).preRow enc Tryz.prog Tryz.f4 Rows.fnExactProveRow.domain false Rows.fnExactProveRow.laid) (((OpenSpec.ofChange Rows.fnExactProveSpec).at F).post enc Tryz.prog Tryz.f4 false true false false) := by
  obtain ⟨places, hx⟩ := reads os enc
  refine returnsInHanded_of_row (C := Tryz.checked) (s := OpenSpec.ofChange Rows.fnExactProveSpec) own started (by kernel_rfl) Tryz.func4
    (witness_row_at (enc := enc) (C := Tryz.checked) false ({ World.holding Tryz.prog os ⟨#[], #[], []⟩ with heap := (World.holding Tryz.prog os ⟨#[], #[], []⟩).heap.modify 0 fun | .cells _ t frozen => .cells (kTab.map U).toArray t frozen | o => o }) #[.agg #[.int .i64 0, .slice none 0 0], .string ByteArray.empty, .string ByteArray.empty, .string ByteArray.empty] rfl (by kernel_rfl) (by kernel_rfl) (by kernel_rfl)
      (OpenSpec.preRow_of_cond 8 hx (by kernel_rfl) (fun k hk => by cases hk) (by kernel_rfl) (laid_met os))) ?_
  intro W base args ds gs before hval hW _ _ _ hL _ _
  exact contract H enc W base args ds gs before hval hW hL

theorem said : Rows.FnExactProveSaid :=
  OpenClaim.holds_of_cond 4 Tryz.f4 rfl rfl rfl rfl rfl rfl rfl ⟨rfl, rfl, rfl, rfl, rfl⟩ rfl rfl rfl rfl rfl (by kernel_rfl) Tryz.func4 (by kernel_rfl)
    (of_decide_eq_true (by kernel_rfl)) (by unfold Func.isWrapper; first | (rw [if_pos (by decide +kernel)]; kernel_rfl) | (rw [if_neg (by decide +kernel)]; exact ⟨rfl, rfl⟩))
    (fun os started H enc _ F => by rw [OpenClaim.pre_eq_preRow]; exact lifted os started H enc F)

theorem plain (f : FuncId) (fn : Func) (hf : Tryz.pinned.checked.prog.funcNamed "loop.example/s03048/laws.FnExactProve" = some f) (hfn : Tryz.pinned.checked.prog.funcs[f]? = some fn) :
    true = Tryz.pinned.checked.prog.looks [] ∧ ∀ (j : Nat) t, fn.params[j]? = some t → Tryz.pinned.checked.prog.wantsStandIn t = false := by
  obtain rfl : f = 4 := Option.some.inj ((show Tryz.prog.funcNamed "loop.example/s03048/laws.FnExactProve" = some 4 by kernel_rfl).symm.trans hf) |>.symm
  obtain rfl : fn = Tryz.f4 := (Option.some.inj (Tryz.func4.symm.trans hfn)).symm
  refine ⟨by kernel_rfl, fun j t ht => ?_⟩
  rw [Tryz.params4] at ht
  have hm : t ∈ [27, 9, 9, 9] := by simpa using Array.mem_of_getElem? ht
  have hall : ([27, 9, 9, 9].all fun u => !Tryz.prog.wantsStandIn u) = true := by kernel_rfl
  exact (show Tryz.prog.wantsStandIn t = false by simpa using List.all_eq_true.1 hall t hm)
end Go.Proofs.YtibjhkpgaaapaaaGreatDoor.fnExactProve

namespace Go.Proofs.YtibjhkpgaaapaaaGreatDoor
/-- The card. -/
theorem fnExactProve_card : Rows.FnExactProveCardSaid :=
  Claim7.holds_tied_plain_at .later [] _ _ _ _ fnExactProve.said (fun _ h => by cases h) (by kernel_rfl) (fun _ h => by cases h) fnExactProve_row_tie rfl ⟨rfl, rfl⟩ (by kernel_rfl) rfl fnExactProve.plain (by kernel_rfl)
#print axioms fnExactProve_card
end Go.Proofs.YtibjhkpgaaapaaaGreatDoor
