import Derived.Test.YtfmpjlpakldheaaGreatDoorZxbo
import Derived.Test.YtfmpjlpakldheaaGreatDoorZxbq
import Derived.Test.YtfmpjlpakldheaaGreatDoorZxbh
import Derived.Test.YtfmpjlpakldheaaGreatDoorZxac
import Derived.Test.YtfmpjlpakldheaaGreatDoorZxbd
import Derived.Test.YtfmpjlpakldheaaGreatDoorZxbi
namespace Go.Proofs.YtfmpjlpakldheaaGreatDoor
open Go.RowKit Go.Proofs.Sha

theorem AP.fin2 {w : World} {gr gq : Nat} {n : Int} {ss roots : List ByteArray} {ap : Option Addr} {cp : Nat} {ar : Option Addr} {W : World} (h : AP w gr gq n ss roots ap cp ar W) (root lo hi : ByteArray) : RGot n ss root lo hi w (.returned (.tuple #[.agg #[.int .i64 n, .slice ap ss.length cp], .string root, .string lo, .string hi])) ((W.setCell ⟨gr, 0, none⟩ (.int .i64 n)).setCell ⟨gr, 1, none⟩ (.slice ap ss.length cp)) := by
  have m0 := heap_setCell_same W gr 0 _ 37 (.int .i64 n) h.res
  exact ⟨ap, cp, rfl, (h.parg.set37 h.res _).set37 m0 _, (h.bel.setCell (p := ⟨gr, 0, none⟩) h.ge _).setCell (p := ⟨gr, 1, none⟩) h.ge _⟩
set_option maxRecDepth 100000 in
set_option maxHeartbeats 4000000 in
theorem drange_any (a : Option Addr) (xs : List Nat) (cap z q : Nat) (n : Int) (ss roots : List ByteArray) (root lo hi : ByteArray)
    (HP : ∀ w, BL a xs w → Calls Tryz.prog 71 #[.slice a xs.length cap, .int .i64 ((0 : Nat) : Int)] w (AGot n ss roots root z w))
    (HB : ∀ w, BL a xs w → Calls Tryz.prog 72 #[.slice a xs.length cap, .int .i64 (z : Int)] w fun e w' => e = .returned (.tuple #[.string lo, .string hi, .int .i64 (q : Int)]) ∧ Below w.heap.size w w') :
    ∀ w, BL a xs w → Calls Tryz.prog 23 #[.slice a xs.length cap] w (RGot n ss root lo hi w) := by
  intro w hB
  have HP' : Hid (∀ w', Below w.heap.size w w' → Calls Tryz.prog 71 #[.slice a xs.length cap, .int .i64 0] w' (AGot n ss roots root z w')) := fun w' hb => HP w' (hB.below hb)
  have HB' : Hid (∀ w', Below w.heap.size w w' → Calls Tryz.prog 72 #[.slice a xs.length cap, .int .i64 (z : Int)] w' fun e w'' => e = .returned (.tuple #[.string lo, .string hi, .int .i64 (q : Int)]) ∧ Below w'.heap.size w' w'') := fun w' hb => HB w' (hB.below hb)
  unfold AGot at HP'
  clear HP HB hB
  obtain ⟨L, hLL⟩ : ∃ L, xs.length = L := ⟨_, rfl⟩
  rw [hLL] at HP' HB' ⊢
  clear hLL
  obtain ⟨N, hN⟩ : ∃ N, ss.length = N := ⟨_, rfl⟩
  rw [hN] at HP'
  obtain ⟨R, hRn⟩ : ∃ R, roots.length = R := ⟨_, rfl⟩
  rw [hRn] at HP'
  have hA : Below w.heap.size w (w.alloc (.cells #[.int .i64 0, .slice none 0 0] 37)) := (Below.refl _ _).alloc (Nat.le_refl _) _
  have nA := heap_alloc_new w (.cells #[.int .i64 0, .slice none 0 0] 37)
  have hgw : w.heap.size ≤ w.heap.size := Nat.le_refl _
  go_enter Tryz.func23, Tryz.ntmps23
  go_upto_region 1 with fail
  generalize w.alloc (.cells #[.int .i64 0, .slice none 0 0] 37) = wA at hA nA ⊢
  obtain ⟨gr, hgr⟩ : ∃ g, w.heap.size = g := ⟨_, rfl⟩
  have hgl : w.heap.size ≤ gr := Nat.le_of_eq hgr
  rw [hgr] at nA
  try rw [hgr]
  clear hgr hgw
  go_upto_region 2 with (first | (go_at_call 71; refine (HP'.out _ hA).mono ?_; rintro e w2 ⟨ap, cp, ar, cr, rfl, hS2, hR2, hb2⟩))
  have al : Below w2.heap.size w2 (w2.alloc (.cells #[.int .i64 n, .slice ap N cp] 37)) := (Below.refl _ _).alloc (Nat.le_refl _) _
  have nB := pblk_below hb2 nA
  have hbw2 := hA.trans (hb2.mono hA.size)
  have hAP : AP w gr w2.heap.size n ss roots ap cp ar (w2.alloc (.cells #[.int .i64 n, .slice ap N cp] 37)) := by
    refine ⟨pblk_below al nB, by rw [hN]; exact heap_alloc_new w2 _, ?_, hgl, hbw2.size, hS2.below al, hR2.below al, hbw2.trans (al.mono hbw2.size)⟩
    have := (Array.getElem?_eq_some_iff.1 nB).1
    omega
  generalize w2.alloc (.cells #[.int .i64 n, .slice ap N cp] 37) = w3 at hAP ⊢
  obtain ⟨gq, hgq⟩ : ∃ g, w2.heap.size = g := ⟨_, rfl⟩
  rw [hgq] at hAP
  try rw [hgq]
  clear hgq al hS2 hR2 nB nA hb2 hbw2 hA HP'
  go_upto_region 3 with (first | (go_at_call 72; refine (HB'.out _ hAP.bel).mono ?_; rintro e w4 ⟨rfl, hb4⟩))
  have hP4 := hAP.below hb4
  clear hAP hb4 HB'
  have c0 := Lib.cell_of_heap hP4.pool 0
  have c1 := Lib.cell_of_heap hP4.pool 1
  rw [hN] at c0 c1
  have hfin : Hid (RGot _ ss root lo hi w _ _) := hP4.fin2 root lo hi
  have m1 := hP4.m1
  rw [hN] at hfin
  rw [hN] at m1
  have e0 := Lib.cell_of_heap hP4.res 0
  have e1 := Lib.cell_of_heap hP4.res 1
  have ef : ∀ j, w4.frozen? ⟨gr, j, none⟩ = false := fun j => by rw [World.frozen?, hP4.res]; rfl
  clear hP4
  go_wp2_with fail
  exact retPT4 Tryz.results23 rfl rfl rfl rfl rfl m1 hfin.out
end Go.Proofs.YtfmpjlpakldheaaGreatDoor
namespace Go.Proofs.YtfmpjlpakldheaaGreatDoor
open Go.RowKit Go.Proofs.Sha

theorem RangeAt.parg {X : List PairT × Int} {w w' : World} {e : Ending} (hs : SmallP X.1) (h : RangeAt X w e w') : ∃ a c, e = .returned (.tuple #[.slice a X.1.length c, .int .i64 X.2]) ∧ PArg a X.1 w' ∧ Below w.heap.size w w' := by
  obtain ⟨⟨a, c, rfl, ho⟩, hb⟩ := h
  exact ⟨a, c, rfl, own_parg ho hs, hb⟩
set_option maxRecDepth 100000 in
set_option maxHeartbeats 4000000 in
theorem range_walk (a : Option Addr) (xs : List Nat) (cap : Nat) (n : Int) (ss : List ByteArray) (root lo hi : ByteArray) (X Y : List PairT) (x y : Int) (w : World) (hL : xs.length ≤ 1048576) (hB : BL a xs w) (hK : KT w) (hlo : lo.size ≤ 80) (hhi : hi.size ≤ 80)
    (HDw : ∀ w, BL a xs w → Calls Tryz.prog 23 #[.slice a xs.length cap] w (RGot n ss root lo hi w))
    (HSR : ∀ w ap cp, SArg ap ss w → Calls Tryz.prog 24 #[.agg #[.int .i64 n, .slice ap ss.length cp], .string root, .string lo, .string hi] w (RangeAt (X, x) w))
    (HIR : ∀ w ap cp, SArg ap ss w → KT w → Calls Tryz.prog 25 #[.agg #[.int .i64 n, .slice ap ss.length cp], .string root, .string lo, .string hi] w (RangeAt (X, x) w))
    (HSL : ∀ w ap cp, SArg ap ss w → Calls Tryz.prog 26 #[.agg #[.int .i64 n, .slice ap ss.length cp], .string root] w (RangeAt (Y, y) w))
    (HIL : ∀ w ap cp, SArg ap ss w → KT w → Calls Tryz.prog 21 #[.agg #[.int .i64 n, .slice ap ss.length cp], .string root] w (RangeAt (Y, y) w))
    (hXs : SmallP X) (hYs : SmallP Y) (hXY : y = 0 → x = 0 ∧ X = wfil lo hi Y) :
    Calls Tryz.prog 5 #[.slice a xs.length cap] w fun e w' => e = .returned (.bool true) ∧ Below w.heap.size w w' := by
  have H1 : Hid (∀ w', Below w.heap.size w w' → Calls Tryz.prog 23 #[.slice a xs.length cap] w' (RGot n ss root lo hi w')) := fun w' hb => HDw w' (hB.below hb)
  unfold RGot at H1
  have z0 : decide ((1048576 : Int) < (xs.length : Int)) = false := by simp; omega
  obtain ⟨L, hLL⟩ : ∃ L, xs.length = L := ⟨_, rfl⟩
  rw [hLL] at H1 z0 hL ⊢
  clear hLL
  obtain ⟨N, hN⟩ : ∃ N, ss.length = N := ⟨_, rfl⟩
  rw [hN] at H1 HSR HIR HSL HIL
  clear HDw
  obtain ⟨M, hM⟩ : ∃ M, X.length = M := ⟨_, rfl⟩
  obtain ⟨M2, hM2⟩ : ∃ M, Y.length = M := ⟨_, rfl⟩
  have KX : Hid (∀ w' a b c d, PArg a X w' → PArg b X w' → Calls Tryz.prog 22 #[.slice a M c, .slice b M d] w' fun e w'' => e = .returned (.bool true) ∧ Below w'.heap.size w' w'') := fun w' a b c d h1 h2 => by
    have := wsame_any a b X X c d w' h1 h2
    rw [hM, decide_eq_true rfl] at this
    exact this
  have KY : Hid (∀ w' a b c d, PArg a Y w' → PArg b Y w' → Calls Tryz.prog 22 #[.slice a M2 c, .slice b M2 d] w' fun e w'' => e = .returned (.bool true) ∧ Below w'.heap.size w' w'') := fun w' a b c d h1 h2 => by
    have := wsame_any a b Y Y c d w' h1 h2
    rw [hM2, decide_eq_true rfl] at this
    exact this
  have KW : Hid (y = 0 → ∀ w' a c, PArg a Y w' → Calls Tryz.prog 27 #[.slice a M2 c, .string lo, .string hi] w' fun e w'' => ∃ a' c', e = .returned (.slice a' M c') ∧ PArg a' X w'' ∧ Below w'.heap.size w' w'') := fun hy w' a c h1 => by
    have := wwithin_any a Y c lo hi w' h1 (by omega) (by omega)
    rw [← (hXY hy).2, hM2] at this
    refine this.mono ?_
    rintro e w'' ⟨a', c', rfl, ho⟩
    exact ⟨a', c', by rw [hM], ownp_parg ho hXs, ho.bel⟩
  have hx0 : Hid (y = 0 → x = 0) := fun hy => (hXY hy).1
  have JSR : Hid (∀ w' ap cp, SArg ap ss w' → Calls Tryz.prog 24 #[.agg #[.int .i64 n, .slice ap N cp], .string root, .string lo, .string hi] w' fun e w'' => ∃ a c, e = .returned (.tuple #[.slice a M c, .int .i64 x]) ∧ PArg a X w'' ∧ Below w'.heap.size w' w'') := fun w' ap cp h => (HSR w' ap cp h).mono fun e w'' q => by have := q.parg hXs; simp only [hM] at this; exact this
  have JIR : Hid (∀ w' ap cp, SArg ap ss w' → KT w' → Calls Tryz.prog 25 #[.agg #[.int .i64 n, .slice ap N cp], .string root, .string lo, .string hi] w' fun e w'' => ∃ a c, e = .returned (.tuple #[.slice a M c, .int .i64 x]) ∧ PArg a X w'' ∧ Below w'.heap.size w' w'') := fun w' ap cp h hk => (HIR w' ap cp h hk).mono fun e w'' q => by have := q.parg hXs; simp only [hM] at this; exact this
  have JSL : Hid (∀ w' ap cp, SArg ap ss w' → Calls Tryz.prog 26 #[.agg #[.int .i64 n, .slice ap N cp], .string root] w' fun e w'' => ∃ a c, e = .returned (.tuple #[.slice a M2 c, .int .i64 y]) ∧ PArg a Y w'' ∧ Below w'.heap.size w' w'') := fun w' ap cp h => (HSL w' ap cp h).mono fun e w'' q => by have := q.parg hYs; simp only [hM2] at this; exact this
  have JIL : Hid (∀ w' ap cp, SArg ap ss w' → KT w' → Calls Tryz.prog 21 #[.agg #[.int .i64 n, .slice ap N cp], .string root] w' fun e w'' => ∃ a c, e = .returned (.tuple #[.slice a M2 c, .int .i64 y]) ∧ PArg a Y w'' ∧ Below w'.heap.size w' w'') := fun w' ap cp h hk => (HIL w' ap cp h hk).mono fun e w'' q => by have := q.parg hYs; simp only [hM2] at this; exact this
  have hKh : Hid (KT w) := hK
  clear HSR HIR HSL HIL hM hM2 hXY hK hB hN hXs hYs
  go_enter Tryz.func5, Tryz.ntmps5
  go_upto_region 4 with (first | (go_at_call 23; refine (H1.out _ (Below.refl _ _)).mono ?_; rintro e w1 ⟨ap1, cp1, rfl, hS1, hb1⟩))
  have al : Below w1.heap.size w1 (w1.alloc (.cells #[.int .i64 n, .slice ap1 N cp1] 37)) := (Below.refl _ _).alloc (Nat.le_refl _) _
  have nA := heap_alloc_new w1 (.cells #[.int .i64 n, .slice ap1 N cp1] 37)
  have hSA := hS1.below al
  have hbA := hb1.trans (al.mono hb1.size)
  generalize w1.alloc (.cells #[.int .i64 n, .slice ap1 N cp1] 37) = wA at nA hSA hbA ⊢
  obtain ⟨gp, hgp⟩ : ∃ g, w1.heap.size = g := ⟨_, rfl⟩
  rw [hgp] at nA
  try rw [hgp]
  clear hgp al hS1 hb1
  go_upto_region 5 with (first | (go_at_call 23; refine (H1.out _ hbA).mono ?_; rintro e w2 ⟨ap2, cp2, rfl, hS2, hb2⟩))
  have al : Below w2.heap.size w2 (w2.alloc (.cells #[.int .i64 n, .slice ap2 N cp2] 37)) := (Below.refl _ _).alloc (Nat.le_refl _) _
  have hbAB := hb2.trans (al.mono hb2.size)
  have nQ := heap_alloc_new w2 (.cells #[.int .i64 n, .slice ap2 N cp2] 37)
  have nP := pblk_below hbAB nA
  have hSq := hS2.below al
  have hSp := hSA.below hbAB
  have hbB := hbA.trans (hbAB.mono hbA.size)
  generalize w2.alloc (.cells #[.int .i64 n, .slice ap2 N cp2] 37) = wB at nQ nP hSq hSp hbB ⊢
  obtain ⟨gq, hgq⟩ : ∃ g, w2.heap.size = g := ⟨_, rfl⟩
  rw [hgq] at nQ
  try rw [hgq]
  clear hgq al hS2 hb2 hSA hbA hbAB nA H1
  have hKB : Hid (KT wB) := hKh.out.below hbB
  clear hKh
  have q0 := Lib.cell_of_heap nQ 0
  have q1 := Lib.cell_of_heap nQ 1
  go_upto_region 6 with (first | (go_at_call 24; refine (JSR.out _ ap2 cp2 hSq).mono ?_; rintro e w3 ⟨a3, c3, rfl, hP3, hb3⟩))
  clear q0 q1 JSR
  have nP3 := pblk_below hb3 nP
  have p0 := Lib.cell_of_heap nP3 0
  have p1 := Lib.cell_of_heap nP3 1
  go_upto_region 7 with (first | (go_at_call 25; refine (JIR.out _ ap1 cp1 (hSp.below hb3) (hKB.out.below hb3)).mono ?_; rintro e w4 ⟨a4, c4, rfl, hP4, hb4'⟩; have hb4 := hb3.trans (hb4'.mono hb3.size); have hP3' := hP3.below hb4'))
  clear p0 p1 JIR hP3 nP3 hb3
  have zx : ((x : Int) != x) = false := by simp
  have zx' : ((x : Int) == x) = true := by simp
  go_upto_region 9 with (first | (go_at_call 22; refine (KX.out _ a4 a3 c4 c3 hP4 hP3').mono ?_; rintro e w5 ⟨rfl, hb5'⟩; have hb5 := hb4.trans (hb5'.mono hb4.size); have hP5 := hP4.below hb5'))
  clear zx zx' hP4 hP3' hb4' hb4
  have nQ5 := pblk_below hb5 nQ
  have q0 := Lib.cell_of_heap nQ5 0
  have q1 := Lib.cell_of_heap nQ5 1
  go_upto_region 10 with (first | (go_at_call 26; refine (JSL.out _ ap2 cp2 (hSq.below hb5)).mono ?_; rintro e w6 ⟨a6, c6, rfl, hP6, hb6'⟩; have hb6 := hb5.trans (hb6'.mono hb5.size); have hQ6 := hP5.below hb6'))
  clear q0 q1 JSL hP5 hb5 hb5' nQ5 hSq nQ
  have hbw6 := hbB.trans (hb6.mono hbB.size)
  by_cases hy : y = 0
  · have hx := hx0.out hy
    have KW' : Hid _ := KW.out hy
    subst hy hx
    clear KW hx0
    have nP6 := pblk_below hb6 nP
    have p0 := Lib.cell_of_heap nP6 0
    have p1 := Lib.cell_of_heap nP6 1
    go_upto_region 13 with (first | (go_at_call 21; refine (JIL.out _ ap1 cp1 (hSp.below hb6) (hKB.out.below hb6)).mono ?_; rintro e w7 ⟨a7, c7, rfl, hP7, hb7'⟩; have hb7 := hbw6.trans (hb7'.mono hbw6.size); have hQ7 := hQ6.below hb7'; have hY7 := hP6.below hb7'))
    clear p0 p1 nP6 JIL hQ6 hP6 hbw6 hb6 hSp hKB nP
    go_wp2_with (first | (go_at_call_of 22 (Value.slice a7 M2 c7); refine (KY.out _ a7 a6 c7 c6 hP7 hY7).mono ?_; rintro e w8 ⟨rfl, hb8'⟩; have hb8 := hb7.trans (hb8'.mono hb7.size); have hQ8 := hQ7.below hb8'; have hY8 := hP7.below hb8') | (go_at_call 27; refine (KW'.out _ a7 c7 hY8).mono ?_; rintro e w9 ⟨a9, c9, rfl, hX9, hb9'⟩; have hb9 := hb8.trans (hb9'.mono hb8.size); have hQ9 := hQ8.below hb9') | (go_at_call_of 22 (Value.slice a4 M c4); refine (KX.out _ a4 a9 c4 c9 hQ9 hX9).mono ?_; rintro e w10 ⟨rfl, hb10'⟩; have hb10 := hb9.trans (hb10'.mono hb9.size)))
    go_ret
    exact ⟨rfl, hb10⟩
  · have zy : ((y : Int) != 0) = true := by simp [hy]
    have zy' : ((y : Int) == 0) = false := by simp [hy]
    go_wp2_with fail
    go_ret
    exact ⟨rfl, hbw6⟩
end Go.Proofs.YtfmpjlpakldheaaGreatDoor
namespace Go.Proofs.YtfmpjlpakldheaaGreatDoor
open Go.RowKit Go.Proofs.Sha

theorem less_nil (k : ByteArray) : lessB k ⟨#[]⟩ = false := by
  unfold lessB
  rw [ByteArray.toList_eq, ByteArray.toList_eq]
  cases k.data.toList <;> rfl
theorem nil_less {k : ByteArray} (h : emp k = false) : lessB ⟨#[]⟩ k = true := by
  unfold emp at h
  have h1 : ¬ k.size = 0 := of_decide_eq_false h
  unfold lessB
  rw [ByteArray.toList_eq, ByteArray.toList_eq]
  have h2 : ¬ k.data.toList.length = 0 := h1
  cases hk : k.data.toList with
  | nil => rw [hk] at h2; exact absurd rfl h2
  | cons x xs => simp [Op.bytesLess]
theorem canW_all (over under : ByteArray) : canW over under ⟨#[]⟩ ⟨#[]⟩ = true := by
  unfold canW
  have e0 : emp ⟨#[]⟩ = true := rfl
  rw [e0, Bool.true_or, Bool.true_and]
  cases h : emp under with
  | true => rfl
  | false => rw [nil_less h]; rfl
theorem hasW_all (k : ByteArray) : hasW ⟨#[]⟩ ⟨#[]⟩ k = true := by
  unfold hasW
  rw [less_nil]
  rfl
theorem less_le {a b c : ByteArray} (h : lessB a b = true) (k : lessB c b = false) : lessB a c = true := by
  by_cases e : b = c
  · subst e; exact h
  · have := lessB_or c b k (fun q => e q.symm)
    exact lessB_tr h this
theorem canW_no {over under lo hi x : ByteArray} (h : canW over under lo hi = false) (h1 : lessB over x = true) (h2 : emp under = true ∨ lessB x under = true) : hasW lo hi x = false := by
  unfold canW at h
  unfold hasW
  rcases Bool.and_eq_false_iff.1 h with h | h
  · rcases Bool.or_eq_false_iff.1 h with ⟨he, hb⟩
    rw [he, Bool.false_or]
    rcases Bool.and_eq_false_iff.1 hb with hb | hb
    · cases hx : lessB x hi with
      | false => rw [Bool.and_false]
      | true => rw [less_le hx hb]; rfl
    · cases hx : lessB x hi with
      | false => rw [Bool.and_false]
      | true =>
        have := lessB_tr h1 hx
        rw [this] at hb
        cases hb
  · rcases Bool.or_eq_false_iff.1 h with ⟨he, hb⟩
    rcases h2 with h2 | h2
    · rw [h2] at he; cases he
    · rw [less_le h2 hb]; rfl
/-- Where a whole tree loads, a range is the part of it that is within the bounds. -/
theorem goF_range {fnd : ByteArray → FN} {hg : ByteArray → ByteArray → Bool} {wd : Nat} (hfo : FndOk wd fnd) (lo hi : ByteArray) : ∀ (f : Nat) (hash over under par : ByteArray) (cnt cnt' : Nat), cnt' ≤ cnt → cnt ≤ 500 → (goF fnd hg ⟨#[]⟩ ⟨#[]⟩ f hash over under par cnt).1 = 0 →
    (goF fnd hg lo hi f hash over under par cnt').1 = 0 ∧ (goF fnd hg lo hi f hash over under par cnt').2.1 ≤ (goF fnd hg ⟨#[]⟩ ⟨#[]⟩ f hash over under par cnt).2.1 ∧ (goF fnd hg lo hi f hash over under par cnt').2.2 = (goF fnd hg ⟨#[]⟩ ⟨#[]⟩ f hash over under par cnt).2.2.filter (fun p => hasW lo hi p.1)
  | 0, _, _, _, _, _, _, _, _, h => by rw [goF] at h; exact absurd h (by decide)
  | f + 1, hash, over, under, par, cnt, cnt', hc, h5, h => by
    have hup := (goF_up (hg := hg) (lo := ⟨#[]⟩) (hi := ⟨#[]⟩) hfo (f + 1) hash over under par cnt).2
    cases he : emp hash with
    | true =>
      have s1 : (emp hash || !canW over under ⟨#[]⟩ ⟨#[]⟩) = true := by rw [he]; rfl
      have s2 : (emp hash || !canW over under lo hi) = true := by rw [he]; rfl
      rw [goF_skip s1, goF_skip s2]
      exact ⟨rfl, hc, rfl⟩
    | false =>
      have s1 : (emp hash || !canW over under ⟨#[]⟩ ⟨#[]⟩) = false := by rw [he, canW_all]; rfl
      by_cases h2 : (fnd hash).2 = 2
      · rw [goF_missing s1 h2] at h; exact absurd h (by decide)
      · by_cases h20 : (fnd hash).2 = 0
        · cases h3 : (insW over under (fnd hash).1.1 && parW hg par (fnd hash).1.1) with
          | false => rw [goF_place s1 h20 h3] at h; exact absurd h (by decide)
          | true =>
            by_cases h4 : 500 < cnt + 1
            · rw [goF_many s1 h20 h3 h4] at h; exact absurd h (by decide)
            · have e : fnd hash = (((fnd hash).1.1, (fnd hash).1.2.1, (fnd hash).1.2.2.1, (fnd hash).1.2.2.2), 0) := by rw [← h20]
              have hn := goF_node (cnt := cnt) (f := f) s1 e h3 (by omega) rfl rfl
              rw [hn] at h hup ⊢
              have hL0 : (goF fnd hg ⟨#[]⟩ ⟨#[]⟩ f (fnd hash).1.2.2.1 over (fnd hash).1.1 (fnd hash).1.1 (cnt + 1)).1 = 0 := by
                by_cases q : (goF fnd hg ⟨#[]⟩ ⟨#[]⟩ f (fnd hash).1.2.2.1 over (fnd hash).1.1 (fnd hash).1.1 (cnt + 1)).1 = 0
                · exact q
                · rw [if_pos q] at h; exact absurd h q
              rw [if_neg (by rw [hL0]; simp)] at h hup ⊢
              have hR0 : (goF fnd hg ⟨#[]⟩ ⟨#[]⟩ f (fnd hash).1.2.2.2 (fnd hash).1.1 under (fnd hash).1.1 (goF fnd hg ⟨#[]⟩ ⟨#[]⟩ f (fnd hash).1.2.2.1 over (fnd hash).1.1 (fnd hash).1.1 (cnt + 1)).2.1).1 = 0 := by
                by_cases q : (goF fnd hg ⟨#[]⟩ ⟨#[]⟩ f (fnd hash).1.2.2.2 (fnd hash).1.1 under (fnd hash).1.1 (goF fnd hg ⟨#[]⟩ ⟨#[]⟩ f (fnd hash).1.2.2.1 over (fnd hash).1.1 (fnd hash).1.1 (cnt + 1)).2.1).1 = 0
                · exact q
                · rw [if_pos q] at h; exact absurd h q
              rw [if_neg (by rw [hR0]; simp)] at h hup ⊢
              rw [hasW_all, if_pos rfl] at hup ⊢
              have hcl := goF_cnt (fnd := fnd) (hg := hg) (lo := ⟨#[]⟩) (hi := ⟨#[]⟩) f (fnd hash).1.2.2.1 over (fnd hash).1.1 (fnd hash).1.1 (cnt + 1) (by omega) hL0
              have hcr := goF_cnt (fnd := fnd) (hg := hg) (lo := ⟨#[]⟩) (hi := ⟨#[]⟩) f (fnd hash).1.2.2.2 (fnd hash).1.1 under (fnd hash).1.1 _ hcl.2 hR0
              cases hcw : canW over under lo hi with
              | false =>
                have s2 : (emp hash || !canW over under lo hi) = true := by rw [hcw, Bool.not_false, Bool.or_true]
                rw [goF_skip s2]
                refine ⟨rfl, ?_, ?_⟩
                · show cnt' ≤ _
                  have := hcl.1
                  have := hcr.1
                  simp only
                  omega
                · symm
                  refine filter_no fun p hp => ?_
                  have := hup p.1 (mem_keys hp)
                  exact canW_no hcw this.1 this.2
              | true =>
                have s2 : (emp hash || !canW over under lo hi) = false := by rw [he, hcw]; rfl
                obtain ⟨a1, a2, a3⟩ := goF_range hfo lo hi f (fnd hash).1.2.2.1 over (fnd hash).1.1 (fnd hash).1.1 (cnt + 1) (cnt' + 1) (by omega) (by omega) hL0
                obtain ⟨b1, b2, b3⟩ := goF_range hfo lo hi f (fnd hash).1.2.2.2 (fnd hash).1.1 under (fnd hash).1.1 _ _ a2 hcl.2 hR0
                rw [goF_node s2 e h3 (by omega) rfl rfl, if_neg (by rw [a1]; simp), if_neg (by rw [b1]; simp)]
                refine ⟨rfl, b2, ?_⟩
                simp only [List.filter_append]
                rw [a3, b3]
                congr 2
                rw [List.filter_cons]
                split <;> rfl
        · rw [goF, if_neg (by rw [s1]; decide), if_neg h2, if_pos h20] at h; exact absurd h (by decide)
theorem rangeM_of_load {fnd : ByteArray → FN} {wd : Nat} (hfo : FndOk wd fnd) (n : Int) (m : Nat) (root lo hi : ByteArray) (h : (rangeM fnd n m root ⟨#[]⟩ ⟨#[]⟩).2 = 0) :
    rangeM fnd n m root lo hi = ((rangeM fnd n m root ⟨#[]⟩ ⟨#[]⟩).1.filter (fun p => hasW lo hi p.1), 0) := by
  unfold rangeM at h ⊢
  by_cases hp : (poolOk n m && hashOk root.size n) = true
  · rw [if_pos hp] at h ⊢
    rw [if_pos hp]
    by_cases h0 : (goF fnd hgW ⟨#[]⟩ ⟨#[]⟩ 501 root ⟨#[]⟩ ⟨#[]⟩ ⟨#[]⟩ 0).1 = 0
    · obtain ⟨a1, _, a3⟩ := goF_range hfo lo hi 501 root ⟨#[]⟩ ⟨#[]⟩ ⟨#[]⟩ 0 0 (Nat.le_refl _) (Nat.zero_le _) h0
      rw [if_pos h0, if_pos a1, a3]
    · rw [if_neg h0] at h
      exact absurd h h0
  · rw [if_neg hp] at h
    exact absurd h (by decide)
end Go.Proofs.YtfmpjlpakldheaaGreatDoor
namespace Go.Proofs.YtfmpjlpakldheaaGreatDoor
open Go.RowKit Go.Proofs.Sha

/-- One reading of nodes that is both the program's and the model's. -/
theorem dec_both (n : Int) : ∃ D : Dec, (∀ wd : Nat, (wd : Int) = n → DecOk wd D) ∧ Hid (∀ wd : Nat, (wd : Int) = n → 1 ≤ wd → wd ≤ 32 → DecSaid 181 wd D) ∧ Hid (∀ wd : Nat, (wd : Int) = n → 1 ≤ wd → wd ≤ 32 → DecSaid 148 wd D) := by
  obtain ⟨f, hf⟩ := Classical.axiomOfChoice (dec_ex n)
  obtain ⟨D, hD⟩ : ∃ D : Dec, D = ⟨fun s => (f s).1, fun s => (f s).2.1, fun s => (f s).2.2.1, fun s => (f s).2.2.2.1, fun s => (f s).2.2.2.2⟩ := ⟨_, rfl⟩
  refine ⟨D, fun wd hwd s hs => ?_, ?_, ?_⟩
  · have h1 := hf s
    rw [hD] at hs
    simp only at hs
    rw [hs] at h1
    have h2 := nodeOk_out (decOk_of h1)
    rw [hD]
    simp only
    unfold okKey okVal
    refine ⟨decide_eq_true (by omega), decide_eq_true (by omega), by omega, by omega⟩
  · intro wd hwd _ _ s w' hs
    refine (dec_impl s wd w' hs).mono ?_
    rintro e w'' ⟨h1, hb⟩
    rw [hwd] at h1
    rw [hD]
    exact ⟨h1.one (hf s), hb⟩
  · intro wd hwd _ _ s w' hs
    refine (dec_any s wd w' hs).mono ?_
    rintro e w'' ⟨h1, hb⟩
    rw [hwd] at h1
    rw [hD]
    exact ⟨h1.one (hf s), hb⟩
theorem srange_any (HD : Hid DigSaid) (D : Dec) (n : Int) (HD2 : Hid (∀ wd : Nat, (wd : Int) = n → 1 ≤ wd → wd ≤ 32 → DecSaid 148 wd D)) (hdo : ∀ wd : Nat, (wd : Int) = n → DecOk wd D) (a : Option Addr) (ss : List ByteArray) (c : Nat) (root lo hi : ByteArray) (w : World) (h : SArg a ss w) (hs : Hid (∀ j, (ss.getD j ⟨#[]⟩).size ≤ 1048575)) (hr : root.size ≤ 1048576) (hlo : lo.size ≤ 1048576) (hhi : hi.size ≤ 1048576) :
    Calls Tryz.prog 24 #[.agg #[.int .i64 n, .slice a ss.length c], .string root, .string lo, .string hi] w (RangeAt (rangeM (fndD D n.toNat ss) n ss.length root lo hi) w) := by
  cases hp : (poolOk n ss.length && hashOk root.size n) with
  | false => rw [rangeM_bad hp]; exact srange_bad n _ ss.length c root lo hi w h.le hr hp
  | true =>
    have hp2 := (Bool.and_eq_true _ _).mp hp
    have hp' : 1 ≤ n ∧ n ≤ 32 ∧ ss.length ≤ 20000 := of_decide_eq_true hp2.1
    obtain ⟨wd, rfl⟩ : ∃ wd : Nat, n = (wd : Int) := ⟨n.toNat, by omega⟩
    rw [Int.toNat_natCast]
    exact srange_good HD D wd (HD2.out wd rfl (by omega) (by omega)) (hdo wd rfl) _ ss c root lo hi w h hs (by omega) (by omega) hr hlo hhi hp2.1 hp2.2
/-- What a load reads is small. -/
theorem rangeM_sm (D : Dec) (n : Int) (hdo : ∀ wd : Nat, (wd : Int) = n → DecOk wd D) (ss : List ByteArray) (root lo hi : ByteArray) : (rangeM (fndD D n.toNat ss) n ss.length root lo hi).1.length ≤ 500 ∧ SmallP (rangeM (fndD D n.toNat ss) n ss.length root lo hi).1 := by
  by_cases hp : (poolOk n ss.length && hashOk root.size n) = true
  · have hp' : 1 ≤ n ∧ n ≤ 32 ∧ ss.length ≤ 20000 := of_decide_eq_true ((Bool.and_eq_true _ _).mp hp).1
    exact rangeM_small (fndD_ok D n.toNat ss (hdo n.toNat (by omega))) n ss.length root lo hi
  · rw [rangeM_bad (by simpa using hp)]
    exact ⟨by decide, nil_small⟩
theorem rangeM_cut (D : Dec) (n : Int) (hdo : ∀ wd : Nat, (wd : Int) = n → DecOk wd D) (ss : List ByteArray) (root lo hi : ByteArray) (h : (rangeM (fndD D n.toNat ss) n ss.length root ⟨#[]⟩ ⟨#[]⟩).2 = 0) :
    rangeM (fndD D n.toNat ss) n ss.length root lo hi = ((rangeM (fndD D n.toNat ss) n ss.length root ⟨#[]⟩ ⟨#[]⟩).1.filter (fun p => hasW lo hi p.1), 0) := by
  by_cases hp : (poolOk n ss.length && hashOk root.size n) = true
  · have hp' : 1 ≤ n ∧ n ≤ 32 ∧ ss.length ≤ 20000 := of_decide_eq_true ((Bool.and_eq_true _ _).mp hp).1
    exact rangeM_of_load (fndD_ok D n.toNat ss (hdo n.toNat (by omega))) n ss.length root lo hi h
  · rw [rangeM_bad (by simpa using hp)] at h
    cases h
theorem u8_wf {x : Int} (h : (Lit.int .u8 x).wf = true) : 0 ≤ x ∧ x < 256 := by
  have e1 : IntKind.u8.min = 0 := rfl
  have e2 : IntKind.u8.max = 255 := rfl
  unfold Lit.wf at h
  rw [Bool.and_eq_true, decide_eq_true_eq, decide_eq_true_eq, e1, e2] at h
  omega
/-- The code, as numbers. -/
theorem BL.of {a : Option Addr} {xs : List Int} {w : World} (hl : xs.length ≤ 1048576) (hw : ∀ x ∈ xs, (Lit.int .u8 x).wf = true)
    (h : 0 < xs.length → ∃ b off : Nat, a = some ⟨b, off, none⟩ ∧ b < w.heap.size ∧ ∀ j, j < xs.length → w.cell? ⟨b, off + j, none⟩ = some (.int .u8 (xs.getD j 0))) : ∃ ys : List Nat, ys.length = xs.length ∧ Code8 ys ∧ BL a ys w := by
  have hg : ∀ j, (xs.map Int.toNat).getD j 0 = (xs.getD j 0).toNat := fun j => by
    rw [List.getD_eq_getElem?_getD, List.getD_eq_getElem?_getD, List.getElem?_map]
    cases xs[j]? <;> rfl
  have hm : ∀ j, 0 ≤ xs.getD j 0 ∧ xs.getD j 0 < 256 := fun j => by
    by_cases hj : j < xs.length
    · have : xs.getD j 0 ∈ xs := by
        rw [List.getD_eq_getElem?_getD, List.getElem?_eq_getElem hj]
        exact List.getElem_mem hj
      exact u8_wf (hw _ this)
    · rw [List.getD_eq_getElem?_getD, List.getElem?_eq_none (by omega)]
      exact ⟨Int.le_refl _, by decide⟩
  refine ⟨xs.map Int.toNat, List.length_map _, ⟨by rw [List.length_map]; exact hl, fun j => ?_⟩, ⟨fun hp => ?_⟩⟩
  · rw [hg]
    have := hm j
    omega
  · rw [List.length_map] at hp
    obtain ⟨b, off, ha, hlt, hc⟩ := h hp
    refine ⟨b, off, ha, hlt, fun j hj => ?_⟩
    rw [List.length_map] at hj
    rw [hc j hj, hg, Int.toNat_of_nonneg (hm j).1]
end Go.Proofs.YtfmpjlpakldheaaGreatDoor
namespace Go.Proofs.YtfmpjlpakldheaaGreatDoor
open Go.RowKit Go.Proofs.Sha

theorem digSaid : DigSaid := fun t k w' ht h1 h2 => sdig_yes t k w' ht h1 h2
set_option maxRecDepth 100000 in
theorem law_fnrange (a : Option Addr) (xs : List Int) (c : Nat) (w : World) (_hl : xs.length ≤ maxLen) (hw : ∀ x ∈ xs, (Lit.int .u8 x).wf = true)
    (h : 0 < xs.length → ∃ b off : Nat, a = some ⟨b, off, none⟩ ∧ b < w.heap.size ∧ ∀ j, j < xs.length → w.cell? ⟨b, off + j, none⟩ = some (.int .u8 (xs.getD j 0)))
    (hK : ∀ j, j < 64 → w.cell? ⟨0, j, none⟩ = some (.int .u32 ((kTab.getD j 0).toNat : Int))) :
    Calls Tryz.prog 5 #[.slice a xs.length c] w fun e w' => e = .returned (.bool true) ∧ Below w.heap.size w w' := by
  by_cases g1 : 1048576 < xs.length
  · have z1 : decide ((1048576 : Int) < (xs.length : Int)) = true := by simp; omega
    clear hw h hK
    go_enter Tryz.func5, Tryz.ntmps5
    go_wp2_with fail
    go_ret
    exact ⟨rfl, Below.refl _ _⟩
  obtain ⟨ys, hyl, hX, hB⟩ := BL.of (by omega) hw h
  rw [← hyl]
  obtain ⟨n, ss, roots, root, z, ⟨hn0, hn1, hss, hr, hrs, hz⟩, HP⟩ := any_det digSaid a ys c 0 hX (by omega)
  obtain ⟨lo, hi, ⟨hlo, hhi⟩, HB⟩ := bounds_det a ys c z hX (by omega)
  obtain ⟨D, hdo, HD1, HD2⟩ := dec_both n
  have hsz : Hid (∀ j, (ss.getD j ⟨#[]⟩).size ≤ 1048575) := fun j => Nat.le_trans (hss.getD j) (by omega)
  have hX1 := rangeM_sm D n hdo ss root lo hi
  have hY1 := rangeM_sm D n hdo ss root ⟨#[]⟩ ⟨#[]⟩
  have hXY := rangeM_cut D n hdo ss root lo hi
  refine range_walk a ys c n ss root lo hi (rangeM (fndD D n.toNat ss) n ss.length root lo hi).1 (rangeM (fndD D n.toNat ss) n ss.length root ⟨#[]⟩ ⟨#[]⟩).1 (rangeM (fndD D n.toNat ss) n ss.length root lo hi).2 (rangeM (fndD D n.toNat ss) n ss.length root ⟨#[]⟩ ⟨#[]⟩).2 w hX.le hB hK hlo hhi (drange_any a ys c z _ n ss roots root lo hi HP HB) ?_ ?_ ?_ ?_ hX1.2 hY1.2 ?_
  · intro w ap cp hS
    exact srange_any digSaid D n HD2 hdo ap ss cp root lo hi w hS hsz (by omega) (by omega) (by omega)
  · intro w ap cp hS hk
    exact irange_any (fun s w' hs hk => ehash_any s w' hs hk) D n HD1 hdo ap ss cp root lo hi w hS hk (by omega)
  · intro w ap cp hS
    exact sld_any digSaid D n HD2 hdo ap ss cp root w hS hsz (by omega)
  · intro w ap cp hS hk
    exact iload_any (fun s w' hs hk => ehash_any s w' hs hk) D n HD1 hdo ap ss cp root w hS hk (by omega)
  · intro hy
    rw [hXY hy]
    exact ⟨rfl, rfl⟩
end Go.Proofs.YtfmpjlpakldheaaGreatDoor
