import Derived.Test.YtgicihmdcnelaaaGreatDoorZxd
import Derived.Test.YtgicihmdcnelaaaGreatDoorZbo
import Derived.Test.YtgicihmdcnelaaaGreatDoorCards
import Derived.Test.YtgicihmdcnelaaaGreatDoorTie
import Derived.ProofKit
import Derived.OpenShut
import Derived.Deep.DeepHandedRow
import Derived.Lib.LaidTab
namespace Go.Proofs.YtgicihmdcnelaaaGreatDoor
open Go.RowKit Go.Proofs.Sha

set_option maxRecDepth 100000 in
set_option maxHeartbeats 4000000 in
theorem law_pt (O : SvO) (hO1 : O.xs.length ≤ 1048576) (hO2 : ∀ j, (O.xs.getD j ⟨#[]⟩).size ≤ 1048576) (n : Int) (a : Option Addr) (ss : List ByteArray) (c : Nat) (rt key val : ByteArray) (w : World) (h : RArg a ss w) (hN : ss.length ≤ maxLen) (hM : ∀ j, (ss.getD j ⟨#[]⟩).size ≤ maxLen) (hrt : rt.size ≤ maxLen) (hkey : key.size ≤ maxLen) (hval : val.size ≤ maxLen) (hK : KTab w)
    (H8 : Hid (rt.size ≤ 1048576 → key.size ≤ 1048576 → val.size ≤ 1048576 → SmallS ss → ∀ g w', SArg (some ⟨g, 0, none⟩) ss w' → Calls Tryz.prog 21 #[.agg #[.int .i64 n, .slice (some ⟨g, 0, none⟩) ss.length ss.length], .string rt, .string key, .string val] w' (SavedIs O w')))
    (H11 : Hid (rt.size ≤ 1048576 → key.size ≤ 1048576 → val.size ≤ 1048576 → SmallS ss → ∀ g w', SArg (some ⟨g, 0, none⟩) ss w' → KTab w' → Calls Tryz.prog 22 #[.agg #[.int .i64 n, .slice (some ⟨g, 0, none⟩) ss.length ss.length], .string rt, .string key, .string val] w' (SavedIs O w'))) :
    Calls Tryz.prog 5 #[.agg #[.int .i64 n, .slice a ss.length c], .string rt, .string key, .string val] w fun e w' => e = .returned (.bool true) ∧ Below w.heap.size w w' := by
  have hb0 : Below w.heap.size w (w.alloc (.cells #[.int .i64 n, .slice a ss.length c] 24)) := (Below.refl _ _).alloc (Nat.le_refl _) _
  have HS : Hid (∀ w', RArg a ss w' → Calls Tryz.prog 6 #[.agg #[.int .i64 n, .slice a ss.length c], .int .i64 1048576] w' fun e w'' => ∃ r : Int, e = .returned (.int .i64 r) ∧ Hid (0 ≤ r → SmallS ss) ∧ r ≤ 1048576 ∧ Below w'.heap.size w' w'') := fun w' h' => szPool_le n a ss c w' h' hN hM
  have HT : Hid (SmallS ss → ∀ w', RArg a ss w' → Calls Tryz.prog 9 #[.agg #[.int .i64 n, .slice a ss.length c]] w' fun e w'' => ∃ g, e = .returned (.agg #[.int .i64 n, .slice (some ⟨g, 0, none⟩) ss.length ss.length]) ∧ Row w'' w'.heap.size g ss.length ss.length (ss.map Value.string) ∧ SArg (some ⟨g, 0, none⟩) ss w'' ∧ Below w'.heap.size w' w'') := fun hs w' h' => by
    refine (toPool_row n a ss c w' (h'.sarg hs)).mono ?_
    rintro e w'' ⟨g, he, hrow, hb⟩
    exact ⟨g, he, hrow, Row.sarg hrow hs, hb⟩
  have HQ : Hid (∀ g g2 w', SArg (some ⟨g, 0, none⟩) ss w' → SArg (some ⟨g2, 0, none⟩) ss w' → Calls Tryz.prog 13 #[.agg #[.int .i64 n, .slice (some ⟨g, 0, none⟩) ss.length ss.length], .agg #[.int .i64 n, .slice (some ⟨g2, 0, none⟩) ss.length ss.length]] w' fun e w'' => e = .returned (.bool true) ∧ Below w'.heap.size w' w'') := fun g g2 w' hw hw2 => eqPool_same n _ _ ss _ _ w' hw hw2
  obtain ⟨M, hMM⟩ := mark_ex
  have HM : Hid (MarkSaid M) := hMM
  obtain ⟨cd, nn, xs, root, x, y⟩ := O
  simp only at hO1 hO2
  have HE : Hid (∀ a1 c1 a2 c2 w', SArg a1 xs w' → SArg a2 xs w' → Calls Tryz.prog 12 #[svV cd nn a1 xs.length c1 root x y, svV cd nn a2 xs.length c2 root x y] w' fun e w'' => e = .returned (.bool true) ∧ Below w'.heap.size w' w'') := fun a1 c1 a2 c2 w' q1 q2 => eqSaved_same cd nn a1 a2 xs c1 c2 root x y w' q1 q2
  unfold SavedIs at H8 H11
  simp only at H8 H11
  obtain ⟨m, hm⟩ : ∃ m, xs.length = m := ⟨_, rfl⟩
  rw [hm] at H8 H11 HE hO1
  clear hMM hM hN
  unfold maxLen at hrt hkey hval
  by_cases hxrt : 1048576 < rt.size
  · have zrt : decide ((1048576 : Int) < (rt.size : Int)) = true := by rw [decide_eq_true_eq]; omega
    go_enter Tryz.func5, Tryz.ntmps5
    go_wp2_with fail
    go_ret
    exact ⟨rfl, hb0⟩
  have zrt : decide ((1048576 : Int) < (rt.size : Int)) = false := by rw [decide_eq_false_iff_not]; omega
  by_cases hxkey : 1048576 < key.size
  · have zkey : decide ((1048576 : Int) < (key.size : Int)) = true := by rw [decide_eq_true_eq]; omega
    go_enter Tryz.func5, Tryz.ntmps5
    go_wp2_with fail
    go_ret
    exact ⟨rfl, hb0⟩
  have zkey : decide ((1048576 : Int) < (key.size : Int)) = false := by rw [decide_eq_false_iff_not]; omega
  by_cases hxval : 1048576 < val.size
  · have zval : decide ((1048576 : Int) < (val.size : Int)) = true := by rw [decide_eq_true_eq]; omega
    go_enter Tryz.func5, Tryz.ntmps5
    go_wp2_with fail
    go_ret
    exact ⟨rfl, hb0⟩
  have zval : decide ((1048576 : Int) < (val.size : Int)) = false := by rw [decide_eq_false_iff_not]; omega
  go_enter Tryz.func5, Tryz.ntmps5
  go_wp2_with fail
  refine (HS.out _ (h.below hb0)).mono ?_
  rintro e w1 ⟨x1, rfl, HX, hx1, hb1⟩
  have hn1 := pblk_below hb1 (heap_alloc_new w (.cells #[.int .i64 n, .slice a ss.length c] 24))
  have hw1 : Below w.heap.size w w1 := hb0.trans (hb1.mono (by simp))
  clear hb1 hb0
  by_cases hx : x1 < 0
  · have zx : decide (x1 < 0) = true := decide_eq_true hx
    clear hx
    go_wp2_with fail
    go_ret
    exact ⟨rfl, hw1⟩
  have hs := HX.out (by omega)
  have zx : decide (x1 < 0) = false := decide_eq_false hx
  have H8' := H8.out (by omega) (by omega) (by omega) hs
  have H11' := H11.out (by omega) (by omega) (by omega) hs
  clear H11
  have H11 : Hid _ := H11'
  clear H11'
  have HT' := HT.out hs
  have hsl : ss.length ≤ 1048576 := hs.1
  replace H8' : Hid _ := H8'
  replace HT' : Hid _ := HT'
  obtain ⟨N, hN⟩ : ∃ N, ss.length = N := ⟨_, rfl⟩
  rw [hN] at HT' H8' H11 HQ hn1 hsl
  clear H8 HT HX hx hs HS hx1
  obtain ⟨ga, hga⟩ : ∃ ga, w.heap.size = ga := ⟨_, rfl⟩
  rw [hga] at hn1
  try rw [hga]
  have hgaH : Hid (w.heap.size = ga) := hga
  clear hga
  have hn2 := hn1
  have hw2 := hw1
  clear hn1 hw1
  have c0 := Lib.cell_of_heap hn2 0
  have c1 := Lib.cell_of_heap hn2 1
  go_wp2_with fail
  refine (HT'.out _ (h.below hw2)).mono ?_
  rintro e w3 ⟨g3, rfl, _, hi3, hb3⟩
  have hn3 := pblk_below hb3 hn2
  have hw3 := hw2.trans (hb3.mono hw2.size)
  clear hb3 hn2 hw2 c0 c1
  go_wp2_with fail
  refine (H8'.out _ _ hi3).mono ?_
  rintro e w5 ⟨aw, cw, rfl, ow⟩
  have hn5 := pblk_below ow.bel hn3
  have hw5 := hw3.trans (ow.bel.mono hw3.size)
  have sw5 := ow.sarg (by omega) hO2
  have lw5 : ∀ b off, aw = some ⟨b, off, none⟩ → b < w5.heap.size := fun b off e => (ow.lt b off e).2
  clear ow hn3 hw3 hi3
  go_upto_region 12 with fail
  have al5 : Below w5.heap.size w5 (w5.alloc (.cells #[.int .i64 cd, .int .i64 nn, .slice aw m cw, .string root, .string x, .string y] 30)) := (Below.refl _ _).alloc (Nat.le_refl _) _
  have hL : LW w ga n a N c w5.heap.size cd nn xs root x y aw m cw (w5.alloc (.cells #[.int .i64 cd, .int .i64 nn, .slice aw m cw, .string root, .string x, .string y] 30)) := ⟨pblk_below al5 hn5, heap_alloc_new w5 _, sw5.below al5, hw5.trans (al5.mono hw5.size)⟩
  have hsz6 : (w5.alloc (.cells #[.int .i64 cd, .int .i64 nn, .slice aw m cw, .string root, .string x, .string y] 30)).heap.size = w5.heap.size + 1 := by simp
  have hgw : ga < w5.heap.size := (Array.getElem?_eq_some_iff.1 hn5).1
  generalize w5.alloc (.cells #[.int .i64 cd, .int .i64 nn, .slice aw m cw, .string root, .string x, .string y] 30) = w6 at hL hsz6 ⊢
  clear al5 hn5 hw5 sw5
  obtain ⟨gw, hgw'⟩ : ∃ g, w5.heap.size = g := ⟨_, rfl⟩
  rw [hgw'] at hL hsz6 hgw lw5
  try rw [hgw']
  clear hgw'
  have c0 := Lib.cell_of_heap hL.par 0
  have c1 := Lib.cell_of_heap hL.par 1
  go_wp2_with fail
  refine (HT'.out _ (h.below hL.bel)).mono ?_
  rintro e w7 ⟨g7, rfl, rx7, hi7, hb7⟩
  have hL7 := hL.below hb7
  have hg7 := rx7.ge
  clear c0 c1
  go_upto_region 13 with fail
  have al7 : Below w7.heap.size w7 (w7.alloc (.cells #[.int .i64 n, .slice (some ⟨g7, 0, none⟩) N N] 28)) := (Below.refl _ _).alloc (Nat.le_refl _) _
  have hL8 := hL7.below al7
  have nX := heap_alloc_new w7 (.cells #[.int .i64 n, .slice (some ⟨g7, 0, none⟩) N N] 28)
  have hi8 := hi7.below al7
  have rx8 := (rx7.mono hL.bel.size).below al7
  have hsz8 : (w7.alloc (.cells #[.int .i64 n, .slice (some ⟨g7, 0, none⟩) N N] 28)).heap.size = w7.heap.size + 1 := by simp
  have hgx7 : g7 < w7.heap.size := rx7.lt
  generalize w7.alloc (.cells #[.int .i64 n, .slice (some ⟨g7, 0, none⟩) N N] 28) = w8 at hL8 nX hi8 rx8 hsz8 ⊢
  obtain ⟨gx, hgx⟩ : ∃ g, w7.heap.size = g := ⟨_, rfl⟩
  rw [hgx] at nX hsz8 hgx7
  try rw [hgx]
  clear hgx al7 hL7 hi7 rx7 hL hb7
  have hL9 := hL8
  have nX9 := nX
  have hi9 := hi8
  have rx9 := rx8
  clear hL8 nX hi8 rx8
  have d0 := Lib.cell_of_heap nX9 0
  have d1 := Lib.cell_of_heap nX9 1
  go_wp2_with fail
  refine (H11.out _ _ hi9 (hK.below hL9.bel)).mono ?_
  rintro e w10 ⟨ag, cg, rfl, og⟩
  go_upto_region 14 with fail
  have al10 : Below w10.heap.size w10 (w10.alloc (.cells #[.int .i64 cd, .int .i64 nn, .slice ag m cg, .string root, .string x, .string y] 30)) := (Below.refl _ _).alloc (Nat.le_refl _) _
  have hb911 : Below w8.heap.size w8 (w10.alloc (.cells #[.int .i64 cd, .int .i64 nn, .slice ag m cg, .string root, .string x, .string y] 30)) := og.bel.trans (al10.mono og.bel.size)
  have hG11 : LG w8.heap.size w10.heap.size cd nn xs root x y ag m cg (w10.alloc (.cells #[.int .i64 cd, .int .i64 nn, .slice ag m cg, .string root, .string x, .string y] 30)) := ⟨heap_alloc_new w10 _, (og.sarg (by omega) hO2).below al10, (own_srow og.own).below al10, og.lt, og.bel.size⟩
  have hL11 := hL9.below hb911
  have nX11 := pblk_below hb911 nX9
  have hi11 := hi9.below hb911
  have rx11 := rx9.below hb911
  generalize w10.alloc (.cells #[.int .i64 cd, .int .i64 nn, .slice ag m cg, .string root, .string x, .string y] 30) = w11 at hb911 hG11 hL11 nX11 hi11 rx11 ⊢
  obtain ⟨gg, hgg⟩ : ∃ g, w10.heap.size = g := ⟨_, rfl⟩
  rw [hgg] at hG11
  try rw [hgg]
  obtain ⟨bs, hbs⟩ : ∃ b, w8.heap.size = b := ⟨_, rfl⟩
  rw [hbs] at hG11 hsz8
  clear hgg og al10 hb911 hL9 nX9 hi9 rx9 d0 d1 hbs
  obtain ⟨e0, e1, e2, e3, e4, e5⟩ := hG11.blk.load
  obtain ⟨f0, f1, f2, f3, f4, f5⟩ := hL11.sw.load
  go_wp2_with fail
  refine (HE.out _ _ _ _ _ hG11.arg hL11.arg).mono ?_
  rintro e w12 ⟨rfl, hb12⟩
  have hL12 := hL11.below hb12
  have hG12 := hG11.below hb12
  have nX12 := pblk_below hb12 nX11
  have hi12 := hi11.below hb12
  have rx12 := rx11.below hb12
  clear hL11 hG11 nX11 hi11 rx11 hb12 e0 e1 e2 e3 e4 e5 f0 f1 f2 f3 f4 f5
  have c0 := Lib.cell_of_heap hL12.par 0
  have c1 := Lib.cell_of_heap hL12.par 1
  have d0 := Lib.cell_of_heap nX12 0
  have d1 := Lib.cell_of_heap nX12 1
  go_upto_region 16 with fail
  have hC : Hid (∀ W : World, Below w12.heap.size w12 W → W.cell? ⟨ga, 0, none⟩ = some (.int .i64 n) ∧ W.cell? ⟨ga, 1, none⟩ = some (.slice a N c) ∧ W.cell? ⟨gx, 0, none⟩ = some (.int .i64 n) ∧ W.cell? ⟨gx, 1, none⟩ = some (.slice (some ⟨g7, 0, none⟩) N N)) := fun W hW => ⟨Lib.cell_of_heap (pblk_below hW hL12.par) 0, Lib.cell_of_heap (pblk_below hW hL12.par) 1, Lib.cell_of_heap (pblk_below hW nX12) 0, Lib.cell_of_heap (pblk_below hW nX12) 1⟩
  go_region_held3 (fun W => W.cell? ⟨ga, 0, none⟩ = some (.int .i64 n) ∧ W.cell? ⟨ga, 1, none⟩ = some (.slice a N c) ∧ W.cell? ⟨gx, 0, none⟩ = some (.int .i64 n) ∧ W.cell? ⟨gx, 1, none⟩ = some (.slice (some ⟨g7, 0, none⟩) N N)) (first | exact ⟨c0, c1, d0, d1⟩ | exact hC.out _ hx13 | exact hC.out _ hx14) (first | (go_at_call 9; refine (HT'.out _ ((h.below hL12.bel).below (Below.refl w12.heap.size w12).drew)).mono ?_; rintro e w13 ⟨g13, rfl, _, hi13, hb13⟩; have hx13 : Below w12.heap.size w12 w13 := (Below.refl w12.heap.size w12).drew.trans hb13; have hi13' := hi12.below hx13; clear hb13) | (go_at_call 13; refine (HQ.out _ _ _ hi13' hi13).mono ?_; rintro e w14 ⟨rfl, hb14⟩; have hx14 : Below w12.heap.size w12 w14 := hx13.trans (hb14.mono hx13.size)))
  have hL14 := hL12.below hx14
  have hG14 := hG12.below hx14
  have nX14 := pblk_below hx14 nX12
  have rx14 := rx12.below hx14
  clear hL12 hG12 nX12 hi12 rx12 hx13 hx14 hb14 hi13 hi13' c0 c1 d0 d1 hC HQ
  have hL16 := hL14
  have hG16 := hG14
  have nX16 := nX14
  have rx16 := rx14
  clear hL14 hG14 nX14 rx14
  have d0 := Lib.cell_of_heap nX16 0
  have d1 := Lib.cell_of_heap nX16 1
  have HMk := markPool_any M HM w.heap.size g7 N 1 n _ w14 rx16 (Nat.le_refl _) (by omega) hL16.bel.size
  have hw7 : w.heap.size ≤ g7 := rx16.ge
  obtain ⟨p, hp⟩ : ∃ p : Nat, 1 + N = p := ⟨_, rfl⟩
  rw [hp] at HMk
  go_wp2_with fail
  refine HMk.mono ?_
  rintro e w17 ⟨rfl, hg17⟩
  have hL17 := hL16.grown hg17 (fun q hq => by have := Option.some.inj hq; omega) (fun b off e => lw5 b off e)
  have hG17 := hG16.grown hg17 (fun q hq => by have := Option.some.inj hq; omega)
  clear hL16 hG16 nX16 rx16 hg17 HMk d0 d1
  have zp : decide ((p : Int) < 0) = false := by rw [decide_eq_false_iff_not]; omega
  clear hp
  have hL18 := hL17
  have hG18 := hG17
  clear hL17 hG17
  obtain ⟨e0, e1, e2, e3, e4, e5⟩ := hG18.blk.load
  obtain ⟨f0, f1, f2, f3, f4, f5⟩ := hL18.sw.load
  go_wp2_with fail
  refine (HE.out _ _ _ _ _ hG18.arg hL18.arg).mono ?_
  rintro e w19 ⟨rfl, hb19⟩
  have hL19 := hL18.below hb19
  have hG19 := hG18.below hb19
  clear hL18 hG18 hb19 e0 e1 e2 e3 e4 e5 f0 f1 f2 f3 f4 f5
  obtain ⟨e0, e1, e2, e3, e4, e5⟩ := hG19.blk.load
  have hbs19 : bs ≤ w19.heap.size := Nat.le_trans hG19.ge (Nat.le_of_lt (Array.getElem?_eq_some_iff.1 (show w19.heap[gg]? = _ from hG19.blk)).1)
  have HMs := markSaved_any cd nn ag m cg root x y 1 (1 + m) (fun W => SRow W bs ag m cg (marksV M 1 m) ∧ w19.grownBy W (if m = 0 then none else (Value.slice ag m cg).ownBlock)) w19 (fun w' hb' => (markPool_s M HM bs m cg 1 nn ag _ w' (hG19.row.below hb') (Nat.le_refl _) (by omega) (Nat.le_trans hbs19 hb'.size)).mono (by
    rintro e w'' ⟨he, h1, h2⟩
    exact ⟨he, h1, grownBy_trans (grownBy_of_below hb' _) h2⟩))
  have HHd : Hid (∀ w', SRow w' bs ag m cg (marksV M 1 m) → Calls Tryz.prog 18 #[svV cd nn ag m cg root x y, .int .i64 ((1 : Nat) : Int)] w' fun e w'' => e = .returned (.int .i64 ((1 + m : Nat) : Int)) ∧ Below w'.heap.size w' w'') := fun w' hw' => heldSaved_any cd nn ag m cg root x y 1 (1 + m) w' (fun w2 hb2 => heldPool_any M HM bs m cg 1 nn ag w2 (hw'.below hb2) (Nat.le_refl _) (by omega))
  generalize marksV M 1 m = mV at HMs HHd
  obtain ⟨z, hz⟩ : ∃ z : Nat, 1 + m = z := ⟨_, rfl⟩
  rw [hz] at HMs HHd
  have zm : decide ((z : Int) < 0) = false := by rw [decide_eq_false_iff_not]; omega
  have zm2 : ((z : Int) != (z : Int)) = false := by simp
  clear hz
  obtain ⟨row, hrow⟩ : ∃ row, (if m = 0 then none else (Value.slice ag m cg).ownBlock) = row := ⟨_, rfl⟩
  rw [hrow] at HMs
  have hrow' : ∀ q, row = some q → bs ≤ q ∧ q < gg := fun q hq => by
    rw [← hrow] at hq
    split at hq
    · cases hq
    · cases ag with
      | none => cases hq
      | some A =>
        obtain ⟨b, o, el⟩ := A
        obtain rfl : b = q := Option.some.inj hq
        rcases hG19.row with h0 | ⟨g, e, hr⟩
        · omega
        · cases e
          exact hG19.lt b 0 rfl
  clear hrow
  go_wp2_with fail
  refine HMs.mono ?_
  rintro e w20 ⟨rfl, hS20, hg20⟩
  have hL20 := hL19.grown hg20 (fun q hq => by have := hrow' q hq; omega) (fun b off e => lw5 b off e)
  have hB20 : SB gg cd nn ag m cg root x y w20 := (hg20.block gg (Array.getElem?_eq_some_iff.1 (show w19.heap[gg]? = _ from hG19.blk)).1 (fun e => by have := hrow' gg e.symm; omega)).trans hG19.blk
  clear hL19 hG19 hg20 HMs e0 e1 e2 e3 e4 e5 hrow'
  obtain ⟨e0, e1, e2, e3, e4, e5⟩ := hB20.load
  go_wp2_with fail
  refine (HHd.out _ hS20).mono ?_
  rintro e w21 ⟨rfl, hb21⟩
  have hL21 := hL20.below hb21
  clear hL20 hB20 hS20 hb21 HHd e0 e1 e2 e3 e4 e5
  have c0 := Lib.cell_of_heap hL21.par 0
  have c1 := Lib.cell_of_heap hL21.par 1
  go_wp2_with fail
  refine (HT'.out _ (h.below hL21.bel)).mono ?_
  rintro e w22 ⟨g22, rfl, _, hi22, hb22⟩
  have hL22 := hL21.below hb22
  clear hL21 hb22 c0 c1
  have hL23 := hL22
  have hi23 := hi22
  clear hL22 hi22
  go_wp2_with fail
  refine (H11.out _ _ hi23 (hK.below hL23.bel)).mono ?_
  rintro e w24 ⟨ah, ch, rfl, oh⟩
  have sh24 := oh.sarg (by omega) hO2
  have hL24 := hL23.below oh.bel
  clear oh hL23 hi23
  have al24 : Below w24.heap.size w24 (w24.alloc (.cells #[.int .i64 cd, .int .i64 nn, .slice ah m ch, .string root, .string x, .string y] 30)) := (Below.refl _ _).alloc (Nat.le_refl _) _
  have nH : SB w24.heap.size cd nn ah m ch root x y (w24.alloc (.cells #[.int .i64 cd, .int .i64 nn, .slice ah m ch, .string root, .string x, .string y] 30)) := heap_alloc_new w24 _
  have hL25 := hL24.below al24
  have sh25 := sh24.below al24
  clear hL24 sh24
  obtain ⟨e0, e1, e2, e3, e4, e5⟩ := nH.load
  obtain ⟨f0, f1, f2, f3, f4, f5⟩ := hL25.sw.load
  go_wp2_with fail
  refine (HE.out _ _ _ _ _ sh25 hL25.arg).mono ?_
  rintro e w26 ⟨rfl, hb26⟩
  have hfin := (hL25.below hb26).bel
  clear hL25 e0 e1 e2 e3 e4 e5 f0 f1 f2 f3 f4 f5 sh25 nH
  go_wp2_with fail
  go_ret
  exact ⟨rfl, hfin⟩
theorem law_put (n : Int) (a : Option Addr) (ss : List ByteArray) (c : Nat) (rt key val : ByteArray) (w : World) (hN : ss.length ≤ maxLen) (hM : ∀ j, (ss.getD j ⟨#[]⟩).size ≤ maxLen)
    (h : 0 < ss.length → ∃ b off : Nat, a = some ⟨b, off, none⟩ ∧ b < w.heap.size ∧ ∀ j, j < ss.length → w.cell? ⟨b, off + j, none⟩ = some (.string (ss.getD j ⟨#[]⟩))) (hrt : rt.size ≤ maxLen) (hkey : key.size ≤ maxLen) (hval : val.size ≤ maxLen)
    (hK : ∀ j, j < 64 → w.cell? ⟨0, j, none⟩ = some (.int .u32 ((kTab.getD j 0).toNat : Int))) :
    Calls Tryz.prog 5 #[.agg #[.int .i64 n, .slice a ss.length c], .string rt, .string key, .string val] w fun e w' => e = .returned (.bool true) ∧ Below w.heap.size w w' := by
  obtain ⟨f, hf⟩ := Classical.axiomOfChoice (dec_ex n)
  obtain ⟨D, hD⟩ : ∃ D : Dec, D = ⟨fun s => (f s).1, fun s => (f s).2.1, fun s => (f s).2.2.1, fun s => (f s).2.2.2.1, fun s => (f s).2.2.2.2⟩ := ⟨_, rfl⟩
  have hdo : ∀ wd : Nat, (wd : Int) = n → DecOk wd D := fun wd hwd s hs => by
    have h1 := hf s
    rw [hD] at hs
    simp only at hs
    rw [hs] at h1
    have h2 := nodeOk_out (decOk_of h1)
    rw [hD]
    simp only
    unfold okKey okVal
    refine ⟨decide_eq_true (by omega), decide_eq_true (by omega), by omega, by omega⟩
  have HD1 : Hid (∀ wd : Nat, (wd : Int) = n → 1 ≤ wd → wd ≤ 32 → DecSaid 145 wd D) := by
    intro wd hwd _ _ s w' hs
    refine (dec_impl s wd w' hs).mono ?_
    rintro e w'' ⟨h1, hb⟩
    rw [hwd] at h1
    rw [hD]
    exact ⟨h1.one (hf s), hb⟩
  have HD2 : Hid (∀ wd : Nat, (wd : Int) = n → 1 ≤ wd → wd ≤ 32 → DecSaid 124 wd D) := by
    intro wd hwd _ _ s w' hs
    refine (dec_any s wd w' hs).mono ?_
    rintro e w'' ⟨h1, hb⟩
    rw [hwd] at h1
    rw [hD]
    exact ⟨h1.one (hf s), hb⟩
  by_cases hs : SmallS ss
  · have hsz : ∀ j, (ss.getD j ⟨#[]⟩).size ≤ 1048576 := fun j => Nat.le_trans (hs.2 j) (by decide)
    have hO : SmallO (putO D n ss rt key val) := chgO_small n ss _ _ _ hsz (fun q => rangeM_zero q)
    exact law_pt (putO D n ss rt key val) (Nat.le_trans hO.1 (by decide)) hO.2 n a ss c rt key val w ⟨h⟩ hN hM hrt hkey hval hK
      (fun hrt hkey hval _ g w' q1 => sput_any (fun t k w' ht h1 h2 => sdig_yes t k w' ht h1 h2) D n HD2 hdo _ ss _ rt key val w' q1 hs.2 hrt hkey hval)
      (fun hrt hkey hval _ g w' q1 q3 => iput_any (fun s w' hs hk => ehash_any s w' hs hk) D n HD1 hdo _ ss _ rt key val w' q1 q3 hrt hkey hval)
  · exact law_pt (codeO 0) (Nat.zero_le _) (fun _ => Nat.zero_le _) n a ss c rt key val w ⟨h⟩ hN hM hrt hkey hval hK (fun _ _ _ q => absurd q hs) (fun _ _ _ q => absurd q hs)
end Go.Proofs.YtgicihmdcnelaaaGreatDoor
namespace Go.Proofs.YtgicihmdcnelaaaGreatDoor.fnExactPut
open Go.ChangeShapes Go.WideShapes Go.ChangeAt Go.RowKit Go.Proofs.Sha
open Go.ChangeMaps (open_string shut_string)

theorem own : ownKnob Tryz.prog.godebug = none := by kernel_rfl
theorem gTab : Tryz.prog.globalNamed "loop.example/s03048/impl.roundWords" = some 0 := by kernel_rfl
theorem gTabType : (Tryz.prog.globals[0]?).map (·.type) = some 196 := by kernel_rfl
theorem cellsTab : Tryz.prog.cellsOf 196 = 64 := by kernel_rfl
theorem cellsEl : Tryz.prog.cellsOf 109 = 1 := by kernel_rfl
def zs : List Int := kTab.map fun x => (x.toNat : Int)

/-- What the row's list gives: the table's cells hold its numbers. -/
theorem table {W : World} (h : laidMetH Tryz.prog Rows.fnExactPutRow.laid W) : Lib.TabIs Tryz.prog W "loop.example/s03048/impl.roundWords" .u32 zs :=
  Lib.tabIs_of_head (rest := []) gTab gTabType Tryz.underlying196 Tryz.underlying109 cellsEl cellsTab h
theorem tabCells {W : World} (h : laidMetH Tryz.prog Rows.fnExactPutRow.laid W) : ∀ j, j < 64 → W.cell? ⟨0, j, none⟩ = some (.int .u32 ((kTab.getD j 0).toNat : Int)) := fun j hj => by
  have h1 := (table h).cell gTab j (by exact hj)
  rw [h1]
  unfold zs
  rw [List.getD_eq_getElem?_getD, List.getElem?_map, List.getD_eq_getElem?_getD, List.getElem?_eq_getElem (by exact hj)]; rfl

def dat {H : Type} : DataW H := .agg (zs.map fun z => .lit (.int .u32 z))
/-- The table reads as itself, in whatever world. -/
theorem trod_tab {H : Type} (enc : TypeId × Value → H) (W : World) (sp : Nat → Bool) (hd : Bool) (n : Nat) : DataW.trod enc Tryz.prog W 0 sp hd (n + 2) 196 (kTab.map U) = some (dat, []) := by kernel_rfl
theorem trod_tab1 {H : Type} (enc : TypeId × Value → H) (W : World) (sp : Nat → Bool) (hd : Bool) : DataW.trod enc Tryz.prog W 0 sp hd 1 196 (kTab.map U) = none := by kernel_rfl

set_option maxRecDepth 100000 in
theorem contract (H : Type) (enc : TypeId × Value → H) (W : World) (base : Nat) (args : Array Value) (ds gs : List (DataW H)) (before : List MemPlace)
    (hval : ∀ (j : Nat) t v, Tryz.f5.params[j]? = some t → args[j]? = some v → Value.okWide Tryz.prog W .any base t v)
    (hW : DataW.Whole enc Tryz.prog Tryz.f5.params.toList Rows.fnExactPutSpec.vars false W args.toList ds gs before) (hL : laidMetH Tryz.prog Rows.fnExactPutRow.laid W) :
    Calls Tryz.prog 5 args W fun e W' => ∃ v, e = .returned v ∧ Rows.fnExactPutSpec.post enc Tryz.prog Tryz.f5 false true false false W args v W' := by
  have hW' := hW
  obtain ⟨p, q, hA0, hV, rfl, hfz, hnd⟩ := hW
  have hA : DataW.TrodAll enc Tryz.prog W 0 (fun _ => true) true Tryz.f5.params.toList args.toList ds p := hA0
  rw [Tryz.params5] at hA hval
  obtain ⟨v0, vs0, d0, ds0, p0, q0, hargs, rfl, rfl, h0, r0⟩ := trodAll_cons hA
  obtain ⟨v1, vs1, d1, ds1, p1, q1, rfl, rfl, rfl, h1, r1⟩ := trodAll_cons r0
  obtain ⟨v2, vs2, d2, ds2, p2, q2, rfl, rfl, rfl, h2, r2⟩ := trodAll_cons r1
  obtain ⟨v3, vs3, d3, ds3, p3, q3, rfl, rfl, rfl, h3, r3⟩ := trodAll_cons r2
  obtain ⟨rfl, rfl, rfl⟩ := trodAll_nil r3
  obtain rfl : args = #[v0, v1, v2, v3] := by cases args; simp_all
  obtain ⟨k0, x0, c0, s0, rfl, hs0, hm0, hx0, hz0⟩ := Pools.open_pool Tryz.underlying24 (by kernel_rfl) (by kernel_rfl) Tryz.underlying3 Tryz.underlying22 Tryz.underlying9 (by kernel_rfl) (hval 0 24 v0 rfl rfl) h0
  obtain ⟨s1, rfl, rfl, rfl, hs1⟩ := open_string Tryz.underlying9 (hval 1 9 v1 rfl rfl) h1
  obtain ⟨s2, rfl, rfl, rfl, hs2⟩ := open_string Tryz.underlying9 (hval 2 9 v2 rfl rfl) h2
  obtain ⟨s3, rfl, rfl, rfl, hs3⟩ := open_string Tryz.underlying9 (hval 3 9 v3 rfl rfl) h3
  obtain ⟨g, t, cs, fuel, d, p', rfl, hg, ht, hvar, hd, rfl⟩ := trodVars_one hV
  obtain rfl := Option.some.inj (gTab.symm.trans hg)
  obtain rfl := Option.some.inj (gTabType.symm.trans ht)
  have hcs : cs = (kTab.map U).toArray := Option.some.inj (hvar.symm.trans (table hL))
  subst hcs
  have hdd : d = dat ∧ p' = [] := by
    match fuel, hd with
    | 0, hd => simp [DataW.trod] at hd
    | 1, hd => rw [show (kTab.map U).toArray.toList = kTab.map U from rfl, trod_tab1] at hd; cases hd
    | n + 2, hd =>
      rw [show (kTab.map U).toArray.toList = kTab.map U from rfl, trod_tab] at hd
      cases hd
      exact ⟨rfl, rfl⟩
  obtain ⟨rfl, rfl⟩ := hdd
  have hcells := tabCells hL
  have hl0 : 0 < W.heap.size := World.block_lt_of_cell? W _ (hcells 0 (by omega))
  clear hA0
  refine (law_put k0 x0 s0 c0 s1 s2 s3 W hs0 hm0 hx0 hs1 hs2 hs3 hcells).mono fun e W' ⟨he, hb⟩ => ?_
  subst he
  have hvar' : W'.var? Tryz.prog "loop.example/s03048/impl.roundWords" = some (kTab.map U).toArray := by
    unfold World.var? at hvar ⊢
    simp only [gTab, Option.bind_some] at hvar ⊢
    rw [hb.block 0 hl0]
    exact hvar
  exact ⟨_, rfl, ⟨_, _, _, [], _, MemPlace.row ⟨0, 0, none⟩ (kTab.map U).toArray.size ++ [], hW', trodAll_cons_mk (shut_bool Tryz.underlying4 _) trodAll_mk0, trodAll_cons_mk (hz0 W' hb) (trodAll_cons_mk (shut_string Tryz.underlying9 hs1) (trodAll_cons_mk (shut_string Tryz.underlying9 hs2) (trodAll_cons_mk (shut_string Tryz.underlying9 hs3) trodAll_mk0))),
    trodVars_mk1 (fuel := 2) gTab gTabType hvar' (trod_tab enc W' _ _ 0), hb.frame _, fun h => by cases h⟩⟩

theorem laid_met (os : Os) : laidMet Tryz.prog Rows.fnExactPutRow.laid (World.forCall ({ World.holding Tryz.prog os ⟨#[], #[], []⟩ with heap := (World.holding Tryz.prog os ⟨#[], #[], []⟩).heap.modify 0 fun | .cells _ t frozen => .cells (kTab.map U).toArray t frozen | o => o }) (fun _ _ => 0) ⟨#[], #[.agg #[.int .i64 0, .slice none 0 0], .string ByteArray.empty, .string ByteArray.empty, .string ByteArray.empty], []⟩).memory :=
  laidMet_of_run' 8 (by kernel_rfl) (by kernel_rfl)
theorem reads (os : Os) {H : Type} (enc : TypeId × Value → H) : ∃ places, DataW.whole enc Tryz.prog (World.forCall ({ World.holding Tryz.prog os ⟨#[], #[], []⟩ with heap := (World.holding Tryz.prog os ⟨#[], #[], []⟩).heap.modify 0 fun | .cells _ t frozen => .cells (kTab.map U).toArray t frozen | o => o }) (fun _ _ => 0) ⟨#[], #[.agg #[.int .i64 0, .slice none 0 0], .string ByteArray.empty, .string ByteArray.empty, .string ByteArray.empty], []⟩).memory Tryz.f5.params.toList Rows.fnExactPutSpec.vars false #[Value.agg #[.int .i64 0, .slice none 0 0], Value.string ByteArray.empty, Value.string ByteArray.empty, Value.string ByteArray.empty].toList 8 = some ([.agg [.lit (.int .i64 0), .nil], .lit (.string []), .lit (.string []), .lit (.string [])], [dat], places) :=
  ⟨MemPlace.row ⟨0, 0, none⟩ 64, by kernel_rfl⟩

set_option maxRecDepth 100000 in
theorem lifted (os : Os) (started : os.Started) (H : Type) (enc : TypeId × Value → H) (F : Stop.Interp) :
    ReturnsInHanded {} Tryz.checked os 5 .any ((OpenSpec.ofChange Rows.fnExactPutSpec).preRow enc Tryz.prog Tryz.f5 Rows.fnExactPutRow.domain false Rows.fnExactPutRow.laid) (((OpenSpec.ofChange Rows.fnExactPutSpec).at F).post enc Tryz.prog Tryz.f5 false true false false) := by
  obtain ⟨places, hx⟩ := reads os enc
  refine returnsInHanded_of_row (C := Tryz.checked) (s := OpenSpec.ofChange Rows.fnExactPutSpec) own started (by kernel_rfl) Tryz.func5
    (witness_row_at (enc := enc) (C := Tryz.checked) false ({ World.holding Tryz.prog os ⟨#[], #[], []⟩ with heap := (World.holding Tryz.prog os ⟨#[], #[], []⟩).heap.modify 0 fun | .cells _ t frozen => .cells (kTab.map U).toArray t frozen | o => o }) #[.agg #[.int .i64 0, .slice none 0 0], .string ByteArray.empty, .string ByteArray.empty, .string ByteArray.empty] rfl (by kernel_rfl) (by kernel_rfl) (by kernel_rfl)
      (OpenSpec.preRow_of_cond 8 hx (by kernel_rfl) (fun k hk => by cases hk) (by kernel_rfl) (laid_met os))) ?_
  intro W base args ds gs before hval hW _ _ _ hL _ _
  exact contract H enc W base args ds gs before hval hW hL

theorem said : Rows.FnExactPutSaid :=
  OpenClaim.holds_of_cond 5 Tryz.f5 rfl rfl rfl rfl rfl rfl rfl ⟨rfl, rfl, rfl, rfl, rfl⟩ rfl rfl rfl rfl rfl (by kernel_rfl) Tryz.func5 (by kernel_rfl)
    (of_decide_eq_true (by kernel_rfl)) (by unfold Func.isWrapper; first | (rw [if_pos (by decide +kernel)]; kernel_rfl) | (rw [if_neg (by decide +kernel)]; exact ⟨rfl, rfl⟩))
    (fun os started H enc _ F => by rw [OpenClaim.pre_eq_preRow]; exact lifted os started H enc F)

theorem plain (f : FuncId) (fn : Func) (hf : Tryz.pinned.checked.prog.funcNamed "loop.example/s03048/laws.FnExactPut" = some f) (hfn : Tryz.pinned.checked.prog.funcs[f]? = some fn) :
    false = Tryz.pinned.checked.prog.looks [] ∧ ∀ (j : Nat) t, fn.params[j]? = some t → Tryz.pinned.checked.prog.wantsStandIn t = false := by
  obtain rfl : f = 5 := Option.some.inj ((show Tryz.prog.funcNamed "loop.example/s03048/laws.FnExactPut" = some 5 by kernel_rfl).symm.trans hf) |>.symm
  obtain rfl : fn = Tryz.f5 := (Option.some.inj (Tryz.func5.symm.trans hfn)).symm
  refine ⟨by kernel_rfl, fun j t ht => ?_⟩
  rw [Tryz.params5] at ht
  have hm : t ∈ [24, 9, 9, 9] := by simpa using Array.mem_of_getElem? ht
  have hall : ([24, 9, 9, 9].all fun u => !Tryz.prog.wantsStandIn u) = true := by kernel_rfl
  exact (show Tryz.prog.wantsStandIn t = false by simpa using List.all_eq_true.1 hall t hm)
end Go.Proofs.YtgicihmdcnelaaaGreatDoor.fnExactPut

namespace Go.Proofs.YtgicihmdcnelaaaGreatDoor
/-- The card. -/
theorem fnExactPut_card : Rows.FnExactPutCardSaid :=
  Claim7.holds_tied_plain_at .later [] _ _ _ _ fnExactPut.said (fun _ h => by cases h) (by kernel_rfl) (fun _ h => by cases h) fnExactPut_row_tie rfl ⟨rfl, rfl⟩ (by kernel_rfl) rfl fnExactPut.plain (by kernel_rfl)
#print axioms fnExactPut_card
end Go.Proofs.YtgicihmdcnelaaaGreatDoor
