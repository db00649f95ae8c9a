import Derived.Test.YtmoajibmbppkjaeGreatDoorYa
import Derived.Test.YtmoajibmbppkjaeGreatDoorZbd
import Derived.Test.YtmoajibmbppkjaeGreatDoorZbx
import Derived.Test.YtmoajibmbppkjaeGreatDoorZbw
import Derived.Test.YtmoajibmbppkjaeGreatDoorZak
namespace Go.Proofs.YtmoajibmbppkjaeGreatDoor
open Go.RowKit Go.Proofs.Sha

def lenV : Value → Nat
  | .slice _ n _ => n
  | _ => 0
theorem PArg.tail {b off : Nat} {p : PairT} {P : List PairT} {w : World} (h : PArg (some ⟨b, off, none⟩) (p :: P) w) : PArg (some ⟨b, off + 2, none⟩) P w := by
  have hl := h.le
  refine ⟨by rw [List.length_cons] at hl; omega, fun j => ?_, fun hn => ?_⟩
  · have := h.sz (j + 1)
    simpa using this
  · obtain ⟨b', off', e, hlt, hc⟩ := h.at_ (by simp)
    cases e
    refine ⟨b, off + 2, rfl, hlt, fun j hj => ?_⟩
    have := hc (j + 1) (by simp; exact hj)
    rw [show off + (j + 1) * 2 = off + 2 + j * 2 by omega] at this
    simpa using this
theorem PArg.tailc {b off c : Nat} {p : PairT} {P : List PairT} {w : World} (h : PArg (some ⟨b, off, none⟩) (p :: P) w) (hc : P.length + 1 ≤ c) : PArg (if c = 1 then some ⟨b, off, none⟩ else some ⟨b, off + 2, none⟩) P w := by
  by_cases e : c = 1
  · rw [if_pos e]
    have := h.tail
    exact ⟨this.le, this.sz, fun hn => by omega⟩
  · rw [if_neg e]; exact h.tail
theorem PArg.head {a : Option Addr} {p : PairT} {P : List PairT} {w : World} (h : PArg a (p :: P) w) : ∃ b off, a = some ⟨b, off, none⟩ ∧ b < w.heap.size ∧ w.cell? ⟨b, off, none⟩ = some (.string p.1) ∧ w.cell? ⟨b, off + 1, none⟩ = some (.string p.2) := by
  obtain ⟨b, off, e, hlt, hc⟩ := h.at_ (by simp)
  have := hc 0 (by simp)
  exact ⟨b, off, e, hlt, by simpa using this.1, by simpa using this.2⟩
/-- What stands while two lists are gone through side by side. -/
structure CB (w : World) (ps qs : List PairT) (a b : Option Addr) (c d : Nat) (P Q : List PairT) (a5 : Option Addr) (m5 c5 : Nat) (out : List ChT) (W : World) : Prop where
  p : PArg a P w
  q : PArg b Q w
  hc : P.length ≤ c
  hd : Q.length ≤ d
  o : OwnC w out a5 m5 c5 W
  e : out ++ chg P Q = chg ps qs
  l : m5 + P.length + Q.length ≤ 1000
section
variable {w : World} {ps qs : List PairT} {a b a' b' : Option Addr} {c d c' d' : Nat} {P Q P' Q' : List PairT} {a5 : Option Addr} {m5 c5 : Nat} {out : List ChT} {W W' : World}
theorem CB.below (h : CB w ps qs a b c d P Q a5 m5 c5 out W) (hb : Below W.heap.size W W') : CB w ps qs a b c d P Q a5 m5 c5 out W' :=
  ⟨h.p, h.q, h.hc, h.hd, h.o.below hb, h.e, h.l⟩
/-- A change is put behind the others. -/
theorem CB.more {y : ChT} {g6 c6 m6 : Nat} {o : Obj} (h : CB w ps qs a b c d P Q a5 m5 c5 out W) (hown : W'.ownsRow w.heap.size 115 5 (.slice (some ⟨g6, 0, none⟩) m6 c6) m6 (flatC out ++ chL y)) (hgrow : (W.alloc o).grownBy W' (Value.slice a5 m5 c5).ownBlock) (hm : m6 = m5 + 1) (hp : PArg a' P' w) (hq : PArg b' Q' w) (hc : P'.length ≤ c') (hd : Q'.length ≤ d') (he : chg P Q = y :: chg P' Q') (hl : P'.length + Q'.length + 1 ≤ P.length + Q.length) : CB w ps qs a' b' c' d' P' Q' (some ⟨g6, 0, none⟩) m6 c6 (out ++ [y]) W' :=
  ⟨hp, hq, hc, hd, h.o.more hown hgrow hm, by rw [← h.e, he, List.append_assoc]; rfl, by have := h.l; omega⟩
theorem CB.pass (h : CB w ps qs a b c d P Q a5 m5 c5 out W) (hp : PArg a' P' w) (hq : PArg b' Q' w) (hc : P'.length ≤ c') (hd : Q'.length ≤ d') (he : chg P Q = chg P' Q') (hl : P'.length + Q'.length ≤ P.length + Q.length) : CB w ps qs a' b' c' d' P' Q' a5 m5 c5 out W :=
  ⟨hp, hq, hc, hd, h.o, by rw [← h.e, he], by have := h.l; omega⟩
end
set_option maxRecDepth 100000 in
set_option maxHeartbeats 4000000 in
theorem between_any (a b : Option Addr) (ps qs : List PairT) (c d : Nat) (w : World) (h : PArg a ps w) (h' : PArg b qs w) (hp : ps.length ≤ 500) (hq : qs.length ≤ 500) (hc : ps.length ≤ c) (hd : qs.length ≤ d) : Calls Tryz.prog 137 #[.slice a ps.length c, .slice b qs.length d] w (ChAt (chg ps qs) w) := by
  obtain ⟨i0, hi0, hz0, hz1, hz2⟩ := info_parts2 info115
  have hst : Hid (CB w ps qs a b c d ps qs none 0 0 [] w) := ⟨h, h', hc, hd, OwnC.none w, rfl, by omega⟩
  obtain ⟨n1, hn1⟩ : ∃ n, ps.length = n := ⟨_, rfl⟩
  obtain ⟨n2, hn2⟩ : ∃ n, qs.length = n := ⟨_, rfl⟩
  have hn1H : Hid (ps.length = n1) := hn1
  have hn2H : Hid (qs.length = n2) := hn2
  rw [hn1, hn2]
  clear hn1 hn2 h h' hp hq hc hd
  go_enter Tryz.func137, Tryz.ntmps137
  go_wp2_with fail
  go_loopw [0, 1, 5] (fun t0 t1 t5 wr => ∃ (a1 b1 a5 : Option Addr) (l1 l2 c1 d1 m5 c5 : Nat), t0 = .slice a1 l1 c1 ∧ t1 = .slice b1 l2 d1 ∧ t5 = .slice a5 m5 c5 ∧ Hid (∃ (P Q : List PairT) (out : List ChT), P.length = l1 ∧ Q.length = l2 ∧ CB w ps qs a1 b1 c1 d1 P Q a5 m5 c5 out wr)) (fun t0 t1 _ _ => lenV t0 + lenV t1)
  case atStart => exact ⟨a, b, none, n1, n2, c, d, 0, 0, rfl, rfl, rfl, ⟨ps, qs, [], hn1H.out, hn2H.out, hst.out⟩⟩
  case round =>
    obtain ⟨a1, b1, a5, l1, l2, c1, d1, m5, c5, rfl, rfl, rfl, hR⟩ := hrel
    obtain ⟨P, Q, out, hl1, hl2, hC⟩ := hR.out
    clear hR
    have hbA : Below wr.heap.size wr (wr.alloc (.cells #[.string ⟨#[]⟩, .bool false, .string ⟨#[]⟩, .bool false, .string ⟨#[]⟩] 115)) := (Below.refl _ _).alloc (Nat.le_refl _) _
    have nC := heap_alloc_new wr (.cells #[.string ⟨#[]⟩, .bool false, .string ⟨#[]⟩, .bool false, .string ⟨#[]⟩] 115)
    cases P with
    | nil =>
      obtain rfl : l1 = 0 := hl1.symm
      cases Q with
      | nil =>
        obtain rfl : l2 = 0 := hl2.symm
        have HF : Hid (ChAt (chg ps qs) w (.returned (.slice a5 m5 c5)) wr) := by
          have he := hC.e
          rw [chg, List.append_nil] at he
          rw [← he]
          have hl := hC.o.len
          subst hl
          exact ⟨_, _, rfl, hC.o⟩
        clear hC hl1 hl2
        go_wp2_with fail
        go_ret
        exact HF.out
      | cons q Q =>
        obtain ⟨b3, off3, rfl, hbl3, hk3, hk4⟩ := (hC.q.below hC.o.bel).head
        have hdp := hC.hd
        rw [List.length_cons] at hdp hl2
        obtain ⟨L2, hL2⟩ : ∃ L, Q.length = L := ⟨_, rfl⟩
        rw [hL2] at hdp hl2
        have hLH2 : Hid (Q.length = L2) := hL2
        clear hL2
        obtain rfl : l2 = L2 + 1 := hl2.symm
        have z7 : decide ((0 : Int) < (L2 : Int) + 1) = true := by simp; try omega
        have z8 : ((L2 : Int) + 1 == 0) = false := by simp; try omega
        have e3 := (hbA.cell (p := ⟨b3, off3, none⟩) hbl3).trans hk3
        have e4 := (hbA.cell (p := ⟨b3, off3 + 1, none⟩) hbl3).trans hk4
        have HT2 : Hid (PArg (if d1 = 1 then some ⟨b3, off3, none⟩ else some ⟨b3, off3 + 2, none⟩) Q w) := hC.q.tailc (by rw [hLH2.out]; exact hdp)
        go_upto_region 4 with fail
        generalize wr.alloc (.cells #[.string ⟨#[]⟩, .bool false, .string ⟨#[]⟩, .bool false, .string ⟨#[]⟩] 115) = W1 at hbA nC e3 e4 ⊢
        obtain ⟨gc, hgc⟩ : ∃ g, wr.heap.size = g := ⟨_, rfl⟩
        rw [hgc] at nC
        try rw [hgc]
        have hgl : wr.heap.size ≤ gc := Nat.le_of_eq hgc
        clear hgc
        have q0 := Lib.cell_of_heap nC 0
        have q1 := Lib.cell_of_heap nC 1
        have q2 := Lib.cell_of_heap nC 2
        have q3 := Lib.cell_of_heap nC 3
        have q4 := Lib.cell_of_heap nC 4
        have fz : ∀ j, W1.frozen? ⟨gc, j, none⟩ = false := fun j => by rw [World.frozen?, nC]; rfl
        go_region
        go_upto_region 5 with fail
        go_region
        go_upto_region 10 with fail
        go_region
        go_upto_region 11 with fail
        have n7 : ((((W1.setCell ⟨gc, 0, none⟩ (.string q.1)).setCell ⟨gc, 3, none⟩ (.bool true)).setCell ⟨gc, 4, none⟩ (.string q.2)).drew.drew.drew).heap[gc]? = some (.cells #[.string q.1, .bool false, .string ⟨#[]⟩, .bool true, .string q.2] 115) := heap_setCell_same _ gc 4 _ 115 (.string q.2) (heap_setCell_same _ gc 3 _ 115 (.bool true) (heap_setCell_same _ gc 0 _ 115 (.string q.1) nC))
        have hb7 : Below wr.heap.size wr ((((W1.setCell ⟨gc, 0, none⟩ (.string q.1)).setCell ⟨gc, 3, none⟩ (.bool true)).setCell ⟨gc, 4, none⟩ (.string q.2)).drew.drew.drew) := (((hbA.setCell (p := ⟨gc, 0, none⟩) hgl _).setCell (p := ⟨gc, 3, none⟩) hgl _).setCell (p := ⟨gc, 4, none⟩) hgl _).drew.drew.drew
        generalize ((((W1.setCell ⟨gc, 0, none⟩ (.string q.1)).setCell ⟨gc, 3, none⟩ (.bool true)).setCell ⟨gc, 4, none⟩ (.string q.2)).drew.drew.drew) = W7 at hb7 n7 ⊢
        clear q0 q1 q2 q3 q4 fz
        clear e3 e4 nC hbA hk3 hk4
        have q0 := Lib.cell_of_heap n7 0
        have q1 := Lib.cell_of_heap n7 1
        have q2 := Lib.cell_of_heap n7 2
        have q3 := Lib.cell_of_heap n7 3
        have q4 := Lib.cell_of_heap n7 4
        have hC7 := hC.below hb7
        have own7 := hC7.o.own
        have hbs7 := hC7.o.bel.size
        have hl5 := hC7.l
        have HC7 : Hid _ := hC7
        clear hC7
        go_wp2_with (at_builtin; refine wpList_append_lies _ rfl (.tmp 95) (.tmp 97) 55 rfl w.heap.size 115 i0 (.agg #[.string ⟨#[]⟩, .bool false, .string ⟨#[]⟩, .bool false, .string ⟨#[]⟩]) 5 64 Tryz.underlying55 hi0 hz0 hz1 hz2 rfl (by decide) (.slice a5 m5 c5) m5 (flatC out) rfl (own7.alloc _) ⟨W7.heap.size, 0, none⟩ 1 1 [.string q.1, .bool false, .string ⟨#[]⟩, .bool true, .string q.2] rfl rfl (World.news_of_block (heap_alloc_new W7 _)) (by simp [Value.oneCell']) (by decide) (by unfold maxLen; omega) (by omega) (by simp; omega) (W7.heap.size + 1) (by simp) ?_; intro g6 c6 w6 hown6 hgrow6 hat6 hlt6)
        go_roundw
        case rel => exact ⟨_, _, _, 0, L2, _, _, _, _, rfl, rfl, rfl, ⟨[], Q, out ++ [(q.1, false, ⟨#[]⟩, true, q.2)], rfl, hLH2.out, HC7.out.more (y := (q.1, false, (⟨#[]⟩ : ByteArray), true, q.2)) hown6 hgrow6 rfl HC7.out.p HT2.out HC7.out.hc (by rw [hLH2.out]; omega) (by rw [chg]) (by simp)⟩⟩
        case measure => simp only [lenV]; omega
    | cons p P =>
      cases Q with
      | nil =>
        obtain rfl : l2 = 0 := hl2.symm
        obtain ⟨b2, off2, rfl, hbl, hk1, hk2⟩ := (hC.p.below hC.o.bel).head
        have hcp := hC.hc
        rw [List.length_cons] at hcp hl1
        obtain ⟨L1, hL1⟩ : ∃ L, P.length = L := ⟨_, rfl⟩
        rw [hL1] at hcp hl1
        have hLH : Hid (P.length = L1) := hL1
        clear hL1
        obtain rfl : l1 = L1 + 1 := hl1.symm
        have z5 : decide ((0 : Int) < (L1 : Int) + 1) = true := by simp; try omega
        have z6 : ((L1 : Int) + 1 == 0) = false := by simp; try omega
        have e1 := (hbA.cell (p := ⟨b2, off2, none⟩) hbl).trans hk1
        have e2 := (hbA.cell (p := ⟨b2, off2 + 1, none⟩) hbl).trans hk2
        have HT1 : Hid (PArg (if c1 = 1 then some ⟨b2, off2, none⟩ else some ⟨b2, off2 + 2, none⟩) P w) := hC.p.tailc (by rw [hLH.out]; exact hcp)
        go_upto_region 4 with fail
        generalize wr.alloc (.cells #[.string ⟨#[]⟩, .bool false, .string ⟨#[]⟩, .bool false, .string ⟨#[]⟩] 115) = W1 at hbA nC e1 e2 ⊢
        obtain ⟨gc, hgc⟩ : ∃ g, wr.heap.size = g := ⟨_, rfl⟩
        rw [hgc] at nC
        try rw [hgc]
        have hgl : wr.heap.size ≤ gc := Nat.le_of_eq hgc
        clear hgc
        have q0 := Lib.cell_of_heap nC 0
        have q1 := Lib.cell_of_heap nC 1
        have q2 := Lib.cell_of_heap nC 2
        have q3 := Lib.cell_of_heap nC 3
        have q4 := Lib.cell_of_heap nC 4
        have fz : ∀ j, W1.frozen? ⟨gc, j, none⟩ = false := fun j => by rw [World.frozen?, nC]; rfl
        go_region
        go_upto_region 5 with fail
        go_region
        go_upto_region 7 with fail
        go_region
        go_upto_region 8 with fail
        have n7 : ((((W1.setCell ⟨gc, 0, none⟩ (.string p.1)).setCell ⟨gc, 1, none⟩ (.bool true)).setCell ⟨gc, 2, none⟩ (.string p.2)).drew.drew.drew).heap[gc]? = some (.cells #[.string p.1, .bool true, .string p.2, .bool false, .string ⟨#[]⟩] 115) := heap_setCell_same _ gc 2 _ 115 (.string p.2) (heap_setCell_same _ gc 1 _ 115 (.bool true) (heap_setCell_same _ gc 0 _ 115 (.string p.1) nC))
        have hb7 : Below wr.heap.size wr ((((W1.setCell ⟨gc, 0, none⟩ (.string p.1)).setCell ⟨gc, 1, none⟩ (.bool true)).setCell ⟨gc, 2, none⟩ (.string p.2)).drew.drew.drew) := (((hbA.setCell (p := ⟨gc, 0, none⟩) hgl _).setCell (p := ⟨gc, 1, none⟩) hgl _).setCell (p := ⟨gc, 2, none⟩) hgl _).drew.drew.drew
        generalize ((((W1.setCell ⟨gc, 0, none⟩ (.string p.1)).setCell ⟨gc, 1, none⟩ (.bool true)).setCell ⟨gc, 2, none⟩ (.string p.2)).drew.drew.drew) = W7 at hb7 n7 ⊢
        clear q0 q1 q2 q3 q4 fz
        clear e1 e2 nC hbA hk1 hk2
        have q0 := Lib.cell_of_heap n7 0
        have q1 := Lib.cell_of_heap n7 1
        have q2 := Lib.cell_of_heap n7 2
        have q3 := Lib.cell_of_heap n7 3
        have q4 := Lib.cell_of_heap n7 4
        have hC7 := hC.below hb7
        have own7 := hC7.o.own
        have hbs7 := hC7.o.bel.size
        have hl5 := hC7.l
        have HC7 : Hid _ := hC7
        clear hC7
        go_wp2_with (at_builtin; refine wpList_append_lies _ rfl (.tmp 95) (.tmp 97) 55 rfl w.heap.size 115 i0 (.agg #[.string ⟨#[]⟩, .bool false, .string ⟨#[]⟩, .bool false, .string ⟨#[]⟩]) 5 64 Tryz.underlying55 hi0 hz0 hz1 hz2 rfl (by decide) (.slice a5 m5 c5) m5 (flatC out) rfl (own7.alloc _) ⟨W7.heap.size, 0, none⟩ 1 1 [.string p.1, .bool true, .string p.2, .bool false, .string ⟨#[]⟩] rfl rfl (World.news_of_block (heap_alloc_new W7 _)) (by simp [Value.oneCell']) (by decide) (by unfold maxLen; omega) (by omega) (by simp; omega) (W7.heap.size + 1) (by simp) ?_; intro g6 c6 w6 hown6 hgrow6 hat6 hlt6)
        go_roundw
        case rel => exact ⟨_, _, _, L1, 0, _, _, _, _, rfl, rfl, rfl, ⟨P, [], out ++ [(p.1, true, p.2, false, ⟨#[]⟩)], hLH.out, rfl, HC7.out.more (y := (p.1, true, p.2, false, (⟨#[]⟩ : ByteArray))) hown6 hgrow6 rfl HT1.out HC7.out.q (by rw [hLH.out]; omega) HC7.out.hd (by rw [chg]) (by simp)⟩⟩
        case measure => simp only [lenV]; omega
      | cons q Q =>
        obtain ⟨b2, off2, rfl, hbl, hk1, hk2⟩ := (hC.p.below hC.o.bel).head
        have hcp := hC.hc
        rw [List.length_cons] at hcp hl1
        obtain ⟨L1, hL1⟩ : ∃ L, P.length = L := ⟨_, rfl⟩
        rw [hL1] at hcp hl1
        have hLH : Hid (P.length = L1) := hL1
        clear hL1
        obtain rfl : l1 = L1 + 1 := hl1.symm
        have z5 : decide ((0 : Int) < (L1 : Int) + 1) = true := by simp; try omega
        have z6 : ((L1 : Int) + 1 == 0) = false := by simp; try omega
        have e1 := (hbA.cell (p := ⟨b2, off2, none⟩) hbl).trans hk1
        have e2 := (hbA.cell (p := ⟨b2, off2 + 1, none⟩) hbl).trans hk2
        have HT1 : Hid (PArg (if c1 = 1 then some ⟨b2, off2, none⟩ else some ⟨b2, off2 + 2, none⟩) P w) := hC.p.tailc (by rw [hLH.out]; exact hcp)
        obtain ⟨b3, off3, rfl, hbl3, hk3, hk4⟩ := (hC.q.below hC.o.bel).head
        have hdp := hC.hd
        rw [List.length_cons] at hdp hl2
        obtain ⟨L2, hL2⟩ : ∃ L, Q.length = L := ⟨_, rfl⟩
        rw [hL2] at hdp hl2
        have hLH2 : Hid (Q.length = L2) := hL2
        clear hL2
        obtain rfl : l2 = L2 + 1 := hl2.symm
        have z7 : decide ((0 : Int) < (L2 : Int) + 1) = true := by simp; try omega
        have z8 : ((L2 : Int) + 1 == 0) = false := by simp; try omega
        have e3 := (hbA.cell (p := ⟨b3, off3, none⟩) hbl3).trans hk3
        have e4 := (hbA.cell (p := ⟨b3, off3 + 1, none⟩) hbl3).trans hk4
        have HT2 : Hid (PArg (if d1 = 1 then some ⟨b3, off3, none⟩ else some ⟨b3, off3 + 2, none⟩) Q w) := hC.q.tailc (by rw [hLH2.out]; exact hdp)
        obtain ⟨pk, pv⟩ := p
        obtain ⟨qk, qv⟩ := q
        simp only at e1 e2 e3 e4
        by_cases hek : pk = qk
        · subst hek
          have x1 : Op.bytesLess pk.toList pk.toList = false := bl_irr _
          have x2 : (pk.toList == pk.toList) = true := by simp
          go_upto_region 4 with fail
          generalize wr.alloc (.cells #[.string ⟨#[]⟩, .bool false, .string ⟨#[]⟩, .bool false, .string ⟨#[]⟩] 115) = W1 at hbA nC e1 e2 e3 e4 ⊢
          obtain ⟨gc, hgc⟩ : ∃ g, wr.heap.size = g := ⟨_, rfl⟩
          rw [hgc] at nC
          try rw [hgc]
          have hgl : wr.heap.size ≤ gc := Nat.le_of_eq hgc
          clear hgc
          have q0 := Lib.cell_of_heap nC 0
          have q1 := Lib.cell_of_heap nC 1
          have q2 := Lib.cell_of_heap nC 2
          have q3 := Lib.cell_of_heap nC 3
          have q4 := Lib.cell_of_heap nC 4
          have fz : ∀ j, W1.frozen? ⟨gc, j, none⟩ = false := fun j => by rw [World.frozen?, nC]; rfl
          go_region
          go_upto_region 5 with fail
          go_region
          go_upto_region 7 with fail
          go_region
          go_upto_region 8 with fail
          have n6 : ((((W1.setCell ⟨gc, 0, none⟩ (.string pk)).setCell ⟨gc, 1, none⟩ (.bool true)).setCell ⟨gc, 2, none⟩ (.string pv)).drew.drew.drew).heap[gc]? = some (.cells #[.string pk, .bool true, .string pv, .bool false, .string ⟨#[]⟩] 115) := heap_setCell_same _ gc 2 _ 115 (.string pv) (heap_setCell_same _ gc 1 _ 115 (.bool true) (heap_setCell_same _ gc 0 _ 115 (.string pk) nC))
          have hb6 : Below wr.heap.size wr ((((W1.setCell ⟨gc, 0, none⟩ (.string pk)).setCell ⟨gc, 1, none⟩ (.bool true)).setCell ⟨gc, 2, none⟩ (.string pv)).drew.drew.drew) := (((hbA.setCell (p := ⟨gc, 0, none⟩) hgl _).setCell (p := ⟨gc, 1, none⟩) hgl _).setCell (p := ⟨gc, 2, none⟩) hgl _).drew.drew.drew
          generalize ((((W1.setCell ⟨gc, 0, none⟩ (.string pk)).setCell ⟨gc, 1, none⟩ (.bool true)).setCell ⟨gc, 2, none⟩ (.string pv)).drew.drew.drew) = W6 at hb6 n6 ⊢
          have e3' := (hb6.cell (p := ⟨b3, off3, none⟩) hbl3).trans hk3
          have e4' := (hb6.cell (p := ⟨b3, off3 + 1, none⟩) hbl3).trans hk4
          simp only at e3' e4'
          clear q0 q1 q2 q3 q4 fz e1 e2 e3 e4 nC hbA
          have q0 := Lib.cell_of_heap n6 0
          have q1 := Lib.cell_of_heap n6 1
          have q2 := Lib.cell_of_heap n6 2
          have q3 := Lib.cell_of_heap n6 3
          have q4 := Lib.cell_of_heap n6 4
          have fz : ∀ j, W6.frozen? ⟨gc, j, none⟩ = false := fun j => by rw [World.frozen?, n6]; rfl
          go_upto_region 10 with fail
          go_region
          go_upto_region 11 with fail
          have n7 : ((((W6.setCell ⟨gc, 0, none⟩ (.string pk)).setCell ⟨gc, 3, none⟩ (.bool true)).setCell ⟨gc, 4, none⟩ (.string qv)).drew).heap[gc]? = some (.cells #[.string pk, .bool true, .string pv, .bool true, .string qv] 115) := heap_setCell_same _ gc 4 _ 115 (.string qv) (heap_setCell_same _ gc 3 _ 115 (.bool true) (heap_setCell_same _ gc 0 _ 115 (.string pk) n6))
          have hb7 : Below wr.heap.size wr ((((W6.setCell ⟨gc, 0, none⟩ (.string pk)).setCell ⟨gc, 3, none⟩ (.bool true)).setCell ⟨gc, 4, none⟩ (.string qv)).drew) := (((hb6.setCell (p := ⟨gc, 0, none⟩) hgl _).setCell (p := ⟨gc, 3, none⟩) hgl _).setCell (p := ⟨gc, 4, none⟩) hgl _).drew
          generalize ((((W6.setCell ⟨gc, 0, none⟩ (.string pk)).setCell ⟨gc, 3, none⟩ (.bool true)).setCell ⟨gc, 4, none⟩ (.string qv)).drew) = W7 at hb7 n7 ⊢
          clear q0 q1 q2 q3 q4 fz n6 hb6 e3' e4'
          have q0 := Lib.cell_of_heap n7 0
          have q1 := Lib.cell_of_heap n7 1
          have q2 := Lib.cell_of_heap n7 2
          have q3 := Lib.cell_of_heap n7 3
          have q4 := Lib.cell_of_heap n7 4
          have hC7 := hC.below hb7
          have own7 := hC7.o.own
          have hbs7 := hC7.o.bel.size
          have hl5 := hC7.l
          have HC7 : Hid _ := hC7
          clear hC7
          by_cases e2 : pv = qv
          · have x4 : (pv.toList == qv.toList) = true := by rw [ba_eq, decide_eq_true e2]
            have HE : Hid (chg ((pk, pv) :: P) ((pk, qv) :: Q) = chg P Q) := by show _ = _; rw [chg, if_pos rfl, if_pos e2]
            clear e2
            go_wp2_with fail
            go_roundw
            case rel => exact ⟨_, _, _, L1, L2, _, _, _, _, rfl, rfl, rfl, ⟨P, Q, out, hLH.out, hLH2.out, HC7.out.pass HT1.out HT2.out (by rw [hLH.out]; omega) (by rw [hLH2.out]; omega) HE.out (by simp; omega)⟩⟩
            case measure => simp only [lenV]; omega
          · have x4 : (pv.toList == qv.toList) = false := by rw [ba_eq, decide_eq_false e2]
            have HE : Hid (chg ((pk, pv) :: P) ((pk, qv) :: Q) = (pk, true, pv, true, qv) :: chg P Q) := by show _ = _; rw [chg, if_pos rfl, if_neg e2]
            clear e2
            go_wp2_with (at_builtin; refine wpList_append_lies _ rfl (.tmp 95) (.tmp 97) 55 rfl w.heap.size 115 i0 (.agg #[.string ⟨#[]⟩, .bool false, .string ⟨#[]⟩, .bool false, .string ⟨#[]⟩]) 5 64 Tryz.underlying55 hi0 hz0 hz1 hz2 rfl (by decide) (.slice a5 m5 c5) m5 (flatC out) rfl (own7.alloc _) ⟨W7.heap.size, 0, none⟩ 1 1 [.string pk, .bool true, .string pv, .bool true, .string qv] rfl rfl (World.news_of_block (heap_alloc_new W7 _)) (by simp [Value.oneCell']) (by decide) (by unfold maxLen; omega) (by omega) (by simp; omega) (W7.heap.size + 1) (by simp) ?_; intro g6 c6 w6 hown6 hgrow6 hat6 hlt6)
            go_roundw
            case rel => exact ⟨_, _, _, L1, L2, _, _, _, _, rfl, rfl, rfl, ⟨P, Q, out ++ [(pk, true, pv, true, qv)], hLH.out, hLH2.out, HC7.out.more (y := (pk, true, pv, true, qv)) hown6 hgrow6 rfl HT1.out HT2.out (by rw [hLH.out]; omega) (by rw [hLH2.out]; omega) HE.out (by simp; omega)⟩⟩
            case measure => simp only [lenV]; omega
        · cases hlt : lessB pk qk with
          | true =>
            have hgt : lessB qk pk = false := by
              cases hg : lessB qk pk with
              | false => rfl
              | true => have := lessB_tr hlt hg; rw [lessB_irr] at this; cases this
            have x1 : Op.bytesLess pk.toList qk.toList = true := hlt
            have x2 : (qk.toList == pk.toList) = false := by rw [ba_eq]; exact decide_eq_false (fun e => hek e.symm)
            have x3 : (pk.toList == qk.toList) = false := by rw [ba_eq]; exact decide_eq_false hek
            have x4 : Op.bytesLess qk.toList pk.toList = false := hgt
            have HE : Hid (chg ((pk, pv) :: P) ((qk, qv) :: Q) = (pk, true, pv, false, ⟨#[]⟩) :: chg P ((qk, qv) :: Q)) := by show _ = _; rw [chg, if_neg hek, if_pos hlt]
            go_upto_region 4 with fail
            generalize wr.alloc (.cells #[.string ⟨#[]⟩, .bool false, .string ⟨#[]⟩, .bool false, .string ⟨#[]⟩] 115) = W1 at hbA nC e1 e2 e3 e4 ⊢
            obtain ⟨gc, hgc⟩ : ∃ g, wr.heap.size = g := ⟨_, rfl⟩
            rw [hgc] at nC
            try rw [hgc]
            have hgl : wr.heap.size ≤ gc := Nat.le_of_eq hgc
            clear hgc
            have q0 := Lib.cell_of_heap nC 0
            have q1 := Lib.cell_of_heap nC 1
            have q2 := Lib.cell_of_heap nC 2
            have q3 := Lib.cell_of_heap nC 3
            have q4 := Lib.cell_of_heap nC 4
            have fz : ∀ j, W1.frozen? ⟨gc, j, none⟩ = false := fun j => by rw [World.frozen?, nC]; rfl
            go_region
            go_upto_region 5 with fail
            go_region
            go_upto_region 7 with fail
            go_region
            go_upto_region 8 with fail
            have n7 : ((((W1.setCell ⟨gc, 0, none⟩ (.string pk)).setCell ⟨gc, 1, none⟩ (.bool true)).setCell ⟨gc, 2, none⟩ (.string pv)).drew.drew.drew).heap[gc]? = some (.cells #[.string pk, .bool true, .string pv, .bool false, .string ⟨#[]⟩] 115) := heap_setCell_same _ gc 2 _ 115 (.string pv) (heap_setCell_same _ gc 1 _ 115 (.bool true) (heap_setCell_same _ gc 0 _ 115 (.string pk) nC))
            have hb7 : Below wr.heap.size wr ((((W1.setCell ⟨gc, 0, none⟩ (.string pk)).setCell ⟨gc, 1, none⟩ (.bool true)).setCell ⟨gc, 2, none⟩ (.string pv)).drew.drew.drew) := (((hbA.setCell (p := ⟨gc, 0, none⟩) hgl _).setCell (p := ⟨gc, 1, none⟩) hgl _).setCell (p := ⟨gc, 2, none⟩) hgl _).drew.drew.drew
            generalize ((((W1.setCell ⟨gc, 0, none⟩ (.string pk)).setCell ⟨gc, 1, none⟩ (.bool true)).setCell ⟨gc, 2, none⟩ (.string pv)).drew.drew.drew) = W7 at hb7 n7 ⊢
            clear q0 q1 q2 q3 q4 fz e1 e2 e3 e4 nC hbA
            have q0 := Lib.cell_of_heap n7 0
            have q1 := Lib.cell_of_heap n7 1
            have q2 := Lib.cell_of_heap n7 2
            have q3 := Lib.cell_of_heap n7 3
            have q4 := Lib.cell_of_heap n7 4
            have hC7 := hC.below hb7
            have own7 := hC7.o.own
            have hbs7 := hC7.o.bel.size
            have hl5 := hC7.l
            have HC7 : Hid _ := hC7
            clear hC7
            go_wp2_with (at_builtin; refine wpList_append_lies _ rfl (.tmp 95) (.tmp 97) 55 rfl w.heap.size 115 i0 (.agg #[.string ⟨#[]⟩, .bool false, .string ⟨#[]⟩, .bool false, .string ⟨#[]⟩]) 5 64 Tryz.underlying55 hi0 hz0 hz1 hz2 rfl (by decide) (.slice a5 m5 c5) m5 (flatC out) rfl (own7.alloc _) ⟨W7.heap.size, 0, none⟩ 1 1 [.string pk, .bool true, .string pv, .bool false, .string ⟨#[]⟩] rfl rfl (World.news_of_block (heap_alloc_new W7 _)) (by simp [Value.oneCell']) (by decide) (by unfold maxLen; omega) (by omega) (by simp; omega) (W7.heap.size + 1) (by simp) ?_; intro g6 c6 w6 hown6 hgrow6 hat6 hlt6)
            go_roundw
            case rel => exact ⟨_, _, _, L1, L2 + 1, _, _, _, _, rfl, rfl, rfl, ⟨P, (qk, qv) :: Q, out ++ [(pk, true, pv, false, ⟨#[]⟩)], hLH.out, by rw [List.length_cons, hLH2.out], HC7.out.more (y := (pk, true, pv, false, (⟨#[]⟩ : ByteArray))) hown6 hgrow6 rfl HT1.out HC7.out.q (by rw [hLH.out]; omega) HC7.out.hd HE.out (by simp only [List.length_cons]; omega)⟩⟩
            case measure => simp only [lenV]; omega
          | false =>
            have hgt : lessB qk pk = true := lessB_or _ _ hlt hek
            have x1 : Op.bytesLess pk.toList qk.toList = false := hlt
            have x2 : (qk.toList == pk.toList) = false := by rw [ba_eq]; exact decide_eq_false (fun e => hek e.symm)
            have x3 : (pk.toList == qk.toList) = false := by rw [ba_eq]; exact decide_eq_false hek
            have x4 : Op.bytesLess qk.toList pk.toList = true := hgt
            have HE : Hid (chg ((pk, pv) :: P) ((qk, qv) :: Q) = (qk, false, ⟨#[]⟩, true, qv) :: chg ((pk, pv) :: P) Q) := by show _ = _; rw [chg, if_neg hek, if_neg (by simp only; rw [hlt]; decide)]
            go_upto_region 4 with fail
            generalize wr.alloc (.cells #[.string ⟨#[]⟩, .bool false, .string ⟨#[]⟩, .bool false, .string ⟨#[]⟩] 115) = W1 at hbA nC e1 e2 e3 e4 ⊢
            obtain ⟨gc, hgc⟩ : ∃ g, wr.heap.size = g := ⟨_, rfl⟩
            rw [hgc] at nC
            try rw [hgc]
            have hgl : wr.heap.size ≤ gc := Nat.le_of_eq hgc
            clear hgc
            have q0 := Lib.cell_of_heap nC 0
            have q1 := Lib.cell_of_heap nC 1
            have q2 := Lib.cell_of_heap nC 2
            have q3 := Lib.cell_of_heap nC 3
            have q4 := Lib.cell_of_heap nC 4
            have fz : ∀ j, W1.frozen? ⟨gc, j, none⟩ = false := fun j => by rw [World.frozen?, nC]; rfl
            go_region
            go_upto_region 5 with fail
            go_region
            go_upto_region 10 with fail
            go_region
            go_upto_region 11 with fail
            have n7 : ((((W1.setCell ⟨gc, 0, none⟩ (.string qk)).setCell ⟨gc, 3, none⟩ (.bool true)).setCell ⟨gc, 4, none⟩ (.string qv)).drew.drew.drew).heap[gc]? = some (.cells #[.string qk, .bool false, .string ⟨#[]⟩, .bool true, .string qv] 115) := heap_setCell_same _ gc 4 _ 115 (.string qv) (heap_setCell_same _ gc 3 _ 115 (.bool true) (heap_setCell_same _ gc 0 _ 115 (.string qk) nC))
            have hb7 : Below wr.heap.size wr ((((W1.setCell ⟨gc, 0, none⟩ (.string qk)).setCell ⟨gc, 3, none⟩ (.bool true)).setCell ⟨gc, 4, none⟩ (.string qv)).drew.drew.drew) := (((hbA.setCell (p := ⟨gc, 0, none⟩) hgl _).setCell (p := ⟨gc, 3, none⟩) hgl _).setCell (p := ⟨gc, 4, none⟩) hgl _).drew.drew.drew
            generalize ((((W1.setCell ⟨gc, 0, none⟩ (.string qk)).setCell ⟨gc, 3, none⟩ (.bool true)).setCell ⟨gc, 4, none⟩ (.string qv)).drew.drew.drew) = W7 at hb7 n7 ⊢
            clear q0 q1 q2 q3 q4 fz e1 e2 e3 e4 nC hbA
            have q0 := Lib.cell_of_heap n7 0
            have q1 := Lib.cell_of_heap n7 1
            have q2 := Lib.cell_of_heap n7 2
            have q3 := Lib.cell_of_heap n7 3
            have q4 := Lib.cell_of_heap n7 4
            have hC7 := hC.below hb7
            have own7 := hC7.o.own
            have hbs7 := hC7.o.bel.size
            have hl5 := hC7.l
            have HC7 : Hid _ := hC7
            clear hC7
            go_wp2_with (at_builtin; refine wpList_append_lies _ rfl (.tmp 95) (.tmp 97) 55 rfl w.heap.size 115 i0 (.agg #[.string ⟨#[]⟩, .bool false, .string ⟨#[]⟩, .bool false, .string ⟨#[]⟩]) 5 64 Tryz.underlying55 hi0 hz0 hz1 hz2 rfl (by decide) (.slice a5 m5 c5) m5 (flatC out) rfl (own7.alloc _) ⟨W7.heap.size, 0, none⟩ 1 1 [.string qk, .bool false, .string ⟨#[]⟩, .bool true, .string qv] rfl rfl (World.news_of_block (heap_alloc_new W7 _)) (by simp [Value.oneCell']) (by decide) (by unfold maxLen; omega) (by omega) (by simp; omega) (W7.heap.size + 1) (by simp) ?_; intro g6 c6 w6 hown6 hgrow6 hat6 hlt6)
            go_roundw
            case rel => exact ⟨_, _, _, L1 + 1, L2, _, _, _, _, rfl, rfl, rfl, ⟨(pk, pv) :: P, Q, out ++ [(qk, false, ⟨#[]⟩, true, qv)], by rw [List.length_cons, hLH.out], hLH2.out, HC7.out.more (y := (qk, false, (⟨#[]⟩ : ByteArray), true, qv)) hown6 hgrow6 rfl HC7.out.p HT2.out HC7.out.hc (by rw [hLH2.out]; omega) HE.out (by simp only [List.length_cons]; omega)⟩⟩
            case measure => simp only [lenV]; omega
end Go.Proofs.YtmoajibmbppkjaeGreatDoor
namespace Go.Proofs.YtmoajibmbppkjaeGreatDoor
open Go.RowKit Go.Proofs.Sha

theorem ku_append : ∀ {a b : List ByteArray}, KeysUp a → KeysUp b → (∀ x ∈ a, ∀ y ∈ b, lessB x y = true) → KeysUp (a ++ b)
  | [], _, _, hb, _ => hb
  | x :: xs, b, ha, hb, h => by
    refine ⟨fun y hy => ?_, ku_append ha.2 hb (fun z hz => h z (List.mem_cons_of_mem _ hz))⟩
    rcases List.mem_append.1 hy with hy | hy
    · exact ha.1 y hy
    · exact h x List.mem_cons_self y hy
theorem ins_parts {over under k : ByteArray} (h : insW over under k = true) : lessB over k = true ∧ (emp under = true ∨ lessB k under = true) := by
  unfold insW at h
  obtain ⟨h1, h2⟩ := (Bool.and_eq_true _ _).mp h
  exact ⟨h1, (Bool.or_eq_true _ _).mp h2⟩
theorem goF_up {fnd : ByteArray → FN} {hg : ByteArray → ByteArray → Bool} {lo hi : ByteArray} {wd : Nat} (hfo : FndOk wd fnd) : ∀ (f : Nat) (hash over under par : ByteArray) (cnt : Nat), KeysUp (keys (goF fnd hg lo hi f hash over under par cnt).2.2) ∧ ∀ x ∈ keys (goF fnd hg lo hi f hash over under par cnt).2.2, lessB over x = true ∧ (emp under = true ∨ lessB x under = true)
  | 0, _, _, _, _, _ => by rw [goF]; exact ⟨trivial, fun x hx => by simp at hx⟩
  | f + 1, hash, over, under, par, cnt => by
    have hnil : KeysUp (keys ([] : List PairT)) ∧ ∀ x ∈ keys ([] : List PairT), lessB over x = true ∧ (emp under = true ∨ lessB x under = true) := ⟨trivial, fun x hx => by simp at hx⟩
    cases h1 : (emp hash || !canW over under lo hi) with
    | true => rw [goF_skip h1]; exact hnil
    | false =>
      by_cases h2 : (fnd hash).2 = 2
      · rw [goF_missing h1 h2]; exact hnil
      · by_cases h20 : (fnd hash).2 = 0
        · cases h3 : (insW over under (fnd hash).1.1 && parW hg par (fnd hash).1.1) with
          | false => rw [goF_place h1 h20 h3]; exact hnil
          | true =>
            by_cases h4 : 500 < cnt + 1
            · rw [goF_many h1 h20 h3 h4]; exact hnil
            · have e : fnd hash = (((fnd hash).1.1, (fnd hash).1.2.1, (fnd hash).1.2.2.1, (fnd hash).1.2.2.2), 0) := by rw [← h20]
              rw [goF_node h1 e h3 (by omega) rfl rfl]
              obtain ⟨hk1, hk2⟩ := ins_parts ((Bool.and_eq_true _ _).mp h3).1
              have hke : emp (fnd hash).1.1 = false := by
                have okk := (hfo.node hash h20).1
                have h9 : 1 ≤ (fnd hash).1.1.size := by
                  unfold okKey at okk
                  simp at okk
                  omega
                unfold emp
                exact decide_eq_false (by omega)
              obtain ⟨l1, l2⟩ := goF_up hfo f (fnd hash).1.2.2.1 over (fnd hash).1.1 (fnd hash).1.1 (cnt + 1)
              obtain ⟨r1, r2⟩ := goF_up hfo f (fnd hash).1.2.2.2 (fnd hash).1.1 under (fnd hash).1.1 (goF fnd hg lo hi f (fnd hash).1.2.2.1 over (fnd hash).1.1 (fnd hash).1.1 (cnt + 1)).2.1
              generalize goF fnd hg lo hi f (fnd hash).1.2.2.2 (fnd hash).1.1 under (fnd hash).1.1 (goF fnd hg lo hi f (fnd hash).1.2.2.1 over (fnd hash).1.1 (fnd hash).1.1 (cnt + 1)).2.1 = R at r1 r2 ⊢
              generalize goF fnd hg lo hi f (fnd hash).1.2.2.1 over (fnd hash).1.1 (fnd hash).1.1 (cnt + 1) = L at l1 l2 ⊢
              generalize (fnd hash).1.1 = k at *
              split
              · exact hnil
              · split
                · exact hnil
                · have hl : ∀ x ∈ keys L.2.2, lessB over x = true ∧ lessB x k = true := fun x hx => ⟨(l2 x hx).1, by
                    rcases (l2 x hx).2 with h | h
                    · rw [hke] at h; cases h
                    · exact h⟩
                  have hin : ∀ x, x ∈ keys (if hasW lo hi k = true then [(k, (fnd hash).1.2.1)] else []) → x = k := fun x hx => by
                    split at hx
                    · simpa using hx
                    · simp at hx
                  have hiu : KeysUp (keys (if hasW lo hi k = true then [(k, (fnd hash).1.2.1)] else [])) := by
                    split
                    · exact ⟨fun x hx => by simp at hx, trivial⟩
                    · trivial
                  have hun : ∀ x, lessB x k = true → (emp under = true ∨ lessB x under = true) := fun x hx => by
                    rcases hk2 with h | h
                    · exact .inl h
                    · exact .inr (lessB_tr hx h)
                  generalize (if hasW lo hi k = true then [(k, (fnd hash).1.2.1)] else []) = I at hin hiu ⊢
                  have ha : KeysUp (keys L.2.2 ++ keys I) := ku_append l1 hiu (fun x hx y hy => by rw [hin y hy]; exact (hl x hx).2)
                  have hb : KeysUp ((keys L.2.2 ++ keys I) ++ keys R.2.2) := ku_append ha r1 (fun x hx y hy => by
                    rcases List.mem_append.1 hx with hx | hx
                    · exact lessB_tr (hl x hx).2 (r2 y hy).1
                    · rw [hin x hx]; exact (r2 y hy).1)
                  have e3 : keys (L.2.2 ++ I ++ R.2.2) = (keys L.2.2 ++ keys I) ++ keys R.2.2 := by simp [keys]
                  simp only [e3]
                  refine ⟨hb, fun x hx => ?_⟩
                  rcases List.mem_append.1 hx with hx | hx
                  · rcases List.mem_append.1 hx with hx | hx
                    · exact ⟨(hl x hx).1, hun x (hl x hx).2⟩
                    · rw [hin x hx]; exact ⟨hk1, hk2⟩
                  · exact ⟨lessB_tr hk1 (r2 x hx).1, (r2 x hx).2⟩
        · rw [goF, if_neg (by rw [h1]; decide), if_neg h2, if_pos h20]; exact hnil
/-- What a range gives grows. -/
theorem rangeM_up {fnd : ByteArray → FN} {wd : Nat} (hfo : FndOk wd fnd) (n : Int) (m : Nat) (root lo hi : ByteArray) : KeysUp (keys (rangeM fnd n m root lo hi).1) := by
  unfold rangeM
  split
  · split
    · exact (goF_up hfo 501 root ⟨#[]⟩ ⟨#[]⟩ ⟨#[]⟩ 0).1
    · trivial
  · trivial
end Go.Proofs.YtmoajibmbppkjaeGreatDoor
namespace Go.Proofs.YtmoajibmbppkjaeGreatDoor
open Go.RowKit Go.Proofs.Sha

theorem own_cap {w : World} {base n c t z : Nat} {a : Option Addr} {xs : List Value} (h : w.ownsRow base t z (.slice a n c) n xs) : n ≤ c := by
  rcases h.2 with ⟨e, h0⟩ | ⟨g, cap, cur, e, hb, hg, q1, q2, q3, q4⟩
  · simp only [Value.slice.injEq] at e
    omega
  · simp only [Value.slice.injEq, true_and] at e
    obtain ⟨rfl, rfl⟩ := e
    exact q1
/-- What Diff answers of two maps. -/
def diffR (A B : List PairT × Int) : List ChT × Int := if A.2 ≠ 0 then ([], A.2) else if B.2 ≠ 0 then ([], B.2) else (chg A.1 B.1, 0)
def DiffAt (X : List ChT × Int) (w : World) (e : Ending) (w' : World) : Prop := ∃ a c, e = .returned (.tuple #[.slice a X.1.length c, .int .i64 X.2]) ∧ OwnC w X.1 a X.1.length c w'
theorem DiffAt.nil {w w' : World} (x : Int) (hb : Below w.heap.size w w') : DiffAt ([], x) w (.returned (.tuple #[.slice none 0 0, .int .i64 x])) w' := ⟨none, 0, rfl, (OwnC.none w').up hb⟩
theorem DiffAt.up {X : List ChT × Int} {w w1 w' : World} {e : Ending} (h : DiffAt X w1 e w') (hb : Below w.heap.size w w1) : ∃ a c, e = .returned (.tuple #[.slice a X.1.length c, .int .i64 X.2]) ∧ DiffAt X w e w' := by
  obtain ⟨a, c, he, ho⟩ := h
  exact ⟨a, c, he, a, c, he, ho.up hb⟩
/-- What a loading gives: few pairs, small ones. -/
def Lok (A : List PairT × Int) : Prop := A.1.length ≤ 500 ∧ SmallP A.1
set_option maxRecDepth 100000 in
set_option maxHeartbeats 1000000 in
theorem diff_any (A B : List PairT × Int) (a b : ByteArray) (sb : Nat) (w : World) (hA : Lok A) (hB : Lok B)
    (H1 : Hid (∀ w', Below w.heap.size w w' → Calls Tryz.prog 52 #[.pointer (some ⟨sb, 0, none⟩), .string a] w' (RangeAt A w')))
    (H2 : Hid (∀ w', Below w.heap.size w w' → Calls Tryz.prog 52 #[.pointer (some ⟨sb, 0, none⟩), .string b] w' (RangeAt B w'))) :
    Calls Tryz.prog 86 #[.pointer (some ⟨sb, 0, none⟩), .string a, .string b] w (DiffAt (diffR A B) w) := by
  obtain ⟨P, x⟩ := A
  obtain ⟨Q, y⟩ := B
  unfold diffR
  simp only
  by_cases hx : x = 0
  · subst hx
    rw [if_neg (by simp)]
    by_cases hy : y = 0
    · subst hy
      rw [if_neg (by simp)]
      have HB : Hid (∀ w1 w2 a1 c1 a2 c2, Below w.heap.size w w1 → OwnP w1 P a1 P.length c1 w1 ∨ True → w1.ownsRow w.heap.size 46 2 (.slice a1 P.length c1) P.length (flatP P) → Below w1.heap.size w1 w2 → w2.ownsRow w1.heap.size 46 2 (.slice a2 Q.length c2) Q.length (flatP Q) → Calls Tryz.prog 137 #[.slice a1 P.length c1, .slice a2 Q.length c2] w2 (ChAt (chg P Q) w2)) := fun w1 w2 a1 c1 a2 c2 hb1 _ ho1 hb2 ho2 =>
        between_any a1 a2 P Q c1 c2 w2 ((own_parg ho1 hA.2).below hb2) (own_parg ho2 hB.2) hA.1 hB.1 (own_cap ho1) (own_cap ho2)
      have HF : Hid (∀ w2 w3 a3 c3, Below w.heap.size w w2 → OwnC w2 (chg P Q) a3 (chg P Q).length c3 w3 → DiffAt (chg P Q, 0) w (.returned (.tuple #[.slice a3 (chg P Q).length c3, .int .i64 0])) w3) := fun w2 w3 a3 c3 hb ho => ⟨a3, c3, rfl, ho.up hb⟩
      generalize chg P Q = CH at HB HF ⊢
      go_enter Tryz.func86, Tryz.ntmps86
      go_wp2_with fail
      refine (H1.out _ (Below.refl _ _)).mono ?_
      rintro e w1 ⟨⟨a1, c1, rfl, ho1⟩, hb1⟩
      simp only at ho1
      go_wp2_with fail
      refine (H2.out _ hb1).mono ?_
      rintro e w2 ⟨⟨a2, c2, rfl, ho2⟩, hb2⟩
      simp only at ho2
      have hb12 := hb1.trans (hb2.mono hb1.size)
      have HB' := HB.out w1 w2 a1 c1 a2 c2 hb1 (.inr trivial) ho1 hb2 ho2
      go_wp2_with (first | (go_at_call 137; refine HB'.mono ?_; rintro e w3 ⟨a3, c3, rfl, ho3⟩))
      go_ret2
      exact HF.out _ _ _ _ hb12 ho3
    · rw [if_pos hy]
      have HN : Hid (∀ w', Below w.heap.size w w' → DiffAt ([], y) w (.returned (.tuple #[.slice none 0 0, .int .i64 y])) w') := fun w' hb => DiffAt.nil y hb
      have z1 : (y == 0) = false := by simpa using hy
      go_enter Tryz.func86, Tryz.ntmps86
      go_wp2_with fail
      refine (H1.out _ (Below.refl _ _)).mono ?_
      rintro e w1 ⟨⟨a1, c1, rfl, ho1⟩, hb1⟩
      go_wp2_with fail
      refine (H2.out _ hb1).mono ?_
      rintro e w2 ⟨⟨a2, c2, rfl, ho2⟩, hb2⟩
      have hb12 := hb1.trans (hb2.mono hb1.size)
      go_wp2_with fail
      go_ret2
      exact HN.out _ hb12
  · rw [if_pos hx]
    have HN : Hid (∀ w', Below w.heap.size w w' → DiffAt ([], x) w (.returned (.tuple #[.slice none 0 0, .int .i64 x])) w') := fun w' hb => DiffAt.nil x hb
    have z1 : (x == 0) = false := by simpa using hx
    go_enter Tryz.func86, Tryz.ntmps86
    go_wp2_with fail
    refine (H1.out _ (Below.refl _ _)).mono ?_
    rintro e w1 ⟨⟨a1, c1, rfl, ho1⟩, hb1⟩
    go_wp2_with fail
    go_ret2
    exact HN.out _ hb1
end Go.Proofs.YtmoajibmbppkjaeGreatDoor
namespace Go.Proofs.YtmoajibmbppkjaeGreatDoor
open Go.RowKit Go.Proofs.Sha

def diffM (fnd : ByteArray → FN) (n : Int) (m : Nat) (a b : ByteArray) : List ChT × Int := if a = b then ([], 0) else diffR (rangeM fnd n m a ⟨#[]⟩ ⟨#[]⟩) (rangeM fnd n m b ⟨#[]⟩ ⟨#[]⟩)
theorem rangeM_pw {fnd : ByteArray → FN} {wd m : Nat} {root : ByteArray} (hp : poolOk (wd : Int) m = true) : rangeM fnd (wd : Int) m root ⟨#[]⟩ ⟨#[]⟩ = if hashOk root.size (wd : Int) = true then (if (goF fnd hgW ⟨#[]⟩ ⟨#[]⟩ 501 root ⟨#[]⟩ ⟨#[]⟩ ⟨#[]⟩ 0).1 = 0 then ((goF fnd hgW ⟨#[]⟩ ⟨#[]⟩ 501 root ⟨#[]⟩ ⟨#[]⟩ ⟨#[]⟩ 0).2.2, 0) else ([], (goF fnd hgW ⟨#[]⟩ ⟨#[]⟩ 501 root ⟨#[]⟩ ⟨#[]⟩ ⟨#[]⟩ 0).1)) else ([], 1) := by
  unfold rangeM
  rw [hp, Bool.true_and]
set_option maxRecDepth 100000 in
set_option maxHeartbeats 1000000 in
theorem idiff_any (HH : Hid (HashSaid KT)) (D : Dec) (n : Int) (HD : Hid (∀ wd : Nat, (wd : Int) = n → 1 ≤ wd → wd ≤ 32 → DecSaid 209 wd D)) (hdo : ∀ wd : Nat, (wd : Int) = n → DecOk wd D) (a : Option Addr) (ss : List ByteArray) (c : Nat) (x y : ByteArray) (w : World) (h : SArg a ss w) (hK : KT w) (hx : x.size ≤ 1048576) (hy : y.size ≤ 1048576) :
    Calls Tryz.prog 32 #[.agg #[.int .i64 n, .slice a ss.length c], .string x, .string y] w (DiffAt (diffM (fndD D n.toNat ss) n ss.length x y) w) := by
  unfold diffM
  have hA : Below w.heap.size w (w.alloc (.cells #[.int .i64 n, .slice a ss.length c] 29)) := (Below.refl _ _).alloc (Nat.le_refl _) _
  by_cases exy : x = y
  · rw [if_pos exy]
    have z1 : (x.toList == y.toList) = true := by rw [ba_eq, decide_eq_true exy]
    have HN : Hid (∀ w', Below w.heap.size w w' → DiffAt ([], 0) w (.returned (.tuple #[.slice none 0 0, .int .i64 0])) w') := fun w' hb => DiffAt.nil 0 hb
    clear HH HD h hK exy
    go_enter Tryz.func32, Tryz.ntmps32
    go_wp2_with fail
    go_ret2
    exact HN.out _ hA
  rw [if_neg exy]
  have z1 : (x.toList == y.toList) = false := by rw [ba_eq, decide_eq_false exy]
  have HV := fun w' => validPool_any n a ss.length c w' h.le
  cases hp : poolOk n ss.length with
  | false =>
    rw [rangeM_bad (by rw [hp]; rfl), rangeM_bad (by rw [hp]; rfl)]
    rw [hp] at HV
    have HP : Hid (∀ w', Below w.heap.size w w' → DiffAt (diffR ([], 1) ([], 1)) w (.returned (.tuple #[.slice none 0 0, .int .i64 1])) w') := fun w' hb => DiffAt.nil 1 hb
    generalize diffR ([], 1) ([], 1) = XX at HP ⊢
    clear HH HD h hK
    go_enter Tryz.func32, Tryz.ntmps32
    go_wp2_with (first | (go_at_call 51; refine (HV _).mono ?_; rintro e w1 ⟨rfl, hb1⟩))
    go_ret2
    exact HP.out _ (hA.trans (hb1.mono hA.size))
  | true =>
    rw [hp] at HV
    have hp' : 1 ≤ n ∧ n ≤ 32 ∧ ss.length ≤ 20000 := of_decide_eq_true hp
    obtain ⟨wd, rfl⟩ : ∃ wd : Nat, n = (wd : Int) := ⟨n.toNat, by omega⟩
    have hfo := fndD_ok D wd ss (hdo wd rfl)
    rw [Int.toNat_natCast]
    have lx : Lok (rangeM (fndD D wd ss) (wd : Int) ss.length x ⟨#[]⟩ ⟨#[]⟩) := rangeM_small hfo _ _ _ _ _
    have ly : Lok (rangeM (fndD D wd ss) (wd : Int) ss.length y ⟨#[]⟩ ⟨#[]⟩) := rangeM_small hfo _ _ _ _ _
    have HS : Hid (∀ w', Below w.heap.size w w' → Calls Tryz.prog 53 #[.agg #[.int .i64 (wd : Int), .slice a ss.length c]] w' fun e w'' => ∃ sb r a' c', e = .returned (.pointer (some ⟨sb, 0, none⟩)) ∧ StockAt sb r (sb + 1) wd ss a' c' w'' ∧ Below w'.heap.size w' w'') := fun w' hb => stockOf_any HH (fun w1 w2 h1 hb => KT.below h1 hb) wd a ss c w' (h.below hb) (hK.below hb) (by omega)
    have HL : ∀ (root : ByteArray) (w1 : World) (sb r : Nat) (a' : Option Addr) (c' : Nat), root.size ≤ 1048576 → Below w.heap.size w w1 → StockAt sb r (sb + 1) wd ss a' c' w1 → Calls Tryz.prog 52 #[.pointer (some ⟨sb, 0, none⟩), .string root] w1 (RangeAt (rangeM (fndD D wd ss) (wd : Int) ss.length root ⟨#[]⟩ ⟨#[]⟩) w1) := fun root w1 sb r a' c' hr hb1 hs => by
      rw [rangeM_pw hp]
      exact ld_any (fndD D wd ss) wd hfo sb root _ _ w1 hs.blk hr (fun hash w' hh hb' => stockFind_any D sb r (sb + 1) wd (HD.out wd rfl (by omega) (by omega)) ss a' c' hash w' (hs.below hb') h.sz (by have := h.le; omega) (by omega) hh) (fun k w' hk hb' => rank_any k w' (by unfold okKey at hk; have := of_decide_eq_true hk; omega) ((hK.below hb1).below hb'))
    have HW : Hid (∀ w1 sb r a' c', Below w.heap.size w w1 → StockAt sb r (sb + 1) wd ss a' c' w1 → Calls Tryz.prog 86 #[.pointer (some ⟨sb, 0, none⟩), .string x, .string y] w1 (DiffAt (diffR (rangeM (fndD D wd ss) (wd : Int) ss.length x ⟨#[]⟩ ⟨#[]⟩) (rangeM (fndD D wd ss) (wd : Int) ss.length y ⟨#[]⟩ ⟨#[]⟩)) w1)) := fun w1 sb r a' c' hb1 hs =>
      diff_any _ _ x y sb w1 lx ly (fun w' hb' => HL x w' sb r a' c' hx (hb1.trans (hb'.mono hb1.size)) (hs.below hb')) (fun w' hb' => HL y w' sb r a' c' hy (hb1.trans (hb'.mono hb1.size)) (hs.below hb'))
    generalize diffR (rangeM (fndD D wd ss) (wd : Int) ss.length x ⟨#[]⟩ ⟨#[]⟩) (rangeM (fndD D wd ss) (wd : Int) ss.length y ⟨#[]⟩ ⟨#[]⟩) = X at HW ⊢
    have nA := heap_alloc_new w (.cells #[.int .i64 (wd : Int), .slice a ss.length c] 29)
    clear HH HD h hK hp hp' HL lx ly hfo
    go_enter Tryz.func32, Tryz.ntmps32
    go_wp2_with (first | (go_at_call 51; refine (HV _).mono ?_; rintro e w1 ⟨rfl, hb1⟩; have nA1 := (hb1.block w.heap.size (by simp)).trans nA; have d0 := Lib.cell_of_heap nA1 0; have d1 := Lib.cell_of_heap nA1 1; clear nA1; replace hb1 := hA.trans (hb1.mono hA.size)) | (go_at_call 53; refine (HS.out _ hb1).mono ?_; rintro e w2 ⟨sb, r, a2, c2, rfl, hs2, hb2⟩; replace hb2 := hb1.trans (hb2.mono hb1.size)) | (go_at_call 86; refine (HW.out _ _ _ _ _ hb2 hs2).mono ?_; intro e w3 hR3; obtain ⟨a3, c3, rfl, hR3⟩ := hR3.up hb2))
    go_ret2
    exact hR3
end Go.Proofs.YtmoajibmbppkjaeGreatDoor
namespace Go.Proofs.YtmoajibmbppkjaeGreatDoor
open Go.RowKit Go.Proofs.Sha

theorem DiffAt.nil2 {w w' : World} {g : Nat} (x : Int) (hg : w.heap.size ≤ g) (hn : w'.heap[g]? = some (.cells #[] 115)) (hb : Below w.heap.size w w') : DiffAt ([], x) w (.returned (.tuple #[.slice (some ⟨g, 0, none⟩) 0 0, .int .i64 x])) w' :=
  ⟨some ⟨g, 0, none⟩, 0, rfl, ⟨⟨rfl, .inr ⟨g, 0, #[], rfl, hg, hn, by simp [flatC]⟩⟩, hb, rfl⟩⟩
set_option maxRecDepth 100000 in
set_option maxHeartbeats 1000000 in
theorem sdiff_any (A B : List PairT × Int) (n : Int) (a : Option Addr) (m c : Nat) (x y : ByteArray) (w : World) (hA : x ≠ y → Lok A ∧ Lok B ∧ Bd A.1 ∧ Bd B.1 ∧ KeysUp (keys A.1) ∧ KeysUp (keys B.1))
    (H1 : Hid (x ≠ y → ∀ w', Below w.heap.size w w' → Calls Tryz.prog 10 #[.agg #[.int .i64 n, .slice a m c], .string x] w' (RangeAt A w')))
    (H2 : Hid (x ≠ y → ∀ w', Below w.heap.size w w' → Calls Tryz.prog 10 #[.agg #[.int .i64 n, .slice a m c], .string y] w' (RangeAt B w'))) :
    Calls Tryz.prog 31 #[.agg #[.int .i64 n, .slice a m c], .string x, .string y] w (DiffAt (if x = y then ([], 0) else diffR A B) w) := by
  have hW : Below w.heap.size w ((w.alloc (.cells #[.int .i64 n, .slice a m c] 29)).alloc (.cells #[] 115)) := ((Below.refl _ _).alloc (Nat.le_refl _) _).alloc (by simp) _
  have nZ := heap_alloc_new (w.alloc (.cells #[.int .i64 n, .slice a m c] 29)) (.cells #[] 115)
  have nA := (Below.heap_alloc (w.alloc (.cells #[.int .i64 n, .slice a m c] 29)) (.cells #[] 115) w.heap.size (by simp)).trans (heap_alloc_new w (.cells #[.int .i64 n, .slice a m c] 29))
  rw [World.size_alloc] at nZ
  have HZ : Hid (∀ (v : Int) w', Below ((w.alloc (.cells #[.int .i64 n, .slice a m c] 29)).alloc (.cells #[] 115)).heap.size ((w.alloc (.cells #[.int .i64 n, .slice a m c] 29)).alloc (.cells #[] 115)) w' → DiffAt ([], v) w (.returned (.tuple #[.slice (some ⟨w.heap.size + 1, 0, none⟩) 0 0, .int .i64 v])) w') := fun v w' hb => DiffAt.nil2 v (by omega) ((hb.block _ (Array.getElem?_eq_some_iff.1 nZ).1).trans nZ) (hW.trans (hb.mono hW.size))
  by_cases exy : x = y
  · rw [if_pos exy]
    have z1 : (x.toList == y.toList) = true := by rw [ba_eq, decide_eq_true exy]
    have HF := HZ.out 0 _ (Below.refl _ _)
    replace HF : Hid _ := HF
    clear H1 H2 exy hA
    go_enter Tryz.func31, Tryz.ntmps31
    go_wp2_with fail
    go_ret2
    exact HF.out
  rw [if_neg exy]
  obtain ⟨lA, lB, bA, bB, kA, kB⟩ := hA exy
  have H1' := H1.out exy
  have H2' := H2.out exy
  replace H1' : Hid _ := H1'
  replace H2' : Hid _ := H2'
  have z1 : (x.toList == y.toList) = false := by rw [ba_eq, decide_eq_false exy]
  have HC : Hid (∀ W', Below ((w.alloc (.cells #[.int .i64 n, .slice a m c] 29)).alloc (.cells #[] 115)).heap.size ((w.alloc (.cells #[.int .i64 n, .slice a m c] 29)).alloc (.cells #[] 115)) W' → W'.cell? ⟨w.heap.size, 0, none⟩ = some (.int .i64 n) ∧ W'.cell? ⟨w.heap.size, 1, none⟩ = some (.slice a m c)) := fun W' hb => by
    have x1 := (hb.block _ (Array.getElem?_eq_some_iff.1 nA).1).trans nA
    exact ⟨Lib.cell_of_heap x1 0, Lib.cell_of_heap x1 1⟩
  clear H1 H2 exy hA nZ nA
  obtain ⟨P, u⟩ := A
  obtain ⟨Q, v⟩ := B
  unfold diffR
  simp only
  generalize hWW : (w.alloc (.cells #[.int .i64 n, .slice a m c] 29)).alloc (.cells #[] 115) = W0 at HZ HC hW
  have hWH : Hid ((w.alloc (.cells #[.int .i64 n, .slice a m c] 29)).alloc (.cells #[] 115) = W0) := hWW
  clear hWW
  by_cases hu : u = 0
  · subst hu
    rw [if_neg (by simp)]
    by_cases hv : v = 0
    · subst hv
      rw [if_neg (by simp)]
      have HB : Hid (∀ w1 w2 a1 c1 a2 c2, w1.ownsRow W0.heap.size 46 2 (.slice a1 P.length c1) P.length (flatP P) → Below w1.heap.size w1 w2 → w2.ownsRow w1.heap.size 46 2 (.slice a2 Q.length c2) Q.length (flatP Q) → Calls Tryz.prog 85 #[.slice a1 P.length c1, .slice a2 Q.length c2] w2 (ChAt (chg P Q) w2)) := fun w1 w2 a1 c1 a2 c2 ho1 hb2 ho2 => by
        rw [← chg_uni kA kB]
        exact changes_any a1 a2 P Q c1 c2 w2 ((own_parg ho1 lA.2).below hb2) (own_parg ho2 lB.2) lA.1 lB.1 bA bB
      have HF : Hid (∀ w2 w3 a3 c3, Below w.heap.size w w2 → OwnC w2 (chg P Q) a3 (chg P Q).length c3 w3 → DiffAt (chg P Q, 0) w (.returned (.tuple #[.slice a3 (chg P Q).length c3, .int .i64 0])) w3) := fun w2 w3 a3 c3 hb ho => ⟨a3, c3, rfl, ho.up hb⟩
      clear kA kB
      generalize chg P Q = CH at HB HF ⊢
      go_enter Tryz.func31, Tryz.ntmps31
      go_upto_region 4 with fail
      rw [hWH.out]
      obtain ⟨c0, c1⟩ := HC.out _ (Below.refl _ _)
      go_wp2_with fail
      refine (H1'.out _ hW).mono ?_
      rintro e w1 ⟨⟨a1, d1, rfl, ho1⟩, hb1⟩
      simp only at ho1
      have hb01 := hW.trans (hb1.mono hW.size)
      obtain ⟨c0', c1'⟩ := HC.out _ hb1
      go_wp2_with fail
      refine (H2'.out _ hb01).mono ?_
      rintro e w2 ⟨⟨a2, d2, rfl, ho2⟩, hb2⟩
      simp only at ho2
      have hb12 := hb01.trans (hb2.mono hb01.size)
      have HB' := HB.out w1 w2 a1 d1 a2 d2 ho1 hb2 ho2
      go_wp2_with (first | (go_at_call 85; refine HB'.mono ?_; rintro e w3 ⟨a3, c3, rfl, ho3⟩))
      go_ret2
      exact HF.out _ _ _ _ hb12 ho3
    · rw [if_pos hv]
      have z2 : (v == 0) = false := by simpa using hv
      go_enter Tryz.func31, Tryz.ntmps31
      go_upto_region 4 with fail
      rw [hWH.out]
      obtain ⟨c0, c1⟩ := HC.out _ (Below.refl _ _)
      go_wp2_with fail
      refine (H1'.out _ hW).mono ?_
      rintro e w1 ⟨⟨a1, d1, rfl, ho1⟩, hb1⟩
      have hb01 := hW.trans (hb1.mono hW.size)
      obtain ⟨c0', c1'⟩ := HC.out _ hb1
      go_wp2_with fail
      refine (H2'.out _ hb01).mono ?_
      rintro e w2 ⟨⟨a2, d2, rfl, ho2⟩, hb2⟩
      have HF := HZ.out v _ (hb1.trans (hb2.mono hb1.size))
      replace HF : Hid _ := HF
      go_wp2_with fail
      go_ret2
      exact HF.out
  · rw [if_pos hu]
    have z2 : (u == 0) = false := by simpa using hu
    go_enter Tryz.func31, Tryz.ntmps31
    go_upto_region 4 with fail
    rw [hWH.out]
    obtain ⟨c0, c1⟩ := HC.out _ (Below.refl _ _)
    go_wp2_with fail
    refine (H1'.out _ hW).mono ?_
    rintro e w1 ⟨⟨a1, d1, rfl, ho1⟩, hb1⟩
    have HF := HZ.out u _ hb1
    replace HF : Hid _ := HF
    go_wp2_with fail
    go_ret2
    exact HF.out
end Go.Proofs.YtmoajibmbppkjaeGreatDoor
namespace Go.Proofs.YtmoajibmbppkjaeGreatDoor
open Go.RowKit Go.Proofs.Sha

/-- A row of changes, or nothing. -/
def CRow (w : World) (base : Nat) (a : Option Addr) (n : Nat) (xs : List Value) : Prop := n = 0 ∨ ∃ g, a = some ⟨g, 0, none⟩ ∧ Row w base g (n * 5) (n * 5) xs
theorem own_crow {w : World} {base n c : Nat} {a : Option Addr} {xs : List Value} (h : w.ownsRow base 115 5 (.slice a n c) n xs) : CRow w base a n xs := by
  by_cases hn : n = 0
  · exact .inl hn
  · right
    rcases h.2 with ⟨e, h0⟩ | ⟨g, cap, cur, e, hb, hg, q1, q2, q3, q4⟩
    · omega
    · simp only [Value.slice.injEq, true_and] at e
      obtain ⟨rfl, rfl⟩ := e
      refine ⟨g, rfl, hb, (Array.getElem?_eq_some_iff.1 hg).1, by have := h.1; omega, Nat.le_refl _, fun j hj => ?_, fun j hj => ?_, fun j _ => ?_⟩
      · rw [cell_of_row w g j cur 115 (0, 0) hg, ← q4, List.getElem?_take, if_pos (by omega)]; simp
      · rw [cell_of_row w g j cur 115 (0, 0) hg, Array.getElem?_eq_getElem (by omega)]; rfl
      · rw [World.frozen?, hg]; rfl
theorem CRow.below {w w' : World} {base n : Nat} {a : Option Addr} {xs : List Value} (h : CRow w base a n xs) (hb : Below w.heap.size w w') : CRow w' base a n xs := by
  rcases h with h | ⟨g, h1, h2⟩
  · exact .inl h
  · exact .inr ⟨g, h1, h2.below hb⟩
theorem CRow.grown {w w' : World} {base n : Nat} {a : Option Addr} {xs : List Value} {row : Option Nat} (h : CRow w base a n xs) (hg : w.grownBy w' row) (hn : ∀ g, a = some ⟨g, 0, none⟩ → 0 < n → some g ≠ row) : CRow w' base a n xs := by
  by_cases h0 : n = 0
  · exact .inl h0
  · rcases h with h | ⟨g, h1, h2⟩
    · exact absurd h h0
    · exact .inr ⟨g, h1, h2.kept hg (hn g h1 (by omega))⟩
theorem flatC_get : ∀ (l : List ChT) (k : Nat) (x : ChT), l[k]? = some x → ∀ i v, (chL x)[i]? = some v → (flatC l)[k * 5 + i]? = some v
  | [], _, _, h, _, _, _ => by simp at h
  | y :: l, 0, x, h, i, v, hv => by
    obtain rfl : y = x := by simpa using h
    have hi : i < 5 := (List.getElem?_eq_some_iff.1 hv).1
    rw [flatC, List.getElem?_append_left (by show _ < 5; omega)]
    simpa using hv
  | y :: l, k + 1, x, h, i, v, hv => by
    have hx : l[k]? = some x := by simpa using h
    rw [flatC, List.getElem?_append_right (by show 5 ≤ _; omega), show (k + 1) * 5 + i - (chL y).length = k * 5 + i from by show (k + 1) * 5 + i - 5 = _; omega]
    exact flatC_get l k x hx i v hv
set_option maxRecDepth 100000 in
theorem eqChange_any (x0 x2 x4 : ByteArray) (x1 x3 : Bool) (w : World) : Calls Tryz.prog 87 #[.agg #[.string x0, .bool x1, .string x2, .bool x3, .string x4], .agg #[.string x0, .bool x1, .string x2, .bool x3, .string x4]] w fun e w' => e = .returned (.bool true) ∧ Below w.heap.size w w' := by
  have hb : Below w.heap.size w ((w.alloc (.cells #[.string x0, .bool x1, .string x2, .bool x3, .string x4] 115)).alloc (.cells #[.string x0, .bool x1, .string x2, .bool x3, .string x4] 115)) := ((Below.refl _ _).alloc (Nat.le_refl _) _).alloc (by simp) _
  go_enter Tryz.func87, Tryz.ntmps87
  go_wp2_with fail
  go_ret
  exact ⟨rfl, hb⟩
set_option maxRecDepth 100000 in
set_option maxHeartbeats 1000000 in
theorem eqChangeS_any (a b : Option Addr) (xs : List ChT) (c d : Nat) (base base' : Nat) (w : World) (hl : xs.length ≤ 1000) (h : CRow w base a xs.length (flatC xs)) (h' : CRow w base' b xs.length (flatC xs)) :
    Calls Tryz.prog 33 #[.slice a xs.length c, .slice b xs.length d] w fun e w' => e = .returned (.bool true) ∧ Below w.heap.size w w' := by
  obtain ⟨N, hN⟩ : ∃ N, xs.length = N := ⟨_, rfl⟩
  rw [hN] at hl ⊢ h h'
  have hNl : Hid (xs.length = N) := hN
  clear hN
  go_enter Tryz.func33, Tryz.ntmps33
  go_wp2_with fail
  go_loopw [5] (fun t wr => ∃ k : Nat, k ≤ N ∧ t = .int .i64 (k : Int) ∧ Below w.heap.size w wr) (fun t _ => N - (intOf t).toNat)
  case atStart => exact ⟨0, Nat.zero_le _, rfl, Below.refl _ _⟩
  case round =>
    obtain ⟨k, hk, rfl, hbw⟩ := hrel
    by_cases hlt : k < N
    · have z1 : decide ((k : Int) < (N : Int)) = true := by simp; omega
      have hx0 : (0 : Int) ≤ (k : Int) := Int.natCast_nonneg _
      have hx1 : (k : Int) < (N : Int) := by omega
      rcases h.below hbw with h0 | ⟨g1, rfl, r1⟩
      · omega
      rcases h'.below hbw with h0 | ⟨g2, rfl, r2⟩
      · omega
      obtain ⟨x, hx⟩ : ∃ x, xs[k]? = some x := ⟨_, List.getElem?_eq_getElem (by rw [hNl.out]; exact hlt)⟩
      have hg := flatC_get xs k x hx
      have hl1 := r1.lt
      have hl2 := r2.lt
      obtain ⟨x0, x1, x2, x3, x4⟩ := x
      have HC : Hid (∀ W, Below wr.heap.size wr W → W.cell? ⟨g1, k * 5, none⟩ = some (.string x0) ∧ W.cell? ⟨g1, k * 5 + 1, none⟩ = some (.bool x1) ∧ W.cell? ⟨g1, k * 5 + 2, none⟩ = some (.string x2) ∧ W.cell? ⟨g1, k * 5 + 3, none⟩ = some (.bool x3) ∧ W.cell? ⟨g1, k * 5 + 4, none⟩ = some (.string x4) ∧ W.cell? ⟨g2, k * 5, none⟩ = some (.string x0) ∧ W.cell? ⟨g2, k * 5 + 1, none⟩ = some (.bool x1) ∧ W.cell? ⟨g2, k * 5 + 2, none⟩ = some (.string x2) ∧ W.cell? ⟨g2, k * 5 + 3, none⟩ = some (.bool x3) ∧ W.cell? ⟨g2, k * 5 + 4, none⟩ = some (.string x4)) := fun W hW => by
        have q1 := r1.below hW
        have q2 := r2.below hW
        exact ⟨(q1.cell _ (by omega)).trans (hg 0 _ rfl), (q1.cell _ (by omega)).trans (hg 1 _ rfl), (q1.cell _ (by omega)).trans (hg 2 _ rfl), (q1.cell _ (by omega)).trans (hg 3 _ rfl), (q1.cell _ (by omega)).trans (hg 4 _ rfl), (q2.cell _ (by omega)).trans (hg 0 _ rfl), (q2.cell _ (by omega)).trans (hg 1 _ rfl), (q2.cell _ (by omega)).trans (hg 2 _ rfl), (q2.cell _ (by omega)).trans (hg 3 _ rfl), (q2.cell _ (by omega)).trans (hg 4 _ rfl)⟩
      have HE := fun w' => eqChange_any x0 x2 x4 x1 x3 w'
      clear hg hx r1 r2
      go_wp2_with fail
      go_region_held3 (fun W => W.cell? ⟨g1, k * 5, none⟩ = some (.string x0) ∧ W.cell? ⟨g1, k * 5 + 1, none⟩ = some (.bool x1) ∧ W.cell? ⟨g1, k * 5 + 2, none⟩ = some (.string x2) ∧ W.cell? ⟨g1, k * 5 + 3, none⟩ = some (.bool x3) ∧ W.cell? ⟨g1, k * 5 + 4, none⟩ = some (.string x4) ∧ W.cell? ⟨g2, k * 5, none⟩ = some (.string x0) ∧ W.cell? ⟨g2, k * 5 + 1, none⟩ = some (.bool x1) ∧ W.cell? ⟨g2, k * 5 + 2, none⟩ = some (.string x2) ∧ W.cell? ⟨g2, k * 5 + 3, none⟩ = some (.bool x3) ∧ W.cell? ⟨g2, k * 5 + 4, none⟩ = some (.string x4)) (first | exact HC.out _ (Below.refl _ _).drew | exact HC.out _ hb1) (first | (go_at_call 87; refine (HE _).mono ?_; rintro e w1 ⟨rfl, hb1'⟩; have hb1 : Below wr.heap.size wr w1 := (Below.refl wr.heap.size wr).drew.trans hb1'))
      go_wp2_with fail
      go_roundw
      case rel => exact ⟨k + 1, hlt, by go_num, hbw.trans (hb1.mono hbw.size)⟩
      case measure => simp [intOf]; omega
    · obtain rfl : k = N := by omega
      have z1 : decide ((k : Int) < (k : Int)) = false := by simp
      go_wp2_with fail
      go_ret
      exact ⟨rfl, hbw⟩
end Go.Proofs.YtmoajibmbppkjaeGreatDoor
namespace Go.Proofs.YtmoajibmbppkjaeGreatDoor
open Go.RowKit Go.Proofs.Sha

/-- The mark of a cell. -/
def mkV (M : Nat → ByteArray) (k0 j : Nat) : Value := if j % 5 = 1 ∨ j % 5 = 3 then .bool (((k0 + j : Nat) : Int) % 3 == 0) else .string (M (k0 + j))
def marksC (M : Nat → ByteArray) (k0 n : Nat) : List Value := (List.range n).map (mkV M k0)
theorem marksC_at (M : Nat → ByteArray) (k0 n k : Nat) (h : k < (marksC M k0 n).length) : (marksC M k0 n)[k] = mkV M k0 k := by simp [marksC]
theorem marksC_len (M : Nat → ByteArray) (k0 n : Nat) : (marksC M k0 n).length = n := by simp [marksC]
theorem mkV_s (M : Nat → ByteArray) (k0 k i : Nat) (hi : i = 0 ∨ i = 2 ∨ i = 4) : mkV M k0 (k * 5 + i) = .string (M (k0 + (k * 5 + i))) := by
  unfold mkV
  rw [if_neg (by omega)]
theorem mkV_b (M : Nat → ByteArray) (k0 k i : Nat) (hi : i = 1 ∨ i = 3) : mkV M k0 (k * 5 + i) = .bool (((k0 + (k * 5 + i) : Nat) : Int) % 3 == 0) := by
  unfold mkV
  rw [if_pos (by omega)]
set_option maxRecDepth 100000 in
set_option maxHeartbeats 1000000 in
theorem markC_row (M : Nat → ByteArray) (HM : Hid (MarkSaid M)) (base g n c k0 : Nat) (xs : List Value) (w : World) (h : Row w base g (n * 5) (n * 5) xs) (h1 : 1 ≤ k0) (h2 : k0 + n * 5 ≤ 4000000) :
    Calls Tryz.prog 34 #[.slice (some ⟨g, 0, none⟩) n c, .int .i64 (k0 : Int)] w fun e w' => e = .returned (.int .i64 ((k0 + n * 5 : Nat) : Int)) ∧ Row w' base g (n * 5) (n * 5) (marksC M k0 (n * 5)) ∧ w.grownBy w' (some g) := by
  have hxl := h.len
  obtain ⟨Y, hY⟩ : ∃ Y, marksC M k0 (n * 5) = Y := ⟨_, rfl⟩
  have hYl : Y.length = n * 5 := by rw [← hY, marksC_len]
  have HYa : Hid (∀ k (hk : k < Y.length), Y[k] = mkV M k0 k) := by subst hY; exact fun k hk => marksC_at M k0 (n * 5) k hk
  rw [hY]
  clear hY
  obtain ⟨z, hz⟩ : ∃ z : Int, ((k0 + n * 5 : Nat) : Int) = z := ⟨_, rfl⟩
  rw [hz]
  have HZ : Hid (((k0 + n * 5 : Nat) : Int) = z) := hz
  clear hz
  go_enter Tryz.func34, Tryz.ntmps34
  go_wp2_with fail
  go_loopw [1, 5] (fun t1 t5 wr => ∃ k : Nat, k ≤ n ∧ t1 = .int .i64 ((k0 + k * 5 : Nat) : Int) ∧ t5 = .int .i64 (k : Int) ∧ Row wr base g (n * 5) (n * 5) (partV Y xs (k * 5)) ∧ w.grownBy wr (some g)) (fun _ t5 _ => n - (intOf t5).toNat)
  case atStart => exact ⟨0, Nat.zero_le _, rfl, rfl, by unfold partV; simpa using h, grownBy_refl _ _⟩
  case round =>
    obtain ⟨k, hk, rfl, rfl, hrow, hgr⟩ := hrel
    by_cases hlt : k < n
    · have z1 : decide ((k : Int) < (n : Int)) = true := by simp; omega
      have hx0 : (0 : Int) ≤ (k : Int) := Int.natCast_nonneg _
      have hx1 : (k : Int) < (n : Int) := by omega
      have HK : ∀ i, i ≤ 4 → ∀ w', Calls Tryz.prog 57 #[.int .i64 ((k0 + (k * 5 + i) : Nat) : Int)] w' fun e w'' => e = .returned (.string (M (k0 + (k * 5 + i)))) ∧ Below w'.heap.size w' w'' := fun i hi w' => HM.out (k0 + (k * 5 + i)) (by omega) (by omega) w'
      have hset : ∀ i, i ≤ 4 → (partV Y xs (k * 5 + i)).set (k * 5 + i) (mkV M k0 (k * 5 + i)) = partV Y xs (k * 5 + (i + 1)) := fun i hi => partV_set Y xs (k * 5 + i) (by omega) (by omega) _ (HYa.out (k * 5 + i) (by omega))
      have s0 : Hid ((partV Y xs (k * 5)).set (k * 5) (.string (M (k0 + k * 5))) = partV Y xs (k * 5 + 1)) := by have := hset 0 (by omega); rw [mkV_s M k0 k 0 (.inl rfl)] at this; exact this
      have s1 := hset 1 (by omega)
      have s2 := hset 2 (by omega)
      have s3 := hset 3 (by omega)
      have s4 := hset 4 (by omega)
      rw [mkV_b M k0 k 1 (.inl rfl)] at s1
      rw [mkV_s M k0 k 2 (.inr (.inl rfl))] at s2
      rw [mkV_b M k0 k 3 (.inr rfl)] at s3
      rw [mkV_s M k0 k 4 (.inr (.inr rfl))] at s4
      have K0 := HK 0 (by omega)
      have K2 := HK 2 (by omega)
      have K4 := HK 4 (by omega)
      rw [show k0 + (k * 5 + 0) = k0 + k * 5 from rfl] at K0
      rw [show k0 + (k * 5 + 2) = k0 + k * 5 + 2 from rfl] at K2 s2
      rw [show k0 + (k * 5 + 4) = k0 + k * 5 + 4 from rfl] at K4 s4
      rw [show k0 + (k * 5 + 1) = k0 + k * 5 + 1 from rfl] at s1
      rw [show k0 + (k * 5 + 3) = k0 + k * 5 + 3 from rfl] at s3
      obtain ⟨p, hp⟩ : ∃ p : Nat, k0 + k * 5 = p := ⟨_, rfl⟩
      rw [hp] at K0 K2 K4 s0 s1 s2 s3 s4 ⊢
      rw [show ((p + 2 : Nat) : Int) = (p : Int) + 1 + 1 by omega] at K2
      rw [show ((p + 4 : Nat) : Int) = (p : Int) + 1 + 1 + 1 + 1 by omega] at K4
      rw [show ((p + 1 : Nat) : Int) = (p : Int) + 1 by omega] at s1
      rw [show ((p + 3 : Nat) : Int) = (p : Int) + 1 + 1 + 1 by omega] at s3
      have hpb : p ≤ 4000000 := by omega
      have hpn : Hid (k0 + (k + 1) * 5 = p + 1 + 1 + 1 + 1 + 1) := by show _ = _; omega
      generalize M p = X0 at *
      generalize M (p + 2) = X2 at *
      generalize M (p + 4) = X4 at *
      replace s1 : Hid _ := s1
      replace s2 : Hid _ := s2
      replace s3 : Hid _ := s3
      replace s4 : Hid _ := s4
      replace K0 : Hid _ := K0
      replace K2 : Hid _ := K2
      replace K4 : Hid _ := K4
      clear hp HK hset
      go_wp2_with fail
      refine (K0.out _).mono ?_
      rintro e w1 ⟨rfl, hb1⟩
      have hrow1 := hrow.below hb1
      have r1 := hrow1.set (k * 5) (by omega) (Value.string X0)
      rw [s0.out] at r1
      have f0 := hrow1.free (k * 5) (by omega)
      obtain ⟨y0, hy0⟩ := Option.isSome_iff_exists.1 (hrow1.room (k * 5) (by omega))
      have f1 := r1.free (k * 5 + 1) (by omega)
      obtain ⟨y1, hy1⟩ := Option.isSome_iff_exists.1 (r1.room (k * 5 + 1) (by omega))
      have r2 := r1.set (k * 5 + 1) (by omega) (Value.bool (((p : Int) + 1) % 3 == 0))
      rw [s1.out] at r2
      go_upto_region 8 with fail
      have HV : w1.grownBy ((w1.setCell ⟨g, k * 5, none⟩ (.string X0)).setCell ⟨g, k * 5 + 1, none⟩ (.bool (((p : Int) + 1) % 3 == 0))) (some g) := grownBy_trans (grownBy_setCell _ _ _ _) (grownBy_setCell _ _ _ _)
      generalize (w1.setCell ⟨g, k * 5, none⟩ (.string X0)).setCell ⟨g, k * 5 + 1, none⟩ (.bool (((p : Int) + 1) % 3 == 0)) = V2 at r2 HV ⊢
      go_wp2_with fail
      refine (K2.out _).mono ?_
      rintro e w2 ⟨rfl, hb2⟩
      have r2' := r2.below hb2
      have r3 := r2'.set (k * 5 + 2) (by omega) (Value.string X2)
      rw [s2.out] at r3
      have f2 := r2'.free (k * 5 + 2) (by omega)
      obtain ⟨y2, hy2⟩ := Option.isSome_iff_exists.1 (r2'.room (k * 5 + 2) (by omega))
      have f3 := r3.free (k * 5 + 3) (by omega)
      obtain ⟨y3, hy3⟩ := Option.isSome_iff_exists.1 (r3.room (k * 5 + 3) (by omega))
      have r4 := r3.set (k * 5 + 3) (by omega) (Value.bool (((p : Int) + 1 + 1 + 1) % 3 == 0))
      rw [s3.out] at r4
      go_upto_region 12 with fail
      have HV4 : w2.grownBy ((w2.setCell ⟨g, k * 5 + 2, none⟩ (.string X2)).setCell ⟨g, k * 5 + 3, none⟩ (.bool (((p : Int) + 1 + 1 + 1) % 3 == 0))) (some g) := grownBy_trans (grownBy_setCell _ _ _ _) (grownBy_setCell _ _ _ _)
      generalize (w2.setCell ⟨g, k * 5 + 2, none⟩ (.string X2)).setCell ⟨g, k * 5 + 3, none⟩ (.bool (((p : Int) + 1 + 1 + 1) % 3 == 0)) = V4 at r4 HV4 ⊢
      go_wp2_with fail
      refine (K4.out _).mono ?_
      rintro e w3 ⟨rfl, hb3⟩
      have r4' := r4.below hb3
      have f4 := r4'.free (k * 5 + 4) (by omega)
      obtain ⟨y4, hy4⟩ := Option.isSome_iff_exists.1 (r4'.room (k * 5 + 4) (by omega))
      have r5 := r4'.set (k * 5 + 4) (by omega) (Value.string X4)
      rw [s4.out] at r5
      clear f0 hy0 f1 hy1 f2 hy2 f3 hy3
      go_wp2_with fail
      go_roundw
      case rel =>
        exact ⟨k + 1, hlt, by rw [hpn.out]; rfl, rfl, by rw [show (k + 1) * 5 = k * 5 + (4 + 1) by omega]; exact r5, grownBy_trans hgr (grownBy_trans (grownBy_of_below hb1 _) (grownBy_trans HV (grownBy_trans (grownBy_of_below hb2 _) (grownBy_trans HV4 (grownBy_trans (grownBy_of_below hb3 _) (grownBy_setCell _ _ _ _))))))⟩
      case measure => simp [intOf]; omega
    · obtain rfl : k = n := by omega
      have z1 : decide ((k : Int) < (k : Int)) = false := by simp
      have hfin : Row wr base g (k * 5) (k * 5) Y := by
        have : partV Y xs (k * 5) = Y := by unfold partV; rw [List.take_of_length_le (by omega), List.drop_of_length_le (by omega), List.append_nil]
        rw [this] at hrow; exact hrow
      rw [HZ.out]
      go_wp2_with fail
      go_ret
      exact ⟨rfl, hfin, hgr⟩
set_option maxRecDepth 100000 in
theorem markC_zero (a : Option Addr) (c k0 : Nat) (w : World) : Calls Tryz.prog 34 #[.slice a 0 c, .int .i64 (k0 : Int)] w fun e w' => e = .returned (.int .i64 (k0 : Int)) ∧ w = w' := by
  go_enter Tryz.func34, Tryz.ntmps34
  go_wp2_with fail
  go_loopw [1, 5] (fun t1 t5 wr => t1 = .int .i64 (k0 : Int) ∧ t5 = .int .i64 0 ∧ w = wr) (fun _ _ _ => 0)
  case atStart => exact ⟨rfl, rfl, rfl⟩
  case round =>
    obtain ⟨rfl, rfl, rfl⟩ := hrel
    go_wp2_with fail
    go_ret
    exact ⟨rfl, by first | rfl | trivial⟩
theorem markC_any (M : Nat → ByteArray) (HM : Hid (MarkSaid M)) (base n c k0 : Nat) (a : Option Addr) (xs : List Value) (w : World) (h : CRow w base a n xs) (h1 : 1 ≤ k0) (h2 : k0 + n * 5 ≤ 4000000) :
    Calls Tryz.prog 34 #[.slice a n c, .int .i64 (k0 : Int)] w fun e w' => e = .returned (.int .i64 ((k0 + n * 5 : Nat) : Int)) ∧ CRow w' base a n (marksC M k0 (n * 5)) ∧ w.grownBy w' (if n = 0 then none else (Value.slice a n c).ownBlock) := by
  by_cases hn : n = 0
  · subst hn
    refine (markC_zero a c k0 w).mono ?_
    rintro e w' ⟨rfl, rfl⟩
    exact ⟨rfl, .inl rfl, grownBy_refl _ _⟩
  · rcases h with h | ⟨g, rfl, hr⟩
    · exact absurd h hn
    · refine (markC_row M HM base g n c k0 xs w hr h1 h2).mono ?_
      rintro e w' ⟨rfl, q1, q2⟩
      rw [if_neg hn]
      exact ⟨rfl, .inr ⟨g, rfl, q1⟩, q2⟩
end Go.Proofs.YtmoajibmbppkjaeGreatDoor
