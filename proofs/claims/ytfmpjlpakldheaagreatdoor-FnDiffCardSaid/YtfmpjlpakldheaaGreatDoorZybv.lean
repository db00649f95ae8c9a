import Derived.Test.YtfmpjlpakldheaaGreatDoorZybu
namespace Go.Proofs.YtfmpjlpakldheaaGreatDoor
open Go.RowKit Go.Proofs.Sha

def lenV : Value → Nat
  | .slice _ n _ => n
  | _ => 0
theorem PArg.tail {b off : Nat} {p : PairT} {P : List PairT} {w : World} (h : PArg (some ⟨b, off, none⟩) (p :: P) w) : PArg (some ⟨b, off + 2, none⟩) P w := by
  have hl := h.le
  refine ⟨by rw [List.length_cons] at hl; omega, fun j => ?_, fun hn => ?_⟩
  · have := h.sz (j + 1)
    simpa using this
  · obtain ⟨b', off', e, hlt, hc⟩ := h.at_ (by simp)
    cases e
    refine ⟨b, off + 2, rfl, hlt, fun j hj => ?_⟩
    have := hc (j + 1) (by simp; exact hj)
    rw [show off + (j + 1) * 2 = off + 2 + j * 2 by omega] at this
    simpa using this
theorem PArg.tailc {b off c : Nat} {p : PairT} {P : List PairT} {w : World} (h : PArg (some ⟨b, off, none⟩) (p :: P) w) (hc : P.length + 1 ≤ c) : PArg (if c = 1 then some ⟨b, off, none⟩ else some ⟨b, off + 2, none⟩) P w := by
  by_cases e : c = 1
  · rw [if_pos e]
    have := h.tail
    exact ⟨this.le, this.sz, fun hn => by omega⟩
  · rw [if_neg e]; exact h.tail
theorem PArg.head {a : Option Addr} {p : PairT} {P : List PairT} {w : World} (h : PArg a (p :: P) w) : ∃ b off, a = some ⟨b, off, none⟩ ∧ b < w.heap.size ∧ w.cell? ⟨b, off, none⟩ = some (.string p.1) ∧ w.cell? ⟨b, off + 1, none⟩ = some (.string p.2) := by
  obtain ⟨b, off, e, hlt, hc⟩ := h.at_ (by simp)
  have := hc 0 (by simp)
  exact ⟨b, off, e, hlt, by simpa using this.1, by simpa using this.2⟩
/-- What stands while two lists are gone through side by side. -/
structure CB (w : World) (ps qs : List PairT) (a b : Option Addr) (c d : Nat) (P Q : List PairT) (a5 : Option Addr) (m5 c5 : Nat) (out : List ChT) (W : World) : Prop where
  p : PArg a P w
  q : PArg b Q w
  hc : P.length ≤ c
  hd : Q.length ≤ d
  o : OwnC w out a5 m5 c5 W
  e : out ++ chg P Q = chg ps qs
  l : m5 + P.length + Q.length ≤ 1000
section
variable {w : World} {ps qs : List PairT} {a b a' b' : Option Addr} {c d c' d' : Nat} {P Q P' Q' : List PairT} {a5 : Option Addr} {m5 c5 : Nat} {out : List ChT} {W W' : World}
theorem CB.below (h : CB w ps qs a b c d P Q a5 m5 c5 out W) (hb : Below W.heap.size W W') : CB w ps qs a b c d P Q a5 m5 c5 out W' :=
  ⟨h.p, h.q, h.hc, h.hd, h.o.below hb, h.e, h.l⟩
/-- A change is put behind the others. -/
theorem CB.more {y : ChT} {g6 c6 m6 : Nat} {o : Obj} (h : CB w ps qs a b c d P Q a5 m5 c5 out W) (hown : W'.ownsRow w.heap.size 62 5 (.slice (some ⟨g6, 0, none⟩) m6 c6) m6 (flatC out ++ chL y)) (hgrow : (W.alloc o).grownBy W' (Value.slice a5 m5 c5).ownBlock) (hm : m6 = m5 + 1) (hp : PArg a' P' w) (hq : PArg b' Q' w) (hc : P'.length ≤ c') (hd : Q'.length ≤ d') (he : chg P Q = y :: chg P' Q') (hl : P'.length + Q'.length + 1 ≤ P.length + Q.length) : CB w ps qs a' b' c' d' P' Q' (some ⟨g6, 0, none⟩) m6 c6 (out ++ [y]) W' :=
  ⟨hp, hq, hc, hd, h.o.more hown hgrow hm, by rw [← h.e, he, List.append_assoc]; rfl, by have := h.l; omega⟩
theorem CB.pass (h : CB w ps qs a b c d P Q a5 m5 c5 out W) (hp : PArg a' P' w) (hq : PArg b' Q' w) (hc : P'.length ≤ c') (hd : Q'.length ≤ d') (he : chg P Q = chg P' Q') (hl : P'.length + Q'.length ≤ P.length + Q.length) : CB w ps qs a' b' c' d' P' Q' a5 m5 c5 out W :=
  ⟨hp, hq, hc, hd, h.o, by rw [← h.e, he], by have := h.l; omega⟩
end
set_option maxRecDepth 100000 in
set_option maxHeartbeats 4000000 in
theorem between_any (a b : Option Addr) (ps qs : List PairT) (c d : Nat) (w : World) (h : PArg a ps w) (h' : PArg b qs w) (hp : ps.length ≤ 500) (hq : qs.length ≤ 500) (hc : ps.length ≤ c) (hd : qs.length ≤ d) : Calls Tryz.prog 130 #[.slice a ps.length c, .slice b qs.length d] w (ChAt (chg ps qs) w) := by
  obtain ⟨i0, hi0, hz0, hz1, hz2⟩ := info_parts2 info115
  have hst : Hid (CB w ps qs a b c d ps qs none 0 0 [] w) := ⟨h, h', hc, hd, OwnC.none w, rfl, by omega⟩
  obtain ⟨n1, hn1⟩ : ∃ n, ps.length = n := ⟨_, rfl⟩
  obtain ⟨n2, hn2⟩ : ∃ n, qs.length = n := ⟨_, rfl⟩
  have hn1H : Hid (ps.length = n1) := hn1
  have hn2H : Hid (qs.length = n2) := hn2
  rw [hn1, hn2]
  clear hn1 hn2 h h' hp hq hc hd
  go_enter Tryz.func130, Tryz.ntmps130
  go_wp2_with fail
  go_loopw [0, 1, 5] (fun t0 t1 t5 wr => ∃ (a1 b1 a5 : Option Addr) (l1 l2 c1 d1 m5 c5 : Nat), t0 = .slice a1 l1 c1 ∧ t1 = .slice b1 l2 d1 ∧ t5 = .slice a5 m5 c5 ∧ Hid (∃ (P Q : List PairT) (out : List ChT), P.length = l1 ∧ Q.length = l2 ∧ CB w ps qs a1 b1 c1 d1 P Q a5 m5 c5 out wr)) (fun t0 t1 _ _ => lenV t0 + lenV t1)
  case atStart => exact ⟨a, b, none, n1, n2, c, d, 0, 0, rfl, rfl, rfl, ⟨ps, qs, [], hn1H.out, hn2H.out, hst.out⟩⟩
  case round =>
    obtain ⟨a1, b1, a5, l1, l2, c1, d1, m5, c5, rfl, rfl, rfl, hR⟩ := hrel
    obtain ⟨P, Q, out, hl1, hl2, hC⟩ := hR.out
    clear hR
    have hbA : Below wr.heap.size wr (wr.alloc (.cells #[.string ⟨#[]⟩, .bool false, .string ⟨#[]⟩, .bool false, .string ⟨#[]⟩] 62)) := (Below.refl _ _).alloc (Nat.le_refl _) _
    have nC := heap_alloc_new wr (.cells #[.string ⟨#[]⟩, .bool false, .string ⟨#[]⟩, .bool false, .string ⟨#[]⟩] 62)
    cases P with
    | nil =>
      obtain rfl : l1 = 0 := hl1.symm
      cases Q with
      | nil =>
        obtain rfl : l2 = 0 := hl2.symm
        have HF : Hid (ChAt (chg ps qs) w (.returned (.slice a5 m5 c5)) wr) := by
          have he := hC.e
          rw [chg, List.append_nil] at he
          rw [← he]
          have hl := hC.o.len
          subst hl
          exact ⟨_, _, rfl, hC.o⟩
        clear hC hl1 hl2
        go_wp2_with fail
        go_ret
        exact HF.out
      | cons q Q =>
        obtain ⟨b3, off3, rfl, hbl3, hk3, hk4⟩ := (hC.q.below hC.o.bel).head
        have hdp := hC.hd
        rw [List.length_cons] at hdp hl2
        obtain ⟨L2, hL2⟩ : ∃ L, Q.length = L := ⟨_, rfl⟩
        rw [hL2] at hdp hl2
        have hLH2 : Hid (Q.length = L2) := hL2
        clear hL2
        obtain rfl : l2 = L2 + 1 := hl2.symm
        have z7 : decide ((0 : Int) < (L2 : Int) + 1) = true := by simp; try omega
        have z8 : ((L2 : Int) + 1 == 0) = false := by simp; try omega
        have e3 := (hbA.cell (p := ⟨b3, off3, none⟩) hbl3).trans hk3
        have e4 := (hbA.cell (p := ⟨b3, off3 + 1, none⟩) hbl3).trans hk4
        have HT2 : Hid (PArg (if d1 = 1 then some ⟨b3, off3, none⟩ else some ⟨b3, off3 + 2, none⟩) Q w) := hC.q.tailc (by rw [hLH2.out]; exact hdp)
        go_upto_region 4 with fail
        generalize wr.alloc (.cells #[.string ⟨#[]⟩, .bool false, .string ⟨#[]⟩, .bool false, .string ⟨#[]⟩] 62) = W1 at hbA nC e3 e4 ⊢
        obtain ⟨gc, hgc⟩ : ∃ g, wr.heap.size = g := ⟨_, rfl⟩
        rw [hgc] at nC
        try rw [hgc]
        have hgl : wr.heap.size ≤ gc := Nat.le_of_eq hgc
        clear hgc
        have q0 := Lib.cell_of_heap nC 0
        have q1 := Lib.cell_of_heap nC 1
        have q2 := Lib.cell_of_heap nC 2
        have q3 := Lib.cell_of_heap nC 3
        have q4 := Lib.cell_of_heap nC 4
        have fz : ∀ j, W1.frozen? ⟨gc, j, none⟩ = false := fun j => by rw [World.frozen?, nC]; rfl
        go_region
        go_upto_region 5 with fail
        go_region
        go_upto_region 10 with fail
        go_region
        go_upto_region 11 with fail
        have n7 : ((((W1.setCell ⟨gc, 0, none⟩ (.string q.1)).setCell ⟨gc, 3, none⟩ (.bool true)).setCell ⟨gc, 4, none⟩ (.string q.2)).drew.drew.drew).heap[gc]? = some (.cells #[.string q.1, .bool false, .string ⟨#[]⟩, .bool true, .string q.2] 62) := heap_setCell_same _ gc 4 _ 62 (.string q.2) (heap_setCell_same _ gc 3 _ 62 (.bool true) (heap_setCell_same _ gc 0 _ 62 (.string q.1) nC))
        have hb7 : Below wr.heap.size wr ((((W1.setCell ⟨gc, 0, none⟩ (.string q.1)).setCell ⟨gc, 3, none⟩ (.bool true)).setCell ⟨gc, 4, none⟩ (.string q.2)).drew.drew.drew) := (((hbA.setCell (p := ⟨gc, 0, none⟩) hgl _).setCell (p := ⟨gc, 3, none⟩) hgl _).setCell (p := ⟨gc, 4, none⟩) hgl _).drew.drew.drew
        generalize ((((W1.setCell ⟨gc, 0, none⟩ (.string q.1)).setCell ⟨gc, 3, none⟩ (.bool true)).setCell ⟨gc, 4, none⟩ (.string q.2)).drew.drew.drew) = W7 at hb7 n7 ⊢
        clear q0 q1 q2 q3 q4 fz
        clear e3 e4 nC hbA hk3 hk4
        have q0 := Lib.cell_of_heap n7 0
        have q1 := Lib.cell_of_heap n7 1
        have q2 := Lib.cell_of_heap n7 2
        have q3 := Lib.cell_of_heap n7 3
        have q4 := Lib.cell_of_heap n7 4
        have hC7 := hC.below hb7
        have own7 := hC7.o.own
        have hbs7 := hC7.o.bel.size
        have hl5 := hC7.l
        have HC7 : Hid _ := hC7
        clear hC7
        go_wp2_with (at_builtin; refine wpList_append_lies _ rfl (.tmp 95) (.tmp 97) 57 rfl w.heap.size 62 i0 (.agg #[.string ⟨#[]⟩, .bool false, .string ⟨#[]⟩, .bool false, .string ⟨#[]⟩]) 5 64 Tryz.underlying57 hi0 hz0 hz1 hz2 rfl (by decide) (.slice a5 m5 c5) m5 (flatC out) rfl (own7.alloc _) ⟨W7.heap.size, 0, none⟩ 1 1 [.string q.1, .bool false, .string ⟨#[]⟩, .bool true, .string q.2] rfl rfl (World.news_of_block (heap_alloc_new W7 _)) (by simp [Value.oneCell']) (by decide) (by unfold maxLen; omega) (by omega) (by simp; omega) (W7.heap.size + 1) (by simp) ?_; intro g6 c6 w6 hown6 hgrow6 hat6 hlt6)
        go_roundw
        case rel => exact ⟨_, _, _, 0, L2, _, _, _, _, rfl, rfl, rfl, ⟨[], Q, out ++ [(q.1, false, ⟨#[]⟩, true, q.2)], rfl, hLH2.out, HC7.out.more (y := (q.1, false, (⟨#[]⟩ : ByteArray), true, q.2)) hown6 hgrow6 rfl HC7.out.p HT2.out HC7.out.hc (by rw [hLH2.out]; omega) (by rw [chg]) (by simp)⟩⟩
        case measure => simp only [lenV]; omega
    | cons p P =>
      cases Q with
      | nil =>
        obtain rfl : l2 = 0 := hl2.symm
        obtain ⟨b2, off2, rfl, hbl, hk1, hk2⟩ := (hC.p.below hC.o.bel).head
        have hcp := hC.hc
        rw [List.length_cons] at hcp hl1
        obtain ⟨L1, hL1⟩ : ∃ L, P.length = L := ⟨_, rfl⟩
        rw [hL1] at hcp hl1
        have hLH : Hid (P.length = L1) := hL1
        clear hL1
        obtain rfl : l1 = L1 + 1 := hl1.symm
        have z5 : decide ((0 : Int) < (L1 : Int) + 1) = true := by simp; try omega
        have z6 : ((L1 : Int) + 1 == 0) = false := by simp; try omega
        have e1 := (hbA.cell (p := ⟨b2, off2, none⟩) hbl).trans hk1
        have e2 := (hbA.cell (p := ⟨b2, off2 + 1, none⟩) hbl).trans hk2
        have HT1 : Hid (PArg (if c1 = 1 then some ⟨b2, off2, none⟩ else some ⟨b2, off2 + 2, none⟩) P w) := hC.p.tailc (by rw [hLH.out]; exact hcp)
        go_upto_region 4 with fail
        generalize wr.alloc (.cells #[.string ⟨#[]⟩, .bool false, .string ⟨#[]⟩, .bool false, .string ⟨#[]⟩] 62) = W1 at hbA nC e1 e2 ⊢
        obtain ⟨gc, hgc⟩ : ∃ g, wr.heap.size = g := ⟨_, rfl⟩
        rw [hgc] at nC
        try rw [hgc]
        have hgl : wr.heap.size ≤ gc := Nat.le_of_eq hgc
        clear hgc
        have q0 := Lib.cell_of_heap nC 0
        have q1 := Lib.cell_of_heap nC 1
        have q2 := Lib.cell_of_heap nC 2
        have q3 := Lib.cell_of_heap nC 3
        have q4 := Lib.cell_of_heap nC 4
        have fz : ∀ j, W1.frozen? ⟨gc, j, none⟩ = false := fun j => by rw [World.frozen?, nC]; rfl
        go_region
        go_upto_region 5 with fail
        go_region
        go_upto_region 7 with fail
        go_region
        go_upto_region 8 with fail
        have n7 : ((((W1.setCell ⟨gc, 0, none⟩ (.string p.1)).setCell ⟨gc, 1, none⟩ (.bool true)).setCell ⟨gc, 2, none⟩ (.string p.2)).drew.drew.drew).heap[gc]? = some (.cells #[.string p.1, .bool true, .string p.2, .bool false, .string ⟨#[]⟩] 62) := heap_setCell_same _ gc 2 _ 62 (.string p.2) (heap_setCell_same _ gc 1 _ 62 (.bool true) (heap_setCell_same _ gc 0 _ 62 (.string p.1) nC))
        have hb7 : Below wr.heap.size wr ((((W1.setCell ⟨gc, 0, none⟩ (.string p.1)).setCell ⟨gc, 1, none⟩ (.bool true)).setCell ⟨gc, 2, none⟩ (.string p.2)).drew.drew.drew) := (((hbA.setCell (p := ⟨gc, 0, none⟩) hgl _).setCell (p := ⟨gc, 1, none⟩) hgl _).setCell (p := ⟨gc, 2, none⟩) hgl _).drew.drew.drew
        generalize ((((W1.setCell ⟨gc, 0, none⟩ (.string p.1)).setCell ⟨gc, 1, none⟩ (.bool true)).setCell ⟨gc, 2, none⟩ (.string p.2)).drew.drew.drew) = W7 at hb7 n7 ⊢
        clear q0 q1 q2 q3 q4 fz
        clear e1 e2 nC hbA hk1 hk2
        have q0 := Lib.cell_of_heap n7 0
        have q1 := Lib.cell_of_heap n7 1
        have q2 := Lib.cell_of_heap n7 2
        have q3 := Lib.cell_of_heap n7 3
        have q4 := Lib.cell_of_heap n7 4
        have hC7 := hC.below hb7
        have own7 := hC7.o.own
        have hbs7 := hC7.o.bel.size
        have hl5 := hC7.l
        have HC7 : Hid _ := hC7
        clear hC7
        go_wp2_with (at_builtin; refine wpList_append_lies _ rfl (.tmp 95) (.tmp 97) 57 rfl w.heap.size 62 i0 (.agg #[.string ⟨#[]⟩, .bool false, .string ⟨#[]⟩, .bool false, .string ⟨#[]⟩]) 5 64 Tryz.underlying57 hi0 hz0 hz1 hz2 rfl (by decide) (.slice a5 m5 c5) m5 (flatC out) rfl (own7.alloc _) ⟨W7.heap.size, 0, none⟩ 1 1 [.string p.1, .bool true, .string p.2, .bool false, .string ⟨#[]⟩] rfl rfl (World.news_of_block (heap_alloc_new W7 _)) (by simp [Value.oneCell']) (by decide) (by unfold maxLen; omega) (by omega) (by simp; omega) (W7.heap.size + 1) (by simp) ?_; intro g6 c6 w6 hown6 hgrow6 hat6 hlt6)
        go_roundw
        case rel => exact ⟨_, _, _, L1, 0, _, _, _, _, rfl, rfl, rfl, ⟨P, [], out ++ [(p.1, true, p.2, false, ⟨#[]⟩)], hLH.out, rfl, HC7.out.more (y := (p.1, true, p.2, false, (⟨#[]⟩ : ByteArray))) hown6 hgrow6 rfl HT1.out HC7.out.q (by rw [hLH.out]; omega) HC7.out.hd (by rw [chg]) (by simp)⟩⟩
        case measure => simp only [lenV]; omega
      | cons q Q =>
        obtain ⟨b2, off2, rfl, hbl, hk1, hk2⟩ := (hC.p.below hC.o.bel).head
        have hcp := hC.hc
        rw [List.length_cons] at hcp hl1
        obtain ⟨L1, hL1⟩ : ∃ L, P.length = L := ⟨_, rfl⟩
        rw [hL1] at hcp hl1
        have hLH : Hid (P.length = L1) := hL1
        clear hL1
        obtain rfl : l1 = L1 + 1 := hl1.symm
        have z5 : decide ((0 : Int) < (L1 : Int) + 1) = true := by simp; try omega
        have z6 : ((L1 : Int) + 1 == 0) = false := by simp; try omega
        have e1 := (hbA.cell (p := ⟨b2, off2, none⟩) hbl).trans hk1
        have e2 := (hbA.cell (p := ⟨b2, off2 + 1, none⟩) hbl).trans hk2
        have HT1 : Hid (PArg (if c1 = 1 then some ⟨b2, off2, none⟩ else some ⟨b2, off2 + 2, none⟩) P w) := hC.p.tailc (by rw [hLH.out]; exact hcp)
        obtain ⟨b3, off3, rfl, hbl3, hk3, hk4⟩ := (hC.q.below hC.o.bel).head
        have hdp := hC.hd
        rw [List.length_cons] at hdp hl2
        obtain ⟨L2, hL2⟩ : ∃ L, Q.length = L := ⟨_, rfl⟩
        rw [hL2] at hdp hl2
        have hLH2 : Hid (Q.length = L2) := hL2
        clear hL2
        obtain rfl : l2 = L2 + 1 := hl2.symm
        have z7 : decide ((0 : Int) < (L2 : Int) + 1) = true := by simp; try omega
        have z8 : ((L2 : Int) + 1 == 0) = false := by simp; try omega
        have e3 := (hbA.cell (p := ⟨b3, off3, none⟩) hbl3).trans hk3
        have e4 := (hbA.cell (p := ⟨b3, off3 + 1, none⟩) hbl3).trans hk4
        have HT2 : Hid (PArg (if d1 = 1 then some ⟨b3, off3, none⟩ else some ⟨b3, off3 + 2, none⟩) Q w) := hC.q.tailc (by rw [hLH2.out]; exact hdp)
        obtain ⟨pk, pv⟩ := p
        obtain ⟨qk, qv⟩ := q
        simp only at e1 e2 e3 e4
        by_cases hek : pk = qk
        · subst hek
          have x1 : Op.bytesLess pk.toList pk.toList = false := bl_irr _
          have x2 : (pk.toList == pk.toList) = true := by simp
          go_upto_region 4 with fail
          generalize wr.alloc (.cells #[.string ⟨#[]⟩, .bool false, .string ⟨#[]⟩, .bool false, .string ⟨#[]⟩] 62) = W1 at hbA nC e1 e2 e3 e4 ⊢
          obtain ⟨gc, hgc⟩ : ∃ g, wr.heap.size = g := ⟨_, rfl⟩
          rw [hgc] at nC
          try rw [hgc]
          have hgl : wr.heap.size ≤ gc := Nat.le_of_eq hgc
          clear hgc
          have q0 := Lib.cell_of_heap nC 0
          have q1 := Lib.cell_of_heap nC 1
          have q2 := Lib.cell_of_heap nC 2
          have q3 := Lib.cell_of_heap nC 3
          have q4 := Lib.cell_of_heap nC 4
          have fz : ∀ j, W1.frozen? ⟨gc, j, none⟩ = false := fun j => by rw [World.frozen?, nC]; rfl
          go_region
          go_upto_region 5 with fail
          go_region
          go_upto_region 7 with fail
          go_region
          go_upto_region 8 with fail
          have n6 : ((((W1.setCell ⟨gc, 0, none⟩ (.string pk)).setCell ⟨gc, 1, none⟩ (.bool true)).setCell ⟨gc, 2, none⟩ (.string pv)).drew.drew.drew).heap[gc]? = some (.cells #[.string pk, .bool true, .string pv, .bool false, .string ⟨#[]⟩] 62) := heap_setCell_same _ gc 2 _ 62 (.string pv) (heap_setCell_same _ gc 1 _ 62 (.bool true) (heap_setCell_same _ gc 0 _ 62 (.string pk) nC))
          have hb6 : Below wr.heap.size wr ((((W1.setCell ⟨gc, 0, none⟩ (.string pk)).setCell ⟨gc, 1, none⟩ (.bool true)).setCell ⟨gc, 2, none⟩ (.string pv)).drew.drew.drew) := (((hbA.setCell (p := ⟨gc, 0, none⟩) hgl _).setCell (p := ⟨gc, 1, none⟩) hgl _).setCell (p := ⟨gc, 2, none⟩) hgl _).drew.drew.drew
          generalize ((((W1.setCell ⟨gc, 0, none⟩ (.string pk)).setCell ⟨gc, 1, none⟩ (.bool true)).setCell ⟨gc, 2, none⟩ (.string pv)).drew.drew.drew) = W6 at hb6 n6 ⊢
          have e3' := (hb6.cell (p := ⟨b3, off3, none⟩) hbl3).trans hk3
          have e4' := (hb6.cell (p := ⟨b3, off3 + 1, none⟩) hbl3).trans hk4
          simp only at e3' e4'
          clear q0 q1 q2 q3 q4 fz e1 e2 e3 e4 nC hbA
          have q0 := Lib.cell_of_heap n6 0
          have q1 := Lib.cell_of_heap n6 1
          have q2 := Lib.cell_of_heap n6 2
          have q3 := Lib.cell_of_heap n6 3
          have q4 := Lib.cell_of_heap n6 4
          have fz : ∀ j, W6.frozen? ⟨gc, j, none⟩ = false := fun j => by rw [World.frozen?, n6]; rfl
          go_upto_region 10 with fail
          go_region
          go_upto_region 11 with fail
          have n7 : ((((W6.setCell ⟨gc, 0, none⟩ (.string pk)).setCell ⟨gc, 3, none⟩ (.bool true)).setCell ⟨gc, 4, none⟩ (.string qv)).drew).heap[gc]? = some (.cells #[.string pk, .bool true, .string pv, .bool true, .string qv] 62) := heap_setCell_same _ gc 4 _ 62 (.string qv) (heap_setCell_same _ gc 3 _ 62 (.bool true) (heap_setCell_same _ gc 0 _ 62 (.string pk) n6))
          have hb7 : Below wr.heap.size wr ((((W6.setCell ⟨gc, 0, none⟩ (.string pk)).setCell ⟨gc, 3, none⟩ (.bool true)).setCell ⟨gc, 4, none⟩ (.string qv)).drew) := (((hb6.setCell (p := ⟨gc, 0, none⟩) hgl _).setCell (p := ⟨gc, 3, none⟩) hgl _).setCell (p := ⟨gc, 4, none⟩) hgl _).drew
          generalize ((((W6.setCell ⟨gc, 0, none⟩ (.string pk)).setCell ⟨gc, 3, none⟩ (.bool true)).setCell ⟨gc, 4, none⟩ (.string qv)).drew) = W7 at hb7 n7 ⊢
          clear q0 q1 q2 q3 q4 fz n6 hb6 e3' e4'
          have q0 := Lib.cell_of_heap n7 0
          have q1 := Lib.cell_of_heap n7 1
          have q2 := Lib.cell_of_heap n7 2
          have q3 := Lib.cell_of_heap n7 3
          have q4 := Lib.cell_of_heap n7 4
          have hC7 := hC.below hb7
          have own7 := hC7.o.own
          have hbs7 := hC7.o.bel.size
          have hl5 := hC7.l
          have HC7 : Hid _ := hC7
          clear hC7
          by_cases e2 : pv = qv
          · have x4 : (pv.toList == qv.toList) = true := by rw [ba_eq, decide_eq_true e2]
            have HE : Hid (chg ((pk, pv) :: P) ((pk, qv) :: Q) = chg P Q) := by show _ = _; rw [chg, if_pos rfl, if_pos e2]
            clear e2
            go_wp2_with fail
            go_roundw
            case rel => exact ⟨_, _, _, L1, L2, _, _, _, _, rfl, rfl, rfl, ⟨P, Q, out, hLH.out, hLH2.out, HC7.out.pass HT1.out HT2.out (by rw [hLH.out]; omega) (by rw [hLH2.out]; omega) HE.out (by simp; omega)⟩⟩
            case measure => simp only [lenV]; omega
          · have x4 : (pv.toList == qv.toList) = false := by rw [ba_eq, decide_eq_false e2]
            have HE : Hid (chg ((pk, pv) :: P) ((pk, qv) :: Q) = (pk, true, pv, true, qv) :: chg P Q) := by show _ = _; rw [chg, if_pos rfl, if_neg e2]
            clear e2
            go_wp2_with (at_builtin; refine wpList_append_lies _ rfl (.tmp 95) (.tmp 97) 57 rfl w.heap.size 62 i0 (.agg #[.string ⟨#[]⟩, .bool false, .string ⟨#[]⟩, .bool false, .string ⟨#[]⟩]) 5 64 Tryz.underlying57 hi0 hz0 hz1 hz2 rfl (by decide) (.slice a5 m5 c5) m5 (flatC out) rfl (own7.alloc _) ⟨W7.heap.size, 0, none⟩ 1 1 [.string pk, .bool true, .string pv, .bool true, .string qv] rfl rfl (World.news_of_block (heap_alloc_new W7 _)) (by simp [Value.oneCell']) (by decide) (by unfold maxLen; omega) (by omega) (by simp; omega) (W7.heap.size + 1) (by simp) ?_; intro g6 c6 w6 hown6 hgrow6 hat6 hlt6)
            go_roundw
            case rel => exact ⟨_, _, _, L1, L2, _, _, _, _, rfl, rfl, rfl, ⟨P, Q, out ++ [(pk, true, pv, true, qv)], hLH.out, hLH2.out, HC7.out.more (y := (pk, true, pv, true, qv)) hown6 hgrow6 rfl HT1.out HT2.out (by rw [hLH.out]; omega) (by rw [hLH2.out]; omega) HE.out (by simp; omega)⟩⟩
            case measure => simp only [lenV]; omega
        · cases hlt : lessB pk qk with
          | true =>
            have hgt : lessB qk pk = false := by
              cases hg : lessB qk pk with
              | false => rfl
              | true => have := lessB_tr hlt hg; rw [lessB_irr] at this; cases this
            have x1 : Op.bytesLess pk.toList qk.toList = true := hlt
            have x2 : (qk.toList == pk.toList) = false := by rw [ba_eq]; exact decide_eq_false (fun e => hek e.symm)
            have x3 : (pk.toList == qk.toList) = false := by rw [ba_eq]; exact decide_eq_false hek
            have x4 : Op.bytesLess qk.toList pk.toList = false := hgt
            have HE : Hid (chg ((pk, pv) :: P) ((qk, qv) :: Q) = (pk, true, pv, false, ⟨#[]⟩) :: chg P ((qk, qv) :: Q)) := by show _ = _; rw [chg, if_neg hek, if_pos hlt]
            go_upto_region 4 with fail
            generalize wr.alloc (.cells #[.string ⟨#[]⟩, .bool false, .string ⟨#[]⟩, .bool false, .string ⟨#[]⟩] 62) = W1 at hbA nC e1 e2 e3 e4 ⊢
            obtain ⟨gc, hgc⟩ : ∃ g, wr.heap.size = g := ⟨_, rfl⟩
            rw [hgc] at nC
            try rw [hgc]
            have hgl : wr.heap.size ≤ gc := Nat.le_of_eq hgc
            clear hgc
            have q0 := Lib.cell_of_heap nC 0
            have q1 := Lib.cell_of_heap nC 1
            have q2 := Lib.cell_of_heap nC 2
            have q3 := Lib.cell_of_heap nC 3
            have q4 := Lib.cell_of_heap nC 4
            have fz : ∀ j, W1.frozen? ⟨gc, j, none⟩ = false := fun j => by rw [World.frozen?, nC]; rfl
            go_region
            go_upto_region 5 with fail
            go_region
            go_upto_region 7 with fail
            go_region
            go_upto_region 8 with fail
            have n7 : ((((W1.setCell ⟨gc, 0, none⟩ (.string pk)).setCell ⟨gc, 1, none⟩ (.bool true)).setCell ⟨gc, 2, none⟩ (.string pv)).drew.drew.drew).heap[gc]? = some (.cells #[.string pk, .bool true, .string pv, .bool false, .string ⟨#[]⟩] 62) := heap_setCell_same _ gc 2 _ 62 (.string pv) (heap_setCell_same _ gc 1 _ 62 (.bool true) (heap_setCell_same _ gc 0 _ 62 (.string pk) nC))
            have hb7 : Below wr.heap.size wr ((((W1.setCell ⟨gc, 0, none⟩ (.string pk)).setCell ⟨gc, 1, none⟩ (.bool true)).setCell ⟨gc, 2, none⟩ (.string pv)).drew.drew.drew) := (((hbA.setCell (p := ⟨gc, 0, none⟩) hgl _).setCell (p := ⟨gc, 1, none⟩) hgl _).setCell (p := ⟨gc, 2, none⟩) hgl _).drew.drew.drew
            generalize ((((W1.setCell ⟨gc, 0, none⟩ (.string pk)).setCell ⟨gc, 1, none⟩ (.bool true)).setCell ⟨gc, 2, none⟩ (.string pv)).drew.drew.drew) = W7 at hb7 n7 ⊢
            clear q0 q1 q2 q3 q4 fz e1 e2 e3 e4 nC hbA
            have q0 := Lib.cell_of_heap n7 0
            have q1 := Lib.cell_of_heap n7 1
            have q2 := Lib.cell_of_heap n7 2
            have q3 := Lib.cell_of_heap n7 3
            have q4 := Lib.cell_of_heap n7 4
            have hC7 := hC.below hb7
            have own7 := hC7.o.own
            have hbs7 := hC7.o.bel.size
            have hl5 := hC7.l
            have HC7 : Hid _ := hC7
            clear hC7
            go_wp2_with (at_builtin; refine wpList_append_lies _ rfl (.tmp 95) (.tmp 97) 57 rfl w.heap.size 62 i0 (.agg #[.string ⟨#[]⟩, .bool false, .string ⟨#[]⟩, .bool false, .string ⟨#[]⟩]) 5 64 Tryz.underlying57 hi0 hz0 hz1 hz2 rfl (by decide) (.slice a5 m5 c5) m5 (flatC out) rfl (own7.alloc _) ⟨W7.heap.size, 0, none⟩ 1 1 [.string pk, .bool true, .string pv, .bool false, .string ⟨#[]⟩] rfl rfl (World.news_of_block (heap_alloc_new W7 _)) (by simp [Value.oneCell']) (by decide) (by unfold maxLen; omega) (by omega) (by simp; omega) (W7.heap.size + 1) (by simp) ?_; intro g6 c6 w6 hown6 hgrow6 hat6 hlt6)
            go_roundw
            case rel => exact ⟨_, _, _, L1, L2 + 1, _, _, _, _, rfl, rfl, rfl, ⟨P, (qk, qv) :: Q, out ++ [(pk, true, pv, false, ⟨#[]⟩)], hLH.out, by rw [List.length_cons, hLH2.out], HC7.out.more (y := (pk, true, pv, false, (⟨#[]⟩ : ByteArray))) hown6 hgrow6 rfl HT1.out HC7.out.q (by rw [hLH.out]; omega) HC7.out.hd HE.out (by simp only [List.length_cons]; omega)⟩⟩
            case measure => simp only [lenV]; omega
          | false =>
            have hgt : lessB qk pk = true := lessB_or _ _ hlt hek
            have x1 : Op.bytesLess pk.toList qk.toList = false := hlt
            have x2 : (qk.toList == pk.toList) = false := by rw [ba_eq]; exact decide_eq_false (fun e => hek e.symm)
            have x3 : (pk.toList == qk.toList) = false := by rw [ba_eq]; exact decide_eq_false hek
            have x4 : Op.bytesLess qk.toList pk.toList = true := hgt
            have HE : Hid (chg ((pk, pv) :: P) ((qk, qv) :: Q) = (qk, false, ⟨#[]⟩, true, qv) :: chg ((pk, pv) :: P) Q) := by show _ = _; rw [chg, if_neg hek, if_neg (by simp only; rw [hlt]; decide)]
            go_upto_region 4 with fail
            generalize wr.alloc (.cells #[.string ⟨#[]⟩, .bool false, .string ⟨#[]⟩, .bool false, .string ⟨#[]⟩] 62) = W1 at hbA nC e1 e2 e3 e4 ⊢
            obtain ⟨gc, hgc⟩ : ∃ g, wr.heap.size = g := ⟨_, rfl⟩
            rw [hgc] at nC
            try rw [hgc]
            have hgl : wr.heap.size ≤ gc := Nat.le_of_eq hgc
            clear hgc
            have q0 := Lib.cell_of_heap nC 0
            have q1 := Lib.cell_of_heap nC 1
            have q2 := Lib.cell_of_heap nC 2
            have q3 := Lib.cell_of_heap nC 3
            have q4 := Lib.cell_of_heap nC 4
            have fz : ∀ j, W1.frozen? ⟨gc, j, none⟩ = false := fun j => by rw [World.frozen?, nC]; rfl
            go_region
            go_upto_region 5 with fail
            go_region
            go_upto_region 10 with fail
            go_region
            go_upto_region 11 with fail
            have n7 : ((((W1.setCell ⟨gc, 0, none⟩ (.string qk)).setCell ⟨gc, 3, none⟩ (.bool true)).setCell ⟨gc, 4, none⟩ (.string qv)).drew.drew.drew).heap[gc]? = some (.cells #[.string qk, .bool false, .string ⟨#[]⟩, .bool true, .string qv] 62) := heap_setCell_same _ gc 4 _ 62 (.string qv) (heap_setCell_same _ gc 3 _ 62 (.bool true) (heap_setCell_same _ gc 0 _ 62 (.string qk) nC))
            have hb7 : Below wr.heap.size wr ((((W1.setCell ⟨gc, 0, none⟩ (.string qk)).setCell ⟨gc, 3, none⟩ (.bool true)).setCell ⟨gc, 4, none⟩ (.string qv)).drew.drew.drew) := (((hbA.setCell (p := ⟨gc, 0, none⟩) hgl _).setCell (p := ⟨gc, 3, none⟩) hgl _).setCell (p := ⟨gc, 4, none⟩) hgl _).drew.drew.drew
            generalize ((((W1.setCell ⟨gc, 0, none⟩ (.string qk)).setCell ⟨gc, 3, none⟩ (.bool true)).setCell ⟨gc, 4, none⟩ (.string qv)).drew.drew.drew) = W7 at hb7 n7 ⊢
            clear q0 q1 q2 q3 q4 fz e1 e2 e3 e4 nC hbA
            have q0 := Lib.cell_of_heap n7 0
            have q1 := Lib.cell_of_heap n7 1
            have q2 := Lib.cell_of_heap n7 2
            have q3 := Lib.cell_of_heap n7 3
            have q4 := Lib.cell_of_heap n7 4
            have hC7 := hC.below hb7
            have own7 := hC7.o.own
            have hbs7 := hC7.o.bel.size
            have hl5 := hC7.l
            have HC7 : Hid _ := hC7
            clear hC7
            go_wp2_with (at_builtin; refine wpList_append_lies _ rfl (.tmp 95) (.tmp 97) 57 rfl w.heap.size 62 i0 (.agg #[.string ⟨#[]⟩, .bool false, .string ⟨#[]⟩, .bool false, .string ⟨#[]⟩]) 5 64 Tryz.underlying57 hi0 hz0 hz1 hz2 rfl (by decide) (.slice a5 m5 c5) m5 (flatC out) rfl (own7.alloc _) ⟨W7.heap.size, 0, none⟩ 1 1 [.string qk, .bool false, .string ⟨#[]⟩, .bool true, .string qv] rfl rfl (World.news_of_block (heap_alloc_new W7 _)) (by simp [Value.oneCell']) (by decide) (by unfold maxLen; omega) (by omega) (by simp; omega) (W7.heap.size + 1) (by simp) ?_; intro g6 c6 w6 hown6 hgrow6 hat6 hlt6)
            go_roundw
            case rel => exact ⟨_, _, _, L1 + 1, L2, _, _, _, _, rfl, rfl, rfl, ⟨(pk, pv) :: P, Q, out ++ [(qk, false, ⟨#[]⟩, true, qv)], by rw [List.length_cons, hLH.out], hLH2.out, HC7.out.more (y := (qk, false, (⟨#[]⟩ : ByteArray), true, qv)) hown6 hgrow6 rfl HC7.out.p HT2.out HC7.out.hc (by rw [hLH2.out]; omega) HE.out (by simp only [List.length_cons]; omega)⟩⟩
            case measure => simp only [lenV]; omega
end Go.Proofs.YtfmpjlpakldheaaGreatDoor
