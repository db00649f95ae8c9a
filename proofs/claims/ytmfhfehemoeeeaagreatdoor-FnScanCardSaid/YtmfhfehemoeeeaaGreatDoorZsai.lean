import Derived.Test.YtmfhfehemoeeeaaGreatDoorZsah
import Derived.Deep.RegionLaw
set_option maxRecDepth 100000
set_option maxHeartbeats 1000000
namespace Go.Proofs.YtmfhfehemoeeeaaGreatDoor
open Go.RowKit Go.Proofs.Sha

theorem app_none (n c : Nat) (a : Option Addr) (hnc : n ≤ c) (w : World) (ty : TypeId) : (Builtin.append_ #[27, 27] ty #[.slice a n c, .slice none 0 0]).run Tryz.prog w = .ok (.slice a n c) w := by
  obtain ⟨i0, hi0, hz0, hz1, hz2⟩ := info_parts info9
  cases a with
  | none => simp [Builtin.append_, run_underlying Tryz.underlying27, sizeOf, typeInfo, hi0, Builtin.lenOf, Builtin.firstCells, hnc]
  | some b => simp [Builtin.append_, run_underlying Tryz.underlying27, sizeOf, typeInfo, hi0, Builtin.lenOf, Builtin.firstCells, hnc, storeCells]


/-- Nothing is appended, as one step of a region that draws. -/
theorem step_append_none {P : Program} {ops : Array Oper} {o : Oper} {a : Act} {w : World} {K : Act → World → Prop} {Q : Exit → Act → World → Prop} {E : Prop} (hg : o.guard = none) (s x : Operand) (t : TypeId)
    (hop : o.op = Op.call { callee := Callee.builtin Builtin.append, args := #[s, x], argTypes := #[t, t] }) (v : Value) (hs : a.eval s = v) (hx : a.eval x = .slice none 0 0)
    (hrun : ∀ ty, (Builtin.append_ #[t, t] ty #[v, .slice none 0 0]).run P w = .ok v w) (hK : K (a.put o.dst v) w) : if Region.wanted o (yielded ops a.tmps) = true then Oper.wp P o a w K Q else E := by
  have hw : Region.wanted o (yielded ops a.tmps) = true := by simp [Region.wanted, hg]
  rw [if_pos hw]
  unfold Oper.wp
  simp [execOp, hop, resolve, invoke, builtin, hs, hx, hrun, Result.andThen]
  exact hK

/-- A log in whose block the nodes are joined already: what the rest of accept wants. -/
structure MidAt (lb r base wd ga : Nat) (N : List ByteArray) (st : SS) (rk : Int) (re : ByteArray) (rv : Int) (rr : ByteArray) (rn : Nat) (aN : Option Addr) (cN : Nat) (aR : Option Addr) (cR : Nat) (aA : Option Addr) (cA : Nat) (w w' : World) : Prop where
  blk : w'.heap[lb]? = some (.cells #[.slice aN N.length cN, .slice aR st.roots.length cR, .int .i64 (st.fin : Int), .slice aA st.aside.length cA, .int .i64 (wd : Int), .map (some r)] 76)
  rcd : w'.heap[ga]? = some (.cells #[.int .i64 rk, .string re, .int .i64 rv, .string rr, .int .i64 (rn : Int)] 66)
  oN : w'.ownsRow base 9 1 (.slice aN N.length cN) N.length (N.map Value.string)
  oR : w'.ownsRow base 9 1 (.slice aR st.roots.length cR) st.roots.length (st.roots.map Value.string)
  dNR : ∀ g, (Value.slice aN N.length cN).ownBlock = some g → (Value.slice aR st.roots.length cR).ownBlock ≠ some g
  map : MapF (placesF wd N N.length) r w'
  turn : Turn lb r base w w'
  size : base ≤ w'.heap.size
  gab : base ≤ ga
  hl : lb < base
  hr : r < base
  hne : lb ≠ r
  gN : ∀ g, (Value.slice aN N.length cN).ownBlock = some g → g ≠ ga
  gR : ∀ g, (Value.slice aR st.roots.length cR).ownBlock = some g → g ≠ ga


theorem MidAt.of_more {lb r base wd ga n m k : Nat} {st : SS} {rk : Int} {re : ByteArray} {rv : Int} {rr : ByteArray} {rn : Nat} {aN : Option Addr} {cN : Nat} {aR : Option Addr} {cR : Nat} {aA : Option Addr} {cA : Nat} {w w1 w2 : World} {g2 c2 : Nat}
    (hn : st.nodes.length = n) (hm : st.aside.length = m) (hk : st.roots.length = k) (hga : w.heap.size = ga) (hbA : Below w.heap.size w w1) (hsz : w1.heap.size = w.heap.size + 1)
    (nA : w1.heap[ga]? = some (.cells #[.int .i64 rk, .string re, .int .i64 rv, .string rr, .int .i64 (rn : Int)] 66))
    (hbl : w1.heap[lb]? = some (.cells #[.slice aN n cN, .slice aR k cR, .int .i64 (st.fin : Int), .slice aA m cA, .int .i64 (wd : Int), .map (some r)] 76))
    (hM1 : MapF (placesF wd (st.nodes ++ st.aside) (st.nodes ++ st.aside).length) r w1)
    (oN : w.ownsRow base 9 1 (.slice aN n cN) n (st.nodes.map Value.string)) (oR : w.ownsRow base 9 1 (.slice aR k cR) k (st.roots.map Value.string))
    (dNR : ∀ g, (Value.slice aN n cN).ownBlock = some g → (Value.slice aR k cR).ownBlock ≠ some g) (hlb : lb < base) (hrb : r < base) (hlr : lb ≠ r) (hbs : base ≤ w.heap.size)
    (hown2 : w2.ownsRow base 9 1 (.slice (some ⟨g2, 0, none⟩) (n + m) c2) (n + m) (st.nodes.map Value.string ++ st.aside.map Value.string)) (hgrow2 : w1.drew.grownBy w2 (Value.slice aN n cN).ownBlock)
    (hat2 : (Value.slice aN n cN).ownBlock = some g2 ∨ g2 = w1.heap.size) :
    MidAt lb r base wd ga (st.nodes ++ st.aside) st rk re rv rr rn (some ⟨g2, 0, none⟩) c2 aR cR aA cA w (w2.setCell ⟨lb, 0, none⟩ (.slice (some ⟨g2, 0, none⟩) (n + m) c2)) := by
  have hl : (st.nodes ++ st.aside).length = n + m := by rw [List.length_append, hn, hm]
  have hs2 : w1.heap.size ≤ w2.heap.size := hgrow2.size
  have hgN : ∀ g, (Value.slice aN n cN).ownBlock = some g → base ≤ g ∧ g < w.heap.size := fun g hv => ⟨(own_cells oN hv).1, (own_cells oN hv).2.1⟩
  have h2 : ∀ j, j < w1.heap.size → (Value.slice aN n cN).ownBlock ≠ some j → w2.heap[j]? = w1.heap[j]? := fun j hj hne => hgrow2.block j hj (fun e => hne e.symm)
  have h3 : ∀ j, j < w1.heap.size → (Value.slice aN n cN).ownBlock ≠ some j → j ≠ lb → (w2.setCell ⟨lb, 0, none⟩ (.slice (some ⟨g2, 0, none⟩) (n + m) c2)).heap[j]? = w1.heap[j]? := fun j hj hne hjl => ((grownBy_setCell w2 lb 0 _).block j (by omega) (fun e => hjl (Option.some.inj e))).trans (h2 j hj hne)
  have hlb2 : w2.heap[lb]? = some (.cells #[.slice aN n cN, .slice aR k cR, .int .i64 (st.fin : Int), .slice aA m cA, .int .i64 (wd : Int), .map (some r)] 76) := (h2 lb (by omega) (fun e => by have := (hgN lb e).1; omega)).trans hbl
  have hg2 : base ≤ g2 := (own_cells hown2 rfl).1
  have hz : (w2.setCell ⟨lb, 0, none⟩ (.slice (some ⟨g2, 0, none⟩) (n + m) c2)).heap.size = w2.heap.size := by simp
  refine ⟨?_, ?_, ?_, ?_, ?_, ?_, ?_, by omega, by omega, hlb, hrb, hlr, ?_, ?_⟩
  · rw [hl, hm, hk]; exact heap_setCell_same w2 lb 0 _ 76 _ hlb2
  · exact (h3 ga (by omega) (fun e => by have := (hgN ga e).2; omega) (by omega)).trans nA
  · rw [hl, List.map_append]
    exact own_kept hown2 (fun g hv hg => by have e : g2 = g := Option.some.inj hv; exact (grownBy_setCell w2 lb 0 _).block g hg (fun e' => by have := Option.some.inj e'; omega))
  · rw [hk]
    refine own_kept oR (fun g hv hg => ?_)
    have := (own_cells oR hv).1
    exact (h3 g (by omega) (fun e => dNR g e hv) (by omega)).trans (hbA.block g hg)
  · rw [hl, hk]
    intro g hv e
    obtain rfl : g2 = g := Option.some.inj hv
    rcases hat2 with q | q
    · exact dNR g2 q e
    · have := (own_cells oR e).2.1; omega
  · obtain ⟨es, cl, hh, q1, q2⟩ := hM1.is
    exact ⟨es, cl, (h3 r (by omega) (fun e => by have := (hgN r e).1; omega) (fun e => hlr e.symm)).trans hh, q1, q2⟩
  · have t1 : Turn lb r base w w1 := Turn.of_below hbA hbs
    have t1' : Turn lb r base w1 w1.drew := Turn.of_below (Below.refl _ _).drew (by omega)
    have t2 : Turn lb r base w1.drew w2 := Turn.of_grown hgrow2 (by show base ≤ w1.heap.size; omega) (fun g e => .inr (.inr (hgN g e).1)) (fun g o e _ ho => by
      obtain ⟨_, hl1, cur, hc⟩ := own_cells oN e
      have ho' : w1.heap[g]? = some o := ho
      rw [hbA.block g hl1, hc] at ho'
      cases ho'; exact ⟨_, rfl⟩)
    exact ((t1.trans t1').trans t2).trans (Turn.setCell w2 0 _ (by omega) hlb)
  · rw [hl]
    intro g hv e
    obtain rfl : g2 = g := Option.some.inj hv
    rcases hat2 with q | q
    · have := (hgN g2 q).2; omega
    · omega
  · rw [hk]
    intro g hv e
    have := (own_cells oR hv).2.1
    omega

/-- Behind the second statement: what was put aside is gone. -/
structure MidB (lb r base wd ga : Nat) (N Rs : List ByteArray) (fin : Nat) (rk : Int) (re : ByteArray) (rv : Int) (rr : ByteArray) (rn : Nat) (aN : Option Addr) (cN : Nat) (aR : Option Addr) (cR : Nat) (w w' : World) : Prop where
  blk : w'.heap[lb]? = some (.cells #[.slice aN N.length cN, .slice aR Rs.length cR, .int .i64 (fin : Int), .slice none 0 0, .int .i64 (wd : Int), .map (some r)] 76)
  rcd : w'.heap[ga]? = some (.cells #[.int .i64 rk, .string re, .int .i64 rv, .string rr, .int .i64 (rn : Int)] 66)
  oN : w'.ownsRow base 9 1 (.slice aN N.length cN) N.length (N.map Value.string)
  oR : w'.ownsRow base 9 1 (.slice aR Rs.length cR) Rs.length (Rs.map Value.string)
  dNR : ∀ g, (Value.slice aN N.length cN).ownBlock = some g → (Value.slice aR Rs.length cR).ownBlock ≠ some g
  map : MapF (placesF wd N N.length) r w'
  turn : Turn lb r base w w'
  size : base ≤ w'.heap.size
  gab : base ≤ ga
  hl : lb < base
  hr : r < base
  hne : lb ≠ r
  gN : ∀ g, (Value.slice aN N.length cN).ownBlock = some g → g ≠ ga
  gR : ∀ g, (Value.slice aR Rs.length cR).ownBlock = some g → g ≠ ga
theorem own_set {w : World} {base lb n o : Nat} {x v : Value} {xs : List Value} (h : w.ownsRow base 9 1 v n xs) (hl : lb < base) : (w.setCell ⟨lb, o, none⟩ x).ownsRow base 9 1 v n xs :=
  own_kept h (fun g hv hg => (grownBy_setCell w lb o x).block g hg (fun e => by have := (own_cells h hv).1; have := Option.some.inj e; omega))
theorem MidAt.next {lb r base wd ga : Nat} {N : List ByteArray} {st : SS} {rk : Int} {re : ByteArray} {rv : Int} {rr : ByteArray} {rn : Nat} {aN : Option Addr} {cN : Nat} {aR : Option Addr} {cR : Nat} {aA : Option Addr} {cA : Nat} {w w' : World} (h : MidAt lb r base wd ga N st rk re rv rr rn aN cN aR cR aA cA w w') :
    MidB lb r base wd ga N st.roots st.fin rk re rv rr rn aN cN aR cR w (w'.setCell ⟨lb, 3, none⟩ (.slice none 0 0)) := by
  have hg := grownBy_setCell w' lb 3 (.slice none 0 0)
  have hl := h.hl
  have hgab := h.gab
  refine ⟨heap_setCell_same w' lb 3 _ 76 _ h.blk, (hg.block ga (Array.getElem?_eq_some_iff.1 h.rcd).1 (fun e => by have := Option.some.inj e; omega)).trans h.rcd, own_set h.oN hl, own_set h.oR hl, h.dNR, h.map.kept hg (fun e => h.hne e.symm), h.turn.trans (Turn.setCell w' 3 _ h.size hl), Nat.le_trans h.size hg.size, hgab, hl, h.hr, h.hne, h.gN, h.gR⟩
theorem LogAt.of_mid {lb r base wd ga : Nat} {N Rs : List ByteArray} {fin : Nat} {rk : Int} {re : ByteArray} {rv : Int} {rr : ByteArray} {rn : Nat} {aN : Option Addr} {cN : Nat} {aR : Option Addr} {cR : Nat} {w W w4 : World} {g4 c4 : Nat} (h : MidB lb r base wd ga N Rs fin rk re rv rr rn aN cN aR cR w W)
    (hown : w4.ownsRow base 9 1 (.slice (some ⟨g4, 0, none⟩) (Rs.length + 1) c4) (Rs.length + 1) (Rs.map Value.string ++ [.string rr])) (hgrow : (W.drew.alloc (.cells #[.string rr] 9)).grownBy w4 (Value.slice aR Rs.length cR).ownBlock)
    (hat : (Value.slice aR Rs.length cR).ownBlock = some g4 ∨ g4 = W.heap.size + 1) (p : Int) (hp : p = ((rn * 64 : Nat) : Int)) :
    LogAt lb r base wd ⟨N, [], Rs ++ [rr], rn * 64, rn⟩ aN cN (some ⟨g4, 0, none⟩) c4 none 0 ((w4.setCell ⟨lb, 1, none⟩ (.slice (some ⟨g4, 0, none⟩) (Rs.length + 1) c4)).setCell ⟨lb, 2, none⟩ (.int .i64 p)) ∧ Turn lb r base w ((w4.setCell ⟨lb, 1, none⟩ (.slice (some ⟨g4, 0, none⟩) (Rs.length + 1) c4)).setCell ⟨lb, 2, none⟩ (.int .i64 p)) := by
  subst hp
  have hbA : Below W.heap.size W (W.drew.alloc (.cells #[.string rr] 9)) := ((Below.refl _ W).drew).alloc (Nat.le_refl _) _
  have hs4 : W.heap.size + 1 ≤ w4.heap.size := by have := hgrow.size; simpa using this
  have hgR : ∀ g, (Value.slice aR Rs.length cR).ownBlock = some g → base ≤ g ∧ g < W.heap.size := fun g hv => ⟨(own_cells h.oR hv).1, (own_cells h.oR hv).2.1⟩
  have h2 : ∀ j, j < W.heap.size → (Value.slice aR Rs.length cR).ownBlock ≠ some j → w4.heap[j]? = W.heap[j]? := fun j hj hne => (hgrow.block j (by simp; omega) (fun e => hne e.symm)).trans (hbA.block j hj)
  have hl := h.hl
  have hr := h.hr
  have hsz := h.size
  have hlen : (Rs ++ [rr]).length = Rs.length + 1 := by simp
  have hlb4 := (h2 lb (by omega) (fun e => by have := (hgR lb e).1; omega)).trans h.blk
  have g1 := grownBy_setCell w4 lb 1 (.slice (some ⟨g4, 0, none⟩) (Rs.length + 1) c4)
  have g2 := grownBy_setCell (w4.setCell ⟨lb, 1, none⟩ (.slice (some ⟨g4, 0, none⟩) (Rs.length + 1) c4)) lb 2 (.int .i64 ((rn * 64 : Nat) : Int))
  have oN4 : w4.ownsRow base 9 1 (.slice aN N.length cN) N.length (N.map Value.string) := own_kept h.oN (fun g hv hg => h2 g hg (h.dNR g hv))
  refine ⟨⟨?_, own_set (own_set oN4 hl) hl, ?_, World.ownsRow_nil _ base 9 1, ?_, (fun g _ e => by cases e), (fun g _ e => by cases e), fun _ => ⟨rfl, rfl⟩, ?_, hl, hr, h.hne, ?_⟩, ?_⟩
  · rw [show (⟨N, [], Rs ++ [rr], rn * 64, rn⟩ : SS).roots.length = Rs.length + 1 from hlen]
    exact heap_setCell_same _ lb 2 _ 76 _ (heap_setCell_same w4 lb 1 _ 76 _ hlb4)
  · show World.ownsRow _ base 9 1 (.slice (some ⟨g4, 0, none⟩) (Rs ++ [rr]).length c4) (Rs ++ [rr]).length ((Rs ++ [rr]).map Value.string)
    rw [hlen, List.map_append]
    exact own_set (own_set hown hl) hl
  · show ∀ g, (Value.slice aN N.length cN).ownBlock = some g → (Value.slice (some ⟨g4, 0, none⟩) (Rs ++ [rr]).length c4).ownBlock ≠ some g
    intro g hv e
    obtain rfl : g4 = g := Option.some.inj e
    rcases hat with q | q
    · exact h.dNR g4 hv q
    · have := (own_cells h.oN hv).2.1; omega
  · show MapF (placesF wd (N ++ []) (N ++ []).length) r _
    rw [List.append_nil]
    obtain ⟨es, cl, hh, q1, q2⟩ := h.map.is
    have hm4 : MapF (placesF wd N N.length) r w4 := ⟨es, cl, (h2 r (by omega) (fun e => by have := (hgR r e).1; omega)).trans hh, q1, q2⟩
    exact (hm4.kept g1 (fun e => h.hne e.symm)).kept g2 (fun e => h.hne e.symm)
  · have := g1.size; have := g2.size; omega
  · have t1 : Turn lb r base W (W.drew.alloc (.cells #[.string rr] 9)) := Turn.of_below hbA (by omega)
    have t2 : Turn lb r base (W.drew.alloc (.cells #[.string rr] 9)) w4 := Turn.of_grown hgrow (by simp; omega) (fun g e => .inr (.inr (hgR g e).1)) (fun g o e _ ho => by
      obtain ⟨_, hl1, cur, hc⟩ := own_cells h.oR e
      rw [hbA.block g hl1, hc] at ho
      cases ho; exact ⟨_, rfl⟩)
    have t3 := Turn.setCell (r := r) w4 1 (.slice (some ⟨g4, 0, none⟩) (Rs.length + 1) c4) (by omega) hl
    have t4 := Turn.setCell (r := r) (w4.setCell ⟨lb, 1, none⟩ (.slice (some ⟨g4, 0, none⟩) (Rs.length + 1) c4)) 2 (.int .i64 ((rn * 64 : Nat) : Int)) (by have := g1.size; omega) hl
    exact (((h.turn.trans t1).trans t2).trans t3).trans t4

theorem MidAt.of_none {lb r base wd ga n k : Nat} {st : SS} {rk : Int} {re : ByteArray} {rv : Int} {rr : ByteArray} {rn : Nat} {aN : Option Addr} {cN : Nat} {aR : Option Addr} {cR : Nat} {w w1 : World}
    (hn : st.nodes.length = n) (hm : st.aside = []) (hk : st.roots.length = k) (hga : w.heap.size = ga) (hbA : Below w.heap.size w w1) (hsz : w1.heap.size = w.heap.size + 1)
    (nA : w1.heap[ga]? = some (.cells #[.int .i64 rk, .string re, .int .i64 rv, .string rr, .int .i64 (rn : Int)] 66))
    (hbl : w1.heap[lb]? = some (.cells #[.slice aN n cN, .slice aR k cR, .int .i64 (st.fin : Int), .slice none 0 0, .int .i64 (wd : Int), .map (some r)] 76))
    (hM1 : MapF (placesF wd (st.nodes ++ st.aside) (st.nodes ++ st.aside).length) r w1)
    (oN : w.ownsRow base 9 1 (.slice aN n cN) n (st.nodes.map Value.string)) (oR : w.ownsRow base 9 1 (.slice aR k cR) k (st.roots.map Value.string))
    (dNR : ∀ g, (Value.slice aN n cN).ownBlock = some g → (Value.slice aR k cR).ownBlock ≠ some g) (hlb : lb < base) (hrb : r < base) (hlr : lb ≠ r) (hbs : base ≤ w.heap.size) :
    MidAt lb r base wd ga (st.nodes ++ st.aside) st rk re rv rr rn aN cN aR cR none 0 w (w1.drew.setCell ⟨lb, 0, none⟩ (.slice aN n cN)) := by
  have hl : (st.nodes ++ st.aside).length = n := by rw [hm, List.append_nil, hn]
  have hl' : st.nodes ++ st.aside = st.nodes := by rw [hm, List.append_nil]
  have hs : st.aside.length = 0 := by rw [hm]; rfl
  have g1 := grownBy_setCell w1.drew lb 0 (.slice aN n cN)
  have hb1 : Below w.heap.size w w1.drew := hbA.drew
  have oN1 : w1.drew.ownsRow base 9 1 (.slice aN n cN) n (st.nodes.map Value.string) := own_kept oN (fun g hv hg => hb1.block g hg)
  have oR1 : w1.drew.ownsRow base 9 1 (.slice aR k cR) k (st.roots.map Value.string) := own_kept oR (fun g hv hg => hb1.block g hg)
  have hz : w1.drew.heap.size = w.heap.size + 1 := hsz
  refine ⟨?_, ?_, ?_, ?_, ?_, ?_, ?_, ?_, by omega, hlb, hrb, hlr, ?_, ?_⟩
  · rw [hl, hs, hk]; exact heap_setCell_same w1.drew lb 0 _ 76 _ hbl
  · exact (g1.block ga (by omega) (fun e => by have := Option.some.inj e; omega)).trans nA
  · rw [hl, hl']; exact own_set oN1 hlb
  · rw [hk]; exact own_set oR1 hlb
  · rw [hl, hk]; exact dNR
  · have hM2 : MapF (placesF wd (st.nodes ++ st.aside) (st.nodes ++ st.aside).length) r w1.drew := hM1.below (Below.refl _ _).drew
    exact hM2.kept g1 (fun e => hlr e.symm)
  · exact (Turn.of_below hb1 hbs).trans (Turn.setCell w1.drew 0 _ (by omega) hlb)
  · have := g1.size; omega
  · rw [hl]; intro g hv e; have := (own_cells oN hv).2.1; omega
  · rw [hk]; intro g hv e; have := (own_cells oR hv).2.1; omega

theorem accept_more (lb r base wd : Nat) (st : SS) (aN : Option Addr) (cN : Nat) (aR : Option Addr) (cR : Nat) (aA : Option Addr) (cA : Nat) (R : RecT) (w : World) (h : LogAt lb r base wd st aN cN aR cR aA cA w) (hlen : st.nodes.length + st.aside.length + st.roots.length ≤ 100000) (hnx : R.nx ≤ 100000) (hne : st.aside ≠ []) :
    Calls Tryz.prog 37 #[.pointer (some ⟨lb, 0, none⟩), recV R.k R.enc R.v R.root (R.nx : Int)] w fun e w' => ∃ aN' cN' aR' cR', e = .returned (.tuple #[]) ∧ LogAt lb r base wd ⟨st.nodes ++ st.aside, [], st.roots ++ [R.root], R.nx * 64, R.nx⟩ aN' cN' aR' cR' none 0 w' ∧ Turn lb r base w w' := by
  obtain ⟨i0, hi0, hz0, hz1, hz2⟩ := info_parts info9
  have hblk := h.blk
  have hlb := h.hl
  have hrb := h.hr
  have hlr := h.hne
  have hbs := h.hb
  have oN := h.oN
  have oA := h.oA
  have oR := h.oR
  have hM := h.map
  have dNA := h.dNA
  have dNR := h.dNR
  obtain ⟨n, hn⟩ : ∃ n, st.nodes.length = n := ⟨_, rfl⟩
  obtain ⟨m, hm⟩ : ∃ m, st.aside.length = m := ⟨_, rfl⟩
  obtain ⟨k, hk⟩ : ∃ k, st.roots.length = k := ⟨_, rfl⟩
  rw [hn, hm, hk] at hblk hlen
  rw [hn, hm] at dNA
  rw [hn, hk] at dNR
  rw [hn] at oN
  rw [hm] at oA
  rw [hk] at oR
  obtain ⟨rk, re, rv, rr, rn⟩ := R
  simp only at hnx ⊢
  have hlt : lb < w.heap.size := by omega
  have hbA : Below w.heap.size w (w.alloc (.cells #[.int .i64 rk, .string re, .int .i64 rv, .string rr, .int .i64 (rn : Int)] 66)) := (Below.refl _ _).alloc (Nat.le_refl _) _
  have nA := heap_alloc_new w (.cells #[.int .i64 rk, .string re, .int .i64 rv, .string rr, .int .i64 (rn : Int)] 66)
  have hbl := (hbA.block lb hlt).trans hblk
  have hM1 := hM.below hbA
  have oN1 : (w.alloc (.cells #[.int .i64 rk, .string re, .int .i64 rv, .string rr, .int .i64 (rn : Int)] 66)).drew.ownsRow base 9 1 (.slice aN n cN) n (st.nodes.map Value.string) := own_kept (oN.alloc _) (fun _ _ _ => rfl)
  have oR1 : (w.alloc (.cells #[.int .i64 rk, .string re, .int .i64 rv, .string rr, .int .i64 (rn : Int)] 66)).drew.ownsRow base 9 1 (.slice aR k cR) k (st.roots.map Value.string) := own_kept (oR.alloc _) (fun _ _ _ => rfl)
  have hsz : (w.alloc (.cells #[.int .i64 rk, .string re, .int .i64 rv, .string rr, .int .i64 (rn : Int)] 66)).heap.size = w.heap.size + 1 := by simp
  obtain ⟨ga, hga⟩ : ∃ ga, w.heap.size = ga := ⟨_, rfl⟩
  rw [hga] at nA
  have hgab : base ≤ ga := by omega
  have hm0 : 0 < m := by rw [← hm]; exact List.length_pos_iff.2 hne
  obtain ⟨gA, cA', hAe, _, _⟩ := oA.form hm0
  obtain ⟨rfl, rfl⟩ : aA = some ⟨gA, 0, none⟩ ∧ cA = cA' := by simpa using hAe
  have hnews1 : ∀ j u, (st.aside.map Value.string)[j]? = some u → (w.alloc (.cells #[.int .i64 rk, .string re, .int .i64 rv, .string rr, .int .i64 (rn : Int)] 66)).drew.cell? ((⟨gA, 0, none⟩ : Addr).add j) = some u := fun j u hu => (oA.alloc _).cells (g := gA) rfl j u hu
  have hml : (st.aside.map Value.string).length = m * 1 := by rw [List.length_map, hm, Nat.mul_one]
  have hone : ∀ u ∈ st.aside.map Value.string, u.oneCell' = true := fun u hu => by obtain ⟨x, _, rfl⟩ := List.mem_map.1 hu; rfl
  have HMk : Hid (∀ w1 : World, Below w.heap.size w w1 → w1.heap.size = w.heap.size + 1 → w1.heap[ga]? = some (.cells #[.int .i64 rk, .string re, .int .i64 rv, .string rr, .int .i64 (rn : Int)] 66) → w1.heap[lb]? = some (.cells #[.slice aN n cN, .slice aR k cR, .int .i64 (st.fin : Int), .slice (some ⟨gA, 0, none⟩) m cA, .int .i64 (wd : Int), .map (some r)] 76) → MapF (placesF wd (st.nodes ++ st.aside) (st.nodes ++ st.aside).length) r w1 → ∀ w2 g2 c2,
      w2.ownsRow base 9 1 (.slice (some ⟨g2, 0, none⟩) (n + m) c2) (n + m) (st.nodes.map Value.string ++ st.aside.map Value.string) → w1.drew.grownBy w2 (Value.slice aN n cN).ownBlock → ((Value.slice aN n cN).ownBlock = some g2 ∨ g2 = w1.heap.size) →
      MidAt lb r base wd ga (st.nodes ++ st.aside) st rk re rv rr rn (some ⟨g2, 0, none⟩) c2 aR cR (some ⟨gA, 0, none⟩) cA w (w2.setCell ⟨lb, 0, none⟩ (.slice (some ⟨g2, 0, none⟩) (n + m) c2))) := fun w1 q1 q2 q3 q4 q5 w2 g2 c2 q6 q7 q8 => MidAt.of_more hn hm hk hga q1 q2 q3 q4 q5 oN oR dNR hlb hrb hlr hbs q6 q7 q8
  obtain ⟨p, hp⟩ : ∃ p : Int, (rn : Int) * 64 = p := ⟨_, rfl⟩
  have hpe : p = ((rn * 64 : Nat) : Int) := by rw [← hp]; simp
  have hq : -9223372036854775808 ≤ p ∧ p ≤ 9223372036854775807 := by omega
  have y1 : wrap64 ((rn : Int) * 64) = p := by rw [hp]; exact wr_in _ hq
  have y2 : IntKind.i64.wrap ((rn : Int) * 64) = p := by rw [hp]; exact wrapI_in p hq
  replace hpe : Hid _ := hpe
  have hkk : st.roots.length ≤ 100000 := by omega
  clear hp hq
  clear hblk h hM hAe hne dNA dNR oN oR oA hn hm hk
  go_enter Tryz.func37, Tryz.ntmps37
  go_upto_region 1 with fail
  try rw [hga]
  generalize hw1 : w.alloc (.cells #[.int .i64 rk, .string re, .int .i64 rv, .string rr, .int .i64 (rn : Int)] 66) = w1 at hbA nA hbl hM1 oN1 oR1 hsz hnews1 ⊢
  clear hw1
  have HC : Hid (∀ W : World, W.heap[lb]? = w1.heap[lb]? → W.cell? ⟨lb, 0, none⟩ = some (.slice aN n cN) ∧ W.cell? ⟨lb, 3, none⟩ = some (.slice (some ⟨gA, 0, none⟩) m cA)) := fun W hW => by
    have hb := hW.trans hbl
    exact ⟨Lib.cell_of_heap hb 0, Lib.cell_of_heap hb 3⟩
  have hlt1 : lb < w1.heap.size := by omega
  have HB : Hid (∀ W : World, W.heap[lb]? = w1.heap[lb]? → (∀ j, W.frozen? ⟨lb, j, none⟩ = false)) := fun W hW j => by rw [World.frozen?, hW, hbl]; rfl
  have c0 := (HC.out _ rfl).1
  have c3 := (HC.out _ rfl).2
  go_region_law ((refine step_append_lies _ (by rfl) (.tmp 9) (.tmp 13) 27 (by rfl) base 9 i0 (.string ⟨#[]⟩) 1 16 Tryz.underlying27 hi0 hz0 hz1 hz2 (by rfl) (by decide) (.slice aN n cN) n (st.nodes.map Value.string) (by rfl) oN1 ⟨gA, 0, none⟩ m cA (st.aside.map Value.string) (by rfl) hml hnews1 hone hm0 (by unfold maxLen; omega) (by omega) (by show base ≤ w1.heap.size; omega) (w1.heap.size) (by rfl) ?_; intro g2 c2 w2 hown2 hgrow2 hat2 hlt2; have hlb2 : w2.heap[lb]? = w1.heap[lb]? := hgrow2.block lb hlt1 (fun e => by have := (own_cells oN1 e.symm).1; omega); have k0 := (HC.out _ hlb2).1; have f0 := HB.out _ hlb2 0))
  all_goals (
    obtain ⟨W2, hW2⟩ : ∃ W2, w2.setCell ⟨lb, 0, none⟩ (.slice (some ⟨g2, 0, none⟩) (n + m) c2) = W2 := ⟨_, rfl⟩
    have HM : Hid (MidAt lb r base wd ga (st.nodes ++ st.aside) st rk re rv rr rn (some ⟨g2, 0, none⟩) c2 aR cR (some ⟨gA, 0, none⟩) cA w W2) := by rw [← hW2]; exact HMk.out w1 hbA hsz nA hbl hM1 w2 g2 c2 hown2 hgrow2 hat2
    rw [hW2]
    clear hW2 hown2 hgrow2 hat2 hlt2 hlb2 k0 f0 c0 c3 HC HB hnews1 oN1 oR1 hM1 hbl nA hbA hsz HMk
    have hb2 := HM.out.blk
    have f3 : W2.frozen? ⟨lb, 3, none⟩ = false := by rw [World.frozen?, hb2]; rfl
    have k3 := Lib.cell_of_heap hb2 3
    clear hb2
    go_wp2_with fail
    obtain ⟨W3, hW3⟩ : ∃ W3, W2.setCell ⟨lb, 3, none⟩ (.slice none 0 0) = W3 := ⟨_, rfl⟩
    have HM3 := HM.out.next
    rw [hW3] at HM3
    rw [hW3]
    clear hW3 HM k3 f3
    have hb3 := HM3.blk
    have r3 := HM3.rcd
    have hlt3 : lb < W3.heap.size := by have := HM3.size; omega
    have hgt3 : ga < W3.heap.size := (Array.getElem?_eq_some_iff.1 r3).1
    have oR3 : W3.drew.ownsRow base 9 1 (.slice aR st.roots.length cR) st.roots.length (st.roots.map Value.string) := own_kept HM3.oR (fun _ _ _ => rfl)
    have hs3 := HM3.size
    have hbB : Below W3.heap.size W3 (W3.drew.alloc (.cells #[.string rr] 9)) := ((Below.refl _ W3).drew).alloc (Nat.le_refl _) _
    have a1 : ∀ o : Obj, (W3.drew.alloc o).cell? ⟨lb, 1, none⟩ = some (.slice aR st.roots.length cR) := fun o => Lib.cell_of_heap ((Below.heap_alloc W3.drew o lb hlt3).trans hb3) 1
    have a0 : W3.cell? ⟨lb, 1, none⟩ = some (.slice aR st.roots.length cR) := Lib.cell_of_heap hb3 1
    have b0 : W3.cell? ⟨ga, 3, none⟩ = some (.string rr) := Lib.cell_of_heap r3 3
    have HMx : Hid _ := HM3
    have hb3h : Hid _ := hb3
    have r3h : Hid _ := r3
    clear HM3 hb3 r3
    go_region_law ((refine step_append_lies _ (by rfl) (.tmp 26) (.tmp 29) 27 (by rfl) base 9 i0 (.string ⟨#[]⟩) 1 16 Tryz.underlying27 hi0 hz0 hz1 hz2 (by rfl) (by decide) (.slice aR st.roots.length cR) st.roots.length (st.roots.map Value.string) (by rfl) (oR3.alloc _) ⟨W3.heap.size, 0, none⟩ 1 1 [.string rr] (by rfl) (by rfl) (World.news_of_block (heap_alloc_new W3.drew _)) (by simp [Value.oneCell']) (by decide) (by unfold maxLen; omega) (by omega) (by simp; omega) (W3.heap.size + 1) (by simp) ?_; intro g4 c4 w4 hown4 hgrow4 hat4 hlt4; have hlb4 := ((hgrow4.block lb (by simp; omega) (fun e => by have := (own_cells oR3 e.symm).1; omega)).trans (hbB.block lb hlt3)).trans hb3h.out; have k1 := Lib.cell_of_heap hlb4 1; have f1 : w4.frozen? ⟨lb, 1, none⟩ = false := by rw [World.frozen?, hlb4]; rfl))
    all_goals (
      have hga4 := (hgrow4.block ga (by simp; omega) (fun e => HMx.out.gR ga e.symm rfl)).trans ((hbB.block ga hgt3).trans r3h.out)
      have HE := LogAt.of_mid HMx.out hown4 hgrow4 hat4 p hpe.out
      have hlb5 := heap_setCell_same w4 lb 1 _ 76 (.slice (some ⟨g4, 0, none⟩) (st.roots.length + 1) c4) hlb4
      have hga5 := ((grownBy_setCell w4 lb 1 (.slice (some ⟨g4, 0, none⟩) (st.roots.length + 1) c4)).block ga (Array.getElem?_eq_some_iff.1 hga4).1 (fun e => by have := Option.some.inj e; omega)).trans hga4
      clear k1 f1 hlb4 hga4 hown4 hgrow4 hat4 hlt4 a0 a1 b0
      generalize w4.setCell ⟨lb, 1, none⟩ (.slice (some ⟨g4, 0, none⟩) (st.roots.length + 1) c4) = W5 at HE hlb5 hga5 ⊢
      have f2 : W5.frozen? ⟨lb, 2, none⟩ = false := by rw [World.frozen?, hlb5]; rfl
      have k2 := Lib.cell_of_heap hlb5 2
      have k4 := Lib.cell_of_heap hga5 4
      have HEh : Hid _ := HE
      clear HE hlb5 hga5
      go_wp2_with fail
      go_end0
      exact ⟨_, _, _, _, rfl, HEh.out.1, HEh.out.2⟩))

theorem accept_none (lb r base wd : Nat) (st : SS) (aN : Option Addr) (cN : Nat) (aR : Option Addr) (cR : Nat) (aA : Option Addr) (cA : Nat) (R : RecT) (w : World) (h : LogAt lb r base wd st aN cN aR cR aA cA w) (hlen : st.nodes.length + st.aside.length + st.roots.length ≤ 100000) (hnx : R.nx ≤ 100000) (hne : st.aside = []) :
    Calls Tryz.prog 37 #[.pointer (some ⟨lb, 0, none⟩), recV R.k R.enc R.v R.root (R.nx : Int)] w fun e w' => ∃ aN' cN' aR' cR', e = .returned (.tuple #[]) ∧ LogAt lb r base wd ⟨st.nodes ++ st.aside, [], st.roots ++ [R.root], R.nx * 64, R.nx⟩ aN' cN' aR' cR' none 0 w' ∧ Turn lb r base w w' := by
  obtain ⟨i0, hi0, hz0, hz1, hz2⟩ := info_parts info9
  have hblk := h.blk
  have hlb := h.hl
  have hrb := h.hr
  have hlr := h.hne
  have hbs := h.hb
  have oN := h.oN
  have oA := h.oA
  have oR := h.oR
  have hM := h.map
  have dNA := h.dNA
  have dNR := h.dNR
  obtain ⟨n, hn⟩ : ∃ n, st.nodes.length = n := ⟨_, rfl⟩
  obtain ⟨m, hm⟩ : ∃ m, st.aside.length = m := ⟨_, rfl⟩
  obtain ⟨k, hk⟩ : ∃ k, st.roots.length = k := ⟨_, rfl⟩
  rw [hn, hm, hk] at hblk hlen
  rw [hn, hm] at dNA
  rw [hn, hk] at dNR
  rw [hn] at oN
  rw [hm] at oA
  rw [hk] at oR
  obtain ⟨rk, re, rv, rr, rn⟩ := R
  simp only at hnx ⊢
  have hlt : lb < w.heap.size := by omega
  have hbA : Below w.heap.size w (w.alloc (.cells #[.int .i64 rk, .string re, .int .i64 rv, .string rr, .int .i64 (rn : Int)] 66)) := (Below.refl _ _).alloc (Nat.le_refl _) _
  have nA := heap_alloc_new w (.cells #[.int .i64 rk, .string re, .int .i64 rv, .string rr, .int .i64 (rn : Int)] 66)
  have hbl := (hbA.block lb hlt).trans hblk
  have hM1 := hM.below hbA
  have oN1 : (w.alloc (.cells #[.int .i64 rk, .string re, .int .i64 rv, .string rr, .int .i64 (rn : Int)] 66)).drew.ownsRow base 9 1 (.slice aN n cN) n (st.nodes.map Value.string) := own_kept (oN.alloc _) (fun _ _ _ => rfl)
  have oR1 : (w.alloc (.cells #[.int .i64 rk, .string re, .int .i64 rv, .string rr, .int .i64 (rn : Int)] 66)).drew.ownsRow base 9 1 (.slice aR k cR) k (st.roots.map Value.string) := own_kept (oR.alloc _) (fun _ _ _ => rfl)
  have hsz : (w.alloc (.cells #[.int .i64 rk, .string re, .int .i64 rv, .string rr, .int .i64 (rn : Int)] 66)).heap.size = w.heap.size + 1 := by simp
  obtain ⟨ga, hga⟩ : ∃ ga, w.heap.size = ga := ⟨_, rfl⟩
  rw [hga] at nA
  have hgab : base ≤ ga := by omega
  have hm1 : m = 0 := by rw [← hm, hne]; rfl
  subst hm1
  obtain ⟨rfl, rfl⟩ := h.zA hne
  have hnc : n ≤ cN := by
    rcases oN.2 with ⟨e, h0⟩ | ⟨g, cap, cur, e, _, _, hle, _⟩
    · omega
    · simp only [Value.slice.injEq] at e; omega
  have HMk : Hid (∀ w1 : World, Below w.heap.size w w1 → w1.heap.size = w.heap.size + 1 → w1.heap[ga]? = some (.cells #[.int .i64 rk, .string re, .int .i64 rv, .string rr, .int .i64 (rn : Int)] 66) → w1.heap[lb]? = some (.cells #[.slice aN n cN, .slice aR k cR, .int .i64 (st.fin : Int), .slice none 0 0, .int .i64 (wd : Int), .map (some r)] 76) → MapF (placesF wd (st.nodes ++ st.aside) (st.nodes ++ st.aside).length) r w1 →
      MidAt lb r base wd ga (st.nodes ++ st.aside) st rk re rv rr rn aN cN aR cR none 0 w (w1.drew.setCell ⟨lb, 0, none⟩ (.slice aN n cN))) := fun w1 q1 q2 q3 q4 q5 => MidAt.of_none hn hne hk hga q1 q2 q3 q4 q5 oN oR dNR hlb hrb hlr hbs
  obtain ⟨p, hp⟩ : ∃ p : Int, (rn : Int) * 64 = p := ⟨_, rfl⟩
  have hpe : p = ((rn * 64 : Nat) : Int) := by rw [← hp]; simp
  have hq : -9223372036854775808 ≤ p ∧ p ≤ 9223372036854775807 := by omega
  have y1 : wrap64 ((rn : Int) * 64) = p := by rw [hp]; exact wr_in _ hq
  have y2 : IntKind.i64.wrap ((rn : Int) * 64) = p := by rw [hp]; exact wrapI_in p hq
  replace hpe : Hid _ := hpe
  have hkk : st.roots.length ≤ 100000 := by omega
  clear hp hq
  clear hblk h hM hne dNA dNR oN oR oA hn hm hk
  go_enter Tryz.func37, Tryz.ntmps37
  go_upto_region 1 with fail
  try rw [hga]
  generalize hw1 : w.alloc (.cells #[.int .i64 rk, .string re, .int .i64 rv, .string rr, .int .i64 (rn : Int)] 66) = w1 at hbA nA hbl hM1 oN1 oR1 hsz ⊢
  clear hw1
  have HC : Hid (∀ W : World, W.heap[lb]? = w1.heap[lb]? → W.cell? ⟨lb, 0, none⟩ = some (.slice aN n cN) ∧ W.cell? ⟨lb, 3, none⟩ = some (.slice none 0 0)) := fun W hW => by
    have hb := hW.trans hbl
    exact ⟨Lib.cell_of_heap hb 0, Lib.cell_of_heap hb 3⟩
  have hlt1 : lb < w1.heap.size := by omega
  have HB : Hid (∀ W : World, W.heap[lb]? = w1.heap[lb]? → (∀ j, W.frozen? ⟨lb, j, none⟩ = false)) := fun W hW j => by rw [World.frozen?, hW, hbl]; rfl
  have c0 := (HC.out _ rfl).1
  have c3 := (HC.out _ rfl).2
  have f0 := HB.out _ rfl 0
  go_region_law ((refine step_append_none (by rfl) (.tmp 9) (.tmp 13) 27 (by rfl) (.slice aN n cN) (by rfl) (by rfl) (fun ty => app_none n cN aN hnc _ ty) ?_))
  all_goals (
    replace HMk := HMk.out w1 hbA hsz nA hbl hM1
    have e12 : w1.drew.setCell ⟨lb, 0, none⟩ (.slice aN n cN) = (w1.setCell ⟨lb, 0, none⟩ (.slice aN n cN)).drew := rfl
    rw [e12] at HMk
    obtain ⟨W2, hW2⟩ : ∃ W2, (w1.setCell ⟨lb, 0, none⟩ (.slice aN n cN)).drew = W2 := ⟨_, rfl⟩
    have HM : Hid (MidAt lb r base wd ga (st.nodes ++ st.aside) st rk re rv rr rn aN cN aR cR none 0 w W2) := by rw [← hW2]; exact HMk
    rw [hW2]
    clear hW2 f0 c0 c3 HC HB oN1 oR1 hM1 hbl nA hbA hsz HMk
    have hb2 := HM.out.blk
    have f3 : W2.frozen? ⟨lb, 3, none⟩ = false := by rw [World.frozen?, hb2]; rfl
    have k3 := Lib.cell_of_heap hb2 3
    clear hb2
    go_wp2_with fail
    obtain ⟨W3, hW3⟩ : ∃ W3, W2.setCell ⟨lb, 3, none⟩ (.slice none 0 0) = W3 := ⟨_, rfl⟩
    have HM3 := HM.out.next
    rw [hW3] at HM3
    rw [hW3]
    clear hW3 HM k3 f3
    have hb3 := HM3.blk
    have r3 := HM3.rcd
    have hlt3 : lb < W3.heap.size := by have := HM3.size; omega
    have hgt3 : ga < W3.heap.size := (Array.getElem?_eq_some_iff.1 r3).1
    have oR3 : W3.drew.ownsRow base 9 1 (.slice aR st.roots.length cR) st.roots.length (st.roots.map Value.string) := own_kept HM3.oR (fun _ _ _ => rfl)
    have hs3 := HM3.size
    have hbB : Below W3.heap.size W3 (W3.drew.alloc (.cells #[.string rr] 9)) := ((Below.refl _ W3).drew).alloc (Nat.le_refl _) _
    have a1 : ∀ o : Obj, (W3.drew.alloc o).cell? ⟨lb, 1, none⟩ = some (.slice aR st.roots.length cR) := fun o => Lib.cell_of_heap ((Below.heap_alloc W3.drew o lb hlt3).trans hb3) 1
    have a0 : W3.cell? ⟨lb, 1, none⟩ = some (.slice aR st.roots.length cR) := Lib.cell_of_heap hb3 1
    have b0 : W3.cell? ⟨ga, 3, none⟩ = some (.string rr) := Lib.cell_of_heap r3 3
    have HMx : Hid _ := HM3
    have hb3h : Hid _ := hb3
    have r3h : Hid _ := r3
    clear HM3 hb3 r3
    go_region_law ((refine step_append_lies _ (by rfl) (.tmp 26) (.tmp 29) 27 (by rfl) base 9 i0 (.string ⟨#[]⟩) 1 16 Tryz.underlying27 hi0 hz0 hz1 hz2 (by rfl) (by decide) (.slice aR st.roots.length cR) st.roots.length (st.roots.map Value.string) (by rfl) (oR3.alloc _) ⟨W3.heap.size, 0, none⟩ 1 1 [.string rr] (by rfl) (by rfl) (World.news_of_block (heap_alloc_new W3.drew _)) (by simp [Value.oneCell']) (by decide) (by unfold maxLen; omega) (by omega) (by simp; omega) (W3.heap.size + 1) (by simp) ?_; intro g4 c4 w4 hown4 hgrow4 hat4 hlt4; have hlb4 := ((hgrow4.block lb (by simp; omega) (fun e => by have := (own_cells oR3 e.symm).1; omega)).trans (hbB.block lb hlt3)).trans hb3h.out; have k1 := Lib.cell_of_heap hlb4 1; have f1 : w4.frozen? ⟨lb, 1, none⟩ = false := by rw [World.frozen?, hlb4]; rfl))
    all_goals (
      have hga4 := (hgrow4.block ga (by simp; omega) (fun e => HMx.out.gR ga e.symm rfl)).trans ((hbB.block ga hgt3).trans r3h.out)
      have HE := LogAt.of_mid HMx.out hown4 hgrow4 hat4 p hpe.out
      have hlb5 := heap_setCell_same w4 lb 1 _ 76 (.slice (some ⟨g4, 0, none⟩) (st.roots.length + 1) c4) hlb4
      have hga5 := ((grownBy_setCell w4 lb 1 (.slice (some ⟨g4, 0, none⟩) (st.roots.length + 1) c4)).block ga (Array.getElem?_eq_some_iff.1 hga4).1 (fun e => by have := Option.some.inj e; omega)).trans hga4
      clear k1 f1 hlb4 hga4 hown4 hgrow4 hat4 hlt4 a0 a1 b0
      generalize w4.setCell ⟨lb, 1, none⟩ (.slice (some ⟨g4, 0, none⟩) (st.roots.length + 1) c4) = W5 at HE hlb5 hga5 ⊢
      have f2 : W5.frozen? ⟨lb, 2, none⟩ = false := by rw [World.frozen?, hlb5]; rfl
      have k2 := Lib.cell_of_heap hlb5 2
      have k4 := Lib.cell_of_heap hga5 4
      have HEh : Hid _ := HE
      clear HE hlb5 hga5
      go_wp2_with fail
      go_end0
      exact ⟨_, _, _, _, rfl, HEh.out.1, HEh.out.2⟩))

theorem accept_any (lb r base wd : Nat) (st : SS) (aN : Option Addr) (cN : Nat) (aR : Option Addr) (cR : Nat) (aA : Option Addr) (cA : Nat) (R : RecT) (w : World) (h : LogAt lb r base wd st aN cN aR cR aA cA w) (hlen : st.nodes.length + st.aside.length + st.roots.length ≤ 100000) (hnx : R.nx ≤ 100000) :
    Calls Tryz.prog 37 #[.pointer (some ⟨lb, 0, none⟩), recV R.k R.enc R.v R.root (R.nx : Int)] w fun e w' => ∃ aN' cN' aR' cR', e = .returned (.tuple #[]) ∧ LogAt lb r base wd ⟨st.nodes ++ st.aside, [], st.roots ++ [R.root], R.nx * 64, R.nx⟩ aN' cN' aR' cR' none 0 w' ∧ Turn lb r base w w' := by
  by_cases hne : st.aside = []
  · exact accept_none lb r base wd st aN cN aR cR aA cA R w h hlen hnx hne
  · exact accept_more lb r base wd st aN cN aR cR aA cA R w h hlen hnx hne
end Go.Proofs.YtmfhfehemoeeeaaGreatDoor
