import Derived.Test.YtibjhkpgaaapaaaGreatDoorZxbf
import Derived.Test.YtibjhkpgaaapaaaGreatDoorZxbe
import Derived.Test.YtibjhkpgaaapaaaGreatDoorZxak
import Derived.Test.YtibjhkpgaaapaaaGreatDoorZxbd
import Derived.Test.YtibjhkpgaaapaaaGreatDoorZxba
import Derived.Deep.AppendLies
namespace Go.Proofs.YtibjhkpgaaapaaaGreatDoor
open Go.RowKit Go.Proofs.Sha

theorem go_all (fnd : ByteArray → FN) (wd : Nat) (hfo : FndOk wd fnd) (a : Option Addr) (n c g c' : Nat) (lo hi : ByteArray) (hlo : lo.size ≤ 1048576) (hhi : hi.size ≤ 1048576) (w0 : World)
    (HF : Hid (∀ (w' : World) (hash : ByteArray), Below w0.heap.size w0 w' → Calls Tryz.prog 107 #[.agg #[.int .i64 (wd : Int), .slice a n c], .slice (some ⟨g, 0, none⟩) n c', .string hash] w' fun e w'' => e = .returned (nodeT (fnd hash)) ∧ Below w'.heap.size w' w'')) :
    ∀ (f : Nat) (hash over under par : ByteArray) (cnt : Nat) (w : World), 500 < cnt + f → cnt ≤ 500 → Below w0.heap.size w0 w → over.size ≤ 1048576 → under.size ≤ 1048576 → par.size ≤ 1048576 →
    Calls Tryz.prog 105 #[.agg #[.int .i64 (wd : Int), .slice a n c], .slice (some ⟨g, 0, none⟩) n c', .string hash, .string par, .agg #[.string over, .string under], .string lo, .string hi, .int .i64 (cnt : Int)] w (GoPost (goF fnd hgW lo hi f hash over under par cnt) w)
  | 0, _, _, _, _, cnt, _, h, hc, _, _, _, _ => by omega
  | f + 1, hash, over, under, par, cnt, w, h, hc, hw, ho, hu, hp =>
    go_step fnd wd hfo a n c g c' lo hi hlo hhi w0 HF f hash over under par cnt (fun hash over under par cnt' w' h1 h2 hb ho hu hp => go_all fnd wd hfo a n c g c' lo hi hlo hhi w0 HF f hash over under par cnt' w' (by omega) h2 hb ho hu hp) w hw hc ho hu hp
/-- What a pool's look-up answers. -/
def fndD (D : Dec) (wd : Nat) (ss : List ByteArray) (hash : ByteArray) : FN := foundR D ss (firstI (hitB wd ss hash) ss.length)
/-- What is decoded is a node. -/
def DecOk (wd : Nat) (D : Dec) : Prop := ∀ s, D.ok s = true → okKey (D.k s) = true ∧ okVal (D.v s) = true ∧ ((D.l s).size = 0 ∨ (D.l s).size = wd) ∧ ((D.r s).size = 0 ∨ (D.r s).size = wd)
theorem fndD_ok (D : Dec) (wd : Nat) (ss : List ByteArray) (h : DecOk wd D) : FndOk wd (fndD D wd ss) := by
  have key : ∀ o, ((foundR D ss o).2 = 0 ∨ (foundR D ss o).2 = 2 ∨ (foundR D ss o).2 = 3) ∧ ((foundR D ss o).2 = 0 → okKey (foundR D ss o).1.1 = true ∧ okVal (foundR D ss o).1.2.1 = true ∧ ((foundR D ss o).1.2.2.1.size = 0 ∨ (foundR D ss o).1.2.2.1.size = wd) ∧ ((foundR D ss o).1.2.2.2.size = 0 ∨ (foundR D ss o).1.2.2.2.size = wd)) := by
    intro o
    cases o with
    | none =>
      rw [show foundR D ss none = ((⟨#[]⟩, ⟨#[]⟩, ⟨#[]⟩, ⟨#[]⟩), 2) from rfl]
      exact ⟨.inr (.inl rfl), fun e => absurd e (by decide)⟩
    | some i =>
      by_cases q : D.ok (ss.getD i ⟨#[]⟩) = true
      · rw [show foundR D ss (some i) = _ from if_pos q]
        exact ⟨.inl rfl, fun _ => h _ q⟩
      · rw [show foundR D ss (some i) = _ from if_neg q]
        exact ⟨.inr (.inr rfl), fun e => absurd e (by decide)⟩
  exact ⟨fun hash => (key _).1, fun hash => (key _).2⟩
/-- A range of a pool's tree: the pairs, the code. -/
def rangeM (fnd : ByteArray → FN) (n : Int) (m : Nat) (root lo hi : ByteArray) : List PairT × Int :=
  if (poolOk n m && hashOk root.size n) = true then
    if (goF fnd hgW lo hi 501 root ⟨#[]⟩ ⟨#[]⟩ ⟨#[]⟩ 0).1 = 0 then ((goF fnd hgW lo hi 501 root ⟨#[]⟩ ⟨#[]⟩ ⟨#[]⟩ 0).2.2, 0) else ([], (goF fnd hgW lo hi 501 root ⟨#[]⟩ ⟨#[]⟩ ⟨#[]⟩ 0).1)
  else ([], 1)
theorem rangeM_bad {fnd : ByteArray → FN} {n : Int} {m : Nat} {root lo hi : ByteArray} (h : (poolOk n m && hashOk root.size n) = false) : rangeM fnd n m root lo hi = ([], 1) := by unfold rangeM; rw [if_neg (by rw [h]; decide)]
theorem rangeM_ok {fnd : ByteArray → FN} {n : Int} {m : Nat} {root lo hi : ByteArray} (h : (poolOk n m && hashOk root.size n) = true) {R : Int × Nat × List PairT} (hR : goF fnd hgW lo hi 501 root ⟨#[]⟩ ⟨#[]⟩ ⟨#[]⟩ 0 = R) : rangeM fnd n m root lo hi = if R.1 = 0 then (R.2.2, 0) else ([], R.1) := by unfold rangeM; rw [if_pos h, hR]
/-- What a range answers: the row is the call's own. -/
def RangeAt (X : List PairT × Int) (w : World) (e : Ending) (w' : World) : Prop :=
  (∃ a c, e = .returned (.tuple #[.slice a X.1.length c, .int .i64 X.2]) ∧ w'.ownsRow w.heap.size 81 2 (.slice a X.1.length c) X.1.length (flatP X.1)) ∧ Below w.heap.size w w'

/-- The blocks that the model's Range has of its own. -/
structure SR (w : World) (ga gz : Nat) (n : Int) (a : Option Addr) (m c : Nat) (W : World) : Prop where
  sz : w.heap.size = ga
  o1 : ga < gz
  bl : Below w.heap.size w W
  na : W.heap[ga]? = some (.cells #[.int .i64 n, .slice a m c] 31)
  nz : W.heap[gz]? = some (.cells #[] 81)
section
variable {w : World} {ga gz : Nat} {n : Int} {a : Option Addr} {m c : Nat} {W W' : World}
theorem SR.mk0 (w : World) (n : Int) (a : Option Addr) (m c : Nat) : SR w w.heap.size (w.heap.size + 1) n a m c ((w.alloc (.cells #[.int .i64 n, .slice a m c] 31)).alloc (.cells #[] 81)) := by
  have e2 := heap_alloc_new (w.alloc (.cells #[.int .i64 n, .slice a m c] 31)) (.cells #[] 81)
  rw [World.size_alloc] at e2
  exact ⟨rfl, Nat.lt_succ_self _, ((Below.refl _ _).alloc (Nat.le_refl _) _).alloc (by simp) _, by rw [Below.heap_alloc _ _ _ (by simp)]; exact heap_alloc_new w _, e2⟩
theorem SR.lt (h : SR w ga gz n a m c W) : gz < W.heap.size := (Array.getElem?_eq_some_iff.1 h.nz).1
theorem SR.below (h : SR w ga gz n a m c W) (hb : Below W.heap.size W W') : SR w ga gz n a m c W' :=
  ⟨h.sz, h.o1, h.bl.trans (hb.mono h.bl.size), (hb.block _ (Nat.lt_trans h.o1 h.lt)).trans h.na, (hb.block _ h.lt).trans h.nz⟩
theorem SR.nil (h : SR w ga gz n a m c W) (i : Int) : RangeAt ([], i) w (.returned (.tuple #[.slice (some ⟨gz, 0, none⟩) 0 0, .int .i64 i])) W := by
  have h1 := h.sz
  have h2 := h.o1
  exact ⟨⟨some ⟨gz, 0, none⟩, 0, rfl, own2_nil (by omega) h.nz⟩, h.bl⟩
theorem SR.set3 (h : SR w ga gz n a m c W) {gw : Nat} (hg : gz < gw) (x y z : Value) : SR w ga gz n a m c (((W.setCell ⟨gw, 0, none⟩ x).setCell ⟨gw, 1, none⟩ y).setCell ⟨gw, 2, none⟩ z) := by
  have h1 := h.sz
  have h2 := h.o1
  have hb : w.heap.size ≤ gw := by omega
  refine ⟨h.sz, h.o1, ((h.bl.setCell hb _).setCell hb _).setCell hb _, ?_, ?_⟩
  · rw [Below.heap_setCell _ _ _ _ (by show ga ≠ gw; omega), Below.heap_setCell _ _ _ _ (by show ga ≠ gw; omega), Below.heap_setCell _ _ _ _ (by show ga ≠ gw; omega)]; exact h.na
  · rw [Below.heap_setCell _ _ _ _ (by show gz ≠ gw; omega), Below.heap_setCell _ _ _ _ (by show gz ≠ gw; omega), Below.heap_setCell _ _ _ _ (by show gz ≠ gw; omega)]; exact h.nz
/-- A walk's answer in its block. -/
def WB (gw : Nat) (x y z : Value) (W : World) : Prop := W.heap[gw]? = some (.cells #[x, y, z] 158)
theorem WB.below {gw : Nat} {x y z : Value} (h : WB gw x y z W) (hb : Below W.heap.size W W') : WB gw x y z W' := (hb.block _ (Array.getElem?_eq_some_iff.1 h).1).trans h
theorem WB.set3 {gw : Nat} {x y z : Value} (h : WB gw x y z W) (x' y' z' : Value) : WB gw x' y' z' (((W.setCell ⟨gw, 0, none⟩ x').setCell ⟨gw, 1, none⟩ y').setCell ⟨gw, 2, none⟩ z') := heap_setCell_same _ gw 2 _ 158 _ (heap_setCell_same _ gw 1 _ 158 _ (heap_setCell_same _ gw 0 _ 158 _ h))
theorem WB.at {gw : Nat} {x y z : Value} (h : WB gw x y z W) : W.cell? ⟨gw, 0, none⟩ = some x ∧ W.cell? ⟨gw, 1, none⟩ = some y ∧ W.cell? ⟨gw, 2, none⟩ = some z ∧ W.frozen? ⟨gw, 0, none⟩ = false ∧ W.frozen? ⟨gw, 1, none⟩ = false ∧ W.frozen? ⟨gw, 2, none⟩ = false :=
  ⟨Lib.cell_of_heap h 0, Lib.cell_of_heap h 1, Lib.cell_of_heap h 2, by rw [World.frozen?, h]; rfl, by rw [World.frozen?, h]; rfl, by rw [World.frozen?, h]; rfl⟩
end

set_option maxRecDepth 100000 in
set_option maxHeartbeats 2000000 in
theorem srange_bad (n : Int) (a : Option Addr) (m c : Nat) (root lo hi : ByteArray) (w : World) (hm : m ≤ 1048576) (hr : root.size ≤ 1048576) (h : (poolOk n m && hashOk root.size n) = false) :
    Calls Tryz.prog 48 #[.agg #[.int .i64 n, .slice a m c], .string root, .string lo, .string hi] w (RangeAt ([], 1) w) := by
  have HP := fun w' => poolOk_any n a m c w' hm
  have HH := fun w' => hashOk_any root n w' hr
  have hS := SR.mk0 w n a m c
  cases h1 : poolOk n m with
  | false =>
    rw [h1] at HP
    clear h h1
    go_enter Tryz.func48, Tryz.ntmps48
    go_upto_region 2 with fail
    generalize (w.alloc (.cells #[.int .i64 n, .slice a m c] 31)).alloc (.cells #[] 81) = W at hS ⊢
    obtain ⟨gz, hgz⟩ : ∃ x, w.heap.size + 1 = x := ⟨_, rfl⟩
    rw [hgz] at hS ⊢
    obtain ⟨ga, hga⟩ : ∃ x, w.heap.size = x := ⟨_, rfl⟩
    rw [show SR w w.heap.size = SR w ga by rw [hga]] at hS
    rw [hga]
    clear hga hgz
    have k0 := Lib.cell_of_heap hS.na 0
    have k1 := Lib.cell_of_heap hS.na 1
    go_wp2_with (first | (go_at_call 79; refine (HP _).mono ?_; rintro e w1 ⟨rfl, hb1⟩; have hS1 := hS.below hb1; have k0 := Lib.cell_of_heap hS1.na 0; have k1 := Lib.cell_of_heap hS1.na 1) | (go_at_call 82; refine (HH _).mono ?_; rintro e w2 ⟨rfl, rfl⟩))
    go_ret2
    exact hS1.nil 1
  | true =>
    have h2 : hashOk root.size n = false := by rw [h1] at h; exact h
    rw [h1] at HP
    rw [h2] at HH
    clear h h1 h2
    go_enter Tryz.func48, Tryz.ntmps48
    go_upto_region 2 with fail
    generalize (w.alloc (.cells #[.int .i64 n, .slice a m c] 31)).alloc (.cells #[] 81) = W at hS ⊢
    obtain ⟨gz, hgz⟩ : ∃ x, w.heap.size + 1 = x := ⟨_, rfl⟩
    rw [hgz] at hS ⊢
    obtain ⟨ga, hga⟩ : ∃ x, w.heap.size = x := ⟨_, rfl⟩
    rw [show SR w w.heap.size = SR w ga by rw [hga]] at hS
    rw [hga]
    clear hga hgz
    have k0 := Lib.cell_of_heap hS.na 0
    have k1 := Lib.cell_of_heap hS.na 1
    go_wp2_with (first | (go_at_call 79; refine (HP _).mono ?_; rintro e w1 ⟨rfl, hb1⟩; have hS1 := hS.below hb1; have k0 := Lib.cell_of_heap hS1.na 0; have k1 := Lib.cell_of_heap hS1.na 1) | (go_at_call 82; refine (HH _).mono ?_; rintro e w2 ⟨rfl, rfl⟩))
    go_ret2
    exact hS1.nil 1
end Go.Proofs.YtibjhkpgaaapaaaGreatDoor
namespace Go.Proofs.YtibjhkpgaaapaaaGreatDoor
open Go.RowKit Go.Proofs.Sha

end Go.Proofs.YtibjhkpgaaapaaaGreatDoor
namespace Go.Proofs.YtibjhkpgaaapaaaGreatDoor
open Go.RowKit Go.Proofs.Sha

theorem own_cells {w : World} {base g n : Nat} {v : Value} {xs : List Value} (h : w.ownsRow base 9 1 v n xs) (hv : v.ownBlock = some g) : base ≤ g ∧ g < w.heap.size ∧ ∃ cur, w.heap[g]? = some (.cells cur 9 (0, 0)) := by
  rcases h.2 with ⟨rfl, _⟩ | ⟨g', cap, cur, rfl, hb, hg, _⟩
  · cases hv
  · obtain rfl : g' = g := Option.some.inj hv
    exact ⟨hb, (Array.getElem?_eq_some_iff.1 hg).1, cur, hg⟩
theorem own_kept {w w' : World} {base n : Nat} {v : Value} {xs : List Value} (h : w.ownsRow base 9 1 v n xs) (hk : ∀ g, v.ownBlock = some g → g < w.heap.size → w'.heap[g]? = w.heap[g]?) : w'.ownsRow base 9 1 v n xs := by
  refine ⟨h.1, ?_⟩
  rcases h.2 with ⟨h1, h2⟩ | ⟨g, cap, cur, hv, hb, hg, rest⟩
  · exact .inl ⟨h1, h2⟩
  · exact .inr ⟨g, cap, cur, hv, hb, (hk g (by rw [hv]; rfl) (Array.getElem?_eq_some_iff.1 hg).1).trans hg, rest⟩
theorem own_sarg {w : World} {base n c : Nat} {a : Option Addr} {ss : List ByteArray} (h : w.ownsRow base 9 1 (.slice a ss.length c) n (ss.map Value.string)) (hl : ss.length ≤ 1048576) (hs : ∀ j, (ss.getD j ⟨#[]⟩).size ≤ 1048576) : SArg a ss w := by
  refine ⟨hl, hs, fun hn => ?_⟩
  rcases h.2 with ⟨e, h0⟩ | ⟨g, cap, cur, e, hb, hg, q1, q2, q3, q4⟩
  · simp only [Value.slice.injEq] at e; omega
  · simp only [Value.slice.injEq] at e
    obtain ⟨rfl, e2, rfl⟩ := e
    refine ⟨g, 0, rfl, (Array.getElem?_eq_some_iff.1 hg).1, fun j hj => ?_⟩
    rw [Nat.zero_add, cell_of_row w g j cur 9 (0, 0) hg]
    have hx : (ss.map Value.string)[j]? = some (.string (ss.getD j ⟨#[]⟩)) := by
      rw [List.getElem?_map, List.getElem?_eq_getElem hj, List.getD_eq_getElem?_getD, List.getElem?_eq_getElem hj]; rfl
    rw [← q4, List.getElem?_take, if_pos (by omega)] at hx
    simpa using hx
theorem wrapI_in (x : Int) (h : -9223372036854775808 ≤ x ∧ x ≤ 9223372036854775807) : IntKind.i64.wrap x = x := by rw [IntKind.wrap_i64]; omega
theorem placesF_app (wd : Nat) (es : List ByteArray) (e : ByteArray) (k : Nat) (hk : k ≤ es.length) : placesF wd (es ++ [e]) k = placesF wd es k := by
  induction k with
  | zero => rfl
  | succ k ih =>
    rw [placesF, placesF, ih (by omega)]
    congr 2
    rw [List.getD_eq_getElem?_getD, List.getD_eq_getElem?_getD, List.getElem?_append_left (by omega)]
theorem placesF_snoc (wd : Nat) (es : List ByteArray) (e : ByteArray) : placesF wd (es ++ [e]) (es ++ [e]).length = addF (placesF wd es es.length) (cutW wd (sha (78 :: e.data.toList))) (es.length : Int) := by
  rw [List.length_append, List.length_singleton, placesF, placesF_app wd es e es.length (Nat.le_refl _)]
  congr 1
  rw [List.getD_eq_getElem?_getD, List.getElem?_append_right (Nat.le_refl _), Nat.sub_self]
  rfl
/-- A stock in its block: the encodings, and the places of their hashes. -/
structure StockAt (sb r base wd : Nat) (es : List ByteArray) (a : Option Addr) (c : Nat) (w : World) : Prop where
  blk : w.heap[sb]? = some (.cells #[.slice a es.length c, .int .i64 (wd : Int), .map (some r)] 194)
  own : w.ownsRow base 9 1 (.slice a es.length c) es.length (es.map Value.string)
  map : MapF (placesF wd es es.length) r w
  hl : sb < base
  hr : r < base
  hne : sb ≠ r
  hb : base ≤ w.heap.size
theorem StockAt.below {sb r base wd : Nat} {es : List ByteArray} {a : Option Addr} {c : Nat} {w w' : World} (h : StockAt sb r base wd es a c w) (hb : Below w.heap.size w w') : StockAt sb r base wd es a c w' := by
  have h1 := h.hl
  have h2 := h.hb
  exact ⟨(hb.block sb (by omega)).trans h.blk, own_kept h.own (fun g _ hg => hb.block g hg), h.map.below hb, h1, h.hr, h.hne, Nat.le_trans h2 hb.size⟩

set_option maxRecDepth 100000 in
theorem newStock_any (wd : Nat) (w : World) : Calls Tryz.prog 115 #[.int .i64 (wd : Int)] w fun e w' => ∃ sb r, e = .returned (.pointer (some ⟨sb, 0, none⟩)) ∧ StockAt sb r (sb + 1) wd [] none 0 w' ∧ Below w.heap.size w w' ∧ w.heap.size ≤ r ∧ r < sb := by
  go_enter Tryz.func115, Tryz.ntmps115
  go_wp2_with fail
  refine (newP_any (wd : Int) w).mono ?_
  rintro e w1 ⟨r, rfl, hr, hM, hb⟩
  have hrl : r < w1.heap.size := by
    obtain ⟨es, cl, hg, _, _⟩ := hM.is
    exact (Array.getElem?_eq_some_iff.1 hg).1
  have hbA : Below w1.heap.size w1 (w1.alloc (.cells #[.slice none 0 0, .int .i64 (wd : Int), .map (some r)] 194)) := (Below.refl _ _).alloc (Nat.le_refl _) _
  have nA := heap_alloc_new w1 (.cells #[.slice none 0 0, .int .i64 (wd : Int), .map (some r)] 194)
  go_wp2_with fail
  go_ret
  exact ⟨w1.heap.size, r, rfl, ⟨nA, World.ownsRow_nil _ _ _ _, hM.below hbA, by omega, by omega, by omega, by simp⟩, hb.trans (hbA.mono hb.size), hr, hrl⟩

set_option maxRecDepth 100000 in
set_option maxHeartbeats 1000000 in
theorem stockAdd_all {K : World → Prop} (HH : Hid (HashSaid K)) (keep : Hid (∀ w1 w2, K w1 → Below w1.heap.size w1 w2 → K w2)) (sb r base wd : Nat) (es : List ByteArray) (a : Option Addr) (c : Nat) (enc : ByteArray) (w : World) (h : StockAt sb r base wd es a c w) (hK : K w) (hs : enc.size ≤ 1048576) (h1 : wd ≤ 32) (hlen : es.length ≤ 1048576) :
    Calls Tryz.prog 116 #[.pointer (some ⟨sb, 0, none⟩), .string enc] w fun e w' => ∃ a' c', e = .returned (.tuple #[]) ∧ StockAt sb r base wd (es ++ [enc]) a' c' w' ∧ (∀ n, n ≤ sb → n ≤ r → Below n w w') ∧ ∀ q, q < base → q ≠ sb → q ≠ r → w'.heap[q]? = w.heap[q]? := by
  obtain ⟨F, hF⟩ : ∃ F, placesF wd es es.length = F := ⟨_, rfl⟩
  have HF : Hid (placesF wd (es ++ [enc]) (es ++ [enc]).length = addF F (cutW wd (sha (78 :: enc.data.toList))) (es.length : Int)) := by
    show _ = _
    rw [placesF_snoc, hF]
  obtain ⟨i0, hi0, hz0, hz1, hz2⟩ := info_parts info9
  have hM := h.map
  rw [hF] at hM
  obtain ⟨m, hm⟩ : ∃ m, es.length = m := ⟨_, rfl⟩
  have HAdd : Hid (∀ w', Below w.heap.size w w' → Calls Tryz.prog 153 #[.agg #[.int .i64 (wd : Int), .map (some r)], .string enc, .int .i64 (m : Int)] w' fun e w'' => e = .returned (.tuple #[]) ∧ MapF (addF F (cutW wd (sha (78 :: enc.data.toList))) (m : Int)) r w'' ∧ w'.grownBy w'' (some r)) := fun w' hb => add_any HH wd r F enc _ w' (hM.below hb) (keep.out _ _ hK hb) keep hs h1
  have hblk := h.blk
  have hlb := h.hl
  have hrb := h.hr
  have hne := h.hne
  have hbs := h.hb
  have oA := h.own
  rw [hm] at hblk oA hlen
  have HX : Hid (∀ w5 g4 c4, w5.heap[sb]? = some (.cells #[.slice (some ⟨g4, 0, none⟩) (m + 1) c4, .int .i64 (wd : Int), .map (some r)] 194) →
      w5.ownsRow base 9 1 (.slice (some ⟨g4, 0, none⟩) (m + 1) c4) (m + 1) (es.map Value.string ++ [.string enc]) → MapF (addF F (cutW wd (sha (78 :: enc.data.toList))) (m : Int)) r w5 → base ≤ w5.heap.size →
      StockAt sb r base wd (es ++ [enc]) (some ⟨g4, 0, none⟩) c4 w5) := by
    intro w5 g4 c4 q1 q2 q3 q4
    have hl : (es ++ [enc]).length = m + 1 := by rw [List.length_append, hm]; rfl
    refine ⟨by rw [hl]; exact q1, by rw [hl, List.map_append]; exact q2, ?_, hlb, hrb, hne, q4⟩
    rw [HF.out, hm]; exact q3
  generalize addF F (cutW wd (sha (78 :: enc.data.toList))) (m : Int) = G at HX HAdd
  clear HF hM hF HH keep hK hs h1
  have HC : Hid (∀ W : World, W.heap[sb]? = w.heap[sb]? → W.cell? ⟨sb, 0, none⟩ = some (.slice a m c) ∧ W.cell? ⟨sb, 1, none⟩ = some (.int .i64 (wd : Int)) ∧ W.cell? ⟨sb, 2, none⟩ = some (.map (some r))) := fun W hW => by
    have hb := hW.trans hblk
    exact ⟨Lib.cell_of_heap hb 0, Lib.cell_of_heap hb 1, Lib.cell_of_heap hb 2⟩
  have hlt : sb < w.heap.size := by omega
  replace oA : Hid _ := oA
  replace hblk : Hid _ := hblk
  replace hi0 : Hid _ := hi0
  replace hz0 : Hid _ := hz0
  replace hz1 : Hid _ := hz1
  replace hz2 : Hid _ := hz2
  clear h hm
  go_enter Tryz.func116, Tryz.ntmps116
  go_wp2_with fail
  go_region_held3 (fun W => W.cell? ⟨sb, 0, none⟩ = some (.slice a m c) ∧ W.cell? ⟨sb, 1, none⟩ = some (.int .i64 (wd : Int)) ∧ W.cell? ⟨sb, 2, none⟩ = some (.map (some r))) (first | exact HC.out _ rfl | exact HC.out _ hlb1) (first | (go_at_call 153; refine (HAdd.out _ (Below.refl w.heap.size w).drew).mono ?_; rintro e w1 ⟨rfl, hM1, hg1'⟩; have hg1 : w.grownBy w1 (some r) := grownBy_trans (grownBy_of_below (Below.refl w.heap.size w).drew _) hg1'; have hlb1 : w1.heap[sb]? = w.heap[sb]? := hg1.block sb hlt (fun e => hne (Option.some.inj e)); clear hg1'))
  have hb1 := hlb1.trans hblk.out
  have oA1 : w1.ownsRow base 9 1 (.slice a m c) m (es.map Value.string) := own_kept oA.out (fun g hv hg => hg1.block g hg (fun e => by have := Option.some.inj e; have := (own_cells oA.out hv).1; omega))
  have hs1 := hg1.size
  have c3 := Lib.cell_of_heap hb1 0
  have hbA : Below w1.heap.size w1 (w1.alloc (.cells #[.string enc] 9)) := (Below.refl _ _).alloc (Nat.le_refl _) _
  clear HAdd HC
  go_wp2_with (first | (refine wpList_append_lies _ rfl (.tmp 19) (.tmp 21) 25 rfl base 9 i0 (.string ⟨#[]⟩) 1 16 Tryz.underlying25 hi0.out hz0.out hz1.out hz2.out rfl (by decide) _ m (es.map Value.string) rfl (oA1.alloc _) ⟨w1.heap.size, 0, none⟩ 1 1 [.string enc] rfl rfl (World.news_of_block (heap_alloc_new w1 _)) (by simp [Value.oneCell']) (by decide) (by unfold maxLen; omega) (by omega) (by simp; omega) (w1.heap.size + 1) (by simp) ?_; intro g4 c4 w4 hown4 hgrow4 hat4 hlt4; have hb4 := (hgrow4.block sb (by simp; omega) (fun e => by have := (own_cells oA1 e.symm).1; omega)).trans ((hbA.block sb (by omega)).trans hb1); have k3 := Lib.cell_of_heap hb4 0; have f3 : w4.frozen? ⟨sb, 0, none⟩ = false := by rw [World.frozen?, hb4]; rfl))
  go_end0
  obtain ⟨w5, hw5⟩ : ∃ w5, w5 = w4.setCell ⟨sb, 0, none⟩ (.slice (some ⟨g4, 0, none⟩) (m + 1) c4) := ⟨_, rfl⟩
  have hs4 := hgrow4.size
  simp at hs4
  have hg5 := grownBy_setCell w4 sb 0 (.slice (some ⟨g4, 0, none⟩) (m + 1) c4)
  have hs5 := hg5.size
  have hg4b : base ≤ g4 := (own_cells hown4 rfl).1
  rw [← hw5] at hg5 hs5
  refine ⟨some ⟨g4, 0, none⟩, c4, rfl, ?_, ?_, ?_⟩
  · rw [← hw5]
    refine HX.out w5 g4 c4 (by rw [hw5]; exact heap_setCell_same w4 sb 0 _ 194 _ hb4) (own_kept hown4 (fun g hv hg => by have e : g4 = g := Option.some.inj hv; exact hg5.block g hg (fun e' => by have := Option.some.inj e'; omega))) ?_ (by omega)
    have hMa := hM1.below hbA
    have hMb : MapF G r w4 := by
      obtain ⟨es', cl, hh, q1, q2⟩ := hMa.is
      exact ⟨es', cl, (hgrow4.block r (Array.getElem?_eq_some_iff.1 hh).1 (fun e => by have := (own_cells oA1 e.symm).1; omega)).trans hh, q1, q2⟩
    exact hMb.kept hg5 (fun e => hne e.symm)
  · rw [← hw5]
    intro n hn1 hn2
    have b1 : Below n w w1 := below_of_grown hg1 hn2 (by omega)
    have b2 : Below n w1 (w1.alloc (.cells #[.string enc] 9)) := hbA.mono (by omega)
    have b3 : Below n (w1.alloc (.cells #[.string enc] 9)) w4 := ⟨hgrow4.os, hgrow4.tape, hgrow4.output, hgrow4.size, fun k hk => hgrow4.block k (by simp; omega) (fun e => by have := (own_cells oA1 e.symm).1; omega)⟩
    have b4 : Below n w4 w5 := below_of_grown hg5 hn1 (by omega)
    exact ((b1.trans b2).trans b3).trans b4
  · rw [← hw5]
    intro q hq hq1 hq2
    have e1 := hg1.block q (by omega) (fun e => hq2 (Option.some.inj e))
    have e2 := hbA.block q (by omega)
    have e3 := hgrow4.block q (by simp; omega) (fun e => by have := (own_cells oA1 e.symm).1; omega)
    have e4 := hg5.block q (by omega) (fun e => hq1 (Option.some.inj e))
    exact ((e4.trans e3).trans e2).trans e1
theorem stockAdd_any {K : World → Prop} (HH : Hid (HashSaid K)) (keep : Hid (∀ w1 w2, K w1 → Below w1.heap.size w1 w2 → K w2)) (sb r base wd : Nat) (es : List ByteArray) (a : Option Addr) (c : Nat) (enc : ByteArray) (w : World) (h : StockAt sb r base wd es a c w) (hK : K w) (hs : enc.size ≤ 1048576) (h1 : wd ≤ 32) (hlen : es.length ≤ 1048576) :
    Calls Tryz.prog 116 #[.pointer (some ⟨sb, 0, none⟩), .string enc] w fun e w' => ∃ a' c', e = .returned (.tuple #[]) ∧ StockAt sb r base wd (es ++ [enc]) a' c' w' ∧ ∀ n, n ≤ sb → n ≤ r → Below n w w' :=
  (stockAdd_all HH keep sb r base wd es a c enc w h hK hs h1 hlen).mono (by rintro e w' ⟨a', c', he, q1, q2, _⟩; exact ⟨a', c', he, q1, q2⟩)
end Go.Proofs.YtibjhkpgaaapaaaGreatDoor
