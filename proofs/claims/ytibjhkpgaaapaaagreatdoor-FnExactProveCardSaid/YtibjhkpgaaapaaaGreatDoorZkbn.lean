import Derived.Test.YtibjhkpgaaapaaaGreatDoorZkbm
import Derived.Test.YtibjhkpgaaapaaaGreatDoorZkbd
import Derived.Test.YtibjhkpgaaapaaaGreatDoorZkbj
namespace Go.Proofs.YtibjhkpgaaapaaaGreatDoor
open Go.RowKit Go.Proofs.Sha

set_option maxRecDepth 100000 in
set_option maxHeartbeats 1000000 in
theorem stockOf_any {K : World → Prop} (HH : Hid (HashSaid K)) (keep : Hid (∀ w1 w2, K w1 → Below w1.heap.size w1 w2 → K w2)) (wd : Nat) (a : Option Addr) (ss : List ByteArray) (c : Nat) (w : World) (h : SArg a ss w) (hK : K w) (h1 : wd ≤ 32) :
    Calls Tryz.prog 54 #[.agg #[.int .i64 (wd : Int), .slice a ss.length c]] w fun e w' => ∃ sb r a' c', e = .returned (.pointer (some ⟨sb, 0, none⟩)) ∧ StockAt sb r (sb + 1) wd ss a' c' w' ∧ Below w.heap.size w w' := by
  have hn := h.le
  have hbA : Below w.heap.size w (w.alloc (.cells #[.int .i64 (wd : Int), .slice a ss.length c] 31)) := (Below.refl _ _).alloc (Nat.le_refl _) _
  have nA := heap_alloc_new w (.cells #[.int .i64 (wd : Int), .slice a ss.length c] 31)
  obtain ⟨ga, hga⟩ : ∃ ga, w.heap.size = ga := ⟨_, rfl⟩
  rw [hga] at nA
  have hsA : (w.alloc (.cells #[.int .i64 (wd : Int), .slice a ss.length c] 31)).heap.size = ga + 1 := by simp; omega
  go_enter Tryz.func54, Tryz.ntmps54
  go_upto_region 1 with fail
  try rw [hga]
  generalize w.alloc (.cells #[.int .i64 (wd : Int), .slice a ss.length c] 31) = wa at hbA nA hsA ⊢
  have c0 := Lib.cell_of_heap nA 0
  go_upto_region 2 with (first | (go_at_call 115; refine (newStock_any wd _).mono ?_; rintro e w1 ⟨sb, r, rfl, hS, hb1, hr1, hr2⟩))
  have nA1 := (hb1.block ga (by omega)).trans nA
  have hbw := hbA.trans (hb1.mono hbA.size)
  have c1 := Lib.cell_of_heap nA1 1
  clear c0 hb1 nA
  go_wp2_with fail
  go_loopw [12] (fun t12 wr => ∃ (k : Nat) (a' : Option Addr) (c' : Nat), k ≤ ss.length ∧ t12 = .int .i64 (k : Int) ∧ StockAt sb r (sb + 1) wd (ss.take k) a' c' wr ∧ Below w.heap.size w wr) (fun t12 _ => ss.length - (intOf t12).toNat)
  case atStart => exact ⟨0, none, 0, Nat.zero_le _, rfl, hS, hbw⟩
  case round =>
    clear c1 nA1 hS hbw
    obtain ⟨k, a', c', hk, rfl, hSk, hbk⟩ := hrel
    by_cases hlt : k < ss.length
    · have z1 : decide ((k : Int) < (ss.length : Int)) = true := by simp; omega
      obtain ⟨b, off, rfl, hbl, hc⟩ := (h.below hbk).at_ (by omega)
      have hcx := hc k hlt
      have htk : ss.take (k + 1) = ss.take k ++ [ss.getD k ⟨#[]⟩] := by
        rw [List.take_add_one, List.getD_eq_getElem?_getD, List.getElem?_eq_getElem hlt]; rfl
      obtain ⟨s, hs⟩ : ∃ s, ss.getD k ⟨#[]⟩ = s := ⟨_, rfl⟩
      have hsz : s.size ≤ 1048576 := by rw [← hs]; exact h.sz k
      rw [hs] at hcx htk
      have HAdd : Hid (Calls Tryz.prog 116 #[.pointer (some ⟨sb, 0, none⟩), .string s] wr fun e w' => ∃ a'' c'', e = .returned (.tuple #[]) ∧ StockAt sb r (sb + 1) wd (ss.take k ++ [s]) a'' c'' w' ∧ ∀ n, n ≤ sb → n ≤ r → Below n wr w') := stockAdd_any HH keep sb r (sb + 1) wd (ss.take k) a' c' s wr hSk (keep.out _ _ hK hbk) hsz h1 (by rw [List.length_take]; omega)
      rw [← htk] at HAdd
      clear hc hs htk hSk
      have hx0 : (0 : Int) ≤ (k : Int) := Int.natCast_nonneg _
      have hx1 : (k : Int) < (ss.length : Int) := by omega
      go_wp2_with (first | (go_at_call 116; refine HAdd.out.mono ?_; rintro e w5 ⟨a5, c5, rfl, hS5, hb5⟩))
      have hb6 := hbk.trans (hb5 w.heap.size (by omega) (by omega))
      go_roundw
      case rel => exact ⟨k + 1, a5, c5, hlt, by go_num, hS5, hb6⟩
      case measure => simp [intOf]; omega
    · obtain rfl : k = ss.length := by omega
      have z1 : decide ((ss.length : Int) < (ss.length : Int)) = false := by simp
      rw [List.take_length] at hSk
      go_wp2_with fail
      go_ret
      exact ⟨sb, r, a', c', rfl, hSk, hbk⟩

/-- The encoding at a place that is found. -/
def encAt (es : List ByteArray) : Option Nat → ByteArray
  | none => ⟨#[]⟩
  | some i => es.getD i ⟨#[]⟩
set_option maxRecDepth 100000 in
set_option maxHeartbeats 1000000 in
theorem stockFirst_any (sb r base wd : Nat) (es : List ByteArray) (a : Option Addr) (c : Nat) (hash : ByteArray) (w : World) (h : StockAt sb r base wd es a c w) (hs : ∀ j, (es.getD j ⟨#[]⟩).size ≤ 1048576) (hl : es.length ≤ 1048576) (h1 : wd ≤ 32) (h2 : hash.size = wd) (fx : Option Nat) (hfx : firstI (hitB wd es hash) es.length = fx) :
    Calls Tryz.prog 192 #[.pointer (some ⟨sb, 0, none⟩), .string hash] w fun e w' => e = .returned (.tuple #[.string (encAt es fx), .bool fx.isSome]) ∧ Below w.heap.size w w' := by
  have hpl : placesF wd es es.length (cutW wd hash.data.toList) = fx.map fun i => (i : Int) := by
    rw [placesF_first, ← hfx, show (fun i => decide (keyW wd (es.getD i ⟨#[]⟩) = cutW wd hash.data.toList)) = hitB wd es hash from funext fun i => key_hit wd es hash h1 h2 i]
  have hlt : ∀ i, fx = some i → i < es.length := fun i hi => firstI_lt (hfx.trans hi)
  have hblk := h.blk
  have hM := h.map
  have hsa := own_sarg h.own hl hs
  have hbl := (Array.getElem?_eq_some_iff.1 hblk).1
  have HF := find_any wd r _ hash w hM h1 h2
  rw [hpl] at HF
  have c1 := Lib.cell_of_heap hblk 1
  have c2 := Lib.cell_of_heap hblk 2
  cases fx with
  | none =>
    have HF' : Hid (Calls Tryz.prog 199 #[.agg #[.int .i64 (wd : Int), .map (some r)], .string hash] w fun e w' => e = .returned (.tuple #[.int .i64 0, .bool false]) ∧ Below w.heap.size w w') := HF
    clear HF hpl hfx h hM hsa
    go_enter Tryz.func192, Tryz.ntmps192
    go_wp2_with (first | (go_at_call 199; refine HF'.out.mono ?_; rintro e w1 ⟨rfl, hb1⟩))
    go_ret2
    exact ⟨rfl, hb1⟩
  | some i =>
    have HF' : Hid (Calls Tryz.prog 199 #[.agg #[.int .i64 (wd : Int), .map (some r)], .string hash] w fun e w' => e = .returned (.tuple #[.int .i64 (i : Int), .bool true]) ∧ Below w.heap.size w w') := HF
    have hil := hlt i rfl
    obtain ⟨b, off, rfl, hbb, hcs⟩ := hsa.at_ (by omega)
    have hcx := hcs i hil
    have HE : Hid (encAt es (some i) = es.getD i ⟨#[]⟩) := rfl
    obtain ⟨x, hx⟩ : ∃ x, es.getD i ⟨#[]⟩ = x := ⟨_, rfl⟩
    rw [hx] at hcx HE
    obtain ⟨m, hm⟩ : ∃ m, es.length = m := ⟨_, rfl⟩
    rw [hm] at hblk
    have hx0 : (0 : Int) ≤ (i : Int) := Int.natCast_nonneg _
    have hx1 : (i : Int) < (m : Int) := by omega
    obtain ⟨y, hy⟩ : ∃ y, encAt es (some i) = y := ⟨_, rfl⟩
    have hyx : Hid (y = x) := by show y = x; rw [← hy]; exact HE.out
    rw [hy]
    clear HF hpl hfx h hM hcs hx hy HE
    go_enter Tryz.func192, Tryz.ntmps192
    go_wp2_with (first | (go_at_call 199; refine HF'.out.mono ?_; rintro e w1 ⟨rfl, hb1⟩; have hbk1 := (hb1.block sb hbl).trans hblk; have d0 := Lib.cell_of_heap hbk1 0; have d1 := (hb1.cell (p := ⟨b, off + i, none⟩) hbb).trans hcx))
    go_ret2
    exact ⟨by rw [hyx.out]; rfl, hb1⟩
set_option maxRecDepth 100000 in
set_option maxHeartbeats 1000000 in
theorem stockFind_any (D : Dec) (sb r base wd : Nat) (HD : Hid (DecSaid 198 wd D)) (es : List ByteArray) (a : Option Addr) (c : Nat) (hash : ByteArray) (w : World) (h : StockAt sb r base wd es a c w) (hs : ∀ j, (es.getD j ⟨#[]⟩).size ≤ 1048576) (hl : es.length ≤ 1048576) (h1 : wd ≤ 32) (h2 : hash.size = wd) :
    Calls Tryz.prog 190 #[.pointer (some ⟨sb, 0, none⟩), .string hash] w fun e w' => e = .returned (nodeT (foundR D es (firstI (hitB wd es hash) es.length))) ∧ Below w.heap.size w w' := by
  obtain ⟨fx, hfx⟩ : ∃ fx, firstI (hitB wd es hash) es.length = fx := ⟨_, rfl⟩
  rw [hfx]
  have HF : Hid (∀ w', Below w.heap.size w w' → Calls Tryz.prog 192 #[.pointer (some ⟨sb, 0, none⟩), .string hash] w' fun e w'' => e = .returned (.tuple #[.string (encAt es fx), .bool fx.isSome]) ∧ Below w'.heap.size w' w'') := fun w' hb => stockFirst_any sb r base wd es a c hash w' (h.below hb) hs hl h1 h2 fx hfx
  have hblk := h.blk
  have hbl := (Array.getElem?_eq_some_iff.1 hblk).1
  have hbA : Below w.heap.size w (w.alloc (.cells #[.string ⟨#[]⟩, .string ⟨#[]⟩, .string ⟨#[]⟩, .string ⟨#[]⟩] 73)) := (Below.refl _ _).alloc (Nat.le_refl _) _
  have nB : NBk w.heap.size ⟨#[]⟩ ⟨#[]⟩ ⟨#[]⟩ ⟨#[]⟩ (w.alloc (.cells #[.string ⟨#[]⟩, .string ⟨#[]⟩, .string ⟨#[]⟩, .string ⟨#[]⟩] 73)) := heap_alloc_new w _
  obtain ⟨gb, hgb⟩ : ∃ gb, w.heap.size = gb := ⟨_, rfl⟩
  rw [hgb] at nB
  have hfin : ∀ (W : World) (x y z u : ByteArray), Below w.heap.size w W → Below w.heap.size w ((((W.setCell ⟨gb, 0, none⟩ (.string x)).setCell ⟨gb, 1, none⟩ (.string y)).setCell ⟨gb, 2, none⟩ (.string z)).setCell ⟨gb, 3, none⟩ (.string u)) := fun W x y z u hW => by
    have hge : w.heap.size ≤ gb := by omega
    exact (((hW.setCell (p := ⟨gb, 0, none⟩) hge _).setCell (p := ⟨gb, 1, none⟩) hge _).setCell (p := ⟨gb, 2, none⟩) hge _).setCell (p := ⟨gb, 3, none⟩) hge _
  replace hfin : Hid _ := hfin
  cases fx with
  | none =>
    unfold foundR
    clear h hfx
    go_enter Tryz.func190, Tryz.ntmps190
    go_upto_region 1 with fail
    try rw [hgb]
    generalize w.alloc (.cells #[.string ⟨#[]⟩, .string ⟨#[]⟩, .string ⟨#[]⟩, .string ⟨#[]⟩] 73) = wa at hbA nB ⊢
    go_upto_region 3 with (first | (go_at_call 192; refine (HF.out _ hbA).mono ?_; rintro e w1 ⟨rfl, hb1⟩))
    have nB1 := nB.below hb1
    have hb2 := hbA.trans (hb1.mono hbA.size)
    obtain ⟨c0, c1, c2, c3, f0, f1, f2, f3⟩ := nB1.at
    go_wp2_with fail
    exact retN Tryz.results190 rfl rfl rfl (nB1.all _ _ _ _) ⟨rfl, hfin.out _ _ _ _ _ hb2⟩
  | some i =>
    have hsz : (es.getD i ⟨#[]⟩).size ≤ 1048576 := hs i
    have hfr : foundR D es (some i) = if D.ok (es.getD i ⟨#[]⟩) then ((D.k (es.getD i ⟨#[]⟩), D.v (es.getD i ⟨#[]⟩), D.l (es.getD i ⟨#[]⟩), D.r (es.getD i ⟨#[]⟩)), 0) else ((⟨#[]⟩, ⟨#[]⟩, ⟨#[]⟩, ⟨#[]⟩), 3) := rfl
    rw [hfr]
    have HF2 : Hid (∀ w', Below w.heap.size w w' → Calls Tryz.prog 192 #[.pointer (some ⟨sb, 0, none⟩), .string hash] w' fun e w'' => e = .returned (.tuple #[.string (es.getD i ⟨#[]⟩), .bool true]) ∧ Below w'.heap.size w' w'') := HF
    generalize es.getD i ⟨#[]⟩ = s at hsz HF2 ⊢
    have HDx : Hid (∀ w', Calls Tryz.prog 198 #[.string s, .int .i64 (wd : Int)] w' fun e w'' => e = .returned (.tuple #[.agg #[.string (D.k s), .string (D.v s), .string (D.l s), .string (D.r s)], .bool (D.ok s)]) ∧ Below w'.heap.size w' w'') := fun w' => HD.out s w' hsz
    clear hfr HF h hfx HD
    generalize D.k s = xk at HDx ⊢
    generalize D.v s = xv at HDx ⊢
    generalize D.l s = xl at HDx ⊢
    generalize D.r s = xr at HDx ⊢
    cases hok : D.ok s with
    | false =>
      rw [hok] at HDx
      rw [if_neg (by decide)]
      clear hok
      go_enter Tryz.func190, Tryz.ntmps190
      go_upto_region 1 with fail
      try rw [hgb]
      generalize w.alloc (.cells #[.string ⟨#[]⟩, .string ⟨#[]⟩, .string ⟨#[]⟩, .string ⟨#[]⟩] 73) = wa at hbA nB ⊢
      go_upto_region 4 with (first | (go_at_call 192; refine (HF2.out _ hbA).mono ?_; rintro e w1 ⟨rfl, hb1⟩))
      have nB1 := nB.below hb1
      have hb2 := hbA.trans (hb1.mono hbA.size)
      have d1 := Lib.cell_of_heap ((hb2.block sb hbl).trans hblk) 1
      go_upto_region 6 with (first | (go_at_call 198; refine (HDx.out _).mono ?_; rintro e w2 ⟨rfl, hb3⟩))
      have hb4 := hb2.trans (hb3.mono hb2.size)
      have al : Below w2.heap.size w2 (w2.alloc (.cells #[.string xk, .string xv, .string xl, .string xr] 73)) := (Below.refl _ _).alloc (Nat.le_refl _) _
      have nB2 := (nB1.below hb3).below al
      have hb5 := hb4.trans (al.mono hb4.size)
      generalize w2.alloc (.cells #[.string xk, .string xv, .string xl, .string xr] 73) = w3 at nB2 hb5 ⊢
      clear d1 al
      obtain ⟨c0, c1, c2, c3, f0, f1, f2, f3⟩ := nB2.at
      go_wp2_with fail
      exact retN Tryz.results190 rfl rfl rfl (nB2.all _ _ _ _) ⟨rfl, hfin.out _ _ _ _ _ hb5⟩
    | true =>
      rw [hok] at HDx
      rw [if_pos rfl]
      clear hok
      go_enter Tryz.func190, Tryz.ntmps190
      go_upto_region 1 with fail
      try rw [hgb]
      generalize w.alloc (.cells #[.string ⟨#[]⟩, .string ⟨#[]⟩, .string ⟨#[]⟩, .string ⟨#[]⟩] 73) = wa at hbA nB ⊢
      go_upto_region 4 with (first | (go_at_call 192; refine (HF2.out _ hbA).mono ?_; rintro e w1 ⟨rfl, hb1⟩))
      have nB1 := nB.below hb1
      have hb2 := hbA.trans (hb1.mono hbA.size)
      have d1 := Lib.cell_of_heap ((hb2.block sb hbl).trans hblk) 1
      go_upto_region 7 with (first | (go_at_call 198; refine (HDx.out _).mono ?_; rintro e w2 ⟨rfl, hb3⟩))
      have hb4 := hb2.trans (hb3.mono hb2.size)
      have al : Below w2.heap.size w2 (w2.alloc (.cells #[.string xk, .string xv, .string xl, .string xr] 73)) := (Below.refl _ _).alloc (Nat.le_refl _) _
      have nX : NBk w2.heap.size xk xv xl xr (w2.alloc (.cells #[.string xk, .string xv, .string xl, .string xr] 73)) := heap_alloc_new w2 _
      have nB2 := (nB1.below hb3).below al
      have hb5 := hb4.trans (al.mono hb4.size)
      obtain ⟨gx, hgx⟩ : ∃ gx, w2.heap.size = gx := ⟨_, rfl⟩
      rw [hgx] at nX
      try rw [hgx]
      generalize w2.alloc (.cells #[.string xk, .string xv, .string xl, .string xr] 73) = w3 at nB2 hb5 nX ⊢
      clear d1 al
      obtain ⟨e0, e1, e2, e3, _, _, _, _⟩ := nX.at
      obtain ⟨c0, c1, c2, c3, f0, f1, f2, f3⟩ := nB2.at
      go_wp2_with fail
      exact retN Tryz.results190 rfl rfl rfl (nB2.all _ _ _ _) ⟨rfl, hfin.out _ _ _ _ _ hb5⟩

end Go.Proofs.YtibjhkpgaaapaaaGreatDoor
namespace Go.Proofs.YtibjhkpgaaapaaaGreatDoor
open Go.RowKit Go.Proofs.Sha

end Go.Proofs.YtibjhkpgaaapaaaGreatDoor
