import Derived.Test.YtibjhkpgaaapaaaGreatDoorZxbg
import Derived.Test.YtibjhkpgaaapaaaGreatDoorZxaz
import Derived.Test.YtibjhkpgaaapaaaGreatDoorZxaq
import Derived.Test.YtibjhkpgaaapaaaGreatDoorZxam
namespace Go.Proofs.YtibjhkpgaaapaaaGreatDoor
open Go.RowKit Go.Proofs.Sha

set_option maxRecDepth 100000 in
set_option maxHeartbeats 1000000 in
theorem stockOf_any {K : World → Prop} (HH : Hid (HashSaid K)) (keep : Hid (∀ w1 w2, K w1 → Below w1.heap.size w1 w2 → K w2)) (wd : Nat) (a : Option Addr) (ss : List ByteArray) (c : Nat) (w : World) (h : SArg a ss w) (hK : K w) (h1 : wd ≤ 32) :
    Calls Tryz.prog 54 #[.agg #[.int .i64 (wd : Int), .slice a ss.length c]] w fun e w' => ∃ sb r a' c', e = .returned (.pointer (some ⟨sb, 0, none⟩)) ∧ StockAt sb r (sb + 1) wd ss a' c' w' ∧ Below w.heap.size w w' := by
  have hn := h.le
  have hbA : Below w.heap.size w (w.alloc (.cells #[.int .i64 (wd : Int), .slice a ss.length c] 31)) := (Below.refl _ _).alloc (Nat.le_refl _) _
  have nA := heap_alloc_new w (.cells #[.int .i64 (wd : Int), .slice a ss.length c] 31)
  obtain ⟨ga, hga⟩ : ∃ ga, w.heap.size = ga := ⟨_, rfl⟩
  rw [hga] at nA
  have hsA : (w.alloc (.cells #[.int .i64 (wd : Int), .slice a ss.length c] 31)).heap.size = ga + 1 := by simp; omega
  go_enter Tryz.func54, Tryz.ntmps54
  go_upto_region 1 with fail
  try rw [hga]
  generalize w.alloc (.cells #[.int .i64 (wd : Int), .slice a ss.length c] 31) = wa at hbA nA hsA ⊢
  have c0 := Lib.cell_of_heap nA 0
  go_upto_region 2 with (first | (go_at_call 115; refine (newStock_any wd _).mono ?_; rintro e w1 ⟨sb, r, rfl, hS, hb1, hr1, hr2⟩))
  have nA1 := (hb1.block ga (by omega)).trans nA
  have hbw := hbA.trans (hb1.mono hbA.size)
  have c1 := Lib.cell_of_heap nA1 1
  clear c0 hb1 nA
  go_wp2_with fail
  go_loopw [12] (fun t12 wr => ∃ (k : Nat) (a' : Option Addr) (c' : Nat), k ≤ ss.length ∧ t12 = .int .i64 (k : Int) ∧ StockAt sb r (sb + 1) wd (ss.take k) a' c' wr ∧ Below w.heap.size w wr) (fun t12 _ => ss.length - (intOf t12).toNat)
  case atStart => exact ⟨0, none, 0, Nat.zero_le _, rfl, hS, hbw⟩
  case round =>
    clear c1 nA1 hS hbw
    obtain ⟨k, a', c', hk, rfl, hSk, hbk⟩ := hrel
    by_cases hlt : k < ss.length
    · have z1 : decide ((k : Int) < (ss.length : Int)) = true := by simp; omega
      obtain ⟨b, off, rfl, hbl, hc⟩ := (h.below hbk).at_ (by omega)
      have hcx := hc k hlt
      have htk : ss.take (k + 1) = ss.take k ++ [ss.getD k ⟨#[]⟩] := by
        rw [List.take_add_one, List.getD_eq_getElem?_getD, List.getElem?_eq_getElem hlt]; rfl
      obtain ⟨s, hs⟩ : ∃ s, ss.getD k ⟨#[]⟩ = s := ⟨_, rfl⟩
      have hsz : s.size ≤ 1048576 := by rw [← hs]; exact h.sz k
      rw [hs] at hcx htk
      have HAdd : Hid (Calls Tryz.prog 116 #[.pointer (some ⟨sb, 0, none⟩), .string s] wr fun e w' => ∃ a'' c'', e = .returned (.tuple #[]) ∧ StockAt sb r (sb + 1) wd (ss.take k ++ [s]) a'' c'' w' ∧ ∀ n, n ≤ sb → n ≤ r → Below n wr w') := stockAdd_any HH keep sb r (sb + 1) wd (ss.take k) a' c' s wr hSk (keep.out _ _ hK hbk) hsz h1 (by rw [List.length_take]; omega)
      rw [← htk] at HAdd
      clear hc hs htk hSk
      have hx0 : (0 : Int) ≤ (k : Int) := Int.natCast_nonneg _
      have hx1 : (k : Int) < (ss.length : Int) := by omega
      go_wp2_with (first | (go_at_call 116; refine HAdd.out.mono ?_; rintro e w5 ⟨a5, c5, rfl, hS5, hb5⟩))
      have hb6 := hbk.trans (hb5 w.heap.size (by omega) (by omega))
      go_roundw
      case rel => exact ⟨k + 1, a5, c5, hlt, by go_num, hS5, hb6⟩
      case measure => simp [intOf]; omega
    · obtain rfl : k = ss.length := by omega
      have z1 : decide ((ss.length : Int) < (ss.length : Int)) = false := by simp
      rw [List.take_length] at hSk
      go_wp2_with fail
      go_ret
      exact ⟨sb, r, a', c', rfl, hSk, hbk⟩

/-- The encoding at a place that is found. -/
def encAt (es : List ByteArray) : Option Nat → ByteArray
  | none => ⟨#[]⟩
  | some i => es.getD i ⟨#[]⟩
set_option maxRecDepth 100000 in
set_option maxHeartbeats 1000000 in
theorem stockFirst_any (sb r base wd : Nat) (es : List ByteArray) (a : Option Addr) (c : Nat) (hash : ByteArray) (w : World) (h : StockAt sb r base wd es a c w) (hs : ∀ j, (es.getD j ⟨#[]⟩).size ≤ 1048576) (hl : es.length ≤ 1048576) (h1 : wd ≤ 32) (h2 : hash.size = wd) (fx : Option Nat) (hfx : firstI (hitB wd es hash) es.length = fx) :
    Calls Tryz.prog 192 #[.pointer (some ⟨sb, 0, none⟩), .string hash] w fun e w' => e = .returned (.tuple #[.string (encAt es fx), .bool fx.isSome]) ∧ Below w.heap.size w w' := by
  have hpl : placesF wd es es.length (cutW wd hash.data.toList) = fx.map fun i => (i : Int) := by
    rw [placesF_first, ← hfx, show (fun i => decide (keyW wd (es.getD i ⟨#[]⟩) = cutW wd hash.data.toList)) = hitB wd es hash from funext fun i => key_hit wd es hash h1 h2 i]
  have hlt : ∀ i, fx = some i → i < es.length := fun i hi => firstI_lt (hfx.trans hi)
  have hblk := h.blk
  have hM := h.map
  have hsa := own_sarg h.own hl hs
  have hbl := (Array.getElem?_eq_some_iff.1 hblk).1
  have HF := find_any wd r _ hash w hM h1 h2
  rw [hpl] at HF
  have c1 := Lib.cell_of_heap hblk 1
  have c2 := Lib.cell_of_heap hblk 2
  cases fx with
  | none =>
    have HF' : Hid (Calls Tryz.prog 199 #[.agg #[.int .i64 (wd : Int), .map (some r)], .string hash] w fun e w' => e = .returned (.tuple #[.int .i64 0, .bool false]) ∧ Below w.heap.size w w') := HF
    clear HF hpl hfx h hM hsa
    go_enter Tryz.func192, Tryz.ntmps192
    go_wp2_with (first | (go_at_call 199; refine HF'.out.mono ?_; rintro e w1 ⟨rfl, hb1⟩))
    go_ret2
    exact ⟨rfl, hb1⟩
  | some i =>
    have HF' : Hid (Calls Tryz.prog 199 #[.agg #[.int .i64 (wd : Int), .map (some r)], .string hash] w fun e w' => e = .returned (.tuple #[.int .i64 (i : Int), .bool true]) ∧ Below w.heap.size w w') := HF
    have hil := hlt i rfl
    obtain ⟨b, off, rfl, hbb, hcs⟩ := hsa.at_ (by omega)
    have hcx := hcs i hil
    have HE : Hid (encAt es (some i) = es.getD i ⟨#[]⟩) := rfl
    obtain ⟨x, hx⟩ : ∃ x, es.getD i ⟨#[]⟩ = x := ⟨_, rfl⟩
    rw [hx] at hcx HE
    obtain ⟨m, hm⟩ : ∃ m, es.length = m := ⟨_, rfl⟩
    rw [hm] at hblk
    have hx0 : (0 : Int) ≤ (i : Int) := Int.natCast_nonneg _
    have hx1 : (i : Int) < (m : Int) := by omega
    obtain ⟨y, hy⟩ : ∃ y, encAt es (some i) = y := ⟨_, rfl⟩
    have hyx : Hid (y = x) := by show y = x; rw [← hy]; exact HE.out
    rw [hy]
    clear HF hpl hfx h hM hcs hx hy HE
    go_enter Tryz.func192, Tryz.ntmps192
    go_wp2_with (first | (go_at_call 199; refine HF'.out.mono ?_; rintro e w1 ⟨rfl, hb1⟩; have hbk1 := (hb1.block sb hbl).trans hblk; have d0 := Lib.cell_of_heap hbk1 0; have d1 := (hb1.cell (p := ⟨b, off + i, none⟩) hbb).trans hcx))
    go_ret2
    exact ⟨by rw [hyx.out]; rfl, hb1⟩
set_option maxRecDepth 100000 in
set_option maxHeartbeats 1000000 in
theorem stockFind_any (D : Dec) (sb r base wd : Nat) (HD : Hid (DecSaid 198 wd D)) (es : List ByteArray) (a : Option Addr) (c : Nat) (hash : ByteArray) (w : World) (h : StockAt sb r base wd es a c w) (hs : ∀ j, (es.getD j ⟨#[]⟩).size ≤ 1048576) (hl : es.length ≤ 1048576) (h1 : wd ≤ 32) (h2 : hash.size = wd) :
    Calls Tryz.prog 190 #[.pointer (some ⟨sb, 0, none⟩), .string hash] w fun e w' => e = .returned (nodeT (foundR D es (firstI (hitB wd es hash) es.length))) ∧ Below w.heap.size w w' := by
  obtain ⟨fx, hfx⟩ : ∃ fx, firstI (hitB wd es hash) es.length = fx := ⟨_, rfl⟩
  rw [hfx]
  have HF : Hid (∀ w', Below w.heap.size w w' → Calls Tryz.prog 192 #[.pointer (some ⟨sb, 0, none⟩), .string hash] w' fun e w'' => e = .returned (.tuple #[.string (encAt es fx), .bool fx.isSome]) ∧ Below w'.heap.size w' w'') := fun w' hb => stockFirst_any sb r base wd es a c hash w' (h.below hb) hs hl h1 h2 fx hfx
  have hblk := h.blk
  have hbl := (Array.getElem?_eq_some_iff.1 hblk).1
  have hbA : Below w.heap.size w (w.alloc (.cells #[.string ⟨#[]⟩, .string ⟨#[]⟩, .string ⟨#[]⟩, .string ⟨#[]⟩] 73)) := (Below.refl _ _).alloc (Nat.le_refl _) _
  have nB : NBk w.heap.size ⟨#[]⟩ ⟨#[]⟩ ⟨#[]⟩ ⟨#[]⟩ (w.alloc (.cells #[.string ⟨#[]⟩, .string ⟨#[]⟩, .string ⟨#[]⟩, .string ⟨#[]⟩] 73)) := heap_alloc_new w _
  obtain ⟨gb, hgb⟩ : ∃ gb, w.heap.size = gb := ⟨_, rfl⟩
  rw [hgb] at nB
  have hfin : ∀ (W : World) (x y z u : ByteArray), Below w.heap.size w W → Below w.heap.size w ((((W.setCell ⟨gb, 0, none⟩ (.string x)).setCell ⟨gb, 1, none⟩ (.string y)).setCell ⟨gb, 2, none⟩ (.string z)).setCell ⟨gb, 3, none⟩ (.string u)) := fun W x y z u hW => by
    have hge : w.heap.size ≤ gb := by omega
    exact (((hW.setCell (p := ⟨gb, 0, none⟩) hge _).setCell (p := ⟨gb, 1, none⟩) hge _).setCell (p := ⟨gb, 2, none⟩) hge _).setCell (p := ⟨gb, 3, none⟩) hge _
  replace hfin : Hid _ := hfin
  cases fx with
  | none =>
    unfold foundR
    clear h hfx
    go_enter Tryz.func190, Tryz.ntmps190
    go_upto_region 1 with fail
    try rw [hgb]
    generalize w.alloc (.cells #[.string ⟨#[]⟩, .string ⟨#[]⟩, .string ⟨#[]⟩, .string ⟨#[]⟩] 73) = wa at hbA nB ⊢
    go_upto_region 3 with (first | (go_at_call 192; refine (HF.out _ hbA).mono ?_; rintro e w1 ⟨rfl, hb1⟩))
    have nB1 := nB.below hb1
    have hb2 := hbA.trans (hb1.mono hbA.size)
    obtain ⟨c0, c1, c2, c3, f0, f1, f2, f3⟩ := nB1.at
    go_wp2_with fail
    exact retN Tryz.results190 rfl rfl rfl (nB1.all _ _ _ _) ⟨rfl, hfin.out _ _ _ _ _ hb2⟩
  | some i =>
    have hsz : (es.getD i ⟨#[]⟩).size ≤ 1048576 := hs i
    have hfr : foundR D es (some i) = if D.ok (es.getD i ⟨#[]⟩) then ((D.k (es.getD i ⟨#[]⟩), D.v (es.getD i ⟨#[]⟩), D.l (es.getD i ⟨#[]⟩), D.r (es.getD i ⟨#[]⟩)), 0) else ((⟨#[]⟩, ⟨#[]⟩, ⟨#[]⟩, ⟨#[]⟩), 3) := rfl
    rw [hfr]
    have HF2 : Hid (∀ w', Below w.heap.size w w' → Calls Tryz.prog 192 #[.pointer (some ⟨sb, 0, none⟩), .string hash] w' fun e w'' => e = .returned (.tuple #[.string (es.getD i ⟨#[]⟩), .bool true]) ∧ Below w'.heap.size w' w'') := HF
    generalize es.getD i ⟨#[]⟩ = s at hsz HF2 ⊢
    have HDx : Hid (∀ w', Calls Tryz.prog 198 #[.string s, .int .i64 (wd : Int)] w' fun e w'' => e = .returned (.tuple #[.agg #[.string (D.k s), .string (D.v s), .string (D.l s), .string (D.r s)], .bool (D.ok s)]) ∧ Below w'.heap.size w' w'') := fun w' => HD.out s w' hsz
    clear hfr HF h hfx HD
    generalize D.k s = xk at HDx ⊢
    generalize D.v s = xv at HDx ⊢
    generalize D.l s = xl at HDx ⊢
    generalize D.r s = xr at HDx ⊢
    cases hok : D.ok s with
    | false =>
      rw [hok] at HDx
      rw [if_neg (by decide)]
      clear hok
      go_enter Tryz.func190, Tryz.ntmps190
      go_upto_region 1 with fail
      try rw [hgb]
      generalize w.alloc (.cells #[.string ⟨#[]⟩, .string ⟨#[]⟩, .string ⟨#[]⟩, .string ⟨#[]⟩] 73) = wa at hbA nB ⊢
      go_upto_region 4 with (first | (go_at_call 192; refine (HF2.out _ hbA).mono ?_; rintro e w1 ⟨rfl, hb1⟩))
      have nB1 := nB.below hb1
      have hb2 := hbA.trans (hb1.mono hbA.size)
      have d1 := Lib.cell_of_heap ((hb2.block sb hbl).trans hblk) 1
      go_upto_region 6 with (first | (go_at_call 198; refine (HDx.out _).mono ?_; rintro e w2 ⟨rfl, hb3⟩))
      have hb4 := hb2.trans (hb3.mono hb2.size)
      have al : Below w2.heap.size w2 (w2.alloc (.cells #[.string xk, .string xv, .string xl, .string xr] 73)) := (Below.refl _ _).alloc (Nat.le_refl _) _
      have nB2 := (nB1.below hb3).below al
      have hb5 := hb4.trans (al.mono hb4.size)
      generalize w2.alloc (.cells #[.string xk, .string xv, .string xl, .string xr] 73) = w3 at nB2 hb5 ⊢
      clear d1 al
      obtain ⟨c0, c1, c2, c3, f0, f1, f2, f3⟩ := nB2.at
      go_wp2_with fail
      exact retN Tryz.results190 rfl rfl rfl (nB2.all _ _ _ _) ⟨rfl, hfin.out _ _ _ _ _ hb5⟩
    | true =>
      rw [hok] at HDx
      rw [if_pos rfl]
      clear hok
      go_enter Tryz.func190, Tryz.ntmps190
      go_upto_region 1 with fail
      try rw [hgb]
      generalize w.alloc (.cells #[.string ⟨#[]⟩, .string ⟨#[]⟩, .string ⟨#[]⟩, .string ⟨#[]⟩] 73) = wa at hbA nB ⊢
      go_upto_region 4 with (first | (go_at_call 192; refine (HF2.out _ hbA).mono ?_; rintro e w1 ⟨rfl, hb1⟩))
      have nB1 := nB.below hb1
      have hb2 := hbA.trans (hb1.mono hbA.size)
      have d1 := Lib.cell_of_heap ((hb2.block sb hbl).trans hblk) 1
      go_upto_region 7 with (first | (go_at_call 198; refine (HDx.out _).mono ?_; rintro e w2 ⟨rfl, hb3⟩))
      have hb4 := hb2.trans (hb3.mono hb2.size)
      have al : Below w2.heap.size w2 (w2.alloc (.cells #[.string xk, .string xv, .string xl, .string xr] 73)) := (Below.refl _ _).alloc (Nat.le_refl _) _
      have nX : NBk w2.heap.size xk xv xl xr (w2.alloc (.cells #[.string xk, .string xv, .string xl, .string xr] 73)) := heap_alloc_new w2 _
      have nB2 := (nB1.below hb3).below al
      have hb5 := hb4.trans (al.mono hb4.size)
      obtain ⟨gx, hgx⟩ : ∃ gx, w2.heap.size = gx := ⟨_, rfl⟩
      rw [hgx] at nX
      try rw [hgx]
      generalize w2.alloc (.cells #[.string xk, .string xv, .string xl, .string xr] 73) = w3 at nB2 hb5 nX ⊢
      clear d1 al
      obtain ⟨e0, e1, e2, e3, _, _, _, _⟩ := nX.at
      obtain ⟨c0, c1, c2, c3, f0, f1, f2, f3⟩ := nB2.at
      go_wp2_with fail
      exact retN Tryz.results190 rfl rfl rfl (nB2.all _ _ _ _) ⟨rfl, hfin.out _ _ _ _ _ hb5⟩

end Go.Proofs.YtibjhkpgaaapaaaGreatDoor
namespace Go.Proofs.YtibjhkpgaaapaaaGreatDoor
open Go.RowKit Go.Proofs.Sha

/-- The hash's table. -/
abbrev KT (w : World) : Prop := ∀ j, j < 64 → w.cell? ⟨0, j, none⟩ = some (.int .u32 ((kTab.getD j 0).toNat : Int))
theorem KT.below {w w' : World} (h : KT w) (hb : Below w.heap.size w w') : KT w' := fun j hj => by
  have hl0 : 0 < w.heap.size := World.block_lt_of_cell? w _ (h 0 (by omega))
  exact (hb.cell (by exact hl0)).trans (h j hj)
end Go.Proofs.YtibjhkpgaaapaaaGreatDoor
namespace Go.Proofs.YtibjhkpgaaapaaaGreatDoor
open Go.RowKit Go.Proofs.Sha

/-- A proof as it is read: E, S with its hash, F with its pair and the proofs of its subtrees. -/
inductive PT where
  | e : PT
  | s : ByteArray → PT
  | f : ByteArray → ByteArray → PT → PT → PT
/-- The hash that a proof shows. -/
def hashP (wd : Nat) : PT → ByteArray
  | .e => ⟨#[]⟩
  | .s h => h
  | .f k v l r => digB (encS k v (hashP wd l) (hashP wd r) wd) wd
/-- The encoding of its top. -/
def encP (wd : Nat) : PT → ByteArray
  | .f k v l r => encS k v (hashP wd l) (hashP wd r) wd
  | _ => ⟨#[]⟩
/-- A proof in memory. -/
def PA (wd n0 : Nat) : PT → Value → World → Prop
  | .e, x, _ => x = .iface 211 (.agg #[])
  | .s h, x, _ => x = .iface 216 (.agg #[.string h])
  | .f k v l r, x, w => ∃ b lv rv, x = .iface 84 (.pointer (some ⟨b, 0, none⟩)) ∧ n0 ≤ b ∧ w.heap[b]? = some (.cells #[.string k, .string v, lv, rv, .string (encS k v (hashP wd l) (hashP wd r) wd)] 151) ∧ PA wd n0 l lv w ∧ PA wd n0 r rv w
theorem PA.keep {wd n0 : Nat} {w w' : World} (hk : ∀ b (cs : Array Value), n0 ≤ b → w.heap[b]? = some (.cells cs 151) → w'.heap[b]? = some (.cells cs 151)) : ∀ {t : PT} {x : Value}, PA wd n0 t x w → PA wd n0 t x w'
  | .e, _, h => h
  | .s _, _, h => h
  | .f _ _ _ _, _, ⟨b, lv, rv, h1, h2, h3, h4, h5⟩ => ⟨b, lv, rv, h1, h2, hk b _ h2 h3, PA.keep hk h4, PA.keep hk h5⟩
theorem PA.mono {wd n0 n1 : Nat} {w : World} (hn : n1 ≤ n0) : ∀ {t : PT} {x : Value}, PA wd n0 t x w → PA wd n1 t x w
  | .e, _, h => h
  | .s _, _, h => h
  | .f _ _ _ _, _, ⟨b, lv, rv, h1, h2, h3, h4, h5⟩ => ⟨b, lv, rv, h1, Nat.le_trans hn h2, h3, PA.mono hn h4, PA.mono hn h5⟩
theorem PA.below {wd n0 : Nat} {w w' : World} {t : PT} {x : Value} (h : PA wd n0 t x w) (hb : Below w.heap.size w w') : PA wd n0 t x w' := h.keep (fun _ _ _ h3 => below_cells hb h3)
theorem PA.mv {wd n0 r : Nat} {w w' : World} {t : PT} {x : Value} (h : PA wd n0 t x w) (hm : Mv r w w') (hr : ∀ cs, w.heap[r]? ≠ some (.cells cs 151)) : PA wd n0 t x w' := h.keep (fun b cs _ h3 => hm.cells h3 (fun e => hr cs (by rw [← e]; exact h3)))
theorem as216_211 (w : World) : (Instr.typeAssert (.iface 211 (.agg #[])) 77 216 true).run Tryz.prog w = .ok (.tuple #[.agg #[.string ⟨#[]⟩], .bool false]) w := by kernel_rfl
theorem as84_211 (w : World) : (Instr.typeAssert (.iface 211 (.agg #[])) 77 84 true).run Tryz.prog w = .ok (.tuple #[.pointer none, .bool false]) w := by kernel_rfl
theorem as216_216 (h : ByteArray) (w : World) : (Instr.typeAssert (.iface 216 (.agg #[.string h])) 77 216 true).run Tryz.prog w = .ok (.tuple #[.agg #[.string h], .bool true]) w := by kernel_rfl
theorem as84_216 (h : ByteArray) (w : World) : (Instr.typeAssert (.iface 216 (.agg #[.string h])) 77 84 true).run Tryz.prog w = .ok (.tuple #[.pointer none, .bool false]) w := by kernel_rfl
theorem as216_84 (b : Nat) (w : World) : (Instr.typeAssert (.iface 84 (.pointer (some ⟨b, 0, none⟩))) 77 216 true).run Tryz.prog w = .ok (.tuple #[.agg #[.string ⟨#[]⟩], .bool false]) w := by kernel_rfl
theorem as84_84 (b : Nat) (w : World) : (Instr.typeAssert (.iface 84 (.pointer (some ⟨b, 0, none⟩))) 77 84 true).run Tryz.prog w = .ok (.tuple #[.pointer (some ⟨b, 0, none⟩), .bool true]) w := by kernel_rfl
set_option maxRecDepth 100000 in
theorem shash_p (wd n0 : Nat) (h1 : 1 ≤ wd) (h2 : wd ≤ 32) (t : PT) (x : Value) (w : World) (h : PA wd n0 t x w) (hK : KT w) :
    Calls Tryz.prog 97 #[x, .int .i64 (wd : Int)] w fun e w' => e = .returned (.string (hashP wd t)) ∧ Below w.heap.size w w' := by
  cases t with
  | e =>
    obtain rfl : x = .iface 211 (.agg #[]) := h
    have hr : Hid (hashP wd .e = ⟨#[]⟩) := rfl
    have q1 := as216_211
    have q2 := as84_211
    go_enter Tryz.func97, Tryz.ntmps97
    go_wp2_with fail
    go_ret
    exact ⟨by rw [hr.out]; rfl, Below.refl _ _⟩
  | s hh =>
    obtain rfl : x = .iface 216 (.agg #[.string hh]) := h
    have hr : Hid (hashP wd (.s hh) = hh) := rfl
    have q1 := as216_216 hh
    have q2 := as84_216 hh
    go_enter Tryz.func97, Tryz.ntmps97
    go_wp2_with fail
    go_ret
    exact ⟨by rw [hr.out]; rfl, (Below.refl _ _).alloc (Nat.le_refl _) _⟩
  | f k v l r =>
    obtain ⟨b, lv, rv, rfl, _, hb, _, _⟩ := h
    have hes := (encS_size k v (hashP wd l) (hashP wd r) wd).1
    have hr : Hid (hashP wd (.f k v l r) = digB (encS k v (hashP wd l) (hashP wd r) wd) wd) := rfl
    have HD : Hid (∀ w', KT w' → Calls Tryz.prog 145 #[.string (encS k v (hashP wd l) (hashP wd r) wd), .int .i64 (wd : Int)] w' fun e w'' => e = .returned (.string (digB (encS k v (hashP wd l) (hashP wd r) wd) wd)) ∧ Below w'.heap.size w' w'') := fun w' hk => edig_any _ wd w' (by omega) h1 h2 hk
    generalize encS k v (hashP wd l) (hashP wd r) wd = E at hb HD hr
    have c4 := Lib.cell_of_heap hb 4
    clear hb hes
    have q1 := as216_84 b
    have q2 := as84_84 b
    go_enter Tryz.func97, Tryz.ntmps97
    go_wp2_with (first | (go_at_call 145; refine (HD.out _ hK).mono ?_; rintro e w1 ⟨rfl, hb1⟩))
    go_ret
    exact ⟨by rw [hr.out]; rfl, hb1⟩
end Go.Proofs.YtibjhkpgaaapaaaGreatDoor
namespace Go.Proofs.YtibjhkpgaaapaaaGreatDoor
open Go.RowKit Go.Proofs.Sha

set_option maxRecDepth 100000 in
set_option maxHeartbeats 1000000 in
theorem addEnc (b wd n0 : Nat) (h1 : 1 ≤ wd) (h2 : wd ≤ 32) (k v : ByteArray) (lv rv : Value) (enc0 : ByteArray) (l r : PT) (w : World) (hB : w.heap[b]? = some (.cells #[.string k, .string v, lv, rv, .string enc0] 151)) (hl : PA wd n0 l lv w) (hr : PA wd n0 r rv w) (hK : KT w) (hks : k.size ≤ 1048576) (hvs : v.size ≤ 1048576) (hls : (hashP wd l).size ≤ 1048576) (hrs : (hashP wd r).size ≤ 1048576) :
    Calls Tryz.prog 174 #[.pointer (some ⟨b, 0, none⟩), .int .i64 (wd : Int)] w fun e w' => e = .returned (.tuple #[]) ∧ w'.heap[b]? = some (.cells #[.string k, .string v, lv, rv, .string (encS k v (hashP wd l) (hashP wd r) wd)] 151) ∧ Mv b w w' := by
  have HL : Hid (∀ w', Below w.heap.size w w' → Calls Tryz.prog 97 #[lv, .int .i64 (wd : Int)] w' fun e w'' => e = .returned (.string (hashP wd l)) ∧ Below w'.heap.size w' w'') := fun w' hb => shash_p wd n0 h1 h2 l lv w' (hl.below hb) (hK.below hb)
  have HR : Hid (∀ w', Below w.heap.size w w' → Calls Tryz.prog 97 #[rv, .int .i64 (wd : Int)] w' fun e w'' => e = .returned (.string (hashP wd r)) ∧ Below w'.heap.size w' w'') := fun w' hb => shash_p wd n0 h1 h2 r rv w' (hr.below hb) (hK.below hb)
  have HE : Hid (∀ w', Calls Tryz.prog 186 #[.agg #[.string k, .string v, .string (hashP wd l), .string (hashP wd r)], .int .i64 (wd : Int)] w' fun e w'' => e = .returned (.string (encS k v (hashP wd l) (hashP wd r) wd)) ∧ Below w'.heap.size w' w'') := fun w' => by
    refine (enc_impl k v (hashP wd l) (hashP wd r) wd w' hks hvs hls hrs).mono ?_
    rintro e w'' ⟨t, rfl, ht, hb⟩
    exact ⟨by rw [ht.out], hb⟩
  generalize encS k v (hashP wd l) (hashP wd r) wd = E at HE ⊢
  generalize hashP wd l = hL at HL HE
  generalize hashP wd r = hR at HR HE
  clear hl hr hK hls hrs
  have c2 : w.cell? ⟨b, 2, none⟩ = some lv := Lib.cell_of_heap hB 2
  have c3 : w.cell? ⟨b, 3, none⟩ = some rv := Lib.cell_of_heap hB 3
  go_enter Tryz.func174, Tryz.ntmps174
  go_wp2_with fail
  go_region_held3 (fun W => W.cell? ⟨b, 2, none⟩ = some lv ∧ W.cell? ⟨b, 3, none⟩ = some rv) (first | exact ⟨c2, c3⟩ | exact ⟨Lib.cell_of_heap n1 2, Lib.cell_of_heap n1 3⟩ | exact ⟨Lib.cell_of_heap n2 2, Lib.cell_of_heap n2 3⟩) (first | (go_at_call_of 97 lv; refine (HL.out w.drew (Below.refl _ _).drew).mono ?_; rintro e w1 ⟨rfl, hb1'⟩; have hb1 : Below w.heap.size w w1 := (Below.refl w.heap.size w).drew.trans hb1'; have n1 := below_cells hb1 hB) | (go_at_call_of 97 rv; refine (HR.out w1 hb1).mono ?_; rintro e w2 ⟨rfl, hb2'⟩; have hb2 := hb1.trans (hb2'.mono hb1.size); have n2 := below_cells hb2 hB))
  clear hb1' hb2' n1 hb1 c2 c3 HL HR
  have c0 : w2.cell? ⟨b, 0, none⟩ = some (.string k) := Lib.cell_of_heap n2 0
  have c1 : w2.cell? ⟨b, 1, none⟩ = some (.string v) := Lib.cell_of_heap n2 1
  go_wp2_with fail
  go_region_held3 (fun W => W.cell? ⟨b, 0, none⟩ = some (.string k) ∧ W.cell? ⟨b, 1, none⟩ = some (.string v)) (first | exact ⟨c0, c1⟩ | exact ⟨Lib.cell_of_heap n3 0, Lib.cell_of_heap n3 1⟩ | exact ⟨Lib.cell_of_heap n4 0, Lib.cell_of_heap n4 1⟩) (first | (go_at_call 186; refine (HE.out _).mono ?_; rintro e w3 ⟨rfl, hb3'⟩; have hb3 : Below w2.heap.size w2 w3 := (Below.refl w2.heap.size w2).drew.trans hb3'; have n3 := below_cells hb3 n2; have c4 := Lib.cell_of_heap n3 4; have f4 : w3.frozen? ⟨b, 4, none⟩ = false := frozen_of_heap n3; have n4 := heap_setCell_same w3 b 4 _ 151 (.string E) n3))
  have hm : Mv b w (w3.setCell ⟨b, 4, none⟩ (.string E)) := (Mv.of_below b (hb2.trans (hb3.mono hb2.size))).setCell 4 _
  go_wp2_with fail
  go_end0
  exact ⟨rfl, n4, hm⟩
end Go.Proofs.YtibjhkpgaaapaaaGreatDoor
