import Derived.Test.YtcjffghdojfnbabDoorHb
namespace Go.Proofs.Sha
open Go Go.RowKit
section
variable {P : Program} (w : World)
theorem wpList_box_row {ops : Array Oper} {rest : List Oper} {o : Oper} {a : Act} {Q : Exit → Act → World → Prop} (hgd : o.guard = none) (dst : Option Tmp) (hdst : o.dst = dst) (ty : TypeId) (x : Operand) (ho : o.op = .box ty x) (xs : List Value) (hx : a.eval x = .agg xs.toArray)
    (h : ∀ g w', Row w' w.heap.size g xs.length xs.length xs → Below w.heap.size w w' → wpList P ops Q rest (a.put dst (.pointer (some ⟨g, 0, none⟩))) w') : wpList P ops Q (o :: rest) a w := by
  refine Go.Great.wpList_runTo hgd dst hdst (.pointer (some ⟨w.heap.size, 0, none⟩)) (w.alloc (.cells xs.toArray ty)) ?_ (h _ _ ?_ ((Below.refl _ _).alloc (Nat.le_refl _) _))
  · unfold execOp
    simp only [ho, hx]
    rfl
  · have := Row.of_block (base := w.heap.size) (Nat.le_refl _) (heap_alloc_new w (.cells xs.toArray ty)) xs.length (by simp) (.inl rfl)
    simpa using this
theorem wpList_build_to {ops : Array Oper} {rest : List Oper} {o : Oper} {a : Act} {Q : Exit → Act → World → Prop} (hgd : o.guard = none) (t : TypeId) (parts : Array (Nat × Operand)) (ho : o.op = .build t parts) (cells : Array Value)
    (hb : P.built t (parts.toList.map fun (i, x) => (i, a.eval x)) = some cells)
    (h : wpList P ops Q rest (a.put o.dst (.agg cells)) w) : wpList P ops Q (o :: rest) a w := by
  rw [← Array.toList_map] at hb
  refine Go.Great.wpList_runTo hgd o.dst rfl (.agg cells) w ?_ h
  unfold execOp
  simp only [ho, Sem.run_bind, run_build w t _ cells hb, Result.andThen_ok, Sem.run_pure]
theorem wpList_eql_b {ops : Array Oper} {rest : List Oper} {o : Oper} {a : Act} {Q : Exit → Act → World → Prop} (hgd : o.guard = none) (t t' : TypeId) (x y : Operand) (ho : o.op = .binOp .eql t x y t') (X Y : List UInt8) (n : Nat) (e : TypeId) (i : TypeInfo)
    (hx : a.eval x = .agg (X.map B).toArray) (hy : a.eval y = .agg (Y.map B).toArray) (hu : P.underlying t = some (.array n e)) (he : P.underlying e = some (.int .u8)) (hi : P.info? e = some i) (hc : P.cellsOf e = 1) (hX : X.length = n) (hY : Y.length = n)
    (hguard : (eqGuard .eql t x y (.agg (X.map B).toArray) (.agg (Y.map B).toArray)).run P w = .ok () w)
    (h : wpList P ops Q rest (a.put o.dst (.bool (decide (X = Y)))) w) : wpList P ops Q (o :: rest) a w := by
  refine Go.Great.wpList_runTo hgd o.dst rfl (.bool (decide (X = Y))) w ?_ h
  unfold execOp
  simp only [ho, hx, hy, Sem.run_bind, hguard, run_eql_b w X Y t e n i hu he hi hc hX hY, Result.andThen_ok, Sem.run_pure]
theorem ret_any {fn : Func} {R : Ending → World → Prop} {a : Act} {p : Tmp} {ty : TypeId} {d : TypeDesc} (hres : fn.results = #[.cell p ty]) (base g n cap : Nat) (xs : List Value) (ht : a.tmps.getD p undef = .pointer (some ⟨g, 0, none⟩))
    (hr : Row w base g n cap xs) (hu : P.underlying ty = some d) (hd : d.isRow = true) (hi : (P.info? ty).map (·.size) = some n) (hdef : a.defers = []) (hR : R (.returned (.agg xs.toArray)) w) : bodyPost P fn R .ret a w := by
  refine bodyPost_ret (v := .agg xs.toArray) ?_ hdef hR
  rw [results_cell w hres a.tmps _ ht]
  exact run_loadVar_mid w g 0 ty xs _ hr.range hu hd (by rw [hi, hr.len])
theorem Row.prefix {w : World} {base g n cap : Nat} {xs ys : List Value} (h : Row w base g n cap (xs ++ ys)) : w.rangeAt g 0 xs := fun j v hv => by
  refine h.range j v ?_
  rw [List.getElem?_append_left (List.getElem?_eq_some_iff.1 hv).1, hv]
end
end Go.Proofs.Sha

namespace Go.Proofs.YtcjffghdojfnbabDoor
open Go.RowKit Go.Proofs.Sha
theorem cells5 : Tryd.prog.cellsOf 5 = 1 := by kernel_rfl
theorem guard28 (x y : Operand) (X Y : Array Value) (w : World) : (eqGuard .eql 28 x y (.agg X) (.agg Y)).run Tryd.prog w = .ok () w := by kernel_rfl

set_option maxRecDepth 100000 in
set_option maxHeartbeats 400000 in
theorem greater_any (X Y : List UInt8) (hX : X.length = 32) (hY : Y.length = 32) (w : World) :
    Calls Tryd.prog 22 #[.agg (X.map B).toArray, .agg (Y.map B).toArray] w fun e w' => e = .returned (.bool (Op.bytesLess Y X)) ∧ Below w.heap.size w w' := by
  obtain ⟨LX, hLX⟩ : ∃ L, X.map B = L := ⟨_, rfl⟩
  obtain ⟨LY, hLY⟩ : ∃ L, Y.map B = L := ⟨_, rfl⟩
  have HLX : Hid (X.map B = LX) := hLX
  have HLY : Hid (Y.map B = LY) := hLY
  have l1 : LX.length = 32 := by rw [← hLX, List.length_map, hX]
  have l2 : LY.length = 32 := by rw [← hLY, List.length_map, hY]
  rw [hLX, hLY]
  have HL12 : Hid (LX.length = 32 ∧ LY.length = 32) := ⟨l1, l2⟩
  clear hLX hLY l1 l2
  go_enter Tryd.func22, Tryd.ntmps22
  go_wp2_with (first | (refine wpList_box_row _ rfl (some 2) rfl 28 (.tmp 0) rfl LX rfl ?_; intro g2 w2 hr2 hb2) | (refine wpList_box_row _ rfl (some 3) rfl 28 (.tmp 1) rfl LY rfl ?_; intro g3 w3 hr3 hb3))
  have hR2 : Row w3 w.heap.size g2 32 32 (X.map B) := by rw [HLX.out]; have := hr2.below hb3; rw [HL12.out.1] at this; exact this
  have hR3 : Row w3 w2.heap.size g3 32 32 (Y.map B) := by rw [HLY.out]; have := hr3; rw [HL12.out.2] at this; exact this
  have hs2 := hb2.size
  have hbw : Below w.heap.size w w3 := hb2.trans (hb3.mono hs2)
  have hl2 := hR2.lt
  have hl3 := hR3.lt
  have HC : Hid (∀ j, j < 32 → w3.cell? ⟨g2, j, none⟩ = some (.int .u8 ((X.getD j 0).toNat : Int)) ∧ w3.cell? ⟨g3, j, none⟩ = some (.int .u8 ((Y.getD j 0).toNat : Int))) := fun j hj => ⟨row_b hR2 j hj, row_b hR3 j hj⟩
  clear hR2 hR3 hr2 hr3 hb2 hb3
  go_loopw [6] (fun t wr => ∃ k : Nat, k ≤ 32 ∧ t = .int .i64 (k : Int) ∧ Hid (Op.bytesLess Y X = Op.bytesLess (Y.drop k) (X.drop k)) ∧ Below w3.heap.size w3 wr) (fun t _ => 32 - (intOf t).toNat)
  case atStart => exact ⟨0, by omega, rfl, rfl, Below.refl _ _⟩
  case round =>
    obtain ⟨k, hk, rfl, HL, hb⟩ := hrel
    by_cases hlt : k < 32
    · have c2 := (hb.cell (p := ⟨g2, k, none⟩) hl2).trans (HC.out k hlt).1
      have c3 := (hb.cell (p := ⟨g3, k, none⟩) hl3).trans (HC.out k hlt).2
      have HE := less_eq Y X k (by omega) (by omega)
      have HN := less_ne Y X k (by omega) (by omega)
      obtain ⟨x, hx⟩ : ∃ x, X.getD k 0 = x := ⟨_, rfl⟩
      obtain ⟨y, hy⟩ : ∃ y, Y.getD k 0 = y := ⟨_, rfl⟩
      rw [hx] at c2 HE HN
      rw [hy] at c3 HE HN
      clear hx hy
      have z0 : (0 : Int) ≤ (k : Int) := by omega
      have z1 : (k : Int) < 32 := by omega
      by_cases hxy : y = x
      · have c0 : ((x.toNat : Int) != (y.toNat : Int)) = false := by rw [hxy]; simp
        have HE' : Hid (Op.bytesLess Y X = Op.bytesLess (Y.drop (k + 1)) (X.drop (k + 1))) := HL.out.trans (HE hxy)
        clear HE HN hxy
        go_wp2_with fail
        go_region_held3 (fun w' => w'.cell? ⟨g2, k, none⟩ = some (.int .u8 (x.toNat : Int)) ∧ w'.cell? ⟨g3, k, none⟩ = some (.int .u8 (y.toNat : Int))) (exact ⟨c2, c3⟩) (fail)
        go_wp2_with fail
        go_roundw
        case rel => exact ⟨k + 1, by omega, by go_num, HE', hb.drew⟩
        case measure => simp [intOf]; omega
      · have c0 : ((x.toNat : Int) != (y.toNat : Int)) = true := by
          rw [bne_iff_ne]; exact fun h => hxy (UInt8.toNat_inj.1 (by omega))
        have HN' : Hid (Op.bytesLess Y X = decide (y.toNat < x.toNat)) := (HL.out.trans (HN hxy)).trans (by simp)
        clear HE HN hxy
        go_wp2_with fail
        go_region_held3 (fun w' => w'.cell? ⟨g2, k, none⟩ = some (.int .u8 (x.toNat : Int)) ∧ w'.cell? ⟨g3, k, none⟩ = some (.int .u8 (y.toNat : Int))) (exact ⟨c2, c3⟩) (fail)
        go_wp2_with fail
        go_region_held3 (fun w' => w'.cell? ⟨g2, k, none⟩ = some (.int .u8 (x.toNat : Int)) ∧ w'.cell? ⟨g3, k, none⟩ = some (.int .u8 (y.toNat : Int))) (exact ⟨c2, c3⟩) (fail)
        go_wp2
        go_ret
        exact ⟨by rw [HN'.out]; rfl, hbw.trans ((hb.mono (hbw.size)).drew.drew)⟩
    · obtain rfl : k = 32 := by omega
      have HN' : Hid (Op.bytesLess Y X = false) := by
        show Op.bytesLess Y X = false
        rw [HL.out, List.drop_of_length_le (by omega), List.drop_of_length_le (by omega)]; rfl
      go_wp2
      go_ret
      exact ⟨by rw [HN'.out]; rfl, hbw.trans (hb.mono (hbw.size))⟩
end Go.Proofs.YtcjffghdojfnbabDoor
