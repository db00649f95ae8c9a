import Derived.Test.YtibjhkpgaaapaaaGreatDoorZkaq
import Derived.Test.YtibjhkpgaaapaaaGreatDoorZkae
namespace Go.Proofs.Sha
open Go Go.RowKit
section
variable {P : Program} (w : World)
theorem wpList_eql_b {ops : Array Oper} {rest : List Oper} {o : Oper} {a : Act} {Q : Exit → Act → World → Prop} (hgd : o.guard = none) (t t' : TypeId) (x y : Operand) (ho : o.op = .binOp .eql t x y t') (X Y : List UInt8) (n : Nat) (e : TypeId) (i : TypeInfo)
    (hx : a.eval x = .agg (X.map B).toArray) (hy : a.eval y = .agg (Y.map B).toArray) (hu : P.underlying t = some (.array n e)) (he : P.underlying e = some (.int .u8)) (hi : P.info? e = some i) (hc : P.cellsOf e = 1) (hX : X.length = n) (hY : Y.length = n)
    (hguard : (eqGuard .eql t x y (.agg (X.map B).toArray) (.agg (Y.map B).toArray)).run P w = .ok () w)
    (h : wpList P ops Q rest (a.put o.dst (.bool (decide (X = Y)))) w) : wpList P ops Q (o :: rest) a w := by
  refine Go.Great.wpList_runTo hgd o.dst rfl (.bool (decide (X = Y))) w ?_ h
  unfold execOp
  simp only [ho, hx, hy, Sem.run_bind, hguard, run_eql_b w X Y t e n i hu he hi hc hX hY, Result.andThen_ok, Sem.run_pure]
end
end Go.Proofs.Sha

namespace Go.Proofs.YtibjhkpgaaapaaaGreatDoor
open Go.RowKit Go.Proofs.Sha
theorem cells5 : Tryz.prog.cellsOf 5 = 1 := by kernel_rfl
theorem guard28 (x y : Operand) (X Y : Array Value) (w : World) : (eqGuard .eql 247 x y (.agg X) (.agg Y)).run Tryz.prog w = .ok () w := by kernel_rfl

set_option maxRecDepth 100000 in
set_option maxHeartbeats 400000 in
theorem greater_any (X Y : List UInt8) (hX : X.length = 32) (hY : Y.length = 32) (w : World) :
    Calls Tryz.prog 182 #[.agg (X.map B).toArray, .agg (Y.map B).toArray] w fun e w' => e = .returned (.bool (Op.bytesLess Y X)) ∧ Below w.heap.size w w' := by
  obtain ⟨LX, hLX⟩ : ∃ L, X.map B = L := ⟨_, rfl⟩
  obtain ⟨LY, hLY⟩ : ∃ L, Y.map B = L := ⟨_, rfl⟩
  have HLX : Hid (X.map B = LX) := hLX
  have HLY : Hid (Y.map B = LY) := hLY
  have l1 : LX.length = 32 := by rw [← hLX, List.length_map, hX]
  have l2 : LY.length = 32 := by rw [← hLY, List.length_map, hY]
  rw [hLX, hLY]
  have HL12 : Hid (LX.length = 32 ∧ LY.length = 32) := ⟨l1, l2⟩
  clear hLX hLY l1 l2
  go_enter Tryz.func182, Tryz.ntmps182
  go_wp2_with (first | (refine wpList_box_row _ rfl (some 2) rfl 247 (.tmp 0) rfl LX rfl ?_; intro g2 w2 hr2 hb2) | (refine wpList_box_row _ rfl (some 3) rfl 247 (.tmp 1) rfl LY rfl ?_; intro g3 w3 hr3 hb3))
  have hR2 : Row w3 w.heap.size g2 32 32 (X.map B) := by rw [HLX.out]; have := hr2.below hb3; rw [HL12.out.1] at this; exact this
  have hR3 : Row w3 w2.heap.size g3 32 32 (Y.map B) := by rw [HLY.out]; have := hr3; rw [HL12.out.2] at this; exact this
  have hs2 := hb2.size
  have hbw : Below w.heap.size w w3 := hb2.trans (hb3.mono hs2)
  have hl2 := hR2.lt
  have hl3 := hR3.lt
  have HC : Hid (∀ j, j < 32 → w3.cell? ⟨g2, j, none⟩ = some (.int .u8 ((X.getD j 0).toNat : Int)) ∧ w3.cell? ⟨g3, j, none⟩ = some (.int .u8 ((Y.getD j 0).toNat : Int))) := fun j hj => ⟨row_b hR2 j hj, row_b hR3 j hj⟩
  clear hR2 hR3 hr2 hr3 hb2 hb3
  go_loopw [6] (fun t wr => ∃ k : Nat, k ≤ 32 ∧ t = .int .i64 (k : Int) ∧ Hid (Op.bytesLess Y X = Op.bytesLess (Y.drop k) (X.drop k)) ∧ Below w3.heap.size w3 wr) (fun t _ => 32 - (intOf t).toNat)
  case atStart => exact ⟨0, by omega, rfl, rfl, Below.refl _ _⟩
  case round =>
    obtain ⟨k, hk, rfl, HL, hb⟩ := hrel
    by_cases hlt : k < 32
    · have c2 := (hb.cell (p := ⟨g2, k, none⟩) hl2).trans (HC.out k hlt).1
      have c3 := (hb.cell (p := ⟨g3, k, none⟩) hl3).trans (HC.out k hlt).2
      have HE := less_eq Y X k (by omega) (by omega)
      have HN := less_ne Y X k (by omega) (by omega)
      obtain ⟨x, hx⟩ : ∃ x, X.getD k 0 = x := ⟨_, rfl⟩
      obtain ⟨y, hy⟩ : ∃ y, Y.getD k 0 = y := ⟨_, rfl⟩
      rw [hx] at c2 HE HN
      rw [hy] at c3 HE HN
      clear hx hy
      have z0 : (0 : Int) ≤ (k : Int) := by omega
      have z1 : (k : Int) < 32 := by omega
      by_cases hxy : y = x
      · have c0 : ((x.toNat : Int) != (y.toNat : Int)) = false := by rw [hxy]; simp
        have HE' : Hid (Op.bytesLess Y X = Op.bytesLess (Y.drop (k + 1)) (X.drop (k + 1))) := HL.out.trans (HE hxy)
        clear HE HN hxy
        go_wp2_with fail
        go_region_held3 (fun w' => w'.cell? ⟨g2, k, none⟩ = some (.int .u8 (x.toNat : Int)) ∧ w'.cell? ⟨g3, k, none⟩ = some (.int .u8 (y.toNat : Int))) (exact ⟨c2, c3⟩) (fail)
        go_wp2_with fail
        go_roundw
        case rel => exact ⟨k + 1, by omega, by go_num, HE', hb.drew⟩
        case measure => simp [intOf]; omega
      · have c0 : ((x.toNat : Int) != (y.toNat : Int)) = true := by
          rw [bne_iff_ne]; exact fun h => hxy (UInt8.toNat_inj.1 (by omega))
        have HN' : Hid (Op.bytesLess Y X = decide (y.toNat < x.toNat)) := (HL.out.trans (HN hxy)).trans (by simp)
        clear HE HN hxy
        go_wp2_with fail
        go_region_held3 (fun w' => w'.cell? ⟨g2, k, none⟩ = some (.int .u8 (x.toNat : Int)) ∧ w'.cell? ⟨g3, k, none⟩ = some (.int .u8 (y.toNat : Int))) (exact ⟨c2, c3⟩) (fail)
        go_wp2_with fail
        go_region_held3 (fun w' => w'.cell? ⟨g2, k, none⟩ = some (.int .u8 (x.toNat : Int)) ∧ w'.cell? ⟨g3, k, none⟩ = some (.int .u8 (y.toNat : Int))) (exact ⟨c2, c3⟩) (fail)
        go_wp2
        go_ret
        exact ⟨by rw [HN'.out]; rfl, hbw.trans ((hb.mono (hbw.size)).drew.drew)⟩
    · obtain rfl : k = 32 := by omega
      have HN' : Hid (Op.bytesLess Y X = false) := by
        show Op.bytesLess Y X = false
        rw [HL.out, List.drop_of_length_le (by omega), List.drop_of_length_le (by omega)]; rfl
      go_wp2
      go_ret
      exact ⟨by rw [HN'.out]; rfl, hbw.trans (hb.mono (hbw.size))⟩
end Go.Proofs.YtibjhkpgaaapaaaGreatDoor
namespace Go.Proofs.YtibjhkpgaaapaaaGreatDoor
open Go.RowKit Go.Proofs.Sha

theorem size33 : (Tryz.prog.info? 249).map (·.size) = some 33 := by kernel_rfl
theorem info5' : (Tryz.prog.info? 5).map (fun i => (i.zero, i.size, i.bytes)) = some (some (.int .u8 0), 1, 1) := by kernel_rfl
def zerosR : List Value := (List.replicate 32 (0 : UInt8)).map B ++ [Value.string ⟨#[]⟩]
theorem allocR (w : World) : (Instr.alloc 249 true (.tuple #[])).run Tryz.prog w = .ok (.pointer (some ⟨w.heap.size, 0, none⟩)) (w.alloc (.cells zerosR.toArray 249)) := by kernel_rfl
theorem built32 (x0 x1 x2 x3 x4 x5 x6 x7 x8 x9 x10 x11 x12 x13 x14 x15 x16 x17 x18 x19 x20 x21 x22 x23 x24 x25 x26 x27 x28 x29 x30 x31 : UInt8) (s : ByteArray) : Tryz.prog.built 249 [(0, .agg ([x0, x1, x2, x3, x4, x5, x6, x7, x8, x9, x10, x11, x12, x13, x14, x15, x16, x17, x18, x19, x20, x21, x22, x23, x24, x25, x26, x27, x28, x29, x30, x31].map B).toArray), (1, .string s)] = some (([x0, x1, x2, x3, x4, x5, x6, x7, x8, x9, x10, x11, x12, x13, x14, x15, x16, x17, x18, x19, x20, x21, x22, x23, x24, x25, x26, x27, x28, x29, x30, x31].map B ++ [Value.string s]).toArray) := by kernel_rfl
theorem built_rank (X : List UInt8) (h : X.length = 32) (s : ByteArray) : Tryz.prog.built 249 [(0, .agg (X.map B).toArray), (1, .string s)] = some ((X.map B ++ [Value.string s]).toArray) := by
  match X, h with
  | [x0, x1, x2, x3, x4, x5, x6, x7, x8, x9, x10, x11, x12, x13, x14, x15, x16, x17, x18, x19, x20, x21, x22, x23, x24, x25, x26, x27, x28, x29, x30, x31], _ => exact built32 x0 x1 x2 x3 x4 x5 x6 x7 x8 x9 x10 x11 x12 x13 x14 x15 x16 x17 x18 x19 x20 x21 x22 x23 x24 x25 x26 x27 x28 x29 x30 x31 s

set_option maxRecDepth 100000 in
set_option maxHeartbeats 400000 in
theorem rank_any (s : ByteArray) (w : World) (hs : s.size ≤ 1048576)
    (hK : ∀ j, j < 64 → w.cell? ⟨0, j, none⟩ = some (.int .u32 ((kTab.getD j 0).toNat : Int))) :
    Calls Tryz.prog 166 #[Value.string s] w fun e w' => e = .returned (.agg ((sha s.data.toList).map B ++ [Value.string s]).toArray) ∧ Below w.heap.size w w' := by
  have hl0 : 0 < w.heap.size := World.block_lt_of_cell? w _ (hK 0 (by omega))
  have HH : Hid (∀ w' : World, Below w.heap.size w w' → Calls Tryz.prog 183 #[Value.string s] w' fun e w'' => e = .returned (.agg ((sha s.data.toList).map B).toArray) ∧ Below w'.heap.size w' w'') := fun w' hb => hash_any s w' hs (fun j hj => (hb.cell (by exact hl0)).trans (hK j hj))
  clear hK
  have hln : (sha s.data.toList).length = 32 := by unfold sha; rw [outTo_length]
  obtain ⟨M, hM⟩ : ∃ M, sha s.data.toList = M := ⟨_, rfl⟩
  have HM : Hid (sha s.data.toList = M) := hM
  rw [hM] at HH hln
  clear hM
  have h1c : ∀ v ∈ M.map B ++ [Value.string s], v.oneCell' = true := by
    intro v hv
    rcases List.mem_append.1 hv with hv | hv
    · obtain ⟨x, _, rfl⟩ := List.mem_map.1 hv
      rfl
    · rw [List.mem_singleton] at hv; subst hv; rfl
  have hl33 : (M.map B ++ [Value.string s]).length = 33 := by rw [List.length_append, List.length_map, hln]; rfl
  have HB := built_rank M hln s
  obtain ⟨L, hL⟩ : ∃ L, M.map B ++ [Value.string s] = L := ⟨_, rfl⟩
  have HL : Hid (M.map B ++ [Value.string s] = L) := hL
  rw [hL] at h1c hl33 HB
  obtain ⟨C, hC⟩ : ∃ C, (M.map B).toArray = C := ⟨_, rfl⟩
  rw [hC] at HB HH
  have HB' : Hid (Tryz.prog.built 249 [(0, .agg C), (1, .string s)] = some L.toArray) := HB
  clear hL hC HB
  go_enter Tryz.func166, Tryz.ntmps166
  go_wp2_with (first | (refine wpList_alloc_row _ rfl (some 2) rfl 249 249 rfl zerosR allocR ?_; intro g2 w2 hr2 hb2) | (go_at_call 183; refine (HH.out _ hb2).mono ?_; rintro e w3 ⟨rfl, hb3⟩) | (refine wpList_build_to _ rfl 249 #[(0, .tmp 4), (1, .tmp 5)] rfl L.toArray HB'.out ?_) | (refine wpList_store_whole _ rfl rfl 249 (.tmp 2) (.tmp 6) rfl w.heap.size g2 33 zerosR L rfl rfl (hr2.below hb3) hl33 size33 h1c ?_; intro w5 hR5 hg5))
  refine ret_any _ (p := 2) (ty := 249) rfl w.heap.size g2 33 33 L rfl hR5 Tryz.underlying249 rfl size33 rfl ?_
  refine ⟨?_, ?_⟩
  · rw [HM.out, HL.out]
  · exact (hb2.trans (hb3.mono hb2.size)).trans (below_of_grown hg5 (by have := hr2.ge; omega) (by have := hb2.size; have := hb3.size; omega))

/-- The order of keys. -/
def rk (X Y a b : List UInt8) : Bool := if X = Y then Op.bytesLess a b else Op.bytesLess Y X

theorem cell_last {w : World} {base g n cap : Nat} {xs : List Value} {v : Value} {m : Nat} (h : Row w base g n cap (xs ++ [v])) (hm : xs.length = m) : w.cell? ⟨g, m, none⟩ = some v := by
  subst hm
  have hn := h.len
  rw [List.length_append] at hn
  rw [h.cell _ (by simp at hn; omega), List.getElem?_append_right (Nat.le_refl _), Nat.sub_self]; rfl

set_option maxRecDepth 100000 in
set_option maxHeartbeats 400000 in
theorem above_any (X Y : List UInt8) (hX : X.length = 32) (hY : Y.length = 32) (a b : ByteArray) (w : World) :
    Calls Tryz.prog 164 #[.agg (X.map B ++ [Value.string a]).toArray, .agg (Y.map B ++ [Value.string b]).toArray] w fun e w' => e = .returned (.bool (rk X Y a.data.toList b.data.toList)) ∧ Below w.heap.size w w' := by
  obtain ⟨i0, hi0, hz0, hz1, hz2⟩ := info_parts info5'
  obtain ⟨LX, hLX⟩ : ∃ L, X.map B ++ [Value.string a] = L := ⟨_, rfl⟩
  obtain ⟨LY, hLY⟩ : ∃ L, Y.map B ++ [Value.string b] = L := ⟨_, rfl⟩
  have HLX : Hid (X.map B ++ [Value.string a] = LX) := hLX
  have HLY : Hid (Y.map B ++ [Value.string b] = LY) := hLY
  have l1 : LX.length = 33 := by rw [← hLX, List.length_append, List.length_map, hX]; rfl
  have l2 : LY.length = 33 := by rw [← hLY, List.length_append, List.length_map, hY]; rfl
  rw [hLX, hLY]
  have HL12 : Hid (LX.length = 33 ∧ LY.length = 33) := ⟨l1, l2⟩
  clear hLX hLY l1 l2
  have hsz : (Tryz.prog.info? 247).map (·.size) = some (X.map B).length := by rw [size32, List.length_map, hX]
  have hsz2 : (Tryz.prog.info? 247).map (·.size) = some (Y.map B).length := by rw [size32, List.length_map, hY]
  have HSZ : Hid ((Tryz.prog.info? 247).map (·.size) = some (X.map B).length ∧ (Tryz.prog.info? 247).map (·.size) = some (Y.map B).length) := ⟨hsz, hsz2⟩
  clear hsz hsz2
  by_cases hXY : X = Y
  · have HD : Hid (decide (X = Y) = true) := decide_eq_true hXY
    have HR : Hid (rk X Y a.data.toList b.data.toList = Op.bytesLess a.data.toList b.data.toList) := if_pos hXY
    clear hXY
    go_enter Tryz.func164, Tryz.ntmps164
    go_wp2_with (first | (refine wpList_box_row _ rfl (some 2) rfl 249 (.tmp 0) rfl LX rfl ?_; intro g2 w2 hr2 hb2) | (refine wpList_box_row _ rfl (some 3) rfl 249 (.tmp 1) rfl LY rfl ?_; intro g3 w3 hr3 hb3; have hR2 : Row w3 w.heap.size g2 33 33 (X.map B ++ [Value.string a]) := (by rw [HLX.out]; have := hr2.below hb3; rw [HL12.out.1] at this; exact this); have hR3 : Row w3 w2.heap.size g3 33 33 (Y.map B ++ [Value.string b]) := (by rw [HLY.out]; have := hr3; rw [HL12.out.2] at this; exact this); have cA : w3.cell? ⟨g2, 32, none⟩ = some (.string a) := cell_last hR2 (by rw [List.length_map, hX]); have cB : w3.cell? ⟨g3, 32, none⟩ = some (.string b) := cell_last hR3 (by rw [List.length_map, hY])) | (refine wpList_load_mid rfl 247 (.tmp 5) rfl g2 0 rfl (X.map B) _ (Row.prefix hR2) Tryz.underlying247 rfl HSZ.out.1 ?_) | (refine wpList_load_mid rfl 247 (.tmp 7) rfl g3 0 rfl (Y.map B) _ (Row.prefix hR3) Tryz.underlying247 rfl HSZ.out.2 ?_) | (refine wpList_eql_b _ rfl 247 247 (.tmp 6) (.tmp 8) rfl X Y 32 5 i0 rfl rfl Tryz.underlying247 Tryz.underlying5 hi0 cells5 hX hY (guard28 _ _ _ _ _) ?_; rw [HD.out]) | (refine wpList_load_mid rfl 247 (.tmp 15) rfl g2 0 rfl (X.map B) _ (Row.prefix hR2) Tryz.underlying247 rfl HSZ.out.1 ?_) | (refine wpList_load_mid rfl 247 (.tmp 17) rfl g3 0 rfl (Y.map B) _ (Row.prefix hR3) Tryz.underlying247 rfl HSZ.out.2 ?_) | fail)
    go_ret
    exact ⟨by rw [HR.out, ← ByteArray.toList_eq, ← ByteArray.toList_eq]; rfl, hb2.trans (hb3.mono hb2.size)⟩
  · have HD : Hid (decide (X = Y) = false) := decide_eq_false hXY
    have HR : Hid (rk X Y a.data.toList b.data.toList = Op.bytesLess Y X) := if_neg hXY
    clear hXY
    go_enter Tryz.func164, Tryz.ntmps164
    go_wp2_with (first | (refine wpList_box_row _ rfl (some 2) rfl 249 (.tmp 0) rfl LX rfl ?_; intro g2 w2 hr2 hb2) | (refine wpList_box_row _ rfl (some 3) rfl 249 (.tmp 1) rfl LY rfl ?_; intro g3 w3 hr3 hb3; have hR2 : Row w3 w.heap.size g2 33 33 (X.map B ++ [Value.string a]) := (by rw [HLX.out]; have := hr2.below hb3; rw [HL12.out.1] at this; exact this); have hR3 : Row w3 w2.heap.size g3 33 33 (Y.map B ++ [Value.string b]) := (by rw [HLY.out]; have := hr3; rw [HL12.out.2] at this; exact this); have cA : w3.cell? ⟨g2, 32, none⟩ = some (.string a) := cell_last hR2 (by rw [List.length_map, hX]); have cB : w3.cell? ⟨g3, 32, none⟩ = some (.string b) := cell_last hR3 (by rw [List.length_map, hY])) | (refine wpList_load_mid rfl 247 (.tmp 5) rfl g2 0 rfl (X.map B) _ (Row.prefix hR2) Tryz.underlying247 rfl HSZ.out.1 ?_) | (refine wpList_load_mid rfl 247 (.tmp 7) rfl g3 0 rfl (Y.map B) _ (Row.prefix hR3) Tryz.underlying247 rfl HSZ.out.2 ?_) | (refine wpList_eql_b _ rfl 247 247 (.tmp 6) (.tmp 8) rfl X Y 32 5 i0 rfl rfl Tryz.underlying247 Tryz.underlying5 hi0 cells5 hX hY (guard28 _ _ _ _ _) ?_; rw [HD.out]) | (refine wpList_load_mid rfl 247 (.tmp 15) rfl g2 0 rfl (X.map B) _ (Row.prefix hR2) Tryz.underlying247 rfl HSZ.out.1 ?_) | (refine wpList_load_mid rfl 247 (.tmp 17) rfl g3 0 rfl (Y.map B) _ (Row.prefix hR3) Tryz.underlying247 rfl HSZ.out.2 ?_) | fail)
    refine (greater_any X Y hX hY _).mono ?_
    rintro e w4 ⟨rfl, hb4⟩
    go_wp2
    go_ret
    exact ⟨by rw [HR.out]; rfl, (hb2.trans (hb3.mono hb2.size)).trans (hb4.mono (by have := hb2.size; have := hb3.size; omega))⟩
end Go.Proofs.YtibjhkpgaaapaaaGreatDoor
