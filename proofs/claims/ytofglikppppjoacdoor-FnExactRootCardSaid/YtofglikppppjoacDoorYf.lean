import Derived.Test.YtofglikppppjoacDoorYe
import Derived.Test.YtofglikppppjoacDoorYb
import Derived.Test.YtofglikppppjoacDoorYd
import Derived.Shelf.Strings.BuilderF
import Derived.Shelf.Strings.BuilderK
import Derived.Shelf.Strconv.Clone
import Derived.Test.YtofglikppppjoacDoorProg
import Derived.Test.YtofglikppppjoacDoorYa
import Derived.WalkSpells
import Derived.WalkLawsBesides
import Derived.StillTactics
import Derived.Laws.Pointers
import Derived.Deep.RegionHeld3
namespace Go.Proofs.Sha
open Go Go.RowKit
section
variable {P : Program} (w : World)
theorem wpList_eql_b {ops : Array Oper} {rest : List Oper} {o : Oper} {a : Act} {Q : Exit → Act → World → Prop} (hgd : o.guard = none) (t t' : TypeId) (x y : Operand) (ho : o.op = .binOp .eql t x y t') (X Y : List UInt8) (n : Nat) (e : TypeId) (i : TypeInfo)
    (hx : a.eval x = .agg (X.map B).toArray) (hy : a.eval y = .agg (Y.map B).toArray) (hu : P.underlying t = some (.array n e)) (he : P.underlying e = some (.int .u8)) (hi : P.info? e = some i) (hc : P.cellsOf e = 1) (hX : X.length = n) (hY : Y.length = n)
    (hguard : (eqGuard .eql t x y (.agg (X.map B).toArray) (.agg (Y.map B).toArray)).run P w = .ok () w)
    (h : wpList P ops Q rest (a.put o.dst (.bool (decide (X = Y)))) w) : wpList P ops Q (o :: rest) a w := by
  refine Go.Great.wpList_runTo hgd o.dst rfl (.bool (decide (X = Y))) w ?_ h
  unfold execOp
  simp only [ho, hx, hy, Sem.run_bind, hguard, run_eql_b w X Y t e n i hu he hi hc hX hY, Result.andThen_ok, Sem.run_pure]
end
end Go.Proofs.Sha

namespace Go.Proofs.YtofglikppppjoacDoor
open Go.RowKit Go.Proofs.Sha
theorem cells5 : Tryd.prog.cellsOf 5 = 1 := by kernel_rfl
theorem guard28 (x y : Operand) (X Y : Array Value) (w : World) : (eqGuard .eql 85 x y (.agg X) (.agg Y)).run Tryd.prog w = .ok () w := by kernel_rfl

set_option maxRecDepth 100000 in
set_option maxHeartbeats 400000 in
theorem greater_any (X Y : List UInt8) (hX : X.length = 32) (hY : Y.length = 32) (w : World) :
    Calls Tryd.prog 110 #[.agg (X.map B).toArray, .agg (Y.map B).toArray] w fun e w' => e = .returned (.bool (Op.bytesLess Y X)) ∧ Below w.heap.size w w' := by
  obtain ⟨LX, hLX⟩ : ∃ L, X.map B = L := ⟨_, rfl⟩
  obtain ⟨LY, hLY⟩ : ∃ L, Y.map B = L := ⟨_, rfl⟩
  have HLX : Hid (X.map B = LX) := hLX
  have HLY : Hid (Y.map B = LY) := hLY
  have l1 : LX.length = 32 := by rw [← hLX, List.length_map, hX]
  have l2 : LY.length = 32 := by rw [← hLY, List.length_map, hY]
  rw [hLX, hLY]
  have HL12 : Hid (LX.length = 32 ∧ LY.length = 32) := ⟨l1, l2⟩
  clear hLX hLY l1 l2
  go_enter Tryd.func110, Tryd.ntmps110
  go_wp2_with (first | (refine wpList_box_row _ rfl (some 2) rfl 85 (.tmp 0) rfl LX rfl ?_; intro g2 w2 hr2 hb2) | (refine wpList_box_row _ rfl (some 3) rfl 85 (.tmp 1) rfl LY rfl ?_; intro g3 w3 hr3 hb3))
  have hR2 : Row w3 w.heap.size g2 32 32 (X.map B) := by rw [HLX.out]; have := hr2.below hb3; rw [HL12.out.1] at this; exact this
  have hR3 : Row w3 w2.heap.size g3 32 32 (Y.map B) := by rw [HLY.out]; have := hr3; rw [HL12.out.2] at this; exact this
  have hs2 := hb2.size
  have hbw : Below w.heap.size w w3 := hb2.trans (hb3.mono hs2)
  have hl2 := hR2.lt
  have hl3 := hR3.lt
  have HC : Hid (∀ j, j < 32 → w3.cell? ⟨g2, j, none⟩ = some (.int .u8 ((X.getD j 0).toNat : Int)) ∧ w3.cell? ⟨g3, j, none⟩ = some (.int .u8 ((Y.getD j 0).toNat : Int))) := fun j hj => ⟨row_b hR2 j hj, row_b hR3 j hj⟩
  clear hR2 hR3 hr2 hr3 hb2 hb3
  go_loopw [6] (fun t wr => ∃ k : Nat, k ≤ 32 ∧ t = .int .i64 (k : Int) ∧ Hid (Op.bytesLess Y X = Op.bytesLess (Y.drop k) (X.drop k)) ∧ Below w3.heap.size w3 wr) (fun t _ => 32 - (intOf t).toNat)
  case atStart => exact ⟨0, by omega, rfl, rfl, Below.refl _ _⟩
  case round =>
    obtain ⟨k, hk, rfl, HL, hb⟩ := hrel
    by_cases hlt : k < 32
    · have c2 := (hb.cell (p := ⟨g2, k, none⟩) hl2).trans (HC.out k hlt).1
      have c3 := (hb.cell (p := ⟨g3, k, none⟩) hl3).trans (HC.out k hlt).2
      have HE := less_eq Y X k (by omega) (by omega)
      have HN := less_ne Y X k (by omega) (by omega)
      obtain ⟨x, hx⟩ : ∃ x, X.getD k 0 = x := ⟨_, rfl⟩
      obtain ⟨y, hy⟩ : ∃ y, Y.getD k 0 = y := ⟨_, rfl⟩
      rw [hx] at c2 HE HN
      rw [hy] at c3 HE HN
      clear hx hy
      have z0 : (0 : Int) ≤ (k : Int) := by omega
      have z1 : (k : Int) < 32 := by omega
      by_cases hxy : y = x
      · have c0 : ((x.toNat : Int) != (y.toNat : Int)) = false := by rw [hxy]; simp
        have HE' : Hid (Op.bytesLess Y X = Op.bytesLess (Y.drop (k + 1)) (X.drop (k + 1))) := HL.out.trans (HE hxy)
        clear HE HN hxy
        go_wp2_with fail
        go_region_held3 (fun w' => w'.cell? ⟨g2, k, none⟩ = some (.int .u8 (x.toNat : Int)) ∧ w'.cell? ⟨g3, k, none⟩ = some (.int .u8 (y.toNat : Int))) (exact ⟨c2, c3⟩) (fail)
        go_wp2_with fail
        go_roundw
        case rel => exact ⟨k + 1, by omega, by go_num, HE', hb.drew⟩
        case measure => simp [intOf]; omega
      · have c0 : ((x.toNat : Int) != (y.toNat : Int)) = true := by
          rw [bne_iff_ne]; exact fun h => hxy (UInt8.toNat_inj.1 (by omega))
        have HN' : Hid (Op.bytesLess Y X = decide (y.toNat < x.toNat)) := (HL.out.trans (HN hxy)).trans (by simp)
        clear HE HN hxy
        go_wp2_with fail
        go_region_held3 (fun w' => w'.cell? ⟨g2, k, none⟩ = some (.int .u8 (x.toNat : Int)) ∧ w'.cell? ⟨g3, k, none⟩ = some (.int .u8 (y.toNat : Int))) (exact ⟨c2, c3⟩) (fail)
        go_wp2_with fail
        go_region_held3 (fun w' => w'.cell? ⟨g2, k, none⟩ = some (.int .u8 (x.toNat : Int)) ∧ w'.cell? ⟨g3, k, none⟩ = some (.int .u8 (y.toNat : Int))) (exact ⟨c2, c3⟩) (fail)
        go_wp2
        go_ret
        exact ⟨by rw [HN'.out]; rfl, hbw.trans ((hb.mono (hbw.size)).drew.drew)⟩
    · obtain rfl : k = 32 := by omega
      have HN' : Hid (Op.bytesLess Y X = false) := by
        show Op.bytesLess Y X = false
        rw [HL.out, List.drop_of_length_le (by omega), List.drop_of_length_le (by omega)]; rfl
      go_wp2
      go_ret
      exact ⟨by rw [HN'.out]; rfl, hbw.trans (hb.mono (hbw.size))⟩
end Go.Proofs.YtofglikppppjoacDoor
namespace Go.Proofs.YtofglikppppjoacDoor
open Go.RowKit Go.Proofs.Sha

theorem size33 : (Tryd.prog.info? 102).map (·.size) = some 33 := by kernel_rfl
theorem info5' : (Tryd.prog.info? 5).map (fun i => (i.zero, i.size, i.bytes)) = some (some (.int .u8 0), 1, 1) := by kernel_rfl
def zerosR : List Value := (List.replicate 32 (0 : UInt8)).map B ++ [Value.string ⟨#[]⟩]
theorem allocR (w : World) : (Instr.alloc 102 true (.tuple #[])).run Tryd.prog w = .ok (.pointer (some ⟨w.heap.size, 0, none⟩)) (w.alloc (.cells zerosR.toArray 102)) := by kernel_rfl
theorem built32 (x0 x1 x2 x3 x4 x5 x6 x7 x8 x9 x10 x11 x12 x13 x14 x15 x16 x17 x18 x19 x20 x21 x22 x23 x24 x25 x26 x27 x28 x29 x30 x31 : UInt8) (s : ByteArray) : Tryd.prog.built 102 [(0, .agg ([x0, x1, x2, x3, x4, x5, x6, x7, x8, x9, x10, x11, x12, x13, x14, x15, x16, x17, x18, x19, x20, x21, x22, x23, x24, x25, x26, x27, x28, x29, x30, x31].map B).toArray), (1, .string s)] = some (([x0, x1, x2, x3, x4, x5, x6, x7, x8, x9, x10, x11, x12, x13, x14, x15, x16, x17, x18, x19, x20, x21, x22, x23, x24, x25, x26, x27, x28, x29, x30, x31].map B ++ [Value.string s]).toArray) := by kernel_rfl
theorem built_rank (X : List UInt8) (h : X.length = 32) (s : ByteArray) : Tryd.prog.built 102 [(0, .agg (X.map B).toArray), (1, .string s)] = some ((X.map B ++ [Value.string s]).toArray) := by
  match X, h with
  | [x0, x1, x2, x3, x4, x5, x6, x7, x8, x9, x10, x11, x12, x13, x14, x15, x16, x17, x18, x19, x20, x21, x22, x23, x24, x25, x26, x27, x28, x29, x30, x31], _ => exact built32 x0 x1 x2 x3 x4 x5 x6 x7 x8 x9 x10 x11 x12 x13 x14 x15 x16 x17 x18 x19 x20 x21 x22 x23 x24 x25 x26 x27 x28 x29 x30 x31 s

set_option maxRecDepth 100000 in
set_option maxHeartbeats 400000 in
theorem rank_any (s : ByteArray) (w : World) (hs : s.size ≤ 1048576)
    (hK : ∀ j, j < 64 → w.cell? ⟨0, j, none⟩ = some (.int .u32 ((kTab.getD j 0).toNat : Int))) :
    Calls Tryd.prog 107 #[Value.string s] w fun e w' => e = .returned (.agg ((sha s.data.toList).map B ++ [Value.string s]).toArray) ∧ Below w.heap.size w w' := by
  have hl0 : 0 < w.heap.size := World.block_lt_of_cell? w _ (hK 0 (by omega))
  have HH : Hid (∀ w' : World, Below w.heap.size w w' → Calls Tryd.prog 111 #[Value.string s] w' fun e w'' => e = .returned (.agg ((sha s.data.toList).map B).toArray) ∧ Below w'.heap.size w' w'') := fun w' hb => hash_any s w' hs (fun j hj => (hb.cell (by exact hl0)).trans (hK j hj))
  clear hK
  have hln : (sha s.data.toList).length = 32 := by unfold sha; rw [outTo_length]
  obtain ⟨M, hM⟩ : ∃ M, sha s.data.toList = M := ⟨_, rfl⟩
  have HM : Hid (sha s.data.toList = M) := hM
  rw [hM] at HH hln
  clear hM
  have h1c : ∀ v ∈ M.map B ++ [Value.string s], v.oneCell' = true := by
    intro v hv
    rcases List.mem_append.1 hv with hv | hv
    · obtain ⟨x, _, rfl⟩ := List.mem_map.1 hv
      rfl
    · rw [List.mem_singleton] at hv; subst hv; rfl
  have hl33 : (M.map B ++ [Value.string s]).length = 33 := by rw [List.length_append, List.length_map, hln]; rfl
  have HB := built_rank M hln s
  obtain ⟨L, hL⟩ : ∃ L, M.map B ++ [Value.string s] = L := ⟨_, rfl⟩
  have HL : Hid (M.map B ++ [Value.string s] = L) := hL
  rw [hL] at h1c hl33 HB
  obtain ⟨C, hC⟩ : ∃ C, (M.map B).toArray = C := ⟨_, rfl⟩
  rw [hC] at HB HH
  have HB' : Hid (Tryd.prog.built 102 [(0, .agg C), (1, .string s)] = some L.toArray) := HB
  clear hL hC HB
  go_enter Tryd.func107, Tryd.ntmps107
  go_wp2_with (first | (refine wpList_alloc_row _ rfl (some 2) rfl 102 102 rfl zerosR allocR ?_; intro g2 w2 hr2 hb2) | (go_at_call 111; refine (HH.out _ hb2).mono ?_; rintro e w3 ⟨rfl, hb3⟩) | (refine wpList_build_to _ rfl 102 #[(0, .tmp 4), (1, .tmp 5)] rfl L.toArray HB'.out ?_) | (refine wpList_store_whole _ rfl rfl 102 (.tmp 2) (.tmp 6) rfl w.heap.size g2 33 zerosR L rfl rfl (hr2.below hb3) hl33 size33 h1c ?_; intro w5 hR5 hg5))
  refine ret_any _ (p := 2) (ty := 102) rfl w.heap.size g2 33 33 L rfl hR5 Tryd.underlying102 rfl size33 rfl ?_
  refine ⟨?_, ?_⟩
  · rw [HM.out, HL.out]
  · exact (hb2.trans (hb3.mono hb2.size)).trans (below_of_grown hg5 (by have := hr2.ge; omega) (by have := hb2.size; have := hb3.size; omega))

/-- The order of keys. -/
def rk (X Y a b : List UInt8) : Bool := if X = Y then Op.bytesLess a b else Op.bytesLess Y X

theorem cell_last {w : World} {base g n cap : Nat} {xs : List Value} {v : Value} {m : Nat} (h : Row w base g n cap (xs ++ [v])) (hm : xs.length = m) : w.cell? ⟨g, m, none⟩ = some v := by
  subst hm
  have hn := h.len
  rw [List.length_append] at hn
  rw [h.cell _ (by simp at hn; omega), List.getElem?_append_right (Nat.le_refl _), Nat.sub_self]; rfl

set_option maxRecDepth 100000 in
set_option maxHeartbeats 400000 in
theorem above_any (X Y : List UInt8) (hX : X.length = 32) (hY : Y.length = 32) (a b : ByteArray) (w : World) :
    Calls Tryd.prog 105 #[.agg (X.map B ++ [Value.string a]).toArray, .agg (Y.map B ++ [Value.string b]).toArray] w fun e w' => e = .returned (.bool (rk X Y a.data.toList b.data.toList)) ∧ Below w.heap.size w w' := by
  obtain ⟨i0, hi0, hz0, hz1, hz2⟩ := info_parts info5'
  obtain ⟨LX, hLX⟩ : ∃ L, X.map B ++ [Value.string a] = L := ⟨_, rfl⟩
  obtain ⟨LY, hLY⟩ : ∃ L, Y.map B ++ [Value.string b] = L := ⟨_, rfl⟩
  have HLX : Hid (X.map B ++ [Value.string a] = LX) := hLX
  have HLY : Hid (Y.map B ++ [Value.string b] = LY) := hLY
  have l1 : LX.length = 33 := by rw [← hLX, List.length_append, List.length_map, hX]; rfl
  have l2 : LY.length = 33 := by rw [← hLY, List.length_append, List.length_map, hY]; rfl
  rw [hLX, hLY]
  have HL12 : Hid (LX.length = 33 ∧ LY.length = 33) := ⟨l1, l2⟩
  clear hLX hLY l1 l2
  have hsz : (Tryd.prog.info? 85).map (·.size) = some (X.map B).length := by rw [size32, List.length_map, hX]
  have hsz2 : (Tryd.prog.info? 85).map (·.size) = some (Y.map B).length := by rw [size32, List.length_map, hY]
  have HSZ : Hid ((Tryd.prog.info? 85).map (·.size) = some (X.map B).length ∧ (Tryd.prog.info? 85).map (·.size) = some (Y.map B).length) := ⟨hsz, hsz2⟩
  clear hsz hsz2
  by_cases hXY : X = Y
  · have HD : Hid (decide (X = Y) = true) := decide_eq_true hXY
    have HR : Hid (rk X Y a.data.toList b.data.toList = Op.bytesLess a.data.toList b.data.toList) := if_pos hXY
    clear hXY
    go_enter Tryd.func105, Tryd.ntmps105
    go_wp2_with (first | (refine wpList_box_row _ rfl (some 2) rfl 102 (.tmp 0) rfl LX rfl ?_; intro g2 w2 hr2 hb2) | (refine wpList_box_row _ rfl (some 3) rfl 102 (.tmp 1) rfl LY rfl ?_; intro g3 w3 hr3 hb3; have hR2 : Row w3 w.heap.size g2 33 33 (X.map B ++ [Value.string a]) := (by rw [HLX.out]; have := hr2.below hb3; rw [HL12.out.1] at this; exact this); have hR3 : Row w3 w2.heap.size g3 33 33 (Y.map B ++ [Value.string b]) := (by rw [HLY.out]; have := hr3; rw [HL12.out.2] at this; exact this); have cA : w3.cell? ⟨g2, 32, none⟩ = some (.string a) := cell_last hR2 (by rw [List.length_map, hX]); have cB : w3.cell? ⟨g3, 32, none⟩ = some (.string b) := cell_last hR3 (by rw [List.length_map, hY])) | (refine wpList_load_mid rfl 85 (.tmp 5) rfl g2 0 rfl (X.map B) _ (Row.prefix hR2) Tryd.underlying85 rfl HSZ.out.1 ?_) | (refine wpList_load_mid rfl 85 (.tmp 7) rfl g3 0 rfl (Y.map B) _ (Row.prefix hR3) Tryd.underlying85 rfl HSZ.out.2 ?_) | (refine wpList_eql_b _ rfl 85 85 (.tmp 6) (.tmp 8) rfl X Y 32 5 i0 rfl rfl Tryd.underlying85 Tryd.underlying5 hi0 cells5 hX hY (guard28 _ _ _ _ _) ?_; rw [HD.out]) | (refine wpList_load_mid rfl 85 (.tmp 15) rfl g2 0 rfl (X.map B) _ (Row.prefix hR2) Tryd.underlying85 rfl HSZ.out.1 ?_) | (refine wpList_load_mid rfl 85 (.tmp 17) rfl g3 0 rfl (Y.map B) _ (Row.prefix hR3) Tryd.underlying85 rfl HSZ.out.2 ?_) | fail)
    go_ret
    exact ⟨by rw [HR.out, ← ByteArray.toList_eq, ← ByteArray.toList_eq]; rfl, hb2.trans (hb3.mono hb2.size)⟩
  · have HD : Hid (decide (X = Y) = false) := decide_eq_false hXY
    have HR : Hid (rk X Y a.data.toList b.data.toList = Op.bytesLess Y X) := if_neg hXY
    clear hXY
    go_enter Tryd.func105, Tryd.ntmps105
    go_wp2_with (first | (refine wpList_box_row _ rfl (some 2) rfl 102 (.tmp 0) rfl LX rfl ?_; intro g2 w2 hr2 hb2) | (refine wpList_box_row _ rfl (some 3) rfl 102 (.tmp 1) rfl LY rfl ?_; intro g3 w3 hr3 hb3; have hR2 : Row w3 w.heap.size g2 33 33 (X.map B ++ [Value.string a]) := (by rw [HLX.out]; have := hr2.below hb3; rw [HL12.out.1] at this; exact this); have hR3 : Row w3 w2.heap.size g3 33 33 (Y.map B ++ [Value.string b]) := (by rw [HLY.out]; have := hr3; rw [HL12.out.2] at this; exact this); have cA : w3.cell? ⟨g2, 32, none⟩ = some (.string a) := cell_last hR2 (by rw [List.length_map, hX]); have cB : w3.cell? ⟨g3, 32, none⟩ = some (.string b) := cell_last hR3 (by rw [List.length_map, hY])) | (refine wpList_load_mid rfl 85 (.tmp 5) rfl g2 0 rfl (X.map B) _ (Row.prefix hR2) Tryd.underlying85 rfl HSZ.out.1 ?_) | (refine wpList_load_mid rfl 85 (.tmp 7) rfl g3 0 rfl (Y.map B) _ (Row.prefix hR3) Tryd.underlying85 rfl HSZ.out.2 ?_) | (refine wpList_eql_b _ rfl 85 85 (.tmp 6) (.tmp 8) rfl X Y 32 5 i0 rfl rfl Tryd.underlying85 Tryd.underlying5 hi0 cells5 hX hY (guard28 _ _ _ _ _) ?_; rw [HD.out]) | (refine wpList_load_mid rfl 85 (.tmp 15) rfl g2 0 rfl (X.map B) _ (Row.prefix hR2) Tryd.underlying85 rfl HSZ.out.1 ?_) | (refine wpList_load_mid rfl 85 (.tmp 17) rfl g3 0 rfl (Y.map B) _ (Row.prefix hR3) Tryd.underlying85 rfl HSZ.out.2 ?_) | fail)
    refine (greater_any X Y hX hY _).mono ?_
    rintro e w4 ⟨rfl, hb4⟩
    go_wp2
    go_ret
    exact ⟨by rw [HR.out]; rfl, (hb2.trans (hb3.mono hb2.size)).trans (hb4.mono (by have := hb2.size; have := hb3.size; omega))⟩
end Go.Proofs.YtofglikppppjoacDoor
namespace Go.Proofs.YtofglikppppjoacDoor
open Go.RowKit Go.Proofs.Sha

theorem sha_len (l : List UInt8) : (sha l).length = 32 := by unfold sha; rw [outTo_length]
theorem extract_take (M : List UInt8) (n : Nat) : (⟨M.toArray⟩ : ByteArray).extract 0 n = ⟨(M.take n).toArray⟩ := by
  apply ByteArray.ext
  rw [ByteArray.data_extract]
  apply Array.ext'
  rw [Array.toList_extract, List.extract_eq_take_drop]
  simp

set_option maxRecDepth 100000 in
set_option maxHeartbeats 400000 in
theorem sdig_no (s : ByteArray) (k : Int) (w : World) (h : k < 1 ∨ 32 < k) :
    Calls Tryd.prog 25 #[.string s, .int .i64 k] w fun e w' => e = .returned (.string ⟨#[]⟩) ∧ Below w.heap.size w w' := by
  rcases h with h | h
  · have h1 : decide (1 ≤ k) = false := by simpa using h
    go_enter Tryd.func25, Tryd.ntmps25
    go_wp2
    go_ret
    exact ⟨rfl, Below.refl _ _⟩
  · have h1 : 1 ≤ k := by omega
    have h2 : decide (k ≤ 32) = false := by simpa using h
    go_enter Tryd.func25, Tryd.ntmps25
    go_wp2
    go_ret
    exact ⟨rfl, Below.refl _ _⟩

set_option maxRecDepth 100000 in
set_option maxHeartbeats 400000 in
theorem sdig_yes (s : ByteArray) (k : Nat) (w : World) (hs : s.size ≤ 1048576) (h1 : 1 ≤ k) (h2 : k ≤ 32) :
    Calls Tryd.prog 25 #[.string s, .int .i64 (k : Int)] w fun e w' => e = .returned (.string ⟨((sha s.data.toList).take k).toArray⟩) ∧ Below w.heap.size w w' := by
  have hl := sha_len s.data.toList
  have hx := extract_take (sha s.data.toList) k
  have hsp := spec_any s w hs
  obtain ⟨X, hX⟩ : ∃ X : ByteArray, X = ⟨(sha s.data.toList).toArray⟩ := ⟨_, rfl⟩
  have hXs : X.size = 32 := by rw [hX]; exact hl
  rw [← hX] at hx hsp
  have HX : Hid (X.extract 0 k = ⟨((sha s.data.toList).take k).toArray⟩) := hx
  clear hX hx hl
  have q1 : (1 : Int) ≤ (k : Int) := by omega
  have q2 : (k : Int) ≤ 32 := by omega
  go_enter Tryd.func25, Tryd.ntmps25
  go_wp2_with (first | (go_at_call 56; refine hsp.mono ?_; rintro e w' ⟨rfl, hb⟩) | go_in)
  go_ret
  rw [← HX.out]
  exact ⟨rfl, hb⟩
end Go.Proofs.YtofglikppppjoacDoor
namespace Go.Proofs
open Go.Shelf
def Tryd.lays169_ren : Go.Shelf.Ren := ⟨fun | 169 => 82 | n => n, fun | 70 => 121 | 9 => 9 | 0 => 0 | 72 => 123 | 37 => 87 | 127 => 147 | 3 => 3 | 5 => 5 | n => n, fun | n => n⟩
theorem Tryd.lays169 : Go.Proofs.Lays.n169 Tryd.prog Tryd.lays169_ren := {
  mixed := by kernel_rfl
  f169 := Tryd.func82.trans (congrArg some (by kernel_rfl))
  t0 := Tryd.underlying0
  a0 := Tryd.isAgg0
  z0 := Tryd.sizeOf0
  v0 := Tryd.zeroValue0
  t3 := Tryd.underlying3
  a3 := Tryd.isAgg3
  z3 := Tryd.sizeOf3
  v3 := Tryd.zeroValue3
  t9 := Tryd.underlying9
  a9 := Tryd.isAgg9
  z9 := Tryd.sizeOf9
  v9 := Tryd.zeroValue9
  t37 := Tryd.underlying87
  a37 := Tryd.isAgg87
  z37 := Tryd.sizeOf87
  v37 := Tryd.zeroValue87
  t70 := Tryd.underlying121
  a70 := Tryd.isAgg121
  z70 := Tryd.sizeOf121
  v70 := Tryd.zeroValue121
  t72 := Tryd.underlying123
  a72 := Tryd.isAgg123
  z72 := Tryd.sizeOf123
  v72 := Tryd.zeroValue123
  t127 := Tryd.underlying147
  a127 := Tryd.isAgg147
  z127 := Tryd.sizeOf147
  v127 := Tryd.zeroValue147 }
theorem Tryd.Builder_Extra_169 : Builder.Extra Tryd.prog Tryd.lays169_ren := {
  sizeBuilder := by kernel_rfl
  liesBuilder := by kernel_rfl
  t5 := Tryd.underlying5
  a5 := Tryd.isAgg5
  z5 := Tryd.sizeOf5
  v5 := Tryd.zeroValue5
  infoByte := by kernel_rfl
  cellsByte := by kernel_rfl
  sizeByte := by kernel_rfl
  neB5 := by decide }
open Go.RowKit in
theorem Tryd.Builder_String_any_k (B b : Nat) (l : List UInt8) (w : World) (h : Lib.IsBuilderF 123 5 B b (Lib.byteCells l) w) (hBw : B ≤ w.heap.size) :
    Calls Tryd.prog 82 #[.pointer (some ⟨b, 0, none⟩)] w fun e w' => e = .returned (.string ⟨l.toArray⟩) ∧ (Lib.IsBuilderF 123 5 B b (Lib.byteCells l) w' ∧ Below B w w' ∧ Lib.OthersKept 5 (some b) w w') := Any.Builder_String_any_k Tryd.lays169 Tryd.Builder_Extra_169 B b l w h hBw
def Tryd.laysM316_ren : Go.Shelf.Ren := ⟨fun  | n => n, fun | 9 => 9 | 3 => 3 | 4 => 4 | 37 => 87 | 0 => 0 | 127 => 147 | 5 => 5 | n => n, fun | n => n⟩
open Go.RowKit in
def Tryd.lays167_ren : Go.Shelf.Ren := ⟨fun | 166 => 153 | 167 => 145 | 240 => 147 | 276 => 148 | n => n, fun | 0 => 0 | 3 => 3 | 4 => 4 | 5 => 5 | 9 => 9 | 20 => 20 | 37 => 87 | 70 => 121 | 72 => 123 | 75 => 201 | 80 => 109 | 164 => 198 | n => n, fun | n => n⟩
theorem Tryd.lays167 : Go.Proofs.Lays.n167 Tryd.prog Tryd.lays167_ren := {
  mixed := by kernel_rfl
  f167 := Tryd.func145.trans (congrArg some (by kernel_rfl))
  f240 := Tryd.func147.trans (congrArg some (by kernel_rfl))
  f276 := Tryd.func148.trans (congrArg some (by kernel_rfl))
  t0 := Tryd.underlying0
  a0 := Tryd.isAgg0
  z0 := Tryd.sizeOf0
  v0 := Tryd.zeroValue0
  t4 := Tryd.underlying4
  a4 := Tryd.isAgg4
  z4 := Tryd.sizeOf4
  v4 := Tryd.zeroValue4
  t5 := Tryd.underlying5
  a5 := Tryd.isAgg5
  z5 := Tryd.sizeOf5
  v5 := Tryd.zeroValue5
  t9 := Tryd.underlying9
  a9 := Tryd.isAgg9
  z9 := Tryd.sizeOf9
  v9 := Tryd.zeroValue9
  t20 := Tryd.underlying20
  a20 := Tryd.isAgg20
  z20 := Tryd.sizeOf20
  v20 := Tryd.zeroValue20
  t37 := Tryd.underlying87
  a37 := Tryd.isAgg87
  z37 := Tryd.sizeOf87
  v37 := Tryd.zeroValue87
  t70 := Tryd.underlying121
  a70 := Tryd.isAgg121
  z70 := Tryd.sizeOf121
  v70 := Tryd.zeroValue121
  t72 := Tryd.underlying123
  a72 := Tryd.isAgg123
  z72 := Tryd.sizeOf123
  v72 := Tryd.zeroValue123
  t75 := Tryd.underlying201
  a75 := Tryd.isAgg201
  z75 := Tryd.sizeOf201
  v75 := Tryd.zeroValue201
  t164 := Tryd.underlying198
  a164 := Tryd.isAgg198
  z164 := Tryd.sizeOf198
  v164 := Tryd.zeroValue198 }
theorem Tryd.Builder_Extra_167 : Builder.Extra Tryd.prog Tryd.lays167_ren := {
  sizeBuilder := by kernel_rfl
  liesBuilder := by kernel_rfl
  t5 := Tryd.underlying5
  a5 := Tryd.isAgg5
  z5 := Tryd.sizeOf5
  v5 := Tryd.zeroValue5
  infoByte := by kernel_rfl
  cellsByte := by kernel_rfl
  sizeByte := by kernel_rfl
  neB5 := by decide }
open Go.RowKit in
theorem Tryd.Builder_WriteByte_k (B b : Nat) (bs : List Value) (c : Int) (w : World) (h : Lib.IsBuilderF 123 5 B b bs w) (hlen : bs.length + 1 ≤ 140737488355328) (hBw : B ≤ w.heap.size) :
    Calls Tryd.prog 145 #[.pointer (some ⟨b, 0, none⟩), .int .u8 c] w fun e w' => e = .returned .nilIface ∧ (Lib.BuilderAtF 123 5 B b (.pointer (some ⟨b, 0, none⟩)) (bs ++ [.int .u8 c]) w' ∧ Below B w w' ∧ Lib.OthersKept 5 (some b) w w') := Any.Builder_WriteByte_k Tryd.lays167 Tryd.Builder_Extra_167 B b bs c w h hlen hBw
def Tryd.lays166_ren : Go.Shelf.Ren := ⟨fun | 166 => 153 | 167 => 145 | 240 => 147 | 276 => 148 | n => n, fun | 0 => 0 | 3 => 3 | 4 => 4 | 5 => 5 | 9 => 9 | 20 => 20 | 37 => 87 | 70 => 121 | 72 => 123 | 75 => 201 | 80 => 109 | 164 => 198 | n => n, fun | n => n⟩
theorem Tryd.lays166 : Go.Proofs.Lays.n166 Tryd.prog Tryd.lays166_ren := {
  mixed := by kernel_rfl
  f166 := Tryd.func153.trans (congrArg some (by kernel_rfl))
  f240 := Tryd.func147.trans (congrArg some (by kernel_rfl))
  f276 := Tryd.func148.trans (congrArg some (by kernel_rfl))
  t0 := Tryd.underlying0
  a0 := Tryd.isAgg0
  z0 := Tryd.sizeOf0
  v0 := Tryd.zeroValue0
  t3 := Tryd.underlying3
  a3 := Tryd.isAgg3
  z3 := Tryd.sizeOf3
  v3 := Tryd.zeroValue3
  t4 := Tryd.underlying4
  a4 := Tryd.isAgg4
  z4 := Tryd.sizeOf4
  v4 := Tryd.zeroValue4
  t9 := Tryd.underlying9
  a9 := Tryd.isAgg9
  z9 := Tryd.sizeOf9
  v9 := Tryd.zeroValue9
  t20 := Tryd.underlying20
  a20 := Tryd.isAgg20
  z20 := Tryd.sizeOf20
  v20 := Tryd.zeroValue20
  t37 := Tryd.underlying87
  a37 := Tryd.isAgg87
  z37 := Tryd.sizeOf87
  v37 := Tryd.zeroValue87
  t70 := Tryd.underlying121
  a70 := Tryd.isAgg121
  z70 := Tryd.sizeOf121
  v70 := Tryd.zeroValue121
  t72 := Tryd.underlying123
  a72 := Tryd.isAgg123
  z72 := Tryd.sizeOf123
  v72 := Tryd.zeroValue123
  t75 := Tryd.underlying201
  a75 := Tryd.isAgg201
  z75 := Tryd.sizeOf201
  v75 := Tryd.zeroValue201
  t164 := Tryd.underlying198
  a164 := Tryd.isAgg198
  z164 := Tryd.sizeOf198
  v164 := Tryd.zeroValue198 }
theorem Tryd.Builder_Extra_166 : Builder.Extra Tryd.prog Tryd.lays166_ren := {
  sizeBuilder := by kernel_rfl
  liesBuilder := by kernel_rfl
  t5 := Tryd.underlying5
  a5 := Tryd.isAgg5
  z5 := Tryd.sizeOf5
  v5 := Tryd.zeroValue5
  infoByte := by kernel_rfl
  cellsByte := by kernel_rfl
  sizeByte := by kernel_rfl
  neB5 := by decide }
open Go.RowKit in
theorem Tryd.Builder_WriteString_k (B b : Nat) (bs : List Value) (s : ByteArray) (w : World) (h : Lib.IsBuilderF 123 5 B b bs w) (hlen : bs.length + s.size ≤ 140737488355328) (hBw : B ≤ w.heap.size) :
    Calls Tryd.prog 153 #[.pointer (some ⟨b, 0, none⟩), .string s] w fun e w' => e = .returned (.tuple #[.int .i64 s.size, .nilIface]) ∧ (Lib.BuilderAtF 123 5 B b (.pointer (some ⟨b, 0, none⟩)) (bs ++ Lib.strCells s) w' ∧ Below B w w' ∧ Lib.OthersKept 5 (some b) w w') := Any.Builder_WriteString_k Tryd.lays166 Tryd.Builder_Extra_166 B b bs s w h hlen hBw
end Go.Proofs
namespace Go.Proofs.YtofglikppppjoacDoor
open Go.RowKit Go.Proofs.Sha

def sh (z : Int) (low : Bool) (i : Int) : Int := if low then 8 * i else 8 * (z - 1 - i)

theorem shift_any (z : Int) (low : Bool) (i : Int) (w : World) (hz : 0 ≤ z) (hz4 : z ≤ 8) (hi : 0 ≤ i) (hi4 : i < z) :
    Calls Tryd.prog 143 #[.agg #[.int .i64 z, .bool low], .int .i64 i] w fun e w' => e = .returned (.int .i64 (sh z low i)) ∧ Below w.heap.size w w' := by
  cases low
  · go_enter Tryd.func143, Tryd.ntmps143
    go_wp2
    go_ret
    exact ⟨rfl, (Below.refl _ _).alloc (Nat.le_refl _) _⟩
  · go_enter Tryd.func143, Tryd.ntmps143
    go_wp2
    go_ret
    exact ⟨rfl, (Below.refl _ _).alloc (Nat.le_refl _) _⟩

/-- The builder in block b holds these bytes. -/
def Bld (b : Nat) (l : List UInt8) (w : World) : Prop := Lib.IsBuilderF 123 5 b b (Lib.byteCells l) w
/-- It holds them, and nothing else has turned. -/
def Put (b : Nat) (l : List UInt8) (w w' : World) : Prop := Bld b l w' ∧ Below b w w' ∧ Lib.OthersKept 5 (some b) w w'

theorem Bld.lt {b : Nat} {l : List UInt8} {w : World} (h : Bld b l w) : b < w.heap.size := by
  rcases h with h | h
  · exact h.lt
  · exact h.lt
theorem Bld.alloc {b : Nat} {l : List UInt8} {w : World} (h : Bld b l w) (o : Obj) : Bld b l (w.alloc o) := by
  rcases h with h | h
  · exact .inl (h.alloc o)
  · exact .inr (h.alloc o)
theorem Put.refl {b : Nat} {l : List UInt8} {w : World} (h : Bld b l w) : Put b l w w := ⟨h, Below.refl _ _, Lib.OthersKept.refl _ _ _⟩
theorem Put.trans {b : Nat} {l m : List UInt8} {w w' w'' : World} (h : Put b l w w') (h' : Put b m w' w'') : Put b m w w'' := ⟨h'.1, h.2.1.trans h'.2.1, h.2.2.trans h'.2.2⟩
theorem Put.alloc {b : Nat} {l : List UInt8} {w w' : World} (h : Put b l w w') (o : Obj) : Put b l w (w'.alloc o) := ⟨h.1.alloc o, h.2.1.alloc (Nat.le_of_lt h.1.lt) o, h.2.2.alloc o⟩

theorem wb_any (b : Nat) (l : List UInt8) (c : Int) (w : World) (x : UInt8) (hc : c = (x.toNat : Int)) (h : Bld b l w) (hl : l.length ≤ 100000) :
    Calls Tryd.prog 145 #[.pointer (some ⟨b, 0, none⟩), .int .u8 c] w fun e w' => e = .returned .nilIface ∧ Put b (l ++ [x]) w w' := by
  refine (Tryd.Builder_WriteByte_k b b _ c w h (by rw [Lib.byteCells_length]; omega) (Nat.le_of_lt h.lt)).mono ?_
  rintro e w' ⟨rfl, h1, h2, h3⟩
  refine ⟨rfl, .inr ?_, h2, h3⟩
  rw [Lib.byteCells_append]
  rw [hc] at h1
  exact h1
theorem ws_any (b : Nat) (l : List UInt8) (s : ByteArray) (w : World) (h : Bld b l w) (hl : l.length + s.size ≤ 100000) :
    Calls Tryd.prog 153 #[.pointer (some ⟨b, 0, none⟩), .string s] w fun e w' => e = .returned (.tuple #[.int .i64 s.size, .nilIface]) ∧ Put b (l ++ s.data.toList) w w' := by
  refine (Tryd.Builder_WriteString_k b b _ s w h (by rw [Lib.byteCells_length]; omega) (Nat.le_of_lt h.lt)).mono ?_
  rintro e w' ⟨rfl, h1, h2, h3⟩
  refine ⟨rfl, .inr ?_, h2, h3⟩
  rw [Lib.byteCells_append]
  exact h1

/-- The byte at a place of a number. -/
def numByte (z : Nat) (low : Bool) (v i : Nat) : UInt8 := UInt8.ofNat (v / 2 ^ (8 * (if low then i else z - 1 - i)))
def numTo (z : Nat) (low : Bool) (v : Nat) : Nat → List UInt8
  | 0 => []
  | i + 1 => numTo z low v i ++ [numByte z low v i]
theorem numTo_length (z : Nat) (low : Bool) (v : Nat) : ∀ i, (numTo z low v i).length = i
  | 0 => rfl
  | i + 1 => by rw [numTo, List.length_append, numTo_length z low v i]; rfl

theorem Bld.heap {b : Nat} {l : List UInt8} {w w' : World} (h : Bld b l w) (hb : ∀ k, k < w.heap.size → w'.heap[k]? = w.heap[k]?) : Bld b l w' := by
  have H : ∀ p, Lib.BuilderAtF 123 5 b b p (Lib.byteCells l) w → Lib.BuilderAtF 123 5 b b p (Lib.byteCells l) w' := by
    rintro p ⟨h1, v, h2, h3, h4⟩
    have l2 := (Array.getElem?_eq_some_iff.1 h2).1
    refine ⟨h1, v, (hb b l2).trans h2, ⟨h3.1, ?_⟩, h4⟩
    rcases h3.2 with hn | ⟨g, cap, cur, fz, hv, hbg, hg, rest⟩
    · exact .inl hn
    · exact .inr ⟨g, cap, cur, fz, hv, hbg, (hb g (Array.getElem?_eq_some_iff.1 hg).1).trans hg, rest⟩
  rcases h with h | h
  · exact .inl (H _ h)
  · exact .inr (H _ h)
theorem Bld.below {b : Nat} {l : List UInt8} {w w' : World} (h : Bld b l w) (hb : Below w.heap.size w w') : Bld b l w' := h.heap hb.block
theorem Put.below {b : Nat} {l : List UInt8} {w w' w'' : World} (h : Put b l w w') (hb : Below w'.heap.size w' w'') : Put b l w w'' :=
  ⟨h.1.below hb, h.2.1.trans (hb.mono (Nat.le_of_lt h.1.lt)), fun k o hk hkb ho => by
    have h1 := h.2.2 k o hk hkb ho
    exact (hb.block k (Array.getElem?_eq_some_iff.1 h1).1).trans h1⟩
theorem Put.cells {b k : Nat} {l : List UInt8} {w w' : World} {cs : Array Value} {t : TypeId} (h : Put b l w w') (hk : w.heap[k]? = some (.cells cs t)) (hne : k ≠ b) (ht : t ≠ 5) : w'.heap[k]? = some (.cells cs t) :=
  h.2.2 k _ hk (fun e => hne (Option.some.inj e)) (fun c fz e => ht (by cases e; rfl))
theorem below_cells {k : Nat} {w w' : World} {o : Obj} (h : Below w.heap.size w w') (hk : w.heap[k]? = some o) : w'.heap[k]? = some o :=
  (h.block k (Array.getElem?_eq_some_iff.1 hk).1).trans hk

theorem byte_of_shift (v k : Nat) : ((v : Int) / 2 ^ k % 256) = ((UInt8.ofNat (v / 2 ^ k)).toNat : Int) := by
  rw [UInt8.toNat_ofNat', show (2 : Nat) ^ 8 = 256 from rfl]
  obtain ⟨p, hp⟩ : ∃ p : Nat, 2 ^ k = p := ⟨_, rfl⟩
  have hp' : (2 : Int) ^ k = (p : Int) := by rw [← hp, Int.natCast_pow]; rfl
  rw [hp, hp', Int.natCast_emod, Int.natCast_ediv]
  rfl

set_option maxRecDepth 100000 in
theorem nput (z : Nat) (low : Bool) (b : Nat) (v : Nat) (l : List UInt8) (w : World) (hz : 0 < z) (hz4 : z ≤ 7) (h : Bld b l w) (hl : l.length ≤ 90000) (_hv : v ≤ 9223372036854775807) :
    Calls Tryd.prog 142 #[.agg #[.int .i64 (z : Int), .bool low], .pointer (some ⟨b, 0, none⟩), .int .i64 (v : Int)] w fun e w' => e = .returned (.tuple #[]) ∧ Put b (l ++ numTo z low v z) w w' := by
  go_enter Tryd.func142, Tryd.ntmps142
  go_wp2
  go_loopw [9] (fun t9 wr => ∃ i : Nat, i ≤ z ∧ t9 = .int .i64 (i : Int) ∧ Put b (l ++ numTo z low v i) w wr ∧ wr.heap[w.heap.size]? = some (.cells #[.int .i64 (z : Int), .bool low] 181)) (fun t9 _ => z - (intOf t9).toNat)
  case atStart => 
    refine ⟨0, Nat.zero_le _, rfl, ?_, heap_alloc_new _ _⟩
    rw [numTo, List.append_nil]
    exact (Put.refl h).alloc _
  case round =>
    obtain ⟨i, hi, rfl, hp, hn⟩ := hrel
    by_cases h1 : i < z
    · have z1 : decide ((i : Int) < (z : Int)) = true := by simp; omega
      have c0 : wr.cell? ⟨w.heap.size, 0, none⟩ = some (.int .i64 (z : Int)) := Lib.cell_of_heap hn 0
      have c1 : wr.cell? ⟨w.heap.size, 1, none⟩ = some (.bool low) := Lib.cell_of_heap hn 1
      obtain ⟨k, hk, hk56, hkb⟩ : ∃ k : Nat, sh z low i = (k : Int) ∧ k ≤ 56 ∧ numByte z low v i = UInt8.ofNat (v / 2 ^ k) := by
        unfold sh numByte
        cases low
        · exact ⟨8 * (z - 1 - i), by simp only [Bool.false_eq_true, if_false]; omega, by omega, rfl⟩
        · exact ⟨8 * i, by simp only [if_true]; omega, by omega, rfl⟩
      have HC : Hid (∀ w', Calls Tryd.prog 143 #[.agg #[.int .i64 (z : Int), .bool low], .int .i64 (i : Int)] w' fun e w'' => e = .returned (.int .i64 (k : Int)) ∧ Below w'.heap.size w' w'') := fun w' => by rw [← hk]; exact shift_any _ _ _ w' (by omega) (by omega) (by omega) (by omega)
      have k0 : (0 : Int) ≤ (k : Int) := by omega
      go_wp2_with (first | (go_at_call 143; refine (HC.out _).mono ?_; rintro e w1 ⟨rfl, hb1⟩) | (go_at_call 145; refine (wb_any b _ _ w1 _ (byte_of_shift v k) (hp.1.below hb1) (by rw [List.length_append, numTo_length]; omega)).mono ?_; rintro e w2 ⟨rfl, hp2⟩))
      have hne : w.heap.size ≠ b := by have := h.lt; omega
      refine ⟨⟨i + 1, by omega, congrArg (Value.int .i64) (by omega), ?_, hp2.cells (below_cells hb1 hn) hne (by decide)⟩, ?_⟩
      · have := (hp.below hb1).trans hp2
        rw [numTo, hkb, ← List.append_assoc]
        exact this
      · show z - ((i : Int) + 1).toNat < z - ((i : Int)).toNat
        omega
    · have z1 : decide ((i : Int) < (z : Int)) = false := by simp; omega
      go_wp2
      have e : i = z := by omega
      subst e
      go_end0
      exact ⟨rfl, hp⟩
end Go.Proofs.YtofglikppppjoacDoor
namespace Go.Proofs.YtofglikppppjoacDoor
open Go.RowKit Go.Proofs.Sha

theorem wint (z : Nat) (low : Bool) (b : Nat) (v : Nat) (l : List UInt8) (w : World) (hz : 0 < z) (hz4 : z ≤ 7) (h : Bld b l w) (hl : l.length ≤ 90000) (hv : v ≤ 9223372036854775807) :
    Calls Tryd.prog 136 #[.pointer (some ⟨b, 0, none⟩), .iface 181 (.agg #[.int .i64 (z : Int), .bool low]), .int .i64 (v : Int)] w fun e w' => e = .returned (.tuple #[]) ∧ Put b (l ++ numTo z low v z) w w' := by
  have hmt : ∀ w : World, (method 306 181 (.agg #[.int .i64 (z : Int), .bool low]) "loop.example/s03048/impl.put").run Tryd.prog w = .ok (142, .agg #[.int .i64 (z : Int), .bool low]) w := fun _ => by kernel_rfl
  go_enter Tryd.func136, Tryd.ntmps136
  go_wp2_with (first | (go_at_call 142; refine (nput z low b v l w hz hz4 h hl hv).mono ?_; rintro e w2 ⟨rfl, hp2⟩))
  go_end0
  exact ⟨rfl, hp2⟩

theorem plain_put (n : Int) (b : Nat) (s : ByteArray) (l : List UInt8) (w : World) (h : Bld b l w) (hl : l.length + s.size ≤ 90000) :
    Calls Tryd.prog 151 #[.agg #[.int .i64 n], .pointer (some ⟨b, 0, none⟩), .string s] w fun e w' => e = .returned (.tuple #[]) ∧ Put b (l ++ s.data.toList) w w' := by
  go_enter Tryd.func151, Tryd.ntmps151
  go_wp2_with (first | (go_at_call 153; refine (ws_any b l s _ (h.alloc _) (by omega)).mono ?_; rintro e w2 ⟨rfl, hp2⟩))
  go_end0
  exact ⟨rfl, ((Put.refl h).alloc _).trans hp2⟩

theorem wplain (n : Int) (b : Nat) (s : ByteArray) (l : List UInt8) (w : World) (h : Bld b l w) (hl : l.length + s.size ≤ 90000) :
    Calls Tryd.prog 134 #[.pointer (some ⟨b, 0, none⟩), .iface 187 (.agg #[.int .i64 n]), .string s] w fun e w' => e = .returned (.tuple #[]) ∧ Put b (l ++ s.data.toList) w w' := by
  have hmt : ∀ w : World, (method 306 187 (.agg #[.int .i64 n]) "loop.example/s03048/impl.put").run Tryd.prog w = .ok (151, .agg #[.int .i64 n]) w := fun _ => by kernel_rfl
  go_enter Tryd.func134, Tryd.ntmps134
  go_wp2_with (first | (go_at_call 151; refine (plain_put n b s l w h hl).mono ?_; rintro e w2 ⟨rfl, hp2⟩))
  go_end0
  exact ⟨rfl, hp2⟩

theorem sized_put (z : Nat) (low : Bool) (b : Nat) (s : ByteArray) (l : List UInt8) (w : World) (hz : 0 < z) (hz4 : z ≤ 7) (h : Bld b l w) (hl : l.length + s.size ≤ 80000) :
    Calls Tryd.prog 149 #[.agg #[.int .i64 (z : Int), .bool low], .pointer (some ⟨b, 0, none⟩), .string s] w fun e w' => e = .returned (.tuple #[]) ∧ Put b (l ++ numTo z low s.size z ++ s.data.toList) w w' := by
  go_enter Tryd.func149, Tryd.ntmps149
  go_wp2_with (first | (go_at_call 136; refine (wint z low b s.size l _ hz hz4 (h.alloc _) (by omega) (by omega)).mono ?_; rintro e w2 ⟨rfl, hp2⟩) | (go_at_call 134; refine (wplain _ b s _ _ hp2.1 (by rw [List.length_append, numTo_length]; omega)).mono ?_; rintro e w3 ⟨rfl, hp3⟩))
  go_end0
  exact ⟨rfl, (((Put.refl h).alloc _).trans hp2).trans hp3⟩

theorem wsized (z : Nat) (low : Bool) (b : Nat) (s : ByteArray) (l : List UInt8) (w : World) (hz : 0 < z) (hz4 : z ≤ 7) (h : Bld b l w) (hl : l.length + s.size ≤ 80000) :
    Calls Tryd.prog 134 #[.pointer (some ⟨b, 0, none⟩), .iface 183 (.agg #[.int .i64 (z : Int), .bool low]), .string s] w fun e w' => e = .returned (.tuple #[]) ∧ Put b (l ++ numTo z low s.size z ++ s.data.toList) w w' := by
  have hmt : ∀ w : World, (method 306 183 (.agg #[.int .i64 (z : Int), .bool low]) "loop.example/s03048/impl.put").run Tryd.prog w = .ok (149, .agg #[.int .i64 (z : Int), .bool low]) w := fun _ => by kernel_rfl
  go_enter Tryd.func134, Tryd.ntmps134
  go_wp2_with (first | (go_at_call 149; refine (sized_put z low b s l w hz hz4 h hl).mono ?_; rintro e w2 ⟨rfl, hp2⟩))
  go_end0
  exact ⟨rfl, hp2⟩

theorem wint1 (b : Nat) (v : Nat) (l : List UInt8) (w : World) (h : Bld b l w) (hl : l.length ≤ 90000) (hv : v ≤ 9223372036854775807) :
    Calls Tryd.prog 136 #[.pointer (some ⟨b, 0, none⟩), .iface 181 (.agg #[.int .i64 1, .bool false]), .int .i64 (v : Int)] w fun e w' => e = .returned (.tuple #[]) ∧ Put b (l ++ [UInt8.ofNat v]) w w' := by
  have := wint 1 false b v l w (by omega) (by omega) h hl hv
  have e : numTo 1 false v 1 = [UInt8.ofNat v] := by simp [numTo, numByte]
  rw [e] at this
  exact this
end Go.Proofs.YtofglikppppjoacDoor
namespace Go.Proofs.YtofglikppppjoacDoor
open Go.RowKit Go.Proofs.Sha

def gap (n : Nat) : Nat := (n + 62) / 63 * 63 - n
def pad63 (l : List UInt8) : List UInt8 := l ++ List.replicate (gap l.length) 0
theorem gap_lt (n : Nat) : gap n < 63 := by unfold gap; omega
theorem pad63_length (l : List UInt8) : (pad63 l).length = l.length + gap l.length := by rw [pad63, List.length_append, List.length_replicate]


end Go.Proofs.YtofglikppppjoacDoor
namespace Go.Proofs.YtofglikppppjoacDoor
open Go.RowKit Go.Proofs.Sha

theorem fresh_bld (w : World) : Bld w.heap.size [] (w.alloc (.cells #[.pointer none, .slice none 0 0] 123)) := Lib.IsBuilderF.of (Lib.fresh_isBuilder 123 5 w)

theorem bstring (b : Nat) (l : List UInt8) (w : World) (h : Bld b l w) :
    Calls Tryd.prog 82 #[.pointer (some ⟨b, 0, none⟩)] w fun e w' => e = .returned (.string ⟨l.toArray⟩) ∧ Below b w w' := by
  refine (Tryd.Builder_String_any_k b b l w h (Nat.le_of_lt h.lt)).mono ?_
  rintro e w' ⟨rfl, _, hb, _⟩
  exact ⟨rfl, hb⟩

theorem fresh_bld1 (w : World) (o : Obj) : Bld (w.heap.size + 1) [] ((w.alloc o).alloc (.cells #[.pointer none, .slice none 0 0] 123)) := by
  have := fresh_bld (w.alloc o)
  rwa [show (w.alloc o).heap.size = w.heap.size + 1 by simp] at this

end Go.Proofs.YtofglikppppjoacDoor
namespace Go.Proofs.YtofglikppppjoacDoor
open Go.RowKit Go.Proofs.Sha

def byteS (n : Nat) : ByteArray := ⟨#[UInt8.ofNat n]⟩
theorem byte_form (n : Nat) : Value.int .u8 ((n : Int) % 256) = B (UInt8.ofNat n) := by
  unfold B
  rw [UInt8.toNat_ofNat']
  show Value.int .u8 _ = Value.int .u8 ((n % 256 : Nat) : Int)
  rw [Int.natCast_emod]; rfl

set_option maxRecDepth 100000 in
set_option maxHeartbeats 400000 in
theorem byte_any (n : Nat) (_hn : n ≤ 1048576) (w : World) :
    Calls Tryd.prog 55 #[.int .i64 (n : Int)] w fun e w' => e = .returned (.string (byteS n)) ∧ Below w.heap.size w w' := by
  have hrow : Row (w.alloc (.cells #[.int .u8 ((n : Int) % 256)] 5)) w.heap.size w.heap.size 1 1 ([UInt8.ofNat n].map B) := by
    have e : [UInt8.ofNat n].map B = [.int .u8 ((n : Int) % 256)] := by rw [byte_form]; rfl
    rw [e]
    exact Row.of_block (Nat.le_refl _) (heap_alloc_new w (.cells #[.int .u8 ((n : Int) % 256)] 5)) 1 (by simp) (.inl rfl)
  go_enter Tryd.func55, Tryd.ntmps55
  go_wp2_with (refine wpList_string_row _ rfl (.tmp 5) 87 9 5 rfl w.heap.size w.heap.size 1 1 [UInt8.ofNat n] rfl hrow Tryd.underlying87 Tryd.underlying5 Tryd.underlying9 ?_)
  go_ret
  exact ⟨rfl, (Below.refl _ _).alloc (Nat.le_refl _) _⟩

theorem byte_i (m : Int) (h0 : 0 ≤ m) (h1 : m ≤ 1048576) (w : World) :
    Calls Tryd.prog 55 #[.int .i64 m] w fun e w' => ∃ t : ByteArray, e = .returned (.string t) ∧ t.size ≤ 1 ∧ Hid (t = byteS m.toNat) ∧ Below w.heap.size w w' := by
  obtain ⟨n, rfl⟩ := Int.eq_ofNat_of_zero_le h0
  rw [Int.toNat_natCast]
  exact (byte_any n (by omega) w).mono fun e w' ⟨he, hb⟩ => ⟨_, he, Nat.le_refl _, rfl, hb⟩

/-- A text of bytes. -/
def T (l : List UInt8) : ByteArray := ⟨l.toArray⟩
theorem T_data (l : List UInt8) : (T l).data.toList = l := rfl
theorem T_size (l : List UInt8) : (T l).size = l.length := rfl
theorem T_of (s : ByteArray) : T s.data.toList = s := by cases s; rfl
theorem T_append (a b : List UInt8) : T a ++ T b = T (a ++ b) := by
  apply ByteArray.ext
  show (T a ++ T b).data = _
  rw [ByteArray.data_append]
  apply Array.ext'
  simp [T]

def sized (l : List UInt8) : List UInt8 := UInt8.ofNat (l.length / 256) :: UInt8.ofNat (l.length % 256) :: l
theorem byteS_T (n : Nat) : byteS n = T [UInt8.ofNat n] := rfl

set_option maxRecDepth 100000 in
set_option maxHeartbeats 400000 in
theorem sized_any (l : List UInt8) (hl : l.length ≤ 1048576) (w : World) :
    Calls Tryd.prog 54 #[.string (T l)] w fun e w' => e = .returned (.string (T (sized l))) ∧ Below w.heap.size w w' := by
  have hs := T_size l
  obtain ⟨s, hS⟩ : ∃ s, T l = s := ⟨_, rfl⟩
  rw [hS] at hs
  rw [hS]
  have HS : Hid (T l = s ∧ s.size = l.length) := ⟨hS, hs⟩
  have hs2 : s.size ≤ 1048576 := by omega
  clear hS hs
  go_enter Tryd.func54, Tryd.ntmps54
  go_wp2_with fail
  refine (byte_i _ (by omega) (by omega) _).mono ?_
  rintro e w1 ⟨t1, rfl, hz1, HT1, hb1⟩
  go_wp2_with fail
  refine (byte_i _ (by omega) (by omega) _).mono ?_
  rintro e w2 ⟨t2, rfl, hz2, HT2, hb2⟩
  go_wp2
  go_ret
  refine ⟨congrArg (fun z => Ending.returned (.string z)) ?_, hb1.trans (hb2.mono hb1.size)⟩
  show t1 ++ t2 ++ s = T (sized l)
  rw [HT1.out, HT2.out, byteS_T, byteS_T, ← HS.out.1, T_append, T_append]
  have e1 : ((T l).size / 256 : Int).toNat = l.length / 256 := by rw [T_size]; omega
  have e2 : ((T l).size % 256 : Int).toNat = l.length % 256 := by rw [T_size]; omega
  rw [e1, e2]; rfl

def hashOk (n : Nat) (w : Int) : Bool := decide (n = 0) || decide ((n : Int) = w)
set_option maxRecDepth 100000 in
set_option maxHeartbeats 400000 in
theorem hashOk_any (s : ByteArray) (k : Int) (w : World) (_hs : s.size ≤ 1048576) :
    Calls Tryd.prog 76 #[.string s, .int .i64 k] w fun e w' => e = .returned (.bool (hashOk s.size k)) ∧ w = w' := by
  by_cases h0 : s.size = 0
  · have c0 : ((s.size : Int) == 0) = true := by rw [h0]; rfl
    have HR : Hid (hashOk s.size k = true) := by show hashOk s.size k = true; unfold hashOk; simp [h0]
    clear h0
    go_enter Tryd.func76, Tryd.ntmps76
    go_wp2
    go_ret
    exact ⟨by rw [HR.out]; rfl, rfl⟩
  · have c0 : ((s.size : Int) == 0) = false := by rw [beq_eq_false_iff_ne]; omega
    have HR : Hid (hashOk s.size k = ((s.size : Int) == k)) := by
      show hashOk s.size k = ((s.size : Int) == k)
      unfold hashOk; rw [decide_eq_false h0, Bool.false_or, Bool.eq_iff_iff]; simp
    clear h0
    go_enter Tryd.func76, Tryd.ntmps76
    go_wp2
    go_ret
    exact ⟨by rw [HR.out]; rfl, rfl⟩

/-- Is the node valid for the width? -/
def nodeOk (k v l r : Nat) (w : Int) : Bool := decide (1 ≤ w ∧ w ≤ 32 ∧ 1 ≤ k ∧ k ≤ 256 ∧ v ≤ 2000) && (hashOk l w && hashOk r w)

set_option maxRecDepth 100000 in
set_option maxHeartbeats 400000 in
theorem nodeOk_any (k v l r : ByteArray) (n : Int) (w : World) (hk : k.size ≤ 1048576) (hv : v.size ≤ 1048576) (hl : l.size ≤ 1048576) (hr : r.size ≤ 1048576) :
    Calls Tryd.prog 53 #[.agg #[.string k, .string v, .string l, .string r], .int .i64 n] w fun e w' => e = .returned (.bool (nodeOk k.size v.size l.size r.size n)) ∧ Below w.heap.size w w' := by
  have hfin : Below w.heap.size w (w.alloc (.cells #[.string k, .string v, .string l, .string r] 26)) := (Below.refl _ _).alloc (Nat.le_refl _) _
  by_cases h1 : n < 1
  · have HR : Hid (nodeOk k.size v.size l.size r.size n = false) := by
      show nodeOk k.size v.size l.size r.size n = false
      unfold nodeOk; rw [decide_eq_false (by omega), Bool.false_and]
    have c1 : decide (1 ≤ n) = false := by simpa using h1
    go_enter Tryd.func53, Tryd.ntmps53
    go_wp2_with (first | (go_at_call 76; refine (hashOk_any _ _ _ (by assumption)).mono ?_; rintro e w' ⟨rfl, rfl⟩) | go_in)
    go_ret
    exact ⟨by rw [HR.out]; rfl, hfin⟩
  by_cases h2 : 32 < n
  · have HR : Hid (nodeOk k.size v.size l.size r.size n = false) := by
      show nodeOk k.size v.size l.size r.size n = false
      unfold nodeOk; rw [decide_eq_false (by omega), Bool.false_and]
    have c1 : decide (1 ≤ n) = true := by simp; omega
    have c2 : decide (n ≤ 32) = false := by simpa using h2
    go_enter Tryd.func53, Tryd.ntmps53
    go_wp2_with (first | (go_at_call 76; refine (hashOk_any _ _ _ (by assumption)).mono ?_; rintro e w' ⟨rfl, rfl⟩) | go_in)
    go_ret
    exact ⟨by rw [HR.out]; rfl, hfin⟩
  by_cases h3 : k.size < 1
  · have HR : Hid (nodeOk k.size v.size l.size r.size n = false) := by
      show nodeOk k.size v.size l.size r.size n = false
      unfold nodeOk; rw [decide_eq_false (by omega), Bool.false_and]
    have c1 : decide (1 ≤ n) = true := by simp; omega
    have c2 : decide (n ≤ 32) = true := by simp; omega
    have c3 : decide ((k.size : Int) < 1) = true := by simp; omega
    go_enter Tryd.func53, Tryd.ntmps53
    go_wp2_with (first | (go_at_call 76; refine (hashOk_any _ _ _ (by assumption)).mono ?_; rintro e w' ⟨rfl, rfl⟩) | go_in)
    go_ret
    exact ⟨by rw [HR.out]; rfl, hfin⟩
  by_cases h4 : 256 < k.size
  · have HR : Hid (nodeOk k.size v.size l.size r.size n = false) := by
      show nodeOk k.size v.size l.size r.size n = false
      unfold nodeOk; rw [decide_eq_false (by omega), Bool.false_and]
    have c1 : decide (1 ≤ n) = true := by simp; omega
    have c2 : decide (n ≤ 32) = true := by simp; omega
    have c3 : decide ((k.size : Int) < 1) = false := by simp; omega
    have c4 : decide ((256 : Int) < (k.size : Int)) = true := by simp; omega
    go_enter Tryd.func53, Tryd.ntmps53
    go_wp2_with (first | (go_at_call 76; refine (hashOk_any _ _ _ (by assumption)).mono ?_; rintro e w' ⟨rfl, rfl⟩) | go_in)
    go_ret
    exact ⟨by rw [HR.out]; rfl, hfin⟩
  by_cases h5 : 2000 < v.size
  · have HR : Hid (nodeOk k.size v.size l.size r.size n = false) := by
      show nodeOk k.size v.size l.size r.size n = false
      unfold nodeOk; rw [decide_eq_false (by omega), Bool.false_and]
    have c1 : decide (1 ≤ n) = true := by simp; omega
    have c2 : decide (n ≤ 32) = true := by simp; omega
    have c3 : decide ((k.size : Int) < 1) = false := by simp; omega
    have c4 : decide ((256 : Int) < (k.size : Int)) = false := by simp; omega
    have c5 : decide ((2000 : Int) < (v.size : Int)) = true := by simp; omega
    go_enter Tryd.func53, Tryd.ntmps53
    go_wp2_with (first | (go_at_call 76; refine (hashOk_any _ _ _ (by assumption)).mono ?_; rintro e w' ⟨rfl, rfl⟩) | go_in)
    go_ret
    exact ⟨by rw [HR.out]; rfl, hfin⟩
  by_cases h6 : hashOk l.size n = false
  · have HR : Hid (nodeOk k.size v.size l.size r.size n = false) := by
      show nodeOk k.size v.size l.size r.size n = false
      unfold nodeOk; rw [decide_eq_true (by omega), Bool.true_and, h6, Bool.false_and]
    have c1 : decide (1 ≤ n) = true := by simp; omega
    have c2 : decide (n ≤ 32) = true := by simp; omega
    have c3 : decide ((k.size : Int) < 1) = false := by simp; omega
    have c4 : decide ((256 : Int) < (k.size : Int)) = false := by simp; omega
    have c5 : decide ((2000 : Int) < (v.size : Int)) = false := by simp; omega
    go_enter Tryd.func53, Tryd.ntmps53
    go_wp2_with (first | (go_at_call 76; refine (hashOk_any _ _ _ (by assumption)).mono ?_; rintro e w' ⟨rfl, rfl⟩) | go_in)
    go_ret
    exact ⟨by rw [HR.out]; rfl, hfin⟩
  have h6' : hashOk l.size n = true := by simpa using h6
  clear h6
  have HR : Hid (nodeOk k.size v.size l.size r.size n = hashOk r.size n) := by
    show nodeOk k.size v.size l.size r.size n = hashOk r.size n
    unfold nodeOk; rw [decide_eq_true (by omega), Bool.true_and, h6', Bool.true_and]
  have c1 : decide (1 ≤ n) = true := by simp; omega
  have c2 : decide (n ≤ 32) = true := by simp; omega
  have c3 : decide ((k.size : Int) < 1) = false := by simp; omega
  have c4 : decide ((256 : Int) < (k.size : Int)) = false := by simp; omega
  have c5 : decide ((2000 : Int) < (v.size : Int)) = false := by simp; omega
  go_enter Tryd.func53, Tryd.ntmps53
  go_wp2_with (first | (go_at_call 76; refine (hashOk_any _ _ _ (by assumption)).mono ?_; rintro e w' ⟨rfl, rfl⟩) | go_in)
  go_ret
  exact ⟨by rw [HR.out]; rfl, hfin⟩
end Go.Proofs.YtofglikppppjoacDoor
namespace Go.Proofs.YtofglikppppjoacDoor
open Go.RowKit Go.Proofs.Sha

theorem sized_b (s : ByteArray) (_hs : s.size ≤ 2097152) (hs' : s.size ≤ 1048576) (w : World) :
    Calls Tryd.prog 54 #[.string s] w fun e w' => ∃ t : ByteArray, e = .returned (.string t) ∧ t.size ≤ s.size + 2 ∧ Hid (t = T (sized s.data.toList)) ∧ Below w.heap.size w w' := by
  have := sized_any s.data.toList hs' w
  rw [T_of] at this
  exact this.mono fun e w' ⟨he, hb⟩ => ⟨_, he, Nat.le_refl _, rfl, hb⟩

def flagOf (l r : Nat) : Nat := (if l = 0 then 0 else 1) + (if r = 0 then 0 else 2)
def encL (k v l r : List UInt8) : List UInt8 := sized k ++ sized v ++ [UInt8.ofNat (flagOf l.length r.length)] ++ l ++ r

set_option maxRecDepth 100000 in
set_option maxHeartbeats 400000 in
theorem enc_no (k v l r : ByteArray) (n : Int) (w : World) (hk : k.size ≤ 1048576) (hv : v.size ≤ 1048576) (hl : l.size ≤ 1048576) (hr : r.size ≤ 1048576) (hok : nodeOk k.size v.size l.size r.size n = false) :
    Calls Tryd.prog 24 #[.agg #[.string k, .string v, .string l, .string r], .int .i64 n] w fun e w' => e = .returned (.string ⟨#[]⟩) ∧ Below w.heap.size w w' := by
  have HC : Hid (∀ w', Calls Tryd.prog 53 #[.agg #[.string k, .string v, .string l, .string r], .int .i64 n] w' fun e w'' => e = .returned (.bool false) ∧ Below w'.heap.size w' w'') := fun w' => by
    have := nodeOk_any k v l r n w' hk hv hl hr
    rw [hok] at this; exact this
  clear hok
  go_enter Tryd.func24, Tryd.ntmps24
  go_wp2_with fail
  refine (HC.out _).mono ?_
  rintro e w1 ⟨rfl, hb1⟩
  go_wp2
  go_ret
  exact ⟨rfl, ((Below.refl _ _).alloc (Nat.le_refl _) _).trans (hb1.mono (by simp))⟩

set_option maxRecDepth 100000 in
set_option maxHeartbeats 800000 in
theorem enc_yes (k v l r : ByteArray) (n : Int) (w : World) (hk : k.size ≤ 1048576) (hv : v.size ≤ 1048576) (hl : l.size ≤ 1048576) (hr : r.size ≤ 1048576) (hok : nodeOk k.size v.size l.size r.size n = true) :
    Calls Tryd.prog 24 #[.agg #[.string k, .string v, .string l, .string r], .int .i64 n] w fun e w' => e = .returned (.string (T (encL k.data.toList v.data.toList l.data.toList r.data.toList))) ∧ Below w.heap.size w w' := by
  have HC : Hid (∀ w', Calls Tryd.prog 53 #[.agg #[.string k, .string v, .string l, .string r], .int .i64 n] w' fun e w'' => e = .returned (.bool true) ∧ Below w'.heap.size w' w'') := fun w' => by
    have := nodeOk_any k v l r n w' hk hv hl hr
    rw [hok] at this; exact this
  clear hok
  by_cases h1 : l.size = 0
  all_goals by_cases h2 : r.size = 0
  all_goals
    have HF : Hid (flagOf l.data.toList.length r.data.toList.length = flagOf l.size r.size) := rfl
    have H12 : Hid ((l.size = 0 ↔ ¬ 0 < l.size) ∧ (r.size = 0 ↔ ¬ 0 < r.size)) := ⟨by omega, by omega⟩
    go_enter Tryd.func24, Tryd.ntmps24
    go_wp2_with fail
    refine (HC.out _).mono ?_
    rintro e w1 ⟨rfl, hb1⟩
    have hs1 : w.heap.size < w1.heap.size := by have := hb1.size; simp at this; omega
    have c0 : w1.cell? ⟨w.heap.size, 0, none⟩ = some (.string k) := (hb1.cell (by simp)).trans (by simp)
    have c1 : w1.cell? ⟨w.heap.size, 1, none⟩ = some (.string v) := (hb1.cell (by simp)).trans (by simp)
    have c2 : w1.cell? ⟨w.heap.size, 2, none⟩ = some (.string l) := (hb1.cell (by simp)).trans (by simp)
    have c3 : w1.cell? ⟨w.heap.size, 3, none⟩ = some (.string r) := (hb1.cell (by simp)).trans (by simp)
    have hbw : Below w.heap.size w w1 := ((Below.refl _ _).alloc (Nat.le_refl _) _).trans (hb1.mono (by simp))
    clear hb1
    go_wp2_with fail
    go_region_held3 (fun w' => w.heap.size < w'.heap.size ∧ w'.cell? ⟨w.heap.size, 0, none⟩ = some (.string k) ∧ w'.cell? ⟨w.heap.size, 1, none⟩ = some (.string v) ∧ w'.cell? ⟨w.heap.size, 2, none⟩ = some (.string l) ∧ w'.cell? ⟨w.heap.size, 3, none⟩ = some (.string r))
      (first | exact ⟨hs1, c0, c1, c2, c3⟩ | (go_split_ands; refine ⟨Nat.lt_of_lt_of_le (by assumption) hbC.size, ?_, ?_, ?_, ?_⟩ <;> (rw [hbC.cell (by assumption)]; assumption)) | (go_split_ands; refine ⟨Nat.lt_of_lt_of_le (by assumption) hbB.size, ?_, ?_, ?_, ?_⟩ <;> (rw [hbB.cell (by assumption)]; assumption)) | (go_split_ands; refine ⟨Nat.lt_of_lt_of_le (by assumption) hbA.size, ?_, ?_, ?_, ?_⟩ <;> (rw [hbA.cell (by assumption)]; assumption)))
      (first | (go_at_call_of 54 (Value.string k); refine (sized_b k (by omega) hk _).mono ?_; rintro e wA ⟨tA, rfl, zA, HA, hbA⟩) | (go_at_call_of 54 (Value.string v); refine (sized_b v (by omega) hv _).mono ?_; rintro e wB ⟨tB, rfl, zB, HB, hbB⟩; have fB : ¬ (9223372036854775807 < tA.size + tB.size) := (by omega)) | (go_at_call 55; refine (byte_i _ (by omega) (by omega) _).mono ?_; rintro e wC ⟨tC, rfl, zC, HCC, hbC⟩; have fC : ¬ (9223372036854775807 < tA.size + tB.size + tC.size) := (by omega); have fD : ¬ (9223372036854775807 < tA.size + tB.size + tC.size + l.size) := (by omega); have fE : ¬ (9223372036854775807 < tA.size + tB.size + tC.size + l.size + r.size) := (by omega); have fF : ¬ (9223372036854775807 < tA.size + tB.size + tC.size + r.size) := (by omega)))
    go_wp2
    go_ret
    refine ⟨congrArg (fun z => Ending.returned (.string z)) ?_, ?_⟩
    · show tA ++ tB ++ tC ++ l ++ r = _
      rw [HA.out, HB.out, HCC.out, byteS_T]
      conv => lhs; rw [← T_of l, ← T_of r]
      rw [T_append, T_append, T_append, T_append]
      unfold encL
      rw [HF.out]
      unfold flagOf
      simp [h1, h2]
    · exact hbw.trans ((((Below.refl _ w1).drew.trans hbA).trans (hbB.mono hbA.size)).trans (hbC.mono (Nat.le_trans hbA.size hbB.size)) |>.mono (Nat.le_of_lt hs1))
end Go.Proofs.YtofglikppppjoacDoor
namespace Go.Proofs.YtofglikppppjoacDoor
open Go.RowKit Go.Proofs.Sha

theorem empty_iff (l : ByteArray) : l.toList.isEmpty = decide (l.size = 0) := by
  rw [ByteArray.toList_eq]
  have : l.data.toList.length = l.size := rfl
  cases h : l.data.toList with
  | nil =>
    rw [h, List.length_nil] at this
    simp [← this]
  | cons a t =>
    rw [h, List.length_cons] at this
    have h0 : ¬ l.size = 0 := by omega
    simp [h0]
theorem flags_any (k v l r : ByteArray) (w : World) :
    Calls Tryd.prog 133 #[.agg #[.string k, .string v, .string l, .string r]] w fun e w' => e = .returned (.int .i64 (flagOf l.size r.size : Int)) ∧ Below w.heap.size w w' := by
  have hb : Below w.heap.size w (w.alloc (.cells #[.string k, .string v, .string l, .string r] 26)) := (Below.refl _ _).alloc (Nat.le_refl _) _
  by_cases h1 : l.size = 0
  all_goals by_cases h2 : r.size = 0
  all_goals
    have HF : Hid (∃ f, flagOf l.size r.size = f ∧ f = (if l.size = 0 then 0 else 1) + (if r.size = 0 then 0 else 2)) := ⟨_, rfl, rfl⟩
    have e1 := empty_iff l
    have e2 := empty_iff r
    simp only [h1, h2, decide_true, decide_false] at e1 e2
    clear h1 h2
    go_enter Tryd.func133, Tryd.ntmps133
    go_wp2
    go_ret
    obtain ⟨f, hf, hf2⟩ := HF.out
    refine ⟨?_, hb⟩
    rw [hf, hf2]
    rw [empty_iff] at e1 e2
    simp at e1 e2
    simp [e1, e2]
theorem kept_any (w : World) : Calls Tryd.prog 135 #[] w fun e w' => e = .returned (.agg #[.int .i64 2, .bool false]) ∧ Below w.heap.size w w' := by
  go_enter Tryd.func135, Tryd.ntmps135
  go_wp2
  have c0 := Lib.cell_of_heap (heap_alloc_new w (.cells #[.int .i64 2, .bool false] 183)) 0
  have c1 := Lib.cell_of_heap (heap_alloc_new w (.cells #[.int .i64 2, .bool false] 183)) 1
  refine bodyPost_ret (v := .agg #[.int .i64 2, .bool false]) ?_ rfl ⟨rfl, (Below.refl _ _).alloc (Nat.le_refl _) _⟩
  simp [results, Tryd.results135, go_sem, asAddr, c0, c1]
theorem link_any (n f : Int) (w : World) : Calls Tryd.prog 130 #[.agg #[.int .i64 n], .int .i64 f] w fun e w' => e = .returned (.agg #[.int .i64 (if f = 0 then 0 else n)]) ∧ Below w.heap.size w w' := by
  have hb : ∀ x, Below w.heap.size w ((w.alloc (.cells #[.int .i64 n] 83)).alloc (.cells #[.int .i64 x] 187)) := fun x => ((Below.refl _ _).alloc (Nat.le_refl _) _).alloc (by simp) _
  have c0 : ∀ x, ((w.alloc (.cells #[.int .i64 n] 83)).alloc (.cells #[.int .i64 x] 187)).cell? ⟨w.heap.size + 1, 0, none⟩ = some (.int .i64 x) := fun x => by
    have := Lib.cell_of_heap (heap_alloc_new (w.alloc (.cells #[.int .i64 n] 83)) (.cells #[.int .i64 x] 187)) 0
    rw [show (w.alloc (.cells #[.int .i64 n] 83)).heap.size = w.heap.size + 1 by simp] at this
    exact this
  by_cases h : f = 0
  · rw [if_pos h]
    subst h
    go_enter Tryd.func130, Tryd.ntmps130
    go_wp2
    refine bodyPost_ret (v := .agg #[.int .i64 0]) ?_ rfl ⟨rfl, hb _⟩
    simp [results, Tryd.results130, go_sem, asAddr]
  · rw [if_neg h]
    go_enter Tryd.func130, Tryd.ntmps130
    go_wp2
    refine bodyPost_ret (v := .agg #[.int .i64 n]) ?_ rfl ⟨rfl, hb _⟩
    simp [results, Tryd.results130, go_sem, asAddr]

theorem wsized2 (b : Nat) (s : ByteArray) (l : List UInt8) (w : World) (h : Bld b l w) (hl : l.length + s.size ≤ 80000) :
    Calls Tryd.prog 134 #[.pointer (some ⟨b, 0, none⟩), .iface 183 (.agg #[.int .i64 2, .bool false]), .string s] w fun e w' => e = .returned (.tuple #[]) ∧ Put b (l ++ sized s.data.toList) w w' := by
  have := wsized 2 false b s l w (by omega) (by omega) h hl
  have e0 : ∀ x : Nat, UInt8.ofNat (x % 256) = UInt8.ofNat x := fun x => by apply UInt8.toNat.inj; simp
  have e : numTo 2 false s.size 2 = [UInt8.ofNat (s.size / 256), UInt8.ofNat (s.size % 256)] := by simp [numTo, numByte, e0]
  rw [e, List.append_assoc] at this
  exact this

theorem link_ex (n f : Int) (w : World) : Calls Tryd.prog 130 #[.agg #[.int .i64 n], .int .i64 f] w fun e w' => ∃ p, e = .returned (.agg #[.int .i64 p]) ∧ Below w.heap.size w w' :=
  (link_any n f w).mono (by rintro e w' ⟨rfl, hb⟩; exact ⟨_, rfl, hb⟩)
end Go.Proofs.YtofglikppppjoacDoor
