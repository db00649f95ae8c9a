import Derived.Test.YtfmpjlpakldheaaGreatDoorZrah
import Derived.ChangeKeysEq
import Derived.Test.YtfmpjlpakldheaaGreatDoorZraf
import Derived.Deep.QuietTactic
import Derived.BigQuiet
import Derived.Test.YtfmpjlpakldheaaGreatDoorZrab
import Derived.Test.YtfmpjlpakldheaaGreatDoorZrai
import Derived.Test.YtfmpjlpakldheaaGreatDoorZrac
set_option maxRecDepth 100000
set_option maxHeartbeats 800000
namespace Go.Proofs.YtfmpjlpakldheaaGreatDoor
open Go.RowKit Go.Proofs.Sha Tryz
theorem fed_new (w : World) : Fed (w.alloc (.cells newCells.toArray 212)) w.heap.size [] (List.replicate 64 0) 0 := ⟨hsh_new w, rfl⟩
theorem hash_any (s : ByteArray) (w : World) (hs : s.size <= 1048576)
 (hK : ∀ j, j < 64 -> w.cell? ⟨0, j, none⟩ = some (.int .u32 ((kTab.getD j 0).toNat : Int))) :
 Calls prog 83 #[.string s] w fun e w' => e = .returned (.agg ((sha s.data.toList).map B).toArray) /\ Below w.heap.size w w' := by
 have hl0 : 0 < w.heap.size := World.block_lt_of_cell? w _ (hK 0 (by omega))
 have HK : Hid (∀ w' : World, Below w.heap.size w w' -> ∀ j, j < 64 -> w'.cell? ⟨0, j, none⟩ = some (.int .u32 ((kTab.getD j 0).toNat : Int))) := fun w' hb j hj => (hb.cell (by exact hl0)).trans (hK j hj)
 clear hK
 have hsl : s.data.toList.length = s.size := rfl
 go_enter func83, ntmps83
 go_wp2_with (refine wpList_alloc_row _ rfl (some 2) rfl 116 116 rfl (zeros8.map B) alloc32 ?_; intro g2 w2 hr2 hb2)
 have hr2' : Row w2 w.heap.size g2 32 32 (zeros8.map B) := hr2
 have hge := hr2.ge
 have hlt := hr2.lt
 have hs2 := hb2.size
 clear hr2
 refine (new_any w2).mono ?_
 rintro e w3 ⟨rfl, hw3⟩
 have F3 : Fed w3 w2.heap.size [] (List.replicate 64 0) 0 := by rw [hw3]; exact fed_new w2
 have hb3 : Below w2.heap.size w2 w3 := by rw [hw3]; exact (Below.refl _ _).alloc (Nat.le_refl _) _
 clear hw3
 obtain ⟨b, hb⟩ : ∃ b, w2.heap.size = b := ⟨_, rfl⟩
 rw [hb] at F3
 rw [hb]
 have hs3 := hb3.size
 have hbw3 : Below w.heap.size w w3 := hb2.trans (hb3.mono hs2)
 have hR3 : Row w3 w.heap.size g2 32 32 (zeros8.map B) := hr2'.below hb3
 have hb0 : b ≠ 0 := by omega
 have hgb : g2 < b := by omega
 have hwb : w.heap.size <= b := by omega
 clear hr2' hb3 hb2
 go_wp2_with fail
 refine (feed_any b [] (List.replicate 64 0) s w3 F3 (by simp; omega) hb0 (HK.out w3 hbw3)).mono ?_
 rintro e w4 ⟨rfl, ⟨k4, F4⟩, hg4⟩
 have hs4 := hg4.size
 have hbw4 : Below w.heap.size w w4 := hbw3.trans (below_of_grown hg4 hwb (by omega))
 have hR4 : Row w4 w.heap.size g2 32 32 (zeros8.map B) := hR3.kept hg4 (by simp; omega)
 rw [List.nil_append, List.length_nil, Nat.zero_add] at F4
 clear F3 hg4 hR3 hbw3
 have hfs := fin_sha s.data.toList k4 F4.H.kl F4.tk
 have H4 := F4.H
 rw [hsl] at H4 hfs
 clear F4
 go_wp2_with fail
 refine (finish_any b _ k4 _ s.size w4 H4 (by omega) (by omega) hb0 (HK.out w4 hbw4)).mono ?_
 rintro e w5 ⟨rfl, hg5⟩
 rw [hfs]
 clear hfs H4
 have hbw5 : Below w.heap.size w w5 := hbw4.trans (below_of_grown hg5 hwb (by omega))
 have hR5 : Row w5 w.heap.size g2 32 32 (zeros8.map B) := hR4.kept hg5 (by simp; omega)
 have hln : ((sha s.data.toList).map B).length = 32 := by rw [List.length_map]; unfold sha; rw [outTo_length]
 have h1c : ∀ v ∈ (sha s.data.toList).map B, v.oneCell' = true := by
  intro v hv
  obtain ⟨x, _, rfl⟩ := List.mem_map.1 hv
  rfl
 obtain ⟨L, hL⟩ : ∃ L, (sha s.data.toList).map B = L := ⟨_, rfl⟩
 rw [hL] at hln h1c
 rw [hL]
 have HL : Hid ((sha s.data.toList).map B = L) := hL
 clear hL
 go_wp2_with (refine wpList_store_whole _ rfl rfl 116 (.tmp 2) (.tmp 9) rfl w.heap.size g2 32 (zeros8.map B) L rfl rfl hR5 hln size32 h1c ?_; intro w8 hR8 hg8)
 refine ret_row _ (p := 2) (ty := 116) rfl w.heap.size g2 32 32 L 5 rfl hR8 Tryz.underlying116 size32 rfl ?_
 refine ⟨?_, ?_⟩
 · rw [HL.out]
 · exact hbw5.trans (below_of_grown hg8 hge (by have := hbw5.size; omega))
end Go.Proofs.YtfmpjlpakldheaaGreatDoor
namespace Go.Proofs.Sha
open Go Go.RowKit
section
variable {P : Program} (w : World)
theorem eqItems_b (dp : Nat) (X Y : List UInt8) (e : TypeId) (he : P.underlying e = some (.int .u8)) (hc : P.cellsOf e = 1) (n : Nat) (hX : X.length = n) (hY : Y.length = n) : ∀ is : List Nat, (∀ i ∈ is, i < n) →
 ∃ r : Bool, (Op.eqItems (dp + 1) e (P.cellsOf e) (X.map B).toArray (Y.map B).toArray is).run P w = .ok r w /\ (r = true ↔ ∀ i ∈ is, X.getD i 0 = Y.getD i 0)
 | [], _ => ⟨true, by simp [Op.eqItems], by simp⟩
 | i :: is, h => by
  obtain ⟨r, hr, hiff⟩ := eqItems_b dp X Y e he hc n hX hY is (fun j hj => h j (List.mem_cons_of_mem _ hj))
  have hi : i < n := h i (List.mem_cons_self ..)
  have hagg : (isAgg e).run P w = .ok false w := by
   unfold isAgg
   rw [Sem.run_bind, run_underlying he w]; rfl
  have hpart : ∀ L : List UInt8, L.length = n -> (part e (L.map B).toArray (i * P.cellsOf e)).run P w = .ok (.int .u8 ((L.getD i 0).toNat : Int)) w := fun L hL => by
   unfold part
   rw [Sem.run_bind, hagg, hc, Nat.mul_one]
   have : (L.map B).toArray[i]? = some (.int .u8 ((L.getD i 0).toNat : Int)) := by
    rw [List.getElem?_toArray, List.getElem?_map, List.getD_eq_getElem?_getD, List.getElem?_eq_getElem (by omega)]; rfl
   rw [this]; rfl
  have heq : ∀ a b : Int, (Op.equalIn (dp + 1) e (.int .u8 a) (.int .u8 b)).run P w = .ok (a == b) w := fun a b => by
   simp [Op.equalIn, run_underlying he]
  have hne : ∀ a b : UInt8, ((a.toNat : Int) == (b.toNat : Int)) = decide (a = b) := fun a b => by
   rw [Bool.eq_iff_iff]
   simp only [beq_iff_eq, decide_eq_true_eq]
   exact ⟨fun h => UInt8.toNat_inj.1 (by omega), fun h => by rw [h]⟩
  rw [Op.eqItems]
  simp only [Sem.run_bind, hpart X hX, hpart Y hY, heq, hne, Result.andThen_ok]
  by_cases hxy : X.getD i 0 = Y.getD i 0
  · refine ⟨r, by rw [decide_eq_true hxy]; simpa using hr, ?_⟩
    rw [hiff]
    exact ⟨fun g j hj => by rcases List.mem_cons.1 hj with rfl | hj; exact hxy; exact g j hj, fun g j hj => g j (List.mem_cons_of_mem _ hj)⟩
  · refine ⟨false, by rw [decide_eq_false hxy]; simp, ?_⟩
    exact ⟨fun h => (by cases h), fun g => absurd (g i (List.mem_cons_self ..)) hxy⟩
theorem run_eql_b (X Y : List UInt8) (t e : TypeId) (n : Nat) (i : TypeInfo) (hu : P.underlying t = some (.array n e)) (he : P.underlying e = some (.int .u8)) (hi : P.info? e = some i) (hc : P.cellsOf e = 1) (hX : X.length = n) (hY : Y.length = n) :
 (binOp .eql t (.agg (X.map B).toArray) (.agg (Y.map B).toArray)).run P w = .ok (.bool (decide (X = Y))) w := by
 obtain ⟨r, hr, hiff⟩ := eqItems_b w 9998 X Y e he hc n hX hY (List.range n) (fun j hj => List.mem_range.1 hj)
 rw [run_eql_struct, run_equalIn_array w 9999 _ _ hu hi, hr]
 have : r = decide (X = Y) := by
  rw [Bool.eq_iff_iff, hiff, decide_eq_true_eq]
  constructor
  · intro g
    apply List.ext_getElem (by omega)
    intro j h1 h2
    have := g j (List.mem_range.2 (by omega))
    simpa [List.getD_eq_getElem?_getD, List.getElem?_eq_getElem h1, List.getElem?_eq_getElem h2] using this
  · intro e j _; rw [e]
 rw [this]; rfl
end
theorem less_eq (p q : List UInt8) (i : Nat) (h1 : i < p.length) (h2 : i < q.length) (he : p.getD i 0 = q.getD i 0) : Op.bytesLess (p.drop i) (q.drop i) = Op.bytesLess (p.drop (i + 1)) (q.drop (i + 1)) := by
 rw [List.drop_eq_getElem_cons h1, List.drop_eq_getElem_cons h2, Op.bytesLess]
 have e1 : p[i] = q[i] := by simpa [List.getD_eq_getElem?_getD, List.getElem?_eq_getElem h1, List.getElem?_eq_getElem h2] using he
 rw [e1]; simp
theorem less_ne (p q : List UInt8) (i : Nat) (h1 : i < p.length) (h2 : i < q.length) (he : p.getD i 0 ≠ q.getD i 0) : Op.bytesLess (p.drop i) (q.drop i) = decide (((p.getD i 0).toNat : Int) < ((q.getD i 0).toNat : Int)) := by
 rw [List.drop_eq_getElem_cons h1, List.drop_eq_getElem_cons h2, Op.bytesLess]
 have e1 : p.getD i 0 = p[i] := by simp [List.getD_eq_getElem?_getD, List.getElem?_eq_getElem h1]
 have e2 : q.getD i 0 = q[i] := by simp [List.getD_eq_getElem?_getD, List.getElem?_eq_getElem h2]
 rw [e1, e2] at he
 rw [e1, e2]
 have e3 : (p[i] == q[i]) = false := by rw [beq_eq_false_iff_ne]; exact he
 rw [e3, Bool.false_and, Bool.or_false]
 rw [Bool.eq_iff_iff]; simp [UInt8.lt_iff_toNat_lt]
theorem less_end (p q : List UInt8) (i : Nat) (h : p.length <= i \/ q.length <= i) (hi : i <= p.length) (hj : i <= q.length) : Op.bytesLess (p.drop i) (q.drop i) = decide ((p.length : Int) < (q.length : Int)) := by
 rcases Nat.lt_or_ge i q.length with hq | hq
 · have : p.drop i = [] := List.drop_of_length_le (by omega)
   rw [this, List.drop_eq_getElem_cons hq, Op.bytesLess]
   symm; simp; omega
 · have : q.drop i = [] := List.drop_of_length_le hq
   rw [this, Op.bytesLess]
   symm; simp; omega
end Go.Proofs.Sha
namespace Go.Proofs.YtfmpjlpakldheaaGreatDoor
open Go.RowKit Go.Proofs.Sha Tryz
end Go.Proofs.YtfmpjlpakldheaaGreatDoor
namespace Go.Proofs.Sha
open Go Go.RowKit
section
variable {P : Program} (w : World)
theorem wpList_eql_b {ops : Array Oper} {rest : List Oper} {o : Oper} {a : Act} {Q : Exit -> Act -> World -> Prop} (hgd : o.guard = none) (t t' : TypeId) (x y : Operand) (ho : o.op = .binOp .eql t x y t') (X Y : List UInt8) (n : Nat) (e : TypeId) (i : TypeInfo)
 (hx : a.eval x = .agg (X.map B).toArray) (hy : a.eval y = .agg (Y.map B).toArray) (hu : P.underlying t = some (.array n e)) (he : P.underlying e = some (.int .u8)) (hi : P.info? e = some i) (hc : P.cellsOf e = 1) (hX : X.length = n) (hY : Y.length = n)
 (hguard : (eqGuard .eql t x y (.agg (X.map B).toArray) (.agg (Y.map B).toArray)).run P w = .ok () w)
 (h : wpList P ops Q rest (a.put o.dst (.bool (decide (X = Y)))) w) : wpList P ops Q (o :: rest) a w := by
 refine Go.Great.wpList_runTo hgd o.dst rfl (.bool (decide (X = Y))) w ?_ h
 unfold execOp
 simp only [ho, hx, hy, Sem.run_bind, hguard, run_eql_b w X Y t e n i hu he hi hc hX hY, Result.andThen_ok, Sem.run_pure]
end
end Go.Proofs.Sha
namespace Go.Proofs.YtfmpjlpakldheaaGreatDoor
open Go.RowKit Go.Proofs.Sha Tryz
theorem cells5 : Tryz.prog.cellsOf 5 = 1 := by kernel_rfl
theorem guard28 (x y : Operand) (X Y : Array Value) (w : World) : (eqGuard .eql 116 x y (.agg X) (.agg Y)).run Tryz.prog w = .ok () w := by kernel_rfl
theorem greater_any (X Y : List UInt8) (hX : X.length = 32) (hY : Y.length = 32) (w : World) :
 Calls Tryz.prog 166 #[.agg (X.map B).toArray, .agg (Y.map B).toArray] w fun e w' => e = .returned (.bool (Op.bytesLess Y X)) /\ Below w.heap.size w w' := by
 obtain ⟨LX, hLX⟩ : ∃ L, X.map B = L := ⟨_, rfl⟩
 obtain ⟨LY, hLY⟩ : ∃ L, Y.map B = L := ⟨_, rfl⟩
 have HLX : Hid (X.map B = LX) := hLX
 have HLY : Hid (Y.map B = LY) := hLY
 have l1 : LX.length = 32 := by rw [<- hLX, List.length_map, hX]
 have l2 : LY.length = 32 := by rw [<- hLY, List.length_map, hY]
 rw [hLX, hLY]
 have HL12 : Hid (LX.length = 32 /\ LY.length = 32) := ⟨l1, l2⟩
 clear hLX hLY l1 l2
 go_enter Tryz.func166, Tryz.ntmps166
 go_wp2_with (first | (refine wpList_box_row _ rfl (some 2) rfl 116 (.tmp 0) rfl LX rfl ?_; intro g2 w2 hr2 hb2) | (refine wpList_box_row _ rfl (some 3) rfl 116 (.tmp 1) rfl LY rfl ?_; intro g3 w3 hr3 hb3))
 have hR2 : Row w3 w.heap.size g2 32 32 (X.map B) := by rw [HLX.out]; have := hr2.below hb3; rw [HL12.out.1] at this; exact this
 have hR3 : Row w3 w2.heap.size g3 32 32 (Y.map B) := by rw [HLY.out]; have := hr3; rw [HL12.out.2] at this; exact this
 have hs2 := hb2.size
 have hbw : Below w.heap.size w w3 := hb2.trans (hb3.mono hs2)
 have hl2 := hR2.lt
 have hl3 := hR3.lt
 have HC : Hid (∀ j, j < 32 -> w3.cell? ⟨g2, j, none⟩ = some (.int .u8 ((X.getD j 0).toNat : Int)) /\ w3.cell? ⟨g3, j, none⟩ = some (.int .u8 ((Y.getD j 0).toNat : Int))) := fun j hj => ⟨row_b hR2 j hj, row_b hR3 j hj⟩
 clear hR2 hR3 hr2 hr3 hb2 hb3
 go_loopw [6] (fun t wr => ∃ k : Nat, k <= 32 /\ t = .int .i64 (k : Int) /\ Hid (Op.bytesLess Y X = Op.bytesLess (Y.drop k) (X.drop k)) /\ Below w3.heap.size w3 wr) (fun t _ => 32 - (intOf t).toNat)
 case atStart => exact ⟨0, by omega, rfl, rfl, Below.refl _ _⟩
 case round =>
  obtain ⟨k, hk, rfl, HL, hb⟩ := hrel
  by_cases hlt : k < 32
  · have c2 := (hb.cell (p := ⟨g2, k, none⟩) hl2).trans (HC.out k hlt).1
    have c3 := (hb.cell (p := ⟨g3, k, none⟩) hl3).trans (HC.out k hlt).2
    have HE := less_eq Y X k (by omega) (by omega)
    have HN := less_ne Y X k (by omega) (by omega)
    obtain ⟨x, hx⟩ : ∃ x, X.getD k 0 = x := ⟨_, rfl⟩
    obtain ⟨y, hy⟩ : ∃ y, Y.getD k 0 = y := ⟨_, rfl⟩
    rw [hx] at c2 HE HN
    rw [hy] at c3 HE HN
    clear hx hy
    have z0 : (0 : Int) <= (k : Int) := by omega
    have z1 : (k : Int) < 32 := by omega
    by_cases hxy : y = x
    · have c0 : ((x.toNat : Int) != (y.toNat : Int)) = false := by rw [hxy]; simp
      have HE' : Hid (Op.bytesLess Y X = Op.bytesLess (Y.drop (k + 1)) (X.drop (k + 1))) := HL.out.trans (HE hxy)
      clear HE HN hxy
      go_wp2_with fail
      go_region_held3 (fun w' => w'.cell? ⟨g2, k, none⟩ = some (.int .u8 (x.toNat : Int)) /\ w'.cell? ⟨g3, k, none⟩ = some (.int .u8 (y.toNat : Int))) (exact ⟨c2, c3⟩) (fail)
      go_wp2_with fail
      go_roundw
      case rel => exact ⟨k + 1, by omega, by go_num, HE', hb.drew⟩
      case measure => simp [intOf]; omega
    · have c0 : ((x.toNat : Int) != (y.toNat : Int)) = true := by
       rw [bne_iff_ne]; exact fun h => hxy (UInt8.toNat_inj.1 (by omega))
      have HN' : Hid (Op.bytesLess Y X = decide (y.toNat < x.toNat)) := (HL.out.trans (HN hxy)).trans (by simp)
      clear HE HN hxy
      go_wp2_with fail
      go_region_held3 (fun w' => w'.cell? ⟨g2, k, none⟩ = some (.int .u8 (x.toNat : Int)) /\ w'.cell? ⟨g3, k, none⟩ = some (.int .u8 (y.toNat : Int))) (exact ⟨c2, c3⟩) (fail)
      go_wp2_with fail
      go_region_held3 (fun w' => w'.cell? ⟨g2, k, none⟩ = some (.int .u8 (x.toNat : Int)) /\ w'.cell? ⟨g3, k, none⟩ = some (.int .u8 (y.toNat : Int))) (exact ⟨c2, c3⟩) (fail)
      go_wp2
      go_ret
      exact ⟨by rw [HN'.out]; rfl, hbw.trans ((hb.mono (hbw.size)).drew.drew)⟩
  · obtain rfl : k = 32 := by omega
    have HN' : Hid (Op.bytesLess Y X = false) := by
     show Op.bytesLess Y X = false
     rw [HL.out, List.drop_of_length_le (by omega), List.drop_of_length_le (by omega)]; rfl
    go_wp2
    go_ret
    exact ⟨by rw [HN'.out]; rfl, hbw.trans (hb.mono (hbw.size))⟩
theorem size33 : (prog.info? 131).map (·.size) = some 33 := by kernel_rfl
theorem info5' : (prog.info? 5).map (fun i => (i.zero, i.size, i.bytes)) = some (some (.int .u8 0), 1, 1) := by kernel_rfl
def zerosR : List Value := (List.replicate 32 (0 : UInt8)).map B ++ [Value.string ⟨#[]⟩]
theorem allocR (w : World) : (Instr.alloc 131 true (.tuple #[])).run prog w = .ok (.pointer (some ⟨w.heap.size, 0, none⟩)) (w.alloc (.cells zerosR.toArray 131)) := by kernel_rfl
theorem built32 (x0 x1 x2 x3 x4 x5 x6 x7 x8 x9 x10 x11 x12 x13 x14 x15 x16 x17 x18 x19 x20 x21 x22 x23 x24 x25 x26 x27 x28 x29 x30 x31 : UInt8) (s : ByteArray) : prog.built 131 [(0, .agg ([x0, x1, x2, x3, x4, x5, x6, x7, x8, x9, x10, x11, x12, x13, x14, x15, x16, x17, x18, x19, x20, x21, x22, x23, x24, x25, x26, x27, x28, x29, x30, x31].map B).toArray), (1, .string s)] = some (([x0, x1, x2, x3, x4, x5, x6, x7, x8, x9, x10, x11, x12, x13, x14, x15, x16, x17, x18, x19, x20, x21, x22, x23, x24, x25, x26, x27, x28, x29, x30, x31].map B ++ [Value.string s]).toArray) := by kernel_rfl
theorem built_rank (X : List UInt8) (h : X.length = 32) (s : ByteArray) : prog.built 131 [(0, .agg (X.map B).toArray), (1, .string s)] = some ((X.map B ++ [Value.string s]).toArray) := by
 match X, h with
 | [x0, x1, x2, x3, x4, x5, x6, x7, x8, x9, x10, x11, x12, x13, x14, x15, x16, x17, x18, x19, x20, x21, x22, x23, x24, x25, x26, x27, x28, x29, x30, x31], _ => exact built32 x0 x1 x2 x3 x4 x5 x6 x7 x8 x9 x10 x11 x12 x13 x14 x15 x16 x17 x18 x19 x20 x21 x22 x23 x24 x25 x26 x27 x28 x29 x30 x31 s
theorem rank_any (s : ByteArray) (w : World) (hs : s.size <= 1048576)
 (hK : ∀ j, j < 64 -> w.cell? ⟨0, j, none⟩ = some (.int .u32 ((kTab.getD j 0).toNat : Int))) :
 Calls prog 158 #[Value.string s] w fun e w' => e = .returned (.agg ((sha s.data.toList).map B ++ [Value.string s]).toArray) /\ Below w.heap.size w w' := by
 have hl0 : 0 < w.heap.size := World.block_lt_of_cell? w _ (hK 0 (by omega))
 have HH : Hid (∀ w' : World, Below w.heap.size w w' -> Calls prog 83 #[Value.string s] w' fun e w'' => e = .returned (.agg ((sha s.data.toList).map B).toArray) /\ Below w'.heap.size w' w'') := fun w' hb => hash_any s w' hs (fun j hj => (hb.cell (by exact hl0)).trans (hK j hj))
 clear hK
 have hln : (sha s.data.toList).length = 32 := by unfold sha; rw [outTo_length]
 obtain ⟨M, hM⟩ : ∃ M, sha s.data.toList = M := ⟨_, rfl⟩
 have HM : Hid (sha s.data.toList = M) := hM
 rw [hM] at HH hln
 clear hM
 have h1c : ∀ v ∈ M.map B ++ [Value.string s], v.oneCell' = true := by
  intro v hv
  rcases List.mem_append.1 hv with hv | hv
  · obtain ⟨x, _, rfl⟩ := List.mem_map.1 hv
    rfl
  · rw [List.mem_singleton] at hv; subst hv; rfl
 have hl33 : (M.map B ++ [Value.string s]).length = 33 := by rw [List.length_append, List.length_map, hln]; rfl
 have HB := built_rank M hln s
 obtain ⟨L, hL⟩ : ∃ L, M.map B ++ [Value.string s] = L := ⟨_, rfl⟩
 have HL : Hid (M.map B ++ [Value.string s] = L) := hL
 rw [hL] at h1c hl33 HB
 obtain ⟨C, hC⟩ : ∃ C, (M.map B).toArray = C := ⟨_, rfl⟩
 rw [hC] at HB HH
 have HB' : Hid (prog.built 131 [(0, .agg C), (1, .string s)] = some L.toArray) := HB
 clear hL hC HB
 go_enter func158, ntmps158
 go_wp2_with (first | (refine wpList_alloc_row _ rfl (some 2) rfl 131 131 rfl zerosR allocR ?_; intro g2 w2 hr2 hb2) | (go_at_call 83; refine (HH.out _ hb2).mono ?_; rintro e w3 ⟨rfl, hb3⟩) | (refine wpList_build_to _ rfl 131 #[(0, .tmp 4), (1, .tmp 5)] rfl L.toArray HB'.out ?_) | (refine wpList_store_whole _ rfl rfl 131 (.tmp 2) (.tmp 6) rfl w.heap.size g2 33 zerosR L rfl rfl (hr2.below hb3) hl33 size33 h1c ?_; intro w5 hR5 hg5))
 refine ret_any _ (p := 2) (ty := 131) rfl w.heap.size g2 33 33 L rfl hR5 Tryz.underlying131 rfl size33 rfl ?_
 refine ⟨?_, ?_⟩
 · rw [HM.out, HL.out]
 · exact (hb2.trans (hb3.mono hb2.size)).trans (below_of_grown hg5 (by have := hr2.ge; omega) (by have := hb2.size; have := hb3.size; omega))
def rk (X Y a b : List UInt8) : Bool := if X = Y then Op.bytesLess a b else Op.bytesLess Y X
theorem cell_last {w : World} {base g n cap : Nat} {xs : List Value} {v : Value} {m : Nat} (h : Row w base g n cap (xs ++ [v])) (hm : xs.length = m) : w.cell? ⟨g, m, none⟩ = some v := by
 subst hm
 have hn := h.len
 rw [List.length_append] at hn
 rw [h.cell _ (by simp at hn; omega), List.getElem?_append_right (Nat.le_refl _), Nat.sub_self]; rfl
theorem above_any (X Y : List UInt8) (hX : X.length = 32) (hY : Y.length = 32) (a b : ByteArray) (w : World) :
 Calls prog 142 #[.agg (X.map B ++ [Value.string a]).toArray, .agg (Y.map B ++ [Value.string b]).toArray] w fun e w' => e = .returned (.bool (rk X Y a.data.toList b.data.toList)) /\ Below w.heap.size w w' := by
 obtain ⟨i0, hi0, hz0, hz1, hz2⟩ := info_parts info5'
 obtain ⟨LX, hLX⟩ : ∃ L, X.map B ++ [Value.string a] = L := ⟨_, rfl⟩
 obtain ⟨LY, hLY⟩ : ∃ L, Y.map B ++ [Value.string b] = L := ⟨_, rfl⟩
 have HLX : Hid (X.map B ++ [Value.string a] = LX) := hLX
 have HLY : Hid (Y.map B ++ [Value.string b] = LY) := hLY
 have l1 : LX.length = 33 := by rw [<- hLX, List.length_append, List.length_map, hX]; rfl
 have l2 : LY.length = 33 := by rw [<- hLY, List.length_append, List.length_map, hY]; rfl
 rw [hLX, hLY]
 have HL12 : Hid (LX.length = 33 /\ LY.length = 33) := ⟨l1, l2⟩
 clear hLX hLY l1 l2
 have hsz : (prog.info? 116).map (·.size) = some (X.map B).length := by rw [size32, List.length_map, hX]
 have hsz2 : (prog.info? 116).map (·.size) = some (Y.map B).length := by rw [size32, List.length_map, hY]
 have HSZ : Hid ((prog.info? 116).map (·.size) = some (X.map B).length /\ (prog.info? 116).map (·.size) = some (Y.map B).length) := ⟨hsz, hsz2⟩
 clear hsz hsz2
 by_cases hXY : X = Y
 · have HD : Hid (decide (X = Y) = true) := decide_eq_true hXY
   have HR : Hid (rk X Y a.data.toList b.data.toList = Op.bytesLess a.data.toList b.data.toList) := if_pos hXY
   clear hXY
   go_enter func142, ntmps142
   go_wp2_with (first | (refine wpList_box_row _ rfl (some 2) rfl 131 (.tmp 0) rfl LX rfl ?_; intro g2 w2 hr2 hb2) | (refine wpList_box_row _ rfl (some 3) rfl 131 (.tmp 1) rfl LY rfl ?_; intro g3 w3 hr3 hb3; have hR2 : Row w3 w.heap.size g2 33 33 (X.map B ++ [Value.string a]) := (by rw [HLX.out]; have := hr2.below hb3; rw [HL12.out.1] at this; exact this); have hR3 : Row w3 w2.heap.size g3 33 33 (Y.map B ++ [Value.string b]) := (by rw [HLY.out]; have := hr3; rw [HL12.out.2] at this; exact this); have cA : w3.cell? ⟨g2, 32, none⟩ = some (.string a) := cell_last hR2 (by rw [List.length_map, hX]); have cB : w3.cell? ⟨g3, 32, none⟩ = some (.string b) := cell_last hR3 (by rw [List.length_map, hY])) | (refine wpList_load_mid rfl 116 (.tmp 5) rfl g2 0 rfl (X.map B) _ (Row.prefix hR2) Tryz.underlying116 rfl HSZ.out.1 ?_) | (refine wpList_load_mid rfl 116 (.tmp 7) rfl g3 0 rfl (Y.map B) _ (Row.prefix hR3) Tryz.underlying116 rfl HSZ.out.2 ?_) | (refine wpList_eql_b _ rfl 116 116 (.tmp 6) (.tmp 8) rfl X Y 32 5 i0 rfl rfl Tryz.underlying116 Tryz.underlying5 hi0 cells5 hX hY (guard28 _ _ _ _ _) ?_; rw [HD.out]) | (refine wpList_load_mid rfl 116 (.tmp 15) rfl g2 0 rfl (X.map B) _ (Row.prefix hR2) Tryz.underlying116 rfl HSZ.out.1 ?_) | (refine wpList_load_mid rfl 116 (.tmp 17) rfl g3 0 rfl (Y.map B) _ (Row.prefix hR3) Tryz.underlying116 rfl HSZ.out.2 ?_) | fail)
   go_ret
   exact ⟨by rw [HR.out, <- ByteArray.toList_eq, <- ByteArray.toList_eq]; rfl, hb2.trans (hb3.mono hb2.size)⟩
 · have HD : Hid (decide (X = Y) = false) := decide_eq_false hXY
   have HR : Hid (rk X Y a.data.toList b.data.toList = Op.bytesLess Y X) := if_neg hXY
   clear hXY
   go_enter func142, ntmps142
   go_wp2_with (first | (refine wpList_box_row _ rfl (some 2) rfl 131 (.tmp 0) rfl LX rfl ?_; intro g2 w2 hr2 hb2) | (refine wpList_box_row _ rfl (some 3) rfl 131 (.tmp 1) rfl LY rfl ?_; intro g3 w3 hr3 hb3; have hR2 : Row w3 w.heap.size g2 33 33 (X.map B ++ [Value.string a]) := (by rw [HLX.out]; have := hr2.below hb3; rw [HL12.out.1] at this; exact this); have hR3 : Row w3 w2.heap.size g3 33 33 (Y.map B ++ [Value.string b]) := (by rw [HLY.out]; have := hr3; rw [HL12.out.2] at this; exact this); have cA : w3.cell? ⟨g2, 32, none⟩ = some (.string a) := cell_last hR2 (by rw [List.length_map, hX]); have cB : w3.cell? ⟨g3, 32, none⟩ = some (.string b) := cell_last hR3 (by rw [List.length_map, hY])) | (refine wpList_load_mid rfl 116 (.tmp 5) rfl g2 0 rfl (X.map B) _ (Row.prefix hR2) Tryz.underlying116 rfl HSZ.out.1 ?_) | (refine wpList_load_mid rfl 116 (.tmp 7) rfl g3 0 rfl (Y.map B) _ (Row.prefix hR3) Tryz.underlying116 rfl HSZ.out.2 ?_) | (refine wpList_eql_b _ rfl 116 116 (.tmp 6) (.tmp 8) rfl X Y 32 5 i0 rfl rfl Tryz.underlying116 Tryz.underlying5 hi0 cells5 hX hY (guard28 _ _ _ _ _) ?_; rw [HD.out]) | (refine wpList_load_mid rfl 116 (.tmp 15) rfl g2 0 rfl (X.map B) _ (Row.prefix hR2) Tryz.underlying116 rfl HSZ.out.1 ?_) | (refine wpList_load_mid rfl 116 (.tmp 17) rfl g3 0 rfl (Y.map B) _ (Row.prefix hR3) Tryz.underlying116 rfl HSZ.out.2 ?_) | fail)
   refine (greater_any X Y hX hY _).mono ?_
   rintro e w4 ⟨rfl, hb4⟩
   go_wp2
   go_ret
   exact ⟨by rw [HR.out]; rfl, (hb2.trans (hb3.mono hb2.size)).trans (hb4.mono (by have := hb2.size; have := hb3.size; omega))⟩
def rkL (k : ByteArray) : List Value := (sha k.data.toList).map B ++ [Value.string k]
theorem rkL_len (k : ByteArray) : (rkL k).length = 33 := by unfold rkL; rw [List.length_append, List.length_map]; unfold sha; rw [outTo_length]; rfl
theorem rkL_last (k : ByteArray) : (rkL k)[32]? = some (.string k) := by
 unfold rkL
 have : ((sha k.data.toList).map B).length = 32 := by rw [List.length_map]; unfold sha; rw [outTo_length]
 rw [List.getElem?_append_right (by omega), this]; rfl
def RKb (g : Nat) (k : ByteArray) (w : World) : Prop := w.heap[g]? = some (.cells (rkL k).toArray 131)
theorem RKb.c32 {g : Nat} {k : ByteArray} {w : World} (h : RKb g k w) : w.cell? ⟨g, 32, none⟩ = some (.string k) := (ZC h 32).trans (by simpa using rkL_last k)
theorem RKb.range {g : Nat} {k : ByteArray} {w : World} (h : RKb g k w) : w.rangeAt g 0 (rkL k) := fun j u hj => (ZC h (0 + j)).trans (by simpa using hj)
theorem leftOf_any (over under key : ByteArray) (par : Option Addr) (w : World) : Calls prog 182 #[.agg #[.string over, .string under, .pointer par], .agg (rkL key).toArray] w fun e w' => (∃ g, e = .returned (.agg #[.string over, .string key, .pointer (some ⟨g, 0, none⟩)]) /\ w.heap.size <= g /\ RKb g key w') /\ Below w.heap.size w w' := by
 obtain ⟨W, hW⟩ : ∃ W, (w.alloc (.cells #[.string over, .string under, .pointer par] 164)).alloc (.cells (rkL key).toArray 131) = W := ⟨_, rfl⟩
 have hb : Below w.heap.size w W := by rw [<- hW]; exact ((Below.refl _ _).alloc (Nat.le_refl _) _).alloc (by simp) _
 have n0 : W.heap[w.heap.size]? = some (.cells #[.string over, .string under, .pointer par] 164) := by rw [<- hW, Below.heap_alloc _ _ _ (by simp)]; exact heap_alloc_new w _
 have n1 : W.heap[w.heap.size + 1]? = some (.cells (rkL key).toArray 131) := by
  have := heap_alloc_new (w.alloc (.cells #[.string over, .string under, .pointer par] 164)) (.cells (rkL key).toArray 131)
  rw [<- hW]; simpa using this
 have hsz : W.heap.size = w.heap.size + 1 + 1 := by rw [<- hW]; simp
 have ca : W.cell? ⟨w.heap.size, 0, none⟩ = some (.string over) := ZC n0 0
 have cb : W.cell? ⟨w.heap.size + 1, 32, none⟩ = some (.string key) := RKb.c32 n1
 have hbz : Below w.heap.size w (W.alloc (.cells #[.string over, .string key, .pointer (some ⟨w.heap.size + 1, 0, none⟩)] 164)) := hb.alloc hb.size _
 have nz : RKb (w.heap.size + 1) key (W.alloc (.cells #[.string over, .string key, .pointer (some ⟨w.heap.size + 1, 0, none⟩)] 164)) := (Below.heap_alloc W _ _ (by omega)).trans n1
 have nR := heap_alloc_new W (.cells #[.string over, .string key, .pointer (some ⟨w.heap.size + 1, 0, none⟩)] 164)
 rw [hsz] at nR
 generalize (rkL key).toArray = cs at hW n1
 obtain ⟨ga, hga⟩ : ∃ ga, w.heap.size = ga := ⟨_, rfl⟩
 go_enter func182, ntmps182
 rw [hga] at ca cb hsz hbz nz nR
 have q0 := ZC nR 0
 have q1 := ZC nR 1
 have q2 := ZC nR 2
 go_wp2_with fail
 exact bodyPost_ret (v := .agg #[.string over, .string key, .pointer (some ⟨ga + 1, 0, none⟩)]) (by simp [results, Tryz.results182, go_sem, q0, q1, q2]) rfl ⟨⟨ga + 1, rfl, by omega, nz⟩, by rw [hga]; exact hbz⟩
theorem rightOf_any (over under key : ByteArray) (par : Option Addr) (w : World) : Calls prog 183 #[.agg #[.string over, .string under, .pointer par], .agg (rkL key).toArray] w fun e w' => (∃ g, e = .returned (.agg #[.string key, .string under, .pointer (some ⟨g, 0, none⟩)]) /\ w.heap.size <= g /\ RKb g key w') /\ Below w.heap.size w w' := by
 obtain ⟨W, hW⟩ : ∃ W, (w.alloc (.cells #[.string over, .string under, .pointer par] 164)).alloc (.cells (rkL key).toArray 131) = W := ⟨_, rfl⟩
 have hb : Below w.heap.size w W := by rw [<- hW]; exact ((Below.refl _ _).alloc (Nat.le_refl _) _).alloc (by simp) _
 have n0 : W.heap[w.heap.size]? = some (.cells #[.string over, .string under, .pointer par] 164) := by rw [<- hW, Below.heap_alloc _ _ _ (by simp)]; exact heap_alloc_new w _
 have n1 : W.heap[w.heap.size + 1]? = some (.cells (rkL key).toArray 131) := by
  have := heap_alloc_new (w.alloc (.cells #[.string over, .string under, .pointer par] 164)) (.cells (rkL key).toArray 131)
  rw [<- hW]; simpa using this
 have hsz : W.heap.size = w.heap.size + 1 + 1 := by rw [<- hW]; simp
 have ca : W.cell? ⟨w.heap.size, 1, none⟩ = some (.string under) := ZC n0 1
 have cb : W.cell? ⟨w.heap.size + 1, 32, none⟩ = some (.string key) := RKb.c32 n1
 have hbz : Below w.heap.size w (W.alloc (.cells #[.string key, .string under, .pointer (some ⟨w.heap.size + 1, 0, none⟩)] 164)) := hb.alloc hb.size _
 have nz : RKb (w.heap.size + 1) key (W.alloc (.cells #[.string key, .string under, .pointer (some ⟨w.heap.size + 1, 0, none⟩)] 164)) := (Below.heap_alloc W _ _ (by omega)).trans n1
 have nR := heap_alloc_new W (.cells #[.string key, .string under, .pointer (some ⟨w.heap.size + 1, 0, none⟩)] 164)
 rw [hsz] at nR
 generalize (rkL key).toArray = cs at hW n1
 obtain ⟨ga, hga⟩ : ∃ ga, w.heap.size = ga := ⟨_, rfl⟩
 go_enter func183, ntmps183
 rw [hga] at ca cb hsz hbz nz nR
 have q0 := ZC nR 0
 have q1 := ZC nR 1
 have q2 := ZC nR 2
 go_wp2_with fail
 exact bodyPost_ret (v := .agg #[.string key, .string under, .pointer (some ⟨ga + 1, 0, none⟩)]) (by simp [results, Tryz.results183, go_sem, q0, q1, q2]) rfl ⟨⟨ga + 1, rfl, by omega, nz⟩, by rw [hga]; exact hbz⟩
theorem lessB_tri (a b : ByteArray) : lessB a b = !(lessB b a || (b.toList == a.toList)) := less_tri _ _
theorem canW_eq (over under lo hi : ByteArray) : canW over under lo hi = (if (!hi.toList.isEmpty && ((Op.bytesLess hi.toList lo.toList || (hi.toList == lo.toList)) || (Op.bytesLess hi.toList over.toList || (hi.toList == over.toList)))) = true then false else (under.toList.isEmpty || (!Op.bytesLess under.toList lo.toList && !(under.toList == lo.toList)))) := by
 unfold canW
 rw [lessB_tri lo hi, lessB_tri over hi, lessB_tri lo under, emp_iff, emp_iff]
 unfold lessB
 cases emp hi <;> cases emp under <;> cases Op.bytesLess hi.toList lo.toList <;> cases (hi.toList == lo.toList) <;> cases Op.bytesLess hi.toList over.toList <;> cases (hi.toList == over.toList) <;> simp
theorem hasW_eq (lo hi key : ByteArray) : hasW lo hi key = ((Op.bytesLess lo.toList key.toList || (lo.toList == key.toList)) && (hi.toList.isEmpty || Op.bytesLess key.toList hi.toList)) := by
 unfold hasW
 rw [lessB_tri key lo, emp_iff]
 unfold lessB
 simp
theorem can_any (lo hi over under : ByteArray) (par : Option Addr) (w : World) : Calls prog 154 #[.agg #[.string lo, .string hi], .agg #[.string over, .string under, .pointer par]] w fun e w' => e = .returned (.bool (canW over under lo hi)) /\ Below w.heap.size w w' := by
 have hb : Below w.heap.size w ((w.alloc (.cells #[.string lo, .string hi] 109)).alloc (.cells #[.string over, .string under, .pointer par] 164)) := ((Below.refl _ _).alloc (Nat.le_refl _) _).alloc (by simp) _
 have HR := canW_eq over under lo hi
 cases h1 : hi.toList.isEmpty with
 | false =>
  cases a1 : Op.bytesLess hi.toList lo.toList with
  | false =>
   cases a2 : (hi.toList == lo.toList) with
   | false =>
    cases a3 : Op.bytesLess hi.toList over.toList with
    | false =>
     cases a4 : (hi.toList == over.toList) with
     | false =>
      cases h2 : under.toList.isEmpty with
      | false =>
       rw [h1, a1, a2, a3, a4, h2] at HR
       have HR2 : Hid _ := HR
       clear HR
       go_enter func154, ntmps154
       go_wp2_with fail
       go_ret
       exact ⟨by rw [HR2.out]; rfl, hb⟩
      | true =>
       rw [h1, a1, a2, a3, a4, h2] at HR
       have HR2 : Hid _ := HR
       clear HR
       go_enter func154, ntmps154
       go_wp2_with fail
       go_ret
       exact ⟨by rw [HR2.out]; rfl, hb⟩
     | true =>
      rw [h1, a1, a2, a3, a4] at HR
      have HR2 : Hid _ := HR
      clear HR
      go_enter func154, ntmps154
      go_wp2_with fail
      go_ret
      exact ⟨by rw [HR2.out]; rfl, hb⟩
    | true =>
     rw [h1, a1, a2, a3] at HR
     have HR2 : Hid _ := HR
     clear HR
     go_enter func154, ntmps154
     go_wp2_with fail
     go_ret
     exact ⟨by rw [HR2.out]; rfl, hb⟩
   | true =>
    rw [h1, a1, a2] at HR
    have HR2 : Hid _ := HR
    clear HR
    go_enter func154, ntmps154
    go_wp2_with fail
    go_ret
    exact ⟨by rw [HR2.out]; rfl, hb⟩
  | true =>
   rw [h1, a1] at HR
   have HR2 : Hid _ := HR
   clear HR
   go_enter func154, ntmps154
   go_wp2_with fail
   go_ret
   exact ⟨by rw [HR2.out]; rfl, hb⟩
 | true =>
  cases h2 : under.toList.isEmpty with
  | false =>
   rw [h1, h2] at HR
   have HR2 : Hid _ := HR
   clear HR
   go_enter func154, ntmps154
   go_wp2_with fail
   go_ret
   exact ⟨by rw [HR2.out]; rfl, hb⟩
  | true =>
   rw [h1, h2] at HR
   have HR2 : Hid _ := HR
   clear HR
   go_enter func154, ntmps154
   go_wp2_with fail
   go_ret
   exact ⟨by rw [HR2.out]; rfl, hb⟩
theorem has_any (lo hi key : ByteArray) (w : World) : Calls prog 121 #[.agg #[.string lo, .string hi], .string key] w fun e w' => e = .returned (.bool (hasW lo hi key)) /\ Below w.heap.size w w' := by
 have hb : Below w.heap.size w (w.alloc (.cells #[.string lo, .string hi] 109)) := (Below.refl _ _).alloc (Nat.le_refl _) _
 have HR := hasW_eq lo hi key
 cases a1 : Op.bytesLess lo.toList key.toList with
 | false =>
  cases a2 : (lo.toList == key.toList) with
  | false =>
   rw [a1, a2] at HR
   have HR2 : Hid _ := HR
   clear HR
   go_enter func121, ntmps121
   go_wp2_with fail
   go_ret
   exact ⟨by rw [HR2.out]; rfl, hb⟩
  | true =>
   cases h1 : hi.toList.isEmpty with
   | false =>
    rw [a1, a2, h1] at HR
    have HR2 : Hid _ := HR
    clear HR
    go_enter func121, ntmps121
    go_wp2_with fail
    go_ret
    exact ⟨by rw [HR2.out]; rfl, hb⟩
   | true =>
    rw [a1, a2, h1] at HR
    have HR2 : Hid _ := HR
    clear HR
    go_enter func121, ntmps121
    go_wp2_with fail
    go_ret
    exact ⟨by rw [HR2.out]; rfl, hb⟩
 | true =>
  cases h1 : hi.toList.isEmpty with
  | false =>
   rw [a1, h1] at HR
   have HR2 : Hid _ := HR
   clear HR
   go_enter func121, ntmps121
   go_wp2_with fail
   go_ret
   exact ⟨by rw [HR2.out]; rfl, hb⟩
  | true =>
   rw [a1, h1] at HR
   have HR2 : Hid _ := HR
   clear HR
   go_enter func121, ntmps121
   go_wp2_with fail
   go_ret
   exact ⟨by rw [HR2.out]; rfl, hb⟩
end Go.Proofs.YtfmpjlpakldheaaGreatDoor
