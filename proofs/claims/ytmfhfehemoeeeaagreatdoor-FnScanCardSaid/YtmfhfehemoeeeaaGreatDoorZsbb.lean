import Derived.Test.YtmfhfehemoeeeaaGreatDoorZsaz
import Derived.ChangeKeysEq
import Derived.Test.YtmfhfehemoeeeaaGreatDoorZsaw
import Derived.Test.YtmfhfehemoeeeaaGreatDoorZsba
import Derived.Deep.QuietTactic
import Derived.BigQuiet
import Derived.Test.YtmfhfehemoeeeaaGreatDoorZsac
import Derived.Laws.MakeOwn
import Derived.Laws.OwnMore
import Derived.Test.YtmfhfehemoeeeaaGreatDoorZsaf
set_option maxRecDepth 100000
set_option maxHeartbeats 400000
namespace Go.Proofs.Sha
open Go Go.RowKit

section
variable {P : Program} (w : World)

theorem eqItems_b (dp : Nat) (X Y : List UInt8) (e : TypeId) (he : P.underlying e = some (.int .u8)) (hc : P.cellsOf e = 1) (n : Nat) (hX : X.length = n) (hY : Y.length = n) : ∀ is : List Nat, (∀ i ∈ is, i < n) →
    ∃ r : Bool, (Op.eqItems (dp + 1) e (P.cellsOf e) (X.map B).toArray (Y.map B).toArray is).run P w = .ok r w ∧ (r = true ↔ ∀ i ∈ is, X.getD i 0 = Y.getD i 0)
  | [], _ => ⟨true, by simp [Op.eqItems], by simp⟩
  | i :: is, h => by
    obtain ⟨r, hr, hiff⟩ := eqItems_b dp X Y e he hc n hX hY is (fun j hj => h j (List.mem_cons_of_mem _ hj))
    have hi : i < n := h i (List.mem_cons_self ..)
    have hagg : (isAgg e).run P w = .ok false w := by
      unfold isAgg
      rw [Sem.run_bind, run_underlying he w]; rfl
    have hpart : ∀ L : List UInt8, L.length = n → (part e (L.map B).toArray (i * P.cellsOf e)).run P w = .ok (.int .u8 ((L.getD i 0).toNat : Int)) w := fun L hL => by
      unfold part
      rw [Sem.run_bind, hagg, hc, Nat.mul_one]
      have : (L.map B).toArray[i]? = some (.int .u8 ((L.getD i 0).toNat : Int)) := by
        rw [List.getElem?_toArray, List.getElem?_map, List.getD_eq_getElem?_getD, List.getElem?_eq_getElem (by omega)]; rfl
      rw [this]; rfl
    have heq : ∀ a b : Int, (Op.equalIn (dp + 1) e (.int .u8 a) (.int .u8 b)).run P w = .ok (a == b) w := fun a b => by
      simp [Op.equalIn, run_underlying he]
    have hne : ∀ a b : UInt8, ((a.toNat : Int) == (b.toNat : Int)) = decide (a = b) := fun a b => by
      rw [Bool.eq_iff_iff]
      simp only [beq_iff_eq, decide_eq_true_eq]
      exact ⟨fun h => UInt8.toNat_inj.1 (by omega), fun h => by rw [h]⟩
    rw [Op.eqItems]
    simp only [Sem.run_bind, hpart X hX, hpart Y hY, heq, hne, Result.andThen_ok]
    by_cases hxy : X.getD i 0 = Y.getD i 0
    · refine ⟨r, by rw [decide_eq_true hxy]; simpa using hr, ?_⟩
      rw [hiff]
      exact ⟨fun g j hj => by rcases List.mem_cons.1 hj with rfl | hj; exact hxy; exact g j hj, fun g j hj => g j (List.mem_cons_of_mem _ hj)⟩
    · refine ⟨false, by rw [decide_eq_false hxy]; simp, ?_⟩
      exact ⟨fun h => (by cases h), fun g => absurd (g i (List.mem_cons_self ..)) hxy⟩

theorem run_eql_b (X Y : List UInt8) (t e : TypeId) (n : Nat) (i : TypeInfo) (hu : P.underlying t = some (.array n e)) (he : P.underlying e = some (.int .u8)) (hi : P.info? e = some i) (hc : P.cellsOf e = 1) (hX : X.length = n) (hY : Y.length = n) :
    (binOp .eql t (.agg (X.map B).toArray) (.agg (Y.map B).toArray)).run P w = .ok (.bool (decide (X = Y))) w := by
  obtain ⟨r, hr, hiff⟩ := eqItems_b w 9998 X Y e he hc n hX hY (List.range n) (fun j hj => List.mem_range.1 hj)
  rw [run_eql_struct, run_equalIn_array w 9999 _ _ hu hi, hr]
  have : r = decide (X = Y) := by
    rw [Bool.eq_iff_iff, hiff, decide_eq_true_eq]
    constructor
    · intro g
      apply List.ext_getElem (by omega)
      intro j h1 h2
      have := g j (List.mem_range.2 (by omega))
      simpa [List.getD_eq_getElem?_getD, List.getElem?_eq_getElem h1, List.getElem?_eq_getElem h2] using this
    · intro e j _; rw [e]
  rw [this]; rfl
end

/-- The order of texts, from place i on. -/
theorem less_eq (p q : List UInt8) (i : Nat) (h1 : i < p.length) (h2 : i < q.length) (he : p.getD i 0 = q.getD i 0) : Op.bytesLess (p.drop i) (q.drop i) = Op.bytesLess (p.drop (i + 1)) (q.drop (i + 1)) := by
  rw [List.drop_eq_getElem_cons h1, List.drop_eq_getElem_cons h2, Op.bytesLess]
  have e1 : p[i] = q[i] := by simpa [List.getD_eq_getElem?_getD, List.getElem?_eq_getElem h1, List.getElem?_eq_getElem h2] using he
  rw [e1]; simp
theorem less_ne (p q : List UInt8) (i : Nat) (h1 : i < p.length) (h2 : i < q.length) (he : p.getD i 0 ≠ q.getD i 0) : Op.bytesLess (p.drop i) (q.drop i) = decide (((p.getD i 0).toNat : Int) < ((q.getD i 0).toNat : Int)) := by
  rw [List.drop_eq_getElem_cons h1, List.drop_eq_getElem_cons h2, Op.bytesLess]
  have e1 : p.getD i 0 = p[i] := by simp [List.getD_eq_getElem?_getD, List.getElem?_eq_getElem h1]
  have e2 : q.getD i 0 = q[i] := by simp [List.getD_eq_getElem?_getD, List.getElem?_eq_getElem h2]
  rw [e1, e2] at he
  rw [e1, e2]
  have e3 : (p[i] == q[i]) = false := by rw [beq_eq_false_iff_ne]; exact he
  rw [e3, Bool.false_and, Bool.or_false]
  rw [Bool.eq_iff_iff]; simp [UInt8.lt_iff_toNat_lt]
theorem less_end (p q : List UInt8) (i : Nat) (h : p.length ≤ i ∨ q.length ≤ i) (hi : i ≤ p.length) (hj : i ≤ q.length) : Op.bytesLess (p.drop i) (q.drop i) = decide ((p.length : Int) < (q.length : Int)) := by
  rcases Nat.lt_or_ge i q.length with hq | hq
  · have : p.drop i = [] := List.drop_of_length_le (by omega)
    rw [this, List.drop_eq_getElem_cons hq, Op.bytesLess]
    symm; simp; omega
  · have : q.drop i = [] := List.drop_of_length_le hq
    rw [this, Op.bytesLess]
    symm; simp; omega

end Go.Proofs.Sha
namespace Go.Proofs.YtmfhfehemoeeeaaGreatDoor
open Go.RowKit Go.Proofs.Sha

end Go.Proofs.YtmfhfehemoeeeaaGreatDoor
namespace Go.Proofs.Sha
open Go Go.RowKit
section
variable {P : Program} (w : World)
theorem wpList_eql_b {ops : Array Oper} {rest : List Oper} {o : Oper} {a : Act} {Q : Exit → Act → World → Prop} (hgd : o.guard = none) (t t' : TypeId) (x y : Operand) (ho : o.op = .binOp .eql t x y t') (X Y : List UInt8) (n : Nat) (e : TypeId) (i : TypeInfo)
    (hx : a.eval x = .agg (X.map B).toArray) (hy : a.eval y = .agg (Y.map B).toArray) (hu : P.underlying t = some (.array n e)) (he : P.underlying e = some (.int .u8)) (hi : P.info? e = some i) (hc : P.cellsOf e = 1) (hX : X.length = n) (hY : Y.length = n)
    (hguard : (eqGuard .eql t x y (.agg (X.map B).toArray) (.agg (Y.map B).toArray)).run P w = .ok () w)
    (h : wpList P ops Q rest (a.put o.dst (.bool (decide (X = Y)))) w) : wpList P ops Q (o :: rest) a w := by
  refine Go.Great.wpList_runTo hgd o.dst rfl (.bool (decide (X = Y))) w ?_ h
  unfold execOp
  simp only [ho, hx, hy, Sem.run_bind, hguard, run_eql_b w X Y t e n i hu he hi hc hX hY, Result.andThen_ok, Sem.run_pure]
end
end Go.Proofs.Sha

namespace Go.Proofs.YtmfhfehemoeeeaaGreatDoor
open Go.RowKit Go.Proofs.Sha
theorem cells5 : Tryz.prog.cellsOf 5 = 1 := by kernel_rfl
theorem guard28 (x y : Operand) (X Y : Array Value) (w : World) : (eqGuard .eql 123 x y (.agg X) (.agg Y)).run Tryz.prog w = .ok () w := by kernel_rfl

theorem greater_any (X Y : List UInt8) (hX : X.length = 32) (hY : Y.length = 32) (w : World) :
    Calls Tryz.prog 92 #[.agg (X.map B).toArray, .agg (Y.map B).toArray] w fun e w' => e = .returned (.bool (Op.bytesLess Y X)) ∧ Below w.heap.size w w' := by
  obtain ⟨LX, hLX⟩ : ∃ L, X.map B = L := ⟨_, rfl⟩
  obtain ⟨LY, hLY⟩ : ∃ L, Y.map B = L := ⟨_, rfl⟩
  have HLX : Hid (X.map B = LX) := hLX
  have HLY : Hid (Y.map B = LY) := hLY
  have l1 : LX.length = 32 := by rw [← hLX, List.length_map, hX]
  have l2 : LY.length = 32 := by rw [← hLY, List.length_map, hY]
  rw [hLX, hLY]
  have HL12 : Hid (LX.length = 32 ∧ LY.length = 32) := ⟨l1, l2⟩
  clear hLX hLY l1 l2
  go_enter Tryz.func92, Tryz.ntmps92
  go_wp2_with (first | (refine wpList_box_row _ rfl (some 2) rfl 123 (.tmp 0) rfl LX rfl ?_; intro g2 w2 hr2 hb2) | (refine wpList_box_row _ rfl (some 3) rfl 123 (.tmp 1) rfl LY rfl ?_; intro g3 w3 hr3 hb3))
  have hR2 : Row w3 w.heap.size g2 32 32 (X.map B) := by rw [HLX.out]; have := hr2.below hb3; rw [HL12.out.1] at this; exact this
  have hR3 : Row w3 w2.heap.size g3 32 32 (Y.map B) := by rw [HLY.out]; have := hr3; rw [HL12.out.2] at this; exact this
  have hs2 := hb2.size
  have hbw : Below w.heap.size w w3 := hb2.trans (hb3.mono hs2)
  have hl2 := hR2.lt
  have hl3 := hR3.lt
  have HC : Hid (∀ j, j < 32 → w3.cell? ⟨g2, j, none⟩ = some (.int .u8 ((X.getD j 0).toNat : Int)) ∧ w3.cell? ⟨g3, j, none⟩ = some (.int .u8 ((Y.getD j 0).toNat : Int))) := fun j hj => ⟨row_b hR2 j hj, row_b hR3 j hj⟩
  clear hR2 hR3 hr2 hr3 hb2 hb3
  go_loopw [6] (fun t wr => ∃ k : Nat, k ≤ 32 ∧ t = .int .i64 (k : Int) ∧ Hid (Op.bytesLess Y X = Op.bytesLess (Y.drop k) (X.drop k)) ∧ Below w3.heap.size w3 wr) (fun t _ => 32 - (intOf t).toNat)
  case atStart => exact ⟨0, by omega, rfl, rfl, Below.refl _ _⟩
  case round =>
    obtain ⟨k, hk, rfl, HL, hb⟩ := hrel
    by_cases hlt : k < 32
    · have c2 := (hb.cell (p := ⟨g2, k, none⟩) hl2).trans (HC.out k hlt).1
      have c3 := (hb.cell (p := ⟨g3, k, none⟩) hl3).trans (HC.out k hlt).2
      have HE := less_eq Y X k (by omega) (by omega)
      have HN := less_ne Y X k (by omega) (by omega)
      obtain ⟨x, hx⟩ : ∃ x, X.getD k 0 = x := ⟨_, rfl⟩
      obtain ⟨y, hy⟩ : ∃ y, Y.getD k 0 = y := ⟨_, rfl⟩
      rw [hx] at c2 HE HN
      rw [hy] at c3 HE HN
      clear hx hy
      have z0 : (0 : Int) ≤ (k : Int) := by omega
      have z1 : (k : Int) < 32 := by omega
      by_cases hxy : y = x
      · have c0 : ((x.toNat : Int) != (y.toNat : Int)) = false := by rw [hxy]; simp
        have HE' : Hid (Op.bytesLess Y X = Op.bytesLess (Y.drop (k + 1)) (X.drop (k + 1))) := HL.out.trans (HE hxy)
        clear HE HN hxy
        go_wp2_with fail
        go_region_held3 (fun w' => w'.cell? ⟨g2, k, none⟩ = some (.int .u8 (x.toNat : Int)) ∧ w'.cell? ⟨g3, k, none⟩ = some (.int .u8 (y.toNat : Int))) (exact ⟨c2, c3⟩) (fail)
        go_wp2_with fail
        go_roundw
        case rel => exact ⟨k + 1, by omega, by go_num, HE', hb.drew⟩
        case measure => simp [intOf]; omega
      · have c0 : ((x.toNat : Int) != (y.toNat : Int)) = true := by
          rw [bne_iff_ne]; exact fun h => hxy (UInt8.toNat_inj.1 (by omega))
        have HN' : Hid (Op.bytesLess Y X = decide (y.toNat < x.toNat)) := (HL.out.trans (HN hxy)).trans (by simp)
        clear HE HN hxy
        go_wp2_with fail
        go_region_held3 (fun w' => w'.cell? ⟨g2, k, none⟩ = some (.int .u8 (x.toNat : Int)) ∧ w'.cell? ⟨g3, k, none⟩ = some (.int .u8 (y.toNat : Int))) (exact ⟨c2, c3⟩) (fail)
        go_wp2_with fail
        go_region_held3 (fun w' => w'.cell? ⟨g2, k, none⟩ = some (.int .u8 (x.toNat : Int)) ∧ w'.cell? ⟨g3, k, none⟩ = some (.int .u8 (y.toNat : Int))) (exact ⟨c2, c3⟩) (fail)
        go_wp2
        go_ret
        exact ⟨by rw [HN'.out]; rfl, hbw.trans ((hb.mono (hbw.size)).drew.drew)⟩
    · obtain rfl : k = 32 := by omega
      have HN' : Hid (Op.bytesLess Y X = false) := by
        show Op.bytesLess Y X = false
        rw [HL.out, List.drop_of_length_le (by omega), List.drop_of_length_le (by omega)]; rfl
      go_wp2
      go_ret
      exact ⟨by rw [HN'.out]; rfl, hbw.trans (hb.mono (hbw.size))⟩
theorem size33 : (Tryz.prog.info? 125).map (·.size) = some 33 := by kernel_rfl
theorem info5' : (Tryz.prog.info? 5).map (fun i => (i.zero, i.size, i.bytes)) = some (some (.int .u8 0), 1, 1) := by kernel_rfl
def zerosR : List Value := (List.replicate 32 (0 : UInt8)).map B ++ [Value.string ⟨#[]⟩]
theorem allocR (w : World) : (Instr.alloc 125 true (.tuple #[])).run Tryz.prog w = .ok (.pointer (some ⟨w.heap.size, 0, none⟩)) (w.alloc (.cells zerosR.toArray 125)) := by kernel_rfl
theorem built32 (x0 x1 x2 x3 x4 x5 x6 x7 x8 x9 x10 x11 x12 x13 x14 x15 x16 x17 x18 x19 x20 x21 x22 x23 x24 x25 x26 x27 x28 x29 x30 x31 : UInt8) (s : ByteArray) : Tryz.prog.built 125 [(0, .agg ([x0, x1, x2, x3, x4, x5, x6, x7, x8, x9, x10, x11, x12, x13, x14, x15, x16, x17, x18, x19, x20, x21, x22, x23, x24, x25, x26, x27, x28, x29, x30, x31].map B).toArray), (1, .string s)] = some (([x0, x1, x2, x3, x4, x5, x6, x7, x8, x9, x10, x11, x12, x13, x14, x15, x16, x17, x18, x19, x20, x21, x22, x23, x24, x25, x26, x27, x28, x29, x30, x31].map B ++ [Value.string s]).toArray) := by kernel_rfl
theorem built_rank (X : List UInt8) (h : X.length = 32) (s : ByteArray) : Tryz.prog.built 125 [(0, .agg (X.map B).toArray), (1, .string s)] = some ((X.map B ++ [Value.string s]).toArray) := by
  match X, h with
  | [x0, x1, x2, x3, x4, x5, x6, x7, x8, x9, x10, x11, x12, x13, x14, x15, x16, x17, x18, x19, x20, x21, x22, x23, x24, x25, x26, x27, x28, x29, x30, x31], _ => exact built32 x0 x1 x2 x3 x4 x5 x6 x7 x8 x9 x10 x11 x12 x13 x14 x15 x16 x17 x18 x19 x20 x21 x22 x23 x24 x25 x26 x27 x28 x29 x30 x31 s

theorem rank_any (s : ByteArray) (w : World) (hs : s.size ≤ 1048576)
    (hK : ∀ j, j < 64 → w.cell? ⟨0, j, none⟩ = some (.int .u32 ((kTab.getD j 0).toNat : Int))) :
    Calls Tryz.prog 77 #[Value.string s] w fun e w' => e = .returned (.agg ((sha s.data.toList).map B ++ [Value.string s]).toArray) ∧ Below w.heap.size w w' := by
  have hl0 : 0 < w.heap.size := World.block_lt_of_cell? w _ (hK 0 (by omega))
  have HH : Hid (∀ w' : World, Below w.heap.size w w' → Calls Tryz.prog 93 #[Value.string s] w' fun e w'' => e = .returned (.agg ((sha s.data.toList).map B).toArray) ∧ Below w'.heap.size w' w'') := fun w' hb => hash_any s w' hs (fun j hj => (hb.cell (by exact hl0)).trans (hK j hj))
  clear hK
  have hln : (sha s.data.toList).length = 32 := by unfold sha; rw [outTo_length]
  obtain ⟨M, hM⟩ : ∃ M, sha s.data.toList = M := ⟨_, rfl⟩
  have HM : Hid (sha s.data.toList = M) := hM
  rw [hM] at HH hln
  clear hM
  have h1c : ∀ v ∈ M.map B ++ [Value.string s], v.oneCell' = true := by
    intro v hv
    rcases List.mem_append.1 hv with hv | hv
    · obtain ⟨x, _, rfl⟩ := List.mem_map.1 hv
      rfl
    · rw [List.mem_singleton] at hv; subst hv; rfl
  have hl33 : (M.map B ++ [Value.string s]).length = 33 := by rw [List.length_append, List.length_map, hln]; rfl
  have HB := built_rank M hln s
  obtain ⟨L, hL⟩ : ∃ L, M.map B ++ [Value.string s] = L := ⟨_, rfl⟩
  have HL : Hid (M.map B ++ [Value.string s] = L) := hL
  rw [hL] at h1c hl33 HB
  obtain ⟨C, hC⟩ : ∃ C, (M.map B).toArray = C := ⟨_, rfl⟩
  rw [hC] at HB HH
  have HB' : Hid (Tryz.prog.built 125 [(0, .agg C), (1, .string s)] = some L.toArray) := HB
  clear hL hC HB
  go_enter Tryz.func77, Tryz.ntmps77
  go_wp2_with (first | (refine wpList_alloc_row _ rfl (some 2) rfl 125 125 rfl zerosR allocR ?_; intro g2 w2 hr2 hb2) | (go_at_call 93; refine (HH.out _ hb2).mono ?_; rintro e w3 ⟨rfl, hb3⟩) | (refine wpList_build_to _ rfl 125 #[(0, .tmp 4), (1, .tmp 5)] rfl L.toArray HB'.out ?_) | (refine wpList_store_whole _ rfl rfl 125 (.tmp 2) (.tmp 6) rfl w.heap.size g2 33 zerosR L rfl rfl (hr2.below hb3) hl33 size33 h1c ?_; intro w5 hR5 hg5))
  refine ret_any _ (p := 2) (ty := 125) rfl w.heap.size g2 33 33 L rfl hR5 Tryz.underlying125 rfl size33 rfl ?_
  refine ⟨?_, ?_⟩
  · rw [HM.out, HL.out]
  · exact (hb2.trans (hb3.mono hb2.size)).trans (below_of_grown hg5 (by have := hr2.ge; omega) (by have := hb2.size; have := hb3.size; omega))

/-- The order of keys. -/
def rk (X Y a b : List UInt8) : Bool := if X = Y then Op.bytesLess a b else Op.bytesLess Y X

theorem cell_last {w : World} {base g n cap : Nat} {xs : List Value} {v : Value} {m : Nat} (h : Row w base g n cap (xs ++ [v])) (hm : xs.length = m) : w.cell? ⟨g, m, none⟩ = some v := by
  subst hm
  have hn := h.len
  rw [List.length_append] at hn
  rw [h.cell _ (by simp at hn; omega), List.getElem?_append_right (Nat.le_refl _), Nat.sub_self]; rfl

theorem above_any (X Y : List UInt8) (hX : X.length = 32) (hY : Y.length = 32) (a b : ByteArray) (w : World) :
    Calls Tryz.prog 75 #[.agg (X.map B ++ [Value.string a]).toArray, .agg (Y.map B ++ [Value.string b]).toArray] w fun e w' => e = .returned (.bool (rk X Y a.data.toList b.data.toList)) ∧ Below w.heap.size w w' := by
  obtain ⟨i0, hi0, hz0, hz1, hz2⟩ := info_parts info5'
  obtain ⟨LX, hLX⟩ : ∃ L, X.map B ++ [Value.string a] = L := ⟨_, rfl⟩
  obtain ⟨LY, hLY⟩ : ∃ L, Y.map B ++ [Value.string b] = L := ⟨_, rfl⟩
  have HLX : Hid (X.map B ++ [Value.string a] = LX) := hLX
  have HLY : Hid (Y.map B ++ [Value.string b] = LY) := hLY
  have l1 : LX.length = 33 := by rw [← hLX, List.length_append, List.length_map, hX]; rfl
  have l2 : LY.length = 33 := by rw [← hLY, List.length_append, List.length_map, hY]; rfl
  rw [hLX, hLY]
  have HL12 : Hid (LX.length = 33 ∧ LY.length = 33) := ⟨l1, l2⟩
  clear hLX hLY l1 l2
  have hsz : (Tryz.prog.info? 123).map (·.size) = some (X.map B).length := by rw [size32, List.length_map, hX]
  have hsz2 : (Tryz.prog.info? 123).map (·.size) = some (Y.map B).length := by rw [size32, List.length_map, hY]
  have HSZ : Hid ((Tryz.prog.info? 123).map (·.size) = some (X.map B).length ∧ (Tryz.prog.info? 123).map (·.size) = some (Y.map B).length) := ⟨hsz, hsz2⟩
  clear hsz hsz2
  by_cases hXY : X = Y
  · have HD : Hid (decide (X = Y) = true) := decide_eq_true hXY
    have HR : Hid (rk X Y a.data.toList b.data.toList = Op.bytesLess a.data.toList b.data.toList) := if_pos hXY
    clear hXY
    go_enter Tryz.func75, Tryz.ntmps75
    go_wp2_with (first | (refine wpList_box_row _ rfl (some 2) rfl 125 (.tmp 0) rfl LX rfl ?_; intro g2 w2 hr2 hb2) | (refine wpList_box_row _ rfl (some 3) rfl 125 (.tmp 1) rfl LY rfl ?_; intro g3 w3 hr3 hb3; have hR2 : Row w3 w.heap.size g2 33 33 (X.map B ++ [Value.string a]) := (by rw [HLX.out]; have := hr2.below hb3; rw [HL12.out.1] at this; exact this); have hR3 : Row w3 w2.heap.size g3 33 33 (Y.map B ++ [Value.string b]) := (by rw [HLY.out]; have := hr3; rw [HL12.out.2] at this; exact this); have cA : w3.cell? ⟨g2, 32, none⟩ = some (.string a) := cell_last hR2 (by rw [List.length_map, hX]); have cB : w3.cell? ⟨g3, 32, none⟩ = some (.string b) := cell_last hR3 (by rw [List.length_map, hY])) | (refine wpList_load_mid rfl 123 (.tmp 5) rfl g2 0 rfl (X.map B) _ (Row.prefix hR2) Tryz.underlying123 rfl HSZ.out.1 ?_) | (refine wpList_load_mid rfl 123 (.tmp 7) rfl g3 0 rfl (Y.map B) _ (Row.prefix hR3) Tryz.underlying123 rfl HSZ.out.2 ?_) | (refine wpList_eql_b _ rfl 123 123 (.tmp 6) (.tmp 8) rfl X Y 32 5 i0 rfl rfl Tryz.underlying123 Tryz.underlying5 hi0 cells5 hX hY (guard28 _ _ _ _ _) ?_; rw [HD.out]) | (refine wpList_load_mid rfl 123 (.tmp 15) rfl g2 0 rfl (X.map B) _ (Row.prefix hR2) Tryz.underlying123 rfl HSZ.out.1 ?_) | (refine wpList_load_mid rfl 123 (.tmp 17) rfl g3 0 rfl (Y.map B) _ (Row.prefix hR3) Tryz.underlying123 rfl HSZ.out.2 ?_) | fail)
    go_ret
    exact ⟨by rw [HR.out, ← ByteArray.toList_eq, ← ByteArray.toList_eq]; rfl, hb2.trans (hb3.mono hb2.size)⟩
  · have HD : Hid (decide (X = Y) = false) := decide_eq_false hXY
    have HR : Hid (rk X Y a.data.toList b.data.toList = Op.bytesLess Y X) := if_neg hXY
    clear hXY
    go_enter Tryz.func75, Tryz.ntmps75
    go_wp2_with (first | (refine wpList_box_row _ rfl (some 2) rfl 125 (.tmp 0) rfl LX rfl ?_; intro g2 w2 hr2 hb2) | (refine wpList_box_row _ rfl (some 3) rfl 125 (.tmp 1) rfl LY rfl ?_; intro g3 w3 hr3 hb3; have hR2 : Row w3 w.heap.size g2 33 33 (X.map B ++ [Value.string a]) := (by rw [HLX.out]; have := hr2.below hb3; rw [HL12.out.1] at this; exact this); have hR3 : Row w3 w2.heap.size g3 33 33 (Y.map B ++ [Value.string b]) := (by rw [HLY.out]; have := hr3; rw [HL12.out.2] at this; exact this); have cA : w3.cell? ⟨g2, 32, none⟩ = some (.string a) := cell_last hR2 (by rw [List.length_map, hX]); have cB : w3.cell? ⟨g3, 32, none⟩ = some (.string b) := cell_last hR3 (by rw [List.length_map, hY])) | (refine wpList_load_mid rfl 123 (.tmp 5) rfl g2 0 rfl (X.map B) _ (Row.prefix hR2) Tryz.underlying123 rfl HSZ.out.1 ?_) | (refine wpList_load_mid rfl 123 (.tmp 7) rfl g3 0 rfl (Y.map B) _ (Row.prefix hR3) Tryz.underlying123 rfl HSZ.out.2 ?_) | (refine wpList_eql_b _ rfl 123 123 (.tmp 6) (.tmp 8) rfl X Y 32 5 i0 rfl rfl Tryz.underlying123 Tryz.underlying5 hi0 cells5 hX hY (guard28 _ _ _ _ _) ?_; rw [HD.out]) | (refine wpList_load_mid rfl 123 (.tmp 15) rfl g2 0 rfl (X.map B) _ (Row.prefix hR2) Tryz.underlying123 rfl HSZ.out.1 ?_) | (refine wpList_load_mid rfl 123 (.tmp 17) rfl g3 0 rfl (Y.map B) _ (Row.prefix hR3) Tryz.underlying123 rfl HSZ.out.2 ?_) | fail)
    refine (greater_any X Y hX hY _).mono ?_
    rintro e w4 ⟨rfl, hb4⟩
    go_wp2
    go_ret
    exact ⟨by rw [HR.out]; rfl, (hb2.trans (hb3.mono hb2.size)).trans (hb4.mono (by have := hb2.size; have := hb3.size; omega))⟩
theorem lessB_tri (a b : ByteArray) : lessB a b = !(lessB b a || (b.toList == a.toList)) := less_tri _ _
/-- Keys that grow. -/
def KeysUp : List ByteArray → Prop
  | [] => True
  | k :: ks => (∀ x ∈ ks, lessB k x = true) ∧ KeysUp ks
theorem bl_tr : ∀ (a b c : List UInt8), Op.bytesLess a b = true → Op.bytesLess b c = true → Op.bytesLess a c = true
  | [], [], _, h, _ => by simp [Op.bytesLess] at h
  | [], _ :: _, [], _, k => by simp [Op.bytesLess] at k
  | [], _ :: _, _ :: _, _, _ => by simp [Op.bytesLess]
  | _ :: _, [], _, h, _ => by simp [Op.bytesLess] at h
  | _ :: _, _ :: _, [], _, k => by simp [Op.bytesLess] at k
  | x :: xs, y :: ys, z :: zs, h, k => by
    rw [Op.bytesLess] at h k ⊢
    simp only [Bool.or_eq_true, Bool.and_eq_true, decide_eq_true_eq, beq_iff_eq] at h k ⊢
    rcases h with h | ⟨rfl, h⟩
    · rcases k with k | ⟨rfl, k⟩
      · exact .inl (by rw [UInt8.lt_iff_toNat_lt] at *; omega)
      · exact .inl h
    · rcases k with k | ⟨rfl, k⟩
      · exact .inl k
      · exact .inr ⟨rfl, bl_tr xs ys zs h k⟩
theorem lessB_tr {a b c : ByteArray} (h : lessB a b = true) (k : lessB b c = true) : lessB a c = true := bl_tr _ _ _ h k
theorem lessB_or (a b : ByteArray) (h : lessB a b = false) (hne : a ≠ b) : lessB b a = true := by
  rw [lessB_tri] at h
  rcases (Bool.or_eq_true _ _).mp (by cases hq : (lessB b a || (b.toList == a.toList)) with | true => rfl | false => rw [hq] at h; cases h) with h | h
  · exact h
  · have e : b.toList = a.toList := by simpa using h
    rw [ByteArray.toList_eq, ByteArray.toList_eq] at e
    exact absurd (ByteArray.ext (Array.toList_inj.1 e.symm)) hne
/-- The pairs but one key's. -/
def wout (ps : List PairT) (k : ByteArray) : List PairT := ps.filter fun p => decide (p.1 ≠ k)
/-- The pairs with a key set, where the rest grows. -/
def ins (k v : ByteArray) : List PairT → List PairT
  | [] => [(k, v)]
  | p :: ps => if lessB k p.1 = true then (k, v) :: p :: ps else p :: ins k v ps
def wth (ps : List PairT) (k v : ByteArray) : List PairT := ins k v (wout ps k)
abbrev keys (ps : List PairT) : List ByteArray := ps.map Prod.fst
theorem ku_wout {ps : List PairT} (h : KeysUp (keys ps)) (k : ByteArray) : KeysUp (keys (wout ps k)) := by
  induction ps with
  | nil => exact h
  | cons p ps ih =>
    unfold wout at ih ⊢
    rw [List.filter_cons]
    split
    · refine ⟨fun x hx => ?_, ih h.2⟩
      obtain ⟨y, hy, rfl⟩ := List.mem_map.1 hx
      exact h.1 _ (List.mem_map.2 ⟨y, (List.mem_filter.1 hy).1, rfl⟩)
    · exact ih h.2
theorem mem_wout {ps : List PairT} {k x : ByteArray} : x ∈ keys (wout ps k) ↔ x ∈ keys ps ∧ x ≠ k := by
  unfold wout
  constructor
  · intro h
    obtain ⟨y, hy, rfl⟩ := List.mem_map.1 h
    obtain ⟨h1, h2⟩ := List.mem_filter.1 hy
    exact ⟨List.mem_map.2 ⟨y, h1, rfl⟩, by simpa using h2⟩
  · rintro ⟨h, hn⟩
    obtain ⟨y, hy, rfl⟩ := List.mem_map.1 h
    exact List.mem_map.2 ⟨y, List.mem_filter.2 ⟨hy, by simpa using hn⟩, rfl⟩
theorem mem_ins {k v x : ByteArray} : ∀ {ps : List PairT}, x ∈ keys (ins k v ps) ↔ x = k ∨ x ∈ keys ps
  | [] => by simp [ins]
  | p :: ps => by
    rw [ins]
    split
    · simp
    · have ih := mem_ins (k := k) (v := v) (x := x) (ps := ps)
      simp only [keys, List.map_cons, List.mem_cons] at ih ⊢
      rw [ih]
      constructor
      · rintro (h | h | h)
        · exact .inr (.inl h)
        · exact .inl h
        · exact .inr (.inr h)
      · rintro (h | h | h)
        · exact .inr (.inl h)
        · exact .inl h
        · exact .inr (.inr h)
theorem ku_ins {k v : ByteArray} : ∀ {ps : List PairT}, KeysUp (keys ps) → (∀ x ∈ keys ps, x ≠ k) → KeysUp (keys (ins k v ps))
  | [], _, _ => ⟨fun _ h => by simp at h, trivial⟩
  | p :: ps, h, hn => by
    rw [ins]
    split
    · rename_i hl
      refine ⟨fun x hx => ?_, h⟩
      rcases List.mem_cons.1 hx with e | hx
      · rw [e]; exact hl
      · exact lessB_tr hl (h.1 x hx)
    · rename_i hl
      refine ⟨fun x hx => ?_, ku_ins h.2 (fun x hx => hn x (List.mem_cons_of_mem _ hx))⟩
      rcases mem_ins.1 hx with e | hx
      · rw [e]
        exact lessB_or _ _ (by simpa using hl) (fun e => hn p.1 List.mem_cons_self e.symm)
      · exact h.1 x hx
theorem ku_wth {ps : List PairT} (h : KeysUp (keys ps)) (k v : ByteArray) : KeysUp (keys (wth ps k v)) := ku_ins (ku_wout h k) (fun _ hx => (mem_wout.1 hx).2)
theorem mem_wth {ps : List PairT} {k v x : ByteArray} : x ∈ keys (wth ps k v) ↔ x = k ∨ x ∈ keys ps := by
  unfold wth
  rw [mem_ins, mem_wout]
  constructor
  · rintro (h | h)
    · exact .inl h
    · exact .inr h.1
  · rintro (h | h)
    · exact .inl h
    · by_cases e : x = k
      · exact .inl e
      · exact .inr ⟨h, e⟩
abbrev ChT := ByteArray × Bool × ByteArray × Bool × ByteArray
theorem wr_in64 (n : Int) (h : -9223372036854775808 ≤ n ∧ n ≤ 9223372036854775807) : wrap64 n = n := by unfold wrap64; omega
/-- Within the law's bound. -/
def SmallP (ps : List PairT) : Prop := ps.length ≤ 1048576 ∧ ∀ j, (ps.getD j noPair).1.size ≤ 1048576 ∧ (ps.getD j noPair).2.size ≤ 1048576
theorem pget_out (ps : List PairT) (j : Nat) (h : ps.length ≤ j) : ps.getD j noPair = noPair := by
  rw [List.getD_eq_getElem?_getD, List.getElem?_eq_none h]; rfl
end Go.Proofs.YtmfhfehemoeeeaaGreatDoor
