import Derived.Test.YtfmpjlpakldheaaGreatDoorZcam
import Derived.Test.YtfmpjlpakldheaaGreatDoorZcal
import Derived.Laws.MakeOwn
import Derived.Laws.OwnMore
namespace Go.Proofs.YtfmpjlpakldheaaGreatDoor
open Go.RowKit Go.Proofs.Sha

theorem size33 : (Tryz.prog.info? 131).map (·.size) = some 33 := by kernel_rfl
theorem info5' : (Tryz.prog.info? 5).map (fun i => (i.zero, i.size, i.bytes)) = some (some (.int .u8 0), 1, 1) := by kernel_rfl
def zerosR : List Value := (List.replicate 32 (0 : UInt8)).map B ++ [Value.string ⟨#[]⟩]
theorem allocR (w : World) : (Instr.alloc 131 true (.tuple #[])).run Tryz.prog w = .ok (.pointer (some ⟨w.heap.size, 0, none⟩)) (w.alloc (.cells zerosR.toArray 131)) := by kernel_rfl
theorem built32 (x0 x1 x2 x3 x4 x5 x6 x7 x8 x9 x10 x11 x12 x13 x14 x15 x16 x17 x18 x19 x20 x21 x22 x23 x24 x25 x26 x27 x28 x29 x30 x31 : UInt8) (s : ByteArray) : Tryz.prog.built 131 [(0, .agg ([x0, x1, x2, x3, x4, x5, x6, x7, x8, x9, x10, x11, x12, x13, x14, x15, x16, x17, x18, x19, x20, x21, x22, x23, x24, x25, x26, x27, x28, x29, x30, x31].map B).toArray), (1, .string s)] = some (([x0, x1, x2, x3, x4, x5, x6, x7, x8, x9, x10, x11, x12, x13, x14, x15, x16, x17, x18, x19, x20, x21, x22, x23, x24, x25, x26, x27, x28, x29, x30, x31].map B ++ [Value.string s]).toArray) := by kernel_rfl
theorem built_rank (X : List UInt8) (h : X.length = 32) (s : ByteArray) : Tryz.prog.built 131 [(0, .agg (X.map B).toArray), (1, .string s)] = some ((X.map B ++ [Value.string s]).toArray) := by
  match X, h with
  | [x0, x1, x2, x3, x4, x5, x6, x7, x8, x9, x10, x11, x12, x13, x14, x15, x16, x17, x18, x19, x20, x21, x22, x23, x24, x25, x26, x27, x28, x29, x30, x31], _ => exact built32 x0 x1 x2 x3 x4 x5 x6 x7 x8 x9 x10 x11 x12 x13 x14 x15 x16 x17 x18 x19 x20 x21 x22 x23 x24 x25 x26 x27 x28 x29 x30 x31 s

set_option maxRecDepth 100000 in
set_option maxHeartbeats 400000 in
theorem rank_any (s : ByteArray) (w : World) (hs : s.size ≤ 1048576)
    (hK : ∀ j, j < 64 → w.cell? ⟨0, j, none⟩ = some (.int .u32 ((kTab.getD j 0).toNat : Int))) :
    Calls Tryz.prog 158 #[Value.string s] w fun e w' => e = .returned (.agg ((sha s.data.toList).map B ++ [Value.string s]).toArray) ∧ Below w.heap.size w w' := by
  have hl0 : 0 < w.heap.size := World.block_lt_of_cell? w _ (hK 0 (by omega))
  have HH : Hid (∀ w' : World, Below w.heap.size w w' → Calls Tryz.prog 83 #[Value.string s] w' fun e w'' => e = .returned (.agg ((sha s.data.toList).map B).toArray) ∧ Below w'.heap.size w' w'') := fun w' hb => hash_any s w' hs (fun j hj => (hb.cell (by exact hl0)).trans (hK j hj))
  clear hK
  have hln : (sha s.data.toList).length = 32 := by unfold sha; rw [outTo_length]
  obtain ⟨M, hM⟩ : ∃ M, sha s.data.toList = M := ⟨_, rfl⟩
  have HM : Hid (sha s.data.toList = M) := hM
  rw [hM] at HH hln
  clear hM
  have h1c : ∀ v ∈ M.map B ++ [Value.string s], v.oneCell' = true := by
    intro v hv
    rcases List.mem_append.1 hv with hv | hv
    · obtain ⟨x, _, rfl⟩ := List.mem_map.1 hv
      rfl
    · rw [List.mem_singleton] at hv; subst hv; rfl
  have hl33 : (M.map B ++ [Value.string s]).length = 33 := by rw [List.length_append, List.length_map, hln]; rfl
  have HB := built_rank M hln s
  obtain ⟨L, hL⟩ : ∃ L, M.map B ++ [Value.string s] = L := ⟨_, rfl⟩
  have HL : Hid (M.map B ++ [Value.string s] = L) := hL
  rw [hL] at h1c hl33 HB
  obtain ⟨C, hC⟩ : ∃ C, (M.map B).toArray = C := ⟨_, rfl⟩
  rw [hC] at HB HH
  have HB' : Hid (Tryz.prog.built 131 [(0, .agg C), (1, .string s)] = some L.toArray) := HB
  clear hL hC HB
  go_enter Tryz.func158, Tryz.ntmps158
  go_wp2_with (first | (refine wpList_alloc_row _ rfl (some 2) rfl 131 131 rfl zerosR allocR ?_; intro g2 w2 hr2 hb2) | (go_at_call 83; refine (HH.out _ hb2).mono ?_; rintro e w3 ⟨rfl, hb3⟩) | (refine wpList_build_to _ rfl 131 #[(0, .tmp 4), (1, .tmp 5)] rfl L.toArray HB'.out ?_) | (refine wpList_store_whole _ rfl rfl 131 (.tmp 2) (.tmp 6) rfl w.heap.size g2 33 zerosR L rfl rfl (hr2.below hb3) hl33 size33 h1c ?_; intro w5 hR5 hg5))
  refine ret_any _ (p := 2) (ty := 131) rfl w.heap.size g2 33 33 L rfl hR5 Tryz.underlying131 rfl size33 rfl ?_
  refine ⟨?_, ?_⟩
  · rw [HM.out, HL.out]
  · exact (hb2.trans (hb3.mono hb2.size)).trans (below_of_grown hg5 (by have := hr2.ge; omega) (by have := hb2.size; have := hb3.size; omega))

/-- The order of keys. -/
def rk (X Y a b : List UInt8) : Bool := if X = Y then Op.bytesLess a b else Op.bytesLess Y X

theorem cell_last {w : World} {base g n cap : Nat} {xs : List Value} {v : Value} {m : Nat} (h : Row w base g n cap (xs ++ [v])) (hm : xs.length = m) : w.cell? ⟨g, m, none⟩ = some v := by
  subst hm
  have hn := h.len
  rw [List.length_append] at hn
  rw [h.cell _ (by simp at hn; omega), List.getElem?_append_right (Nat.le_refl _), Nat.sub_self]; rfl

set_option maxRecDepth 100000 in
set_option maxHeartbeats 400000 in
theorem above_any (X Y : List UInt8) (hX : X.length = 32) (hY : Y.length = 32) (a b : ByteArray) (w : World) :
    Calls Tryz.prog 142 #[.agg (X.map B ++ [Value.string a]).toArray, .agg (Y.map B ++ [Value.string b]).toArray] w fun e w' => e = .returned (.bool (rk X Y a.data.toList b.data.toList)) ∧ Below w.heap.size w w' := by
  obtain ⟨i0, hi0, hz0, hz1, hz2⟩ := info_parts info5'
  obtain ⟨LX, hLX⟩ : ∃ L, X.map B ++ [Value.string a] = L := ⟨_, rfl⟩
  obtain ⟨LY, hLY⟩ : ∃ L, Y.map B ++ [Value.string b] = L := ⟨_, rfl⟩
  have HLX : Hid (X.map B ++ [Value.string a] = LX) := hLX
  have HLY : Hid (Y.map B ++ [Value.string b] = LY) := hLY
  have l1 : LX.length = 33 := by rw [← hLX, List.length_append, List.length_map, hX]; rfl
  have l2 : LY.length = 33 := by rw [← hLY, List.length_append, List.length_map, hY]; rfl
  rw [hLX, hLY]
  have HL12 : Hid (LX.length = 33 ∧ LY.length = 33) := ⟨l1, l2⟩
  clear hLX hLY l1 l2
  have hsz : (Tryz.prog.info? 116).map (·.size) = some (X.map B).length := by rw [size32, List.length_map, hX]
  have hsz2 : (Tryz.prog.info? 116).map (·.size) = some (Y.map B).length := by rw [size32, List.length_map, hY]
  have HSZ : Hid ((Tryz.prog.info? 116).map (·.size) = some (X.map B).length ∧ (Tryz.prog.info? 116).map (·.size) = some (Y.map B).length) := ⟨hsz, hsz2⟩
  clear hsz hsz2
  by_cases hXY : X = Y
  · have HD : Hid (decide (X = Y) = true) := decide_eq_true hXY
    have HR : Hid (rk X Y a.data.toList b.data.toList = Op.bytesLess a.data.toList b.data.toList) := if_pos hXY
    clear hXY
    go_enter Tryz.func142, Tryz.ntmps142
    go_wp2_with (first | (refine wpList_box_row _ rfl (some 2) rfl 131 (.tmp 0) rfl LX rfl ?_; intro g2 w2 hr2 hb2) | (refine wpList_box_row _ rfl (some 3) rfl 131 (.tmp 1) rfl LY rfl ?_; intro g3 w3 hr3 hb3; have hR2 : Row w3 w.heap.size g2 33 33 (X.map B ++ [Value.string a]) := (by rw [HLX.out]; have := hr2.below hb3; rw [HL12.out.1] at this; exact this); have hR3 : Row w3 w2.heap.size g3 33 33 (Y.map B ++ [Value.string b]) := (by rw [HLY.out]; have := hr3; rw [HL12.out.2] at this; exact this); have cA : w3.cell? ⟨g2, 32, none⟩ = some (.string a) := cell_last hR2 (by rw [List.length_map, hX]); have cB : w3.cell? ⟨g3, 32, none⟩ = some (.string b) := cell_last hR3 (by rw [List.length_map, hY])) | (refine wpList_load_mid rfl 116 (.tmp 5) rfl g2 0 rfl (X.map B) _ (Row.prefix hR2) Tryz.underlying116 rfl HSZ.out.1 ?_) | (refine wpList_load_mid rfl 116 (.tmp 7) rfl g3 0 rfl (Y.map B) _ (Row.prefix hR3) Tryz.underlying116 rfl HSZ.out.2 ?_) | (refine wpList_eql_b _ rfl 116 116 (.tmp 6) (.tmp 8) rfl X Y 32 5 i0 rfl rfl Tryz.underlying116 Tryz.underlying5 hi0 cells5 hX hY (guard28 _ _ _ _ _) ?_; rw [HD.out]) | (refine wpList_load_mid rfl 116 (.tmp 15) rfl g2 0 rfl (X.map B) _ (Row.prefix hR2) Tryz.underlying116 rfl HSZ.out.1 ?_) | (refine wpList_load_mid rfl 116 (.tmp 17) rfl g3 0 rfl (Y.map B) _ (Row.prefix hR3) Tryz.underlying116 rfl HSZ.out.2 ?_) | fail)
    go_ret
    exact ⟨by rw [HR.out, ← ByteArray.toList_eq, ← ByteArray.toList_eq]; rfl, hb2.trans (hb3.mono hb2.size)⟩
  · have HD : Hid (decide (X = Y) = false) := decide_eq_false hXY
    have HR : Hid (rk X Y a.data.toList b.data.toList = Op.bytesLess Y X) := if_neg hXY
    clear hXY
    go_enter Tryz.func142, Tryz.ntmps142
    go_wp2_with (first | (refine wpList_box_row _ rfl (some 2) rfl 131 (.tmp 0) rfl LX rfl ?_; intro g2 w2 hr2 hb2) | (refine wpList_box_row _ rfl (some 3) rfl 131 (.tmp 1) rfl LY rfl ?_; intro g3 w3 hr3 hb3; have hR2 : Row w3 w.heap.size g2 33 33 (X.map B ++ [Value.string a]) := (by rw [HLX.out]; have := hr2.below hb3; rw [HL12.out.1] at this; exact this); have hR3 : Row w3 w2.heap.size g3 33 33 (Y.map B ++ [Value.string b]) := (by rw [HLY.out]; have := hr3; rw [HL12.out.2] at this; exact this); have cA : w3.cell? ⟨g2, 32, none⟩ = some (.string a) := cell_last hR2 (by rw [List.length_map, hX]); have cB : w3.cell? ⟨g3, 32, none⟩ = some (.string b) := cell_last hR3 (by rw [List.length_map, hY])) | (refine wpList_load_mid rfl 116 (.tmp 5) rfl g2 0 rfl (X.map B) _ (Row.prefix hR2) Tryz.underlying116 rfl HSZ.out.1 ?_) | (refine wpList_load_mid rfl 116 (.tmp 7) rfl g3 0 rfl (Y.map B) _ (Row.prefix hR3) Tryz.underlying116 rfl HSZ.out.2 ?_) | (refine wpList_eql_b _ rfl 116 116 (.tmp 6) (.tmp 8) rfl X Y 32 5 i0 rfl rfl Tryz.underlying116 Tryz.underlying5 hi0 cells5 hX hY (guard28 _ _ _ _ _) ?_; rw [HD.out]) | (refine wpList_load_mid rfl 116 (.tmp 15) rfl g2 0 rfl (X.map B) _ (Row.prefix hR2) Tryz.underlying116 rfl HSZ.out.1 ?_) | (refine wpList_load_mid rfl 116 (.tmp 17) rfl g3 0 rfl (Y.map B) _ (Row.prefix hR3) Tryz.underlying116 rfl HSZ.out.2 ?_) | fail)
    refine (greater_any X Y hX hY _).mono ?_
    rintro e w4 ⟨rfl, hb4⟩
    go_wp2
    go_ret
    exact ⟨by rw [HR.out]; rfl, (hb2.trans (hb3.mono hb2.size)).trans (hb4.mono (by have := hb2.size; have := hb3.size; omega))⟩
end Go.Proofs.YtfmpjlpakldheaaGreatDoor
namespace Go.Proofs.YtfmpjlpakldheaaGreatDoor
open Go.RowKit Go.Proofs.Sha

end Go.Proofs.YtfmpjlpakldheaaGreatDoor
namespace Go.Proofs.YtfmpjlpakldheaaGreatDoor
open Go.RowKit Go.Proofs.Sha

theorem lessB_tri (a b : ByteArray) : lessB a b = !(lessB b a || (b.toList == a.toList)) := less_tri _ _
end Go.Proofs.YtfmpjlpakldheaaGreatDoor
namespace Go.Proofs.YtfmpjlpakldheaaGreatDoor
open Go.RowKit Go.Proofs.Sha

/-- Keys that grow. -/
def KeysUp : List ByteArray → Prop
  | [] => True
  | k :: ks => (∀ x ∈ ks, lessB k x = true) ∧ KeysUp ks
theorem bl_tr : ∀ (a b c : List UInt8), Op.bytesLess a b = true → Op.bytesLess b c = true → Op.bytesLess a c = true
  | [], [], _, h, _ => by simp [Op.bytesLess] at h
  | [], _ :: _, [], _, k => by simp [Op.bytesLess] at k
  | [], _ :: _, _ :: _, _, _ => by simp [Op.bytesLess]
  | _ :: _, [], _, h, _ => by simp [Op.bytesLess] at h
  | _ :: _, _ :: _, [], _, k => by simp [Op.bytesLess] at k
  | x :: xs, y :: ys, z :: zs, h, k => by
    rw [Op.bytesLess] at h k ⊢
    simp only [Bool.or_eq_true, Bool.and_eq_true, decide_eq_true_eq, beq_iff_eq] at h k ⊢
    rcases h with h | ⟨rfl, h⟩
    · rcases k with k | ⟨rfl, k⟩
      · exact .inl (by rw [UInt8.lt_iff_toNat_lt] at *; omega)
      · exact .inl h
    · rcases k with k | ⟨rfl, k⟩
      · exact .inl k
      · exact .inr ⟨rfl, bl_tr xs ys zs h k⟩
theorem lessB_tr {a b c : ByteArray} (h : lessB a b = true) (k : lessB b c = true) : lessB a c = true := bl_tr _ _ _ h k
theorem lessB_or (a b : ByteArray) (h : lessB a b = false) (hne : a ≠ b) : lessB b a = true := by
  rw [lessB_tri] at h
  rcases (Bool.or_eq_true _ _).mp (by cases hq : (lessB b a || (b.toList == a.toList)) with | true => rfl | false => rw [hq] at h; cases h) with h | h
  · exact h
  · have e : b.toList = a.toList := by simpa using h
    rw [ByteArray.toList_eq, ByteArray.toList_eq] at e
    exact absurd (ByteArray.ext (Array.toList_inj.1 e.symm)) hne
/-- The pairs but one key's. -/
def wout (ps : List PairT) (k : ByteArray) : List PairT := ps.filter fun p => decide (p.1 ≠ k)
/-- The pairs with a key set, where the rest grows. -/
def ins (k v : ByteArray) : List PairT → List PairT
  | [] => [(k, v)]
  | p :: ps => if lessB k p.1 = true then (k, v) :: p :: ps else p :: ins k v ps
def wth (ps : List PairT) (k v : ByteArray) : List PairT := ins k v (wout ps k)
abbrev keys (ps : List PairT) : List ByteArray := ps.map Prod.fst
theorem ku_wout {ps : List PairT} (h : KeysUp (keys ps)) (k : ByteArray) : KeysUp (keys (wout ps k)) := by
  induction ps with
  | nil => exact h
  | cons p ps ih =>
    unfold wout at ih ⊢
    rw [List.filter_cons]
    split
    · refine ⟨fun x hx => ?_, ih h.2⟩
      obtain ⟨y, hy, rfl⟩ := List.mem_map.1 hx
      exact h.1 _ (List.mem_map.2 ⟨y, (List.mem_filter.1 hy).1, rfl⟩)
    · exact ih h.2
theorem mem_wout {ps : List PairT} {k x : ByteArray} : x ∈ keys (wout ps k) ↔ x ∈ keys ps ∧ x ≠ k := by
  unfold wout
  constructor
  · intro h
    obtain ⟨y, hy, rfl⟩ := List.mem_map.1 h
    obtain ⟨h1, h2⟩ := List.mem_filter.1 hy
    exact ⟨List.mem_map.2 ⟨y, h1, rfl⟩, by simpa using h2⟩
  · rintro ⟨h, hn⟩
    obtain ⟨y, hy, rfl⟩ := List.mem_map.1 h
    exact List.mem_map.2 ⟨y, List.mem_filter.2 ⟨hy, by simpa using hn⟩, rfl⟩
theorem mem_ins {k v x : ByteArray} : ∀ {ps : List PairT}, x ∈ keys (ins k v ps) ↔ x = k ∨ x ∈ keys ps
  | [] => by simp [ins]
  | p :: ps => by
    rw [ins]
    split
    · simp
    · have ih := mem_ins (k := k) (v := v) (x := x) (ps := ps)
      simp only [keys, List.map_cons, List.mem_cons] at ih ⊢
      rw [ih]
      constructor
      · rintro (h | h | h)
        · exact .inr (.inl h)
        · exact .inl h
        · exact .inr (.inr h)
      · rintro (h | h | h)
        · exact .inr (.inl h)
        · exact .inl h
        · exact .inr (.inr h)
theorem ku_ins {k v : ByteArray} : ∀ {ps : List PairT}, KeysUp (keys ps) → (∀ x ∈ keys ps, x ≠ k) → KeysUp (keys (ins k v ps))
  | [], _, _ => ⟨fun _ h => by simp at h, trivial⟩
  | p :: ps, h, hn => by
    rw [ins]
    split
    · rename_i hl
      refine ⟨fun x hx => ?_, h⟩
      rcases List.mem_cons.1 hx with e | hx
      · rw [e]; exact hl
      · exact lessB_tr hl (h.1 x hx)
    · rename_i hl
      refine ⟨fun x hx => ?_, ku_ins h.2 (fun x hx => hn x (List.mem_cons_of_mem _ hx))⟩
      rcases mem_ins.1 hx with e | hx
      · rw [e]
        exact lessB_or _ _ (by simpa using hl) (fun e => hn p.1 List.mem_cons_self e.symm)
      · exact h.1 x hx
theorem ku_wth {ps : List PairT} (h : KeysUp (keys ps)) (k v : ByteArray) : KeysUp (keys (wth ps k v)) := ku_ins (ku_wout h k) (fun _ hx => (mem_wout.1 hx).2)
theorem mem_wth {ps : List PairT} {k v x : ByteArray} : x ∈ keys (wth ps k v) ↔ x = k ∨ x ∈ keys ps := by
  unfold wth
  rw [mem_ins, mem_wout]
  constructor
  · rintro (h | h)
    · exact .inl h
    · exact .inr h.1
  · rintro (h | h)
    · exact .inl h
    · by_cases e : x = k
      · exact .inl e
      · exact .inr ⟨h, e⟩
end Go.Proofs.YtfmpjlpakldheaaGreatDoor
namespace Go.Proofs.YtfmpjlpakldheaaGreatDoor
open Go.RowKit Go.Proofs.Sha

abbrev ChT := ByteArray × Bool × ByteArray × Bool × ByteArray
end Go.Proofs.YtfmpjlpakldheaaGreatDoor
namespace Go.Proofs.YtfmpjlpakldheaaGreatDoor
open Go.RowKit Go.Proofs.Sha

theorem wr_in64 (n : Int) (h : -9223372036854775808 ≤ n ∧ n ≤ 9223372036854775807) : wrap64 n = n := by unfold wrap64; omega
/-- Within the law's bound. -/
def SmallP (ps : List PairT) : Prop := ps.length ≤ 1048576 ∧ ∀ j, (ps.getD j noPair).1.size ≤ 1048576 ∧ (ps.getD j noPair).2.size ≤ 1048576
theorem pget_out (ps : List PairT) (j : Nat) (h : ps.length ≤ j) : ps.getD j noPair = noPair := by
  rw [List.getD_eq_getElem?_getD, List.getElem?_eq_none h]; rfl
end Go.Proofs.YtfmpjlpakldheaaGreatDoor
namespace Go.Proofs.YtfmpjlpakldheaaGreatDoor
open Go.RowKit Go.Proofs.Sha

/-- Pairs as cells. -/
def flatP : List PairT → List Value
  | [] => []
  | p :: l => .string p.1 :: .string p.2 :: flatP l
theorem flatP_len : ∀ l : List PairT, (flatP l).length = l.length * 2
  | [] => rfl
  | p :: l => by simp only [flatP, List.length_cons, flatP_len l]; omega
theorem flatP_app : ∀ l m : List PairT, flatP (l ++ m) = flatP l ++ flatP m
  | [], m => rfl
  | p :: l, m => by simp only [List.cons_append, flatP, flatP_app l m]
theorem flatP_get : ∀ (l : List PairT) (j : Nat), j < l.length → (flatP l)[j * 2]? = some (.string (l.getD j noPair).1) ∧ (flatP l)[j * 2 + 1]? = some (.string (l.getD j noPair).2)
  | [], j, h => absurd h (Nat.not_lt_zero _)
  | p :: l, 0, _ => ⟨rfl, rfl⟩
  | p :: l, j + 1, h => by
    have := flatP_get l j (by simpa using h)
    rw [show (j + 1) * 2 = j * 2 + 2 by omega]
    simpa [flatP] using this
theorem flatP_set : ∀ (l : List PairT) (k : Nat) (x y : ByteArray), k < l.length → ((flatP l).set (k * 2) (.string x)).set (k * 2 + 1) (.string y) = flatP (l.set k (x, y))
  | [], k, _, _, h => absurd h (Nat.not_lt_zero _)
  | p :: l, 0, _, _, _ => rfl
  | p :: l, k + 1, x, y, h => by
    have := flatP_set l k x y (by simpa using h)
    rw [show (k + 1) * 2 = k * 2 + 2 by omega]
    simpa [flatP] using this
theorem Row.parg {w : World} {base g c n : Nat} {ps : List PairT} (h : Row w base g n c (flatP ps)) (hs : SmallP ps) : PArg (some ⟨g, 0, none⟩) ps w := by
  refine ⟨hs.1, hs.2, fun _ => ⟨g, 0, rfl, h.lt, fun j hj => ?_⟩⟩
  have hn := h.len
  rw [flatP_len] at hn
  obtain ⟨e0, e1⟩ := flatP_get ps j hj
  rw [Nat.zero_add]
  exact ⟨(h.cell _ (by omega)).trans e0, (h.cell _ (by omega)).trans e1⟩
theorem info37 : (Tryz.prog.info? 34).map (fun i => (i.zero, i.size, i.bytes)) = some (some (.agg #[.string ⟨#[]⟩, .string ⟨#[]⟩]), 2, 32) := by kernel_rfl
theorem info_parts2 {i : Option TypeInfo} {a : Option Value} {b c : Nat} (h : i.map (fun i => (i.zero, i.size, i.bytes)) = some (a, b, c)) : ∃ j, i = some j ∧ j.zero = a ∧ j.size = b ∧ j.bytes = c := by
  cases i with
  | none => cases h
  | some j => simp only [Option.map_some, Option.some.injEq, Prod.mk.injEq] at h; exact ⟨j, rfl, h.1, h.2.1, h.2.2⟩
end Go.Proofs.YtfmpjlpakldheaaGreatDoor
namespace Go.Proofs.YtfmpjlpakldheaaGreatDoor
open Go.RowKit Go.Proofs.Sha

set_option maxRecDepth 100000 in
set_option maxHeartbeats 400000 in
theorem shigher_any (a b : ByteArray) (w : World) (ha : a.size ≤ 1048576) (hb : b.size ≤ 1048576) :
    Calls Tryz.prog 96 #[.string a, .string b] w fun e w' => e = .returned (.bool (rk (sha a.data.toList) (sha b.data.toList) a.data.toList b.data.toList)) ∧ Below w.heap.size w w' := by
  have hla : (sha a.data.toList).length = 32 := by unfold sha; rw [outTo_length]
  have hlb : (sha b.data.toList).length = 32 := by unfold sha; rw [outTo_length]
  have H1 := fun w' => spec_any a w' ha
  have H2 := fun w' => spec_any b w' hb
  have HR1 : Hid (sha a.data.toList = sha b.data.toList → rk (sha a.data.toList) (sha b.data.toList) a.data.toList b.data.toList = Op.bytesLess a.data.toList b.data.toList) := fun h => if_pos h
  have HR2 : Hid (sha a.data.toList ≠ sha b.data.toList → rk (sha a.data.toList) (sha b.data.toList) a.data.toList b.data.toList = Op.bytesLess (sha b.data.toList) (sha a.data.toList)) := fun h => if_neg h
  obtain ⟨X, hX⟩ : ∃ X, sha a.data.toList = X := ⟨_, rfl⟩
  obtain ⟨Y, hY⟩ : ∃ Y, sha b.data.toList = Y := ⟨_, rfl⟩
  rw [hX] at hla H1
  rw [hY] at hlb H2
  rw [hX, hY] at HR1 HR2
  rw [hX, hY]
  obtain ⟨SX, hSX⟩ : ∃ S : ByteArray, S = ⟨X.toArray⟩ := ⟨_, rfl⟩
  obtain ⟨SY, hSY⟩ : ∃ S : ByteArray, S = ⟨Y.toArray⟩ := ⟨_, rfl⟩
  have dX : SX.data.toList = X := by rw [hSX]
  have dY : SY.data.toList = Y := by rw [hSY]
  have zX : SX.size ≤ 1048576 := by rw [hSX]; show X.length ≤ _; omega
  have zY : SY.size ≤ 1048576 := by rw [hSY]; show Y.length ≤ _; omega
  rw [← hSX] at H1
  rw [← hSY] at H2
  have L1 := fun w' => less_any SY SX w' zY zX
  have L2 := fun w' => less_any a b w' ha hb
  rw [dX, dY] at L1
  have K1 : Hid (∀ w', Calls Tryz.prog 59 #[.string a] w' fun e w'' => e = .returned (.string SX) ∧ Below w'.heap.size w' w'') := H1
  have K2 : Hid (∀ w', Calls Tryz.prog 59 #[.string b] w' fun e w'' => e = .returned (.string SY) ∧ Below w'.heap.size w' w'') := H2
  have K3 : Hid (∀ w', Calls Tryz.prog 95 #[.string SY, .string SX] w' fun e w'' => e = .returned (.bool (Op.bytesLess Y X)) ∧ Below w'.heap.size w' w'') := L1
  have K4 : Hid (∀ w', Calls Tryz.prog 95 #[.string a, .string b] w' fun e w'' => e = .returned (.bool (Op.bytesLess a.data.toList b.data.toList)) ∧ Below w'.heap.size w' w'') := L2
  have tX : SX.toList = X := by rw [ByteArray.toList_eq, dX]
  have tY : SY.toList = Y := by rw [ByteArray.toList_eq, dY]
  have TXY : Hid (SX.toList = X ∧ SY.toList = Y) := ⟨tX, tY⟩
  clear hX hY H1 H2 L1 L2 hSX hSY dX dY zX zY hla hlb tX tY
  by_cases hXY : X = Y
  · have c1 : (SX.toList == SY.toList) = true := by rw [TXY.out.1, TXY.out.2, hXY]; simp
    have HR := HR1.out hXY
    have HR' : Hid (rk X Y a.data.toList b.data.toList = Op.bytesLess a.data.toList b.data.toList) := HR
    clear HR HR1 HR2 hXY
    go_enter Tryz.func96, Tryz.ntmps96
    go_wp2_with fail
    refine (K1.out _).mono ?_
    rintro e w1 ⟨rfl, hb1⟩
    go_wp2_with fail
    refine (K2.out _).mono ?_
    rintro e w2 ⟨rfl, hb2⟩
    go_wp2_with fail
    refine (K4.out _).mono ?_
    rintro e w3 ⟨rfl, hb3⟩
    go_wp2
    go_ret
    exact ⟨by rw [HR'.out]; rfl, (hb1.trans (hb2.mono hb1.size)).trans (hb3.mono (Nat.le_trans hb1.size hb2.size))⟩
  · have c1 : (SX.toList == SY.toList) = false := by rw [TXY.out.1, TXY.out.2]; exact beq_eq_false_iff_ne.2 hXY
    have HR' : Hid (rk X Y a.data.toList b.data.toList = Op.bytesLess Y X) := HR2.out hXY
    clear HR1 HR2 hXY
    go_enter Tryz.func96, Tryz.ntmps96
    go_wp2_with fail
    refine (K1.out _).mono ?_
    rintro e w1 ⟨rfl, hb1⟩
    go_wp2_with fail
    refine (K2.out _).mono ?_
    rintro e w2 ⟨rfl, hb2⟩
    go_wp2_with fail
    refine (K3.out _).mono ?_
    rintro e w3 ⟨rfl, hb3⟩
    go_wp2
    go_ret
    exact ⟨by rw [HR'.out]; rfl, (hb1.trans (hb2.mono hb1.size)).trans (hb3.mono (Nat.le_trans hb1.size hb2.size))⟩

end Go.Proofs.YtfmpjlpakldheaaGreatDoor
