import Derived.Test.YtcjffghdojfnbabDoorHc
namespace Go.Proofs.YtcjffghdojfnbabDoor
open Go.RowKit Go.Proofs.Sha

theorem size33 : (Tryd.prog.info? 32).map (·.size) = some 33 := by kernel_rfl
theorem info5' : (Tryd.prog.info? 5).map (fun i => (i.zero, i.size, i.bytes)) = some (some (.int .u8 0), 1, 1) := by kernel_rfl
def zerosR : List Value := (List.replicate 32 (0 : UInt8)).map B ++ [Value.string ⟨#[]⟩]
theorem allocR (w : World) : (Instr.alloc 32 true (.tuple #[])).run Tryd.prog w = .ok (.pointer (some ⟨w.heap.size, 0, none⟩)) (w.alloc (.cells zerosR.toArray 32)) := by kernel_rfl
theorem built32 (x0 x1 x2 x3 x4 x5 x6 x7 x8 x9 x10 x11 x12 x13 x14 x15 x16 x17 x18 x19 x20 x21 x22 x23 x24 x25 x26 x27 x28 x29 x30 x31 : UInt8) (s : ByteArray) : Tryd.prog.built 32 [(0, .agg ([x0, x1, x2, x3, x4, x5, x6, x7, x8, x9, x10, x11, x12, x13, x14, x15, x16, x17, x18, x19, x20, x21, x22, x23, x24, x25, x26, x27, x28, x29, x30, x31].map B).toArray), (1, .string s)] = some (([x0, x1, x2, x3, x4, x5, x6, x7, x8, x9, x10, x11, x12, x13, x14, x15, x16, x17, x18, x19, x20, x21, x22, x23, x24, x25, x26, x27, x28, x29, x30, x31].map B ++ [Value.string s]).toArray) := by kernel_rfl
theorem built_rank (X : List UInt8) (h : X.length = 32) (s : ByteArray) : Tryd.prog.built 32 [(0, .agg (X.map B).toArray), (1, .string s)] = some ((X.map B ++ [Value.string s]).toArray) := by
  match X, h with
  | [x0, x1, x2, x3, x4, x5, x6, x7, x8, x9, x10, x11, x12, x13, x14, x15, x16, x17, x18, x19, x20, x21, x22, x23, x24, x25, x26, x27, x28, x29, x30, x31], _ => exact built32 x0 x1 x2 x3 x4 x5 x6 x7 x8 x9 x10 x11 x12 x13 x14 x15 x16 x17 x18 x19 x20 x21 x22 x23 x24 x25 x26 x27 x28 x29 x30 x31 s

set_option maxRecDepth 100000 in
set_option maxHeartbeats 400000 in
theorem rank_any (s : ByteArray) (w : World) (hs : s.size ≤ 1048576)
    (hK : ∀ j, j < 64 → w.cell? ⟨0, j, none⟩ = some (.int .u32 ((kTab.getD j 0).toNat : Int))) :
    Calls Tryd.prog 14 #[Value.string s] w fun e w' => e = .returned (.agg ((sha s.data.toList).map B ++ [Value.string s]).toArray) ∧ Below w.heap.size w w' := by
  have hl0 : 0 < w.heap.size := World.block_lt_of_cell? w _ (hK 0 (by omega))
  have HH : Hid (∀ w' : World, Below w.heap.size w w' → Calls Tryd.prog 12 #[Value.string s] w' fun e w'' => e = .returned (.agg ((sha s.data.toList).map B).toArray) ∧ Below w'.heap.size w' w'') := fun w' hb => hash_any s w' hs (fun j hj => (hb.cell (by exact hl0)).trans (hK j hj))
  clear hK
  have hln : (sha s.data.toList).length = 32 := by unfold sha; rw [outTo_length]
  obtain ⟨M, hM⟩ : ∃ M, sha s.data.toList = M := ⟨_, rfl⟩
  have HM : Hid (sha s.data.toList = M) := hM
  rw [hM] at HH hln
  clear hM
  have h1c : ∀ v ∈ M.map B ++ [Value.string s], v.oneCell' = true := by
    intro v hv
    rcases List.mem_append.1 hv with hv | hv
    · obtain ⟨x, _, rfl⟩ := List.mem_map.1 hv
      rfl
    · rw [List.mem_singleton] at hv; subst hv; rfl
  have hl33 : (M.map B ++ [Value.string s]).length = 33 := by rw [List.length_append, List.length_map, hln]; rfl
  have HB := built_rank M hln s
  obtain ⟨L, hL⟩ : ∃ L, M.map B ++ [Value.string s] = L := ⟨_, rfl⟩
  have HL : Hid (M.map B ++ [Value.string s] = L) := hL
  rw [hL] at h1c hl33 HB
  obtain ⟨C, hC⟩ : ∃ C, (M.map B).toArray = C := ⟨_, rfl⟩
  rw [hC] at HB HH
  have HB' : Hid (Tryd.prog.built 32 [(0, .agg C), (1, .string s)] = some L.toArray) := HB
  clear hL hC HB
  go_enter Tryd.func14, Tryd.ntmps14
  go_wp2_with (first | (refine wpList_alloc_row _ rfl (some 2) rfl 32 32 rfl zerosR allocR ?_; intro g2 w2 hr2 hb2) | (go_at_call 12; refine (HH.out _ hb2).mono ?_; rintro e w3 ⟨rfl, hb3⟩) | (refine wpList_build_to _ rfl 32 #[(0, .tmp 4), (1, .tmp 5)] rfl L.toArray HB'.out ?_) | (refine wpList_store_whole _ rfl rfl 32 (.tmp 2) (.tmp 6) rfl w.heap.size g2 33 zerosR L rfl rfl (hr2.below hb3) hl33 size33 h1c ?_; intro w5 hR5 hg5))
  refine ret_any _ (p := 2) (ty := 32) rfl w.heap.size g2 33 33 L rfl hR5 Tryd.underlying32 rfl size33 rfl ?_
  refine ⟨?_, ?_⟩
  · rw [HM.out, HL.out]
  · exact (hb2.trans (hb3.mono hb2.size)).trans (below_of_grown hg5 (by have := hr2.ge; omega) (by have := hb2.size; have := hb3.size; omega))

/-- The order of keys. -/
def rk (X Y a b : List UInt8) : Bool := if X = Y then Op.bytesLess a b else Op.bytesLess Y X

theorem cell_last {w : World} {base g n cap : Nat} {xs : List Value} {v : Value} {m : Nat} (h : Row w base g n cap (xs ++ [v])) (hm : xs.length = m) : w.cell? ⟨g, m, none⟩ = some v := by
  subst hm
  have hn := h.len
  rw [List.length_append] at hn
  rw [h.cell _ (by simp at hn; omega), List.getElem?_append_right (Nat.le_refl _), Nat.sub_self]; rfl

set_option maxRecDepth 100000 in
set_option maxHeartbeats 400000 in
theorem above_any (X Y : List UInt8) (hX : X.length = 32) (hY : Y.length = 32) (a b : ByteArray) (w : World) :
    Calls Tryd.prog 15 #[.agg (X.map B ++ [Value.string a]).toArray, .agg (Y.map B ++ [Value.string b]).toArray] w fun e w' => e = .returned (.bool (rk X Y a.data.toList b.data.toList)) ∧ Below w.heap.size w w' := by
  obtain ⟨i0, hi0, hz0, hz1, hz2⟩ := info_parts info5'
  obtain ⟨LX, hLX⟩ : ∃ L, X.map B ++ [Value.string a] = L := ⟨_, rfl⟩
  obtain ⟨LY, hLY⟩ : ∃ L, Y.map B ++ [Value.string b] = L := ⟨_, rfl⟩
  have HLX : Hid (X.map B ++ [Value.string a] = LX) := hLX
  have HLY : Hid (Y.map B ++ [Value.string b] = LY) := hLY
  have l1 : LX.length = 33 := by rw [← hLX, List.length_append, List.length_map, hX]; rfl
  have l2 : LY.length = 33 := by rw [← hLY, List.length_append, List.length_map, hY]; rfl
  rw [hLX, hLY]
  have HL12 : Hid (LX.length = 33 ∧ LY.length = 33) := ⟨l1, l2⟩
  clear hLX hLY l1 l2
  have hsz : (Tryd.prog.info? 28).map (·.size) = some (X.map B).length := by rw [size32, List.length_map, hX]
  have hsz2 : (Tryd.prog.info? 28).map (·.size) = some (Y.map B).length := by rw [size32, List.length_map, hY]
  have HSZ : Hid ((Tryd.prog.info? 28).map (·.size) = some (X.map B).length ∧ (Tryd.prog.info? 28).map (·.size) = some (Y.map B).length) := ⟨hsz, hsz2⟩
  clear hsz hsz2
  by_cases hXY : X = Y
  · have HD : Hid (decide (X = Y) = true) := decide_eq_true hXY
    have HR : Hid (rk X Y a.data.toList b.data.toList = Op.bytesLess a.data.toList b.data.toList) := if_pos hXY
    clear hXY
    go_enter Tryd.func15, Tryd.ntmps15
    go_wp2_with (first | (refine wpList_box_row _ rfl (some 2) rfl 32 (.tmp 0) rfl LX rfl ?_; intro g2 w2 hr2 hb2) | (refine wpList_box_row _ rfl (some 3) rfl 32 (.tmp 1) rfl LY rfl ?_; intro g3 w3 hr3 hb3; have hR2 : Row w3 w.heap.size g2 33 33 (X.map B ++ [Value.string a]) := (by rw [HLX.out]; have := hr2.below hb3; rw [HL12.out.1] at this; exact this); have hR3 : Row w3 w2.heap.size g3 33 33 (Y.map B ++ [Value.string b]) := (by rw [HLY.out]; have := hr3; rw [HL12.out.2] at this; exact this); have cA : w3.cell? ⟨g2, 32, none⟩ = some (.string a) := cell_last hR2 (by rw [List.length_map, hX]); have cB : w3.cell? ⟨g3, 32, none⟩ = some (.string b) := cell_last hR3 (by rw [List.length_map, hY])) | (refine wpList_load_mid rfl 28 (.tmp 5) rfl g2 0 rfl (X.map B) _ (Row.prefix hR2) Tryd.underlying28 rfl HSZ.out.1 ?_) | (refine wpList_load_mid rfl 28 (.tmp 7) rfl g3 0 rfl (Y.map B) _ (Row.prefix hR3) Tryd.underlying28 rfl HSZ.out.2 ?_) | (refine wpList_eql_b _ rfl 28 28 (.tmp 6) (.tmp 8) rfl X Y 32 5 i0 rfl rfl Tryd.underlying28 Tryd.underlying5 hi0 cells5 hX hY (guard28 _ _ _ _ _) ?_; rw [HD.out]) | (refine wpList_load_mid rfl 28 (.tmp 15) rfl g2 0 rfl (X.map B) _ (Row.prefix hR2) Tryd.underlying28 rfl HSZ.out.1 ?_) | (refine wpList_load_mid rfl 28 (.tmp 17) rfl g3 0 rfl (Y.map B) _ (Row.prefix hR3) Tryd.underlying28 rfl HSZ.out.2 ?_) | fail)
    go_ret
    exact ⟨by rw [HR.out, ← ByteArray.toList_eq, ← ByteArray.toList_eq]; rfl, hb2.trans (hb3.mono hb2.size)⟩
  · have HD : Hid (decide (X = Y) = false) := decide_eq_false hXY
    have HR : Hid (rk X Y a.data.toList b.data.toList = Op.bytesLess Y X) := if_neg hXY
    clear hXY
    go_enter Tryd.func15, Tryd.ntmps15
    go_wp2_with (first | (refine wpList_box_row _ rfl (some 2) rfl 32 (.tmp 0) rfl LX rfl ?_; intro g2 w2 hr2 hb2) | (refine wpList_box_row _ rfl (some 3) rfl 32 (.tmp 1) rfl LY rfl ?_; intro g3 w3 hr3 hb3; have hR2 : Row w3 w.heap.size g2 33 33 (X.map B ++ [Value.string a]) := (by rw [HLX.out]; have := hr2.below hb3; rw [HL12.out.1] at this; exact this); have hR3 : Row w3 w2.heap.size g3 33 33 (Y.map B ++ [Value.string b]) := (by rw [HLY.out]; have := hr3; rw [HL12.out.2] at this; exact this); have cA : w3.cell? ⟨g2, 32, none⟩ = some (.string a) := cell_last hR2 (by rw [List.length_map, hX]); have cB : w3.cell? ⟨g3, 32, none⟩ = some (.string b) := cell_last hR3 (by rw [List.length_map, hY])) | (refine wpList_load_mid rfl 28 (.tmp 5) rfl g2 0 rfl (X.map B) _ (Row.prefix hR2) Tryd.underlying28 rfl HSZ.out.1 ?_) | (refine wpList_load_mid rfl 28 (.tmp 7) rfl g3 0 rfl (Y.map B) _ (Row.prefix hR3) Tryd.underlying28 rfl HSZ.out.2 ?_) | (refine wpList_eql_b _ rfl 28 28 (.tmp 6) (.tmp 8) rfl X Y 32 5 i0 rfl rfl Tryd.underlying28 Tryd.underlying5 hi0 cells5 hX hY (guard28 _ _ _ _ _) ?_; rw [HD.out]) | (refine wpList_load_mid rfl 28 (.tmp 15) rfl g2 0 rfl (X.map B) _ (Row.prefix hR2) Tryd.underlying28 rfl HSZ.out.1 ?_) | (refine wpList_load_mid rfl 28 (.tmp 17) rfl g3 0 rfl (Y.map B) _ (Row.prefix hR3) Tryd.underlying28 rfl HSZ.out.2 ?_) | fail)
    refine (greater_any X Y hX hY _).mono ?_
    rintro e w4 ⟨rfl, hb4⟩
    go_wp2
    go_ret
    exact ⟨by rw [HR.out]; rfl, (hb2.trans (hb3.mono hb2.size)).trans (hb4.mono (by have := hb2.size; have := hb3.size; omega))⟩
end Go.Proofs.YtcjffghdojfnbabDoor
