import Derived.Test.YthopecgcpfhceadKg
import Derived.Test.YthopecgcpfhceadKh
import Derived.Test.YthopecgcpfhceadYb
import Derived.Test.YthopecgcpfhceadH
namespace Go.Proofs.Ythopecgcpfhcead
open Go.RowKit Go.Proofs.Sha Go.Proofs.Disk

/-- A slice of numbers that was handed in. -/
structure IArg (a : Option Addr) (xs : List Int) (w : World) : Prop where
  le : xs.length ≤ 1048576
  at_ : 0 < xs.length → ∃ b off : Nat, a = some ⟨b, off, none⟩ ∧ b < w.heap.size ∧ ∀ j, j < xs.length → w.cell? ⟨b, off + j, none⟩ = some (.int .i64 (xs.getD j 0))
theorem IArg.below {a : Option Addr} {xs : List Int} {w w' : World} (h : IArg a xs w) (hb : Below w.heap.size w w') : IArg a xs w' := by
  refine ⟨h.le, fun hn => ?_⟩
  obtain ⟨b, off, ha, hlt, hc⟩ := h.at_ hn
  exact ⟨b, off, ha, Nat.lt_of_lt_of_le hlt hb.size, fun j hj => (hb.cell hlt).trans (hc j hj)⟩
def I (x : Int) : Value := .int .i64 x
theorem info3 : (Try.prog.info? 3).map (fun i => (i.zero, i.size, i.bytes)) = some (some (.int .i64 0), 1, 8) := by kernel_rfl
theorem info5 : (Try.prog.info? 5).map (fun i => (i.zero, i.size, i.bytes)) = some (some (.int .u8 0), 1, 1) := by kernel_rfl
theorem Row.iarg {w : World} {base g : Nat} {xs : List Int} (h : Row w base g xs.length xs.length (xs.map I)) (hx : xs.length ≤ 1048576) : IArg (some ⟨g, 0, none⟩) xs w := by
  refine ⟨hx, fun _ => ⟨g, 0, rfl, h.lt, fun j hj => ?_⟩⟩
  rw [Nat.zero_add, h.cell j hj, List.getElem?_map, List.getElem?_eq_getElem hj, List.getD_eq_getElem?_getD, List.getElem?_eq_getElem hj]
  rfl
set_option maxRecDepth 100000 in
set_option maxHeartbeats 1000000 in
theorem retD1 {fn : Func} {R : Ending → World → Prop} {A : Act} {p : Tmp} {gb : Nat} {x y : ByteArray} {z : Int} {W : World} (hres : fn.results = #[.cell p 33]) (hp : A.tmps.getD p undef = .pointer (some ⟨gb, 0, none⟩)) (hd : A.defers = []) (n : DB gb x y z W)
    (h : R (.returned (.agg #[.string x, .string y, .int .i64 z])) W) : bodyPost Try.prog fn R Exit.ret A W := by
  obtain ⟨c0, c1, c2, _, _, _⟩ := n.at
  have hp' : A.tmps[p]?.getD undef = .pointer (some ⟨gb, 0, none⟩) := by simpa using hp
  refine bodyPost_ret (v := .agg #[.string x, .string y, .int .i64 z]) ?_ hd h
  simp [results, hres, go_sem, asAddr, hp', c0, c1, c2]
theorem D2.belowAt {w : World} {ga gb : Nat} {st now : ByteArray} {cap : Int} {x y : ByteArray} {z : Int} {W W' : World} {n : Nat} (h : D2 w ga gb st now cap x y z W) (hb : Below n W W') (hn : gb < n) : D2 w ga gb st now cap x y z W' :=
  ⟨h.sz, h.nx, h.bl.trans (hb.mono (by have := h.nx; omega)), (hb.block ga (by have := h.nx; omega)).trans h.na, (hb.block gb hn).trans h.nb⟩
theorem D2.grown {w : World} {ga gb : Nat} {st now : ByteArray} {cap : Int} {x y : ByteArray} {z : Int} {W W' : World} {g : Nat} (h : D2 w ga gb st now cap x y z W) (hg : W.grownBy W' (some g)) (hlt : gb < g) : D2 w ga gb st now cap x y z W' :=
  h.belowAt (below_of_grown hg (show gb + 1 ≤ g by omega) (by have := (Array.getElem?_eq_some_iff.1 h.nb).1; omega)) (by omega)
theorem Row.take {w : World} {base g n cap : Nat} {xs ys : List Value} (h : Row w base g n cap xs) (m : Nat) (hm : m ≤ n) (hy : xs.take m = ys) : Row w base g m cap ys := by
  refine ⟨h.ge, h.lt, by rw [← hy, List.length_take, h.len]; omega, Nat.le_trans hm h.le, fun j hj => ?_, h.room, h.free⟩
  rw [h.cell j (by omega), ← hy, List.getElem?_take, if_pos hj]
/-- What a crash leaves. -/
def crashR (st now : ByteArray) (cap : Int) (ps : List Int) : ByteArray × Int :=
  if diskOk st now cap then (⟨(crash st.data.toList now.data.toList ps).toArray⟩, cap) else (⟨#[]⟩, 0)
theorem sectorEnd_any (p : Nat) (w : World) (h : p ≤ 1048576) : Calls Try.prog 31 #[.int .i64 (p : Int)] w fun e w' => e = .returned (.int .i64 (((p / 64 + 1) * 64 : Nat) : Int)) ∧ w' = w := by
  obtain ⟨q, hq⟩ : ∃ q, p / 64 = q := ⟨_, rfl⟩
  have u1 : (p : Int) / 64 = (q : Int) := by omega
  rw [hq]
  go_enter Try.func31, Try.ntmps31
  go_wp2_with fail
  go_ret
  refine ⟨?_, rfl⟩
  exact ret_int (by omega)
set_option maxRecDepth 100000 in
theorem beginning_any (s : ByteArray) (x : Int) (c : Nat) (w : World) (hs : s.size ≤ 1048576) (hc : (c : Int) = min (max x 0) (s.size : Int)) : Calls Try.prog 33 #[.string s, .int .i64 x] w fun e w' => e = .returned (.string (s.extract 0 c)) ∧ Below w.heap.size w w' := by
  have e : (min (max x 0) (s.size : Int)).toNat = c := by omega
  go_enter Try.func33, Try.ntmps33
  go_wp2_with fail
  go_ret
  refine ⟨?_, Below.refl _ _⟩
  rfl
set_option maxRecDepth 100000 in
set_option maxHeartbeats 1000000 in
theorem appendAt_any (l : List UInt8) (base g n cap p : Nat) (s : ByteArray) (w : World) (hr : Row w base g n cap (l.map B)) (hn : n ≤ p) (hp : p ≤ 1048576) (hs : s.size ≤ 1048576) (hb : base ≤ w.heap.size) :
    Calls Try.prog 32 #[.slice (some ⟨g, 0, none⟩) n cap, .int .i64 (p : Int), .string s] w fun e w' => ∃ g' n' cap', e = .returned (.slice (some ⟨g', 0, none⟩) n' cap') ∧ Row w' base g' n' cap' ((if s.size = 0 then l else l ++ List.replicate (p - n) 0 ++ s.data.toList).map B) ∧ Below base w w' := by
  obtain ⟨i0, hi0, hz0, hz1, hz2⟩ := info_parts info5
  by_cases h0 : s.size = 0
  · have hse : s = ⟨#[]⟩ := by
      apply ByteArray.ext
      exact Array.eq_empty_of_size_eq_zero h0
    rw [if_pos h0]
    subst hse
    go_enter Try.func32, Try.ntmps32
    go_wp2_with fail
    go_ret
    exact ⟨g, n, cap, rfl, hr, Below.refl _ _⟩
  · rw [if_neg h0]
    have z1 : s.toList.isEmpty = false := by
      cases e : s.toList with
      | nil => exact absurd (by have := congrArg List.length e; simpa [ByteArray.toList_eq] using this) h0
      | cons _ _ => rfl
    have hsub : (p : Int) - (n : Int) = ((p - n : Nat) : Int) := by omega
    obtain ⟨q, hq⟩ : ∃ q, p - n = q := ⟨_, rfl⟩
    rw [hq] at hsub ⊢
    have hge := hr.ge
    go_enter Try.func32, Try.ntmps32
    go_wp2_with (first | (at_builtin; refine wpList_append_zero _ rfl (.tmp 10) (.tmp 14) 31 3 rfl 5 i0 1 Try.underlying31 Try.underlying3 hi0 hz0 hz1 hz2 base g n cap _ rfl hr q rfl (by omega) (by omega) hb w.heap.size rfl ?_; intro g1 c1 w1 hrow1 hgrow1 hg1 hkeep1; have hge1 := hrow1.ge; have hb1 : base ≤ w1.heap.size := Nat.le_trans hb hgrow1.size) | (at_builtin; refine wpList_append_str _ rfl (.tmp 16) (.tmp 17) 31 9 rfl 5 i0 (.int .u8 0) 1 Try.underlying31 Try.underlying9 hi0 hz0 hz1 hz2 rfl base g1 (n + q) c1 _ rfl hrow1 s rfl (by unfold maxLen; omega) (by omega) hb1 w1.heap.size rfl ?_; intro g2 c2 w2 hrow2 hgrow2 hg2 hkeep2))
    go_ret
    refine ⟨g2, n + q + s.size, c2, rfl, ?_, ?_⟩
    · have e : (l ++ List.replicate q 0 ++ s.data.toList).map B = l.map B ++ List.replicate q (B 0) ++ s.data.toList.map B := by
        rw [List.map_append, List.map_append, List.map_replicate]
      rw [e]
      exact hrow2
    · exact (below_of_grown hgrow1 hge hb).trans (below_of_grown hgrow2 hge1 hb1)
theorem part_bytes (now : ByteArray) (P E c : Nat) (hc : c ≤ E - P) (hE : E ≤ now.size) : ((now.extract P E).extract 0 c).data.toList = (now.data.toList.drop P).take c ∧ ((now.extract P E).extract 0 c).size = c := by
  refine ⟨?_, ?_⟩
  · rw [ByteArray.data_extract, ByteArray.data_extract, Array.toList_extract, Array.toList_extract, List.extract_eq_take_drop, List.extract_eq_take_drop, List.drop_zero, List.take_take]
    congr 1
    omega
  · rw [ByteArray.size_extract, ByteArray.size_extract]; omega
set_option maxRecDepth 100000 in
set_option maxHeartbeats 2000000 in
theorem crash_impl (st now : ByteArray) (cap : Int) (a : Option Addr) (xs : List Int) (c : Nat) (w : World) (h : IArg a xs w) (h1 : st.size ≤ 1048576) (h2 : now.size ≤ 1048576) :
    Calls Try.prog 16 #[.agg #[.string st, .string now, .int .i64 cap], .slice a xs.length c] w fun e w' => e = .returned (.agg #[.string (crashR st now cap xs).1, .string (crashR st now cap xs).1, .int .i64 (crashR st now cap xs).2]) ∧ Below w.heap.size w w' := by
  obtain ⟨b, hb⟩ : ∃ b, diskOk st now cap = b := ⟨_, rfl⟩
  have HO : Hid (∀ w', Calls Try.prog 30 #[.agg #[.string st, .string now, .int .i64 cap]] w' fun e w'' => e = .returned (.bool b) ∧ Below w'.heap.size w' w'') := fun w' => by rw [← hb]; exact ok_impl st now cap w'
  cases b with
  | false =>
    have hr : crashR st now cap xs = (⟨#[]⟩, 0) := by unfold crashR; rw [if_neg (by rw [hb]; decide)]
    rw [hr]
    clear hr hb
    go_enter Try.func16, Try.ntmps16
    go_wp2_with fail
    refine (HO.out _).mono ?_
    rintro e w1 ⟨rfl, hb1⟩
    have hS := (D2.mk0 w st now cap).below hb1
    clear hb1
    obtain ⟨ga, hga⟩ : ∃ ga, w.heap.size = ga := ⟨_, rfl⟩
    obtain ⟨gb, hgb⟩ : ∃ gb, w.heap.size + 1 = gb := ⟨_, rfl⟩
    rw [hgb, hga]
    rw [hgb, hga] at hS
    clear hga hgb
    obtain ⟨c0, c1, c2, f0, f1, f2⟩ := hS.nb.at
    go_wp2_with fail
    exact retD1 Try.results16 rfl rfl (hS.all _ _ _).nb ⟨rfl, (hS.all _ _ _).fin⟩
  | true =>
    obtain ⟨k1, k2, k3, hpre⟩ := diskOk_some hb
    have hr : crashR st now cap xs = (⟨(crash st.data.toList now.data.toList xs).toArray⟩, cap) := by unfold crashR; rw [if_pos hb]
    rw [hr]
    clear hr hb hpre
    go_enter Try.func16, Try.ntmps16
    go_wp2_with fail
    refine (HO.out _).mono ?_
    rintro e w1 ⟨rfl, hb1⟩
    have hS := (D2.mk0 w st now cap).below hb1
    clear hb1 HO
    obtain ⟨ga, hga⟩ : ∃ ga, w.heap.size = ga := ⟨_, rfl⟩
    obtain ⟨gb, hgb⟩ : ∃ gb, w.heap.size + 1 = gb := ⟨_, rfl⟩
    rw [hgb, hga]
    rw [hgb, hga] at hS
    clear hga hgb
    obtain ⟨a0, a1, a2, _, _, _⟩ := hS.na.at
    have hgbl : gb < w1.heap.size := (Array.getElem?_eq_some_iff.1 hS.nb).1
    go_wp2_with (first | (refine wpList_bytes_row _ rfl (.tmp 15) 9 31 5 rfl st rfl Try.underlying9 Try.underlying31 Try.underlying5 ?_; intro g0 cap0 w0 hrow0 hbel0; have hS0 := hS.below hbel0; clear a0 a1 a2; obtain ⟨a0, a1, a2, _, _, _⟩ := hS0.na.at))
    have hle : st.data.toList.length ≤ now.data.toList.length := k3
    have hsl : st.data.toList.length = st.size := rfl
    have hnl : now.data.toList.length = now.size := rfl
    obtain ⟨base, hbase⟩ : ∃ base, w1.heap.size = base := ⟨_, rfl⟩
    rw [hbase] at hrow0 hgbl
    have hb0 : base ≤ w0.heap.size := by rw [← hbase]; exact hbel0.size
    clear hbel0 hS hbase
    go_loopw [5, 6, 22] (fun t5 t6 t22 wr => ∃ m g nn c' : Nat, m ≤ xs.length ∧ t22 = .int .i64 (m : Int) ∧ t6 = .int .i64 ((pos st.size now.size m : Nat) : Int) ∧ t5 = .slice (some ⟨g, 0, none⟩) nn c' ∧ Row wr base g nn c' ((left st.data.toList now.data.toList xs (pos st.size now.size m - st.size)).map B) ∧ D2 w ga gb st now cap ⟨#[]⟩ ⟨#[]⟩ 0 wr ∧ base ≤ wr.heap.size) (fun _ _ t22 _ => xs.length - (intOf t22).toNat)
    case atStart =>
      refine ⟨0, g0, st.size, cap0, Nat.zero_le _, rfl, rfl, rfl, ?_, hS0, hb0⟩
      rw [pos_zero, Nat.sub_self]
      exact hrow0
    case round =>
      clear hrow0 hS0 a0 a1 a2 hb0
      obtain ⟨m, g, nn, c', hm, rfl, rfl, rfl, hrow, hS, hb0⟩ := hrel
      obtain ⟨a0, a1, a2, _, _, _⟩ := hS.na.at
      have hge := hrow.ge
      have hxl := h.le
      have p1 := pos_le (fr := st.size) (n := now.size) k3 m
      have p2 := pos_le (fr := st.size) (n := now.size) k3 (m + 1)
      have p3 := pos_succ (fr := st.size) (n := now.size) k3 m
      by_cases hlt : m < xs.length
      · have z1 : decide ((m : Int) < (xs.length : Int)) = true := by simp; omega
        obtain ⟨x, hx⟩ : ∃ x, xs.getD m 0 = x := ⟨_, rfl⟩
        have HL := left_round (st := st.data.toList) (now := now.data.toList) (ps := xs) hle m hlt
        rw [hsl, hnl, hx] at HL
        obtain ⟨P, hP⟩ : ∃ P, pos st.size now.size m = P := ⟨_, rfl⟩
        obtain ⟨E, hE⟩ : ∃ E, pos st.size now.size (m + 1) = E := ⟨_, rfl⟩
        rw [hP] at hrow HL p1 p3 ⊢
        rw [hE] at HL p2 p3
        have hPE : P ≤ E := by omega
        obtain ⟨cc, hcc⟩ : ∃ cc : Nat, (cc : Int) = min (max x 0) ((E - P : Nat) : Int) := ⟨(min (max x 0) ((E - P : Nat) : Int)).toNat, by omega⟩
        have HL' := HL cc hcc
        obtain ⟨b, off, rfl, hbl, hcs⟩ := (h.below hS.fin).at_ (by omega)
        have hcx := hcs m hlt
        rw [hx] at hcx
        clear hcs HL
        have hmin : min (((P / 64 + 1) * 64 : Nat) : Int) (now.size : Int) = (E : Int) := by omega
        obtain ⟨S64, hS64⟩ : ∃ q, (P / 64 + 1) * 64 = q := ⟨_, rfl⟩
        have HE : Hid (∀ w', Calls Try.prog 31 #[.int .i64 (P : Int)] w' fun e w'' => e = .returned (.int .i64 (S64 : Int)) ∧ w'' = w') := fun w' => by rw [← hS64]; exact sectorEnd_any P w' (by omega)
        rw [hS64] at hmin p3
        have hxsz : (now.extract P E).size = E - P := by rw [ByteArray.size_extract]; omega
        have HB : Hid (∀ w', Calls Try.prog 33 #[.string (now.extract P E), .int .i64 x] w' fun e w'' => e = .returned (.string ((now.extract P E).extract 0 cc)) ∧ Below w'.heap.size w' w'') := fun w' => beginning_any _ x cc w' (by omega) (by rw [hxsz]; exact hcc)
        have hpb := part_bytes now P E cc (by omega) (by omega)
        obtain ⟨sB, hsB⟩ : ∃ sB, (now.extract P E).extract 0 cc = sB := ⟨_, rfl⟩
        rw [hsB] at HB hpb
        obtain ⟨l, hl⟩ : ∃ l, left st.data.toList now.data.toList xs (P - st.size) = l := ⟨_, rfl⟩
        have hll := left_len (st := st.data.toList) (now := now.data.toList) (ps := xs) (P - st.size)
        rw [hl] at hll hrow
        have hnn : l.length = nn := by have := hrow.len; rwa [List.length_map] at this
        have HA : Hid (∀ w', Row w' base g nn c' (l.map B) → base ≤ w'.heap.size → Calls Try.prog 32 #[.slice (some ⟨g, 0, none⟩) nn c', .int .i64 (P : Int), .string sB] w' fun e w'' => ∃ g' n' cap', e = .returned (.slice (some ⟨g', 0, none⟩) n' cap') ∧ Row w'' base g' n' cap' ((if sB.size = 0 then l else l ++ List.replicate (P - nn) 0 ++ sB.data.toList).map B) ∧ Below base w' w'') := fun w' hr hbw => appendAt_any l base g nn c' P sB w' hr (by omega) (by omega) (by omega) hbw
        clear hx hP hS64 hsB
        go_wp2_with fail
        go_region_held3 (fun W => W.cell? ⟨ga, 1, none⟩ = some (.string now)) (exact a1) (first | (go_at_call 31; refine (HE.out _).mono ?_; rintro e w2 ⟨rfl, rfl⟩))
        rw [← p3]
        have q1 : (P : Int) ≤ (E : Int) := by omega
        have q2 : (E : Int) ≤ (now.size : Int) := by omega
        clear p3 hmin
        go_wp2_with fail
        refine (HB.out _).mono ?_
        rintro e w2 ⟨rfl, hb2⟩
        have hS2 := hS.drew.below hb2
        have hrow2 := hrow.drew.below hb2
        have hb2' : base ≤ w2.heap.size := Nat.le_trans hb0 hb2.size
        clear hS hrow hb2 a0 a1 a2 HB hcx
        go_wp2_with fail
        refine (HA.out _ hrow2 hb2').mono ?_
        rintro e w3 ⟨g3, n3, c3, rfl, hrow3, hb3⟩
        have hS3 := hS2.belowAt hb3 hgbl
        have hb3' : base ≤ w3.heap.size := Nat.le_trans hb2' hb3.size
        clear hS2 hrow2 HA
        go_wp2_with fail
        go_roundw
        case rel =>
          refine ⟨m + 1, g3, n3, c3, hlt, rfl, by rw [hE], rfl, ?_, hS3, hb3'⟩
          rw [hE, HL', ← hpb.1]
          have e : (if sB.size = 0 then l else l ++ List.replicate (P - nn) 0 ++ sB.data.toList) = (if cc = 0 then left st.data.toList now.data.toList xs (P - st.size) else full st.data.toList now.data.toList xs (P - st.size) ++ sB.data.toList) := by
            rw [hpb.2]
            split
            · exact hl.symm
            · rw [full, hl, hnn, hsl, show st.size + (P - st.size) = P by omega]
          rw [← e]
          exact hrow3
        case measure => simp [intOf]; omega
      · obtain rfl : m = xs.length := by omega
        have z1 : decide ((xs.length : Int) < (xs.length : Int)) = false := by simp
        have hcr := crash_eq (st := st.data.toList) (now := now.data.toList) (ps := xs) hle
        rw [hsl, hnl] at hcr
        obtain ⟨Lf, hLf⟩ : ∃ Lf, left st.data.toList now.data.toList xs (pos st.size now.size xs.length - st.size) = Lf := ⟨_, rfl⟩
        rw [hLf] at hrow hcr
        have HF : Hid (∀ w', Calls Try.prog 34 #[.string ⟨Lf.toArray⟩, .int .i64 cap] w' fun e w'' => e = .returned (.agg #[.string ⟨Lf.toArray⟩, .string ⟨Lf.toArray⟩, .int .i64 cap]) ∧ Below w'.heap.size w' w'') := fun w' => safe_any _ cap w'
        go_wp2_with (first | (refine wpList_string_row _ rfl (.tmp 44) 31 9 5 rfl base g nn c' Lf rfl hrow Try.underlying31 Try.underlying5 Try.underlying9 ?_))
        refine (HF.out _).mono ?_
        rintro e w2 ⟨rfl, hb2⟩
        have hS2 := hS.below hb2
        clear hS hb2 a0 a1 a2 hrow
        obtain ⟨c0, c1, c2, f0, f1, f2⟩ := hS2.nb.at
        go_wp2_with fail
        rw [hcr]
        exact retD1 Try.results16 rfl rfl (hS2.all _ _ _).nb ⟨rfl, (hS2.all _ _ _).fin⟩
end Go.Proofs.Ythopecgcpfhcead
