import Derived.Test.YthopecgcpfhceabKl
namespace Go.Proofs.Ythopecgcpfhceab
open Go.RowKit Go.Proofs.Sha Go.Proofs.Disk

theorem part_bytes (now : ByteArray) (P E c : Nat) (hc : c ≤ E - P) (hE : E ≤ now.size) : ((now.extract P E).extract 0 c).data.toList = (now.data.toList.drop P).take c ∧ ((now.extract P E).extract 0 c).size = c := by
  refine ⟨?_, ?_⟩
  · rw [ByteArray.data_extract, ByteArray.data_extract, Array.toList_extract, Array.toList_extract, List.extract_eq_take_drop, List.extract_eq_take_drop, List.drop_zero, List.take_take]
    congr 1
    omega
  · rw [ByteArray.size_extract, ByteArray.size_extract]; omega

set_option maxRecDepth 100000 in
set_option maxHeartbeats 2000000 in
theorem crash_impl (st now : ByteArray) (cap : Int) (a : Option Addr) (xs : List Int) (c : Nat) (w : World) (h : IArg a xs w) (h1 : st.size ≤ 1048576) (h2 : now.size ≤ 1048576) :
    Calls Try.prog 15 #[.agg #[.string st, .string now, .int .i64 cap], .slice a xs.length c] w fun e w' => e = .returned (.agg #[.string (crashR st now cap xs).1, .string (crashR st now cap xs).1, .int .i64 (crashR st now cap xs).2]) ∧ Below w.heap.size w w' := by
  obtain ⟨b, hb⟩ : ∃ b, diskOk st now cap = b := ⟨_, rfl⟩
  have HO : Hid (∀ w', Calls Try.prog 31 #[.agg #[.string st, .string now, .int .i64 cap]] w' fun e w'' => e = .returned (.bool b) ∧ Below w'.heap.size w' w'') := fun w' => by rw [← hb]; exact ok_impl st now cap w'
  cases b with
  | false =>
    have hr : crashR st now cap xs = (⟨#[]⟩, 0) := by unfold crashR; rw [if_neg (by rw [hb]; decide)]
    rw [hr]
    clear hr hb
    go_enter Try.func15, Try.ntmps15
    go_wp2_with fail
    refine (HO.out _).mono ?_
    rintro e w1 ⟨rfl, hb1⟩
    have hS := (D2.mk0 w st now cap).below hb1
    clear hb1
    obtain ⟨ga, hga⟩ : ∃ ga, w.heap.size = ga := ⟨_, rfl⟩
    obtain ⟨gb, hgb⟩ : ∃ gb, w.heap.size + 1 = gb := ⟨_, rfl⟩
    rw [hgb, hga]
    rw [hgb, hga] at hS
    clear hga hgb
    obtain ⟨c0, c1, c2, f0, f1, f2⟩ := hS.nb.at
    go_wp2_with fail
    exact retD1 Try.results15 rfl rfl (hS.all _ _ _).nb ⟨rfl, (hS.all _ _ _).fin⟩
  | true =>
    obtain ⟨k1, k2, k3, hpre⟩ := diskOk_some hb
    have hr : crashR st now cap xs = (⟨(crash st.data.toList now.data.toList xs).toArray⟩, cap) := by unfold crashR; rw [if_pos hb]
    rw [hr]
    clear hr hb hpre
    go_enter Try.func15, Try.ntmps15
    go_wp2_with fail
    refine (HO.out _).mono ?_
    rintro e w1 ⟨rfl, hb1⟩
    have hS := (D2.mk0 w st now cap).below hb1
    clear hb1 HO
    obtain ⟨ga, hga⟩ : ∃ ga, w.heap.size = ga := ⟨_, rfl⟩
    obtain ⟨gb, hgb⟩ : ∃ gb, w.heap.size + 1 = gb := ⟨_, rfl⟩
    rw [hgb, hga]
    rw [hgb, hga] at hS
    clear hga hgb
    obtain ⟨a0, a1, a2, _, _, _⟩ := hS.na.at
    have hgbl : gb < w1.heap.size := (Array.getElem?_eq_some_iff.1 hS.nb).1
    go_wp2_with (first | (refine wpList_bytes_row _ rfl (.tmp 15) 9 55 5 rfl st rfl Try.underlying9 Try.underlying55 Try.underlying5 ?_; intro g0 cap0 w0 hrow0 hbel0; have hS0 := hS.below hbel0; clear a0 a1 a2; obtain ⟨a0, a1, a2, _, _, _⟩ := hS0.na.at))
    have hle : st.data.toList.length ≤ now.data.toList.length := k3
    have hsl : st.data.toList.length = st.size := rfl
    have hnl : now.data.toList.length = now.size := rfl
    obtain ⟨base, hbase⟩ : ∃ base, w1.heap.size = base := ⟨_, rfl⟩
    rw [hbase] at hrow0 hgbl
    have hb0 : base ≤ w0.heap.size := by rw [← hbase]; exact hbel0.size
    clear hbel0 hS hbase
    go_loopw [5, 6, 22] (fun t5 t6 t22 wr => ∃ m g nn c' : Nat, m ≤ xs.length ∧ t22 = .int .i64 (m : Int) ∧ t6 = .int .i64 ((pos st.size now.size m : Nat) : Int) ∧ t5 = .slice (some ⟨g, 0, none⟩) nn c' ∧ Row wr base g nn c' ((left st.data.toList now.data.toList xs (pos st.size now.size m - st.size)).map B) ∧ D2 w ga gb st now cap ⟨#[]⟩ ⟨#[]⟩ 0 wr ∧ base ≤ wr.heap.size) (fun _ _ t22 _ => xs.length - (intOf t22).toNat)
    case atStart =>
      refine ⟨0, g0, st.size, cap0, Nat.zero_le _, rfl, rfl, rfl, ?_, hS0, hb0⟩
      rw [pos_zero, Nat.sub_self]
      exact hrow0
    case round =>
      clear hrow0 hS0 a0 a1 a2 hb0
      obtain ⟨m, g, nn, c', hm, rfl, rfl, rfl, hrow, hS, hb0⟩ := hrel
      obtain ⟨a0, a1, a2, _, _, _⟩ := hS.na.at
      have hge := hrow.ge
      have hxl := h.le
      have p1 := pos_le (fr := st.size) (n := now.size) k3 m
      have p2 := pos_le (fr := st.size) (n := now.size) k3 (m + 1)
      have p3 := pos_succ (fr := st.size) (n := now.size) k3 m
      by_cases hlt : m < xs.length
      · have z1 : decide ((m : Int) < (xs.length : Int)) = true := by simp; omega
        obtain ⟨x, hx⟩ : ∃ x, xs.getD m 0 = x := ⟨_, rfl⟩
        have HL := left_round (st := st.data.toList) (now := now.data.toList) (ps := xs) hle m hlt
        rw [hsl, hnl, hx] at HL
        obtain ⟨P, hP⟩ : ∃ P, pos st.size now.size m = P := ⟨_, rfl⟩
        obtain ⟨E, hE⟩ : ∃ E, pos st.size now.size (m + 1) = E := ⟨_, rfl⟩
        rw [hP] at hrow HL p1 p3 ⊢
        rw [hE] at HL p2 p3
        have hPE : P ≤ E := by omega
        obtain ⟨cc, hcc⟩ : ∃ cc : Nat, (cc : Int) = min (max x 0) ((E - P : Nat) : Int) := ⟨(min (max x 0) ((E - P : Nat) : Int)).toNat, by omega⟩
        have HL' := HL cc hcc
        obtain ⟨b, off, rfl, hbl, hcs⟩ := (h.below hS.fin).at_ (by omega)
        have hcx := hcs m hlt
        rw [hx] at hcx
        clear hcs HL
        have hmin : min (((P / 64 + 1) * 64 : Nat) : Int) (now.size : Int) = (E : Int) := by omega
        obtain ⟨S64, hS64⟩ : ∃ q, (P / 64 + 1) * 64 = q := ⟨_, rfl⟩
        have HE : Hid (∀ w', Calls Try.prog 32 #[.int .i64 (P : Int)] w' fun e w'' => e = .returned (.int .i64 (S64 : Int)) ∧ w'' = w') := fun w' => by rw [← hS64]; exact sectorEnd_any P w' (by omega)
        rw [hS64] at hmin p3
        have hxsz : (now.extract P E).size = E - P := by rw [ByteArray.size_extract]; omega
        have HB : Hid (∀ w', Calls Try.prog 34 #[.string (now.extract P E), .int .i64 x] w' fun e w'' => e = .returned (.string ((now.extract P E).extract 0 cc)) ∧ Below w'.heap.size w' w'') := fun w' => beginning_any _ x cc w' (by omega) (by rw [hxsz]; exact hcc)
        have hpb := part_bytes now P E cc (by omega) (by omega)
        obtain ⟨sB, hsB⟩ : ∃ sB, (now.extract P E).extract 0 cc = sB := ⟨_, rfl⟩
        rw [hsB] at HB hpb
        obtain ⟨l, hl⟩ : ∃ l, left st.data.toList now.data.toList xs (P - st.size) = l := ⟨_, rfl⟩
        have hll := left_len (st := st.data.toList) (now := now.data.toList) (ps := xs) (P - st.size)
        rw [hl] at hll hrow
        have hnn : l.length = nn := by have := hrow.len; rwa [List.length_map] at this
        have HA : Hid (∀ w', Row w' base g nn c' (l.map B) → base ≤ w'.heap.size → Calls Try.prog 33 #[.slice (some ⟨g, 0, none⟩) nn c', .int .i64 (P : Int), .string sB] w' fun e w'' => ∃ g' n' cap', e = .returned (.slice (some ⟨g', 0, none⟩) n' cap') ∧ Row w'' base g' n' cap' ((if sB.size = 0 then l else l ++ List.replicate (P - nn) 0 ++ sB.data.toList).map B) ∧ Below base w' w'') := fun w' hr hbw => appendAt_any l base g nn c' P sB w' hr (by omega) (by omega) (by omega) hbw
        clear hx hP hS64 hsB
        go_wp2_with fail
        go_region_held3 (fun W => W.cell? ⟨ga, 1, none⟩ = some (.string now)) (exact a1) (first | (go_at_call 32; refine (HE.out _).mono ?_; rintro e w2 ⟨rfl, rfl⟩))
        rw [← p3]
        have q1 : (P : Int) ≤ (E : Int) := by omega
        have q2 : (E : Int) ≤ (now.size : Int) := by omega
        clear p3 hmin
        go_wp2_with fail
        refine (HB.out _).mono ?_
        rintro e w2 ⟨rfl, hb2⟩
        have hS2 := hS.drew.below hb2
        have hrow2 := hrow.drew.below hb2
        have hb2' : base ≤ w2.heap.size := Nat.le_trans hb0 hb2.size
        clear hS hrow hb2 a0 a1 a2 HB hcx
        go_wp2_with fail
        refine (HA.out _ hrow2 hb2').mono ?_
        rintro e w3 ⟨g3, n3, c3, rfl, hrow3, hb3⟩
        have hS3 := hS2.belowAt hb3 hgbl
        have hb3' : base ≤ w3.heap.size := Nat.le_trans hb2' hb3.size
        clear hS2 hrow2 HA
        go_wp2_with fail
        go_roundw
        case rel =>
          refine ⟨m + 1, g3, n3, c3, hlt, rfl, by rw [hE], rfl, ?_, hS3, hb3'⟩
          rw [hE, HL', ← hpb.1]
          have e : (if sB.size = 0 then l else l ++ List.replicate (P - nn) 0 ++ sB.data.toList) = (if cc = 0 then left st.data.toList now.data.toList xs (P - st.size) else full st.data.toList now.data.toList xs (P - st.size) ++ sB.data.toList) := by
            rw [hpb.2]
            split
            · exact hl.symm
            · rw [full, hl, hnn, hsl, show st.size + (P - st.size) = P by omega]
          rw [← e]
          exact hrow3
        case measure => simp [intOf]; omega
      · obtain rfl : m = xs.length := by omega
        have z1 : decide ((xs.length : Int) < (xs.length : Int)) = false := by simp
        have hcr := crash_eq (st := st.data.toList) (now := now.data.toList) (ps := xs) hle
        rw [hsl, hnl] at hcr
        obtain ⟨Lf, hLf⟩ : ∃ Lf, left st.data.toList now.data.toList xs (pos st.size now.size xs.length - st.size) = Lf := ⟨_, rfl⟩
        rw [hLf] at hrow hcr
        have HF : Hid (∀ w', Calls Try.prog 35 #[.string ⟨Lf.toArray⟩, .int .i64 cap] w' fun e w'' => e = .returned (.agg #[.string ⟨Lf.toArray⟩, .string ⟨Lf.toArray⟩, .int .i64 cap]) ∧ Below w'.heap.size w' w'') := fun w' => safe_any _ cap w'
        go_wp2_with (first | (refine wpList_string_row _ rfl (.tmp 44) 55 9 5 rfl base g nn c' Lf rfl hrow Try.underlying55 Try.underlying5 Try.underlying9 ?_))
        refine (HF.out _).mono ?_
        rintro e w2 ⟨rfl, hb2⟩
        have hS2 := hS.below hb2
        clear hS hb2 a0 a1 a2 hrow
        obtain ⟨c0, c1, c2, f0, f1, f2⟩ := hS2.nb.at
        go_wp2_with fail
        rw [hcr]
        exact retD1 Try.results15 rfl rfl (hS2.all _ _ _).nb ⟨rfl, (hS2.all _ _ _).fin⟩
end Go.Proofs.Ythopecgcpfhceab
