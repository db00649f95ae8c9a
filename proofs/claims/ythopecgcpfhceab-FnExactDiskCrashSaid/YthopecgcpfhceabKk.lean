import Derived.Test.YthopecgcpfhceabKj
namespace Go.Proofs.Ythopecgcpfhceab
open Go.RowKit Go.Proofs.Sha Go.Proofs.Disk

set_option maxRecDepth 100000 in
set_option maxHeartbeats 1000000 in
theorem retD1 {fn : Func} {R : Ending → World → Prop} {A : Act} {p : Tmp} {gb : Nat} {x y : ByteArray} {z : Int} {W : World} (hres : fn.results = #[.cell p 33]) (hp : A.tmps.getD p undef = .pointer (some ⟨gb, 0, none⟩)) (hd : A.defers = []) (n : DB gb x y z W)
    (h : R (.returned (.agg #[.string x, .string y, .int .i64 z])) W) : bodyPost Try.prog fn R Exit.ret A W := by
  obtain ⟨c0, c1, c2, _, _, _⟩ := n.at
  have hp' : A.tmps[p]?.getD undef = .pointer (some ⟨gb, 0, none⟩) := by simpa using hp
  refine bodyPost_ret (v := .agg #[.string x, .string y, .int .i64 z]) ?_ hd h
  simp [results, hres, go_sem, asAddr, hp', c0, c1, c2]

theorem D2.belowAt {w : World} {ga gb : Nat} {st now : ByteArray} {cap : Int} {x y : ByteArray} {z : Int} {W W' : World} {n : Nat} (h : D2 w ga gb st now cap x y z W) (hb : Below n W W') (hn : gb < n) : D2 w ga gb st now cap x y z W' :=
  ⟨h.sz, h.nx, h.bl.trans (hb.mono (by have := h.nx; omega)), (hb.block ga (by have := h.nx; omega)).trans h.na, (hb.block gb hn).trans h.nb⟩
theorem D2.grown {w : World} {ga gb : Nat} {st now : ByteArray} {cap : Int} {x y : ByteArray} {z : Int} {W W' : World} {g : Nat} (h : D2 w ga gb st now cap x y z W) (hg : W.grownBy W' (some g)) (hlt : gb < g) : D2 w ga gb st now cap x y z W' :=
  h.belowAt (below_of_grown hg (show gb + 1 ≤ g by omega) (by have := (Array.getElem?_eq_some_iff.1 h.nb).1; omega)) (by omega)

theorem byte_getD (s : ByteArray) (i : Nat) (h : i < s.size) : Value.int .u8 (s[i].toNat : Int) = B (s.data.toList.getD i 0) := by
  have h' : i < s.data.toList.length := h
  rw [List.getD_eq_getElem?_getD, List.getElem?_eq_getElem h']
  rfl

theorem Row.take {w : World} {base g n cap : Nat} {xs ys : List Value} (h : Row w base g n cap xs) (m : Nat) (hm : m ≤ n) (hy : xs.take m = ys) : Row w base g m cap ys := by
  refine ⟨h.ge, h.lt, by rw [← hy, List.length_take, h.len]; omega, Nat.le_trans hm h.le, fun j hj => ?_, h.room, h.free⟩
  rw [h.cell j (by omega), ← hy, List.getElem?_take, if_pos hj]

/-- What a crash leaves. -/
def crashR (st now : ByteArray) (cap : Int) (ps : List Int) : ByteArray × Int :=
  if diskOk st now cap then (⟨(crash st.data.toList now.data.toList ps).toArray⟩, cap) else (⟨#[]⟩, 0)

set_option maxRecDepth 100000 in
set_option maxHeartbeats 1000000 in
theorem crash_spec (st now : ByteArray) (cap : Int) (a : Option Addr) (xs : List Int) (c : Nat) (w : World) (h : IArg a xs w) (h1 : st.size ≤ 1048576) (h2 : now.size ≤ 1048576) :
    Calls Try.prog 12 #[.agg #[.string st, .string now, .int .i64 cap], .slice a xs.length c] w fun e w' => e = .returned (.agg #[.string (crashR st now cap xs).1, .string (crashR st now cap xs).1, .int .i64 (crashR st now cap xs).2]) ∧ Below w.heap.size w w' := by
  obtain ⟨b, hb⟩ : ∃ b, diskOk st now cap = b := ⟨_, rfl⟩
  have HO : Hid (∀ w', Calls Try.prog 29 #[.agg #[.string st, .string now, .int .i64 cap]] w' fun e w'' => e = .returned (.bool b) ∧ Below w'.heap.size w' w'') := fun w' => by rw [← hb]; exact ok_spec st now cap w' h1 h2
  obtain ⟨i0, hi0, hz0, hz1, hz2⟩ := info_parts info5
  cases b with
  | false =>
    have hr : crashR st now cap xs = (⟨#[]⟩, 0) := by unfold crashR; rw [if_neg (by rw [hb]; decide)]
    rw [hr]
    clear hr hb
    go_enter Try.func12, Try.ntmps12
    go_wp2_with fail
    refine (HO.out _).mono ?_
    rintro e w1 ⟨rfl, hb1⟩
    have hS := (D2.mk0 w st now cap).below hb1
    clear hb1
    obtain ⟨ga, hga⟩ : ∃ ga, w.heap.size = ga := ⟨_, rfl⟩
    obtain ⟨gb, hgb⟩ : ∃ gb, w.heap.size + 1 = gb := ⟨_, rfl⟩
    rw [hgb, hga]
    rw [hgb, hga] at hS
    clear hga hgb
    obtain ⟨c0, c1, c2, f0, f1, f2⟩ := hS.nb.at
    go_wp2_with fail
    exact retD1 Try.results12 rfl rfl (hS.all _ _ _).nb ⟨rfl, (hS.all _ _ _).fin⟩
  | true =>
    obtain ⟨k1, k2, k3, hpre⟩ := diskOk_some hb
    have hr : crashR st now cap xs = (⟨(crash st.data.toList now.data.toList xs).toArray⟩, cap) := by unfold crashR; rw [if_pos hb]
    rw [hr]
    clear hr hb hpre
    go_enter Try.func12, Try.ntmps12
    go_wp2_with fail
    refine (HO.out _).mono ?_
    rintro e w1 ⟨rfl, hb1⟩
    have hS := (D2.mk0 w st now cap).below hb1
    clear hb1 HO
    obtain ⟨ga, hga⟩ : ∃ ga, w.heap.size = ga := ⟨_, rfl⟩
    obtain ⟨gb, hgb⟩ : ∃ gb, w.heap.size + 1 = gb := ⟨_, rfl⟩
    rw [hgb, hga]
    rw [hgb, hga] at hS
    clear hga hgb
    obtain ⟨a0, a1, a2, _, _, _⟩ := hS.na.at
    have hgbl : gb < w1.heap.size := (Array.getElem?_eq_some_iff.1 hS.nb).1
    go_wp2_with (first | (refine wpList_bytes_row _ rfl (.tmp 14) 9 55 5 rfl st rfl Try.underlying9 Try.underlying55 Try.underlying5 ?_; intro g0 cap0 w0 hrow0 hbel0; have hS0 := hS.below hbel0; clear a0 a1 a2; obtain ⟨a0, a1, a2, _, _, _⟩ := hS0.na.at))
    have hle : st.data.toList.length ≤ now.data.toList.length := k3
    have hsl : st.data.toList.length = st.size := rfl
    have hnl : now.data.toList.length = now.size := rfl
    obtain ⟨base, hbase⟩ : ∃ base, w1.heap.size = base := ⟨_, rfl⟩
    rw [hbase] at hrow0 hgbl
    have hb0 : base ≤ w0.heap.size := by rw [← hbase]; exact hbel0.size
    clear hbel0 hS hbase
    go_loopw [5, 6, 7] (fun t5 t6 t7 wr => ∃ k g c' : Nat, k ≤ now.size - st.size ∧ t7 = .int .i64 ((st.size + k : Nat) : Int) ∧ t5 = .slice (some ⟨g, 0, none⟩) (st.size + k) c' ∧ t6 = .int .i64 ((left st.data.toList now.data.toList xs k).length : Int) ∧ Row wr base g (st.size + k) c' ((full st.data.toList now.data.toList xs k).map B) ∧ D2 w ga gb st now cap ⟨#[]⟩ ⟨#[]⟩ 0 wr ∧ base ≤ wr.heap.size) (fun _ _ t7 _ => now.size - (intOf t7).toNat)
    case atStart => 
      refine ⟨0, g0, cap0, Nat.zero_le _, rfl, rfl, rfl, ?_, hS0, hb0⟩
      have e0 : full st.data.toList now.data.toList xs 0 = st.data.toList := by
        unfold full left; rw [Nat.add_zero, Nat.sub_self, List.replicate_zero, List.append_nil]
      rw [e0]
      exact hrow0
    case round =>
      clear hrow0 hS0 a0 a1 a2 hb0
      obtain ⟨k, g, c', hk, rfl, rfl, rfl, hrow, hS, hb0⟩ := hrel
      obtain ⟨a0, a1, a2, _, _, _⟩ := hS.na.at
      obtain ⟨I, hI⟩ : ∃ I, st.size + k = I := ⟨_, rfl⟩
      rw [hI] at hrow ⊢
      have hge := hrow.ge
      by_cases hlt : k < now.size - st.size
      · have z1 : decide ((I : Int) < (now.size : Int)) = true := by simp; omega
        have HK : Hid (∀ w', IArg a xs w' → Calls Try.prog 30 #[.agg #[.string st, .string now, .int .i64 cap], .slice a xs.length c, .int .i64 (I : Int)] w' fun e w'' => e = .returned (.bool (keptB st.size xs I)) ∧ Below w'.heap.size w' w'') := fun w' hw => kept_any st now cap a xs c I w' hw (by omega) (by omega)
        go_wp2_with fail
        refine (HK.out _ (h.below hS.fin)).mono ?_
        rintro e w2 ⟨rfl, hb2⟩
        have hS2 := hS.below hb2
        have hrow2 := hrow.below hb2
        have hb2' : base ≤ w2.heap.size := Nat.le_trans hb0 hb2.size
        clear hS hrow hb2 a0 a1 a2 HK
        obtain ⟨a0, a1, a2, _, _, _⟩ := hS2.na.at
        obtain ⟨kb, hkb⟩ : ∃ kb, keptB st.size xs I = kb := ⟨_, rfl⟩
        rw [hkb]
        cases kb with
        | true =>
          have hy := full_yes (st := st.data.toList) (now := now.data.toList) (ps := xs) (k := k) (by rw [hsl, hI]; exact hkb)
          rw [hsl, hI] at hy
          have hIn : I < now.size := by omega
          go_wp2_with (at_builtin; refine wpList_append_row _ rfl (.tmp 33) (.tmp 38) 55 rfl 5 i0 (.int .u8 0) 1 Try.underlying55 hi0 hz0 hz1 hz2 rfl base g I c' _ rfl (hrow2.alloc _) ⟨w2.heap.size, 0, none⟩ 1 1 [_] rfl rfl (World.news_of_block (heap_alloc_new w2 _)) (by simp [Value.oneCell']) (by unfold maxLen; omega) (by omega) (by simp; omega) (w2.heap.size + 1) (by simp) ?_; intro g3 c3 w3 hrow3 hgrow3 hg3 hkeep3)
          go_roundw
          case rel =>
            rw [byte_getD now I hIn] at hrow3
            have e : (full st.data.toList now.data.toList xs k).map B ++ [B (now.data.toList.getD I 0)] = (full st.data.toList now.data.toList xs (k + 1)).map B := by rw [hy.1, List.map_append]; rfl
            rw [e] at hrow3
            have hS3 := (hS2.below ((Below.refl _ _).alloc (Nat.le_refl _) _)).grown hgrow3 (by omega)
            refine ⟨k + 1, g3, c3, hlt, by go_num, by rw [← hI]; rfl, by rw [hy.2]; rfl, ?_, hS3, ?_⟩
            · rw [show st.size + (k + 1) = I + 1 by omega]; exact hrow3
            · have := hgrow3.size; simp at this; omega
          case measure => simp [intOf]; omega
        | false =>
          have hy := full_no (st := st.data.toList) (now := now.data.toList) (ps := xs) (k := k) (by rw [hsl, hI]; exact hkb)
          go_wp2_with (at_builtin; refine wpList_append_row _ rfl (.tmp 42) (.tmp 43) 55 rfl 5 i0 (.int .u8 0) 1 Try.underlying55 hi0 hz0 hz1 hz2 rfl base g I c' _ rfl (hrow2.alloc _) ⟨w2.heap.size, 0, none⟩ 1 1 [.int .u8 0] rfl rfl (World.news_of_block (heap_alloc_new w2 _)) (by simp [Value.oneCell']) (by unfold maxLen; omega) (by omega) (by simp; omega) (w2.heap.size + 1) (by simp) ?_; intro g3 c3 w3 hrow3 hgrow3 hg3 hkeep3)
          go_roundw
          case rel =>
            have e : (full st.data.toList now.data.toList xs k).map B ++ [.int .u8 0] = (full st.data.toList now.data.toList xs (k + 1)).map B := by rw [hy.1, List.map_append]; rfl
            rw [e] at hrow3
            have hS3 := (hS2.below ((Below.refl _ _).alloc (Nat.le_refl _) _)).grown hgrow3 (by omega)
            refine ⟨k + 1, g3, c3, hlt, by go_num, by rw [← hI]; rfl, by rw [hy.2], ?_, hS3, ?_⟩
            · rw [show st.size + (k + 1) = I + 1 by omega]; exact hrow3
            · have := hgrow3.size; simp at this; omega
          case measure => simp [intOf]; omega
      · obtain rfl : k = now.size - st.size := by omega
        have z1 : decide ((I : Int) < (now.size : Int)) = false := by simp; omega
        obtain ⟨Lf, hLf⟩ : ∃ Lf, left st.data.toList now.data.toList xs (now.size - st.size) = Lf := ⟨_, rfl⟩
        have hll := left_len (st := st.data.toList) (now := now.data.toList) (ps := xs) (now.size - st.size)
        have htk := full_take (st := st.data.toList) (now := now.data.toList) (ps := xs) (now.size - st.size)
        have hcr : crash st.data.toList now.data.toList xs = Lf := hLf
        rw [hLf] at hll htk ⊢
        have hLI : Lf.length ≤ I := by rw [← hI]; exact hll.2
        have hIc := hrow.le
        have hrowL : Row wr base g Lf.length c' (Lf.map B) := Row.take hrow Lf.length hLI (by rw [← List.map_take, htk])
        obtain ⟨ln, hln⟩ : ∃ ln, Lf.length = ln := ⟨_, rfl⟩
        rw [hln] at hrowL hLI ⊢
        have b1 : (ln : Int) ≤ (c' : Int) := by omega
        clear hll htk hLf
        obtain ⟨c0, c1, c2, f0, f1, f2⟩ := hS.nb.at
        have hne : ga ≠ gb := by have := hS.nx; omega
        go_wp2_with (first | (refine wpList_string_row _ rfl (.tmp 47) 55 9 5 rfl base g ln c' Lf rfl hrowL Try.underlying55 Try.underlying5 Try.underlying9 ?_))
        rw [hcr]
        exact retD1 Try.results12 rfl rfl (hS.all _ _ _).nb ⟨rfl, (hS.all _ _ _).fin⟩
end Go.Proofs.Ythopecgcpfhceab
