import Derived.Test.YthopecgcpfhceadCi
import Derived.Test.YthopecgcpfhceadCj
namespace Go.Proofs.Ythopecgcpfhcead
open Go.RowKit Go.Proofs.Sha Go.Proofs.Disk

/-- Disks that lie in blocks of their own. -/
def Blk (L : List (Nat × ByteArray × ByteArray × Int)) (W : World) : Prop := ∀ t ∈ L, DB t.1 t.2.1 t.2.2.1 t.2.2.2 W
theorem Blk.below {L : List (Nat × ByteArray × ByteArray × Int)} {W W' : World} (h : Blk L W) (hb : Below W.heap.size W W') : Blk L W' := fun t ht => (h t ht).below hb
theorem Blk.alloc {L : List (Nat × ByteArray × ByteArray × Int)} {W : World} (h : Blk L W) (x y : ByteArray) (z : Int) : Blk ((W.heap.size, x, y, z) :: L) (W.alloc (.cells #[.string x, .string y, .int .i64 z] 33)) := by
  intro t ht
  rcases List.mem_cons.1 ht with rfl | ht
  · exact heap_alloc_new _ _
  · exact (h t ht).below ((Below.refl _ _).alloc (Nat.le_refl _) _)
theorem Row.iarg2 {w : World} {base g c : Nat} {xs : List Int} (h : Row w base g xs.length c (xs.map I)) (hx : xs.length ≤ 1048576) : IArg (some ⟨g, 0, none⟩) xs w := by
  refine ⟨hx, fun _ => ⟨g, 0, rfl, h.lt, fun j hj => ?_⟩⟩
  rw [Nat.zero_add, h.cell j hj, List.getElem?_map, List.getElem?_eq_getElem hj, List.getD_eq_getElem?_getD, List.getElem?_eq_getElem hj]
  rfl
/-- What stands while the law goes on. -/
structure CS (w : World) (gp : Nat) (ps : List Int) (L : List (Nat × ByteArray × ByteArray × Int)) (W : World) : Prop where
  bl : Below w.heap.size w W
  bk : Blk L W
  pi : IArg (some ⟨gp, 0, none⟩) ps W
theorem CS.below {w : World} {gp : Nat} {ps : List Int} {L : List (Nat × ByteArray × ByteArray × Int)} {W W' : World} (h : CS w gp ps L W) (hb : Below W.heap.size W W') : CS w gp ps L W' :=
  ⟨h.bl.trans (hb.mono h.bl.size), h.bk.below hb, h.pi.below hb⟩
theorem CS.alloc {w : World} {gp : Nat} {ps : List Int} {L : List (Nat × ByteArray × ByteArray × Int)} {W : World} (h : CS w gp ps L W) (x y : ByteArray) (z : Int) (g : Nat) (hg : W.heap.size = g) : CS w gp ps ((g, x, y, z) :: L) (W.alloc (.cells #[.string x, .string y, .int .i64 z] 33)) :=
  ⟨h.bl.alloc h.bl.size _, by rw [← hg]; exact h.bk.alloc x y z, h.pi.below ((Below.refl _ _).alloc (Nat.le_refl _) _)⟩

theorem diskOk_all {st now : ByteArray} {cp : Int} (h : diskOk st now cp = true) (C : ByteArray) (hC : C.size ≤ now.size) : diskOk C C cp = true := by
  have hs := diskOk_some h
  unfold diskOk
  rw [decide_eq_true (show (C.size : Int) ≤ cp by omega), decide_eq_true hs.2.1, Bool.true_and, Bool.true_and]
  unfold Lib.hasPrefix
  exact List.isPrefixOf_iff_prefix.2 (List.prefix_refl _)
theorem arr_eq (s : ByteArray) : (⟨s.data.toList.toArray⟩ : ByteArray) = s := by cases s; rfl
/-- What the law asks of a crash. -/
structure CrashOk (st now C : ByteArray) : Prop where
  lo : st.size ≤ C.size
  hi : C.size ≤ now.size
  front : C.extract 0 st.size = st
  bytes : ∀ i (h1 : i < C.size) (h2 : i < now.size), C[i] = now[i] ∨ C[i] = 0
theorem crash_ok {st now : ByteArray} {cp : Int} (h : diskOk st now cp = true) (ps : List Int) : CrashOk st now ⟨(crash st.data.toList now.data.toList ps).toArray⟩ := by
  obtain ⟨_, _, hle, t, ht⟩ := diskOk_some h
  have hd : now.data.toList = st.data.toList ++ t.data.toList := by rw [ht, ByteArray.data_append, Array.toList_append]
  have hll := left_len (st := st.data.toList) (now := now.data.toList) (ps := ps) (now.data.toList.length - st.data.toList.length)
  have hsl : st.data.toList.length = st.size := rfl
  have hnl : now.data.toList.length = now.size := rfl
  obtain ⟨L, hL⟩ : ∃ L, crash st.data.toList now.data.toList ps = L := ⟨_, rfl⟩
  have hL' : left st.data.toList now.data.toList ps (now.data.toList.length - st.data.toList.length) = L := hL
  rw [hL'] at hll
  rw [hL]
  have hsz : (⟨L.toArray⟩ : ByteArray).size = L.length := rfl
  refine ⟨by rw [hsz]; omega, by rw [hsz]; omega, ?_, ?_⟩
  · obtain ⟨r, hr⟩ := left_front st.data.toList now.data.toList ps (now.data.toList.length - st.data.toList.length)
    rw [hL'] at hr
    have e : (⟨L.toArray⟩ : ByteArray) = st ++ ⟨r.toArray⟩ := by
      apply ByteArray.ext
      rw [ByteArray.data_append, ← Array.toList_inj, Array.toList_append, hr]
    rw [e, extract_front]
  · intro i h1 h2
    have hb := left_bytes st.data.toList t.data.toList ps (now.data.toList.length - st.data.toList.length) i
    rw [← hd, hL'] at hb
    have h1' : i < L.length := h1
    have h2' : i < now.data.toList.length := h2
    have := hb h1'
    rw [List.getD_eq_getElem?_getD, List.getD_eq_getElem?_getD, List.getElem?_eq_getElem h1', List.getElem?_eq_getElem h2'] at this
    exact this

set_option maxRecDepth 100000 in
set_option maxHeartbeats 8000000 in
theorem law_crash (a : Option Addr) (xs : List Nat) (cap : Nat) (w : World) (hX : Code8 xs) (h : BL a xs w) :
    Calls Try.prog 5 #[.slice a xs.length cap] w fun e w' => e = .returned (.bool true) ∧ Below w.heap.size w w' := by
  obtain ⟨st, now, cp, ps, ⟨hst, hnow, hps⟩, HD⟩ := draw_det a xs cap hX
  replace HD : Hid _ := HD
  have hxl := hX.le
  have z0 : decide ((1048576 : Int) < (xs.length : Int)) = false := by simp; omega
  obtain ⟨ok, hok⟩ : ∃ b, diskOk st now cp = b := ⟨_, rfl⟩
  obtain ⟨⟨x1, y1, c1, k1⟩, hr⟩ : ∃ r, cutR st now cp (now.size : Int) = r := ⟨_, rfl⟩
  have HS1 : Hid (∀ w', Calls Try.prog 14 #[.agg #[.string st, .string now, .int .i64 cp]] w' fun e w'' => e = .returned (.tuple #[.agg #[.string x1, .string y1, .int .i64 c1], .int .i64 k1]) ∧ Below w'.heap.size w' w'') := fun w' => by
    have := sync_spec st now cp w' (by omega) (by omega)
    rw [hr] at this
    exact this
  have HS2 : Hid (∀ w', Calls Try.prog 15 #[.agg #[.string st, .string now, .int .i64 cp]] w' fun e w'' => e = .returned (.tuple #[.agg #[.string x1, .string y1, .int .i64 c1], .int .i64 k1]) ∧ Below w'.heap.size w' w'') := fun w' => by
    have := sync_impl st now cp w' (by omega) (by omega)
    rw [hr] at this
    exact this
  replace hr : Hid _ := hr
  go_enter Try.func5, Try.ntmps5
  go_wp2_with fail
  refine (HD.out _ h).mono ?_
  rintro e w1 ⟨gp, cpp, rfl, hi1, hb1⟩
  have hS1 : CS w gp ps [] w1 := ⟨hb1, (fun t ht => by cases ht), hi1⟩
  obtain ⟨g1, hg1⟩ : ∃ g, w1.heap.size = g := ⟨_, rfl⟩
  have hS2 := hS1.alloc st now cp g1 hg1
  clear hb1 hi1 hS1
  go_upto_region 4 with fail
  generalize w1.alloc (.cells #[.string st, .string now, .int .i64 cp] 33) = W2 at hS2 ⊢
  clear hg1
  go_wp2_with fail
  refine (HD.out _ (h.below hS2.bl)).mono ?_
  rintro e w3 ⟨gq, cpq, rfl, hi3, hb3⟩
  have hS3 := hS2.below hb3
  obtain ⟨g2, hg2⟩ : ∃ g, w3.heap.size = g := ⟨_, rfl⟩
  have hS4 := hS3.alloc st now cp g2 hg2
  clear hb3 hi3 hS3 hS2
  go_upto_region 5 with fail
  generalize w3.alloc (.cells #[.string st, .string now, .int .i64 cp] 33) = W4 at hS4 ⊢
  clear hg2
  obtain ⟨d0, d1, d2, _, _, _⟩ := (hS4.bk (g2, st, now, cp) (by simp)).at
  go_wp2_with fail
  refine (HS1.out _).mono ?_
  rintro e w5 ⟨rfl, hb5⟩
  have hS5 := hS4.below hb5
  obtain ⟨g3, hg3⟩ : ∃ g, w5.heap.size = g := ⟨_, rfl⟩
  have hS6 := hS5.alloc x1 y1 c1 g3 hg3
  clear hb5 hS5 hS4 d0 d1 d2
  go_upto_region 6 with fail
  generalize w5.alloc (.cells #[.string x1, .string y1, .int .i64 c1] 33) = W6 at hS6 ⊢
  clear hg3
  obtain ⟨d0, d1, d2, _, _, _⟩ := (hS6.bk (g1, st, now, cp) (by simp)).at
  go_wp2_with fail
  refine (HS2.out _).mono ?_
  rintro e w7 ⟨rfl, hb7⟩
  have hS7 := hS6.below hb7
  obtain ⟨g4, hg4⟩ : ∃ g, w7.heap.size = g := ⟨_, rfl⟩
  have hS8 := hS7.alloc x1 y1 c1 g4 hg4
  clear hb7 hS7 hS6 d0 d1 d2
  go_upto_region 7 with fail
  generalize w7.alloc (.cells #[.string x1, .string y1, .int .i64 c1] 33) = W8 at hS8 ⊢
  clear hg4 HS1 HS2 HD
  cases ok with
  | false =>
    have hr' : ((⟨#[]⟩ : ByteArray), (⟨#[]⟩ : ByteArray), (0 : Int), (9 : Int)) = (x1, y1, c1, k1) := by rw [← hr.out, cutR_sync, hok, if_neg (by decide)]
    simp only [Prod.mk.injEq] at hr'
    obtain ⟨rfl, rfl, rfl, rfl⟩ := hr'
    go_wp2_with fail
    go_ret
    exact ⟨rfl, hS8.bl⟩
  | true =>
    have hr' : (now, now, cp, (0 : Int)) = (x1, y1, c1, k1) := by rw [← hr.out, cutR_sync, hok, if_pos rfl]
    simp only [Prod.mk.injEq] at hr'
    obtain ⟨rfl, rfl, rfl, rfl⟩ := hr'
    clear hr
    obtain ⟨i0, hi0, hz0, hz1, hz2⟩ := info_parts info3
    obtain ⟨g5, hg5⟩ : ∃ g, W8.heap.size = g := ⟨_, rfl⟩
    have hrow0 : Row (W8.alloc (.cells #[] 3)) g5 g5 0 0 ((List.replicate 0 (64 : Int)).map I) := by
      have := Row.of_block (Nat.le_refl W8.heap.size) (heap_alloc_new W8 (.cells #[] 3)) 0 (Nat.zero_le _) (.inl rfl)
      rw [hg5] at this
      simpa using this
    have hb0 : Below g5 W8 (W8.alloc (.cells #[] 3)) := by rw [← hg5]; exact (Below.refl _ _).alloc (Nat.le_refl _) _
    obtain ⟨m, hm⟩ : ∃ m, now.size / 64 = m := ⟨_, rfl⟩
    have um : (now.size : Int) / 64 = (m : Int) := by omega
    go_wp2_with fail
    go_loopw [11, 12] (fun t11 t12 wr => ∃ k g c : Nat, k ≤ m + 1 ∧ t12 = .int .i64 (k : Int) ∧ t11 = .slice (some ⟨g, 0, none⟩) k c ∧ Row wr g5 g k c ((List.replicate k (64 : Int)).map I) ∧ Below g5 W8 wr) (fun _ t12 _ => m + 1 - (intOf t12).toNat)
    case atStart => exact ⟨0, g5, 0, Nat.zero_le _, rfl, rfl, hrow0, hb0⟩
    case round =>
      clear hrow0 hb0
      obtain ⟨k, g, c, hk, rfl, rfl, hrow, hbel⟩ := hrel
      have hSr := hS8.below (by rw [hg5]; exact hbel)
      obtain ⟨d0, d1, d2, _, _, _⟩ := (hSr.bk (g2, st, now, cp) (by simp)).at
      have hge := hrow.ge
      have hsz := hbel.size
      by_cases hlt : k ≤ m
      · have z1 : decide ((k : Int) ≤ (m : Int)) = true := by simp; omega
        go_wp2_with (at_builtin; refine wpList_append_row _ rfl (.tmp 58) (.tmp 59) 34 rfl 3 i0 (.int .i64 0) 8 Try.underlying34 hi0 hz0 hz1 hz2 rfl g5 g k c _ rfl (hrow.alloc _) ⟨wr.heap.size, 0, none⟩ 1 1 [.int .i64 64] rfl rfl (World.news_of_block (heap_alloc_new wr _)) (by simp [Value.oneCell']) (by unfold maxLen; omega) (by omega) (by simp; omega) (wr.heap.size + 1) (by simp) ?_; intro g7 c7 w7' hrow7 hgrow7 hg7 hkeep7)
        go_roundw
        case rel =>
          have e : (List.replicate k (64 : Int)).map I ++ [.int .i64 64] = (List.replicate (k + 1) (64 : Int)).map I := by rw [List.replicate_succ', List.map_append]; rfl
          rw [e] at hrow7
          have hl : g5 ≤ wr.heap.size := by omega
          exact ⟨k + 1, g7, c7, by omega, rfl, rfl, hrow7, (hbel.alloc (by omega) _).grown hgrow7 (by simp; omega) (fun q hq => by cases hq; exact hge)⟩
        case measure => simp [intOf]; omega
      · obtain rfl : k = m + 1 := by omega
        have z1 : decide (((m + 1 : Nat) : Int) ≤ (m : Int)) = false := by rw [decide_eq_false_iff_not]; omega
        have hall : IArg (some ⟨g, 0, none⟩) (List.replicate (m + 1) (64 : Int)) wr := by
          refine Row.iarg2 (base := g5) (c := c) ?_ (by rw [List.length_replicate]; omega)
          rw [List.length_replicate]
          exact hrow
        obtain ⟨o1, o2, o3, t', ht'⟩ := diskOk_some hok
        have HNo : Hid (∀ w' ad cc, Calls Try.prog 16 #[.agg #[.string st, .string now, .int .i64 cp], .slice (some ad) 0 cc] w' fun e w'' => e = .returned (.agg #[.string st, .string st, .int .i64 cp]) ∧ Below w'.heap.size w' w'') := fun w' ad cc => by
          have := crash_impl st now cp (some ad) [] cc w' ⟨Nat.zero_le _, fun hh => absurd hh (Nat.lt_irrefl 0)⟩ (by omega) (by omega)
          unfold crashR at this
          rw [if_pos hok, crash_nil, arr_eq] at this
          exact this
        have HEv : Hid (∀ w', IArg (some ⟨g, 0, none⟩) (List.replicate (m + 1) (64 : Int)) w' → Calls Try.prog 16 #[.agg #[.string st, .string now, .int .i64 cp], .slice (some ⟨g, 0, none⟩) (m + 1) c] w' fun e w'' => e = .returned (.agg #[.string now, .string now, .int .i64 cp]) ∧ Below w'.heap.size w' w'') := fun w' hw => by
          have := crash_impl st now cp _ _ c w' hw (by omega) (by omega)
          have hd : now.data.toList = st.data.toList ++ t'.data.toList := by rw [ht', ByteArray.data_append, Array.toList_append]
          have hnl : now.data.toList.length = now.size := rfl
          have hca : crash st.data.toList now.data.toList (List.replicate (m + 1) 64) = now.data.toList := by
            rw [hd]
            exact crash_all _ _ _ (by rw [← hd, hnl]; omega)
          unfold crashR at this
          rw [if_pos hok, hca, arr_eq, List.length_replicate] at this
          exact this
        have hCo := crash_ok hok ps
        obtain ⟨C, hC⟩ : ∃ C : ByteArray, (⟨(crash st.data.toList now.data.toList ps).toArray⟩ : ByteArray) = C := ⟨_, rfl⟩
        rw [hC] at hCo
        have HSo : Hid (∀ w', IArg (some ⟨gp, 0, none⟩) ps w' → Calls Try.prog 16 #[.agg #[.string st, .string now, .int .i64 cp], .slice (some ⟨gp, 0, none⟩) ps.length cpp] w' fun e w'' => e = .returned (.agg #[.string C, .string C, .int .i64 cp]) ∧ Below w'.heap.size w' w'') := fun w' hw => by
          have := crash_impl st now cp _ _ cpp w' hw (by omega) (by omega)
          unfold crashR at this
          rw [if_pos hok, hC] at this
          exact this
        have hCz := hCo.hi
        have HAg : Hid (∀ w', IArg (some ⟨gp, 0, none⟩) ps w' → Calls Try.prog 16 #[.agg #[.string C, .string C, .int .i64 cp], .slice (some ⟨gp, 0, none⟩) ps.length cpp] w' fun e w'' => e = .returned (.agg #[.string C, .string C, .int .i64 cp]) ∧ Below w'.heap.size w' w'') := fun w' hw => by
          have := crash_impl C C cp _ _ cpp w' hw (by omega) (by omega)
          unfold crashR at this
          rw [if_pos (diskOk_all hok C hCz), crash_same, arr_eq] at this
          exact this
        have HLo : Hid (∀ w' ad cc, Calls Try.prog 16 #[.agg #[.string now, .string now, .int .i64 cp], .slice (some ad) 0 cc] w' fun e w'' => e = .returned (.agg #[.string now, .string now, .int .i64 cp]) ∧ Below w'.heap.size w' w'') := fun w' ad cc => by
          have := crash_impl now now cp (some ad) [] cc w' ⟨Nat.zero_le _, fun hh => absurd hh (Nat.lt_irrefl 0)⟩ (by omega) (by omega)
          unfold crashR at this
          rw [if_pos (diskOk_all hok now (Nat.le_refl _)), crash_nil, arr_eq] at this
          exact this
        have HCu : Hid (∀ w', Calls Try.prog 17 #[.agg #[.string st, .string now, .int .i64 cp], .int .i64 (st.size : Int)] w' fun e w'' => e = .returned (.tuple #[.agg #[.string st, .string st, .int .i64 cp], .int .i64 0]) ∧ Below w'.heap.size w' w'') := fun w' => by
          have := cut_impl st now cp (st.size : Int) w' (by omega) (by omega)
          have hx : now.extract 0 st.size = st := by rw [ht', extract_front]
          unfold cutR at this
          rw [if_pos hok, if_pos (by omega), Int.toNat_natCast, hx] at this
          exact this
        clear hC ht' o1 o2
        obtain ⟨e0, e1, e2, _, _, _⟩ := (hSr.bk (g1, st, now, cp) (by simp)).at
        go_wp2_with fail
        refine (HNo.out _ _ _).mono ?_
        rintro e w9 ⟨rfl, hb9⟩
        have hal : Below wr.heap.size wr (wr.alloc (.cells #[] 3)) := (Below.refl _ _).alloc (Nat.le_refl _) _
        have hS9 := (hSr.below hal).below hb9
        have ha9 := (hall.below hal).below hb9
        obtain ⟨g6, hg6⟩ : ∃ g, w9.heap.size = g := ⟨_, rfl⟩
        have hS10 := hS9.alloc st st cp g6 hg6
        have ha10 := ha9.below ((Below.refl _ w9).alloc (Nat.le_refl _) (.cells #[.string st, .string st, .int .i64 cp] 33))
        clear hal hS9 ha9 hb9 hSr hall e0 e1 e2 d0 d1 d2 hrow hbel hS8
        go_upto_region 17 with fail
        generalize w9.alloc (.cells #[.string st, .string st, .int .i64 cp] 33) = W10 at hS10 ha10 ⊢
        clear hg6 HNo
        obtain ⟨e0, e1, e2, _, _, _⟩ := (hS10.bk (g1, st, now, cp) (by simp)).at
        go_wp2_with fail
        refine (HEv.out _ ha10).mono ?_
        rintro e w11 ⟨rfl, hb11⟩
        have hS11 := hS10.below hb11
        obtain ⟨g7, hg7⟩ : ∃ g, w11.heap.size = g := ⟨_, rfl⟩
        have hS12 := hS11.alloc now now cp g7 hg7
        clear hS11 hS10 ha10 hb11 e0 e1 e2
        go_upto_region 18 with fail
        generalize w11.alloc (.cells #[.string now, .string now, .int .i64 cp] 33) = W12 at hS12 ⊢
        clear hg7 HEv
        obtain ⟨e0, e1, e2, _, _, _⟩ := (hS12.bk (g1, st, now, cp) (by simp)).at
        go_wp2_with fail
        refine (HSo.out _ hS12.pi).mono ?_
        rintro e w13 ⟨rfl, hb13⟩
        have hS13 := hS12.below hb13
        obtain ⟨g8, hg8⟩ : ∃ g, w13.heap.size = g := ⟨_, rfl⟩
        have hS14 := hS13.alloc C C cp g8 hg8
        clear hS13 hS12 hb13 e0 e1 e2
        go_upto_region 19 with fail
        generalize w13.alloc (.cells #[.string C, .string C, .int .i64 cp] 33) = W14 at hS14 ⊢
        clear hg8 HSo
        obtain ⟨e0, e1, e2, _, _, _⟩ := (hS14.bk (g8, C, C, cp) (by simp)).at
        go_wp2_with fail
        refine (HAg.out _ hS14.pi).mono ?_
        rintro e w15 ⟨rfl, hb15⟩
        have hS15 := hS14.below hb15
        obtain ⟨g9, hg9⟩ : ∃ g, w15.heap.size = g := ⟨_, rfl⟩
        have hS16 := hS15.alloc C C cp g9 hg9
        clear hS15 hS14 hb15 e0 e1 e2
        go_upto_region 20 with fail
        generalize w15.alloc (.cells #[.string C, .string C, .int .i64 cp] 33) = W16 at hS16 ⊢
        clear hg9 HAg
        obtain ⟨n0, n1, n2, _, _, _⟩ := (hS16.bk (g6, st, st, cp) (by simp)).at
        obtain ⟨v0, v1, v2, _, _, _⟩ := (hS16.bk (g7, now, now, cp) (by simp)).at
        obtain ⟨s0, s1, s2, _, _, _⟩ := (hS16.bk (g8, C, C, cp) (by simp)).at
        obtain ⟨t0, t1, t2, _, _, _⟩ := (hS16.bk (g9, C, C, cp) (by simp)).at
        obtain ⟨d0, d1, d2, _, _, _⟩ := (hS16.bk (g2, st, now, cp) (by simp)).at
        have hlo := hCo.lo
        have hfr := hCo.front
        have q1 : decide ((C.size : Int) < (st.size : Int)) = false := by simp; omega
        have q2 : decide ((now.size : Int) < (C.size : Int)) = false := by simp; omega
        have q6 : decide (C.size < st.size) = false := by simp; omega
        have q7 : decide (now.size < C.size) = false := by simp; omega
        have q8 : ¬ (C.size < st.size) := by omega
        have q9 : ¬ (now.size < C.size) := by omega
        have q3 : (st.size : Int) ≤ (C.size : Int) := by omega
        have q4 : (0 : Int) ≤ (st.size : Int) := by omega
        have q5 : (st.toList != st.toList) = false := by simp
        go_upto_region 22 with fail
        clear n0 n1 n2 v0 v1 v2 t0 t1 t2 s0 s2 d2
        go_region_held3 (fun W => W.cell? ⟨g8, 1, none⟩ = some (.string C) ∧ W.cell? ⟨g2, 0, none⟩ = some (.string st) ∧ W.cell? ⟨g2, 1, none⟩ = some (.string now)) (exact ⟨s1, d0, d1⟩) (fail)
        have hS17 : CS w gp ps _ W16.drew := ⟨hS16.bl.drew, fun t ht => (hS16.bk t ht).drew, ⟨hS16.pi.le, hS16.pi.at_⟩⟩
        generalize W16.drew = W17 at hS17 ⊢
        clear hS16 s1 d0 d1 q1 q2 q3 q4 q5 q6 q7 q8 q9
        go_wp2_with fail
        go_loopw [17] (fun t17 wq => ∃ k : Nat, k ≤ C.size ∧ t17 = .int .i64 (k : Int) ∧ Below W17.heap.size W17 wq) (fun t17 _ => C.size - (intOf t17).toNat)
        case atStart => exact ⟨0, Nat.zero_le _, rfl, Below.refl _ _⟩
        case round =>
          obtain ⟨k, hk, rfl, hbq⟩ := hrel
          have hSq := hS17.below hbq
          obtain ⟨s0, s1, s2, _, _, _⟩ := (hSq.bk (g8, C, C, cp) (by simp)).at
          obtain ⟨d0, d1, d2, _, _, _⟩ := (hSq.bk (g2, st, now, cp) (by simp)).at
          by_cases hlt : k < C.size
          · have z2 : decide ((k : Int) < (C.size : Int)) = true := by simp; omega
            have b1 : (k : Int) < (C.size : Int) := by omega
            have b2 : (k : Int) < (now.size : Int) := by omega
            have b3 : k < now.size := by omega
            have b4 : (0 : Int) ≤ (k : Int) := by omega
            by_cases hA : C[k] = now[k]
            · have r1 : ((C[k].toNat : Int) != (now[k].toNat : Int)) = false := by rw [hA]; simp
              have r2 : (C[k].toNat != now[k].toNat) = false := by rw [hA]; simp
              have r3 : (C[k] != now[k]) = false := by rw [hA]; simp
              have r4 : (C[k].toNat == now[k].toNat) = true := by rw [hA]; simp
              have r5 : decide (C[k].toNat = now[k].toNat) = true := by rw [hA]; simp
              have r6 : decide (C[k] = now[k]) = true := by rw [hA]; simp
              have r7 : C[k].toNat = now[k].toNat := by rw [hA]
              go_wp2_with fail
              go_region
              go_wp2_with fail
              go_roundw
              case rel => exact ⟨k + 1, hlt, rfl, hbq.drew⟩
              case measure => simp [intOf]; omega
            · have hB : C[k] = 0 := (hCo.bytes k hlt b3).resolve_left hA
              have hN : ¬ now[k] = 0 := fun hn => hA (by rw [hB, hn])
              have hN2 : now[k].toNat ≠ 0 := fun hn => hN (UInt8.toNat_inj.1 (by rw [hn]; rfl))
              have hq : ((0 : Int) != (now[k].toNat : Int)) = true := by rw [bne_iff_ne]; omega
              have hq2 : ((now[k].toNat : Int) != 0) = true := by rw [bne_iff_ne]; omega
              go_wp2_with fail
              go_region
              go_wp2_with fail
              go_roundw
              case rel => exact ⟨k + 1, hlt, rfl, hbq.drew⟩
              case measure => simp [intOf]; omega
          · obtain rfl : k = C.size := by omega
            have z2 : decide ((C.size : Int) < (C.size : Int)) = false := by simp
            clear hS17 hbq s0 s2 d2
            obtain ⟨e0, e1, e2, _, _, _⟩ := (hSq.bk (g1, st, now, cp) (by simp)).at
            go_wp2_with fail
            refine (HCu.out _).mono ?_
            rintro e w19 ⟨rfl, hb19⟩
            have hS19 := hSq.below hb19
            obtain ⟨g10, hg10⟩ : ∃ g, w19.heap.size = g := ⟨_, rfl⟩
            have hS20 := hS19.alloc st st cp g10 hg10
            clear hS19 hSq hb19 e0 e1 e2 s1 d0 d1
            go_upto_region 30 with fail
            generalize w19.alloc (.cells #[.string st, .string st, .int .i64 cp] 33) = W20 at hS20 ⊢
            clear hg10 HCu
            obtain ⟨e0, e1, e2, _, _, _⟩ := (hS20.bk (g4, now, now, cp) (by simp)).at
            go_wp2_with fail
            refine (HLo.out _ _ _).mono ?_
            rintro e w21 ⟨rfl, hb21⟩
            have hal : Below W20.heap.size W20 (W20.alloc (.cells #[] 3)) := (Below.refl _ _).alloc (Nat.le_refl _) _
            have hS21 := (hS20.below hal).below hb21
            obtain ⟨g11, hg11⟩ : ∃ g, w21.heap.size = g := ⟨_, rfl⟩
            have hS22 := hS21.alloc now now cp g11 hg11
            clear hS21 hS20 hb21 hal e0 e1 e2
            go_upto_region 31 with fail
            generalize w21.alloc (.cells #[.string now, .string now, .int .i64 cp] 33) = W22 at hS22 ⊢
            clear hg11 HLo
            obtain ⟨l0, l1, l2, _, _, _⟩ := (hS22.bk (g11, now, now, cp) (by simp)).at
            obtain ⟨u0, u1, u2, _, _, _⟩ := (hS22.bk (g10, st, st, cp) (by simp)).at
            obtain ⟨d0, d1, d2, _, _, _⟩ := (hS22.bk (g2, st, now, cp) (by simp)).at
            go_wp2_with fail
            go_ret
            exact ⟨rfl, hS22.bl⟩

end Go.Proofs.Ythopecgcpfhcead
