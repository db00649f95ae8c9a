import Derived.Test.YtmfhfehemoeeeaaGreatDoorZsbo
import Derived.Test.YtmfhfehemoeeeaaGreatDoorZsba
set_option maxRecDepth 100000
set_option maxHeartbeats 4000000
namespace Go.Proofs.YtmfhfehemoeeeaaGreatDoor
open Go.RowKit Go.Proofs.Sha

/-- A list of pairs that is drawn. -/
def MGot (qs : List PairT) (z : Nat) (w : World) (e : Ending) (w' : World) : Prop := ∃ a' c', e = .returned (.tuple #[.slice a' qs.length c', .int .i64 (z : Int)]) ∧ PArg a' qs w' ∧ qs.length ≤ c' ∧ Below w.heap.size w w'
theorem amap_a (a : Option Addr) (xs : List Nat) (cap p x n z : Nat) (ps : List PairT) (hS : SmP ps n) (hn : n ≤ 14) (_hz : z ≤ 100000)
    (HT : ∀ w, BL a xs w → Calls Tryz.prog 14 #[.slice a xs.length cap, .int .i64 (p : Int), .int .i64 40] w fun e w' => e = .returned (.tuple #[.int .i64 (x : Int), .int .i64 ((p + 1 : Nat) : Int)]) ∧ Below w.heap.size w w')
    (HC : ∀ w, Calls Tryz.prog 39 #[.slice a xs.length cap, .int .i64 8, .int .i64 1, .int .i64 14] w fun e w' => e = .returned (.int .i64 (n : Int)) ∧ w' = w)
    (HM : ∀ w, BL a xs w → Calls Tryz.prog 38 #[.slice a xs.length cap, .int .i64 ((p + 1 : Nat) : Int), .int .i64 (n : Int)] w fun e w' => ∃ a' c', e = .returned (.tuple #[.slice a' ps.length c', .int .i64 (z : Int)]) ∧ OwnP w ps a' ps.length c' w') (hx : x < 35) :
    ∀ w, BL a xs w → Calls Tryz.prog 16 #[.slice a xs.length cap, .int .i64 (p : Int)] w (MGot ps z w) := by
  intro w hB
  have HT' : Hid (∀ w', Below w.heap.size w w' → Calls Tryz.prog 14 #[.slice a xs.length cap, .int .i64 (p : Int), .int .i64 40] w' fun e w'' => e = .returned (.tuple #[.int .i64 (x : Int), .int .i64 ((p + 1 : Nat) : Int)]) ∧ Below w'.heap.size w' w'') := fun w' hb => HT w' (hB.below hb)
  have HM' : Hid (∀ w', Below w.heap.size w w' → Calls Tryz.prog 38 #[.slice a xs.length cap, .int .i64 ((p + 1 : Nat) : Int), .int .i64 (n : Int)] w' fun e w'' => ∃ a' c', e = .returned (.tuple #[.slice a' ps.length c', .int .i64 (z : Int)]) ∧ OwnP w' ps a' ps.length c' w'') := fun w' hb => HM w' (hB.below hb)
  have HC' : Hid (∀ w', Calls Tryz.prog 39 #[.slice a xs.length cap, .int .i64 8, .int .i64 1, .int .i64 14] w' fun e w'' => e = .returned (.int .i64 (n : Int)) ∧ w'' = w') := HC
  clear HT HM HC hB
  have hpl := hS.len
  obtain ⟨L, hLL⟩ : ∃ L, xs.length = L := ⟨_, rfl⟩
  rw [hLL] at HT' HM' HC' ⊢
  obtain ⟨q1, hq1⟩ : ∃ q, p + 1 = q := ⟨_, rfl⟩
  rw [hq1] at HT' HM'
  clear hq1 hLL
  obtain ⟨N, hN⟩ : ∃ N, ps.length = N := ⟨_, rfl⟩
  rw [hN] at HM' hpl
  go_enter Tryz.func16, Tryz.ntmps16
  go_upto_region 3 with (first | (go_at_call 14; refine (HT'.out _ (Below.refl _ _)).mono ?_; rintro e w1 ⟨rfl, hb1⟩))
  go_upto_region 4 with (first | (go_at_call 39; refine (HC'.out _).mono ?_; rintro e wt ⟨rfl, hwt⟩; subst wt) | (go_at_call 38; refine (HM'.out _ hb1).mono ?_; rintro e w2 ⟨a2, c2, rfl, hO2⟩))
  have hbw := hb1.trans (hO2.bel.mono hb1.size)
  have hle := own2_le hO2.own
  have hsm := hS.small (by omega)
  clear HT' HM' HC'
  have z35 : ((x : Int) == 35) = false := by simp; omega
  have z36 : ((x : Int) == 36) = false := by simp; omega
  have z37 : ((x : Int) == 37) = false := by simp; omega
  have z38 : ((x : Int) == 38) = false := by simp; omega
  have z39 : ((x : Int) == 39) = false := by simp; omega
  clear hx
  have hP := ownp_parg hO2 hsm
  have hfin : Hid (MGot ps z w (.returned (.tuple #[.slice a2 N c2, .int .i64 (z : Int)])) w2) := ⟨a2, c2, by rw [hN], hP, by rw [hN]; exact hle, hbw⟩
  clear hP hO2 hle hsm hbw
  go_wp2_with fail
  go_ret2
  exact hfin.out
theorem amap_b (a : Option Addr) (xs : List Nat) (cap p x n z : Nat) (ps : List PairT) (hS : SmP ps n) (hn : n ≤ 14) (_hz : z ≤ 100000)
    (HT : ∀ w, BL a xs w → Calls Tryz.prog 14 #[.slice a xs.length cap, .int .i64 (p : Int), .int .i64 40] w fun e w' => e = .returned (.tuple #[.int .i64 (x : Int), .int .i64 ((p + 1 : Nat) : Int)]) ∧ Below w.heap.size w w')
    (HC : ∀ w, Calls Tryz.prog 39 #[.slice a xs.length cap, .int .i64 8, .int .i64 1, .int .i64 14] w fun e w' => e = .returned (.int .i64 (n : Int)) ∧ w' = w)
    (HM : ∀ w, BL a xs w → Calls Tryz.prog 38 #[.slice a xs.length cap, .int .i64 ((p + 1 : Nat) : Int), .int .i64 (n : Int)] w fun e w' => ∃ a' c', e = .returned (.tuple #[.slice a' ps.length c', .int .i64 (z : Int)]) ∧ OwnP w ps a' ps.length c' w') (hx : x = 35) (hl : ps.length ≤ 1) :
    ∀ w, BL a xs w → Calls Tryz.prog 16 #[.slice a xs.length cap, .int .i64 (p : Int)] w (MGot ps z w) := by
  intro w hB
  have HT' : Hid (∀ w', Below w.heap.size w w' → Calls Tryz.prog 14 #[.slice a xs.length cap, .int .i64 (p : Int), .int .i64 40] w' fun e w'' => e = .returned (.tuple #[.int .i64 (x : Int), .int .i64 ((p + 1 : Nat) : Int)]) ∧ Below w'.heap.size w' w'') := fun w' hb => HT w' (hB.below hb)
  have HM' : Hid (∀ w', Below w.heap.size w w' → Calls Tryz.prog 38 #[.slice a xs.length cap, .int .i64 ((p + 1 : Nat) : Int), .int .i64 (n : Int)] w' fun e w'' => ∃ a' c', e = .returned (.tuple #[.slice a' ps.length c', .int .i64 (z : Int)]) ∧ OwnP w' ps a' ps.length c' w'') := fun w' hb => HM w' (hB.below hb)
  have HC' : Hid (∀ w', Calls Tryz.prog 39 #[.slice a xs.length cap, .int .i64 8, .int .i64 1, .int .i64 14] w' fun e w'' => e = .returned (.int .i64 (n : Int)) ∧ w'' = w') := HC
  clear HT HM HC hB
  have hpl := hS.len
  obtain ⟨L, hLL⟩ : ∃ L, xs.length = L := ⟨_, rfl⟩
  rw [hLL] at HT' HM' HC' ⊢
  obtain ⟨q1, hq1⟩ : ∃ q, p + 1 = q := ⟨_, rfl⟩
  rw [hq1] at HT' HM'
  clear hq1 hLL
  obtain ⟨N, hN⟩ : ∃ N, ps.length = N := ⟨_, rfl⟩
  rw [hN] at HM' hpl
  go_enter Tryz.func16, Tryz.ntmps16
  go_upto_region 3 with (first | (go_at_call 14; refine (HT'.out _ (Below.refl _ _)).mono ?_; rintro e w1 ⟨rfl, hb1⟩))
  go_upto_region 4 with (first | (go_at_call 39; refine (HC'.out _).mono ?_; rintro e wt ⟨rfl, hwt⟩; subst wt) | (go_at_call 38; refine (HM'.out _ hb1).mono ?_; rintro e w2 ⟨a2, c2, rfl, hO2⟩))
  have hbw := hb1.trans (hO2.bel.mono hb1.size)
  have hle := own2_le hO2.own
  have hsm := hS.small (by omega)
  clear HT' HM' HC'
  have zl : decide ((1 : Int) < (N : Int)) = false := by simp; omega
  have zl' : decide (1 < N) = false := by simp; omega
  have z35 : ((x : Int) == 35) = true := by simp; omega
  have z36 : ((x : Int) == 36) = false := by simp; omega
  have z37 : ((x : Int) == 37) = false := by simp; omega
  have z38 : ((x : Int) == 38) = false := by simp; omega
  have z39 : ((x : Int) == 39) = false := by simp; omega
  clear hx
  have hP := ownp_parg hO2 hsm
  have hfin : Hid (MGot ps z w (.returned (.tuple #[.slice a2 N c2, .int .i64 (z : Int)])) w2) := ⟨a2, c2, by rw [hN], hP, by rw [hN]; exact hle, hbw⟩
  clear hP hO2 hle hsm hbw
  go_wp2_with fail
  go_ret2
  exact hfin.out
theorem amap_c (a : Option Addr) (xs : List Nat) (cap p x n z : Nat) (ps : List PairT) (hS : SmP ps n) (hn : n ≤ 14) (_hz : z ≤ 100000)
    (HT : ∀ w, BL a xs w → Calls Tryz.prog 14 #[.slice a xs.length cap, .int .i64 (p : Int), .int .i64 40] w fun e w' => e = .returned (.tuple #[.int .i64 (x : Int), .int .i64 ((p + 1 : Nat) : Int)]) ∧ Below w.heap.size w w')
    (HC : ∀ w, Calls Tryz.prog 39 #[.slice a xs.length cap, .int .i64 8, .int .i64 1, .int .i64 14] w fun e w' => e = .returned (.int .i64 (n : Int)) ∧ w' = w)
    (HM : ∀ w, BL a xs w → Calls Tryz.prog 38 #[.slice a xs.length cap, .int .i64 ((p + 1 : Nat) : Int), .int .i64 (n : Int)] w fun e w' => ∃ a' c', e = .returned (.tuple #[.slice a' ps.length c', .int .i64 (z : Int)]) ∧ OwnP w ps a' ps.length c' w') (hx : x = 36) (hl : ps.length = 0) :
    ∀ w, BL a xs w → Calls Tryz.prog 16 #[.slice a xs.length cap, .int .i64 (p : Int)] w (MGot ps z w) := by
  intro w hB
  have HT' : Hid (∀ w', Below w.heap.size w w' → Calls Tryz.prog 14 #[.slice a xs.length cap, .int .i64 (p : Int), .int .i64 40] w' fun e w'' => e = .returned (.tuple #[.int .i64 (x : Int), .int .i64 ((p + 1 : Nat) : Int)]) ∧ Below w'.heap.size w' w'') := fun w' hb => HT w' (hB.below hb)
  have HM' : Hid (∀ w', Below w.heap.size w w' → Calls Tryz.prog 38 #[.slice a xs.length cap, .int .i64 ((p + 1 : Nat) : Int), .int .i64 (n : Int)] w' fun e w'' => ∃ a' c', e = .returned (.tuple #[.slice a' ps.length c', .int .i64 (z : Int)]) ∧ OwnP w' ps a' ps.length c' w'') := fun w' hb => HM w' (hB.below hb)
  have HC' : Hid (∀ w', Calls Tryz.prog 39 #[.slice a xs.length cap, .int .i64 8, .int .i64 1, .int .i64 14] w' fun e w'' => e = .returned (.int .i64 (n : Int)) ∧ w'' = w') := HC
  clear HT HM HC hB
  have hpl := hS.len
  obtain ⟨L, hLL⟩ : ∃ L, xs.length = L := ⟨_, rfl⟩
  rw [hLL] at HT' HM' HC' ⊢
  obtain ⟨q1, hq1⟩ : ∃ q, p + 1 = q := ⟨_, rfl⟩
  rw [hq1] at HT' HM'
  clear hq1 hLL
  obtain ⟨N, hN⟩ : ∃ N, ps.length = N := ⟨_, rfl⟩
  rw [hN] at HM' hpl
  go_enter Tryz.func16, Tryz.ntmps16
  go_upto_region 3 with (first | (go_at_call 14; refine (HT'.out _ (Below.refl _ _)).mono ?_; rintro e w1 ⟨rfl, hb1⟩))
  go_upto_region 4 with (first | (go_at_call 39; refine (HC'.out _).mono ?_; rintro e wt ⟨rfl, hwt⟩; subst wt) | (go_at_call 38; refine (HM'.out _ hb1).mono ?_; rintro e w2 ⟨a2, c2, rfl, hO2⟩))
  have hbw := hb1.trans (hO2.bel.mono hb1.size)
  have hle := own2_le hO2.own
  have hsm := hS.small (by omega)
  clear HT' HM' HC'
  have zl : decide ((0 : Int) < (N : Int)) = false := by simp; omega
  have zl' : decide (0 < N) = false := by simp; omega
  have z35 : ((x : Int) == 35) = false := by simp; omega
  have z36 : ((x : Int) == 36) = true := by simp; omega
  have z37 : ((x : Int) == 37) = false := by simp; omega
  have z38 : ((x : Int) == 38) = false := by simp; omega
  have z39 : ((x : Int) == 39) = false := by simp; omega
  clear hx
  have hP := ownp_parg hO2 hsm
  have hfin : Hid (MGot ps z w (.returned (.tuple #[.slice a2 N c2, .int .i64 (z : Int)])) w2) := ⟨a2, c2, by rw [hN], hP, by rw [hN]; exact hle, hbw⟩
  clear hP hO2 hle hsm hbw
  go_wp2_with fail
  go_ret2
  exact hfin.out
theorem flatP_one : ∀ ps : List PairT, ∀ u ∈ flatP ps, u.oneCell' = true
  | [], u, hu => absurd hu List.not_mem_nil
  | p :: ps, u, hu => by
    rcases List.mem_cons.1 hu with h | h
    · rw [h]; rfl
    · rcases List.mem_cons.1 h with h | h
      · rw [h]; rfl
      · exact flatP_one ps u h
theorem amap_d (a : Option Addr) (xs : List Nat) (cap p x n z : Nat) (ps : List PairT) (hS : SmP ps n) (hn : n ≤ 14) (_hz : z ≤ 100000)
    (HT : ∀ w, BL a xs w → Calls Tryz.prog 14 #[.slice a xs.length cap, .int .i64 (p : Int), .int .i64 40] w fun e w' => e = .returned (.tuple #[.int .i64 (x : Int), .int .i64 ((p + 1 : Nat) : Int)]) ∧ Below w.heap.size w w')
    (HC : ∀ w, Calls Tryz.prog 39 #[.slice a xs.length cap, .int .i64 8, .int .i64 1, .int .i64 14] w fun e w' => e = .returned (.int .i64 (n : Int)) ∧ w' = w)
    (HM : ∀ w, BL a xs w → Calls Tryz.prog 38 #[.slice a xs.length cap, .int .i64 ((p + 1 : Nat) : Int), .int .i64 (n : Int)] w fun e w' => ∃ a' c', e = .returned (.tuple #[.slice a' ps.length c', .int .i64 (z : Int)]) ∧ OwnP w ps a' ps.length c' w') (hx : x = 36) (hl : 0 < ps.length) :
    ∀ w, BL a xs w → Calls Tryz.prog 16 #[.slice a xs.length cap, .int .i64 (p : Int)] w (MGot (ps ++ [ps.getD (ps.length - 1) noPair]) z w) := by
  intro w hB
  have HT' : Hid (∀ w', Below w.heap.size w w' → Calls Tryz.prog 14 #[.slice a xs.length cap, .int .i64 (p : Int), .int .i64 40] w' fun e w'' => e = .returned (.tuple #[.int .i64 (x : Int), .int .i64 ((p + 1 : Nat) : Int)]) ∧ Below w'.heap.size w' w'') := fun w' hb => HT w' (hB.below hb)
  have HM' : Hid (∀ w', Below w.heap.size w w' → Calls Tryz.prog 38 #[.slice a xs.length cap, .int .i64 ((p + 1 : Nat) : Int), .int .i64 (n : Int)] w' fun e w'' => ∃ a' c', e = .returned (.tuple #[.slice a' ps.length c', .int .i64 (z : Int)]) ∧ OwnP w' ps a' ps.length c' w'') := fun w' hb => HM w' (hB.below hb)
  have HC' : Hid (∀ w', Calls Tryz.prog 39 #[.slice a xs.length cap, .int .i64 8, .int .i64 1, .int .i64 14] w' fun e w'' => e = .returned (.int .i64 (n : Int)) ∧ w'' = w') := HC
  clear HT HM HC hB
  have hpl := hS.len
  obtain ⟨L, hLL⟩ : ∃ L, xs.length = L := ⟨_, rfl⟩
  rw [hLL] at HT' HM' HC' ⊢
  obtain ⟨q1, hq1⟩ : ∃ q, p + 1 = q := ⟨_, rfl⟩
  rw [hq1] at HT' HM'
  clear hq1 hLL
  obtain ⟨N, hN⟩ : ∃ N, ps.length = N := ⟨_, rfl⟩
  rw [hN] at HM' hpl
  go_enter Tryz.func16, Tryz.ntmps16
  go_upto_region 3 with (first | (go_at_call 14; refine (HT'.out _ (Below.refl _ _)).mono ?_; rintro e w1 ⟨rfl, hb1⟩))
  go_upto_region 4 with (first | (go_at_call 39; refine (HC'.out _).mono ?_; rintro e wt ⟨rfl, hwt⟩; subst wt) | (go_at_call 38; refine (HM'.out _ hb1).mono ?_; rintro e w2 ⟨a2, c2, rfl, hO2⟩))
  have hbw := hb1.trans (hO2.bel.mono hb1.size)
  have hle := own2_le hO2.own
  have hsm := hS.small (by omega)
  clear HT' HM' HC'
  have zl : decide ((0 : Int) < (N : Int)) = true := by simp; omega
  have zl' : decide (0 < N) = true := by simp; omega
  have z35 : ((x : Int) == 35) = false := by simp; omega
  have z36 : ((x : Int) == 36) = true := by simp; omega
  have z37 : ((x : Int) == 37) = false := by simp; omega
  have z38 : ((x : Int) == 38) = false := by simp; omega
  have z39 : ((x : Int) == 39) = false := by simp; omega
  clear hx
  obtain ⟨i0, hi0, hz0, hz1, hz2⟩ := info_parts2 info37
  have hP := ownp_parg hO2 hsm
  obtain ⟨b1, off1, rfl, hbl1, hc⟩ := hP.at_ (by omega)
  obtain ⟨hc1, hc2⟩ := hc (ps.length - 1) (by omega)
  have hsz := hsm.2 (ps.length - 1)
  have hsS : SmallP (ps ++ [ps.getD (ps.length - 1) noPair]) := by
    refine smallP_of (by rw [List.length_append, hN]; show N + 1 ≤ _; omega) (fun q hq => ?_)
    rcases List.mem_append.1 hq with h | h
    · have := hS.sz q h; omega
    · rw [List.mem_singleton.1 h]; exact hsz
  obtain ⟨u, hu⟩ : ∃ u, ps.getD (ps.length - 1) noPair = u := ⟨_, rfl⟩
  rw [hu] at hc1 hc2 hsS
  obtain ⟨k, hk⟩ : ∃ k, N - 1 = k := ⟨_, rfl⟩
  rw [hN, hk] at hc1 hc2
  have hk0 : (0 : Int) ≤ (k : Int) := Int.natCast_nonneg _
  have hk1 : (k : Int) < (N : Int) := by omega
  have yk : IntKind.i64.wrap ((N : Int) - 1) = (k : Int) := by rw [wrap_i64_in _ (by omega) (by omega)]; omega
  obtain ⟨uk, uv⟩ := u
  simp only at hc1 hc2
  have own := hO2.own
  have hbs := hO2.bel.size
  have hNs : N ≤ 1048576 := by omega
  clear hP hc hsz
  have hbz := hb1.size
  go_wp2_with (at_builtin; refine wpList_append_lies _ rfl (.tmp 49) (.tmp 56) 23 rfl w1.heap.size 56 i0 (.agg #[.string ⟨#[]⟩, .string ⟨#[]⟩]) 2 32 Tryz.underlying23 hi0 hz0 hz1 hz2 rfl (by decide) (.slice (some ⟨b1, off1, none⟩) N c2) N (flatP ps) rfl (own.alloc _) ⟨w2.heap.size, 0, none⟩ 1 1 [.string uk, .string uv] rfl rfl (World.news_of_block (heap_alloc_new w2 _)) (by simp [Value.oneCell']) (by decide) (by unfold maxLen; omega) (by omega) (by simp; omega) (w2.heap.size + 1) (by simp) ?_; intro g5 c5 w5 hown5 hgrow5 hat5 hlt5)
  have hM := hO2.more (y := (uk, uv)) hown5 hgrow5 rfl
  have hl5 : (ps ++ [(uk, uv)]).length = N + 1 := by rw [List.length_append, hN]; rfl
  go_ret2
  rw [hu]
  exact ⟨_, _, by rw [hl5]; rfl, ownp_parg hM hsS, by rw [hl5]; exact own2_le hM.own, hb1.trans (hM.bel.mono hb1.size)⟩
theorem OwnP.setp {w W : World} {xs : List PairT} {b m c : Nat} (h : OwnP w xs (some ⟨b, 0, none⟩) m c W) (k : Nat) (hk : k < xs.length) (x y : ByteArray) : OwnP w (xs.set k (x, y)) (some ⟨b, 0, none⟩) m c ((W.setCell ⟨b, k * 2, none⟩ (.string x)).setCell ⟨b, k * 2 + 1, none⟩ (.string y)) := by
  obtain ⟨k1, _⟩ := h.own.stored (k * 2) (.string x)
  obtain ⟨k2, _⟩ := k1.stored (k * 2 + 1) (.string y)
  have hg := (own2_cells h.own (g := b) rfl).1
  refine ⟨?_, (h.bel.setCell (p := ⟨b, k * 2, none⟩) hg _).setCell (p := ⟨b, k * 2 + 1, none⟩) hg _, by rw [List.length_set]; exact h.len⟩
  rw [flatP_set xs k x y hk] at k2
  exact k2
theorem parg_one (W : World) (k v : ByteArray) (hk : k.size ≤ 1048576) (hv : v.size ≤ 1048576) : PArg (some ⟨W.heap.size, 0, none⟩) [(k, v)] (W.alloc (.cells #[.string k, .string v] 56)) := by
  refine ⟨by simp, fun j => ?_, fun _ => ⟨W.heap.size, 0, rfl, by simp, fun j hj => ?_⟩⟩
  · cases j with
    | zero => exact ⟨hk, hv⟩
    | succ j => exact ⟨Nat.zero_le _, Nat.zero_le _⟩
  · obtain rfl : j = 0 := by simpa using hj
    exact ⟨Lib.cell_of_heap (heap_alloc_new W _) 0, Lib.cell_of_heap (heap_alloc_new W _) 1⟩
theorem amap_e (a : Option Addr) (xs : List Nat) (cap p x n z : Nat) (ps : List PairT) (hS : SmP ps n) (hn : n ≤ 14) (_hz : z ≤ 100000)
    (HT : ∀ w, BL a xs w → Calls Tryz.prog 14 #[.slice a xs.length cap, .int .i64 (p : Int), .int .i64 40] w fun e w' => e = .returned (.tuple #[.int .i64 (x : Int), .int .i64 ((p + 1 : Nat) : Int)]) ∧ Below w.heap.size w w')
    (HC : ∀ w, Calls Tryz.prog 39 #[.slice a xs.length cap, .int .i64 8, .int .i64 1, .int .i64 14] w fun e w' => e = .returned (.int .i64 (n : Int)) ∧ w' = w)
    (HM : ∀ w, BL a xs w → Calls Tryz.prog 38 #[.slice a xs.length cap, .int .i64 ((p + 1 : Nat) : Int), .int .i64 (n : Int)] w fun e w' => ∃ a' c', e = .returned (.tuple #[.slice a' ps.length c', .int .i64 (z : Int)]) ∧ OwnP w ps a' ps.length c' w') (hx : x = 35) (hl : 1 < ps.length) :
    ∀ w, BL a xs w → Calls Tryz.prog 16 #[.slice a xs.length cap, .int .i64 (p : Int)] w (MGot ((ps.set 0 (ps.getD 1 noPair)).set 1 (ps.getD 0 noPair)) z w) := by
  intro w hB
  have HT' : Hid (∀ w', Below w.heap.size w w' → Calls Tryz.prog 14 #[.slice a xs.length cap, .int .i64 (p : Int), .int .i64 40] w' fun e w'' => e = .returned (.tuple #[.int .i64 (x : Int), .int .i64 ((p + 1 : Nat) : Int)]) ∧ Below w'.heap.size w' w'') := fun w' hb => HT w' (hB.below hb)
  have HM' : Hid (∀ w', Below w.heap.size w w' → Calls Tryz.prog 38 #[.slice a xs.length cap, .int .i64 ((p + 1 : Nat) : Int), .int .i64 (n : Int)] w' fun e w'' => ∃ a' c', e = .returned (.tuple #[.slice a' ps.length c', .int .i64 (z : Int)]) ∧ OwnP w' ps a' ps.length c' w'') := fun w' hb => HM w' (hB.below hb)
  have HC' : Hid (∀ w', Calls Tryz.prog 39 #[.slice a xs.length cap, .int .i64 8, .int .i64 1, .int .i64 14] w' fun e w'' => e = .returned (.int .i64 (n : Int)) ∧ w'' = w') := HC
  clear HT HM HC hB
  have hpl := hS.len
  obtain ⟨L, hLL⟩ : ∃ L, xs.length = L := ⟨_, rfl⟩
  rw [hLL] at HT' HM' HC' ⊢
  obtain ⟨q1, hq1⟩ : ∃ q, p + 1 = q := ⟨_, rfl⟩
  rw [hq1] at HT' HM'
  clear hq1 hLL
  obtain ⟨N, hN⟩ : ∃ N, ps.length = N := ⟨_, rfl⟩
  rw [hN] at HM' hpl
  go_enter Tryz.func16, Tryz.ntmps16
  go_upto_region 3 with (first | (go_at_call 14; refine (HT'.out _ (Below.refl _ _)).mono ?_; rintro e w1 ⟨rfl, hb1⟩))
  go_upto_region 4 with (first | (go_at_call 39; refine (HC'.out _).mono ?_; rintro e wt ⟨rfl, hwt⟩; subst wt) | (go_at_call 38; refine (HM'.out _ hb1).mono ?_; rintro e w2 ⟨a2, c2, rfl, hO2⟩))
  have hbw := hb1.trans (hO2.bel.mono hb1.size)
  have hle := own2_le hO2.own
  have hsm := hS.small (by omega)
  clear HT' HM' HC'
  have zl : decide ((1 : Int) < (N : Int)) = true := by simp; omega
  have zl' : decide (1 < N) = true := by simp; omega
  have z35 : ((x : Int) == 35) = true := by simp; omega
  have z36 : ((x : Int) == 36) = false := by simp; omega
  have z37 : ((x : Int) == 37) = false := by simp; omega
  have z38 : ((x : Int) == 38) = false := by simp; omega
  have z39 : ((x : Int) == 39) = false := by simp; omega
  clear hx
  have hP := ownp_parg hO2 hsm
  rcases hO2.own.2 with ⟨_, h0⟩ | ⟨b1, cap', cur, e, hb, hg, w1c, w2c, w3c, w4c⟩
  · omega
  simp only [Value.slice.injEq] at e
  obtain ⟨rfl, _, rfl⟩ := e
  obtain ⟨b2, off2, e2, hbl1, hc⟩ := hP.at_ (by omega)
  obtain ⟨rfl, rfl⟩ : b1 = b2 ∧ 0 = off2 := by simpa using e2
  obtain ⟨hc1, hc2⟩ := hc 0 (by omega)
  obtain ⟨hc3, hc4⟩ := hc 1 (by omega)
  have hs0 := hsm.2 0
  have hs1 := hsm.2 1
  obtain ⟨u0, hu0⟩ : ∃ u, ps.getD 0 noPair = u := ⟨_, rfl⟩
  obtain ⟨u1, hu1⟩ : ∃ u, ps.getD 1 noPair = u := ⟨_, rfl⟩
  rw [hu0] at hc1 hc2 hs0
  rw [hu1] at hc3 hc4 hs1
  obtain ⟨k0, v0⟩ := u0
  obtain ⟨k1, v1⟩ := u1
  simp only [Nat.zero_mul, Nat.zero_add, Nat.one_mul] at hc1 hc2 hc3 hc4
  have own := hO2.own
  have hge : w1.heap.size ≤ b1 := hb
  have hlen : ((ps.set 0 (k1, v1)).set 1 (k0, v0)).length = N := by rw [List.length_set, List.length_set, hN]
  have hsS : SmallP ((ps.set 0 (k1, v1)).set 1 (k0, v0)) := by
    refine smallP_of (by rw [hlen]; omega) (fun q hq => ?_)
    rcases List.mem_or_eq_of_mem_set hq with h | h
    · rcases List.mem_or_eq_of_mem_set h with h | h
      · have := hS.sz q h; omega
      · rw [h]; exact hs1
    · rw [h]; exact hs0
  have al : Below w2.heap.size w2 (w2.alloc (.cells #[.string k0, .string v0] 56)) := (Below.refl _ _).alloc (Nat.le_refl _) _
  have hO3 : OwnP w1 ps (some ⟨b1, 0, none⟩) N c2 (w2.alloc (.cells #[.string k0, .string v0] 56)) := hO2.below al
  have nX := heap_alloc_new w2 (.cells #[.string k0, .string v0] 56)
  have hd1 := (al.cell (p := ⟨b1, 0, none⟩) hbl1).trans hc1
  have hd2 := (al.cell (p := ⟨b1, 1, none⟩) hbl1).trans hc2
  have hd3 := (al.cell (p := ⟨b1, 2, none⟩) hbl1).trans hc3
  have hd4 := (al.cell (p := ⟨b1, 3, none⟩) hbl1).trans hc4
  have ef : ∀ j, (w2.alloc (.cells #[.string k0, .string v0] 56)).frozen? ⟨b1, j, none⟩ = false := fun j => by rw [World.frozen?, (al.block b1 hbl1).trans hg]; rfl
  have hbX : Below w1.heap.size w1 (w2.alloc (.cells #[.string k0, .string v0] 56)) := hO3.bel
  have hbl3 : b1 < (w2.alloc (.cells #[.string k0, .string v0] 56)).heap.size := Nat.lt_of_lt_of_le hbl1 al.size
  have hgx : w2.heap.size ≠ b1 := by omega
  clear hP hc e2 hO2 hg w1c w2c w3c w4c hb
  go_upto_region 6 with fail
  generalize w2.alloc (.cells #[.string k0, .string v0] 56) = wX at hO3 nX hd1 hd2 hd3 hd4 ef hbX hbl3 ⊢
  obtain ⟨gx, hgxe⟩ : ∃ g, w2.heap.size = g := ⟨_, rfl⟩
  rw [hgxe] at nX hgx
  try rw [hgxe]
  clear hgxe al
  have hO4 := hO3.setp 0 (by omega) k1 v1
  simp only [Nat.zero_mul, Nat.zero_add] at hO4
  have nX4 : ((wX.setCell ⟨b1, 0, none⟩ (.string k1)).setCell ⟨b1, 1, none⟩ (.string v1)).heap[gx]? = some (.cells #[.string k0, .string v0] 56) := (Below.heap_setCell _ _ _ _ (by show gx ≠ b1; exact hgx)).trans ((Below.heap_setCell _ _ _ _ (by show gx ≠ b1; exact hgx)).trans nX)
  go_upto_region 7 with fail
  generalize (wX.setCell ⟨b1, 0, none⟩ (.string k1)).setCell ⟨b1, 1, none⟩ (.string v1) = wY at hO4 nX4 ⊢
  clear hd1 hd2 hd3 hd4 ef nX hO3
  have x0 := Lib.cell_of_heap nX4 0
  have x1 := Lib.cell_of_heap nX4 1
  obtain ⟨_, _, cur', hcur⟩ := own2_cells hO4.own (g := b1) rfl
  have y2 : ∀ j, wY.frozen? ⟨b1, j, none⟩ = false := fun j => by rw [World.frozen?, hcur]; rfl
  have c2x := ownp_parg hO4 (smallP_of (by rw [List.length_set]; omega) (fun q hq => by
    rcases List.mem_or_eq_of_mem_set hq with h | h
    · have := hS.sz q h; omega
    · rw [h]; exact hs1))
  obtain ⟨b3, off3, e3, hbl4, hcc⟩ := c2x.at_ (by rw [List.length_set]; omega)
  obtain ⟨rfl, rfl⟩ : b1 = b3 ∧ 0 = off3 := by simpa using e3
  obtain ⟨hcA, hcB⟩ := hcc 1 (by rw [List.length_set]; omega)
  simp only [Nat.zero_add, Nat.one_mul] at hcA hcB
  have hO5 := hO4.setp 1 (by rw [List.length_set]; omega) k0 v0
  simp only [Nat.one_mul] at hO5
  have hfin : Hid (MGot ((ps.set 0 (k1, v1)).set 1 (k0, v0)) z w (.returned (.tuple #[.slice (some ⟨b1, 0, none⟩) N c2, .int .i64 (z : Int)])) ((wY.setCell ⟨b1, 2, none⟩ (.string k0)).setCell ⟨b1, 3, none⟩ (.string v0))) := ⟨_, c2, by rw [hlen], ownp_parg hO5 hsS, by rw [hlen]; exact hle, hb1.trans (hO5.bel.mono hb1.size)⟩
  clear hO4 hO5 hcur nX4 hcc e3 c2x hsS
  go_wp2_with fail
  go_ret2
  try simp only [← List.getD_eq_getElem?_getD]
  rw [hu0, hu1]
  exact hfin.out
theorem amap_g (a : Option Addr) (xs : List Nat) (cap p x n z : Nat) (ps : List PairT) (hS : SmP ps n) (hn : n ≤ 14) (hz : z ≤ 100000)
    (HT : ∀ w, BL a xs w → Calls Tryz.prog 14 #[.slice a xs.length cap, .int .i64 (p : Int), .int .i64 40] w fun e w' => e = .returned (.tuple #[.int .i64 (x : Int), .int .i64 ((p + 1 : Nat) : Int)]) ∧ Below w.heap.size w w')
    (HC : ∀ w, Calls Tryz.prog 39 #[.slice a xs.length cap, .int .i64 8, .int .i64 1, .int .i64 14] w fun e w' => e = .returned (.int .i64 (n : Int)) ∧ w' = w)
    (HM : ∀ w, BL a xs w → Calls Tryz.prog 38 #[.slice a xs.length cap, .int .i64 ((p + 1 : Nat) : Int), .int .i64 (n : Int)] w fun e w' => ∃ a' c', e = .returned (.tuple #[.slice a' ps.length c', .int .i64 (z : Int)]) ∧ OwnP w ps a' ps.length c' w') (hx : x = 38) :
    ∀ w, BL a xs w → Calls Tryz.prog 16 #[.slice a xs.length cap, .int .i64 (p : Int)] w (MGot [(reps (256 + z % 2) 107, reps 2000 118)] z w) := by
  intro w hB
  have HT' : Hid (∀ w', Below w.heap.size w w' → Calls Tryz.prog 14 #[.slice a xs.length cap, .int .i64 (p : Int), .int .i64 40] w' fun e w'' => e = .returned (.tuple #[.int .i64 (x : Int), .int .i64 ((p + 1 : Nat) : Int)]) ∧ Below w'.heap.size w' w'') := fun w' hb => HT w' (hB.below hb)
  have HM' : Hid (∀ w', Below w.heap.size w w' → Calls Tryz.prog 38 #[.slice a xs.length cap, .int .i64 ((p + 1 : Nat) : Int), .int .i64 (n : Int)] w' fun e w'' => ∃ a' c', e = .returned (.tuple #[.slice a' ps.length c', .int .i64 (z : Int)]) ∧ OwnP w' ps a' ps.length c' w'') := fun w' hb => HM w' (hB.below hb)
  have HC' : Hid (∀ w', Calls Tryz.prog 39 #[.slice a xs.length cap, .int .i64 8, .int .i64 1, .int .i64 14] w' fun e w'' => e = .returned (.int .i64 (n : Int)) ∧ w'' = w') := HC
  clear HT HM HC hB
  have hpl := hS.len
  obtain ⟨L, hLL⟩ : ∃ L, xs.length = L := ⟨_, rfl⟩
  rw [hLL] at HT' HM' HC' ⊢
  obtain ⟨q1, hq1⟩ : ∃ q, p + 1 = q := ⟨_, rfl⟩
  rw [hq1] at HT' HM'
  clear hq1 hLL
  obtain ⟨N, hN⟩ : ∃ N, ps.length = N := ⟨_, rfl⟩
  rw [hN] at HM' hpl
  go_enter Tryz.func16, Tryz.ntmps16
  go_upto_region 3 with (first | (go_at_call 14; refine (HT'.out _ (Below.refl _ _)).mono ?_; rintro e w1 ⟨rfl, hb1⟩))
  go_upto_region 4 with (first | (go_at_call 39; refine (HC'.out _).mono ?_; rintro e wt ⟨rfl, hwt⟩; subst wt) | (go_at_call 38; refine (HM'.out _ hb1).mono ?_; rintro e w2 ⟨a2, c2, rfl, hO2⟩))
  have hbw := hb1.trans (hO2.bel.mono hb1.size)
  have hle := own2_le hO2.own
  have hsm := hS.small (by omega)
  clear HT' HM' HC'
  have z35 : ((x : Int) == 35) = false := by simp; omega
  have z36 : ((x : Int) == 36) = false := by simp; omega
  have z37 : ((x : Int) == 37) = false := by simp; omega
  have z38 : ((x : Int) == 38) = true := by simp; omega
  have z39 : ((x : Int) == 39) = false := by simp; omega
  clear hx
  have ym : (z : Int).tmod 2 = ((z % 2 : Nat) : Int) := by rw [Int.tmod_eq_emod_of_nonneg (by omega)]; omega
  have hm2 : z % 2 < 2 := Nat.mod_lt _ (by omega)
  obtain ⟨r, hr⟩ : ∃ r, z % 2 = r := ⟨_, rfl⟩
  rw [hr] at ym hm2
  have HK1 : Hid (∀ w', Calls Tryz.prog 40 #[.int .i64 ((256 + r : Nat) : Int), .string ⟨#[107]⟩] w' fun e w'' => e = .returned (.string (reps (256 + r) 107)) ∧ Below w'.heap.size w' w'') := fun w' => long_d 107 _ (256 + r) rfl (by omega) w'
  have HK2 : Hid (∀ w', Calls Tryz.prog 40 #[.int .i64 2000, .string ⟨#[118]⟩] w' fun e w'' => e = .returned (.string (reps 2000 118)) ∧ Below w'.heap.size w' w'') := fun w' => long_d 118 _ 2000 rfl (by omega) w'
  have yk : IntKind.i64.wrap (256 + (r : Int)) = ((256 + r : Nat) : Int) := by rw [wrap_i64_in _ (by omega) (by omega)]; omega
  obtain ⟨r2, hr2⟩ : ∃ r2, 256 + r = r2 := ⟨_, rfl⟩
  rw [hr2] at yk HK1
  have al : ∀ o w', Below w2.heap.size w2 w' → Below w2.heap.size w2 (w'.alloc o) := fun o w' hb => hb.alloc hb.size o
  go_wp2_with (first | (go_at_call_of 40 (Value.int .i64 (r2 : Int)); refine (HK1.out _).mono ?_; rintro e w3 ⟨rfl, hb3⟩) | (go_at_call_of 40 (Value.int .i64 2000); refine (HK2.out _).mono ?_; rintro e w4 ⟨rfl, hb4⟩))
  have hb5 := (hbw.trans (hb3.mono hbw.size)).trans (hb4.mono (hbw.trans (hb3.mono hbw.size)).size)
  have hP5 := parg_one w4 (reps r2 107) (reps 2000 118) (by rw [reps_size]; omega) (by rw [reps_size]; omega)
  go_ret2
  rw [hr, hr2]
  exact ⟨_, _, rfl, hP5, Nat.le_refl _, hb5.alloc hb5.size _⟩
theorem amap_h (a : Option Addr) (xs : List Nat) (cap p x n z : Nat) (ps : List PairT) (hS : SmP ps n) (hn : n ≤ 14) (hz : z ≤ 100000)
    (HT : ∀ w, BL a xs w → Calls Tryz.prog 14 #[.slice a xs.length cap, .int .i64 (p : Int), .int .i64 40] w fun e w' => e = .returned (.tuple #[.int .i64 (x : Int), .int .i64 ((p + 1 : Nat) : Int)]) ∧ Below w.heap.size w w')
    (HC : ∀ w, Calls Tryz.prog 39 #[.slice a xs.length cap, .int .i64 8, .int .i64 1, .int .i64 14] w fun e w' => e = .returned (.int .i64 (n : Int)) ∧ w' = w)
    (HM : ∀ w, BL a xs w → Calls Tryz.prog 38 #[.slice a xs.length cap, .int .i64 ((p + 1 : Nat) : Int), .int .i64 (n : Int)] w fun e w' => ∃ a' c', e = .returned (.tuple #[.slice a' ps.length c', .int .i64 (z : Int)]) ∧ OwnP w ps a' ps.length c' w') (hx : x = 39) :
    ∀ w, BL a xs w → Calls Tryz.prog 16 #[.slice a xs.length cap, .int .i64 (p : Int)] w (MGot [((⟨#[107]⟩ : ByteArray), reps (2000 + z % 2) 118)] z w) := by
  intro w hB
  have HT' : Hid (∀ w', Below w.heap.size w w' → Calls Tryz.prog 14 #[.slice a xs.length cap, .int .i64 (p : Int), .int .i64 40] w' fun e w'' => e = .returned (.tuple #[.int .i64 (x : Int), .int .i64 ((p + 1 : Nat) : Int)]) ∧ Below w'.heap.size w' w'') := fun w' hb => HT w' (hB.below hb)
  have HM' : Hid (∀ w', Below w.heap.size w w' → Calls Tryz.prog 38 #[.slice a xs.length cap, .int .i64 ((p + 1 : Nat) : Int), .int .i64 (n : Int)] w' fun e w'' => ∃ a' c', e = .returned (.tuple #[.slice a' ps.length c', .int .i64 (z : Int)]) ∧ OwnP w' ps a' ps.length c' w'') := fun w' hb => HM w' (hB.below hb)
  have HC' : Hid (∀ w', Calls Tryz.prog 39 #[.slice a xs.length cap, .int .i64 8, .int .i64 1, .int .i64 14] w' fun e w'' => e = .returned (.int .i64 (n : Int)) ∧ w'' = w') := HC
  clear HT HM HC hB
  have hpl := hS.len
  obtain ⟨L, hLL⟩ : ∃ L, xs.length = L := ⟨_, rfl⟩
  rw [hLL] at HT' HM' HC' ⊢
  obtain ⟨q1, hq1⟩ : ∃ q, p + 1 = q := ⟨_, rfl⟩
  rw [hq1] at HT' HM'
  clear hq1 hLL
  obtain ⟨N, hN⟩ : ∃ N, ps.length = N := ⟨_, rfl⟩
  rw [hN] at HM' hpl
  go_enter Tryz.func16, Tryz.ntmps16
  go_upto_region 3 with (first | (go_at_call 14; refine (HT'.out _ (Below.refl _ _)).mono ?_; rintro e w1 ⟨rfl, hb1⟩))
  go_upto_region 4 with (first | (go_at_call 39; refine (HC'.out _).mono ?_; rintro e wt ⟨rfl, hwt⟩; subst wt) | (go_at_call 38; refine (HM'.out _ hb1).mono ?_; rintro e w2 ⟨a2, c2, rfl, hO2⟩))
  have hbw := hb1.trans (hO2.bel.mono hb1.size)
  have hle := own2_le hO2.own
  have hsm := hS.small (by omega)
  clear HT' HM' HC'
  have z35 : ((x : Int) == 35) = false := by simp; omega
  have z36 : ((x : Int) == 36) = false := by simp; omega
  have z37 : ((x : Int) == 37) = false := by simp; omega
  have z38 : ((x : Int) == 38) = false := by simp; omega
  have z39 : ((x : Int) == 39) = true := by simp; omega
  clear hx
  have ym : (z : Int).tmod 2 = ((z % 2 : Nat) : Int) := by rw [Int.tmod_eq_emod_of_nonneg (by omega)]; omega
  have hm2 : z % 2 < 2 := Nat.mod_lt _ (by omega)
  obtain ⟨r, hr⟩ : ∃ r, z % 2 = r := ⟨_, rfl⟩
  rw [hr] at ym hm2
  have HK1 : Hid (∀ w', Calls Tryz.prog 40 #[.int .i64 ((2000 + r : Nat) : Int), .string ⟨#[118]⟩] w' fun e w'' => e = .returned (.string (reps (2000 + r) 118)) ∧ Below w'.heap.size w' w'') := fun w' => long_d 118 _ (2000 + r) rfl (by omega) w'
  have yk : IntKind.i64.wrap (2000 + (r : Int)) = ((2000 + r : Nat) : Int) := by rw [wrap_i64_in _ (by omega) (by omega)]; omega
  obtain ⟨r2, hr2⟩ : ∃ r2, 2000 + r = r2 := ⟨_, rfl⟩
  rw [hr2] at yk HK1
  have al : ∀ o w', Below w2.heap.size w2 w' → Below w2.heap.size w2 (w'.alloc o) := fun o w' hb => hb.alloc hb.size o
  go_wp2_with (first | (go_at_call 40; refine (HK1.out _).mono ?_; rintro e w3 ⟨rfl, hb3⟩))
  have hb5 := hbw.trans (hb3.mono hbw.size)
  have hP5 := parg_one w3 ⟨#[107]⟩ (reps r2 118) (by decide) (by rw [reps_size]; omega)
  go_ret2
  rw [hr, hr2]
  exact ⟨_, _, rfl, hP5, Nat.le_refl _, hb5.alloc hb5.size _⟩
theorem amap_f (a : Option Addr) (xs : List Nat) (cap p x n z : Nat) (ps : List PairT) (hS : SmP ps n) (hn : n ≤ 14) (_hz : z ≤ 100000)
    (HT : ∀ w, BL a xs w → Calls Tryz.prog 14 #[.slice a xs.length cap, .int .i64 (p : Int), .int .i64 40] w fun e w' => e = .returned (.tuple #[.int .i64 (x : Int), .int .i64 ((p + 1 : Nat) : Int)]) ∧ Below w.heap.size w w')
    (HC : ∀ w, Calls Tryz.prog 39 #[.slice a xs.length cap, .int .i64 8, .int .i64 1, .int .i64 14] w fun e w' => e = .returned (.int .i64 (n : Int)) ∧ w' = w)
    (HM : ∀ w, BL a xs w → Calls Tryz.prog 38 #[.slice a xs.length cap, .int .i64 ((p + 1 : Nat) : Int), .int .i64 (n : Int)] w fun e w' => ∃ a' c', e = .returned (.tuple #[.slice a' ps.length c', .int .i64 (z : Int)]) ∧ OwnP w ps a' ps.length c' w') (hx : x = 37) (hl : 0 < ps.length) :
    ∀ w, BL a xs w → Calls Tryz.prog 16 #[.slice a xs.length cap, .int .i64 (p : Int)] w (MGot (noPair :: ps) z w) := by
  intro w hB
  have HT' : Hid (∀ w', Below w.heap.size w w' → Calls Tryz.prog 14 #[.slice a xs.length cap, .int .i64 (p : Int), .int .i64 40] w' fun e w'' => e = .returned (.tuple #[.int .i64 (x : Int), .int .i64 ((p + 1 : Nat) : Int)]) ∧ Below w'.heap.size w' w'') := fun w' hb => HT w' (hB.below hb)
  have HM' : Hid (∀ w', Below w.heap.size w w' → Calls Tryz.prog 38 #[.slice a xs.length cap, .int .i64 ((p + 1 : Nat) : Int), .int .i64 (n : Int)] w' fun e w'' => ∃ a' c', e = .returned (.tuple #[.slice a' ps.length c', .int .i64 (z : Int)]) ∧ OwnP w' ps a' ps.length c' w'') := fun w' hb => HM w' (hB.below hb)
  have HC' : Hid (∀ w', Calls Tryz.prog 39 #[.slice a xs.length cap, .int .i64 8, .int .i64 1, .int .i64 14] w' fun e w'' => e = .returned (.int .i64 (n : Int)) ∧ w'' = w') := HC
  clear HT HM HC hB
  have hpl := hS.len
  obtain ⟨L, hLL⟩ : ∃ L, xs.length = L := ⟨_, rfl⟩
  rw [hLL] at HT' HM' HC' ⊢
  obtain ⟨q1, hq1⟩ : ∃ q, p + 1 = q := ⟨_, rfl⟩
  rw [hq1] at HT' HM'
  clear hq1 hLL
  obtain ⟨N, hN⟩ : ∃ N, ps.length = N := ⟨_, rfl⟩
  rw [hN] at HM' hpl
  go_enter Tryz.func16, Tryz.ntmps16
  go_upto_region 3 with (first | (go_at_call 14; refine (HT'.out _ (Below.refl _ _)).mono ?_; rintro e w1 ⟨rfl, hb1⟩))
  go_upto_region 4 with (first | (go_at_call 39; refine (HC'.out _).mono ?_; rintro e wt ⟨rfl, hwt⟩; subst wt) | (go_at_call 38; refine (HM'.out _ hb1).mono ?_; rintro e w2 ⟨a2, c2, rfl, hO2⟩))
  have hbw := hb1.trans (hO2.bel.mono hb1.size)
  have hle := own2_le hO2.own
  have hsm := hS.small (by omega)
  clear HT' HM' HC'
  have z35 : ((x : Int) == 35) = false := by simp; omega
  have z36 : ((x : Int) == 36) = false := by simp; omega
  have z37 : ((x : Int) == 37) = true := by simp; omega
  have z38 : ((x : Int) == 38) = false := by simp; omega
  have z39 : ((x : Int) == 39) = false := by simp; omega
  clear hx
  obtain ⟨i0, hi0, hz0, hz1, hz2⟩ := info_parts2 info37
  have hP := ownp_parg hO2 hsm
  rcases hO2.own.2 with ⟨_, h0⟩ | ⟨b1, cap', cur, e, hb, hg, w1c, w2c, w3c, w4c⟩
  · omega
  simp only [Value.slice.injEq] at e
  obtain ⟨rfl, _, rfl⟩ := e
  have al : Below w2.heap.size w2 (w2.alloc (.cells #[.string ⟨#[]⟩, .string ⟨#[]⟩] 56)) := (Below.refl _ _).alloc (Nat.le_refl _) _
  have nX := heap_alloc_new w2 (.cells #[.string ⟨#[]⟩, .string ⟨#[]⟩] 56)
  have hnews : ∀ (j : Nat) u, (flatP ps)[j]? = some u → (w2.alloc (.cells #[.string ⟨#[]⟩, .string ⟨#[]⟩] 56)).cell? ((⟨b1, 0, none⟩ : Addr).add j) = some u := fun j u hu => by
    rw [← w4c] at hu
    have hj : j < N * 2 := by
      have := (List.getElem?_eq_some_iff.1 hu).1
      rw [List.length_take] at this
      omega
    rw [List.getElem?_take, if_pos hj] at hu
    rw [show (⟨b1, 0, none⟩ : Addr).add j = ⟨b1, j, none⟩ by simp [Addr.add]; omega]
    exact (al.cell (p := ⟨b1, j, none⟩) (Array.getElem?_eq_some_iff.1 hg).1).trans ((Lib.cell_of_heap hg _).trans (by simpa using hu))
  have hown : (w2.alloc (.cells #[.string ⟨#[]⟩, .string ⟨#[]⟩] 56)).ownsRow w2.heap.size 56 2 (.slice (some ⟨w2.heap.size, 0, none⟩) 1 1) 1 (flatP [noPair]) := ⟨rfl, .inr ⟨w2.heap.size, 1, #[.string ⟨#[]⟩, .string ⟨#[]⟩], rfl, Nat.le_refl _, nX, by decide, by decide, rfl, rfl⟩⟩
  have h1c : ∀ u ∈ flatP ps, u.oneCell' = true := flatP_one ps
  have hfl : (flatP ps).length = N * 2 := by rw [flatP_len, hN]
  have hsS : SmallP (noPair :: ps) := smallP_of (by rw [List.length_cons, hN]; omega) (fun q hq => by
    rcases List.mem_cons.1 hq with h | h
    · rw [h]; exact ⟨Nat.zero_le _, Nat.zero_le _⟩
    · have := hS.sz q h; omega)
  have hNs : N ≤ 14 := by omega
  have hNp : 0 < N := by omega
  clear hP hg w1c w2c w3c w4c
  go_wp2_with (at_builtin; refine wpList_append_lies _ rfl (.tmp 61) (.tmp 62) 23 rfl w2.heap.size 56 i0 (.agg #[.string ⟨#[]⟩, .string ⟨#[]⟩]) 2 32 Tryz.underlying23 hi0 hz0 hz1 hz2 rfl (by decide) (.slice (some ⟨w2.heap.size, 0, none⟩) 1 1) 1 (flatP [noPair]) rfl hown ⟨b1, 0, none⟩ N c2 (flatP ps) rfl hfl hnews h1c hNp (by unfold maxLen; omega) (by omega) (by simp) (w2.heap.size + 1) (by simp) ?_; intro g5 c5 w5 hown5 hgrow5 hat5 hlt5)
  have hl5 : (noPair :: ps).length = 1 + N := by rw [List.length_cons, hN]; omega
  have hO5 : OwnP w2 (noPair :: ps) (some ⟨g5, 0, none⟩) (1 + N) c5 w5 := ⟨hown5, al.grown hgrow5 al.size (fun q hq => by cases hq; exact Nat.le_refl _), hl5⟩
  go_ret2
  exact ⟨_, _, by rw [hl5]; rfl, ownp_parg hO5 hsS, by rw [hl5]; exact own2_le hO5.own, hbw.trans (hO5.bel.mono hbw.size)⟩
end Go.Proofs.YtmfhfehemoeeeaaGreatDoor
