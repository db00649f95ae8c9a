import Derived.Test.YtmfhfehemoeeeaaGreatDoorZsbu
import Derived.Deep.DeepCutAuto
set_option maxRecDepth 100000
set_option maxHeartbeats 9000000
namespace Go.Proofs.YtmfhfehemoeeeaaGreatDoor
open Go.RowKit Go.Proofs.Sha

theorem info3 : (Tryz.prog.info? 3).map (fun i => (i.zero, i.size, i.bytes)) = some (some (.int .i64 0), 1, 8) := by kernel_rfl
theorem scan_all (a b : Option Addr) (xs ys : List Nat) (cap cb : Nat) (ps : List PairT) (n0 W : Nat) (w : World) (hL : xs.length ≤ 1048576) (hY : Code8 ys) (hB : BL a xs w) (hB2 : BL b ys w) (hK : KT w)
    (HDr : ∀ w, BL a xs w → Calls Tryz.prog 4 #[.slice a xs.length cap] w (RtGot ps n0 w)) (hW : W = if n0 < 8 then n0 + 8 else n0) (hn : n0 ≤ 33) (hps : SmQ ps 501) :
    Calls Tryz.prog 3 #[.slice a xs.length cap, .slice b ys.length cb] w fun e w' => e = .returned (.bool true) ∧ Below w.heap.size w w' := by
  have H1 : Hid (∀ w', Below w.heap.size w w' → Calls Tryz.prog 4 #[.slice a xs.length cap] w' (RtGot ps n0 w')) := fun w' hb => HDr w' (hB.below hb)
  unfold RtGot at H1
  have HPk : Hid (∀ (i : Nat) w', i ≤ 100000 → Below w.heap.size w w' → Calls Tryz.prog 6 #[.slice b ys.length cb, .int .i64 (i : Int)] w' fun e w'' => ∃ v : Nat, v ≤ 100000 ∧ e = .returned (.int .i64 (v : Int)) ∧ Below w'.heap.size w' w'') := fun i w' hi hb => pick_any b ys cb i w' hY (hB2.below hb) hi
  have z0 : decide ((1048576 : Int) < (xs.length : Int)) = false := by simp; omega
  have z0y : decide ((1048576 : Int) < (ys.length : Int)) = false := by have := hY.le; simp; omega
  obtain ⟨L, hLL⟩ : ∃ L, xs.length = L := ⟨_, rfl⟩
  rw [hLL] at H1 z0 hL ⊢
  obtain ⟨LY, hLY⟩ : ∃ L, ys.length = L := ⟨_, rfl⟩
  rw [hLY] at HPk z0y ⊢
  clear hLL hLY HDr
  obtain ⟨Q, hQ⟩ : ∃ N, ps.length = N := ⟨_, rfl⟩
  rw [hQ] at H1
  have hKh : Hid (KT w) := hK
  have hQb : Q ≤ 501 := by have := hps.len; omega
  have hW33 : W ≤ 33 := by rw [hW]; split <;> omega
  have JR : Hid (∀ (qs : List PairT) w' aq cq, PArg aq qs w' → qs.length ≤ cq → Calls Tryz.prog 5 #[.slice aq qs.length cq, .int .i64 (W : Int)] w' fun e w'' => e = .returned (.string (rootS qs (W : Int))) ∧ Below w'.heap.size w' w'') := fun qs w' aq cq h hc => rootSpec_any aq qs cq (W : Int) w' h hc
  have hRm : 0 < (rootS ps (W : Int)).size → isMapT ps = true ∧ 1 ≤ W ∧ W ≤ 32 := fun h => by
    unfold rootS at h
    by_cases hq : (isMapT ps && isW (W : Int)) = true
    · obtain ⟨h1, h2⟩ := (Bool.and_eq_true _ _).mp hq
      obtain ⟨m, hm, k1, k2⟩ := isW_out h2
      exact ⟨h1, by omega, by omega⟩
    · rw [if_neg hq] at h
      exact absurd h (Nat.lt_irrefl _)
  have HMN : 0 < (rootS ps (W : Int)).size → ps ≠ [] := fun h e => by
    subst e
    unfold rootS at h
    split at h
    · have e2 : cutTree ([] : List PairT) = .nil := by rw [cutTree]; simp
      rw [e2] at h
      exact absurd h (Nat.lt_irrefl _)
    · exact absurd h (Nat.lt_irrefl _)
  have JR0 : Hid (∀ w' aq cq, PArg aq ps w' → Q ≤ cq → Calls Tryz.prog 5 #[.slice aq Q cq, .int .i64 (W : Int)] w' fun e w'' => e = .returned (.string (rootS ps (W : Int))) ∧ Below w'.heap.size w' w'') := fun w' aq cq h hc => by
    have := JR.out ps w' aq cq h (by rw [hQ]; exact hc)
    rw [hQ] at this
    exact this
  obtain ⟨want, hwant⟩ : ∃ r, rootS ps (W : Int) = r := ⟨_, rfl⟩
  rw [hwant] at JR0 hRm HMN
  have hWh : Hid _ := hW
  clear hK hB hB2 hW hwant
  go_enter Tryz.func3, Tryz.ntmps3
  go_upto_if 40 with (first | (go_at_call 4; refine (H1.out _ (Below.refl _ _)).mono ?_; rintro e w1 ⟨a1, c1, rfl, hP1, hc1, hb1⟩))
  go_cut [6] (fun s6 wx => s6 = .int .i64 (W : Int) ∧ wx = w1)
  case first =>
    by_cases h8 : n0 < 8
    · have z8 : decide ((n0 : Int) < 8) = true := by simp; omega
      have z8' : decide (n0 < 8) = true := by simp; omega
      have y8 : IntKind.i64.wrap ((n0 : Int) + 8) = (W : Int) := by rw [wrap_i64_in _ (by omega) (by omega), hWh.out, if_pos h8]; omega
      go_wp2_with fail
      go_meet
      exact ⟨rfl, rfl⟩
    · have z8 : decide ((n0 : Int) < 8) = false := by simp; omega
      have z8' : decide (n0 < 8) = false := by simp; omega
      have y8 : (W : Int) = (n0 : Int) := by rw [hWh.out, if_neg h8]
      go_wp2_with fail
      go_meet
      exact ⟨by rw [y8], rfl⟩
  case rest =>
  obtain ⟨rfl, hwc⟩ := hcut
  subst wc
  clear hWh hn
  by_cases h40 : 40 < Q
  · have z40 : decide ((40 : Int) < (Q : Int)) = true := by simp; omega
    have z40' : decide (40 < Q) = true := by simp; omega
    go_wp2_with fail
    go_ret
    exact ⟨rfl, hb1⟩
  have z40 : decide ((40 : Int) < (Q : Int)) = false := by simp; omega
  have z40' : decide (40 < Q) = false := by simp; omega
  by_cases hw0 : want.size = 0
  · have zw : ((want.size : Int) == 0) = true := by rw [hw0]; rfl
    have zw' : (want.size == 0) = true := by rw [hw0]; rfl
    clear hw0
    go_wp2_with (first | (go_at_call 5; refine (JR0.out _ a1 c1 hP1 hc1).mono ?_; rintro e w2 ⟨rfl, hb2⟩))
    go_ret
    exact ⟨rfl, hb1.trans (hb2.mono hb1.size)⟩
  have zw : ((want.size : Int) == 0) = false := by rw [beq_eq_false_iff_ne]; omega
  have zw' : (want.size == 0) = false := by rw [beq_eq_false_iff_ne]; omega
  obtain ⟨hmap, hW1, hW2⟩ := hRm (by omega)
  have hmap0 : ps ≠ [] := HMN (by omega)
  clear hRm hw0 HMN
  have hQ40 : Q ≤ 40 := by omega
  have hNl : Hid (ps.length = Q) := hQ
  clear h40 hQ
  go_upto_region 8 with (first | (go_at_call 5; refine (JR0.out _ a1 c1 hP1 hc1).mono ?_; rintro e w2 ⟨rfl, hb2⟩))
  have hb12 := hb1.trans (hb2.mono hb1.size)
  have hP2 := hP1.below hb2
  clear hP1 hb1 hb2 JR0
  have al : Below w2.heap.size w2 (w2.alloc (.cells #[.int .i64 (W : Int), .slice none 0 0] 29)) := (Below.refl _ _).alloc (Nat.le_refl _) _
  have nG := heap_alloc_new w2 (.cells #[.int .i64 (W : Int), .slice none 0 0] 29)
  have hW0 : Hid (KTab w2) := hKh.out.below hb12
  have hPk2 : Hid (∀ (i : Nat) w', i ≤ 100000 → Below w2.heap.size w2 w' → Calls Tryz.prog 6 #[.slice b LY cb, .int .i64 (i : Int)] w' fun e w'' => ∃ v : Nat, v ≤ 100000 ∧ e = .returned (.int .i64 (v : Int)) ∧ Below w'.heap.size w' w'') := fun i w' hi hb => HPk.out i w' hi (hb12.trans (hb.mono hb12.size))
  go_upto_region 12 with fail
  have b0 : Below w2.heap.size w2 (((w2.alloc (.cells #[.int .i64 (W : Int), .slice none 0 0] 29)).alloc (.cells #[] 9)).alloc (.cells #[] 3)) := (al.alloc al.size _).alloc (by simp; omega) _
  have hLM0 : LM w2.heap.size w2.heap.size W ps a1 c1 [] none 0 [] (some ⟨w2.heap.size + 1, 0, none⟩) 0 [] (some ⟨w2.heap.size + 1 + 1, 0, none⟩) 0 (((w2.alloc (.cells #[.int .i64 (W : Int), .slice none 0 0] 29)).alloc (.cells #[] 9)).alloc (.cells #[] 3)) := by
    have r1 := World.ownsRow_lit (base := w2.heap.size) (e := 9) (size := 1) (w2.alloc (.cells #[.int .i64 (W : Int), .slice none 0 0] 29)) #[] 0 (by simp) (by decide) rfl
    have r2 := World.ownsRow_lit (base := w2.heap.size) (e := 3) (size := 1) ((w2.alloc (.cells #[.int .i64 (W : Int), .slice none 0 0] 29)).alloc (.cells #[] 9)) #[] 0 (by simp; omega) (by decide) rfl
    simp only [World.size_alloc] at r1 r2
    refine ⟨hP2.below b0, by rw [hNl.out]; exact hc1, (Below.heap_alloc _ _ _ (by simp; omega)).trans ((Below.heap_alloc _ _ _ (by simp)).trans nG), ⟨Nat.zero_le _, fun j => by cases j <;> exact Nat.zero_le _, fun h => absurd h (by simp)⟩, ?_, r2, ?_, fun g hg => by cases hg⟩
    · exact ownG_kept r1 (fun q _ hq => Below.heap_alloc _ _ _ hq)
    · intro g hg
      by_cases h0 : 0 < ps.length
      · obtain ⟨bb, off, rfl, hlt, _⟩ := hP2.at_ h0
        obtain rfl : bb = g := Option.some.inj hg
        refine ⟨fun e => ?_, fun e => ?_, by simp; omega⟩
        · have : w2.heap.size + 1 = bb := Option.some.inj e; omega
        · have : w2.heap.size + 1 + 1 = bb := Option.some.inj e; omega
      · exfalso
        have : ps = [] := List.eq_nil_of_length_eq_zero (by omega)
        rw [this] at hmap0
        exact hmap0 rfl
  generalize ((w2.alloc (.cells #[.int .i64 (W : Int), .slice none 0 0] 29)).alloc (.cells #[] 9)).alloc (.cells #[] 3) = w3 at b0 hLM0 ⊢
  have hgs : Hid (w2.heap.size < w3.heap.size) := by have := (Array.getElem?_eq_some_iff.1 hLM0.blk).1; exact this
  generalize hgPe : w2.heap.size = gP at hLM0 ⊢
  have hgP : Hid (w2.heap.size = gP) := hgPe
  go_upto_region 13 with (first | (go_at_call 6; refine (hPk2.out 0 _ (by omega) (by rw [hgPe] at b0 ⊢; exact b0)).mono ?_; rintro e w4 ⟨v, hv, rfl, hb4⟩; obtain ⟨r, hr, hr6⟩ : ∃ r : Nat, (v : Int) % 6 = (r : Int) ∧ r < 6 := ⟨v % 6, by omega, by omega⟩; obtain ⟨n, hnn, hn1, hn6⟩ : ∃ n : Nat, 1 + (r : Int) = (n : Int) ∧ 1 ≤ n ∧ n ≤ 6 := ⟨1 + r, by omega, by omega, by omega⟩))
  have hLM4 := hLM0.below hb4
  have ha1P : rb a1 ≠ some gP := fun e => by
    by_cases h0 : 0 < ps.length
    · obtain ⟨bb, off, rfl, hlt, _⟩ := hP2.at_ h0
      have e2 : bb = gP := Option.some.inj e
      have := hgP.out
      omega
    · exact hmap0 (List.eq_nil_of_length_eq_zero (by omega))
  have b4 : Below w2.heap.size w2 w4 := b0.trans (hb4.mono b0.size)
  clear hLM0 hb4 b0 hnn hr hr6 hv H1 HPk z0 z0y hL z40 z40' zw zw' al nG hP2
  obtain ⟨i9, hi9, hx0, hx1, hx2⟩ := info_parts2 info9
  obtain ⟨i3, hi3, hy0, hy1, hy2⟩ := info_parts2 info3
  go_wp2_with fail
  go_loopw [5, 8, 9, 10, 12] (fun t5 t8 t9 t10 t12 wr => ∃ (i : Nat) (qs : List PairT) (a5 : Option Addr) (c5 : Nat) (rs : List Rc) (X : List ByteArray) (aX : Option Addr) (cX : Nat) (RT : List ByteArray) (a9 : Option Addr) (c9 : Nat) (EN : List Nat) (a10 : Option Addr) (c10 : Nat), i ≤ n ∧ t5 = .slice a5 qs.length c5 ∧ t8 = .string (imgT rs) ∧ t9 = .slice a9 RT.length c9 ∧ t10 = .slice a10 EN.length c10 ∧ t12 = .int .i64 (i : Int) ∧ isMapT qs = true ∧ qs.length ≤ 40 + i ∧ SmQ qs (501 + i) ∧ CI W i rs X RT EN ∧ SmT X (46 * i) 10000 ∧ LM gP gP W qs a5 c5 X aX cX RT a9 c9 EN a10 c10 wr ∧ rb a5 ≠ some gP ∧ Below w2.heap.size w2 wr) (fun _ _ _ _ t12 _ => n - (intOf t12).toNat)
  case atStart => exact ⟨0, ps, a1, c1, [], [], none, 0, [], _, 0, [], _, 0, Nat.zero_le _, by rw [hNl.out], rfl, rfl, rfl, rfl, hmap, by rw [hNl.out]; omega, hps, CI.zero W, ⟨Nat.zero_le _, fun x hx => by cases hx⟩, hLM4, ha1P, b4⟩
  case round =>
  obtain ⟨i, qs, a5, c5, rs, X, aX, cX, RT, a9, c9, EN, a10, c10, hin, rfl, rfl, rfl, rfl, rfl, hqm, hql, hqs, hC, hX, hLM, ha5P, hbw⟩ := hrel
  by_cases hlt : i < n
  · as_aux_lemma =>
    have zi : decide ((i : Int) < (n : Int)) = true := by simp; omega
    have zi2 : (i : Int) < (n : Int) := by omega
    obtain ⟨Qi, hQi⟩ : ∃ N, qs.length = N := ⟨_, rfl⟩
    have hQo : Hid (qs.length = Qi) := hQi
    obtain ⟨NX, hNX⟩ : ∃ N, X.length = N := ⟨_, rfl⟩
    have hNXo : Hid (X.length = NX) := hNX
    have hrl := hC.rl
    have hel := hC.el
    have hC' : Hid (CI W i rs X RT EN) := hC
    have hRS : Hid (rootS qs (W : Int) = rootT W (cutTree qs)) := by
      show _ = _
      have : isW (W : Int) = true := by unfold isW; rw [decide_eq_true (by omega), decide_eq_true (by omega)]; rfl
      rw [rootS, hqm, this]; rfl
    have JRi : Hid (∀ w' aq cq, PArg aq qs w' → Qi ≤ cq → Calls Tryz.prog 5 #[.slice aq Qi cq, .int .i64 (W : Int)] w' fun e w'' => e = .returned (.string (rootT W (cutTree qs))) ∧ Below w'.heap.size w' w'') := fun w' aq cq h hc => by
      have := JR.out qs w' aq cq h (by rw [hQi]; exact hc)
      rw [hQi, hRS.out] at this
      exact this
    have HPi : Hid (∀ w', Below w2.heap.size w2 w' → Calls Tryz.prog 6 #[.slice b LY cb, .int .i64 ((i : Int) + 1)] w' fun e w'' => ∃ v : Nat, v ≤ 100000 ∧ e = .returned (.int .i64 (v : Int)) ∧ Below w'.heap.size w' w'') := fun w' hb => hPk2.out (i + 1) w' (by omega) hb
    obtain ⟨root, hroot⟩ : ∃ root, rootT W (cutTree qs) = root := ⟨_, rfl⟩
    have hrto : Hid (rootT W (cutTree qs) = root) := hroot
    rw [hroot] at JRi
    rw [hQi, hrl, hel]
    clear hC hQi hNX hroot hRS
    have hP := hLM.p
    have hPc : Qi ≤ c5 := by have := hLM.pc; rw [hQo.out] at this; exact this
    go_upto_region 17 with (first | (go_at_call 6; refine (HPi.out _ hbw).mono ?_; rintro e w5 ⟨v, hv, rfl, hb5⟩; obtain ⟨r, hr, hr26⟩ : ∃ r : Nat, (v : Int) % 26 = (r : Int) ∧ r < 26 := ⟨v % 26, by omega, by omega⟩))
    have hLM5 := hLM.below hb5
    have bw5 := hbw.trans (hb5.mono hbw.size)
    have hbs5 : gP ≤ w5.heap.size := by rw [← hgP.out]; exact bw5.size
    clear hLM hb5 hP HPi
    have own9 : ∀ W', Below w5.heap.size w5 W' → W'.ownsRow gP 9 1 (.slice a9 i c9) i (RT.map Value.string) := fun W' hW' => by
      have := (hLM5.below hW').r
      rw [hrl] at this
      exact this
    have own9 : Hid _ := own9
    go_upto_region 18 with (first | (go_at_call 5; refine (JRi.out _ a5 c5 hLM5.p hPc).mono ?_; rintro e w6 ⟨rfl, hb6⟩; have hbs6 := Nat.le_trans hbs5 hb6.size) | (at_builtin; refine wpList_append_lies _ rfl (.tmp 70) (.tmp 74) 27 rfl gP 9 i9 (.string ⟨#[]⟩) 1 16 Tryz.underlying27 hi9 hx0 hx1 hx2 rfl (by decide) (.slice a9 i c9) i (RT.map Value.string) rfl ((own9.out _ hb6).alloc _) ⟨w6.heap.size, 0, none⟩ 1 1 [.string root] rfl rfl (World.news_of_block (heap_alloc_new w6 _)) (by simp [Value.oneCell']) (by decide) (by unfold maxLen; omega) (by omega) (by simp; omega) (w6.heap.size + 1) (by simp) ?_; intro g7 c7 w7 hown7 hgrow7 hat7 hlt7))
    have hLM6 := hLM5.below hb6
    have hLM7 : LM gP gP W qs a5 c5 X aX cX (RT ++ [root]) (some ⟨g7, 0, none⟩) c7 EN a10 c10 w7 := hLM6.root (by rw [hrl]; exact hown7) (by rw [hrl]; exact hgrow7) (by rw [hrl]; exact hat7)
    have bw6 := bw5.trans (hb6.mono bw5.size)
    have bw7 : Below w2.heap.size w2 w7 := (bw6.alloc bw6.size _).grown hgrow7 (by simp; exact Nat.le_succ_of_le bw6.size) (fun q hq => by rw [hgP.out]; exact (ownG_cells (own9.out _ hb6) hq).1)
    clear hLM5 hLM6 own9 hown7 hgrow7 hat7 hlt7 hb6 bw5 bw6 hbs5 hbs6 JRi
    obtain ⟨d, hd, hd1, hd2⟩ : ∃ d : Nat, 97 + (r : Int) = (d : Int) ∧ 97 ≤ d ∧ d ≤ 122 := ⟨97 + r, by omega, by omega, by omega⟩
    have yd1 : IntKind.u8.wrap (d : Int) = (d : Int) := by simp [IntKind.wrap, IntKind.bits, IntKind.signed]; omega
    have yd2 : (d : Int) % 256 = (d : Int) := by omega
    have hrow : Row (w7.alloc (.cells #[.int .u8 (d : Int)] 5)) w7.heap.size w7.heap.size 1 1 ([UInt8.ofNat d].map B) := by
      have e : [UInt8.ofNat d].map B = [.int .u8 (d : Int)] := by
        show [B (UInt8.ofNat d)] = _
        unfold B
        have h8 : ((UInt8.ofNat d).toNat : Int) = (d : Int) := by rw [UInt8.toNat_ofNat']; omega
        rw [h8]
      rw [e]
      exact Row.of_block (Nat.le_refl _) (heap_alloc_new w7 (.cells #[.int .u8 (d : Int)] 5)) 1 (by simp) (.inl rfl)
    have al8 : Below w7.heap.size w7 (w7.alloc (.cells #[.int .u8 (d : Int)] 5)) := (Below.refl _ _).alloc (Nat.le_refl _) _
    have zk1 : ¬ (9223372036854775807 < (⟨#[107]⟩ : ByteArray).size + (⟨[UInt8.ofNat d].toArray⟩ : ByteArray).size) := by show ¬ _ < 1 + 1; omega
    have zk2 : ¬ (9223372036854775807 < (⟨#[107]⟩ : ByteArray).size + (⟨#[UInt8.ofNat d]⟩ : ByteArray).size) := by show ¬ _ < 1 + 1; omega
    have HW : Hid (∀ (key : ByteArray) w', key.size ≤ 10 → PArg a5 qs w' → Calls Tryz.prog 7 #[.slice a5 Qi c5, .string key, .string ⟨#[118, 97, 108, 117, 101]⟩] w' fun e w'' => ∃ aq cq, e = .returned (.slice aq (wth qs key ⟨#[118, 97, 108, 117, 101]⟩).length cq) ∧ OwnP w' (wth qs key ⟨#[118, 97, 108, 117, 101]⟩) aq (wth qs key ⟨#[118, 97, 108, 117, 101]⟩).length cq w'') := fun key w' hk h => by
      have := wwith_any a5 qs c5 key ⟨#[118, 97, 108, 117, 101]⟩ w' h (by omega) (by have := hqs.len; omega)
      rw [hQo.out] at this
      exact this
    go_upto_region 19 with (first | (refine wpList_string_row _ rfl (.tmp 81) 22 9 5 rfl w7.heap.size w7.heap.size 1 1 [UInt8.ofNat d] rfl hrow Tryz.underlying22 Tryz.underlying5 Tryz.underlying9 ?_) | (go_at_call 7; refine (HW.out _ _ (by rw [ByteArray.size_append]; show 1 + 1 ≤ 10; omega) (hLM7.p.below al8)).mono ?_; rintro e w9 ⟨aq, cq, rfl, hOP⟩))
    have hkz : ((⟨#[107]⟩ : ByteArray) ++ ⟨#[UInt8.ofNat d]⟩).size = 2 := by rw [ByteArray.size_append]; rfl
    have hqm2 := next_map hqm (k := (⟨#[107]⟩ : ByteArray) ++ ⟨#[UInt8.ofNat d]⟩) (v := ⟨#[118, 97, 108, 117, 101]⟩) (decide_eq_true (by rw [hkz]; omega)) (by decide) (by omega)
    have hql2 := wth_len qs ((⟨#[107]⟩ : ByteArray) ++ ⟨#[UInt8.ofNat d]⟩) ⟨#[118, 97, 108, 117, 101]⟩
    have hqs2 := hqs.wth (k := (⟨#[107]⟩ : ByteArray) ++ ⟨#[UInt8.ofNat d]⟩) (v := ⟨#[118, 97, 108, 117, 101]⟩) (by rw [hkz]; omega) (by show 5 ≤ 300; omega)
    generalize wth qs ((⟨#[107]⟩ : ByteArray) ++ ⟨#[UInt8.ofNat d]⟩) ⟨#[118, 97, 108, 117, 101]⟩ = qs2 at hOP hqm2 hql2 hqs2 ⊢
    have hPq := ownp_parg hOP (hqs2.small (by omega))
    have hcq := own2_le hOP.own
    have hb79 : Below w7.heap.size w7 w9 := al8.trans (hOP.bel.mono al8.size)
    have hgq : ∀ g, rb aq = some g → w7.heap.size < g ∧ g < w9.heap.size := fun g hg => by
      have := ownG_cells hOP.own (by rw [rb_own]; exact hg)
      exact ⟨by have := this.1; simp at this; omega, this.2.1⟩
    have hdq : ∀ g, rb aq = some g → rb (some (⟨g7, 0, none⟩ : Addr)) ≠ some g ∧ rb a10 ≠ some g ∧ g < w9.heap.size := fun g hg => ⟨fun e => by have := hLM7.r_lt g e; have := (hgq g hg).1; omega, fun e => by have := hLM7.e_lt g e; have := (hgq g hg).1; omega, (hgq g hg).2⟩
    have hgPlt := (Array.getElem?_eq_some_iff.1 hLM7.blk).1
    have hqgP : rb aq ≠ some gP := fun e => by have := (hgq gP e).1; omega
    have hLM9 := hLM7.below hb79
    have bw9 := bw7.trans (hb79.mono bw7.size)
    have hgP9 := (Array.getElem?_eq_some_iff.1 hLM9.blk).1
    obtain ⟨Q2, hQ2⟩ : ∃ N, qs2.length = N := ⟨_, rfl⟩
    have hQ2o : Hid (qs2.length = Q2) := hQ2
    rw [hQ2] at hql2 hcq ⊢
    have hK9 : KTab w9 := hW0.out.below bw9
    have hsv : saveO (W : Int) X qs = savO W X (cutTree qs) := by
      rw [saveO, if_pos (by rw [hqm, Bool.and_true]; exact decide_eq_true ⟨by omega, by omega, by have := hX.len; omega⟩)]; rfl
    have HS0 := isave_any (fun t w'' ht hk' => ehash_any t w'' ht hk') (W : Int) aX X cX a5 qs c5 w9 hLM9.x hLM9.p hK9
    rw [hsv] at HS0
    have hcs := savO_cases (wd := W) (n := 46 * i) (k := 46) (s := 10000) (ss := X) (ps := qs) hX (Nat.le_refl _) (by omega) (by omega)
    have p0 := Lib.cell_of_heap hLM9.blk 0
    have p1 := Lib.cell_of_heap hLM9.blk 1
    rw [hNXo.out] at p1
    clear hOP HW hrow zk1 zk2 yd1 yd2 hd hd1 hd2 hr hr26 hv hkz al8 hLM7 bw7 hb79 hgq hsv hQ2 hgPlt
    rcases hcs with ⟨ad, hgo, hsO, hX2⟩ | ⟨u, e0, hsO, hue, hhe, hu1, he1⟩
    · rw [hsO] at HS0
      unfold SavedIs svV at HS0
      obtain ⟨NY, hNY⟩ : ∃ N, (X ++ ad).length = N := ⟨_, rfl⟩
      have hNYo : Hid ((X ++ ad).length = NY) := hNY
      have hNYX : NY ≤ NX + ad.length ∧ NX + ad.length ≤ NY := by rw [← hNY, List.length_append, hNXo.out]; omega
      have HS : Hid (∀ _u : Unit, Calls Tryz.prog 8 #[.agg #[.int .i64 (W : Int), .slice aX NX cX], .slice a5 Qi c5] w9 fun e w' => ∃ aY cY, e = .returned (.agg #[.int .i64 0, .int .i64 (W : Int), .slice aY NY cY, .string root, .string ⟨#[]⟩, .string ⟨#[]⟩]) ∧ OwnT w9 (X ++ ad) aY NY cY w') := fun _ => by
        rw [hNXo.out, hQo.out] at HS0
        simp only [hNY, hrto.out] at HS0
        exact HS0
      obtain ⟨hst1, hst2, hst3, hst4⟩ := save_step hW1 hW2 hqm (by omega) hgo
      rw [hrto.out] at hst3 hst4
      have hC2 := hC'.out.step hst1 hst2 hst3 hst4 (by omega)
      clear HS0 hNY hsO hgo
      go_upto_region 20 with (first | (go_at_call 8; refine (HS.out ()).mono ?_; rintro e w10 ⟨aY, cY, rfl, hOY⟩))
      have hbel := hOY.bel
      have nS := heap_alloc_new w10 (.cells #[.int .i64 0, .int .i64 (W : Int), .slice aY NY cY, .string root, .string ⟨#[]⟩, .string ⟨#[]⟩] 34)
      have al11 : Below w10.heap.size w10 (w10.alloc (.cells #[.int .i64 0, .int .i64 (W : Int), .slice aY NY cY, .string root, .string ⟨#[]⟩, .string ⟨#[]⟩] 34)) := (Below.refl _ _).alloc (Nat.le_refl _) _
      have hsaY := own_sarg (by have := hOY.own; rw [← hNYo.out] at this; exact this) (by have := hX2.len; omega) (fun j => Nat.le_trans (hX2.getD j) (by omega)) |>.below al11
      have hgY : ∀ g, rb aY = some g → w9.heap.size ≤ g ∧ g < w10.heap.size := fun g hg => by
        have := ownG_cells hOY.own (by rw [rb_own]; exact hg)
        exact ⟨this.1, this.2.1⟩
      generalize w10.alloc (.cells #[.int .i64 0, .int .i64 (W : Int), .slice aY NY cY, .string root, .string ⟨#[]⟩, .string ⟨#[]⟩] 34) = w11 at nS al11 hsaY ⊢
      have hgS : w9.heap.size ≤ w10.heap.size := hbel.size
      have hgS1 : w10.heap.size < w11.heap.size := (Array.getElem?_eq_some_iff.1 nS).1
      generalize w10.heap.size = gS at nS hgS hgS1 hgY ⊢
      have b911 := hbel.trans (al11.mono hbel.size)
      have hLM11 := hLM9.below b911
      have bw11 := bw9.trans (b911.mono bw9.size)
      have n11 := hLM11.blk
      rw [hNXo.out] at n11
      clear p0 p1 hbel al11 hOY HS w10
      have p0 := Lib.cell_of_heap n11 0
      have p1 := Lib.cell_of_heap n11 1
      have s0 := Lib.cell_of_heap nS 0
      have s2 := Lib.cell_of_heap nS 2
      have zN : ¬ (NY < NX) := by omega
      have zN1 : decide (NY < NX) = false := decide_eq_false zN
      have zN2 : decide ((NY : Int) < (NX : Int)) = false := decide_eq_false (by omega)
      have hAs : Hid (∀ q, (imgT (rs ++ (ad.take q).map Rc.nd)).size ≤ 2000000) := fun q => by
        have hok : ∀ r ∈ rs ++ (ad.take q).map Rc.nd, r.ok := fun r hr => by
          rcases List.mem_append.1 hr with hr | hr
          · exact hC'.out.ok r hr
          · obtain ⟨e, he, rfl⟩ := List.mem_map.1 hr
            have := hst1 e (List.mem_of_mem_take he)
            exact ⟨this.1, by omega⟩
        have h40 : ∀ r ∈ (ad.take q).map Rc.nd, r.sec ≤ 40 := fun r hr => by
          obtain ⟨e, he, rfl⟩ := List.mem_map.1 hr
          have := (hst1 e (List.mem_of_mem_take he)).2
          show secs e.size ≤ 40
          unfold secs; omega
        have h3 := totS_le h40
        have h4 : ((ad.take q).map Rc.nd).length ≤ 46 := by rw [List.length_map, List.length_take]; omega
        have h5 : ((ad.take q).map Rc.nd).length * 40 ≤ 46 * 40 := Nat.mul_le_mul h4 (Nat.le_refl _)
        have h6 := hC'.out.sz
        have h7 : i * 2000 ≤ 6 * 2000 := Nat.mul_le_mul (by omega) (Nat.le_refl _)
        rw [imgT_size hok, totS_app]
        omega
      go_upto_region 25 with fail
      clear p0 p1 s0 s2
      go_wp2_with fail
      go_loopw [8, 16] (fun t8 t16 wq => ∃ q : Nat, q ≤ ad.length ∧ t8 = .string (imgT (rs ++ (ad.take q).map Rc.nd)) ∧ t16 = .int .i64 ((NX + q : Nat) : Int) ∧ Below w11.heap.size w11 wq) (fun _ t16 _ => NY - (intOf t16).toNat)
      case atStart => exact ⟨0, Nat.zero_le _, by simp, rfl, Below.refl _ _⟩
      case round =>
      obtain ⟨q, hq, rfl, rfl, hbq⟩ := hrel
      have nSq := (hbq.block gS hgS1).trans nS
      have s1 := Lib.cell_of_heap nSq 1
      have s2 := Lib.cell_of_heap nSq 2
      have s3 := Lib.cell_of_heap nSq 3
      by_cases hqlt : q < ad.length
      · have zq : ((NX + q : Nat) : Int) < (NY : Int) := by omega
        have zq0 : (0 : Int) ≤ ((NX + q : Nat) : Int) := by omega
        have zq1 : decide (((NX + q : Nat) : Int) < (NY : Int)) = true := decide_eq_true zq
        obtain ⟨bb, off, rfl, hlt2, hc⟩ := (hsaY.below hbq).at_ (by rw [hNYo.out]; omega)
        have cx := hc (NX + q) (by rw [hNYo.out]; omega)
        have hge : (X ++ ad).getD (NX + q) ⟨#[]⟩ = ad.getD q ⟨#[]⟩ := by
          rw [List.getD_eq_getElem?_getD, List.getD_eq_getElem?_getD, List.getElem?_append_right (by rw [hNXo.out]; omega), hNXo.out, Nat.add_sub_cancel_left]
        rw [hge] at cx
        have hes := hst1 (ad.getD q ⟨#[]⟩) (by rw [List.getD_eq_getElem?_getD, List.getElem?_eq_getElem hqlt]; exact List.getElem_mem hqlt)
        have him : Hid (imgT (rs ++ (ad.take q).map Rc.nd) ++ nodeRec (ad.getD q ⟨#[]⟩) = imgT (rs ++ (ad.take (q + 1)).map Rc.nd)) := by
          show _ = _
          rw [List.take_succ_eq_append_getElem hqlt, List.map_append, ← List.append_assoc, imgT_app (rs ++ (ad.take q).map Rc.nd)]
          congr 1
          rw [List.getD_eq_getElem?_getD, List.getElem?_eq_getElem hqlt]
          show nodeRec ad[q] = nodeRec ad[q] ++ ⟨#[]⟩
          rw [ba_nil_r]
        have hsA := hAs.out q
        have hsB : (nodeRec (ad.getD q ⟨#[]⟩)).size ≤ 4000 := by
          have := Rc.size (r := .nd (ad.getD q ⟨#[]⟩)) ⟨hes.1, by omega⟩
          have h2 : (nodeRec (ad.getD q ⟨#[]⟩)).size = 64 * secs (ad.getD q ⟨#[]⟩).size := this
          rw [h2]; unfold secs; omega
        have HN : Hid (∀ w', Calls Tryz.prog 10 #[.string (ad.getD q ⟨#[]⟩)] w' fun e w'' => e = .returned (.string (nodeRec (ad.getD q ⟨#[]⟩))) ∧ Below w'.heap.size w' w'') := fun w' => (nodeRec_impl (ad.getD q ⟨#[]⟩) w' (by omega)).mono (by rintro e w'' ⟨t, rfl, ht, hb⟩; exact ⟨by rw [ht.out], hb⟩)
        generalize nodeRec (ad.getD q ⟨#[]⟩) = nr at HN him hsB
        generalize ad.getD q ⟨#[]⟩ = enc at cx hes HN
        generalize imgT (rs ++ (ad.take q).map Rc.nd) = im at him hsA ⊢
        have zc : ¬ (9223372036854775807 < im.size + nr.size) := by omega
        have hpn : Hid (((NX + (q + 1) : Nat) : Int) = ((NX + q : Nat) : Int) + 1) := by show _ = _; omega
        have hNXq : NX + q ≤ 1048576 := by have := hX2.len; rw [hNYo.out] at this; omega
        generalize NX + q = k at zq zq0 zq1 cx hpn hNXq ⊢
        clear hc hge hsB hsA hes
        go_wp2_with (first | (go_at_call 10; refine (HN.out _).mono ?_; rintro e w12 ⟨rfl, hb12q⟩))
        go_roundw
        case rel => exact ⟨q + 1, hqlt, by rw [him.out], by rw [hpn.out], hbq.trans (hb12q.mono hbq.size)⟩
        case measure => simp [intOf]; omega
      · have zq : ¬ (((NX + q : Nat) : Int) < (NY : Int)) := by omega
        have zq1 : decide (((NX + q : Nat) : Int) < (NY : Int)) = false := decide_eq_false zq
        rw [List.take_of_length_le (by omega)]
        have hsA := hAs.out ad.length
        rw [List.take_of_length_le (Nat.le_refl _)] at hsA
        have HCm : Hid (∀ w', Calls Tryz.prog 11 #[.int .i64 ((i : Int) + 1), .string root] w' fun e w'' => e = .returned (.string (commitRec ((i + 1 : Nat) : Int) root)) ∧ Below w'.heap.size w' w'') := fun w' => (commitRec_impl ((i : Int) + 1) root w' (by omega)).mono (by rintro e w'' ⟨t, rfl, ht, hb⟩; exact ⟨by rw [ht.out]; rfl, hb⟩)
        have him : Hid (imgT (rs ++ ad.map Rc.nd) ++ commitRec ((i + 1 : Nat) : Int) root = imgT (rs ++ (ad.map Rc.nd ++ [Rc.cm (i + 1) root]))) := by
          show _ = _
          rw [← List.append_assoc, imgT_app (rs ++ ad.map Rc.nd)]
          congr 1
          show _ = commitRec ((i + 1 : Nat) : Int) root ++ ⟨#[]⟩
          rw [ba_nil_r]
        have hsB : (commitRec ((i + 1 : Nat) : Int) root).size ≤ 64 := by
          have := Rc.size (r := .cm (i + 1) root) ⟨by omega, by omega, hst3⟩
          exact Nat.le_of_eq this
        have hi2 := hC2.img
        have hsz2 := hC2.sz
        have hX3 : SmT (X ++ ad) (46 * (i + 1)) 10000 := ⟨by have := hX2.len; omega, hX2.sz⟩
        have hC2' : Hid _ := hC2
        generalize commitRec ((i + 1 : Nat) : Int) root = cr at HCm him hsB
        generalize imgT (rs ++ ad.map Rc.nd) = im at him hsA ⊢
        have zc : ¬ (9223372036854775807 < im.size + cr.size) := by omega
        have hLM12 := hLM11.below hbq
        have bw12 := bw11.trans (hbq.mono bw11.size)
        go_upto_region 29 with (first | (go_at_call 11; refine (HCm.out _).mono ?_; rintro e w13 ⟨rfl, hb13⟩))
        have hLM13 := hLM12.below hb13
        have bw13 := bw12.trans (hb13.mono bw12.size)
        have b1113 := hbq.trans (hb13.mono hbq.size)
        have nS13 := (b1113.block gS hgS1).trans nS
        have s1' := Lib.cell_of_heap nS13 1
        have s2' := Lib.cell_of_heap nS13 2
        have n13 := hLM13.blk
        rw [hNXo.out] at n13
        have p0' := Lib.cell_of_heap n13 0
        have p1' := Lib.cell_of_heap n13 1
        have fp : ∀ j, w13.frozen? ⟨gP, j, none⟩ = false := fun j => by rw [World.frozen?, n13]; rfl
        have hY13 := hsaY.below b1113
        have hdY : ∀ g, rb aY = some g → rb (some (⟨g7, 0, none⟩ : Addr)) ≠ some g ∧ rb a10 ≠ some g ∧ g < w13.heap.size := fun g hg => by
          have h1 := hgY g hg
          refine ⟨fun e => by have := hLM9.r_lt g e; omega, fun e => by have := hLM9.e_lt g e; omega, by have := b1113.size; omega⟩
        have hyP : rb aY ≠ some gP := fun e => by have := (hgY gP e).1; omega
        have hLM14 := hLM13.pool (cY := cY) hY13 hdY ha5P hyP
        rw [hNYo.out] at hLM14
        have bw14 : Below w2.heap.size w2 ((w13.setCell ⟨gP, 0, none⟩ (.int .i64 (W : Int))).setCell ⟨gP, 1, none⟩ (.slice aY NY cY)) := (bw13.setCell (p := ⟨gP, 0, none⟩) (Nat.le_of_eq hgP.out) _).setCell (p := ⟨gP, 1, none⟩) (Nat.le_of_eq hgP.out) _
        go_upto_region 30 with fail
        have hb9s : w9.heap.size ≤ ((w13.setCell ⟨gP, 0, none⟩ (.int .i64 (W : Int))).setCell ⟨gP, 1, none⟩ (.slice aY NY cY)).heap.size := by
          have h1 := b911.size
          have h2 := b1113.size
          simp
          omega
        have hPq14 : PArg aq qs2 ((w13.setCell ⟨gP, 0, none⟩ (.int .i64 (W : Int))).setCell ⟨gP, 1, none⟩ (.slice aY NY cY)) := by
          have b913 := b911.trans (b1113.mono b911.size)
          refine hPq.moved hb9s (fun g hg hl => ?_)
          have hne : g ≠ gP := fun e => hqgP (e ▸ hg)
          rw [Below.heap_setCell _ _ _ _ (by exact hne), Below.heap_setCell _ _ _ _ (by exact hne)]
          exact b913.block g hl
        generalize (w13.setCell ⟨gP, 0, none⟩ (.int .i64 (W : Int))).setCell ⟨gP, 1, none⟩ (.slice aY NY cY) = w14 at hLM14 bw14 hPq14 hb9s ⊢
        have own10 := hLM14.e
        rw [hel] at own10
        have hbs14 : gP ≤ w14.heap.size := by rw [← hgP.out]; exact bw14.size
        rw [him.out]
        generalize hi2s : (imgT (rs ++ (ad.map Rc.nd ++ [Rc.cm (i + 1) root]))) = im2 at hi2 ⊢
        have hi2o : Hid (imgT (rs ++ (ad.map Rc.nd ++ [Rc.cm (i + 1) root])) = im2) := hi2s
        have hi2h : Hid (im2.size = 64 * totS (rs ++ (ad.map Rc.nd ++ [Rc.cm (i + 1) root]))) := hi2
        clear hi2s hi2 s1' s2' p0' p1' fp him
        go_wp2_with (at_builtin; refine wpList_append_lies _ rfl (.tmp 136) (.tmp 139) 30 rfl gP 3 i3 (.int .i64 0) 1 8 Tryz.underlying30 hi3 hy0 hy1 hy2 rfl (by decide) (.slice a10 i c10) i (EN.map Jn) rfl (own10.alloc _) ⟨w14.heap.size, 0, none⟩ 1 1 [.int .i64 (im2.size : Int)] rfl rfl (World.news_of_block (heap_alloc_new w14 _)) (by simp [Value.oneCell']) (by decide) (by unfold maxLen; omega) (by omega) (by simp; omega) (w14.heap.size + 1) (by simp) ?_; intro g15 c15 w15 hown15 hgrow15 hat15 hlt15)
        go_roundw
        case rel =>
          have hLM15 : LM gP gP W qs a5 c5 (X ++ ad) aY cY (RT ++ [root]) (some ⟨g7, 0, none⟩) c7 (EN ++ [im2.size]) (some ⟨g15, 0, none⟩) c15 w15 := hLM14.fin (by rw [hel]; exact hown15) (by rw [hel]; exact hgrow15) (by rw [hel]; exact hat15)
          have hkq : ∀ g, rb aq = some g → g < w14.heap.size → w15.heap[g]? = w14.heap[g]? := fun g hg hl => by
            refine (hgrow15.block g (by simp; omega) (fun e => ?_)).trans (Below.heap_alloc _ _ _ hl)
            rw [rb_own] at e
            exact (hdq g hg).2.1 e.symm
          have hsz15 : w14.heap.size ≤ w15.heap.size := Nat.le_trans (by simp) hgrow15.size
          have hPq15 := hPq14.moved hsz15 hkq
          have hLM16 := hLM15.map (cq := cq) hPq15 (by rw [hQ2o.out]; exact hcq) (fun g hg => ⟨(hdq g hg).1, fun e => by
              have e2 : g15 = g := Option.some.inj e
              subst e2
              rcases hat15 with h1 | h1
              · rw [rb_own] at h1; exact (hdq g15 hg).2.1 h1
              · have := (hdq g15 hg).2.2; omega, by have := (hdq g hg).2.2; omega⟩)
          have bw15 : Below w2.heap.size w2 w15 := (bw14.alloc bw14.size _).grown hgrow15 (by simp; exact Nat.le_succ_of_le bw14.size) (fun q hq => by rw [hgP.out]; exact (ownG_cells own10 hq).1)
          refine ⟨i + 1, qs2, aq, cq, rs ++ (ad.map Rc.nd ++ [Rc.cm (i + 1) root]), X ++ ad, aY, cY, RT ++ [root], _, c7, EN ++ [im2.size], _, c15, hlt, by rw [hQ2o.out], by rw [hi2o.out], by rw [List.length_append, hrl]; rfl, by rw [List.length_append, hel]; rfl, by go_num, hqm2, by rw [hQ2o.out]; omega, hqs2, by rw [hi2h.out]; exact hC2'.out, hX3, hLM16, hqgP, bw15⟩
        case measure => simp [intOf]; omega
    · rw [hsO] at HS0
      unfold SavedIs svV at HS0
      have HS : Hid (∀ _u : Unit, Calls Tryz.prog 8 #[.agg #[.int .i64 (W : Int), .slice aX NX cX], .slice a5 Qi c5] w9 fun e w' => ∃ aY cY, e = .returned (.agg #[.int .i64 4, .int .i64 (W : Int), .slice aY NX cY, .string ⟨#[]⟩, .string (txt u), .string (txt e0)]) ∧ Below w9.heap.size w9 w') := fun _ => by
        rw [hNXo.out, hQo.out] at HS0
        refine HS0.mono ?_
        rintro e w' ⟨aY, cY, rfl, hOY⟩
        exact ⟨aY, cY, rfl, hOY.bel⟩
      clear HS0
      have hdg : hashT W u = hashT W e0 := hhe
      have HCo : Hid (∀ w' aY cY, Calls Tryz.prog 9 #[.agg #[.int .i64 4, .int .i64 (W : Int), .slice aY NX cY, .string ⟨#[]⟩, .string (txt u), .string (txt e0)], .int .i64 (W : Int)] w' fun e w'' => e = .returned (.bool true) ∧ Below w'.heap.size w' w'') := fun w' aY cY =>
        coll_any 4 (W : Int) (W : Int) aY NX cY ⟨#[]⟩ (txt u) (txt e0) (hashT W u) w' (fun h => hue (by
          have h2 := congrArg (fun x : ByteArray => x.data.toList) h
          simp only [txt_list, List.cons.injEq, true_and] at h2
          apply ByteArray.ext; apply Array.ext'; exact h2))
          (fun w'' => (sdig_yes (txt u) W w'' (by rw [txt_size]; omega) hW1 hW2).mono (by rintro e w3' ⟨rfl, hb⟩; exact ⟨by rw [txt_list]; rfl, hb⟩))
          (fun w'' => (sdig_yes (txt e0) W w'' (by rw [txt_size]; omega) hW1 hW2).mono (by rintro e w3' ⟨rfl, hb⟩; exact ⟨by rw [hdg, txt_list]; rfl, hb⟩))
      generalize txt u = tu at HS HCo
      generalize txt e0 = te at HS HCo
      clear hdg hhe hue hsO hu1 he1
      go_wp2_with (first | (go_at_call 8; refine (HS.out ()).mono ?_; rintro e w10 ⟨aY, cY, rfl, hb10⟩; have al11 : Below w10.heap.size w10 (w10.alloc (.cells #[.int .i64 4, .int .i64 (W : Int), .slice aY NX cY, .string ⟨#[]⟩, .string tu, .string te] 34)) := (Below.refl _ _).alloc (Nat.le_refl _) _) | (go_at_call 9; refine (HCo.out _ aY cY).mono ?_; rintro e w12 ⟨rfl, hb12'⟩))
      go_ret
      have hb9e := bw9.trans (hb10.mono bw9.size)
      have hb10e := hb9e.trans (al11.mono hb9e.size)
      have hb11e := hb10e.trans (hb12'.mono hb10e.size)
      exact ⟨rfl, hb12.trans (hb11e.mono hb12.size)⟩
  · as_aux_lemma =>
    have hie : i = n := by omega
    subst hie
    have zi : decide ((i : Int) < (i : Int)) = false := decide_eq_false (by omega)
    have zi2 : ¬ ((i : Int) < (i : Int)) := by omega
    have hrl := hC.rl
    have hel := hC.el
    have hC' : Hid (CI W i rs X RT EN) := hC
    have hsa9 : ∀ W', Below wr.heap.size wr W' → SArg a9 RT W' := fun W' hb => by
      refine (own_sarg hLM.r (by omega) (fun j => ?_)).below hb
      have hI : ∀ e ∈ RT, e.size ≤ 32 := by
        obtain ⟨R, hR⟩ := reads_ex (imgT rs)
        obtain ⟨n1, n2⟩ := no_end (s := imgT rs) (n := totS rs) (by rw [hC.img]; omega)
        have hre := reach_go hR .zero hC.good hC.placed
        rw [hC.fold] at hre
        exact (hre.inv (fun m => (hR m).2)).root
      rw [List.getD_eq_getElem?_getD]
      cases hj : RT[j]? with
      | none => exact Nat.zero_le _
      | some e => exact Nat.le_trans (hI e (List.mem_of_getElem? hj)) (by decide)
    have hsa9o : Hid _ := hsa9
    clear hsa9
    obtain ⟨NX, hNX⟩ : ∃ N, X.length = N := ⟨_, rfl⟩
    have hNXo : Hid (X.length = NX) := hNX
    have HWh : Hid (∀ w', Below w2.heap.size w2 w' → Calls Tryz.prog 12 #[.string (imgT rs), .int .i64 (W : Int)] w' fun e w'' => ∃ aN cN aR cR, e = .returned (.agg #[.slice aN NX cN, .slice aR i cR, .int .i64 ((imgT rs).size : Int)]) ∧ SArg aN X w'' ∧ SArg aR RT w'' ∧ Below w'.heap.size w' w'') := fun w' hb => by
      have := whole_c hC (by omega) hW1 hW2 w' (hW0.out.below hb)
      rw [hNX, hrl] at this
      exact this
    have HCu : Hid (∀ b w', b < (imgT rs).size → Below w2.heap.size w2 w' → Calls Tryz.prog 12 #[.string ((imgT rs).extract 0 b), .int .i64 (W : Int)] w' (PartPost RT EN i b w')) := fun b w' hb0 hb => cut_c hC (by omega) hW1 hW2 hb0 w' (hW0.out.below hb)
    have HHu : Hid (∀ q w', 64 * q < (imgT rs).size → Below w2.heap.size w2 w' → Calls Tryz.prog 12 #[.string (hurtB (imgT rs) (64 * q)), .int .i64 (W : Int)] w' (PartPost RT EN i (64 * q) w')) := fun q w' hq hb => hurt_c hC (by omega) hW1 hW2 hq w' (hW0.out.below hb)
    have HT : Hid (∀ (zs : List ByteArray) (N : Nat) (x y : Option Addr) (c d : Nat) w', zs.length = N → SArg x zs w' → SArg y zs w' → Calls Tryz.prog 13 #[.slice x N c, .slice y N d] w' fun e w'' => e = .returned (.bool true) ∧ Below w'.heap.size w' w'') := fun zs N x y c d w' hz h1 h2 => by
      have := wtexts_same x y zs c d w' h1 h2
      rw [hz] at this
      exact this
    have him := hC.img
    have hge := hC.ge
    have hsz := hC.sz
    rw [hrl, hel]
    obtain ⟨T0, hT0⟩ : ∃ T, totS rs = T := ⟨_, rfl⟩
    rw [hT0] at him hge hsz
    generalize imgT rs = im at HWh HCu HHu him ⊢
    have zl1 : ¬ ((im.size : Int) < 64 * (i : Int)) := by omega
    have zl2 : decide ((im.size : Int) < 64 * (i : Int)) = false := decide_eq_false zl1
    have zl3 : ((im.size : Int) % 64 != 0) = false := by rw [bne_eq_false_iff_eq]; omega
    have zl4 : (im.size : Int) % 64 = 0 := by omega
    have zl5 : ((im.size : Int) != (im.size : Int)) = false := by simp
    have himh : Hid (im.size = 64 * T0) := him
    have himb : im.size ≤ 1048576 := by have : i * 2000 ≤ 6 * 2000 := Nat.mul_le_mul (by omega) (Nat.le_refl _); omega
    have himp : 64 ≤ im.size := by omega
    have hrlo : Hid (RT.length = i) := hrl
    have helo : Hid (EN.length = i) := hel
    have hw6 : w2.heap.size ≤ wr.heap.size := hbw.size
    clear hC hNX hT0 him hge hsz hrl hel hqm hql hqs hX hmap hps
    go_upto_region 33 with (first | (go_at_call 12; refine (HWh.out _ hbw).mono ?_; rintro e w5 ⟨aN, cN, aR, cR, rfl, hsN, hsR, hb5⟩))
    have nA := heap_alloc_new w5 (.cells #[.slice aN NX cN, .slice aR i cR, .int .i64 (im.size : Int)] 40)
    have al6 : Below w5.heap.size w5 (w5.alloc (.cells #[.slice aN NX cN, .slice aR i cR, .int .i64 (im.size : Int)] 40)) := (Below.refl _ _).alloc (Nat.le_refl _) _
    generalize w5.alloc (.cells #[.slice aN NX cN, .slice aR i cR, .int .i64 (im.size : Int)] 40) = w6 at nA al6 ⊢
    generalize w5.heap.size = gA at nA ⊢
    have b56 := hb5.trans (al6.mono hb5.size)
    have hLM6 := hLM.below b56
    have bw6 := hbw.trans (b56.mono hbw.size)
    have hsN6 := hsN.below al6
    have hsR6 := hsR.below al6
    have h96 := hsa9o.out _ b56
    have n6 := hLM6.blk
    rw [hNXo.out] at n6
    have p1 := Lib.cell_of_heap n6 1
    have k0 := Lib.cell_of_heap nA 0
    have k1 := Lib.cell_of_heap nA 1
    have k2 := Lib.cell_of_heap nA 2
    have hgA := (Array.getElem?_eq_some_iff.1 nA).1
    have hgP6 := (Array.getElem?_eq_some_iff.1 n6).1
    go_upto_region 35 with (first | (go_at_call_of 13 (Value.slice aN NX cN); refine (HT.out X NX aN aX cN cX _ hNXo.out (hsN6.below hb7) (hLM6.x.below hb7)).mono ?_; rintro e w8 ⟨rfl, hb8⟩) | (go_at_call_of 13 (Value.slice aR i cR); refine (HT.out RT i aR a9 cR c9 _ hrlo.out hsR6 h96).mono ?_; rintro e w7 ⟨rfl, hb7⟩; have k0 := (hb7.cell (p := ⟨gA, 0, none⟩) hgA).trans k0; have k2 := (hb7.cell (p := ⟨gA, 2, none⟩) hgA).trans k2; have p1 := (hb7.cell (p := ⟨gP, 1, none⟩) hgP6).trans p1))
    have b68 := hb7.trans (hb8.mono hb7.size)
    have bw8 := bw6.trans (b68.mono bw6.size)
    have hLM8 := hLM6.below b68
    have b8 := b56.trans (b68.mono b56.size)
    clear hsN hsR hb5 al6 hsN6 hsR6 h96 nA n6 hgA hgP6 hLM6 hb8 hLM HWh zl1 zl2 zl3 zl4 zl5
    have H7 : Hid (∀ w', Below w2.heap.size w2 w' → Calls Tryz.prog 6 #[.slice b LY cb, .int .i64 7] w' fun e w'' => ∃ v : Nat, v ≤ 100000 ∧ e = .returned (.int .i64 (v : Int)) ∧ Below w'.heap.size w' w'') := fun w' hb => hPk2.out 7 w' (by omega) hb
    have H8 : Hid (∀ w', Below w2.heap.size w2 w' → Calls Tryz.prog 6 #[.slice b LY cb, .int .i64 8] w' fun e w'' => ∃ v : Nat, v ≤ 100000 ∧ e = .returned (.int .i64 (v : Int)) ∧ Below w'.heap.size w' w'') := fun w' hb => hPk2.out 8 w' (by omega) hb
    have yz1 : ¬ (im.size = 0) := by omega
    have yz2 : ((im.size : Int) == 0) = false := by rw [beq_eq_false_iff_ne]; omega
    go_upto_region 36 with (first | (go_at_call_of 6 (Value.int .i64 8); refine (H8.out _ bw9).mono ?_; rintro e w10 ⟨v8, hv8, rfl, hb10⟩; obtain ⟨sm, hsm, hsml⟩ : ∃ sm : Nat, (m7 : Int) + (v8 : Int) = (sm : Int) ∧ sm ≤ 30000000 := ⟨m7 + v8, by omega, by omega⟩; obtain ⟨aw, haw1, haw2, hawl⟩ : ∃ aw : Nat, (sm : Int).tmod (im.size : Int) = (aw : Int) ∧ (sm : Int) % (im.size : Int) = (aw : Int) ∧ aw < im.size := ⟨sm % im.size, by rw [Int.tmod_eq_emod_of_nonneg (by omega)]; exact (Int.natCast_emod _ _).symm, (Int.natCast_emod _ _).symm, Nat.mod_lt _ (by omega)⟩) | (go_at_call_of 6 (Value.int .i64 7); refine (H7.out _ bw8).mono ?_; rintro e w9 ⟨v7, hv7, rfl, hb9⟩; have bw9 := bw8.trans (hb9.mono bw8.size); obtain ⟨m7, hm7, hm7l⟩ : ∃ m : Nat, (v7 : Int) * 256 = (m : Int) ∧ m ≤ 25600000 := ⟨v7 * 256, by omega, by omega⟩))
    have b810 := hb9.trans (hb10.mono hb9.size)
    have bw10 := bw8.trans (b810.mono bw8.size)
    have hLM10 := hLM8.below b810
    have b10 := b8.trans (b810.mono b8.size)
    obtain ⟨q, hq1, hq2, hq3, hq4⟩ : ∃ q : Nat, (aw : Int) / 64 = (q : Int) ∧ (aw : Int).tdiv 64 = (q : Int) ∧ 64 * q ≤ aw ∧ aw < 64 * q + 64 := ⟨aw / 64, by omega, by rw [Int.tdiv_eq_ediv_of_nonneg (by omega)]; omega, by omega, by omega⟩
    obtain ⟨m, hm, hmq⟩ : ∃ m : Nat, (q : Int) * 64 = (m : Int) ∧ m = 64 * q := ⟨64 * q, by omega, rfl⟩
    have hmqo : Hid (m = 64 * q) := hmq
    have hm64 : m + 64 ≤ im.size := by have := himh.out; omega
    have hmw : m ≤ aw ∧ aw < m + 64 := by omega
    obtain ⟨m63, hm63, hm63e⟩ : ∃ x : Nat, (m : Int) + 63 = (x : Int) ∧ x = m + 63 := ⟨m + 63, by omega, rfl⟩
    obtain ⟨m64, hm64', hm64e⟩ : ∃ x : Nat, (m : Int) + 64 = (x : Int) ∧ x = m + 64 := ⟨m + 64, by omega, rfl⟩
    have hm3 : m63 ≤ im.size := by omega
    have hm4 : m64 ≤ im.size := by omega
    have hm3i : (m63 : Int) ≤ (im.size : Int) := by omega
    have hm4i : (m64 : Int) ≤ (im.size : Int) := by omega
    have hhb : Hid (im.extract 0 m63 ++ ⟨#[0]⟩ ++ im.extract m64 im.size = hurtB im (64 * q)) := by
      show _ = _
      unfold hurtB
      rw [hm63e, hm64e, hmq]
    have e1 : (im.extract 0 m63).size = m63 := by rw [ByteArray.size_extract]; omega
    have e2 : (im.extract m64 im.size).size = im.size - m64 := by rw [ByteArray.size_extract]; omega
    have zc1 : ¬ (9223372036854775807 < (im.extract 0 m63).size + (⟨#[0]⟩ : ByteArray).size) := by rw [e1]; show ¬ _ < m63 + 1; omega
    have zc2 : ¬ (9223372036854775807 < (im.extract 0 m63 ++ (⟨#[0]⟩ : ByteArray)).size + (im.extract m64 im.size).size) := by rw [ByteArray.size_append, e1, e2]; show ¬ _ < m63 + 1 + _; omega
    have zc3 : ¬ (9223372036854775807 < min m63 im.size + 1) := by omega
    have zc4 : ¬ (9223372036854775807 < min m63 im.size + 1 + (im.size - m64)) := by omega
    have zc5 : ¬ (9223372036854775807 < min m63 im.size + 1 + (min im.size im.size - m64)) := by omega
    clear hm63e hm64e hmq e1 e2 hm7 hm7l hsm hsml haw1 haw2 hv7 hv8 yz1 yz2 H7 H8 hb9 hb10 hb7 k0 k1 k2 p1 hLM8
    go_upto_region 37 with fail
    go_quiet (first | fail)
    have bd : Below w10.heap.size w10 (w10.drewN nq) := draws_below nq (Below.refl _ _)
    generalize w10.drewN nq = w11 at bd ⊢
    have hLM11 := hLM10.below bd
    have bw11 := bw10.trans (bd.mono bw10.size)
    have b11 := b10.trans (bd.mono b10.size)
    rw [hhb.out]
    have HH1 : Hid (∀ w', Below w2.heap.size w2 w' → Calls Tryz.prog 12 #[.string (hurtB im (64 * q)), .int .i64 (W : Int)] w' (PartPost RT EN i (64 * q) w')) := fun w' hb => HHu.out q w' (by omega) hb
    have HC1 : Hid (∀ w', Below w2.heap.size w2 w' → Calls Tryz.prog 12 #[.string (im.extract 0 aw), .int .i64 (W : Int)] w' (PartPost RT EN i aw w')) := fun w' hb => HCu.out aw w' hawl hb
    generalize hurtB im (64 * q) = hu at HH1 ⊢
    rw [← hmqo.out] at HH1
    clear hhb zc1 zc2 zc3 zc4 zc5 hm63 hm64' hm3 hm4 hm3i hm4i HHu HCu bd hLM10
    go_upto_region 41 with fail
    go_wp2_with fail
    go_loopw [21, 22, 23] (fun t21 t22 t23 wq => ∃ k : Nat, k ≤ i ∧ t21 = .int .i64 ((lastE aw EN k : Nat) : Int) ∧ t22 = .int .i64 ((lastE m EN k : Nat) : Int) ∧ t23 = .int .i64 (k : Int) ∧ w11 = wq) (fun _ _ t23 _ => i - (intOf t23).toNat)
    case atStart => exact ⟨0, Nat.zero_le _, rfl, rfl, rfl, rfl⟩
    case round =>
    obtain ⟨k, hk, rfl, rfl, rfl, rfl⟩ := hrel
    by_cases hkl : k < i
    · have zk : (k : Int) < (i : Int) := by omega
      have zk0 : (0 : Int) ≤ (k : Int) := Int.natCast_nonneg _
      obtain ⟨g10, rfl, hcE⟩ := hLM11.en_at k (by rw [helo.out]; exact hkl)
      have hl1 : Hid (lastE aw EN (k + 1) = if EN.getD k 0 ≤ aw then k + 1 else lastE aw EN k) := rfl
      have hl2 : Hid (lastE m EN (k + 1) = if EN.getD k 0 ≤ m then k + 1 else lastE m EN k) := rfl
      generalize EN.getD k 0 = x at hcE hl1 hl2
      have hb1 := lastE_le aw EN k
      have hb2 := lastE_le m EN k
      generalize lastE aw EN k = L1 at hl1 hb1 ⊢
      generalize lastE m EN k = L2 at hl2 hb2 ⊢
      by_cases c1 : x ≤ aw
      · have z1 : decide ((x : Int) ≤ (aw : Int)) = true := decide_eq_true (by omega)
        have z2 : decide (x ≤ aw) = true := decide_eq_true c1
        have hl1' : Hid (lastE aw EN (k + 1) = k + 1) := by show _ = _; rw [hl1.out, if_pos c1]
        by_cases c2 : x ≤ m
        · have z3 : decide ((x : Int) ≤ (m : Int)) = true := decide_eq_true (by omega)
          have z4 : decide (x ≤ m) = true := decide_eq_true c2
          have hl2' : Hid (lastE m EN (k + 1) = k + 1) := by show _ = _; rw [hl2.out, if_pos c2]
          go_wp2_with fail
          go_roundw
          case rel => exact ⟨k + 1, hkl, by rw [hl1'.out]; rfl, by rw [hl2'.out]; rfl, rfl, by first | rfl | trivial⟩
          case measure => simp [intOf]; omega
        · have z3 : decide ((x : Int) ≤ (m : Int)) = false := decide_eq_false (by omega)
          have z4 : decide (x ≤ m) = false := decide_eq_false c2
          have hl2' : Hid (lastE m EN (k + 1) = L2) := by show _ = _; rw [hl2.out, if_neg c2]
          go_wp2_with fail
          go_roundw
          case rel => exact ⟨k + 1, hkl, by rw [hl1'.out]; rfl, by rw [hl2'.out], rfl, by first | rfl | trivial⟩
          case measure => simp [intOf]; omega
      · have z1 : decide ((x : Int) ≤ (aw : Int)) = false := decide_eq_false (by omega)
        have z2 : decide (x ≤ aw) = false := decide_eq_false c1
        have hl1' : Hid (lastE aw EN (k + 1) = L1) := by show _ = _; rw [hl1.out, if_neg c1]
        have c2 : ¬ (x ≤ m) := by omega
        have z3 : decide ((x : Int) ≤ (m : Int)) = false := decide_eq_false (by omega)
        have z4 : decide (x ≤ m) = false := decide_eq_false c2
        have hl2' : Hid (lastE m EN (k + 1) = L2) := by show _ = _; rw [hl2.out, if_neg c2]
        go_wp2_with fail
        go_roundw
        case rel => exact ⟨k + 1, hkl, by rw [hl1'.out], by rw [hl2'.out], rfl, by first | rfl | trivial⟩
        case measure => simp [intOf]; omega
    · obtain rfl : k = i := by omega
      have zk : ¬ ((k : Int) < (k : Int)) := by omega
      have hb1 := lastE_le aw EN k
      have hb2 := lastE_le m EN k
      unfold PartPost at HH1 HC1
      have hf1 : Hid (finE aw EN k = if lastE aw EN k = 0 then 0 else EN.getD (lastE aw EN k - 1) 0) := rfl
      have hf2 : Hid (finE m EN k = if lastE m EN k = 0 then 0 else EN.getD (lastE m EN k - 1) 0) := rfl
      generalize finE aw EN k = F1 at HC1 hf1
      generalize finE m EN k = F2 at HH1 hf2
      generalize lastE aw EN k = K1 at HC1 hf1 hb1 ⊢
      generalize lastE m EN k = K2 at HH1 hf2 hb2 ⊢
      have haws : (aw : Int) ≤ (im.size : Int) := by omega
      have haw0 : (0 : Int) ≤ (aw : Int) := by omega
      go_upto_region 48 with (first | (go_at_call 12; refine (HC1.out _ bw11).mono ?_; rintro e w12 ⟨N1, aN1, cN1, aR1, cR1, rfl, hs1, hb12x⟩))
      have nT := heap_alloc_new w12 (.cells #[.slice aN1 N1 cN1, .slice aR1 K1 cR1, .int .i64 (F1 : Int)] 40)
      have al13 : Below w12.heap.size w12 (w12.alloc (.cells #[.slice aN1 N1 cN1, .slice aR1 K1 cR1, .int .i64 (F1 : Int)] 40)) := (Below.refl _ _).alloc (Nat.le_refl _) _
      generalize w12.alloc (.cells #[.slice aN1 N1 cN1, .slice aR1 K1 cR1, .int .i64 (F1 : Int)] 40) = w13 at nT al13 ⊢
      generalize w12.heap.size = gT at nT ⊢
      have b1113 := hb12x.trans (al13.mono hb12x.size)
      have bw13 := bw11.trans (b1113.mono bw11.size)
      have b13 := b11.trans (b1113.mono b11.size)
      have hLM13 := hLM11.below b1113
      have hs1 := hs1.below al13
      clear al13 b1113 hLM11 hb12x HC1
      go_upto_region 49 with (first | (go_at_call 12; refine (HH1.out _ bw13).mono ?_; rintro e w14 ⟨N2, aN2, cN2, aR2, cR2, rfl, hs2, hb14⟩))
      have nU := heap_alloc_new w14 (.cells #[.slice aN2 N2 cN2, .slice aR2 K2 cR2, .int .i64 (F2 : Int)] 40)
      have al15 : Below w14.heap.size w14 (w14.alloc (.cells #[.slice aN2 N2 cN2, .slice aR2 K2 cR2, .int .i64 (F2 : Int)] 40)) := (Below.refl _ _).alloc (Nat.le_refl _) _
      generalize w14.alloc (.cells #[.slice aN2 N2 cN2, .slice aR2 K2 cR2, .int .i64 (F2 : Int)] 40) = w15 at nU al15 ⊢
      generalize w14.heap.size = gU at nU ⊢
      have b1315 := hb14.trans (al15.mono hb14.size)
      have bw15 := bw13.trans (b1315.mono bw13.size)
      have b15 := b13.trans (b1315.mono b13.size)
      have hLM15 := hLM13.below b1315
      have nT := (b1315.block gT (Array.getElem?_eq_some_iff.1 nT).1).trans nT
      have hs1 := hs1.below b1315
      have hs2 := hs2.below al15
      have hT15 := hsa9o.out _ b15
      have hTa : SArg a9 (RT.take K1) w15 := hT15.take K1
      have hTb : SArg a9 (RT.take K2) w15 := hT15.take K2
      have hz1 : (RT.take K1).length = K1 := by rw [List.length_take, hrlo.out]; omega
      have hz2 : (RT.take K2).length = K2 := by rw [List.length_take, hrlo.out]; omega
      clear al15 b1315 hLM13 hb14 HH1
      obtain ⟨g9, rfl, hkc, hcm⟩ : ∃ g, a9 = some ⟨g, 0, none⟩ ∧ k ≤ c9 ∧ c9 ≤ maxLen := by
        have hrl := hrlo.out
        rcases hLM15.r.2 with ⟨_, hn⟩ | ⟨g, cap, cur, hv, _, _, h1, h2, _⟩
        · omega
        · injection hv with q1 q2 q3
          subst q1 q3
          exact ⟨g, rfl, by omega, h2⟩
      have hcm : c9 ≤ 9223372036854775807 := hcm
      have zK1 : (0 : Int) ≤ (K1 : Int) := by omega
      have zK2 : (0 : Int) ≤ (K2 : Int) := by omega
      have zK3 : (K1 : Int) ≤ (c9 : Int) := by omega
      have zK4 : (K2 : Int) ≤ (c9 : Int) := by omega
      have zK5 : K1 ≤ c9 := by omega
      have zK6 : K2 ≤ c9 := by omega
      have k0 := Lib.cell_of_heap nT 1
      have k1 := Lib.cell_of_heap nU 1
      have k2 := Lib.cell_of_heap nT 2
      have k3 := Lib.cell_of_heap nU 2
      have hgT := (Array.getElem?_eq_some_iff.1 nT).1
      have hgU := (Array.getElem?_eq_some_iff.1 nU).1
      have HQ : Hid (∀ W', Below w15.heap.size w15 W' → W'.cell? ⟨gT, 1, none⟩ = some (.slice aR1 K1 cR1) ∧ W'.cell? ⟨gU, 1, none⟩ = some (.slice aR2 K2 cR2)) := fun W' hb => ⟨(hb.cell (p := ⟨gT, 1, none⟩) hgT).trans k0, (hb.cell (p := ⟨gU, 1, none⟩) hgU).trans k1⟩
      have HQ2 : Hid (∀ W', Below w15.heap.size w15 W' → W'.cell? ⟨gT, 2, none⟩ = some (.int .i64 (F1 : Int)) ∧ W'.cell? ⟨gU, 2, none⟩ = some (.int .i64 (F2 : Int))) := fun W' hb => ⟨(hb.cell (p := ⟨gT, 2, none⟩) hgT).trans k2, (hb.cell (p := ⟨gU, 2, none⟩) hgU).trans k3⟩
      have HX1 : Hid (∀ W', Below w15.heap.size w15 W' → Calls Tryz.prog 13 #[.slice aR1 K1 cR1, .slice (some ⟨g9, 0, none⟩) K1 c9] W' fun e w'' => e = .returned (.bool true) ∧ Below W'.heap.size W' w'') := fun W' hb => HT.out (RT.take K1) K1 aR1 (some ⟨g9, 0, none⟩) cR1 c9 _ hz1 (hs1.below hb) (hTa.below hb)
      have HX2 : Hid (∀ W', Below w15.heap.size w15 W' → Calls Tryz.prog 13 #[.slice aR2 K2 cR2, .slice (some ⟨g9, 0, none⟩) K2 c9] W' fun e w'' => e = .returned (.bool true) ∧ Below W'.heap.size W' w'') := fun W' hb => HT.out (RT.take K2) K2 aR2 (some ⟨g9, 0, none⟩) cR2 c9 _ hz2 (hs2.below hb) (hTb.below hb)
      have bd15 : Below w15.heap.size w15 w15.drew := (Below.refl _ _).drew
      clear k0 k1 k2 k3 hs1 hs2 hTa hTb hT15 hz1 hz2 nT nU hgT hgU
      go_region_held3 (fun W => W.cell? ⟨gT, 1, none⟩ = some (.slice aR1 K1 cR1) ∧ W.cell? ⟨gU, 1, none⟩ = some (.slice aR2 K2 cR2)) (first | exact HQ.out _ bd15 | exact HQ.out _ b16 | exact HQ.out _ b17) (first | (go_at_call_of 13 (Value.slice aR1 K1 cR1); refine (HX1.out _ bd15).mono ?_; rintro e w16 ⟨rfl, hb16⟩; have b16 := bd15.trans (hb16.mono bd15.size); clear hb16) | (go_at_call_of 13 (Value.slice aR2 K2 cR2); refine (HX2.out _ b16).mono ?_; rintro e w17 ⟨rfl, hb17⟩; have b17 := b16.trans (hb17.mono b16.size); clear hb17))
      have hLM17 := hLM15.below b17
      have hQ2 := HQ2.out _ b17
      have bz17 := b15.trans (b17.mono b15.size)
      go_upto_region 51 with fail
      obtain ⟨g10, rfl, hEN⟩ : ∃ g, a10 = some ⟨g, 0, none⟩ ∧ ∀ j, j < k → w17.cell? ⟨g, j, none⟩ = some (.int .i64 ((EN.getD j 0 : Nat) : Int)) := by
        have hel := helo.out
        obtain ⟨g, rfl, _⟩ := hLM17.en_at 0 (by omega)
        refine ⟨g, rfl, fun j hj => ?_⟩
        obtain ⟨g', e, hc⟩ := hLM17.en_at j (by omega)
        injection e with e
        injection e with e _ _
        subst e
        exact hc
      have hENo : Hid _ := hEN
      clear hEN
      obtain ⟨k2, k3⟩ := hQ2
      have bq : ∀ nq, Below w.heap.size w (w17.drewN nq) := fun nq => draws_below nq (hb12.trans ((bw15.trans (b17.mono bw15.size)).mono hb12.size))
      have hC0 : (K1 = 0 ∧ F1 = 0) ∨ ∃ p : Nat, p < k ∧ ¬ ((K1 : Int) = 0) ∧ (0 : Int) < (K1 : Int) ∧ (K1 : Int) - 1 = (p : Int) ∧ w17.cell? ⟨g10, p, none⟩ = some (.int .i64 (F1 : Int)) := by
        have h1 := hf1.out
        rcases Nat.eq_zero_or_pos K1 with h0 | h0
        · exact .inl ⟨h0, by rw [h1, if_pos h0]⟩
        · refine .inr ⟨K1 - 1, by omega, by omega, by omega, by omega, ?_⟩
          rw [hENo.out (K1 - 1) (by omega), h1, if_neg (by omega)]
      have hC1 : (K2 = 0 ∧ F2 = 0) ∨ ∃ p : Nat, p < k ∧ ¬ ((K2 : Int) = 0) ∧ (0 : Int) < (K2 : Int) ∧ (K2 : Int) - 1 = (p : Int) ∧ w17.cell? ⟨g10, p, none⟩ = some (.int .i64 (F2 : Int)) := by
        have h1 := hf2.out
        rcases Nat.eq_zero_or_pos K2 with h0 | h0
        · exact .inl ⟨h0, by rw [h1, if_pos h0]⟩
        · refine .inr ⟨K2 - 1, by omega, by omega, by omega, by omega, ?_⟩
          rw [hENo.out (K2 - 1) (by omega), h1, if_neg (by omega)]
      have hENx := hENo.out
      clear hf1 hf2 hENo HQ HQ2 HX1 HX2 HT hsa9o hC' hPk2 JR hKh hLM17 hLM15 hLM4 bd15 b16 b17 bz17 b15 b13 b11 b10 b8 b68 b56 b810 bw15 bw13 bw11 bw10 bw9 bw8 bw6 hi9 hx0 hx1 hx2 hi3 hy0 hy1 hy2 hcm hkc b4 hbw hb12 hq1 hq2 hq3 hq4 hm hmw hm64 himb himp haws haw0 hawl
      have lT : gT < w17.heap.size := World.block_lt_of_cell? w17 _ k2
      have lU : gU < w17.heap.size := World.block_lt_of_cell? w17 _ k3
      have l10 : g10 < w17.heap.size := World.block_lt_of_cell? w17 _ (hENx 0 (by omega))
      clear hENx
      rcases hC0 with ⟨rfl, rfl⟩ | ⟨p1, hp1, x1, x2, x3, x4⟩
      · rcases hC1 with ⟨rfl, rfl⟩ | ⟨p2, hp2, y1, y2, y3, y4⟩
        · as_aux_lemma =>
          go_quiet (first | fail)
          go_wp2_with fail
          go_ret
          exact ⟨rfl, bq _⟩
        · as_aux_lemma =>
          have x0 : (0 : Int) ≤ (p2 : Int) := by omega
          have x9 : (p2 : Int) < (k : Int) := by omega
          have f2a : ¬ (K2 = 0) := by omega
          have f2b : (K2 == 0) = false := by rw [beq_eq_false_iff_ne]; exact f2a
          have f2c : ((K2 : Int) == 0) = false := by rw [beq_eq_false_iff_ne]; omega
          have f2d : 0 < K2 := by omega
          have f2e : decide ((0 : Int) < (K2 : Int)) = true := decide_eq_true (by omega)
          have f2f : IntKind.i64.wrap ((K2 : Int) - 1) = (p2 : Int) := by rw [IntKind.wrap_i64]; omega
          go_quiet (first | fail)
          go_wp2_with fail
          go_ret
          exact ⟨rfl, bq _⟩
      · have y0 : (0 : Int) ≤ (p1 : Int) := by omega
        have y9 : (p1 : Int) < (k : Int) := by omega
        have f1a : ¬ (K1 = 0) := by omega
        have f1b : (K1 == 0) = false := by rw [beq_eq_false_iff_ne]; exact f1a
        have f1c : ((K1 : Int) == 0) = false := by rw [beq_eq_false_iff_ne]; omega
        have f1d : 0 < K1 := by omega
        have f1e : decide ((0 : Int) < (K1 : Int)) = true := decide_eq_true (by omega)
        have f1f : IntKind.i64.wrap ((K1 : Int) - 1) = (p1 : Int) := by rw [IntKind.wrap_i64]; omega
        rcases hC1 with ⟨rfl, rfl⟩ | ⟨p2, hp2, y1, y2, y3, y4⟩
        · as_aux_lemma =>
          go_quiet (first | fail)
          go_wp2_with fail
          go_ret
          exact ⟨rfl, bq _⟩
        · as_aux_lemma =>
          have x0 : (0 : Int) ≤ (p2 : Int) := by omega
          have x9 : (p2 : Int) < (k : Int) := by omega
          have f2a : ¬ (K2 = 0) := by omega
          have f2b : (K2 == 0) = false := by rw [beq_eq_false_iff_ne]; exact f2a
          have f2c : ((K2 : Int) == 0) = false := by rw [beq_eq_false_iff_ne]; omega
          have f2d : 0 < K2 := by omega
          have f2e : decide ((0 : Int) < (K2 : Int)) = true := decide_eq_true (by omega)
          have f2f : IntKind.i64.wrap ((K2 : Int) - 1) = (p2 : Int) := by rw [IntKind.wrap_i64]; omega
          go_quiet (first | fail)
          go_wp2_with fail
          go_ret
          exact ⟨rfl, bq _⟩
end Go.Proofs.YtmfhfehemoeeeaaGreatDoor
