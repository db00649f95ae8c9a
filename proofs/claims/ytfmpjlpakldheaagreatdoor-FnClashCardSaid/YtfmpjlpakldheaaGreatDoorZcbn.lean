import Derived.Test.YtfmpjlpakldheaaGreatDoorZcau
import Derived.Test.YtfmpjlpakldheaaGreatDoorZcbd
import Derived.Test.YtfmpjlpakldheaaGreatDoorZcad
import Derived.Test.YtfmpjlpakldheaaGreatDoorZcbg
import Derived.Test.YtfmpjlpakldheaaGreatDoorZcbi
import Derived.Test.YtfmpjlpakldheaaGreatDoorZcbm
namespace Go.Proofs.YtfmpjlpakldheaaGreatDoor
open Go.RowKit Go.Proofs.Sha

end Go.Proofs.YtfmpjlpakldheaaGreatDoor
namespace Go.Proofs.YtfmpjlpakldheaaGreatDoor
open Go.RowKit Go.Proofs.Sha

theorem u8_wf {x : Int} (h : (Lit.int .u8 x).wf = true) : 0 ≤ x ∧ x < 256 := by
  have e1 : IntKind.u8.min = 0 := rfl
  have e2 : IntKind.u8.max = 255 := rfl
  unfold Lit.wf at h
  rw [Bool.and_eq_true, decide_eq_true_eq, decide_eq_true_eq, e1, e2] at h
  omega
/-- The code, as numbers. -/
theorem BL.of {a : Option Addr} {xs : List Int} {w : World} (hl : xs.length ≤ 1048576) (hw : ∀ x ∈ xs, (Lit.int .u8 x).wf = true)
    (h : 0 < xs.length → ∃ b off : Nat, a = some ⟨b, off, none⟩ ∧ b < w.heap.size ∧ ∀ j, j < xs.length → w.cell? ⟨b, off + j, none⟩ = some (.int .u8 (xs.getD j 0))) : ∃ ys : List Nat, ys.length = xs.length ∧ Code8 ys ∧ BL a ys w := by
  have hg : ∀ j, (xs.map Int.toNat).getD j 0 = (xs.getD j 0).toNat := fun j => by
    rw [List.getD_eq_getElem?_getD, List.getD_eq_getElem?_getD, List.getElem?_map]
    cases xs[j]? <;> rfl
  have hm : ∀ j, 0 ≤ xs.getD j 0 ∧ xs.getD j 0 < 256 := fun j => by
    by_cases hj : j < xs.length
    · have : xs.getD j 0 ∈ xs := by
        rw [List.getD_eq_getElem?_getD, List.getElem?_eq_getElem hj]
        exact List.getElem_mem hj
      exact u8_wf (hw _ this)
    · rw [List.getD_eq_getElem?_getD, List.getElem?_eq_none (by omega)]
      exact ⟨Int.le_refl _, by decide⟩
  refine ⟨xs.map Int.toNat, List.length_map _, ⟨by rw [List.length_map]; exact hl, fun j => ?_⟩, ⟨fun hp => ?_⟩⟩
  · rw [hg]
    have := hm j
    omega
  · rw [List.length_map] at hp
    obtain ⟨b, off, ha, hlt, hc⟩ := h hp
    refine ⟨b, off, ha, hlt, fun j hj => ?_⟩
    rw [List.length_map] at hj
    rw [hc j hj, hg, Int.toNat_of_nonneg (hm j).1]
end Go.Proofs.YtfmpjlpakldheaaGreatDoor
namespace Go.Proofs.YtfmpjlpakldheaaGreatDoor
open Go.RowKit Go.Proofs.Sha

theorem twinT_dig (m : Nat) (h1 : 1 ≤ m) (h2 : m ≤ 32) : ∀ s t : Tr PairT, (∀ x ∈ s.inord, Okp x) → (∀ x ∈ t.inord, Okp x) → rootT m s = rootT m t → ∀ q, twinT m s t = some q → q.1 ≠ q.2 ∧ digB q.1 m = digB q.2 m ∧ q.1.size ≤ 10000 ∧ q.2.size ≤ 10000 ∧ 0 < (rootT m s).size := by
  intro s
  induction s with
  | nil => intro t _ _ _ q hq; simp [twinT] at hq
  | node l x r ihl ihr =>
    intro t hs ht hr q hq
    cases t with
    | nil => simp [twinT] at hq
    | node l2 y r2 =>
      have hx := hs x (by simp [Tr.inord])
      have hy := ht y (by simp [Tr.inord])
      have hsz : 0 < (rootT m (.node l x r)).size := by
        show 0 < (digB _ m).size
        rw [digB_size _ m h2]
        omega
      rw [twinT] at hq
      split at hq
      · cases hq
      · split at hq
        · rename_i he
          cases hq
          exact ⟨he, hr, (encS_size x.1 x.2 (rootT m l) (rootT m r) m).1, (encS_size y.1 y.2 (rootT m l2) (rootT m r2) m).1, hsz⟩
        · rename_i he
          have he := Classical.byContradiction he
          obtain ⟨_, e1, e2⟩ := encT_inj m h1 h2 hx hy he
          cases hl : twinT m l l2 with
          | some q' =>
            rw [hl] at hq
            cases hq
            obtain ⟨p1, p2, p3, p4, _⟩ := ihl l2 (fun z hz => hs z (by simp [Tr.inord, hz])) (fun z hz => ht z (by simp [Tr.inord, hz])) e1 _ hl
            exact ⟨p1, p2, p3, p4, hsz⟩
          | none =>
            rw [hl] at hq
            obtain ⟨p1, p2, p3, p4, _⟩ := ihr r2 (fun z hz => hs z (by simp [Tr.inord, hz])) (fun z hz => ht z (by simp [Tr.inord, hz])) e2 _ hq
            exact ⟨p1, p2, p3, p4, hsz⟩
theorem clashR_good (ps qs : List PairT) (n : Nat) (q : ByteArray × ByteArray) (h : clashR ps qs (n : Int) = some q) : (1 ≤ n ∧ n ≤ 32) ∧ rootS ps (n : Int) = rootS qs (n : Int) ∧ 0 < (rootS ps (n : Int)).size ∧ q.1 ≠ q.2 ∧ digB q.1 n = digB q.2 n ∧ q.1.size ≤ 10000 ∧ q.2.size ≤ 10000 := by
  unfold clashR at h
  split at h
  · rename_i hm
    rw [Bool.and_eq_true, Bool.and_eq_true] at hm
    obtain ⟨m1, m2, m3⟩ := hm
    have hw : 1 ≤ n ∧ n ≤ 32 := by
      unfold isW at m3
      rw [Bool.and_eq_true, decide_eq_true_eq, decide_eq_true_eq] at m3
      omega
    split at h
    · rename_i hr
      rw [Int.toNat_natCast] at h hr
      obtain ⟨p1, p2, p3, p4, p5⟩ := twinT_dig n hw.1 hw.2 (cutTree ps) (cutTree qs) (by rw [cutTree_inord]; exact isMapT_ok ps m1) (by rw [cutTree_inord]; exact isMapT_ok qs m2) hr q h
      unfold rootS
      rw [m1, m2, m3, Int.toNat_natCast]
      exact ⟨hw, hr, p5, p1, p2, p3, p4⟩
    · cases h
  · cases h
theorem txt_ne2 {a b : ByteArray} (h : a ≠ b) : txt a ≠ txt b := fun e => h (by
  have := congrArg (fun t : ByteArray => t.data.toList) e
  simp only [txt_list, List.cons.injEq, true_and] at this
  exact ByteArray.ext (Array.toList_inj.1 this))
theorem dig_txt (e : ByteArray) (n : Nat) : (⟨((sha (txt e).data.toList).take n).toArray⟩ : ByteArray) = digB e n := by rw [txt_list]; rfl
set_option maxRecDepth 100000 in
set_option maxHeartbeats 4000000 in
theorem clash_walk (a : Option Addr) (xs : List Nat) (cap : Nat) (ps qs : List PairT) (n : Nat) (w : World) (hL : xs.length ≤ 1048576) (hB : BL a xs w) (hK : KTab w) (_hn : 1 ≤ n ∧ n ≤ 32)
    (HDw : ∀ w, BL a xs w → Calls Tryz.prog 9 #[.slice a xs.length cap] w (CGot ps qs n w)) :
    Calls Tryz.prog 3 #[.slice a xs.length cap] w fun e w' => e = .returned (.bool true) ∧ Below w.heap.size w w' := by
  have H1 : Hid (∀ w', Below w.heap.size w w' → Calls Tryz.prog 9 #[.slice a xs.length cap] w' (CGot ps qs n w')) := fun w' hb => HDw w' (hB.below hb)
  unfold CGot at H1
  have z0 : decide ((1048576 : Int) < (xs.length : Int)) = false := by simp; omega
  obtain ⟨L, hLL⟩ : ∃ L, xs.length = L := ⟨_, rfl⟩
  rw [hLL] at H1 z0 hL ⊢
  clear hLL HDw hB
  obtain ⟨R, hR⟩ : ∃ R, clashR ps qs (n : Int) = R := ⟨_, rfl⟩
  have JSC : Hid (∀ w' a b c d, PArg a ps w' → PArg b qs w' → ps.length ≤ c → qs.length ≤ d → Calls Tryz.prog 10 #[.slice a ps.length c, .slice b qs.length d, .int .i64 (n : Int)] w' fun e w'' => e = .returned (clashV R) ∧ Below w'.heap.size w' w'') := fun w' a b c d h1 h2 h3 h4 => by
    rw [← hR]
    exact clashSpec_any ps.length a b ps qs c d n w' (Nat.le_refl _) h1 h2 h3 h4
  have JIC : Hid (∀ w' a b c d, PArg a ps w' → PArg b qs w' → KTab w' → Calls Tryz.prog 13 #[.slice a ps.length c, .slice b qs.length d, .int .i64 (n : Int)] w' fun e w'' => e = .returned (clashV R) ∧ Below w'.heap.size w' w'') := fun w' a b c d h1 h2 h3 => by
    rw [← hR]
    exact clashImpl_any a b ps qs c d n w' h1 h2 h3
  have JSR : Hid (∀ w' a c, PArg a ps w' → ps.length ≤ c → Calls Tryz.prog 11 #[.slice a ps.length c, .int .i64 (n : Int)] w' fun e w'' => e = .returned (.string (rootS ps (n : Int))) ∧ Below w'.heap.size w' w'') := fun w' a c h1 h2 => rootSpec_any a ps c n w' h1 h2
  have JIP : Hid (∀ w' a c, PArg a ps w' → KTab w' → Calls Tryz.prog 12 #[.slice a ps.length c, .int .i64 (n : Int)] w' fun e w'' => e = .returned (.string (rootS ps (n : Int))) ∧ Below w'.heap.size w' w'') := fun w' a c h1 h2 => rootImpl_any a ps c n w' h1 h2
  have JIQ : Hid (∀ w' a c, PArg a qs w' → KTab w' → Calls Tryz.prog 12 #[.slice a qs.length c, .int .i64 (n : Int)] w' fun e w'' => e = .returned (.string (rootS qs (n : Int))) ∧ Below w'.heap.size w' w'') := fun w' a c h1 h2 => rootImpl_any a qs c n w' h1 h2
  have hG : ∀ q, R = some q → (1 ≤ n ∧ n ≤ 32) ∧ rootS ps (n : Int) = rootS qs (n : Int) ∧ 0 < (rootS ps (n : Int)).size ∧ q.1 ≠ q.2 ∧ digB q.1 n = digB q.2 n ∧ q.1.size ≤ 10000 ∧ q.2.size ≤ 10000 := fun q hq => clashR_good ps qs n q (hR.trans hq)
  have hKh : Hid (KTab w) := hK
  obtain ⟨rp, hrp⟩ : ∃ r, rootS ps (n : Int) = r := ⟨_, rfl⟩
  obtain ⟨rq, hrq⟩ : ∃ r, rootS qs (n : Int) = r := ⟨_, rfl⟩
  rw [hrp] at JSR JIP hG
  rw [hrq] at JIQ hG
  obtain ⟨N, hN⟩ : ∃ N, ps.length = N := ⟨_, rfl⟩
  obtain ⟨M, hM⟩ : ∃ N, qs.length = N := ⟨_, rfl⟩
  rw [hN, hM] at JSC JIC H1
  rw [hN] at JSR JIP
  rw [hM] at JIQ
  clear hR hK hrp hrq hN hM
  cases R with
  | none =>
    clear hG JSR JIP JIQ
    unfold clashV resT at JSC JIC
    simp only [Option.isNone_none, Bool.not_true] at JSC JIC
    go_enter Tryz.func3, Tryz.ntmps3
    go_upto_region 4 with (first | (go_at_call 9; refine (H1.out _ (Below.refl _ _)).mono ?_; rintro e w1 ⟨a1, c1, a2, c2, rfl, hP1', hc1, hQ1', hc2, hb1⟩))
    go_upto_region 5 with (first | (go_at_call 9; refine (H1.out _ hb1).mono ?_; rintro e w2 ⟨a3, c3, a4, c4, rfl, hP3, hc3, hQ3, hc4, hb2⟩; have hP1 := hP1'.below hb2; have hQ1 := hQ1'.below hb2))
    have hbB := hb1.trans (hb2.mono hb1.size)
    have hKB : Hid (KTab w2) := hKh.out.below hbB
    clear hP1' hQ1' hb2 hb1 H1 hKh
    go_upto_region 6 with (first | (go_at_call 10; refine (JSC.out _ a3 a4 c3 c4 hP3 hQ3 hc3 hc4).mono ?_; rintro e w3 ⟨rfl, hb3⟩))
    have hbw3 := hbB.trans (hb3.mono hbB.size)
    go_upto_region 9 with (first | (go_at_call 13; refine (JIC.out _ a1 a2 c1 c2 (hP1.below hb3) (hQ1.below hb3) (hKB.out.below hb3)).mono ?_; rintro e w4 ⟨rfl, hb4⟩))
    have hbw4 := hbw3.trans (hb4.mono hbw3.size)
    go_wp2_with fail
    go_ret
    exact ⟨rfl, hbw4⟩
  | some q =>
    obtain ⟨hnn, hre, hrs, hne, hdg, hs1, hs2⟩ := hG q rfl
    clear hG
    subst hre
    obtain ⟨e1, e2⟩ := q
    simp only at hne hdg hs1 hs2
    have JD1 := fun w' => sdig_yes (txt e1) n w' (by unfold txt; rw [ByteArray.size_append]; show 1 + _ ≤ _; omega) hnn.1 hnn.2
    have JD2 := fun w' => sdig_yes (txt e2) n w' (by unfold txt; rw [ByteArray.size_append]; show 1 + _ ≤ _; omega) hnn.1 hnn.2
    have hte := txt_ne2 hne
    rw [dig_txt] at JD1 JD2
    rw [← hdg] at JD2
    unfold clashV resT at JSC JIC
    simp only [Option.isNone_some, Bool.not_false] at JSC JIC
    obtain ⟨t1, ht1⟩ : ∃ t, txt e1 = t := ⟨_, rfl⟩
    obtain ⟨t2, ht2⟩ : ∃ t, txt e2 = t := ⟨_, rfl⟩
    rw [ht1, ht2] at JSC JIC hte
    rw [ht1] at JD1
    rw [ht2] at JD2
    generalize digB e1 n = dg at JD1 JD2
    have JD1' : Hid (∀ w', Calls Tryz.prog 14 #[.string t1, .int .i64 (n : Int)] w' fun e w'' => e = .returned (.string dg) ∧ Below w'.heap.size w' w'') := JD1
    have JD2' : Hid (∀ w', Calls Tryz.prog 14 #[.string t2, .int .i64 (n : Int)] w' fun e w'' => e = .returned (.string dg) ∧ Below w'.heap.size w' w'') := JD2
    have zt : (t1.toList == t2.toList) = false := by rw [ba_eq, decide_eq_false hte]
    have zr : ((rp.size : Int) == 0) = false := by rw [beq_eq_false_iff_ne]; omega
    have zr2 : (rp.toList == rp.toList) = true := by rw [ba_eq, decide_eq_true rfl]
    have zd2 : (dg.toList == dg.toList) = true := by rw [ba_eq, decide_eq_true rfl]
    have hrs' : 0 < rp.size := hrs
    clear hne hdg hs1 hs2 JD1 JD2 hte ht1 ht2 hnn hrs
    go_enter Tryz.func3, Tryz.ntmps3
    go_upto_region 4 with (first | (go_at_call 9; refine (H1.out _ (Below.refl _ _)).mono ?_; rintro e w1 ⟨a1, c1, a2, c2, rfl, hP1', hc1, hQ1', hc2, hb1⟩))
    go_upto_region 5 with (first | (go_at_call 9; refine (H1.out _ hb1).mono ?_; rintro e w2 ⟨a3, c3, a4, c4, rfl, hP3, hc3, hQ3, hc4, hb2⟩; have hP1 := hP1'.below hb2; have hQ1 := hQ1'.below hb2))
    have hbB := hb1.trans (hb2.mono hb1.size)
    have hKB : Hid (KTab w2) := hKh.out.below hbB
    clear hP1' hQ1' hb2 hb1 H1 hKh
    go_upto_region 6 with (first | (go_at_call 10; refine (JSC.out _ a3 a4 c3 c4 hP3 hQ3 hc3 hc4).mono ?_; rintro e w3 ⟨rfl, hb3⟩))
    have hbw3 := hbB.trans (hb3.mono hbB.size)
    have hK3 : Hid (KTab w3) := hKB.out.below hb3
    have hp1 := hP1.below hb3
    have hq1 := hQ1.below hb3
    have hp3 := hP3.below hb3
    go_upto_region 8 with (first | (go_at_call 11; refine (JSR.out _ a3 c3 hp3 hc3).mono ?_; rintro e w4 ⟨rfl, hb4'⟩; have hb4 := hb4') | (go_at_call_of 12 (Value.slice a1 N c1); refine (JIP.out _ a1 c1 (hp1.below hb4) (hK3.out.below hb4)).mono ?_; rintro e w5 ⟨rfl, hb5'⟩; have hb5 := hb4.trans (hb5'.mono hb4.size)) | (go_at_call_of 12 (Value.slice a2 M c2); refine (JIQ.out _ a2 c2 (hq1.below hb5) (hK3.out.below hb5)).mono ?_; rintro e w6 ⟨rfl, hb6'⟩; have hb6 := hb5.trans (hb6'.mono hb5.size)))
    have hbw6 := hbw3.trans (hb6.mono hbw3.size)
    go_upto_region 9 with (first | (go_at_call 13; refine (JIC.out _ a1 a2 c1 c2 (hp1.below hb6) (hq1.below hb6) (hK3.out.below hb6)).mono ?_; rintro e w7 ⟨rfl, hb7⟩))
    have hbw7 := hbw6.trans (hb7.mono hbw6.size)
    go_wp2_with (first | (go_at_call_of 14 (Value.string t1); refine (JD1'.out _).mono ?_; rintro e w8 ⟨rfl, hb8'⟩; have hb8 := hbw7.trans (hb8'.mono hbw7.size)) | (go_at_call_of 14 (Value.string t2); refine (JD2'.out _).mono ?_; rintro e w9 ⟨rfl, hb9'⟩; have hb9 := hb8.trans (hb9'.mono hb8.size)))
    go_ret
    exact ⟨rfl, hb9⟩
end Go.Proofs.YtfmpjlpakldheaaGreatDoor
namespace Go.Proofs.YtfmpjlpakldheaaGreatDoor
open Go.RowKit Go.Proofs.Sha

theorem clash_det (a : Option Addr) (xs : List Nat) (cap : Nat) (hX : Code8 xs) :
    ∃ (ps qs : List PairT) (n : Nat), (1 ≤ n ∧ n ≤ 32) ∧ ∀ w, BL a xs w → Calls Tryz.prog 9 #[.slice a xs.length cap] w (CGot ps qs n w) := by
  obtain ⟨x, hx, HT⟩ := take_det a xs cap 0 16 hX (by omega) (by omega) (by omega)
  obtain ⟨wd, hwd, HD⟩ := width_det a xs cap 1 hX (by omega)
  obtain ⟨ps, z, ⟨hS, hz⟩, HM⟩ := anymap_det a xs cap 2 hX (by omega)
  obtain ⟨qs, y, ⟨_, hy1, hy2⟩, HN⟩ := near2_det a xs cap z ps 15 hX (by omega) (by omega) hS
  have hpl := hS.len
  by_cases h13 : 13 ≤ x
  · exact ⟨ps, qs, wd, hwd, dcl_a a xs cap x wd z y ps qs hpl HT HD HM HN h13⟩
  · cases hm : isMapT ps with
    | false => exact ⟨ps, qs, wd, hwd, dcl_b a xs cap x wd z y ps qs hpl HT HD HM HN (by omega) hm⟩
    | true =>
      by_cases h0 : ps.length = 0
      · exact ⟨ps, qs, wd, hwd, dcl_c a xs cap x wd z y ps qs hpl HT HD HM HN (by omega) hm h0⟩
      · obtain ⟨T, hT, _, HA⟩ := take0_det a xs cap y ps.length hX (by omega) (by omega)
        exact ⟨ps, _, 1, ⟨by omega, by omega⟩, dcl_d a xs cap x wd z y ps qs hpl HT HD HM HN T (hT (by omega)) HA (by omega) hm⟩
set_option maxRecDepth 100000 in
theorem law_fnclash (a : Option Addr) (xs : List Int) (c : Nat) (w : World) (_hl : xs.length ≤ maxLen) (hw : ∀ x ∈ xs, (Lit.int .u8 x).wf = true)
    (h : 0 < xs.length → ∃ b off : Nat, a = some ⟨b, off, none⟩ ∧ b < w.heap.size ∧ ∀ j, j < xs.length → w.cell? ⟨b, off + j, none⟩ = some (.int .u8 (xs.getD j 0)))
    (hK : ∀ j, j < 64 → w.cell? ⟨0, j, none⟩ = some (.int .u32 ((kTab.getD j 0).toNat : Int))) :
    Calls Tryz.prog 3 #[.slice a xs.length c] w fun e w' => e = .returned (.bool true) ∧ Below w.heap.size w w' := by
  by_cases g1 : 1048576 < xs.length
  · have z1 : decide ((1048576 : Int) < (xs.length : Int)) = true := by simp; omega
    clear hw h hK
    go_enter Tryz.func3, Tryz.ntmps3
    go_wp2_with fail
    go_ret
    exact ⟨rfl, Below.refl _ _⟩
  obtain ⟨ys, hyl, hX, hB⟩ := BL.of (by omega) hw h
  rw [← hyl]
  obtain ⟨ps, qs, n, hn, HDw⟩ := clash_det a ys c hX
  exact clash_walk a ys c ps qs n w hX.le hB hK hn HDw
end Go.Proofs.YtfmpjlpakldheaaGreatDoor
