import Derived.Test.YtibjhkpgaaapaaaGreatDoorZgbr
import Derived.Test.YtibjhkpgaaapaaaGreatDoorZgbm
set_option maxRecDepth 100000
set_option maxHeartbeats 1000000
namespace Go.Proofs.YtibjhkpgaaapaaaGreatDoor
open Go.RowKit Go.Proofs.Sha

theorem bounds_det (a : Option Addr) (xs : List Nat) (cap p : Nat) (hX : Code8 xs) (hp : p ≤ 70000) :
    ∃ (lo hi : ByteArray), (lo.size ≤ 80 ∧ hi.size ≤ 80) ∧ ∀ w, BL a xs w → Calls Tryz.prog 77 #[.slice a xs.length cap, .int .i64 (p : Int)] w fun e w' => e = .returned (.tuple #[.string lo, .string hi, .int .i64 ((p + 1 + 1 + 1 : Nat) : Int)]) ∧ Below w.heap.size w w' := by
  obtain ⟨x, hx, HT⟩ := take_det a xs cap p 10 hX (by omega) (by omega) (by omega)
  obtain ⟨k1, hk1, HK1⟩ := key_det a xs cap (p + 1) hX (by omega)
  obtain ⟨k2, hk2, HK2⟩ := key_det a xs cap (p + 1 + 1) hX (by omega)
  have hsum : ¬ (9223372036854775807 < k1.size + (⟨#[0]⟩ : ByteArray).size) := by show ¬ _ < k1.size + 1; omega
  have hsum' : ¬ (9223372036854775807 < k1.size + 1) := by omega
  have HL : Hid (∀ w', Calls Tryz.prog 85 #[.string k2, .string k1] w' fun e w'' => e = .returned (.bool (lessB k2 k1)) ∧ Below w'.heap.size w' w'') := fun w' => (lessS_q k2 k1 w' (by omega) (by omega)).mono (by rintro e w2 ⟨rfl, m, rfl⟩; exact ⟨rfl, drewN_below _ _⟩)
  generalize xs.length = L at HT HK1 HK2 ⊢
  obtain ⟨q3, hq3⟩ : ∃ q, p + 1 + 1 + 1 = q := ⟨_, rfl⟩
  rw [hq3] at HK2 ⊢
  obtain ⟨q2, hq2⟩ : ∃ q, p + 1 + 1 = q := ⟨_, rfl⟩
  rw [hq2] at HK1 HK2
  obtain ⟨q1, hq1⟩ : ∃ q, p + 1 = q := ⟨_, rfl⟩
  rw [hq1] at HK1 HT
  have hne1 : q1 ≠ q2 := by omega
  clear hq1 hq2 hq3
  have HTh : Hid _ := HT
  have HK1h : Hid _ := HK1
  have HK2h : Hid _ := HK2
  clear HT HK1 HK2
  by_cases h6 : x < 6
  · have z1 : decide ((x : Int) < 6) = true := by rw [decide_eq_true_eq]; omega
    have z6 : ((x : Int) == 6) = false := by simp; omega
    have z7 : ((x : Int) == 7) = false := by simp; omega
    have z8 : ((x : Int) == 8) = false := by simp; omega
    have z9 : ((x : Int) == 9) = false := by simp; omega
    cases hl : lessB k2 k1 with
    | true =>
      rw [hl] at HL
      clear hl h6 hx
      refine ⟨k2, k1, ⟨by omega, by omega⟩, fun w hB => ?_⟩
      have H1 := HTh.out w hB
      have H2 : Hid (∀ w', Below w.heap.size w w' → Calls Tryz.prog 135 #[.slice a L cap, .int .i64 (q1 : Int)] w' fun e w'' => e = .returned (.tuple #[.string k1, .int .i64 (q2 : Int)]) ∧ Below w'.heap.size w' w'') := fun w' hb => HK1h.out w' (hB.below hb)
      have H3 : Hid (∀ w', Below w.heap.size w w' → Calls Tryz.prog 135 #[.slice a L cap, .int .i64 (q2 : Int)] w' fun e w'' => e = .returned (.tuple #[.string k2, .int .i64 (q3 : Int)]) ∧ Below w'.heap.size w' w'') := fun w' hb => HK2h.out w' (hB.below hb)
      clear hB HTh HK1h HK2h
      go_enter Tryz.func77, Tryz.ntmps77
      go_wp2_with (first | (go_at_call 58; refine H1.mono ?_; rintro e w1 ⟨rfl, hb1⟩) | (go_at_call_of 135 (Value.int .i64 (q1 : Int)); refine (H2.out _ hb1).mono ?_; rintro e w2 ⟨rfl, hb2'⟩; have hb2 := hb1.trans (hb2'.mono hb1.size)) | (go_at_call_of 135 (Value.int .i64 (q2 : Int)); refine (H3.out _ hb2).mono ?_; rintro e w3 ⟨rfl, hb3'⟩; have hb3 := hb2.trans (hb3'.mono hb2.size)) | (go_at_call 85; refine (HL.out _).mono ?_; rintro e w4 ⟨rfl, hb4'⟩; have hb4 := hb3.trans (hb4'.mono hb3.size)))
      go_ret3
      exact ⟨rfl, hb4⟩
    | false =>
      rw [hl] at HL
      clear hl h6 hx
      refine ⟨k1, k2, ⟨by omega, by omega⟩, fun w hB => ?_⟩
      have H1 := HTh.out w hB
      have H2 : Hid (∀ w', Below w.heap.size w w' → Calls Tryz.prog 135 #[.slice a L cap, .int .i64 (q1 : Int)] w' fun e w'' => e = .returned (.tuple #[.string k1, .int .i64 (q2 : Int)]) ∧ Below w'.heap.size w' w'') := fun w' hb => HK1h.out w' (hB.below hb)
      have H3 : Hid (∀ w', Below w.heap.size w w' → Calls Tryz.prog 135 #[.slice a L cap, .int .i64 (q2 : Int)] w' fun e w'' => e = .returned (.tuple #[.string k2, .int .i64 (q3 : Int)]) ∧ Below w'.heap.size w' w'') := fun w' hb => HK2h.out w' (hB.below hb)
      clear hB HTh HK1h HK2h
      go_enter Tryz.func77, Tryz.ntmps77
      go_wp2_with (first | (go_at_call 58; refine H1.mono ?_; rintro e w1 ⟨rfl, hb1⟩) | (go_at_call_of 135 (Value.int .i64 (q1 : Int)); refine (H2.out _ hb1).mono ?_; rintro e w2 ⟨rfl, hb2'⟩; have hb2 := hb1.trans (hb2'.mono hb1.size)) | (go_at_call_of 135 (Value.int .i64 (q2 : Int)); refine (H3.out _ hb2).mono ?_; rintro e w3 ⟨rfl, hb3'⟩; have hb3 := hb2.trans (hb3'.mono hb2.size)) | (go_at_call 85; refine (HL.out _).mono ?_; rintro e w4 ⟨rfl, hb4'⟩; have hb4 := hb3.trans (hb4'.mono hb3.size)))
      go_ret3
      exact ⟨rfl, hb4⟩
  · clear HL
    obtain rfl | rfl | rfl | rfl : x = 6 ∨ x = 7 ∨ x = 8 ∨ x = 9 := by omega
    · refine ⟨⟨#[]⟩, k2, ⟨Nat.zero_le _, by omega⟩, fun w hB => ?_⟩
      have H1 := HTh.out w hB
      have H2 : Hid (∀ w', Below w.heap.size w w' → Calls Tryz.prog 135 #[.slice a L cap, .int .i64 (q1 : Int)] w' fun e w'' => e = .returned (.tuple #[.string k1, .int .i64 (q2 : Int)]) ∧ Below w'.heap.size w' w'') := fun w' hb => HK1h.out w' (hB.below hb)
      have H3 : Hid (∀ w', Below w.heap.size w w' → Calls Tryz.prog 135 #[.slice a L cap, .int .i64 (q2 : Int)] w' fun e w'' => e = .returned (.tuple #[.string k2, .int .i64 (q3 : Int)]) ∧ Below w'.heap.size w' w'') := fun w' hb => HK2h.out w' (hB.below hb)
      clear hB HTh HK1h HK2h
      go_enter Tryz.func77, Tryz.ntmps77
      go_wp2_with (first | (go_at_call 58; refine H1.mono ?_; rintro e w1 ⟨rfl, hb1⟩) | (go_at_call_of 135 (Value.int .i64 (q1 : Int)); refine (H2.out _ hb1).mono ?_; rintro e w2 ⟨rfl, hb2'⟩; have hb2 := hb1.trans (hb2'.mono hb1.size)) | (go_at_call_of 135 (Value.int .i64 (q2 : Int)); refine (H3.out _ hb2).mono ?_; rintro e w3 ⟨rfl, hb3'⟩; have hb3 := hb2.trans (hb3'.mono hb2.size)) | (go_at_call 85; refine (HL.out _).mono ?_; rintro e w4 ⟨rfl, hb4'⟩; have hb4 := hb3.trans (hb4'.mono hb3.size)))
      go_ret3
      exact ⟨rfl, hb3⟩
    · refine ⟨k1, ⟨#[]⟩, ⟨by omega, Nat.zero_le _⟩, fun w hB => ?_⟩
      have H1 := HTh.out w hB
      have H2 : Hid (∀ w', Below w.heap.size w w' → Calls Tryz.prog 135 #[.slice a L cap, .int .i64 (q1 : Int)] w' fun e w'' => e = .returned (.tuple #[.string k1, .int .i64 (q2 : Int)]) ∧ Below w'.heap.size w' w'') := fun w' hb => HK1h.out w' (hB.below hb)
      have H3 : Hid (∀ w', Below w.heap.size w w' → Calls Tryz.prog 135 #[.slice a L cap, .int .i64 (q2 : Int)] w' fun e w'' => e = .returned (.tuple #[.string k2, .int .i64 (q3 : Int)]) ∧ Below w'.heap.size w' w'') := fun w' hb => HK2h.out w' (hB.below hb)
      clear hB HTh HK1h HK2h
      go_enter Tryz.func77, Tryz.ntmps77
      go_wp2_with (first | (go_at_call 58; refine H1.mono ?_; rintro e w1 ⟨rfl, hb1⟩) | (go_at_call_of 135 (Value.int .i64 (q1 : Int)); refine (H2.out _ hb1).mono ?_; rintro e w2 ⟨rfl, hb2'⟩; have hb2 := hb1.trans (hb2'.mono hb1.size)) | (go_at_call_of 135 (Value.int .i64 (q2 : Int)); refine (H3.out _ hb2).mono ?_; rintro e w3 ⟨rfl, hb3'⟩; have hb3 := hb2.trans (hb3'.mono hb2.size)) | (go_at_call 85; refine (HL.out _).mono ?_; rintro e w4 ⟨rfl, hb4'⟩; have hb4 := hb3.trans (hb4'.mono hb3.size)))
      go_ret3
      exact ⟨rfl, hb3⟩
    · refine ⟨k1, k1 ++ ⟨#[0]⟩, ⟨by omega, by rw [ByteArray.size_append]; show k1.size + 1 ≤ _; omega⟩, fun w hB => ?_⟩
      have H1 := HTh.out w hB
      have H2 : Hid (∀ w', Below w.heap.size w w' → Calls Tryz.prog 135 #[.slice a L cap, .int .i64 (q1 : Int)] w' fun e w'' => e = .returned (.tuple #[.string k1, .int .i64 (q2 : Int)]) ∧ Below w'.heap.size w' w'') := fun w' hb => HK1h.out w' (hB.below hb)
      have H3 : Hid (∀ w', Below w.heap.size w w' → Calls Tryz.prog 135 #[.slice a L cap, .int .i64 (q2 : Int)] w' fun e w'' => e = .returned (.tuple #[.string k2, .int .i64 (q3 : Int)]) ∧ Below w'.heap.size w' w'') := fun w' hb => HK2h.out w' (hB.below hb)
      clear hB HTh HK1h HK2h
      go_enter Tryz.func77, Tryz.ntmps77
      go_wp2_with (first | (go_at_call 58; refine H1.mono ?_; rintro e w1 ⟨rfl, hb1⟩) | (go_at_call_of 135 (Value.int .i64 (q1 : Int)); refine (H2.out _ hb1).mono ?_; rintro e w2 ⟨rfl, hb2'⟩; have hb2 := hb1.trans (hb2'.mono hb1.size)) | (go_at_call_of 135 (Value.int .i64 (q2 : Int)); refine (H3.out _ hb2).mono ?_; rintro e w3 ⟨rfl, hb3'⟩; have hb3 := hb2.trans (hb3'.mono hb2.size)) | (go_at_call 85; refine (HL.out _).mono ?_; rintro e w4 ⟨rfl, hb4'⟩; have hb4 := hb3.trans (hb4'.mono hb3.size)))
      go_ret3
      exact ⟨rfl, hb3⟩
    · refine ⟨⟨#[]⟩, ⟨#[]⟩, ⟨Nat.zero_le _, Nat.zero_le _⟩, fun w hB => ?_⟩
      have H1 := HTh.out w hB
      have H2 : Hid (∀ w', Below w.heap.size w w' → Calls Tryz.prog 135 #[.slice a L cap, .int .i64 (q1 : Int)] w' fun e w'' => e = .returned (.tuple #[.string k1, .int .i64 (q2 : Int)]) ∧ Below w'.heap.size w' w'') := fun w' hb => HK1h.out w' (hB.below hb)
      have H3 : Hid (∀ w', Below w.heap.size w w' → Calls Tryz.prog 135 #[.slice a L cap, .int .i64 (q2 : Int)] w' fun e w'' => e = .returned (.tuple #[.string k2, .int .i64 (q3 : Int)]) ∧ Below w'.heap.size w' w'') := fun w' hb => HK2h.out w' (hB.below hb)
      clear hB HTh HK1h HK2h
      go_enter Tryz.func77, Tryz.ntmps77
      go_wp2_with (first | (go_at_call 58; refine H1.mono ?_; rintro e w1 ⟨rfl, hb1⟩) | (go_at_call_of 135 (Value.int .i64 (q1 : Int)); refine (H2.out _ hb1).mono ?_; rintro e w2 ⟨rfl, hb2'⟩; have hb2 := hb1.trans (hb2'.mono hb1.size)) | (go_at_call_of 135 (Value.int .i64 (q2 : Int)); refine (H3.out _ hb2).mono ?_; rintro e w3 ⟨rfl, hb3'⟩; have hb3 := hb2.trans (hb3'.mono hb2.size)) | (go_at_call 85; refine (HL.out _).mono ?_; rintro e w4 ⟨rfl, hb4'⟩; have hb4 := hb3.trans (hb4'.mono hb3.size)))
      go_ret3
      exact ⟨rfl, hb3⟩
theorem OwnT.sarg {w W : World} {xs : List ByteArray} {a : Option Addr} {c : Nat} (h : OwnT w xs a xs.length c W) {n s : Nat} (hs : SmT xs n s) (hn : n ≤ 1048576) (hz : s ≤ 1048576) : SArg a xs W :=
  own_sarg h.own (Nat.le_trans hs.len hn) (fun j => Nat.le_trans (hs.getD j) hz)
section
variable {fz : Nat → Option Obj} {ex : Option Nat} {w0 : World} {gp g wd : Nat} {ss ys roots : List ByteArray} {ap : Option Addr} {cp : Nat} {ao : Option Addr} {co : Nat} {ar : Option Addr} {cr : Nat} {W W' : World}
end
/-- The walk over what was saved. -/
theorem saved_goF (D : Dec) (wd : Nat) (hD : DecEnc wd D) (h1 : 1 ≤ wd) (h2 : wd ≤ 32) {ss ad : List ByteArray} {ps : List PairT} (hm : isMapT ps = true) (hs : svAll wd ss (encsT wd (cutTree ps)) = .go ad) :
    goF (fndD D wd (ss ++ ad)) hgW ⟨#[]⟩ ⟨#[]⟩ 501 (rootT wd (cutTree ps)) ⟨#[]⟩ ⟨#[]⟩ ⟨#[]⟩ 0 = (0, ps.length, ps) := by
  have hku := ku_of_map hm
  have hok := isMapT_ok ps hm
  have hin := cutTree_inord ps
  have hsz := cutTree_size ps
  have hps : ps.length ≤ 500 := by
    unfold isMapT at hm
    exact of_decide_eq_true ((Bool.and_eq_true _ _).mp hm).1
  have hH := has_all D wd hD h1 h2 (ss := ss) (ad := ad) (cutTree ps) (by rw [hin]; exact hok) (sv_has wd ss _ [] ad hs).2
  have hg := goF_tree h1 h2 (cutTree ps) 501 ⟨#[]⟩ ⟨#[]⟩ ⟨#[]⟩ 0 (by omega) (cutTree_heap ps (ku_apart hku)) (by rw [hin]; exact hku) (by
    rw [hin]
    intro p hp
    have hk := (hok p hp).1
    refine ⟨nil_less ?_, .inl rfl, .inl rfl⟩
    unfold okKey at hk
    rw [decide_eq_true_eq] at hk
    unfold emp
    exact decide_eq_false (by omega)) (by omega) hH
  rw [hg, hin, hsz, Nat.zero_add]
/-- The proof of what was saved is not long. -/
theorem proof_small (D : Dec) (wd : Nat) (hdo : DecOk wd D) (hD : DecEnc wd D) (h1 : 1 ≤ wd) (h2 : wd ≤ 32) {ss ad : List ByteArray} {ps : List PairT} (hm : isMapT ps = true) (hs : svAll wd ss (encsT wd (cutTree ps)) = .go ad) (lo hi : ByteArray) (m : Nat) :
    (proveM (fndD D wd (ss ++ ad)) (wd : Int) m (rootT wd (cutTree ps)) lo hi).1.size ≤ 2400 * ps.length + 40 := by
  have hg := saved_goF D wd hD h1 h2 hm hs
  have hfo := fndD_ok D wd (ss ++ ad) hdo
  obtain ⟨a1, a2, _⟩ := goF_range hfo lo hi 501 (rootT wd (cutTree ps)) ⟨#[]⟩ ⟨#[]⟩ ⟨#[]⟩ 0 0 (Nat.le_refl _) (Nat.zero_le _) (by rw [hg])
  rw [hg] at a2
  have hl := prL_len hfo h2 501 (rootT wd (cutTree ps)) ⟨#[]⟩ ⟨#[]⟩ ⟨#[]⟩ 0 (Nat.zero_le _) (rootT_size wd h2 (cutTree ps)) a1
  unfold proveM
  split
  · unfold proveX
    rw [Int.toNat_natCast]
    split
    · try rw [if_pos a1]
      show (prL _ _ _ _ _ _ _).toArray.size ≤ _
      rw [List.size_toArray]
      simp only at a2
      omega
    · exact Nat.zero_le _
  · exact Nat.zero_le _
/-- What a saving into an empty pool gives. -/
theorem draw_facts (wd : Nat) (h1 : 1 ≤ wd) (h2 : wd ≤ 32) (ps : List PairT) (hp : ps.length ≤ 100) :
    SmT (saveO (wd : Int) [] ps).xs 100 10000 ∧ (saveO (wd : Int) [] ps).root.size ≤ 32 ∧
    ∀ D : Dec, (∀ w2 : Nat, (w2 : Int) = (saveO (wd : Int) [] ps).n → DecOk w2 D) → (∀ w2 : Nat, (w2 : Int) = (saveO (wd : Int) [] ps).n → DecEnc w2 D) → ∀ lo hi,
      (proveM (fndD D (saveO (wd : Int) [] ps).n.toNat (saveO (wd : Int) [] ps).xs) (saveO (wd : Int) [] ps).n (saveO (wd : Int) [] ps).xs.length (saveO (wd : Int) [] ps).root lo hi).1.size ≤ 2400 * ps.length + 40 := by
  have hnil : SmT ([] : List ByteArray) 0 10000 := ⟨Nat.le_refl _, fun x hx => by cases hx⟩
  have hnil2 : SmT ([] : List ByteArray) 100 10000 := ⟨Nat.zero_le _, fun x hx => by cases hx⟩
  unfold saveO
  by_cases hq : (poolOk (wd : Int) ([] : List ByteArray).length && isMapT ps) = true
  · rw [if_pos hq, Int.toNat_natCast]
    have hm := ((Bool.and_eq_true _ _).mp hq).2
    rcases savO_cases (wd := wd) (ss := []) (ps := ps) (n := 0) (k := 100) (s := 10000) hnil (Nat.le_refl _) hp (by omega) with ⟨ad, e1, e2, e3⟩ | ⟨u, e, e1, _⟩
    · rw [e2]
      refine ⟨⟨Nat.le_trans e3.len (by omega), e3.sz⟩, ?_, fun D hdo hD lo hi => ?_⟩
      · have := rootT_size wd h2 (cutTree ps)
        show (rootT wd (cutTree ps)).size ≤ 32
        omega
      · show (proveM (fndD D ((wd : Int).toNat) ([] ++ ad)) (wd : Int) ([] ++ ad).length (rootT wd (cutTree ps)) lo hi).1.size ≤ _
        rw [Int.toNat_natCast]
        exact proof_small D wd (hdo wd rfl) (hD wd rfl) h1 h2 hm e1 lo hi _
    · rw [e1]
      refine ⟨hnil2, Nat.zero_le _, fun D _ _ lo hi => ?_⟩
      show (proveM (fndD D ((wd : Int).toNat) []) (wd : Int) 0 ⟨#[]⟩ lo hi).1.size ≤ _
      unfold proveM
      split
      · unfold proveX
        split
        · try rw [if_pos (by rw [goF_skip (by rfl)])]
          rw [prL_e (by rfl)]
          show (1 : Nat) ≤ _
          omega
        · exact Nat.zero_le _
      · exact Nat.zero_le _
  · rw [if_neg hq]
    refine ⟨hnil2, Nat.zero_le _, fun D _ _ lo hi => ?_⟩
    show (proveM (fndD D ((0 : Int).toNat) []) 0 0 ⟨#[]⟩ lo hi).1.size ≤ _
    unfold proveM
    rw [if_neg (by decide)]
    exact Nat.zero_le _
end Go.Proofs.YtibjhkpgaaapaaaGreatDoor
