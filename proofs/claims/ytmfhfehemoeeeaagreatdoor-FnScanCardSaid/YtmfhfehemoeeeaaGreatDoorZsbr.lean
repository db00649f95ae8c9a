import Derived.Test.YtmfhfehemoeeeaaGreatDoorZsbq
import Derived.Test.YtmfhfehemoeeeaaGreatDoorZsbf
import Derived.Test.YtmfhfehemoeeeaaGreatDoorZsbo
import Derived.Test.YtmfhfehemoeeeaaGreatDoorZsav
import Derived.Test.YtmfhfehemoeeeaaGreatDoorZsbl
import Derived.Test.YtmfhfehemoeeeaaGreatDoorZsbb
set_option maxRecDepth 100000
set_option maxHeartbeats 1000000
namespace Go.Proofs.YtmfhfehemoeeeaaGreatDoor
open Go.RowKit Go.Proofs.Sha

/-- A key that does not begin with a z. -/
def KZ1 (k : ByteArray) : Prop := k.data[0]? ≠ some 122
def KZ (ps : List PairT) : Prop := ∀ q ∈ ps, KZ1 q.1
theorem kz_abc : ∀ x, x < 20 → KZ1 ((⟨#[97, 98, 99, 100, 101, 102, 103, 104, 105, 106, 107, 108, 109, 110, 111, 112, 113, 114, 115, 116]⟩ : ByteArray).extract x (x + 1)) := by
  unfold KZ1
  decide
theorem kz_reps (n : Nat) (c : UInt8) (hc : c ≠ 122) : KZ1 (reps (n + 1) c) := by
  unfold KZ1 reps
  rw [List.replicate_succ]
  show (c :: List.replicate n c).toArray[0]? ≠ _
  simpa using hc
theorem key_detz (a : Option Addr) (xs : List Nat) (cap : Nat) (p : Nat) (hX : Code8 xs) (hp : p ≤ 100000) :
    ∃ t : ByteArray, (t.size ≤ 70 ∧ KZ1 t) ∧ ∀ w, BL a xs w → Calls Tryz.prog 63 #[.slice a xs.length cap, .int .i64 (p : Int)] w fun e w' => e = .returned (.tuple #[.string t, .int .i64 ((p + 1 : Nat) : Int)]) ∧ Below w.heap.size w w' := by
  obtain ⟨x, hx, HT⟩ := take_det a xs cap p 24 hX hp (by omega) (by omega)
  replace HT : Hid _ := HT
  by_cases h1 : x < 20
  · have z1 : decide ((x : Int) < 20) = true := by simp; omega
    have y1 : IntKind.i64.wrap ((x : Int) + 1) = (x : Int) + 1 := wrap_i64_in _ (by omega) (by omega)
    have y2 : (x : Int) ≤ (x : Int) + 1 := by omega
    have y3 : (x : Int) + 1 ≤ 20 := by omega
    refine ⟨(⟨#[97, 98, 99, 100, 101, 102, 103, 104, 105, 106, 107, 108, 109, 110, 111, 112, 113, 114, 115, 116]⟩ : ByteArray).extract x (x + 1), ⟨by rw [ByteArray.size_extract]; omega, kz_abc x h1⟩, fun w h => ?_⟩
    go_enter Tryz.func63, Tryz.ntmps63
    go_wp2_with fail
    refine (HT.out w h).mono ?_
    rintro e w1 ⟨rfl, hb⟩
    go_wp2_with fail
    go_ret2
    exact ⟨rfl, hb⟩
  have z1 : decide ((x : Int) < 20) = false := by simp; omega
  by_cases h2 : x = 20
  · subst h2
    refine ⟨⟨#[97, 98]⟩, ⟨by decide, by unfold KZ1; decide⟩, fun w h => ?_⟩
    go_enter Tryz.func63, Tryz.ntmps63
    go_wp2_with fail
    refine (HT.out w h).mono ?_
    rintro e w1 ⟨rfl, hb⟩
    go_wp2_with fail
    go_ret2
    exact ⟨rfl, hb⟩
  have z2 : ((x : Int) == 20) = false := by rw [beq_eq_false_iff_ne]; omega
  by_cases h3 : x = 21
  · subst h3
    refine ⟨⟨#[98, 0]⟩, ⟨by decide, by unfold KZ1; decide⟩, fun w h => ?_⟩
    go_enter Tryz.func63, Tryz.ntmps63
    go_wp2_with fail
    refine (HT.out w h).mono ?_
    rintro e w1 ⟨rfl, hb⟩
    go_wp2_with fail
    go_ret2
    exact ⟨rfl, hb⟩
  have z3 : ((x : Int) == 21) = false := by rw [beq_eq_false_iff_ne]; omega
  by_cases h4 : x = 22
  · subst h4
    refine ⟨⟨#[255, 0, 107]⟩, ⟨by decide, by unfold KZ1; decide⟩, fun w h => ?_⟩
    go_enter Tryz.func63, Tryz.ntmps63
    go_wp2_with fail
    refine (HT.out w h).mono ?_
    rintro e w1 ⟨rfl, hb⟩
    go_wp2_with fail
    go_ret2
    exact ⟨rfl, hb⟩
  have z4 : ((x : Int) == 22) = false := by rw [beq_eq_false_iff_ne]; omega
  refine ⟨reps 70 107, ⟨by rw [reps_size]; omega, kz_reps 69 107 (by decide)⟩, fun w h => ?_⟩
  go_enter Tryz.func63, Tryz.ntmps63
  go_wp2_with fail
  refine (HT.out w h).mono ?_
  rintro e w1 ⟨rfl, hb⟩
  go_wp2_with fail
  refine (long_d _ 70 70 rfl (by omega) _).mono ?_
  rintro e w2 ⟨rfl, hb2⟩
  go_wp2_with fail
  go_ret2
  exact ⟨rfl, hb.trans (hb2.mono hb.size)⟩
theorem kv_detz (a : Option Addr) (xs : List Nat) (cap : Nat) (hX : Code8 xs) : ∃ kf vf : Nat → ByteArray, (∀ p : Nat, p ≤ 80000 → (kf p).size ≤ 70 ∧ (vf p).size ≤ 300 ∧ (∀ w, BL a xs w → Calls Tryz.prog 63 #[.slice a xs.length cap, .int .i64 (p : Int)] w fun e w' => e = .returned (.tuple #[.string (kf p), .int .i64 ((p + 1 : Nat) : Int)]) ∧ Below w.heap.size w w') ∧ ∀ w, BL a xs w → Calls Tryz.prog 64 #[.slice a xs.length cap, .int .i64 (p : Int)] w fun e w' => e = .returned (.tuple #[.string (vf p), .int .i64 ((p + 2 : Nat) : Int)]) ∧ Below w.heap.size w w') ∧ ∀ p : Nat, p ≤ 80000 → KZ1 (kf p) := by
  have h : ∀ p : Nat, ∃ kv : ByteArray × ByteArray, p ≤ 80000 → (kv.1.size ≤ 70 ∧ kv.2.size ≤ 300 ∧ (∀ w, BL a xs w → Calls Tryz.prog 63 #[.slice a xs.length cap, .int .i64 (p : Int)] w fun e w' => e = .returned (.tuple #[.string kv.1, .int .i64 ((p + 1 : Nat) : Int)]) ∧ Below w.heap.size w w') ∧ ∀ w, BL a xs w → Calls Tryz.prog 64 #[.slice a xs.length cap, .int .i64 (p : Int)] w fun e w' => e = .returned (.tuple #[.string kv.2, .int .i64 ((p + 2 : Nat) : Int)]) ∧ Below w.heap.size w w') ∧ KZ1 kv.1 := fun p => by
    by_cases hp : p ≤ 80000
    · obtain ⟨k, hk, HK⟩ := key_detz a xs cap p hX (by omega)
      obtain ⟨v, hv, HV⟩ := val_det a xs cap p hX (by omega)
      exact ⟨(k, v), fun _ => ⟨⟨hk.1, hv, HK, HV⟩, hk.2⟩⟩
    · exact ⟨(⟨#[]⟩, ⟨#[]⟩), fun q => absurd q hp⟩
  obtain ⟨f, hf⟩ := Classical.axiomOfChoice h
  exact ⟨fun p => (f p).1, fun p => (f p).2, fun p hp => (hf p hp).1, fun p hp => (hf p hp).2⟩
theorem map1_detz (a : Option Addr) (xs : List Nat) (cap p n : Nat) (hX : Code8 xs) (hp : p ≤ 70000) (hn : n ≤ 100) :
    ∃ ps : List PairT, (SmP ps n ∧ (0 < n → 0 < ps.length) ∧ KZ ps) ∧ ∀ w, BL a xs w → Calls Tryz.prog 38 #[.slice a xs.length cap, .int .i64 (p : Int), .int .i64 (n : Int)] w fun e w' => ∃ a' c', e = .returned (.tuple #[.slice a' ps.length c', .int .i64 ((p + 3 * n : Nat) : Int)]) ∧ OwnP w ps a' ps.length c' w' := by
  obtain ⟨kf, vf, hkv, hkz⟩ := kv_detz a xs cap hX
  have hkm : ∀ i, i ≤ n → KZ (mapD kf vf p i) := by
    intro i
    induction i with
    | zero => intro _ q hq; cases hq
    | succ i ih =>
      intro hi q hq
      rcases wth_mem hq with e | e
      · rw [e]; exact hkz _ (by omega)
      · exact ih (by omega) q e
  have hsm : ∀ i, i ≤ n → SmP (mapD kf vf p i) i := by
    intro i
    induction i with
    | zero => intro _; exact ⟨Nat.le_refl _, trivial, fun q hq => by cases hq⟩
    | succ i ih =>
      intro hi
      exact (ih (by omega)).wth (hkv _ (by omega)).1 (hkv _ (by omega)).2.1
  refine ⟨mapD kf vf p n, ⟨hsm n (Nat.le_refl _), fun h0 => ?_, hkm n (Nat.le_refl _)⟩, fun w hB => ?_⟩
  · obtain ⟨i, rfl⟩ : ∃ i, n = i + 1 := ⟨n - 1, by omega⟩
    have hm : kf (p + 3 * i) ∈ keys (mapD kf vf p (i + 1)) := mem_wth.2 (.inl rfl)
    have h1 := List.length_pos_of_mem hm
    unfold keys at h1
    rwa [List.length_map] at h1
  have HKV : Hid (∀ i w', i ≤ n → Below w.heap.size w w' → Calls Tryz.prog 63 #[.slice a xs.length cap, .int .i64 ((p + 3 * i : Nat) : Int)] w' (fun e w'' => e = .returned (.tuple #[.string (kf (p + 3 * i)), .int .i64 ((p + 3 * i + 1 : Nat) : Int)]) ∧ Below w'.heap.size w' w'') ∧ Calls Tryz.prog 64 #[.slice a xs.length cap, .int .i64 ((p + 3 * i + 1 : Nat) : Int)] w' (fun e w'' => e = .returned (.tuple #[.string (vf (p + 3 * i + 1)), .int .i64 ((p + 3 * i + 1 + 2 : Nat) : Int)]) ∧ Below w'.heap.size w' w'')) := fun i w' hi hb => ⟨(hkv (p + 3 * i) (by omega)).2.2.1 w' (hB.below hb), (hkv (p + 3 * i + 1) (by omega)).2.2.2 w' (hB.below hb)⟩
  have HW : Hid (∀ i a3 c3 w', i < n → PArg a3 (mapD kf vf p i) w' → Calls Tryz.prog 65 #[.slice a3 (mapD kf vf p i).length c3, .string (kf (p + 3 * i)), .string (vf (p + 3 * i + 1))] w' (PairsAt (mapD kf vf p (i + 1)) w')) := fun i a3 c3 w' hi hP => with_any a3 _ c3 _ _ w' hP (by have := (hkv (p + 3 * i) (by omega)).1; omega) (by have := (hsm i (by omega)).len; omega)
  have hO : OwnP w [] (some ⟨w.heap.size, 0, none⟩) 0 0 (w.alloc (.cells #[] 56)) := OwnP.nil w
  have HP : Hid (∀ i a3 m c3 W, i ≤ n → OwnP w (mapD kf vf p i) a3 m c3 W → PArg a3 (mapD kf vf p i) W) := fun i a3 m c3 W hi h => ownp_parg h ((hsm i hi).small (by omega))
  clear hB hkv hsm hkz hkm
  obtain ⟨L, hL⟩ : ∃ L, xs.length = L := ⟨_, rfl⟩
  rw [hL] at HKV ⊢
  clear hL
  go_enter Tryz.func38, Tryz.ntmps38
  go_wp2_with fail
  generalize w.alloc (.cells #[] 56) = W0 at hO ⊢
  obtain ⟨g0, hg0⟩ : ∃ g, w.heap.size = g := ⟨_, rfl⟩
  have hO' : OwnP w [] (some ⟨g0, 0, none⟩) 0 0 W0 := by rw [← hg0]; exact hO
  try rw [hg0]
  clear hO hg0
  go_loopw [1, 8, 9] (fun t1 t8 t9 wr => ∃ (i : Nat) (a3 : Option Addr) (c3 : Nat), i ≤ n ∧ t9 = .int .i64 (i : Int) ∧ t1 = .int .i64 ((p + 3 * i : Nat) : Int) ∧ t8 = .slice a3 (mapD kf vf p i).length c3 ∧ OwnP w (mapD kf vf p i) a3 (mapD kf vf p i).length c3 wr) (fun _ _ t9 _ => n - (intOf t9).toNat)
  case atStart => exact ⟨0, some ⟨g0, 0, none⟩, 0, Nat.zero_le _, rfl, rfl, rfl, hO'⟩
  case round =>
    clear hO'
    obtain ⟨i, a3, c3, hi, rfl, rfl, rfl, hT⟩ := hrel
    by_cases hlt : i < n
    · have z1 : decide ((i : Int) < (n : Int)) = true := by simp; omega
      have hP := HP.out i a3 _ c3 wr hi hT
      have HW' : Hid (∀ w', PArg a3 (mapD kf vf p i) w' → Calls Tryz.prog 65 #[.slice a3 (mapD kf vf p i).length c3, .string (kf (p + 3 * i)), .string (vf (p + 3 * i + 1))] w' (PairsAt (mapD kf vf p (i + 1)) w')) := fun w' q => HW.out i a3 c3 w' hlt q
      unfold PairsAt at HW'
      have HKV' : Hid (∀ w', Below w.heap.size w w' → Calls Tryz.prog 63 #[.slice a L cap, .int .i64 ((p + 3 * i : Nat) : Int)] w' (fun e w'' => e = .returned (.tuple #[.string (kf (p + 3 * i)), .int .i64 ((p + 3 * i + 1 : Nat) : Int)]) ∧ Below w'.heap.size w' w'') ∧ Calls Tryz.prog 64 #[.slice a L cap, .int .i64 ((p + 3 * i + 1 : Nat) : Int)] w' (fun e w'' => e = .returned (.tuple #[.string (vf (p + 3 * i + 1)), .int .i64 ((p + 3 * i + 1 + 2 : Nat) : Int)]) ∧ Below w'.heap.size w' w'')) := fun w' hb => HKV.out i w' hi hb
      have hbw := hT.bel
      have hnx : Hid (p + 3 * i + 1 + 2 = p + 3 * (i + 1)) := by show _ = _; omega
      obtain ⟨X, hX'⟩ : ∃ X, mapD kf vf p i = X := ⟨_, rfl⟩
      obtain ⟨Y, hY⟩ : ∃ Y, mapD kf vf p (i + 1) = Y := ⟨_, rfl⟩
      have hYH : Hid (mapD kf vf p (i + 1) = Y) := hY
      rw [hX'] at HW' hP
      rw [hX']
      rw [hY] at HW'
      generalize kf (p + 3 * i) = ky at HKV' HW'
      generalize vf (p + 3 * i + 1) = vl at HKV' HW'
      obtain ⟨q0, hq0⟩ : ∃ q, p + 3 * i = q := ⟨_, rfl⟩
      rw [hq0] at HKV' hnx ⊢
      clear hT hX' hY hq0
      go_wp2_with (first | (go_at_call 63; refine (HKV'.out _ hbw).1.mono ?_; rintro e w1 ⟨rfl, hb1⟩; have hbw1 := hbw.trans (hb1.mono hbw.size)) | (go_at_call 64; refine (HKV'.out _ hbw1).2.mono ?_; rintro e w2 ⟨rfl, hb2⟩; have hbw2 := hbw1.trans (hb2.mono hbw1.size)) | (go_at_call 65; refine (HW'.out _ ((hP.below hb1).below hb2)).mono ?_; rintro e w3 ⟨a4, c4, rfl, hT4⟩; have hT4' := hT4.up hbw2))
      go_roundw
      case rel => exact ⟨i + 1, a4, c4, hlt, by go_num, by rw [← hnx.out]; rfl, by rw [hYH.out], by rw [hYH.out]; exact hT4'⟩
      case measure => simp [intOf]; omega
    · obtain rfl : i = n := by omega
      have z1 : decide ((i : Int) < (i : Int)) = false := by simp
      go_wp2_with fail
      go_ret2
      exact ⟨a3, c3, rfl, hT⟩
theorem anymap_detz (a : Option Addr) (xs : List Nat) (cap p : Nat) (hX : Code8 xs) (hp : p ≤ 60000) :
    ∃ (ps : List PairT) (z : Nat), (SmQ ps 15 ∧ z ≤ p + 43 ∧ KZ ps) ∧ ∀ w, BL a xs w → Calls Tryz.prog 16 #[.slice a xs.length cap, .int .i64 (p : Int)] w (MGot ps z w) := by
  obtain ⟨x, hx, HT⟩ := take_det a xs cap p 40 hX (by omega) (by omega) (by omega)
  have hL := hX.le
  obtain ⟨n, hn⟩ : ∃ n, (if 14 < 1 + xs.length / 8 then 14 else 1 + xs.length / 8) = n := ⟨_, rfl⟩
  have hn1 : 1 ≤ n ∧ n ≤ 14 := by split at hn <;> omega
  have HC : ∀ w, Calls Tryz.prog 39 #[.slice a xs.length cap, .int .i64 8, .int .i64 1, .int .i64 14] w fun e w' => e = .returned (.int .i64 (n : Int)) ∧ w' = w := fun w => by
    rw [← hn]
    exact count_any a xs.length cap 8 1 14 w (by omega) hL (by omega) (by omega)
  obtain ⟨ps, ⟨hS, hpos, hkz⟩, HM⟩ := map1_detz a xs cap (p + 1) n hX (by omega) (by omega)
  have hp0 := hpos (by omega)
  have hlen := hS.len
  have hq := hS.q
  have hq15 : SmQ ps 15 := ⟨by omega, hq.sz⟩
  have hget : ∀ j, (ps.getD j noPair).1.size ≤ 300 ∧ (ps.getD j noPair).2.size ≤ 2001 := fun j => by
    by_cases hj : j < ps.length
    · rw [List.getD_eq_getElem?_getD, List.getElem?_eq_getElem hj]
      exact hq.sz _ (List.getElem_mem hj)
    · rw [List.getD_eq_getElem?_getD, List.getElem?_eq_none (by omega)]
      exact ⟨Nat.zero_le _, Nat.zero_le _⟩
  have hgz : ∀ j, KZ1 (ps.getD j noPair).1 := fun j => by
    by_cases hj : j < ps.length
    · rw [List.getD_eq_getElem?_getD, List.getElem?_eq_getElem hj]
      exact hkz _ (List.getElem_mem hj)
    · rw [List.getD_eq_getElem?_getD, List.getElem?_eq_none (by omega)]
      show KZ1 ⟨#[]⟩
      unfold KZ1
      decide
  have hm2 : (p + 1 + 3 * n) % 2 < 2 := Nat.mod_lt _ (by omega)
  by_cases h1 : x < 35
  · exact ⟨ps, _, ⟨hq15, by omega, hkz⟩, amap_a a xs cap p x n _ ps hS hn1.2 (by omega) HT HC HM h1⟩
  by_cases h2 : x = 35
  · by_cases hl : ps.length ≤ 1
    · exact ⟨ps, _, ⟨hq15, by omega, hkz⟩, amap_b a xs cap p x n _ ps hS hn1.2 (by omega) HT HC HM h2 hl⟩
    · refine ⟨_, _, ⟨⟨by rw [List.length_set, List.length_set]; omega, fun q hq' => ?_⟩, by omega, fun q hq' => ?_⟩, amap_e a xs cap p x n _ ps hS hn1.2 (by omega) HT HC HM h2 (by omega)⟩
      rcases List.mem_or_eq_of_mem_set hq' with h | h
      · rcases List.mem_or_eq_of_mem_set h with h | h
        · exact hq.sz q h
        · rw [h]; exact hget 1
      · rw [h]; exact hget 0
      rcases List.mem_or_eq_of_mem_set hq' with h | h
      · rcases List.mem_or_eq_of_mem_set h with h | h
        · exact hkz q h
        · rw [h]; exact hgz 1
      · rw [h]; exact hgz 0
  by_cases h3 : x = 36
  · refine ⟨_, _, ⟨⟨by rw [List.length_append]; show _ + 1 ≤ 15; omega, fun q hq' => ?_⟩, by omega, fun q hq' => ?_⟩, amap_d a xs cap p x n _ ps hS hn1.2 (by omega) HT HC HM h3 hp0⟩
    rcases List.mem_append.1 hq' with h | h
    · exact hq.sz q h
    · rw [List.mem_singleton.1 h]; exact hget _
    rcases List.mem_append.1 hq' with h | h
    · exact hkz q h
    · rw [List.mem_singleton.1 h]; exact hgz _
  by_cases h4 : x = 37
  · refine ⟨_, _, ⟨⟨by rw [List.length_cons]; omega, fun q hq' => ?_⟩, by omega, fun q hq' => ?_⟩, amap_f a xs cap p x n _ ps hS hn1.2 (by omega) HT HC HM h4 hp0⟩
    rcases List.mem_cons.1 hq' with h | h
    · rw [h]; exact ⟨Nat.zero_le _, Nat.zero_le _⟩
    · exact hq.sz q h
    rcases List.mem_cons.1 hq' with h | h
    · rw [h]; show KZ1 ⟨#[]⟩; unfold KZ1; decide
    · exact hkz q h
  by_cases h5 : x = 38
  · refine ⟨_, _, ⟨⟨by simp, fun q hq' => ?_⟩, by omega, fun q hq' => ?_⟩, amap_g a xs cap p x n _ ps hS hn1.2 (by omega) HT HC HM h5⟩
    · rw [List.mem_singleton.1 hq', reps_size, reps_size]
      omega
    · rw [List.mem_singleton.1 hq']
      show KZ1 (reps _ 107)
      rw [show 256 + (p + 1 + 3 * n) % 2 = 255 + (p + 1 + 3 * n) % 2 + 1 by omega]
      exact kz_reps _ 107 (by decide)
  · refine ⟨_, _, ⟨⟨by simp, fun q hq' => ?_⟩, by omega, fun q hq' => ?_⟩, amap_h a xs cap p x n _ ps hS hn1.2 (by omega) HT HC HM (by omega)⟩
    · rw [List.mem_singleton.1 hq', reps_size]
      exact ⟨by show (⟨#[107]⟩ : ByteArray).size ≤ 300; decide, by omega⟩
    · rw [List.mem_singleton.1 hq']
      show KZ1 ⟨#[107]⟩
      unfold KZ1
      decide
theorem droot_detz (a : Option Addr) (xs : List Nat) (cap : Nat) (hX : Code8 xs) :
    ∃ (ps : List PairT) (n : Nat), (SmQ ps 501 ∧ n ≤ 33 ∧ (ps.length ≤ 40 → KZ ps)) ∧ ∀ w, BL a xs w → Calls Tryz.prog 4 #[.slice a xs.length cap] w (RtGot ps n w) := by
  obtain ⟨x, hx, HT⟩ := take_det a xs cap 0 24 hX (by omega) (by omega) (by omega)
  obtain ⟨wd, hwd, HD⟩ := width_det a xs cap 1 hX (by omega)
  obtain ⟨ps, z, ⟨hS, hz, hkz⟩, HM⟩ := anymap_detz a xs cap 2 hX (by omega)
  have hm2 : z % 2 < 2 := Nat.mod_lt _ (by omega)
  have hS' : SmQ ps 501 := ⟨Nat.le_trans hS.len (by omega), hS.sz⟩
  by_cases h1 : x < 22
  · exact ⟨ps, wd, ⟨hS', by omega, fun _ => hkz⟩, droot_a a xs cap x wd z ps (by omega) HT HD HM h1⟩
  by_cases h2 : x = 23
  · exact ⟨ps, _, ⟨hS', by omega, fun _ => hkz⟩, droot_b a xs cap x wd z ps (by omega) HT HD HM h2⟩
  · have hc := crowd_sm (500 + z % 2)
    exact ⟨_, wd, ⟨⟨Nat.le_trans hc.len (by omega), hc.sz⟩, by omega, fun h => by rw [crowd_len] at h; omega⟩, droot_c a xs cap x wd z ps (by omega) HT HD HM (by omega)⟩
theorem sv_sub (wd : Nat) (ss : List ByteArray) : ∀ (es ad0 ad : List ByteArray), es.foldl (svStep wd ss) (.go ad0) = .go ad → (∀ x ∈ ad, x ∈ ad0 ∨ x ∈ es) ∧ ad.length ≤ ad0.length + es.length
  | [], ad0, ad, h => by
    have : ad0 = ad := by injection h
    subst this
    exact ⟨fun x hx => .inl hx, Nat.le_refl _⟩
  | e :: es, ad0, ad, h => by
    rw [List.foldl_cons] at h
    cases hf : fst2 wd ss ad0 (hashT wd e) with
    | some u =>
      rw [svStep_some hf] at h
      split at h
      · obtain ⟨a1, a2⟩ := sv_sub wd ss es ad0 ad h
        exact ⟨fun x hx => (a1 x hx).imp id (List.mem_cons_of_mem _), by rw [List.length_cons]; omega⟩
      · rw [sv_stuck wd ss es _ rfl] at h; cases h
    | none =>
      rw [svStep_none hf] at h
      split at h
      · rw [sv_stuck wd ss es _ rfl] at h; cases h
      · obtain ⟨a1, a2⟩ := sv_sub wd ss es _ ad h
        refine ⟨fun x hx => ?_, by rw [List.length_append] at a2; rw [List.length_cons]; simp at a2; omega⟩
        rcases a1 x hx with q | q
        · rcases List.mem_append.1 q with q | q
          · exact .inl q
          · exact .inr (by rw [List.mem_singleton.1 q]; exact List.mem_cons_self ..)
        · exact .inr (List.mem_cons_of_mem _ q)
/-- Texts that are small. -/
structure SmT (xs : List ByteArray) (n s : Nat) : Prop where
  len : xs.length ≤ n
  sz : ∀ x ∈ xs, x.size ≤ s
theorem SmT.getD {xs : List ByteArray} {n s : Nat} (h : SmT xs n s) (j : Nat) : (xs.getD j ⟨#[]⟩).size ≤ s := by
  rw [List.getD_eq_getElem?_getD]
  cases hx : xs[j]? with
  | none => exact Nat.zero_le _
  | some y => exact h.sz y (List.mem_of_getElem? hx)
theorem SmT.app {xs ys : List ByteArray} {n m s : Nat} (h : SmT xs n s) (k : SmT ys m s) : SmT (xs ++ ys) (n + m) s :=
  ⟨by rw [List.length_append]; have := h.len; have := k.len; omega, fun x hx => (List.mem_append.1 hx).elim (h.sz x) (k.sz x)⟩
section
variable {w : World} {gq wd : Nat} {ss roots : List ByteArray} {ps : List PairT} {ap : Option Addr} {cp : Nat} {ar : Option Addr} {cr : Nat} {a4 : Option Addr} {c4 : Nat} {W W' : World}
end
theorem u8_wf {x : Int} (h : (Lit.int .u8 x).wf = true) : 0 ≤ x ∧ x < 256 := by
  have e1 : IntKind.u8.min = 0 := rfl
  have e2 : IntKind.u8.max = 255 := rfl
  unfold Lit.wf at h
  rw [Bool.and_eq_true, decide_eq_true_eq, decide_eq_true_eq, e1, e2] at h
  omega
/-- The code, as numbers. -/
theorem BL.of {a : Option Addr} {xs : List Int} {w : World} (hl : xs.length ≤ 1048576) (hw : ∀ x ∈ xs, (Lit.int .u8 x).wf = true)
    (h : 0 < xs.length → ∃ b off : Nat, a = some ⟨b, off, none⟩ ∧ b < w.heap.size ∧ ∀ j, j < xs.length → w.cell? ⟨b, off + j, none⟩ = some (.int .u8 (xs.getD j 0))) : ∃ ys : List Nat, ys.length = xs.length ∧ Code8 ys ∧ BL a ys w := by
  have hg : ∀ j, (xs.map Int.toNat).getD j 0 = (xs.getD j 0).toNat := fun j => by
    rw [List.getD_eq_getElem?_getD, List.getD_eq_getElem?_getD, List.getElem?_map]
    cases xs[j]? <;> rfl
  have hm : ∀ j, 0 ≤ xs.getD j 0 ∧ xs.getD j 0 < 256 := fun j => by
    by_cases hj : j < xs.length
    · have : xs.getD j 0 ∈ xs := by
        rw [List.getD_eq_getElem?_getD, List.getElem?_eq_getElem hj]
        exact List.getElem_mem hj
      exact u8_wf (hw _ this)
    · rw [List.getD_eq_getElem?_getD, List.getElem?_eq_none (by omega)]
      exact ⟨Int.le_refl _, by decide⟩
  refine ⟨xs.map Int.toNat, List.length_map _, ⟨by rw [List.length_map]; exact hl, fun j => ?_⟩, ⟨fun hp => ?_⟩⟩
  · rw [hg]
    have := hm j
    omega
  · rw [List.length_map] at hp
    obtain ⟨b, off, ha, hlt, hc⟩ := h hp
    refine ⟨b, off, ha, hlt, fun j hj => ?_⟩
    rw [List.length_map] at hj
    rw [hc j hj, hg, Int.toNat_of_nonneg (hm j).1]
theorem fst2_more {wd : Nat} {ss ad : List ByteArray} {h u x : ByteArray} (hf : fst2 wd ss ad h = some u) : fst2 wd ss (ad ++ [x]) h = some u := by
  unfold fst2 at hf ⊢
  cases hi : firstI (hitB wd (ss ++ ad) h) (ss.length + ad.length) with
  | none => rw [hi] at hf; cases hf
  | some i =>
    have hl := firstI_lt hi
    have e : ∀ j, j < ss.length + ad.length → (ss ++ (ad ++ [x])).getD j ⟨#[]⟩ = (ss ++ ad).getD j ⟨#[]⟩ := fun j hj => by
      rw [← List.append_assoc, List.getD_eq_getElem?_getD, List.getD_eq_getElem?_getD, List.getElem?_append_left (by rw [List.length_append]; exact hj)]
    have h1 : firstI (hitB wd (ss ++ (ad ++ [x])) h) (ss.length + ad.length) = some i := by
      rw [← hi]
      refine firstI_congr fun j hj => ?_
      unfold hitB
      rw [e j hj]
    have h2 := firstI_up h1 1
    rw [hi] at hf
    rw [List.length_append, List.length_singleton, ← Nat.add_assoc, h2, Option.map_some, e i hl]
    exact hf
theorem fst2_last {wd : Nat} {ss ad : List ByteArray} {e : ByteArray} (hf : fst2 wd ss ad (hashT wd e) = none) : fst2 wd ss (ad ++ [e]) (hashT wd e) = some e := by
  unfold fst2 at hf ⊢
  cases hi : firstI (hitB wd (ss ++ ad) (hashT wd e)) (ss.length + ad.length) with
  | some i => rw [hi] at hf; cases hf
  | none =>
    have g : (ss ++ (ad ++ [e])).getD (ss.length + ad.length) ⟨#[]⟩ = e := by
      rw [← List.append_assoc, List.getD_eq_getElem?_getD, List.getElem?_append_right (by rw [List.length_append]; exact Nat.le_refl _), List.length_append, Nat.sub_self]
      rfl
    have h1 : firstI (hitB wd (ss ++ (ad ++ [e])) (hashT wd e)) (ss.length + ad.length) = none := by
      rw [← hi]
      refine firstI_congr fun j hj => ?_
      unfold hitB
      rw [← List.append_assoc, List.getD_eq_getElem?_getD, List.getD_eq_getElem?_getD, List.getElem?_append_left (by rw [List.length_append]; exact hj)]
    have h2 : hitB wd (ss ++ (ad ++ [e])) (hashT wd e) (ss.length + ad.length) = true := by
      unfold hitB
      rw [g]
      exact decide_eq_true rfl
    rw [List.length_append, List.length_singleton, ← Nat.add_assoc, firstI_step_yes h1 h2, Option.map_some, g]
theorem sv_has (wd : Nat) (ss : List ByteArray) : ∀ (es ad0 ad : List ByteArray), es.foldl (svStep wd ss) (.go ad0) = .go ad → (∀ h u, fst2 wd ss ad0 h = some u → fst2 wd ss ad h = some u) ∧ ∀ e ∈ es, fst2 wd ss ad (hashT wd e) = some e
  | [], ad0, ad, h => by
    have : ad0 = ad := by injection h
    subst this
    exact ⟨fun _ _ q => q, fun e he => by cases he⟩
  | e :: es, ad0, ad, h => by
    rw [List.foldl_cons] at h
    cases hf : fst2 wd ss ad0 (hashT wd e) with
    | some u =>
      rw [svStep_some hf] at h
      by_cases hu : u = e
      · subst hu
        rw [if_pos rfl] at h
        obtain ⟨a1, a2⟩ := sv_has wd ss es ad0 ad h
        refine ⟨a1, fun x hx => ?_⟩
        rcases List.mem_cons.1 hx with rfl | hx
        · exact a1 _ _ hf
        · exact a2 x hx
      · rw [if_neg hu, sv_stuck wd ss es _ rfl] at h; cases h
    | none =>
      rw [svStep_none hf] at h
      split at h
      · rw [sv_stuck wd ss es _ rfl] at h; cases h
      · obtain ⟨a1, a2⟩ := sv_has wd ss es _ ad h
        refine ⟨fun q u hq => a1 q u (fst2_more hq), fun x hx => ?_⟩
        rcases List.mem_cons.1 hx with rfl | hx
        · exact a1 _ _ (fst2_last hf)
        · exact a2 x hx
theorem nodeOk_of {wd : Nat} (h1 : 1 ≤ wd) (h2 : wd ≤ 32) {x : PairT} {l r : Tr PairT} (hk : okKey x.1 = true) (hv : okVal x.2 = true) : nodeOk x.1.size x.2.size (rootT wd l).size (rootT wd r).size (wd : Int) = true := by
  unfold okKey at hk
  unfold okVal at hv
  rw [decide_eq_true_eq] at hk hv
  have hl := rootT_size wd h2 l
  have hr := rootT_size wd h2 r
  unfold nodeOk hashOk
  rw [Bool.and_eq_true, Bool.and_eq_true, decide_eq_true_eq]
  refine ⟨by omega, ?_, ?_⟩
  · rw [Bool.or_eq_true, decide_eq_true_eq, decide_eq_true_eq]; omega
  · rw [Bool.or_eq_true, decide_eq_true_eq, decide_eq_true_eq]; omega
theorem ku_of_map {ps : List PairT} (h : isMapT ps = true) : KeysUp (keys ps) := by
  have hm : mapTo ps ps.length = true := by
    unfold isMapT at h
    exact ((Bool.and_eq_true _ _).mp h).2
  have key : ∀ (l : List PairT), (∀ i j, i < j → j < l.length → lessB (l.getD i noPair).1 (l.getD j noPair).1 = true) → KeysUp (keys l) := by
    intro l
    induction l with
    | nil => intro _; trivial
    | cons x xs ih =>
      intro hl
      refine ⟨fun k hk => ?_, ih fun i j hij hj => ?_⟩
      · obtain ⟨p, hp, rfl⟩ := List.mem_map.1 hk
        obtain ⟨i, hi, rfl⟩ := List.getElem_of_mem hp
        have := hl 0 (i + 1) (by omega) (by simpa using hi)
        have e0 : (x :: xs).getD 0 noPair = x := by simp [List.getD_eq_getElem?_getD]
        have e1 : (x :: xs).getD (i + 1) noPair = xs[i] := by simp [List.getD_eq_getElem?_getD, hi]
        rw [e0, e1] at this
        exact this
      · have := hl (i + 1) (j + 1) (by omega) (by simpa using hj)
        have e0 : ∀ q, (x :: xs).getD (q + 1) noPair = xs.getD q noPair := fun q => by simp [List.getD_eq_getElem?_getD]
        rw [e0, e0] at this
        exact this
  refine key ps fun i j hij hj => ?_
  have := mapTo_less ps ps.length hm i j hij hj
  unfold lessB
  rw [ByteArray.toList_eq, ByteArray.toList_eq]
  exact this
end Go.Proofs.YtmfhfehemoeeeaaGreatDoor
