import Derived.Test.YtmfhfehemoeeeaaGreatDoorZsbp
import Derived.Test.YtmfhfehemoeeeaaGreatDoorZsbo
import Derived.Test.YtmfhfehemoeeeaaGreatDoorZsba
set_option maxRecDepth 100000
set_option maxHeartbeats 4000000
namespace Go.Proofs.YtmfhfehemoeeeaaGreatDoor
open Go.RowKit Go.Proofs.Sha

/-- A crowd's keys. -/
def crD (i : Nat) : ByteArray := byteS (97 + i / 100) ++ byteS (48 + i / 10 % 10) ++ byteS (48 + i % 10)
def crowd (n : Nat) : List PairT := (List.range n).map fun i => (crD i, ⟨#[]⟩)
theorem crowd_succ (n : Nat) : crowd (n + 1) = crowd n ++ [(crD n, ⟨#[]⟩)] := by unfold crowd; rw [List.range_succ, List.map_append]; rfl
theorem crowd_len (n : Nat) : (crowd n).length = n := by unfold crowd; rw [List.length_map, List.length_range]
theorem crowd_any (n : Nat) (hn : n ≤ 1000) (w : World) : Calls Tryz.prog 17 #[.int .i64 (n : Int)] w (PairsAt (crowd n) w) := by
  obtain ⟨i0, hi0, hz0, hz1, hz2⟩ := info_parts2 info37
  have hO := OwnP.nil w
  go_enter Tryz.func17, Tryz.ntmps17
  go_wp2_with fail
  go_loopw [3, 4] (fun t3 t4 wr => ∃ k : Nat, k ≤ n ∧ t4 = .int .i64 (k : Int) ∧ ∃ (a' : Option Addr) (m d' : Nat), t3 = .slice a' m d' ∧ OwnP w (crowd k) a' m d' wr) (fun _ t4 _ => n - (intOf t4).toNat)
  case atStart => exact ⟨0, Nat.zero_le _, rfl, _, _, _, rfl, hO⟩
  case round =>
    obtain ⟨k, hk, rfl, a', m, d', rfl, hW⟩ := hrel
    by_cases hlt : k < n
    · have z1 : decide ((k : Int) < (n : Int)) = true := by simp; omega
      have hml : m ≤ 1000 := by have := hW.len; rw [crowd_len] at this; omega
      have hcr : Hid (crD k = byteS (97 + k / 100) ++ byteS (48 + k / 10 % 10) ++ byteS (48 + k % 10)) := rfl
      have H1 : Hid (∀ m w', m = ((97 + k / 100 : Nat) : Int) → Calls Tryz.prog 41 #[.int .i64 m] w' fun e w'' => e = .returned (.string (byteS (97 + k / 100))) ∧ Below w'.heap.size w' w'') := fun m w' hm => byte_d m _ hm (by omega) w'
      have H2 : Hid (∀ m w', m = ((48 + k / 10 % 10 : Nat) : Int) → Calls Tryz.prog 41 #[.int .i64 m] w' fun e w'' => e = .returned (.string (byteS (48 + k / 10 % 10))) ∧ Below w'.heap.size w' w'') := fun m w' hm => byte_d m _ hm (by omega) w'
      have H3 : Hid (∀ m w', m = ((48 + k % 10 : Nat) : Int) → Calls Tryz.prog 41 #[.int .i64 m] w' fun e w'' => e = .returned (.string (byteS (48 + k % 10))) ∧ Below w'.heap.size w' w'') := fun m w' hm => byte_d m _ hm (by omega) w'
      obtain ⟨t1, ht1⟩ : ∃ t, byteS (97 + k / 100) = t := ⟨_, rfl⟩
      obtain ⟨t2, ht2⟩ : ∃ t, byteS (48 + k / 10 % 10) = t := ⟨_, rfl⟩
      obtain ⟨t3, ht3⟩ : ∃ t, byteS (48 + k % 10) = t := ⟨_, rfl⟩
      have hs1 : t1.size = 1 := by rw [← ht1]; rfl
      have hs2 : t2.size = 1 := by rw [← ht2]; rfl
      have hs3 : t3.size = 1 := by rw [← ht3]; rfl
      rw [ht1] at H1 hcr
      rw [ht2] at H2 hcr
      rw [ht3] at H3 hcr
      have hy1 : ¬ (9223372036854775807 < t1.size + t2.size) := by omega
      have hy2 : ¬ (9223372036854775807 < t1.size + t2.size + t3.size) := by omega
      clear ht1 ht2 ht3 hs1 hs2 hs3
      have hbs := hW.bel.size
      go_upto_region 6 with (first | (go_at_call 41; refine (H1.out _ _ (by omega)).mono ?_; rintro e wa ⟨rfl, hba⟩; have hWa := hW.below hba) | (go_at_call 41; refine (H2.out _ _ (by omega)).mono ?_; rintro e wb ⟨rfl, hbb⟩; have hWb := hWa.below hbb) | (go_at_call 41; refine (H3.out _ _ (by omega)).mono ?_; rintro e wd ⟨rfl, hbd⟩; have hWd := hWb.below hbd))
      have own := hWd.own
      have hbs' : w.heap.size ≤ wd.heap.size := hWd.bel.size
      generalize t1 ++ t2 ++ t3 = key at hcr ⊢
      clear hW hWa hWb hba hbb hbd H1 H2 H3 hy1 hy2
      go_wp2_with (at_builtin; refine wpList_append_lies _ rfl (.tmp 27) (.tmp 30) 23 rfl w.heap.size 56 i0 (.agg #[.string ⟨#[]⟩, .string ⟨#[]⟩]) 2 32 Tryz.underlying23 hi0 hz0 hz1 hz2 rfl (by decide) (.slice a' m d') m (flatP (crowd k)) rfl (own.alloc _) ⟨wd.heap.size, 0, none⟩ 1 1 [.string key, .string ⟨#[]⟩] rfl rfl (World.news_of_block (heap_alloc_new wd _)) (by simp [Value.oneCell']) (by decide) (by unfold maxLen; omega) (by omega) (by simp; omega) (wd.heap.size + 1) (by simp) ?_; intro g5 c5 w5 hown5 hgrow5 hat5 hlt5)
      go_roundw
      case rel => exact ⟨k + 1, hlt, by go_num, _, _, _, rfl, by rw [crowd_succ, hcr.out]; exact hWd.more hown5 hgrow5 rfl⟩
      case measure => simp [intOf]; omega
    · obtain rfl : k = n := by omega
      have z1 : decide ((k : Int) < (k : Int)) = false := by simp
      have hl := hW.len
      rw [crowd_len] at hl
      subst hl
      go_wp2_with fail
      go_ret
      exact ⟨_, _, by rw [crowd_len]; rfl, by rw [crowd_len]; exact hW⟩
/-- A list of pairs and a width. -/
def RtGot (ps : List PairT) (n : Nat) (w : World) (e : Ending) (w' : World) : Prop := ∃ a1 c1, e = .returned (.tuple #[.slice a1 ps.length c1, .int .i64 (n : Int)]) ∧ PArg a1 ps w' ∧ ps.length ≤ c1 ∧ Below w.heap.size w w'
theorem crowd_sm (n : Nat) : SmQ (crowd n) n := by
  refine ⟨Nat.le_of_eq (crowd_len n), fun q hq => ?_⟩
  unfold crowd at hq
  obtain ⟨i, _, rfl⟩ := List.mem_map.1 hq
  refine ⟨?_, Nat.zero_le _⟩
  show (crD i).size ≤ 300
  unfold crD
  rw [ByteArray.size_append, ByteArray.size_append]
  show 1 + 1 + 1 ≤ 300
  omega
theorem droot_a (a : Option Addr) (xs : List Nat) (cap x wd z : Nat) (ps : List PairT) (hz : z ≤ 100000)
    (HT : ∀ w, BL a xs w → Calls Tryz.prog 14 #[.slice a xs.length cap, .int .i64 0, .int .i64 24] w fun e w' => e = .returned (.tuple #[.int .i64 (x : Int), .int .i64 1]) ∧ Below w.heap.size w w')
    (HD : ∀ w, BL a xs w → Calls Tryz.prog 15 #[.slice a xs.length cap, .int .i64 1] w fun e w' => e = .returned (.tuple #[.int .i64 (wd : Int), .int .i64 2]) ∧ Below w.heap.size w w')
    (HM : ∀ w, BL a xs w → Calls Tryz.prog 16 #[.slice a xs.length cap, .int .i64 2] w (MGot ps z w)) (hx : x < 22) :
    ∀ w, BL a xs w → Calls Tryz.prog 4 #[.slice a xs.length cap] w (RtGot ps wd w) := by
  intro w hB
  have HT' : Hid (∀ w', Below w.heap.size w w' → Calls Tryz.prog 14 #[.slice a xs.length cap, .int .i64 0, .int .i64 24] w' fun e w'' => e = .returned (.tuple #[.int .i64 (x : Int), .int .i64 1]) ∧ Below w'.heap.size w' w'') := fun w' hb => HT w' (hB.below hb)
  have HD' : Hid (∀ w', Below w.heap.size w w' → Calls Tryz.prog 15 #[.slice a xs.length cap, .int .i64 1] w' fun e w'' => e = .returned (.tuple #[.int .i64 (wd : Int), .int .i64 2]) ∧ Below w'.heap.size w' w'') := fun w' hb => HD w' (hB.below hb)
  have HM' : Hid (∀ w', Below w.heap.size w w' → Calls Tryz.prog 16 #[.slice a xs.length cap, .int .i64 2] w' (MGot ps z w')) := fun w' hb => HM w' (hB.below hb)
  unfold MGot at HM'
  clear HT HD HM hB
  obtain ⟨L, hLL⟩ : ∃ L, xs.length = L := ⟨_, rfl⟩
  rw [hLL] at HT' HD' HM' ⊢
  clear hLL
  obtain ⟨N, hN⟩ : ∃ N, ps.length = N := ⟨_, rfl⟩
  rw [hN] at HM'
  have ym : (z : Int).tmod 2 = ((z % 2 : Nat) : Int) := by rw [Int.tmod_eq_emod_of_nonneg (by omega)]; omega
  have hm2 : z % 2 < 2 := Nat.mod_lt _ (by omega)
  obtain ⟨r, hr⟩ : ∃ r, z % 2 = r := ⟨_, rfl⟩
  rw [hr] at ym hm2
  clear hr
  have z22 : ((x : Int) == 22) = false := by simp; omega
  have z23 : ((x : Int) == 23) = false := by simp; omega
  clear hx
  go_enter Tryz.func4, Tryz.ntmps4
  go_upto_region 2 with (first | (go_at_call 14; refine (HT'.out _ (Below.refl _ _)).mono ?_; rintro e w1 ⟨rfl, hb1⟩))
  go_upto_region 3 with (first | (go_at_call 15; refine (HD'.out _ hb1).mono ?_; rintro e w2 ⟨rfl, hb2'⟩; have hb2 := hb1.trans (hb2'.mono hb1.size)))
  clear hb1 hb2'
  go_upto_region 4 with (first | (go_at_call 16; refine (HM'.out _ hb2).mono ?_; rintro e w3 ⟨a3, c3, rfl, hP3, hc3, hb3'⟩; have hb3 := hb2.trans (hb3'.mono hb2.size)))
  clear hb2 hb3' HT' HD' HM'
  go_wp2_with fail
  go_ret2
  exact ⟨a3, c3, by rw [hN]; rfl, hP3, by rw [hN]; exact hc3, hb3⟩
theorem droot_b (a : Option Addr) (xs : List Nat) (cap x wd z : Nat) (ps : List PairT) (hz : z ≤ 100000)
    (HT : ∀ w, BL a xs w → Calls Tryz.prog 14 #[.slice a xs.length cap, .int .i64 0, .int .i64 24] w fun e w' => e = .returned (.tuple #[.int .i64 (x : Int), .int .i64 1]) ∧ Below w.heap.size w w')
    (HD : ∀ w, BL a xs w → Calls Tryz.prog 15 #[.slice a xs.length cap, .int .i64 1] w fun e w' => e = .returned (.tuple #[.int .i64 (wd : Int), .int .i64 2]) ∧ Below w.heap.size w w')
    (HM : ∀ w, BL a xs w → Calls Tryz.prog 16 #[.slice a xs.length cap, .int .i64 2] w (MGot ps z w)) (hx : x = 23) :
    ∀ w, BL a xs w → Calls Tryz.prog 4 #[.slice a xs.length cap] w (RtGot ps (z % 2 * 33) w) := by
  intro w hB
  have HT' : Hid (∀ w', Below w.heap.size w w' → Calls Tryz.prog 14 #[.slice a xs.length cap, .int .i64 0, .int .i64 24] w' fun e w'' => e = .returned (.tuple #[.int .i64 (x : Int), .int .i64 1]) ∧ Below w'.heap.size w' w'') := fun w' hb => HT w' (hB.below hb)
  have HD' : Hid (∀ w', Below w.heap.size w w' → Calls Tryz.prog 15 #[.slice a xs.length cap, .int .i64 1] w' fun e w'' => e = .returned (.tuple #[.int .i64 (wd : Int), .int .i64 2]) ∧ Below w'.heap.size w' w'') := fun w' hb => HD w' (hB.below hb)
  have HM' : Hid (∀ w', Below w.heap.size w w' → Calls Tryz.prog 16 #[.slice a xs.length cap, .int .i64 2] w' (MGot ps z w')) := fun w' hb => HM w' (hB.below hb)
  unfold MGot at HM'
  clear HT HD HM hB
  obtain ⟨L, hLL⟩ : ∃ L, xs.length = L := ⟨_, rfl⟩
  rw [hLL] at HT' HD' HM' ⊢
  clear hLL
  obtain ⟨N, hN⟩ : ∃ N, ps.length = N := ⟨_, rfl⟩
  rw [hN] at HM'
  have ym : (z : Int).tmod 2 = ((z % 2 : Nat) : Int) := by rw [Int.tmod_eq_emod_of_nonneg (by omega)]; omega
  have hm2 : z % 2 < 2 := Nat.mod_lt _ (by omega)
  obtain ⟨r, hr⟩ : ∃ r, z % 2 = r := ⟨_, rfl⟩
  rw [hr] at ym hm2 ⊢
  clear hr
  have z22 : ((x : Int) == 22) = false := by simp; omega
  have z23 : ((x : Int) == 23) = true := by simp; omega
  clear hx
  have yw : IntKind.i64.wrap ((r : Int) * 33) = ((r * 33 : Nat) : Int) := by rw [wrap_i64_in _ (by omega) (by omega)]; omega
  obtain ⟨r3, hr3⟩ : ∃ q, r * 33 = q := ⟨_, rfl⟩
  rw [hr3] at yw ⊢
  clear hr3
  go_enter Tryz.func4, Tryz.ntmps4
  go_upto_region 2 with (first | (go_at_call 14; refine (HT'.out _ (Below.refl _ _)).mono ?_; rintro e w1 ⟨rfl, hb1⟩))
  go_upto_region 3 with (first | (go_at_call 15; refine (HD'.out _ hb1).mono ?_; rintro e w2 ⟨rfl, hb2'⟩; have hb2 := hb1.trans (hb2'.mono hb1.size)))
  clear hb1 hb2'
  go_upto_region 4 with (first | (go_at_call 16; refine (HM'.out _ hb2).mono ?_; rintro e w3 ⟨a3, c3, rfl, hP3, hc3, hb3'⟩; have hb3 := hb2.trans (hb3'.mono hb2.size)))
  clear hb2 hb3' HT' HD' HM'
  go_wp2_with fail
  go_ret2
  exact ⟨a3, c3, by rw [hN]; rfl, hP3, by rw [hN]; exact hc3, hb3⟩
theorem droot_c (a : Option Addr) (xs : List Nat) (cap x wd z : Nat) (ps : List PairT) (hz : z ≤ 100000)
    (HT : ∀ w, BL a xs w → Calls Tryz.prog 14 #[.slice a xs.length cap, .int .i64 0, .int .i64 24] w fun e w' => e = .returned (.tuple #[.int .i64 (x : Int), .int .i64 1]) ∧ Below w.heap.size w w')
    (HD : ∀ w, BL a xs w → Calls Tryz.prog 15 #[.slice a xs.length cap, .int .i64 1] w fun e w' => e = .returned (.tuple #[.int .i64 (wd : Int), .int .i64 2]) ∧ Below w.heap.size w w')
    (HM : ∀ w, BL a xs w → Calls Tryz.prog 16 #[.slice a xs.length cap, .int .i64 2] w (MGot ps z w)) (hx : x = 22) :
    ∀ w, BL a xs w → Calls Tryz.prog 4 #[.slice a xs.length cap] w (RtGot (crowd (500 + z % 2)) wd w) := by
  intro w hB
  have HT' : Hid (∀ w', Below w.heap.size w w' → Calls Tryz.prog 14 #[.slice a xs.length cap, .int .i64 0, .int .i64 24] w' fun e w'' => e = .returned (.tuple #[.int .i64 (x : Int), .int .i64 1]) ∧ Below w'.heap.size w' w'') := fun w' hb => HT w' (hB.below hb)
  have HD' : Hid (∀ w', Below w.heap.size w w' → Calls Tryz.prog 15 #[.slice a xs.length cap, .int .i64 1] w' fun e w'' => e = .returned (.tuple #[.int .i64 (wd : Int), .int .i64 2]) ∧ Below w'.heap.size w' w'') := fun w' hb => HD w' (hB.below hb)
  have HM' : Hid (∀ w', Below w.heap.size w w' → Calls Tryz.prog 16 #[.slice a xs.length cap, .int .i64 2] w' (MGot ps z w')) := fun w' hb => HM w' (hB.below hb)
  unfold MGot at HM'
  clear HT HD HM hB
  obtain ⟨L, hLL⟩ : ∃ L, xs.length = L := ⟨_, rfl⟩
  rw [hLL] at HT' HD' HM' ⊢
  clear hLL
  obtain ⟨N, hN⟩ : ∃ N, ps.length = N := ⟨_, rfl⟩
  rw [hN] at HM'
  have ym : (z : Int).tmod 2 = ((z % 2 : Nat) : Int) := by rw [Int.tmod_eq_emod_of_nonneg (by omega)]; omega
  have hm2 : z % 2 < 2 := Nat.mod_lt _ (by omega)
  obtain ⟨r, hr⟩ : ∃ r, z % 2 = r := ⟨_, rfl⟩
  rw [hr] at ym hm2 ⊢
  clear hr
  have z22 : ((x : Int) == 22) = true := by simp; omega
  have z23 : ((x : Int) == 23) = false := by simp; omega
  clear hx
  have yw : IntKind.i64.wrap (500 + (r : Int)) = ((500 + r : Nat) : Int) := by rw [wrap_i64_in _ (by omega) (by omega)]; omega
  obtain ⟨r3, hr3⟩ : ∃ q, 500 + r = q := ⟨_, rfl⟩
  rw [hr3] at yw ⊢
  have HC : Hid (∀ w', Calls Tryz.prog 17 #[.int .i64 (r3 : Int)] w' (PairsAt (crowd r3) w')) := fun w' => crowd_any r3 (by omega) w'
  unfold PairsAt at HC
  have hcs : Hid (SmallP (crowd r3)) := (crowd_sm r3).small (by omega)
  obtain ⟨M, hM⟩ : ∃ M, (crowd r3).length = M := ⟨_, rfl⟩
  rw [hM] at HC
  clear hr3
  go_enter Tryz.func4, Tryz.ntmps4
  go_upto_region 2 with (first | (go_at_call 14; refine (HT'.out _ (Below.refl _ _)).mono ?_; rintro e w1 ⟨rfl, hb1⟩))
  go_upto_region 3 with (first | (go_at_call 15; refine (HD'.out _ hb1).mono ?_; rintro e w2 ⟨rfl, hb2'⟩; have hb2 := hb1.trans (hb2'.mono hb1.size)))
  clear hb1 hb2'
  go_upto_region 4 with (first | (go_at_call 16; refine (HM'.out _ hb2).mono ?_; rintro e w3 ⟨a3, c3, rfl, hP3, hc3, hb3'⟩; have hb3 := hb2.trans (hb3'.mono hb2.size)))
  clear hb2 hb3' HT' HD' HM'
  go_wp2_with (first | (go_at_call 17; refine (HC.out _).mono ?_; rintro e w4 ⟨a4, c4, rfl, hO4⟩))
  go_ret2
  exact ⟨a4, c4, by rw [hM]; rfl, ownp_parg hO4 hcs.out, by rw [hM]; exact own2_le hO4.own, hb3.trans (hO4.bel.mono hb3.size)⟩
end Go.Proofs.YtmfhfehemoeeeaaGreatDoor
