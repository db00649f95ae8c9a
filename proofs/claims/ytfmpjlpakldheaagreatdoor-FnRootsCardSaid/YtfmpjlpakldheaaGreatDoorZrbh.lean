import Derived.Test.YtfmpjlpakldheaaGreatDoorZrbg
import Derived.Test.YtfmpjlpakldheaaGreatDoorZrbf
import Derived.Test.YtfmpjlpakldheaaGreatDoorZrah
import Derived.Test.YtfmpjlpakldheaaGreatDoorZrax
set_option maxRecDepth 100000
set_option maxHeartbeats 4000000
namespace Go.Proofs.YtfmpjlpakldheaaGreatDoor
open Go.RowKit Go.Proofs.Sha Tryz
def crD (i : Nat) : ByteArray := byteS (97 + i / 100) ++ byteS (48 + i / 10 % 10) ++ byteS (48 + i % 10)
def crowd (n : Nat) : List PairT := (List.range n).map fun i => (crD i, ⟨#[]⟩)
theorem crowd_succ (n : Nat) : crowd (n + 1) = crowd n ++ [(crD n, ⟨#[]⟩)] := by unfold crowd; rw [List.range_succ, List.map_append]; rfl
theorem crowd_len (n : Nat) : (crowd n).length = n := by unfold crowd; rw [List.length_map, List.length_range]
theorem crowd_any (n : Nat) (hn : n <= 1000) (w : World) : Calls prog 60 #[.int .i64 (n : Int)] w (PairsAt (crowd n) w) := by
 obtain ⟨i0, hi0, hz0, hz1, hz2⟩ := info_parts2 info37
 have hO := OwnP.nil w
 go_enter func60, ntmps60
 go_wp2_with fail
 go_loopw [3, 4] (fun t3 t4 wr => ∃ k : Nat, k <= n /\ t4 = .int .i64 (k : Int) /\ ∃ (a' : Option Addr) (m d' : Nat), t3 = .slice a' m d' /\ OwnP w (crowd k) a' m d' wr) (fun _ t4 _ => n - (intOf t4).toNat)
 case atStart => exact ⟨0, Nat.zero_le _, rfl, _, _, _, rfl, hO⟩
 case round =>
  obtain ⟨k, hk, rfl, a', m, d', rfl, hW⟩ := hrel
  by_cases hlt : k < n
  · have z1 : decide ((k : Int) < (n : Int)) = true := by simp; omega
    have hml : m <= 1000 := by have := hW.len; rw [crowd_len] at this; omega
    have hcr : Hid (crD k = byteS (97 + k / 100) ++ byteS (48 + k / 10 % 10) ++ byteS (48 + k % 10)) := rfl
    have H1 : Hid (∀ m w', m = ((97 + k / 100 : Nat) : Int) -> Calls prog 78 #[.int .i64 m] w' fun e w'' => e = .returned (.string (byteS (97 + k / 100))) /\ Below w'.heap.size w' w'') := fun m w' hm => byte_d m _ hm (by omega) w'
    have H2 : Hid (∀ m w', m = ((48 + k / 10 % 10 : Nat) : Int) -> Calls prog 78 #[.int .i64 m] w' fun e w'' => e = .returned (.string (byteS (48 + k / 10 % 10))) /\ Below w'.heap.size w' w'') := fun m w' hm => byte_d m _ hm (by omega) w'
    have H3 : Hid (∀ m w', m = ((48 + k % 10 : Nat) : Int) -> Calls prog 78 #[.int .i64 m] w' fun e w'' => e = .returned (.string (byteS (48 + k % 10))) /\ Below w'.heap.size w' w'') := fun m w' hm => byte_d m _ hm (by omega) w'
    obtain ⟨t1, ht1⟩ : ∃ t, byteS (97 + k / 100) = t := ⟨_, rfl⟩
    obtain ⟨t2, ht2⟩ : ∃ t, byteS (48 + k / 10 % 10) = t := ⟨_, rfl⟩
    obtain ⟨t3, ht3⟩ : ∃ t, byteS (48 + k % 10) = t := ⟨_, rfl⟩
    have hs1 : t1.size = 1 := by rw [<- ht1]; rfl
    have hs2 : t2.size = 1 := by rw [<- ht2]; rfl
    have hs3 : t3.size = 1 := by rw [<- ht3]; rfl
    rw [ht1] at H1 hcr
    rw [ht2] at H2 hcr
    rw [ht3] at H3 hcr
    have hy1 : ¬ (9223372036854775807 < t1.size + t2.size) := by omega
    have hy2 : ¬ (9223372036854775807 < t1.size + t2.size + t3.size) := by omega
    clear ht1 ht2 ht3 hs1 hs2 hs3
    have hbs := hW.bel.size
    go_upto_region 6 with (first | (go_at_call 78; refine (H1.out _ _ (by omega)).mono ?_; rintro e wa ⟨rfl, hba⟩; have hWa := hW.below hba) | (go_at_call 78; refine (H2.out _ _ (by omega)).mono ?_; rintro e wb ⟨rfl, hbb⟩; have hWb := hWa.below hbb) | (go_at_call 78; refine (H3.out _ _ (by omega)).mono ?_; rintro e wd ⟨rfl, hbd⟩; have hWd := hWb.below hbd))
    have own := hWd.own
    have hbs' : w.heap.size <= wd.heap.size := hWd.bel.size
    generalize t1 ++ t2 ++ t3 = key at hcr ⊢
    clear hW hWa hWb hba hbb hbd H1 H2 H3 hy1 hy2
    go_wp2_with (at_builtin; refine wpList_append_lies _ rfl (.tmp 27) (.tmp 30) 23 rfl w.heap.size 34 i0 (.agg #[.string ⟨#[]⟩, .string ⟨#[]⟩]) 2 32 Tryz.underlying23 hi0 hz0 hz1 hz2 rfl (by decide) (.slice a' m d') m (flatP (crowd k)) rfl (own.alloc _) ⟨wd.heap.size, 0, none⟩ 1 1 [.string key, .string ⟨#[]⟩] rfl rfl (World.news_of_block (heap_alloc_new wd _)) (by simp [Value.oneCell']) (by decide) (by unfold maxLen; omega) (by omega) (by simp; omega) (wd.heap.size + 1) (by simp) ?_; intro g5 c5 w5 hown5 hgrow5 hat5 hlt5)
    go_roundw
    case rel => exact ⟨k + 1, hlt, by go_num, _, _, _, rfl, by rw [crowd_succ, hcr.out]; exact hWd.more hown5 hgrow5 rfl⟩
    case measure => simp [intOf]; omega
  · obtain rfl : k = n := by omega
    have z1 : decide ((k : Int) < (k : Int)) = false := by simp
    have hl := hW.len
    rw [crowd_len] at hl
    subst hl
    go_wp2_with fail
    go_ret
    exact ⟨_, _, by rw [crowd_len]; rfl, by rw [crowd_len]; exact hW⟩
def RtGot (ps : List PairT) (n : Nat) (w : World) (e : Ending) (w' : World) : Prop := ∃ a1 c1, e = .returned (.tuple #[.slice a1 ps.length c1, .int .i64 (n : Int)]) /\ PArg a1 ps w' /\ ps.length <= c1 /\ Below w.heap.size w w'
theorem crowd_sm (n : Nat) : SmQ (crowd n) n := by
 refine ⟨Nat.le_of_eq (crowd_len n), fun q hq => ?_⟩
 unfold crowd at hq
 obtain ⟨i, _, rfl⟩ := List.mem_map.1 hq
 refine ⟨?_, Nat.zero_le _⟩
 show (crD i).size <= 300
 unfold crD
 rw [ByteArray.size_append, ByteArray.size_append]
 show 1 + 1 + 1 <= 300
 omega
theorem droot_a (a : Option Addr) (xs : List Nat) (cap x wd z : Nat) (ps : List PairT) (hz : z <= 100000)
 (HT : ∀ w, BL a xs w -> Calls prog 41 #[.slice a xs.length cap, .int .i64 0, .int .i64 24] w fun e w' => e = .returned (.tuple #[.int .i64 (x : Int), .int .i64 1]) /\ Below w.heap.size w w')
 (HD : ∀ w, BL a xs w -> Calls prog 42 #[.slice a xs.length cap, .int .i64 1] w fun e w' => e = .returned (.tuple #[.int .i64 (wd : Int), .int .i64 2]) /\ Below w.heap.size w w')
 (HM : ∀ w, BL a xs w -> Calls prog 43 #[.slice a xs.length cap, .int .i64 2] w (MGot ps z w)) (hx : x < 22) :
 ∀ w, BL a xs w -> Calls prog 15 #[.slice a xs.length cap] w (RtGot ps wd w) := by
 intro w hB
 have HT' : Hid (∀ w', Below w.heap.size w w' -> Calls prog 41 #[.slice a xs.length cap, .int .i64 0, .int .i64 24] w' fun e w'' => e = .returned (.tuple #[.int .i64 (x : Int), .int .i64 1]) /\ Below w'.heap.size w' w'') := fun w' hb => HT w' (hB.below hb)
 have HD' : Hid (∀ w', Below w.heap.size w w' -> Calls prog 42 #[.slice a xs.length cap, .int .i64 1] w' fun e w'' => e = .returned (.tuple #[.int .i64 (wd : Int), .int .i64 2]) /\ Below w'.heap.size w' w'') := fun w' hb => HD w' (hB.below hb)
 have HM' : Hid (∀ w', Below w.heap.size w w' -> Calls prog 43 #[.slice a xs.length cap, .int .i64 2] w' (MGot ps z w')) := fun w' hb => HM w' (hB.below hb)
 unfold MGot at HM'
 clear HT HD HM hB
 obtain ⟨L, hLL⟩ : ∃ L, xs.length = L := ⟨_, rfl⟩
 rw [hLL] at HT' HD' HM' ⊢
 clear hLL
 obtain ⟨N, hN⟩ : ∃ N, ps.length = N := ⟨_, rfl⟩
 rw [hN] at HM'
 have ym : (z : Int).tmod 2 = ((z % 2 : Nat) : Int) := by rw [Int.tmod_eq_emod_of_nonneg (by omega)]; omega
 have hm2 : z % 2 < 2 := Nat.mod_lt _ (by omega)
 obtain ⟨r, hr⟩ : ∃ r, z % 2 = r := ⟨_, rfl⟩
 rw [hr] at ym hm2
 clear hr
 have z22 : ((x : Int) == 22) = false := by simp; omega
 have z23 : ((x : Int) == 23) = false := by simp; omega
 clear hx
 go_enter func15, ntmps15
 go_upto_region 2 with (first | (go_at_call 41; refine (HT'.out _ (Below.refl _ _)).mono ?_; rintro e w1 ⟨rfl, hb1⟩))
 go_upto_region 3 with (first | (go_at_call 42; refine (HD'.out _ hb1).mono ?_; rintro e w2 ⟨rfl, hb2'⟩; have hb2 := hb1.trans (hb2'.mono hb1.size)))
 clear hb1 hb2'
 go_upto_region 4 with (first | (go_at_call 43; refine (HM'.out _ hb2).mono ?_; rintro e w3 ⟨a3, c3, rfl, hP3, hc3, hb3'⟩; have hb3 := hb2.trans (hb3'.mono hb2.size)))
 clear hb2 hb3' HT' HD' HM'
 go_wp2_with fail
 go_ret2
 exact ⟨a3, c3, by rw [hN]; rfl, hP3, by rw [hN]; exact hc3, hb3⟩
theorem droot_b (a : Option Addr) (xs : List Nat) (cap x wd z : Nat) (ps : List PairT) (hz : z <= 100000)
 (HT : ∀ w, BL a xs w -> Calls prog 41 #[.slice a xs.length cap, .int .i64 0, .int .i64 24] w fun e w' => e = .returned (.tuple #[.int .i64 (x : Int), .int .i64 1]) /\ Below w.heap.size w w')
 (HD : ∀ w, BL a xs w -> Calls prog 42 #[.slice a xs.length cap, .int .i64 1] w fun e w' => e = .returned (.tuple #[.int .i64 (wd : Int), .int .i64 2]) /\ Below w.heap.size w w')
 (HM : ∀ w, BL a xs w -> Calls prog 43 #[.slice a xs.length cap, .int .i64 2] w (MGot ps z w)) (hx : x = 23) :
 ∀ w, BL a xs w -> Calls prog 15 #[.slice a xs.length cap] w (RtGot ps (z % 2 * 33) w) := by
 intro w hB
 have HT' : Hid (∀ w', Below w.heap.size w w' -> Calls prog 41 #[.slice a xs.length cap, .int .i64 0, .int .i64 24] w' fun e w'' => e = .returned (.tuple #[.int .i64 (x : Int), .int .i64 1]) /\ Below w'.heap.size w' w'') := fun w' hb => HT w' (hB.below hb)
 have HD' : Hid (∀ w', Below w.heap.size w w' -> Calls prog 42 #[.slice a xs.length cap, .int .i64 1] w' fun e w'' => e = .returned (.tuple #[.int .i64 (wd : Int), .int .i64 2]) /\ Below w'.heap.size w' w'') := fun w' hb => HD w' (hB.below hb)
 have HM' : Hid (∀ w', Below w.heap.size w w' -> Calls prog 43 #[.slice a xs.length cap, .int .i64 2] w' (MGot ps z w')) := fun w' hb => HM w' (hB.below hb)
 unfold MGot at HM'
 clear HT HD HM hB
 obtain ⟨L, hLL⟩ : ∃ L, xs.length = L := ⟨_, rfl⟩
 rw [hLL] at HT' HD' HM' ⊢
 clear hLL
 obtain ⟨N, hN⟩ : ∃ N, ps.length = N := ⟨_, rfl⟩
 rw [hN] at HM'
 have ym : (z : Int).tmod 2 = ((z % 2 : Nat) : Int) := by rw [Int.tmod_eq_emod_of_nonneg (by omega)]; omega
 have hm2 : z % 2 < 2 := Nat.mod_lt _ (by omega)
 obtain ⟨r, hr⟩ : ∃ r, z % 2 = r := ⟨_, rfl⟩
 rw [hr] at ym hm2 ⊢
 clear hr
 have z22 : ((x : Int) == 22) = false := by simp; omega
 have z23 : ((x : Int) == 23) = true := by simp; omega
 clear hx
 have yw : IntKind.i64.wrap ((r : Int) * 33) = ((r * 33 : Nat) : Int) := by rw [wrap_i64_in _ (by omega) (by omega)]; omega
 obtain ⟨r3, hr3⟩ : ∃ q, r * 33 = q := ⟨_, rfl⟩
 rw [hr3] at yw ⊢
 clear hr3
 go_enter func15, ntmps15
 go_upto_region 2 with (first | (go_at_call 41; refine (HT'.out _ (Below.refl _ _)).mono ?_; rintro e w1 ⟨rfl, hb1⟩))
 go_upto_region 3 with (first | (go_at_call 42; refine (HD'.out _ hb1).mono ?_; rintro e w2 ⟨rfl, hb2'⟩; have hb2 := hb1.trans (hb2'.mono hb1.size)))
 clear hb1 hb2'
 go_upto_region 4 with (first | (go_at_call 43; refine (HM'.out _ hb2).mono ?_; rintro e w3 ⟨a3, c3, rfl, hP3, hc3, hb3'⟩; have hb3 := hb2.trans (hb3'.mono hb2.size)))
 clear hb2 hb3' HT' HD' HM'
 go_wp2_with fail
 go_ret2
 exact ⟨a3, c3, by rw [hN]; rfl, hP3, by rw [hN]; exact hc3, hb3⟩
theorem droot_c (a : Option Addr) (xs : List Nat) (cap x wd z : Nat) (ps : List PairT) (hz : z <= 100000)
 (HT : ∀ w, BL a xs w -> Calls prog 41 #[.slice a xs.length cap, .int .i64 0, .int .i64 24] w fun e w' => e = .returned (.tuple #[.int .i64 (x : Int), .int .i64 1]) /\ Below w.heap.size w w')
 (HD : ∀ w, BL a xs w -> Calls prog 42 #[.slice a xs.length cap, .int .i64 1] w fun e w' => e = .returned (.tuple #[.int .i64 (wd : Int), .int .i64 2]) /\ Below w.heap.size w w')
 (HM : ∀ w, BL a xs w -> Calls prog 43 #[.slice a xs.length cap, .int .i64 2] w (MGot ps z w)) (hx : x = 22) :
 ∀ w, BL a xs w -> Calls prog 15 #[.slice a xs.length cap] w (RtGot (crowd (500 + z % 2)) wd w) := by
 intro w hB
 have HT' : Hid (∀ w', Below w.heap.size w w' -> Calls prog 41 #[.slice a xs.length cap, .int .i64 0, .int .i64 24] w' fun e w'' => e = .returned (.tuple #[.int .i64 (x : Int), .int .i64 1]) /\ Below w'.heap.size w' w'') := fun w' hb => HT w' (hB.below hb)
 have HD' : Hid (∀ w', Below w.heap.size w w' -> Calls prog 42 #[.slice a xs.length cap, .int .i64 1] w' fun e w'' => e = .returned (.tuple #[.int .i64 (wd : Int), .int .i64 2]) /\ Below w'.heap.size w' w'') := fun w' hb => HD w' (hB.below hb)
 have HM' : Hid (∀ w', Below w.heap.size w w' -> Calls prog 43 #[.slice a xs.length cap, .int .i64 2] w' (MGot ps z w')) := fun w' hb => HM w' (hB.below hb)
 unfold MGot at HM'
 clear HT HD HM hB
 obtain ⟨L, hLL⟩ : ∃ L, xs.length = L := ⟨_, rfl⟩
 rw [hLL] at HT' HD' HM' ⊢
 clear hLL
 obtain ⟨N, hN⟩ : ∃ N, ps.length = N := ⟨_, rfl⟩
 rw [hN] at HM'
 have ym : (z : Int).tmod 2 = ((z % 2 : Nat) : Int) := by rw [Int.tmod_eq_emod_of_nonneg (by omega)]; omega
 have hm2 : z % 2 < 2 := Nat.mod_lt _ (by omega)
 obtain ⟨r, hr⟩ : ∃ r, z % 2 = r := ⟨_, rfl⟩
 rw [hr] at ym hm2 ⊢
 clear hr
 have z22 : ((x : Int) == 22) = true := by simp; omega
 have z23 : ((x : Int) == 23) = false := by simp; omega
 clear hx
 have yw : IntKind.i64.wrap (500 + (r : Int)) = ((500 + r : Nat) : Int) := by rw [wrap_i64_in _ (by omega) (by omega)]; omega
 obtain ⟨r3, hr3⟩ : ∃ q, 500 + r = q := ⟨_, rfl⟩
 rw [hr3] at yw ⊢
 have HC : Hid (∀ w', Calls prog 60 #[.int .i64 (r3 : Int)] w' (PairsAt (crowd r3) w')) := fun w' => crowd_any r3 (by omega) w'
 unfold PairsAt at HC
 have hcs : Hid (SmallP (crowd r3)) := (crowd_sm r3).small (by omega)
 obtain ⟨M, hM⟩ : ∃ M, (crowd r3).length = M := ⟨_, rfl⟩
 rw [hM] at HC
 clear hr3
 go_enter func15, ntmps15
 go_upto_region 2 with (first | (go_at_call 41; refine (HT'.out _ (Below.refl _ _)).mono ?_; rintro e w1 ⟨rfl, hb1⟩))
 go_upto_region 3 with (first | (go_at_call 42; refine (HD'.out _ hb1).mono ?_; rintro e w2 ⟨rfl, hb2'⟩; have hb2 := hb1.trans (hb2'.mono hb1.size)))
 clear hb1 hb2'
 go_upto_region 4 with (first | (go_at_call 43; refine (HM'.out _ hb2).mono ?_; rintro e w3 ⟨a3, c3, rfl, hP3, hc3, hb3'⟩; have hb3 := hb2.trans (hb3'.mono hb2.size)))
 clear hb2 hb3' HT' HD' HM'
 go_wp2_with (first | (go_at_call 60; refine (HC.out _).mono ?_; rintro e w4 ⟨a4, c4, rfl, hO4⟩))
 go_ret2
 exact ⟨a4, c4, by rw [hM]; rfl, ownp_parg hO4 hcs.out, by rw [hM]; exact own2_le hO4.own, hb3.trans (hO4.bel.mono hb3.size)⟩
def KZ1 (k : ByteArray) : Prop := k.data[0]? ≠ some 122
def KZ (ps : List PairT) : Prop := ∀ q ∈ ps, KZ1 q.1
theorem kz_abc : ∀ x, x < 20 -> KZ1 ((⟨#[97, 98, 99, 100, 101, 102, 103, 104, 105, 106, 107, 108, 109, 110, 111, 112, 113, 114, 115, 116]⟩ : ByteArray).extract x (x + 1)) := by
 unfold KZ1
 decide
theorem kz_reps (n : Nat) (c : UInt8) (hc : c ≠ 122) : KZ1 (reps (n + 1) c) := by
 unfold KZ1 reps
 rw [List.replicate_succ]
 show (c :: List.replicate n c).toArray[0]? ≠ _
 simpa using hc
theorem key_detz (a : Option Addr) (xs : List Nat) (cap : Nat) (p : Nat) (hX : Code8 xs) (hp : p <= 100000) :
 ∃ t : ByteArray, (t.size <= 70 /\ KZ1 t) /\ ∀ w, BL a xs w -> Calls prog 86 #[.slice a xs.length cap, .int .i64 (p : Int)] w fun e w' => e = .returned (.tuple #[.string t, .int .i64 ((p + 1 : Nat) : Int)]) /\ Below w.heap.size w w' := by
 obtain ⟨x, hx, HT⟩ := take_det a xs cap p 24 hX hp (by omega) (by omega)
 replace HT : Hid _ := HT
 by_cases h1 : x < 20
 · have z1 : decide ((x : Int) < 20) = true := by simp; omega
   have y1 : IntKind.i64.wrap ((x : Int) + 1) = (x : Int) + 1 := wrap_i64_in _ (by omega) (by omega)
   have y2 : (x : Int) <= (x : Int) + 1 := by omega
   have y3 : (x : Int) + 1 <= 20 := by omega
   refine ⟨(⟨#[97, 98, 99, 100, 101, 102, 103, 104, 105, 106, 107, 108, 109, 110, 111, 112, 113, 114, 115, 116]⟩ : ByteArray).extract x (x + 1), ⟨by rw [ByteArray.size_extract]; omega, kz_abc x h1⟩, fun w h => ?_⟩
   go_enter func86, ntmps86
   go_wp2_with fail
   refine (HT.out w h).mono ?_
   rintro e w1 ⟨rfl, hb⟩
   go_wp2_with fail
   go_ret2
   exact ⟨rfl, hb⟩
 have z1 : decide ((x : Int) < 20) = false := by simp; omega
 by_cases h2 : x = 20
 · subst h2
   refine ⟨⟨#[97, 98]⟩, ⟨by decide, by unfold KZ1; decide⟩, fun w h => ?_⟩
   go_enter func86, ntmps86
   go_wp2_with fail
   refine (HT.out w h).mono ?_
   rintro e w1 ⟨rfl, hb⟩
   go_wp2_with fail
   go_ret2
   exact ⟨rfl, hb⟩
 have z2 : ((x : Int) == 20) = false := by rw [beq_eq_false_iff_ne]; omega
 by_cases h3 : x = 21
 · subst h3
   refine ⟨⟨#[98, 0]⟩, ⟨by decide, by unfold KZ1; decide⟩, fun w h => ?_⟩
   go_enter func86, ntmps86
   go_wp2_with fail
   refine (HT.out w h).mono ?_
   rintro e w1 ⟨rfl, hb⟩
   go_wp2_with fail
   go_ret2
   exact ⟨rfl, hb⟩
 have z3 : ((x : Int) == 21) = false := by rw [beq_eq_false_iff_ne]; omega
 by_cases h4 : x = 22
 · subst h4
   refine ⟨⟨#[255, 0, 107]⟩, ⟨by decide, by unfold KZ1; decide⟩, fun w h => ?_⟩
   go_enter func86, ntmps86
   go_wp2_with fail
   refine (HT.out w h).mono ?_
   rintro e w1 ⟨rfl, hb⟩
   go_wp2_with fail
   go_ret2
   exact ⟨rfl, hb⟩
 have z4 : ((x : Int) == 22) = false := by rw [beq_eq_false_iff_ne]; omega
 refine ⟨reps 70 107, ⟨by rw [reps_size]; omega, kz_reps 69 107 (by decide)⟩, fun w h => ?_⟩
 go_enter func86, ntmps86
 go_wp2_with fail
 refine (HT.out w h).mono ?_
 rintro e w1 ⟨rfl, hb⟩
 go_wp2_with fail
 refine (long_d _ 70 70 rfl (by omega) _).mono ?_
 rintro e w2 ⟨rfl, hb2⟩
 go_wp2_with fail
 go_ret2
 exact ⟨rfl, hb.trans (hb2.mono hb.size)⟩
theorem kv_detz (a : Option Addr) (xs : List Nat) (cap : Nat) (hX : Code8 xs) : ∃ kf vf : Nat -> ByteArray, (∀ p : Nat, p <= 80000 -> (kf p).size <= 70 /\ (vf p).size <= 300 /\ (∀ w, BL a xs w -> Calls prog 86 #[.slice a xs.length cap, .int .i64 (p : Int)] w fun e w' => e = .returned (.tuple #[.string (kf p), .int .i64 ((p + 1 : Nat) : Int)]) /\ Below w.heap.size w w') /\ ∀ w, BL a xs w -> Calls prog 87 #[.slice a xs.length cap, .int .i64 (p : Int)] w fun e w' => e = .returned (.tuple #[.string (vf p), .int .i64 ((p + 2 : Nat) : Int)]) /\ Below w.heap.size w w') /\ ∀ p : Nat, p <= 80000 -> KZ1 (kf p) := by
 have h : ∀ p : Nat, ∃ kv : ByteArray × ByteArray, p <= 80000 -> (kv.1.size <= 70 /\ kv.2.size <= 300 /\ (∀ w, BL a xs w -> Calls prog 86 #[.slice a xs.length cap, .int .i64 (p : Int)] w fun e w' => e = .returned (.tuple #[.string kv.1, .int .i64 ((p + 1 : Nat) : Int)]) /\ Below w.heap.size w w') /\ ∀ w, BL a xs w -> Calls prog 87 #[.slice a xs.length cap, .int .i64 (p : Int)] w fun e w' => e = .returned (.tuple #[.string kv.2, .int .i64 ((p + 2 : Nat) : Int)]) /\ Below w.heap.size w w') /\ KZ1 kv.1 := fun p => by
  by_cases hp : p <= 80000
  · obtain ⟨k, hk, HK⟩ := key_detz a xs cap p hX (by omega)
    obtain ⟨v, hv, HV⟩ := val_det a xs cap p hX (by omega)
    exact ⟨(k, v), fun _ => ⟨⟨hk.1, hv, HK, HV⟩, hk.2⟩⟩
  · exact ⟨(⟨#[]⟩, ⟨#[]⟩), fun q => absurd q hp⟩
 obtain ⟨f, hf⟩ := Classical.axiomOfChoice h
 exact ⟨fun p => (f p).1, fun p => (f p).2, fun p hp => (hf p hp).1, fun p hp => (hf p hp).2⟩
theorem map1_detz (a : Option Addr) (xs : List Nat) (cap p n : Nat) (hX : Code8 xs) (hp : p <= 70000) (hn : n <= 100) :
 ∃ ps : List PairT, (SmP ps n /\ (0 < n -> 0 < ps.length) /\ KZ ps) /\ ∀ w, BL a xs w -> Calls prog 92 #[.slice a xs.length cap, .int .i64 (p : Int), .int .i64 (n : Int)] w fun e w' => ∃ a' c', e = .returned (.tuple #[.slice a' ps.length c', .int .i64 ((p + 3 * n : Nat) : Int)]) /\ OwnP w ps a' ps.length c' w' := by
 obtain ⟨kf, vf, hkv, hkz⟩ := kv_detz a xs cap hX
 have hkm : ∀ i, i <= n -> KZ (mapD kf vf p i) := by
  intro i
  induction i with
  | zero => intro _ q hq; cases hq
  | succ i ih =>
   intro hi q hq
   rcases wth_mem hq with e | e
   · rw [e]; exact hkz _ (by omega)
   · exact ih (by omega) q e
 have hsm : ∀ i, i <= n -> SmP (mapD kf vf p i) i := by
  intro i
  induction i with
  | zero => intro _; exact ⟨Nat.le_refl _, trivial, fun q hq => by cases hq⟩
  | succ i ih =>
   intro hi
   exact (ih (by omega)).wth (hkv _ (by omega)).1 (hkv _ (by omega)).2.1
 refine ⟨mapD kf vf p n, ⟨hsm n (Nat.le_refl _), fun h0 => ?_, hkm n (Nat.le_refl _)⟩, fun w hB => ?_⟩
 · obtain ⟨i, rfl⟩ : ∃ i, n = i + 1 := ⟨n - 1, by omega⟩
   have hm : kf (p + 3 * i) ∈ keys (mapD kf vf p (i + 1)) := mem_wth.2 (.inl rfl)
   have h1 := List.length_pos_of_mem hm
   unfold keys at h1
   rwa [List.length_map] at h1
 have HKV : Hid (∀ i w', i <= n -> Below w.heap.size w w' -> Calls prog 86 #[.slice a xs.length cap, .int .i64 ((p + 3 * i : Nat) : Int)] w' (fun e w'' => e = .returned (.tuple #[.string (kf (p + 3 * i)), .int .i64 ((p + 3 * i + 1 : Nat) : Int)]) /\ Below w'.heap.size w' w'') /\ Calls prog 87 #[.slice a xs.length cap, .int .i64 ((p + 3 * i + 1 : Nat) : Int)] w' (fun e w'' => e = .returned (.tuple #[.string (vf (p + 3 * i + 1)), .int .i64 ((p + 3 * i + 1 + 2 : Nat) : Int)]) /\ Below w'.heap.size w' w'')) := fun i w' hi hb => ⟨(hkv (p + 3 * i) (by omega)).2.2.1 w' (hB.below hb), (hkv (p + 3 * i + 1) (by omega)).2.2.2 w' (hB.below hb)⟩
 have HW : Hid (∀ i a3 c3 w', i < n -> PArg a3 (mapD kf vf p i) w' -> Calls prog 91 #[.slice a3 (mapD kf vf p i).length c3, .string (kf (p + 3 * i)), .string (vf (p + 3 * i + 1))] w' (PairsAt (mapD kf vf p (i + 1)) w')) := fun i a3 c3 w' hi hP => with_any a3 _ c3 _ _ w' hP (by have := (hkv (p + 3 * i) (by omega)).1; omega) (by have := (hsm i (by omega)).len; omega)
 have hO : OwnP w [] (some ⟨w.heap.size, 0, none⟩) 0 0 (w.alloc (.cells #[] 34)) := OwnP.nil w
 have HP : Hid (∀ i a3 m c3 W, i <= n -> OwnP w (mapD kf vf p i) a3 m c3 W -> PArg a3 (mapD kf vf p i) W) := fun i a3 m c3 W hi h => ownp_parg h ((hsm i hi).small (by omega))
 clear hB hkv hsm hkz hkm
 obtain ⟨L, hL⟩ : ∃ L, xs.length = L := ⟨_, rfl⟩
 rw [hL] at HKV ⊢
 clear hL
 go_enter func92, ntmps92
 go_wp2_with fail
 generalize w.alloc (.cells #[] 34) = W0 at hO ⊢
 obtain ⟨g0, hg0⟩ : ∃ g, w.heap.size = g := ⟨_, rfl⟩
 have hO' : OwnP w [] (some ⟨g0, 0, none⟩) 0 0 W0 := by rw [<- hg0]; exact hO
 try rw [hg0]
 clear hO hg0
 go_loopw [1, 8, 9] (fun t1 t8 t9 wr => ∃ (i : Nat) (a3 : Option Addr) (c3 : Nat), i <= n /\ t9 = .int .i64 (i : Int) /\ t1 = .int .i64 ((p + 3 * i : Nat) : Int) /\ t8 = .slice a3 (mapD kf vf p i).length c3 /\ OwnP w (mapD kf vf p i) a3 (mapD kf vf p i).length c3 wr) (fun _ _ t9 _ => n - (intOf t9).toNat)
 case atStart => exact ⟨0, some ⟨g0, 0, none⟩, 0, Nat.zero_le _, rfl, rfl, rfl, hO'⟩
 case round =>
  clear hO'
  obtain ⟨i, a3, c3, hi, rfl, rfl, rfl, hT⟩ := hrel
  by_cases hlt : i < n
  · have z1 : decide ((i : Int) < (n : Int)) = true := by simp; omega
    have hP := HP.out i a3 _ c3 wr hi hT
    have HW' : Hid (∀ w', PArg a3 (mapD kf vf p i) w' -> Calls prog 91 #[.slice a3 (mapD kf vf p i).length c3, .string (kf (p + 3 * i)), .string (vf (p + 3 * i + 1))] w' (PairsAt (mapD kf vf p (i + 1)) w')) := fun w' q => HW.out i a3 c3 w' hlt q
    unfold PairsAt at HW'
    have HKV' : Hid (∀ w', Below w.heap.size w w' -> Calls prog 86 #[.slice a L cap, .int .i64 ((p + 3 * i : Nat) : Int)] w' (fun e w'' => e = .returned (.tuple #[.string (kf (p + 3 * i)), .int .i64 ((p + 3 * i + 1 : Nat) : Int)]) /\ Below w'.heap.size w' w'') /\ Calls prog 87 #[.slice a L cap, .int .i64 ((p + 3 * i + 1 : Nat) : Int)] w' (fun e w'' => e = .returned (.tuple #[.string (vf (p + 3 * i + 1)), .int .i64 ((p + 3 * i + 1 + 2 : Nat) : Int)]) /\ Below w'.heap.size w' w'')) := fun w' hb => HKV.out i w' hi hb
    have hbw := hT.bel
    have hnx : Hid (p + 3 * i + 1 + 2 = p + 3 * (i + 1)) := by show _ = _; omega
    obtain ⟨X, hX'⟩ : ∃ X, mapD kf vf p i = X := ⟨_, rfl⟩
    obtain ⟨Y, hY⟩ : ∃ Y, mapD kf vf p (i + 1) = Y := ⟨_, rfl⟩
    have hYH : Hid (mapD kf vf p (i + 1) = Y) := hY
    rw [hX'] at HW' hP
    rw [hX']
    rw [hY] at HW'
    generalize kf (p + 3 * i) = ky at HKV' HW'
    generalize vf (p + 3 * i + 1) = vl at HKV' HW'
    obtain ⟨q0, hq0⟩ : ∃ q, p + 3 * i = q := ⟨_, rfl⟩
    rw [hq0] at HKV' hnx ⊢
    clear hT hX' hY hq0
    go_wp2_with (first | (go_at_call 86; refine (HKV'.out _ hbw).1.mono ?_; rintro e w1 ⟨rfl, hb1⟩; have hbw1 := hbw.trans (hb1.mono hbw.size)) | (go_at_call 87; refine (HKV'.out _ hbw1).2.mono ?_; rintro e w2 ⟨rfl, hb2⟩; have hbw2 := hbw1.trans (hb2.mono hbw1.size)) | (go_at_call 91; refine (HW'.out _ ((hP.below hb1).below hb2)).mono ?_; rintro e w3 ⟨a4, c4, rfl, hT4⟩; have hT4' := hT4.up hbw2))
    go_roundw
    case rel => exact ⟨i + 1, a4, c4, hlt, by go_num, by rw [<- hnx.out]; rfl, by rw [hYH.out], by rw [hYH.out]; exact hT4'⟩
    case measure => simp [intOf]; omega
  · obtain rfl : i = n := by omega
    have z1 : decide ((i : Int) < (i : Int)) = false := by simp
    go_wp2_with fail
    go_ret2
    exact ⟨a3, c3, rfl, hT⟩
theorem anymap_detz (a : Option Addr) (xs : List Nat) (cap p : Nat) (hX : Code8 xs) (hp : p <= 60000) :
 ∃ (ps : List PairT) (z : Nat), (SmQ ps 15 /\ z <= p + 43 /\ KZ ps) /\ ∀ w, BL a xs w -> Calls prog 43 #[.slice a xs.length cap, .int .i64 (p : Int)] w (MGot ps z w) := by
 obtain ⟨x, hx, HT⟩ := take_det a xs cap p 40 hX (by omega) (by omega) (by omega)
 have hL := hX.le
 obtain ⟨n, hn⟩ : ∃ n, (if 14 < 1 + xs.length / 8 then 14 else 1 + xs.length / 8) = n := ⟨_, rfl⟩
 have hn1 : 1 <= n /\ n <= 14 := by split at hn <;> omega
 have HC : ∀ w, Calls prog 93 #[.slice a xs.length cap, .int .i64 8, .int .i64 1, .int .i64 14] w fun e w' => e = .returned (.int .i64 (n : Int)) /\ w' = w := fun w => by
  rw [<- hn]
  exact count_any a xs.length cap 8 1 14 w (by omega) hL (by omega) (by omega)
 obtain ⟨ps, ⟨hS, hpos, hkz⟩, HM⟩ := map1_detz a xs cap (p + 1) n hX (by omega) (by omega)
 have hp0 := hpos (by omega)
 have hlen := hS.len
 have hq := hS.q
 have hq15 : SmQ ps 15 := ⟨by omega, hq.sz⟩
 have hget : ∀ j, (ps.getD j noPair).1.size <= 300 /\ (ps.getD j noPair).2.size <= 2001 := fun j => by
  by_cases hj : j < ps.length
  · rw [List.getD_eq_getElem?_getD, List.getElem?_eq_getElem hj]
    exact hq.sz _ (List.getElem_mem hj)
  · rw [List.getD_eq_getElem?_getD, List.getElem?_eq_none (by omega)]
    exact ⟨Nat.zero_le _, Nat.zero_le _⟩
 have hgz : ∀ j, KZ1 (ps.getD j noPair).1 := fun j => by
  by_cases hj : j < ps.length
  · rw [List.getD_eq_getElem?_getD, List.getElem?_eq_getElem hj]
    exact hkz _ (List.getElem_mem hj)
  · rw [List.getD_eq_getElem?_getD, List.getElem?_eq_none (by omega)]
    show KZ1 ⟨#[]⟩
    unfold KZ1
    decide
 have hm2 : (p + 1 + 3 * n) % 2 < 2 := Nat.mod_lt _ (by omega)
 by_cases h1 : x < 35
 · exact ⟨ps, _, ⟨hq15, by omega, hkz⟩, amap_a a xs cap p x n _ ps hS hn1.2 (by omega) HT HC HM h1⟩
 by_cases h2 : x = 35
 · by_cases hl : ps.length <= 1
   · exact ⟨ps, _, ⟨hq15, by omega, hkz⟩, amap_b a xs cap p x n _ ps hS hn1.2 (by omega) HT HC HM h2 hl⟩
   · refine ⟨_, _, ⟨⟨by rw [List.length_set, List.length_set]; omega, fun q hq' => ?_⟩, by omega, fun q hq' => ?_⟩, amap_e a xs cap p x n _ ps hS hn1.2 (by omega) HT HC HM h2 (by omega)⟩
     rcases List.mem_or_eq_of_mem_set hq' with h | h
     · rcases List.mem_or_eq_of_mem_set h with h | h
       · exact hq.sz q h
       · rw [h]; exact hget 1
     · rw [h]; exact hget 0
     rcases List.mem_or_eq_of_mem_set hq' with h | h
     · rcases List.mem_or_eq_of_mem_set h with h | h
       · exact hkz q h
       · rw [h]; exact hgz 1
     · rw [h]; exact hgz 0
 by_cases h3 : x = 36
 · refine ⟨_, _, ⟨⟨by rw [List.length_append]; show _ + 1 <= 15; omega, fun q hq' => ?_⟩, by omega, fun q hq' => ?_⟩, amap_d a xs cap p x n _ ps hS hn1.2 (by omega) HT HC HM h3 hp0⟩
   rcases List.mem_append.1 hq' with h | h
   · exact hq.sz q h
   · rw [List.mem_singleton.1 h]; exact hget _
   rcases List.mem_append.1 hq' with h | h
   · exact hkz q h
   · rw [List.mem_singleton.1 h]; exact hgz _
 by_cases h4 : x = 37
 · refine ⟨_, _, ⟨⟨by rw [List.length_cons]; omega, fun q hq' => ?_⟩, by omega, fun q hq' => ?_⟩, amap_f a xs cap p x n _ ps hS hn1.2 (by omega) HT HC HM h4 hp0⟩
   rcases List.mem_cons.1 hq' with h | h
   · rw [h]; exact ⟨Nat.zero_le _, Nat.zero_le _⟩
   · exact hq.sz q h
   rcases List.mem_cons.1 hq' with h | h
   · rw [h]; show KZ1 ⟨#[]⟩; unfold KZ1; decide
   · exact hkz q h
 by_cases h5 : x = 38
 · refine ⟨_, _, ⟨⟨by simp, fun q hq' => ?_⟩, by omega, fun q hq' => ?_⟩, amap_g a xs cap p x n _ ps hS hn1.2 (by omega) HT HC HM h5⟩
   · rw [List.mem_singleton.1 hq', reps_size, reps_size]
     omega
   · rw [List.mem_singleton.1 hq']
     show KZ1 (reps _ 107)
     rw [show 256 + (p + 1 + 3 * n) % 2 = 255 + (p + 1 + 3 * n) % 2 + 1 by omega]
     exact kz_reps _ 107 (by decide)
 · refine ⟨_, _, ⟨⟨by simp, fun q hq' => ?_⟩, by omega, fun q hq' => ?_⟩, amap_h a xs cap p x n _ ps hS hn1.2 (by omega) HT HC HM (by omega)⟩
   · rw [List.mem_singleton.1 hq', reps_size]
     exact ⟨by show (⟨#[107]⟩ : ByteArray).size <= 300; decide, by omega⟩
   · rw [List.mem_singleton.1 hq']
     show KZ1 ⟨#[107]⟩
     unfold KZ1
     decide
theorem droot_detz (a : Option Addr) (xs : List Nat) (cap : Nat) (hX : Code8 xs) :
 ∃ (ps : List PairT) (n : Nat), (SmQ ps 501 /\ n <= 33 /\ (ps.length <= 40 -> KZ ps)) /\ ∀ w, BL a xs w -> Calls prog 15 #[.slice a xs.length cap] w (RtGot ps n w) := by
 obtain ⟨x, hx, HT⟩ := take_det a xs cap 0 24 hX (by omega) (by omega) (by omega)
 obtain ⟨wd, hwd, HD⟩ := width_det a xs cap 1 hX (by omega)
 obtain ⟨ps, z, ⟨hS, hz, hkz⟩, HM⟩ := anymap_detz a xs cap 2 hX (by omega)
 have hm2 : z % 2 < 2 := Nat.mod_lt _ (by omega)
 have hS' : SmQ ps 501 := ⟨Nat.le_trans hS.len (by omega), hS.sz⟩
 by_cases h1 : x < 22
 · exact ⟨ps, wd, ⟨hS', by omega, fun _ => hkz⟩, droot_a a xs cap x wd z ps (by omega) HT HD HM h1⟩
 by_cases h2 : x = 23
 · exact ⟨ps, _, ⟨hS', by omega, fun _ => hkz⟩, droot_b a xs cap x wd z ps (by omega) HT HD HM h2⟩
 · have hc := crowd_sm (500 + z % 2)
   exact ⟨_, wd, ⟨⟨Nat.le_trans hc.len (by omega), hc.sz⟩, by omega, fun h => by rw [crowd_len] at h; omega⟩, droot_c a xs cap x wd z ps (by omega) HT HD HM (by omega)⟩
theorem less_nil (k : ByteArray) : lessB k ⟨#[]⟩ = false := by
 unfold lessB
 rw [ByteArray.toList_eq, ByteArray.toList_eq]
 cases k.data.toList <;> rfl
theorem nil_less {k : ByteArray} (h : emp k = false) : lessB ⟨#[]⟩ k = true := by
 unfold emp at h
 have h1 : ¬ k.size = 0 := of_decide_eq_false h
 unfold lessB
 rw [ByteArray.toList_eq, ByteArray.toList_eq]
 have h2 : ¬ k.data.toList.length = 0 := h1
 cases hk : k.data.toList with
 | nil => rw [hk] at h2; exact absurd rfl h2
 | cons x xs => simp [Op.bytesLess]
theorem canW_all (over under : ByteArray) : canW over under ⟨#[]⟩ ⟨#[]⟩ = true := by
 unfold canW
 have e0 : emp ⟨#[]⟩ = true := rfl
 rw [e0, Bool.true_or, Bool.true_and]
 cases h : emp under with
 | true => rfl
 | false => rw [nil_less h]; rfl
theorem hasW_all (k : ByteArray) : hasW ⟨#[]⟩ ⟨#[]⟩ k = true := by
 unfold hasW
 rw [less_nil]
 rfl
theorem sv_sub (wd : Nat) (ss : List ByteArray) : ∀ (es ad0 ad : List ByteArray), es.foldl (svStep wd ss) (.go ad0) = .go ad -> (∀ x ∈ ad, x ∈ ad0 \/ x ∈ es) /\ ad.length <= ad0.length + es.length
 | [], ad0, ad, h => by
  have : ad0 = ad := by injection h
  subst this
  exact ⟨fun x hx => .inl hx, Nat.le_refl _⟩
 | e :: es, ad0, ad, h => by
  rw [List.foldl_cons] at h
  cases hf : fst2 wd ss ad0 (hashT wd e) with
  | some u =>
   rw [svStep_some hf] at h
   split at h
   · obtain ⟨a1, a2⟩ := sv_sub wd ss es ad0 ad h
     exact ⟨fun x hx => (a1 x hx).imp id (List.mem_cons_of_mem _), by rw [List.length_cons]; omega⟩
   · rw [sv_stuck wd ss es _ rfl] at h; cases h
  | none =>
   rw [svStep_none hf] at h
   split at h
   · rw [sv_stuck wd ss es _ rfl] at h; cases h
   · obtain ⟨a1, a2⟩ := sv_sub wd ss es _ ad h
     refine ⟨fun x hx => ?_, by rw [List.length_append] at a2; rw [List.length_cons]; simp at a2; omega⟩
     rcases a1 x hx with q | q
     · rcases List.mem_append.1 q with q | q
       · exact .inl q
       · exact .inr (by rw [List.mem_singleton.1 q]; exact List.mem_cons_self ..)
     · exact .inr (List.mem_cons_of_mem _ q)
structure SmT (xs : List ByteArray) (n s : Nat) : Prop where
 len : xs.length <= n
 sz : ∀ x ∈ xs, x.size <= s
theorem SmT.getD {xs : List ByteArray} {n s : Nat} (h : SmT xs n s) (j : Nat) : (xs.getD j ⟨#[]⟩).size <= s := by
 rw [List.getD_eq_getElem?_getD]
 cases hx : xs[j]? with
 | none => exact Nat.zero_le _
 | some y => exact h.sz y (List.mem_of_getElem? hx)
theorem SmT.app {xs ys : List ByteArray} {n m s : Nat} (h : SmT xs n s) (k : SmT ys m s) : SmT (xs ++ ys) (n + m) s :=
 ⟨by rw [List.length_append]; have := h.len; have := k.len; omega, fun x hx => (List.mem_append.1 hx).elim (h.sz x) (k.sz x)⟩
theorem SArg.grown {a : Option Addr} {ss : List ByteArray} {w w' : World} {row : Option Nat} (h : SArg a ss w) (hg : w.grownBy w' row) (hn : ∀ b off, a = some ⟨b, off, none⟩ -> 0 < ss.length -> some b ≠ row) : SArg a ss w' := by
 refine ⟨h.le, h.sz, fun hp => ?_⟩
 obtain ⟨b, off, e, hb, hc⟩ := h.at_ hp
 exact ⟨b, off, e, Nat.lt_of_lt_of_le hb hg.size, fun j hj => (hg.cell_far ⟨b, off + j, none⟩ hb (hn b off e hp)).trans (hc j hj)⟩
theorem pool_cell {W : World} {g o : Nat} {n : Int} {v : Option Addr} {m c : Nat} {s : ByteArray} (h : W.heap[g]? = some (.cells #[.int .i64 n, .slice v m c] 37)) (k : W.cell? ⟨g, o, none⟩ = some (.string s)) : False := by
 have := (ZC h o).symm.trans k
 match o with
 | 0 => simp at this
 | 1 => simp at this
 | o + 2 => simp at this
theorem SArg.pool {a : Option Addr} {ss : List ByteArray} {W : World} {g : Nat} {n : Int} {v : Option Addr} {m c : Nat} (hS : SArg a ss W) (h : W.heap[g]? = some (.cells #[.int .i64 n, .slice v m c] 37)) (b off : Nat) (e : a = some ⟨b, off, none⟩) (hp : 0 < ss.length) : b ≠ g := fun q => by
 obtain ⟨b', off', e', _, hc⟩ := hS.at_ hp
 rw [e] at e'
 simp only [Option.some.injEq, Addr.mk.injEq, and_true] at e'
 obtain ⟨rfl, rfl⟩ := e'
 subst q
 exact pool_cell h (hc 0 hp)
theorem PArg.pool {a : Option Addr} {ps : List PairT} {W : World} {g : Nat} {n : Int} {v : Option Addr} {m c : Nat} (hS : PArg a ps W) (h : W.heap[g]? = some (.cells #[.int .i64 n, .slice v m c] 37)) (b off : Nat) (e : a = some ⟨b, off, none⟩) (hp : 0 < ps.length) : b ≠ g := fun q => by
 obtain ⟨b', off', e', _, hc⟩ := hS.at_ hp
 rw [e] at e'
 simp only [Option.some.injEq, Addr.mk.injEq, and_true] at e'
 obtain ⟨rfl, rfl⟩ := e'
 subst q
 exact pool_cell h (hc 0 hp).1
section
variable {w : World} {gq wd : Nat} {ss roots : List ByteArray} {ps : List PairT} {ap : Option Addr} {cp : Nat} {ar : Option Addr} {cr : Nat} {a4 : Option Addr} {c4 : Nat} {W W' : World}
end
end Go.Proofs.YtfmpjlpakldheaaGreatDoor
