import Derived.Test.YtfmpjlpakldheaaGreatDoorZsak
set_option maxRecDepth 100000
set_option maxHeartbeats 1000000
namespace Go.Proofs.YtfmpjlpakldheaaGreatDoor
open Tryz
open Go.RowKit Go.Proofs.Sha
structure SmQ (ps : List PairT) (n : Nat) : Prop where
 len : ps.length <= n
 sz : ∀ q ∈ ps, q.1.size <= 300 /\ q.2.size <= 2001
theorem SmQ.small {ps : List PairT} {n : Nat} (h : SmQ ps n) (hn : n <= 100000) : SmallP ps := smallP_of (by have := h.len; omega) (fun q hq => by have := h.sz q hq; omega)
theorem SmQ.wth {ps : List PairT} {n : Nat} (h : SmQ ps n) {k v : ByteArray} (hk : k.size <= 70) (hv : v.size <= 300) : SmQ (wth ps k v) (n + 1) :=
 ⟨by have := wth_len ps k v; have := h.len; omega, fun q hq => by
  rcases mem_ins' hq with e | e
  · subst e; exact ⟨Nat.le_trans hk (by omega), Nat.le_trans hv (by omega)⟩
  · exact h.sz q (List.mem_filter.1 e).1⟩
theorem SmQ.wout {ps : List PairT} {n : Nat} (h : SmQ ps n) (k : ByteArray) : SmQ (wout ps k) n :=
 ⟨Nat.le_trans (wout_le ps k) h.len, fun q hq => h.sz q (List.mem_filter.1 hq).1⟩
theorem SmP.q {ps : List PairT} {n : Nat} (h : SmP ps n) : SmQ ps n := ⟨h.len, fun q hq => by have := h.sz q hq; omega⟩
theorem near2_det (a : Option Addr) (xs : List Nat) (cap p : Nat) (ps : List PairT) (M : Nat) (hX : Code8 xs) (hp : p <= 70000) (hM : M <= 1000) (hS : SmQ ps M) :
 ∃ (qs : List PairT) (z : Nat), (SmQ qs (M + 3) /\ p <= z /\ z <= p + 13) /\ ∀ a3 c3 w, BL a xs w -> PArg a3 ps w -> ps.length <= c3 -> Calls prog 44 #[.slice a xs.length cap, .int .i64 (p : Int), .slice a3 ps.length c3] w (PGot qs ps z a3 w) := by
 obtain ⟨kf, vf, hkv⟩ := kv_det a xs cap hX
 obtain ⟨af, haf⟩ := take3_det a xs cap 3 hX (by omega) (by omega)
 obtain ⟨n, hn, Hn⟩ := take_det a xs cap p 4 hX (by omega) (by omega) (by omega)
 have hsm : ∀ i, i <= n -> SmQ (nearD af kf vf p ps i) (M + i) := by
  intro i
  induction i with
  | zero => intro _; exact hS
  | succ i ih =>
   intro hi
   rw [nearD]
   split
   · have := (ih (by omega)).wout (kf (p + 2 + 4 * i))
     exact ⟨by have := this.len; omega, this.sz⟩
   · exact (ih (by omega)).wth (hkv _ (by omega)).1 (hkv _ (by omega)).2.1
 have hq := hsm n (Nat.le_refl _)
 refine ⟨nearD af kf vf p ps n, p + 1 + 4 * n, ⟨⟨by have := hq.len; omega, hq.sz⟩, by omega, by omega⟩, fun a3 c3 w hB hP hc3 => ?_⟩
 have HTk : Hid (∀ i w', i <= n -> Below w.heap.size w w' -> Calls prog 41 #[.slice a xs.length cap, .int .i64 ((p + 1 + 4 * i : Nat) : Int), .int .i64 ((3 : Nat) : Int)] w' fun e w'' => e = .returned (.tuple #[.int .i64 (af (p + 1 + 4 * i) : Int), .int .i64 ((p + 1 + 4 * i + 1 : Nat) : Int)]) /\ Below w'.heap.size w' w'') := fun i w' hi hb => (haf (p + 1 + 4 * i) (by omega)).2 w' (hB.below hb)
 have Hn' := Hn w hB
 have HK : Hid (∀ i w', i <= n -> Below w.heap.size w w' -> Calls prog 86 #[.slice a xs.length cap, .int .i64 ((p + 1 + 4 * i + 1 : Nat) : Int)] w' fun e w'' => e = .returned (.tuple #[.string (kf (p + 2 + 4 * i)), .int .i64 ((p + 3 + 4 * i : Nat) : Int)]) /\ Below w'.heap.size w' w'') := fun i w' hi hb => by
  have := (hkv (p + 2 + 4 * i) (by omega)).2.2.1 w' (hB.below hb)
  rw [show p + 2 + 4 * i + 1 = p + 3 + 4 * i by omega, show p + 2 + 4 * i = p + 1 + 4 * i + 1 by omega] at this
  rw [show p + 2 + 4 * i = p + 1 + 4 * i + 1 by omega]
  exact this
 have HV : Hid (∀ i w', i <= n -> Below w.heap.size w w' -> Calls prog 87 #[.slice a xs.length cap, .int .i64 ((p + 3 + 4 * i : Nat) : Int)] w' fun e w'' => e = .returned (.tuple #[.string (vf (p + 3 + 4 * i)), .int .i64 ((p + 1 + 4 * (i + 1) : Nat) : Int)]) /\ Below w'.heap.size w' w'') := fun i w' hi hb => by
  have := (hkv (p + 3 + 4 * i) (by omega)).2.2.2 w' (hB.below hb)
  rw [show p + 3 + 4 * i + 2 = p + 1 + 4 * (i + 1) by omega] at this
  exact this
 have HW : Hid (∀ i a3 c3 w', i < n -> PArg a3 (nearD af kf vf p ps i) w' -> (af (p + 1 + 4 * i) = 0 -> Calls prog 94 #[.slice a3 (nearD af kf vf p ps i).length c3, .string (kf (p + 2 + 4 * i))] w' (PairsAt (nearD af kf vf p ps (i + 1)) w')) /\ (af (p + 1 + 4 * i) ≠ 0 -> Calls prog 91 #[.slice a3 (nearD af kf vf p ps i).length c3, .string (kf (p + 2 + 4 * i)), .string (vf (p + 3 + 4 * i))] w' (PairsAt (nearD af kf vf p ps (i + 1)) w'))) := fun i a3 c3 w' hi hP => by
  refine ⟨fun h0 => ?_, fun h0 => ?_⟩
  · rw [nearD, if_pos h0]
    exact without_any a3 _ c3 _ w' hP
  · rw [nearD, if_neg h0]
    exact with_any a3 _ c3 _ _ w' hP (by have := (hkv (p + 2 + 4 * i) (by omega)).1; omega) (by have := (hsm i (by omega)).len; omega)
 have HPa : Hid (∀ i w' a4 c4 W, i <= n -> OwnP w' (nearD af kf vf p ps i) a4 (nearD af kf vf p ps i).length c4 W -> PArg a4 (nearD af kf vf p ps i) W /\ (nearD af kf vf p ps i).length <= c4) := fun i w' a4 c4 W hi h => ⟨ownp_parg h ((hsm i hi).small (by omega)), own2_le h.own⟩
 clear Hn hkv haf hsm hq hB
 obtain ⟨L, hL⟩ : ∃ L, xs.length = L := ⟨_, rfl⟩
 rw [hL] at Hn' HTk HK HV ⊢
 clear hL
 go_enter func44, ntmps44
 go_wp2_with (first | (go_at_call 41; refine Hn'.mono ?_; rintro e w1 ⟨rfl, hb1⟩))
 have hP1 := hP.below hb1
 have hM0 : ∀ b off, a3 = some ⟨b, off, none⟩ -> w.heap.size <= b \/ (a3 = a3 /\ nearD af kf vf p ps 0 = ps) := fun _ _ _ => .inr ⟨rfl, rfl⟩
 go_loopw [1, 2, 9] (fun t1 t2 t10 wr => ∃ (i : Nat) (a4 : Option Addr) (c4 : Nat), i <= n /\ t10 = .int .i64 (i : Int) /\ t1 = .int .i64 ((p + 1 + 4 * i : Nat) : Int) /\ t2 = .slice a4 (nearD af kf vf p ps i).length c4 /\ PArg a4 (nearD af kf vf p ps i) wr /\ (nearD af kf vf p ps i).length <= c4 /\ (∀ b off, a4 = some ⟨b, off, none⟩ -> w.heap.size <= b \/ (a4 = a3 /\ nearD af kf vf p ps i = ps)) /\ Below w.heap.size w wr) (fun _ _ t10 _ => n - (intOf t10).toNat)
 case atStart => exact ⟨0, a3, c3, Nat.zero_le _, rfl, rfl, rfl, hP1, hc3, hM0, hb1⟩
 case round =>
  clear hP1 hM0 hP hc3
  obtain ⟨i, a4, c4, hi, rfl, rfl, rfl, hPi, hci, hge, hbw⟩ := hrel
  by_cases hlt : i < n
  · have z1 : decide ((i : Int) < (n : Int)) = true := by simp; omega
    have HT' : Hid (∀ w', Below w.heap.size w w' -> Calls prog 41 #[.slice a L cap, .int .i64 ((p + 1 + 4 * i : Nat) : Int), .int .i64 3] w' fun e w'' => e = .returned (.tuple #[.int .i64 (af (p + 1 + 4 * i) : Int), .int .i64 ((p + 1 + 4 * i + 1 : Nat) : Int)]) /\ Below w'.heap.size w' w'') := fun w' hb => HTk.out i w' hi hb
    have HK' : Hid (∀ w', Below w.heap.size w w' -> Calls prog 86 #[.slice a L cap, .int .i64 ((p + 1 + 4 * i + 1 : Nat) : Int)] w' fun e w'' => e = .returned (.tuple #[.string (kf (p + 2 + 4 * i)), .int .i64 ((p + 3 + 4 * i : Nat) : Int)]) /\ Below w'.heap.size w' w'') := fun w' hb => HK.out i w' hi hb
    have HV' : Hid (∀ w', Below w.heap.size w w' -> Calls prog 87 #[.slice a L cap, .int .i64 ((p + 3 + 4 * i : Nat) : Int)] w' fun e w'' => e = .returned (.tuple #[.string (vf (p + 3 + 4 * i)), .int .i64 ((p + 1 + 4 * (i + 1) : Nat) : Int)]) /\ Below w'.heap.size w' w'') := fun w' hb => HV.out i w' hi hb
    have HW' : Hid (∀ w', PArg a4 (nearD af kf vf p ps i) w' -> (af (p + 1 + 4 * i) = 0 -> Calls prog 94 #[.slice a4 (nearD af kf vf p ps i).length c4, .string (kf (p + 2 + 4 * i))] w' (PairsAt (nearD af kf vf p ps (i + 1)) w')) /\ (af (p + 1 + 4 * i) ≠ 0 -> Calls prog 91 #[.slice a4 (nearD af kf vf p ps i).length c4, .string (kf (p + 2 + 4 * i)), .string (vf (p + 3 + 4 * i))] w' (PairsAt (nearD af kf vf p ps (i + 1)) w'))) := fun w' q => HW.out i a4 c4 w' hlt q
    have HF : Hid (∀ w' a5 c5 W, Below w.heap.size w w' -> OwnP w' (nearD af kf vf p ps (i + 1)) a5 (nearD af kf vf p ps (i + 1)).length c5 W -> ∃ (j : Nat) (b4 : Option Addr) (d4 : Nat), j <= n /\ Value.int .i64 ((i + 1 : Nat) : Int) = .int .i64 (j : Int) /\ Value.int .i64 ((p + 1 + 4 * (i + 1) : Nat) : Int) = .int .i64 ((p + 1 + 4 * j : Nat) : Int) /\ Value.slice a5 (nearD af kf vf p ps (i + 1)).length c5 = .slice b4 (nearD af kf vf p ps j).length d4 /\ PArg b4 (nearD af kf vf p ps j) W /\ (nearD af kf vf p ps j).length <= d4 /\ (∀ b off, b4 = some ⟨b, off, none⟩ -> w.heap.size <= b \/ (b4 = a3 /\ nearD af kf vf p ps j = ps)) /\ Below w.heap.size w W) := fun w' a5 c5 W hb ho => ⟨i + 1, a5, c5, hlt, rfl, rfl, rfl, (HPa.out (i + 1) w' a5 c5 W hlt ho).1, (HPa.out (i + 1) w' a5 c5 W hlt ho).2, fun b off e => .inl (Nat.le_trans hb.size (ho.ge b off e)), hb.trans (ho.bel.mono hb.size)⟩
    unfold PairsAt at HW'
    generalize nearD af kf vf p ps i = X at HW' hPi ⊢
    obtain ⟨Y, hY⟩ : ∃ Y, nearD af kf vf p ps (i + 1) = Y := ⟨_, rfl⟩
    rw [hY] at HW'
    generalize kf (p + 2 + 4 * i) = ky at HK' HW'
    generalize vf (p + 3 + 4 * i) = vl at HV' HW'
    generalize p + 1 + 4 * i = q1 at HT' HK' HW' ⊢
    generalize p + 3 + 4 * i = q3 at HK' HV'
    obtain ⟨q4, hq4⟩ : ∃ q4, p + 1 + 4 * (i + 1) = q4 := ⟨_, rfl⟩
    rw [hq4, hY] at HF
    rw [hq4] at HV'
    clear hq4 hY hci HTk HK HV HW HPa hge
    by_cases h0 : af q1 = 0
    · rw [h0] at HT'
      have HW2 : Hid (∀ w', PArg a4 X w' -> Calls prog 94 #[.slice a4 X.length c4, .string ky] w' fun e w'' => ∃ a5 c5, e = .returned (.slice a5 Y.length c5) /\ OwnP w' Y a5 Y.length c5 w'') := fun w' q => (HW'.out w' q).1 h0
      clear HW' h0
      go_wp2_with (first | (go_at_call 41; refine (HT'.out _ hbw).mono ?_; rintro e w2 ⟨rfl, hb2⟩; have hbw2 := hbw.trans (hb2.mono hbw.size); have hP2 := hPi.below hb2) | (go_at_call 86; refine (HK'.out _ hbw2).mono ?_; rintro e w3 ⟨rfl, hb3⟩; have hbw3 := hbw2.trans (hb3.mono hbw2.size); have hP3 := hP2.below hb3) | (go_at_call 87; refine (HV'.out _ hbw3).mono ?_; rintro e w4 ⟨rfl, hb4⟩; have hbw4 := hbw3.trans (hb4.mono hbw3.size); have hP4 := hP3.below hb4) | (go_at_call 94; refine (HW2.out _ hP4).mono ?_; rintro e w5 ⟨a5, c5, rfl, hT5⟩))
      have hfin := HF.out _ _ _ _ hbw4 hT5
      go_roundw
      case rel =>
       obtain ⟨j, b4, d4, r1, r2, r3, r4, r5⟩ := hfin
       exact ⟨j, b4, d4, r1, by rw [<- r2]; go_num, r3, r4, r5⟩
      case measure => simp [intOf]; omega
    · have HW2 : Hid (∀ w', PArg a4 X w' -> Calls prog 91 #[.slice a4 X.length c4, .string ky, .string vl] w' fun e w'' => ∃ a5 c5, e = .returned (.slice a5 Y.length c5) /\ OwnP w' Y a5 Y.length c5 w'') := fun w' q => (HW'.out w' q).2 h0
      have z2 : ((af q1 : Int) == 0) = false := by simp; omega
      generalize af q1 = av at HT' z2
      clear HW' h0
      go_wp2_with (first | (go_at_call 41; refine (HT'.out _ hbw).mono ?_; rintro e w2 ⟨rfl, hb2⟩; have hbw2 := hbw.trans (hb2.mono hbw.size); have hP2 := hPi.below hb2) | (go_at_call 86; refine (HK'.out _ hbw2).mono ?_; rintro e w3 ⟨rfl, hb3⟩; have hbw3 := hbw2.trans (hb3.mono hbw2.size); have hP3 := hP2.below hb3) | (go_at_call 87; refine (HV'.out _ hbw3).mono ?_; rintro e w4 ⟨rfl, hb4⟩; have hbw4 := hbw3.trans (hb4.mono hbw3.size); have hP4 := hP3.below hb4) | (go_at_call 91; refine (HW2.out _ hP4).mono ?_; rintro e w5 ⟨a5, c5, rfl, hT5⟩))
      have hfin := HF.out _ _ _ _ hbw4 hT5
      go_roundw
      case rel =>
       obtain ⟨j, b4, d4, r1, r2, r3, r4, r5⟩ := hfin
       exact ⟨j, b4, d4, r1, by rw [<- r2]; go_num, r3, r4, r5⟩
      case measure => simp [intOf]; omega
  · obtain rfl : i = n := by omega
    have z1 : decide ((i : Int) < (i : Int)) = false := by simp
    have hfin : Hid (PGot (nearD af kf vf p ps i) ps (p + 1 + 4 * i) a3 w (.returned (.tuple #[.slice a4 (nearD af kf vf p ps i).length c4, .int .i64 ((p + 1 + 4 * i : Nat) : Int)])) wr) := ⟨a4, c4, rfl, hPi, hci, hge, hbw⟩
    go_wp2_with fail
    go_ret2
    exact hfin.out
end Go.Proofs.YtfmpjlpakldheaaGreatDoor
