import Derived.Test.YtfmpjlpakldheaaGreatDoorZpbm
import Derived.Test.YtfmpjlpakldheaaGreatDoorZpbf
import Derived.Test.YtfmpjlpakldheaaGreatDoorZpbl
import Derived.Test.YtfmpjlpakldheaaGreatDoorZpbj
set_option maxRecDepth 100000
set_option maxHeartbeats 1000000
namespace Go.Proofs.YtfmpjlpakldheaaGreatDoor
open Tryz
open Go.RowKit Go.Proofs.Sha
theorem kv_det (a : Option Addr) (xs : List Nat) (cap : Nat) (hX : Code8 xs) : ∃ kf vf : Nat -> ByteArray, ∀ p : Nat, p <= 80000 -> (kf p).size <= 70 /\ (vf p).size <= 300 /\ (∀ w, BL a xs w -> Calls prog 86 #[.slice a xs.length cap, .int .i64 (p : Int)] w fun e w' => e = .returned (.tuple #[.string (kf p), .int .i64 ((p + 1 : Nat) : Int)]) /\ Below w.heap.size w w') /\ ∀ w, BL a xs w -> Calls prog 87 #[.slice a xs.length cap, .int .i64 (p : Int)] w fun e w' => e = .returned (.tuple #[.string (vf p), .int .i64 ((p + 2 : Nat) : Int)]) /\ Below w.heap.size w w' := by
 have h : ∀ p : Nat, ∃ kv : ByteArray × ByteArray, p <= 80000 -> kv.1.size <= 70 /\ kv.2.size <= 300 /\ (∀ w, BL a xs w -> Calls prog 86 #[.slice a xs.length cap, .int .i64 (p : Int)] w fun e w' => e = .returned (.tuple #[.string kv.1, .int .i64 ((p + 1 : Nat) : Int)]) /\ Below w.heap.size w w') /\ ∀ w, BL a xs w -> Calls prog 87 #[.slice a xs.length cap, .int .i64 (p : Int)] w fun e w' => e = .returned (.tuple #[.string kv.2, .int .i64 ((p + 2 : Nat) : Int)]) /\ Below w.heap.size w w' := fun p => by
  by_cases hp : p <= 80000
  · obtain ⟨k, hk, HK⟩ := key_det a xs cap p hX (by omega)
    obtain ⟨v, hv, HV⟩ := val_det a xs cap p hX (by omega)
    exact ⟨(k, v), fun _ => ⟨hk, hv, HK, HV⟩⟩
  · exact ⟨(⟨#[]⟩, ⟨#[]⟩), fun q => absurd q hp⟩
 obtain ⟨f, hf⟩ := Classical.axiomOfChoice h
 exact ⟨fun p => (f p).1, fun p => (f p).2, hf⟩
def mapD (kf vf : Nat -> ByteArray) (p : Nat) : Nat -> List PairT
 | 0 => []
 | i + 1 => wth (mapD kf vf p i) (kf (p + 3 * i)) (vf (p + 3 * i + 1))
structure SmP (ps : List PairT) (n : Nat) : Prop where
 len : ps.length <= n
 up : KeysUp (keys ps)
 sz : ∀ q ∈ ps, q.1.size <= 70 /\ q.2.size <= 300
theorem SmP.small {ps : List PairT} {n : Nat} (h : SmP ps n) (hn : n <= 100000) : SmallP ps := smallP_of (by have := h.len; omega) (fun q hq => by have := h.sz q hq; omega)
theorem SmP.wth {ps : List PairT} {n : Nat} (h : SmP ps n) {k v : ByteArray} (hk : k.size <= 70) (hv : v.size <= 300) : SmP (wth ps k v) (n + 1) :=
 ⟨by have := wthLen ps k v; have := h.len; omega, ku_wth h.up k v, fun q hq => by
  rcases wth_mem hq with e | e
  · rw [e]; exact ⟨hk, hv⟩
  · exact h.sz q e⟩
theorem SmP.wout {ps : List PairT} {n : Nat} (h : SmP ps n) (k : ByteArray) : SmP (wout ps k) n :=
 ⟨Nat.le_trans (wout_le ps k) h.len, ku_wout h.up k, fun q hq => h.sz q (wout_mem hq)⟩
theorem map1_det (a : Option Addr) (xs : List Nat) (cap p n : Nat) (hX : Code8 xs) (hp : p <= 70000) (hn : n <= 100) :
 ∃ ps : List PairT, (SmP ps n /\ (0 < n -> 0 < ps.length)) /\ ∀ w, BL a xs w -> Calls prog 92 #[.slice a xs.length cap, .int .i64 (p : Int), .int .i64 (n : Int)] w fun e w' => ∃ a' c', e = .returned (.tuple #[.slice a' ps.length c', .int .i64 ((p + 3 * n : Nat) : Int)]) /\ OwnP w ps a' ps.length c' w' := by
 obtain ⟨kf, vf, hkv⟩ := kv_det a xs cap hX
 have hsm : ∀ i, i <= n -> SmP (mapD kf vf p i) i := by
  intro i
  induction i with
  | zero => intro _; exact ⟨Nat.le_refl _, trivial, fun q hq => by cases hq⟩
  | succ i ih =>
   intro hi
   exact (ih (by omega)).wth (hkv _ (by omega)).1 (hkv _ (by omega)).2.1
 refine ⟨mapD kf vf p n, ⟨hsm n (Nat.le_refl _), fun h0 => ?_⟩, fun w hB => ?_⟩
 · obtain ⟨i, rfl⟩ : ∃ i, n = i + 1 := ⟨n - 1, by omega⟩
   have hm : kf (p + 3 * i) ∈ keys (mapD kf vf p (i + 1)) := mem_wth.2 (.inl rfl)
   have h1 := List.length_pos_of_mem hm
   unfold keys at h1
   rwa [List.length_map] at h1
 have HKV : Hid (∀ i w', i <= n -> Below w.heap.size w w' -> Calls prog 86 #[.slice a xs.length cap, .int .i64 ((p + 3 * i : Nat) : Int)] w' (fun e w'' => e = .returned (.tuple #[.string (kf (p + 3 * i)), .int .i64 ((p + 3 * i + 1 : Nat) : Int)]) /\ Below w'.heap.size w' w'') /\ Calls prog 87 #[.slice a xs.length cap, .int .i64 ((p + 3 * i + 1 : Nat) : Int)] w' (fun e w'' => e = .returned (.tuple #[.string (vf (p + 3 * i + 1)), .int .i64 ((p + 3 * i + 1 + 2 : Nat) : Int)]) /\ Below w'.heap.size w' w'')) := fun i w' hi hb => ⟨(hkv (p + 3 * i) (by omega)).2.2.1 w' (hB.below hb), (hkv (p + 3 * i + 1) (by omega)).2.2.2 w' (hB.below hb)⟩
 have HW : Hid (∀ i a3 c3 w', i < n -> PArg a3 (mapD kf vf p i) w' -> Calls prog 91 #[.slice a3 (mapD kf vf p i).length c3, .string (kf (p + 3 * i)), .string (vf (p + 3 * i + 1))] w' (PairsAt (mapD kf vf p (i + 1)) w')) := fun i a3 c3 w' hi hP => with_any a3 _ c3 _ _ w' hP (by have := (hkv (p + 3 * i) (by omega)).1; omega) (by have := (hsm i (by omega)).len; omega)
 have hO : OwnP w [] (some ⟨w.heap.size, 0, none⟩) 0 0 (w.alloc (.cells #[] 34)) := OwnP.nil w
 have HP : Hid (∀ i a3 m c3 W, i <= n -> OwnP w (mapD kf vf p i) a3 m c3 W -> PArg a3 (mapD kf vf p i) W) := fun i a3 m c3 W hi h => ownp_parg h ((hsm i hi).small (by omega))
 clear hB hkv hsm
 obtain ⟨L, hL⟩ : ∃ L, xs.length = L := ⟨_, rfl⟩
 rw [hL] at HKV ⊢
 clear hL
 go_enter func92, ntmps92
 go_wp2_with fail
 generalize w.alloc (.cells #[] 34) = W0 at hO ⊢
 obtain ⟨g0, hg0⟩ : ∃ g, w.heap.size = g := ⟨_, rfl⟩
 have hO' : OwnP w [] (some ⟨g0, 0, none⟩) 0 0 W0 := by rw [<- hg0]; exact hO
 try rw [hg0]
 clear hO hg0
 go_loopw [1, 8, 9] (fun t1 t8 t9 wr => ∃ (i : Nat) (a3 : Option Addr) (c3 : Nat), i <= n /\ t9 = .int .i64 (i : Int) /\ t1 = .int .i64 ((p + 3 * i : Nat) : Int) /\ t8 = .slice a3 (mapD kf vf p i).length c3 /\ OwnP w (mapD kf vf p i) a3 (mapD kf vf p i).length c3 wr) (fun _ _ t9 _ => n - (intOf t9).toNat)
 case atStart => exact ⟨0, some ⟨g0, 0, none⟩, 0, Nat.zero_le _, rfl, rfl, rfl, hO'⟩
 case round =>
  clear hO'
  obtain ⟨i, a3, c3, hi, rfl, rfl, rfl, hT⟩ := hrel
  by_cases hlt : i < n
  · have z1 : decide ((i : Int) < (n : Int)) = true := by simp; omega
    have hP := HP.out i a3 _ c3 wr hi hT
    have HW' : Hid (∀ w', PArg a3 (mapD kf vf p i) w' -> Calls prog 91 #[.slice a3 (mapD kf vf p i).length c3, .string (kf (p + 3 * i)), .string (vf (p + 3 * i + 1))] w' (PairsAt (mapD kf vf p (i + 1)) w')) := fun w' q => HW.out i a3 c3 w' hlt q
    unfold PairsAt at HW'
    have HKV' : Hid (∀ w', Below w.heap.size w w' -> Calls prog 86 #[.slice a L cap, .int .i64 ((p + 3 * i : Nat) : Int)] w' (fun e w'' => e = .returned (.tuple #[.string (kf (p + 3 * i)), .int .i64 ((p + 3 * i + 1 : Nat) : Int)]) /\ Below w'.heap.size w' w'') /\ Calls prog 87 #[.slice a L cap, .int .i64 ((p + 3 * i + 1 : Nat) : Int)] w' (fun e w'' => e = .returned (.tuple #[.string (vf (p + 3 * i + 1)), .int .i64 ((p + 3 * i + 1 + 2 : Nat) : Int)]) /\ Below w'.heap.size w' w'')) := fun w' hb => HKV.out i w' hi hb
    have hbw := hT.bel
    have hnx : Hid (p + 3 * i + 1 + 2 = p + 3 * (i + 1)) := by show _ = _; omega
    obtain ⟨X, hX'⟩ : ∃ X, mapD kf vf p i = X := ⟨_, rfl⟩
    obtain ⟨Y, hY⟩ : ∃ Y, mapD kf vf p (i + 1) = Y := ⟨_, rfl⟩
    have hYH : Hid (mapD kf vf p (i + 1) = Y) := hY
    rw [hX'] at HW' hP
    rw [hX']
    rw [hY] at HW'
    generalize kf (p + 3 * i) = ky at HKV' HW'
    generalize vf (p + 3 * i + 1) = vl at HKV' HW'
    obtain ⟨q0, hq0⟩ : ∃ q, p + 3 * i = q := ⟨_, rfl⟩
    rw [hq0] at HKV' hnx ⊢
    clear hT hX' hY hq0
    go_wp2_with (first | (go_at_call 86; refine (HKV'.out _ hbw).1.mono ?_; rintro e w1 ⟨rfl, hb1⟩; have hbw1 := hbw.trans (hb1.mono hbw.size)) | (go_at_call 87; refine (HKV'.out _ hbw1).2.mono ?_; rintro e w2 ⟨rfl, hb2⟩; have hbw2 := hbw1.trans (hb2.mono hbw1.size)) | (go_at_call 91; refine (HW'.out _ ((hP.below hb1).below hb2)).mono ?_; rintro e w3 ⟨a4, c4, rfl, hT4⟩; have hT4' := hT4.up hbw2))
    go_roundw
    case rel => exact ⟨i + 1, a4, c4, hlt, by go_num, by rw [<- hnx.out]; rfl, by rw [hYH.out], by rw [hYH.out]; exact hT4'⟩
    case measure => simp [intOf]; omega
  · obtain rfl : i = n := by omega
    have z1 : decide ((i : Int) < (i : Int)) = false := by simp
    go_wp2_with fail
    go_ret2
    exact ⟨a3, c3, rfl, hT⟩
theorem map_det (a : Option Addr) (xs : List Nat) (cap p n : Nat) (hX : Code8 xs) (hp : p <= 70000) (hn : n <= 100) :
 ∃ ps : List PairT, SmP ps n /\ ∀ w, BL a xs w -> Calls prog 92 #[.slice a xs.length cap, .int .i64 (p : Int), .int .i64 (n : Int)] w fun e w' => ∃ a' c', e = .returned (.tuple #[.slice a' ps.length c', .int .i64 ((p + 3 * n : Nat) : Int)]) /\ OwnP w ps a' ps.length c' w' := by
 obtain ⟨ps, ⟨h1, _⟩, H⟩ := map1_det a xs cap p n hX hp hn
 exact ⟨ps, h1, H⟩
theorem take3_det (a : Option Addr) (xs : List Nat) (cap m : Nat) (hX : Code8 xs) (h1 : 1 <= m) (h2 : m <= 100000) : ∃ af : Nat -> Nat, ∀ p : Nat, p <= 80000 -> af p < m /\ ∀ w, BL a xs w -> Calls prog 41 #[.slice a xs.length cap, .int .i64 (p : Int), .int .i64 (m : Int)] w fun e w' => e = .returned (.tuple #[.int .i64 (af p : Int), .int .i64 ((p + 1 : Nat) : Int)]) /\ Below w.heap.size w w' := by
 have h : ∀ p : Nat, ∃ x : Nat, p <= 80000 -> x < m /\ ∀ w, BL a xs w -> Calls prog 41 #[.slice a xs.length cap, .int .i64 (p : Int), .int .i64 (m : Int)] w fun e w' => e = .returned (.tuple #[.int .i64 (x : Int), .int .i64 ((p + 1 : Nat) : Int)]) /\ Below w.heap.size w w' := fun p => by
  by_cases hp : p <= 80000
  · obtain ⟨x, hx, HT⟩ := take_det a xs cap p m hX (by omega) h1 h2
    exact ⟨x, fun _ => ⟨hx, HT⟩⟩
  · exact ⟨0, fun q => absurd q hp⟩
 exact Classical.axiomOfChoice h
def nearD (af : Nat -> Nat) (kf vf : Nat -> ByteArray) (p : Nat) (ps : List PairT) : Nat -> List PairT
 | 0 => ps
 | i + 1 => if af (p + 1 + 4 * i) = 0 then wout (nearD af kf vf p ps i) (kf (p + 2 + 4 * i)) else wth (nearD af kf vf p ps i) (kf (p + 2 + 4 * i)) (vf (p + 3 + 4 * i))
def PGot (qs ps : List PairT) (z : Nat) (a3 : Option Addr) (w : World) (e : Ending) (w' : World) : Prop := ∃ a' c', e = .returned (.tuple #[.slice a' qs.length c', .int .i64 (z : Int)]) /\ PArg a' qs w' /\ qs.length <= c' /\ (∀ b off, a' = some ⟨b, off, none⟩ -> w.heap.size <= b \/ (a' = a3 /\ qs = ps)) /\ Below w.heap.size w w'
theorem OwnP.ge {w W : World} {xs : List PairT} {a : Option Addr} {m c : Nat} (h : OwnP w xs a m c W) : ∀ b off, a = some ⟨b, off, none⟩ -> w.heap.size <= b := fun b off e => by
 subst e
 exact (own2_cells h.own (g := b) rfl).1
theorem near_det (a : Option Addr) (xs : List Nat) (cap p : Nat) (ps : List PairT) (M : Nat) (hX : Code8 xs) (hp : p <= 70000) (hM : M <= 1000) (hS : SmP ps M) :
 ∃ (qs : List PairT) (z : Nat), (SmP qs (M + 3) /\ p <= z /\ z <= p + 13) /\ ∀ a3 c3 w, BL a xs w -> PArg a3 ps w -> ps.length <= c3 -> Calls prog 44 #[.slice a xs.length cap, .int .i64 (p : Int), .slice a3 ps.length c3] w (PGot qs ps z a3 w) := by
 obtain ⟨kf, vf, hkv⟩ := kv_det a xs cap hX
 obtain ⟨af, haf⟩ := take3_det a xs cap 3 hX (by omega) (by omega)
 obtain ⟨n, hn, Hn⟩ := take_det a xs cap p 4 hX (by omega) (by omega) (by omega)
 have hsm : ∀ i, i <= n -> SmP (nearD af kf vf p ps i) (M + i) := by
  intro i
  induction i with
  | zero => intro _; exact hS
  | succ i ih =>
   intro hi
   rw [nearD]
   split
   · have := (ih (by omega)).wout (kf (p + 2 + 4 * i))
     exact ⟨by have := this.len; omega, this.up, this.sz⟩
   · exact (ih (by omega)).wth (hkv _ (by omega)).1 (hkv _ (by omega)).2.1
 have hq := hsm n (Nat.le_refl _)
 refine ⟨nearD af kf vf p ps n, p + 1 + 4 * n, ⟨⟨by have := hq.len; omega, hq.up, hq.sz⟩, by omega, by omega⟩, fun a3 c3 w hB hP hc3 => ?_⟩
 have HTk : Hid (∀ i w', i <= n -> Below w.heap.size w w' -> Calls prog 41 #[.slice a xs.length cap, .int .i64 ((p + 1 + 4 * i : Nat) : Int), .int .i64 ((3 : Nat) : Int)] w' fun e w'' => e = .returned (.tuple #[.int .i64 (af (p + 1 + 4 * i) : Int), .int .i64 ((p + 1 + 4 * i + 1 : Nat) : Int)]) /\ Below w'.heap.size w' w'') := fun i w' hi hb => (haf (p + 1 + 4 * i) (by omega)).2 w' (hB.below hb)
 have Hn' := Hn w hB
 have HK : Hid (∀ i w', i <= n -> Below w.heap.size w w' -> Calls prog 86 #[.slice a xs.length cap, .int .i64 ((p + 1 + 4 * i + 1 : Nat) : Int)] w' fun e w'' => e = .returned (.tuple #[.string (kf (p + 2 + 4 * i)), .int .i64 ((p + 3 + 4 * i : Nat) : Int)]) /\ Below w'.heap.size w' w'') := fun i w' hi hb => by
  have := (hkv (p + 2 + 4 * i) (by omega)).2.2.1 w' (hB.below hb)
  rw [show p + 2 + 4 * i + 1 = p + 3 + 4 * i by omega, show p + 2 + 4 * i = p + 1 + 4 * i + 1 by omega] at this
  rw [show p + 2 + 4 * i = p + 1 + 4 * i + 1 by omega]
  exact this
 have HV : Hid (∀ i w', i <= n -> Below w.heap.size w w' -> Calls prog 87 #[.slice a xs.length cap, .int .i64 ((p + 3 + 4 * i : Nat) : Int)] w' fun e w'' => e = .returned (.tuple #[.string (vf (p + 3 + 4 * i)), .int .i64 ((p + 1 + 4 * (i + 1) : Nat) : Int)]) /\ Below w'.heap.size w' w'') := fun i w' hi hb => by
  have := (hkv (p + 3 + 4 * i) (by omega)).2.2.2 w' (hB.below hb)
  rw [show p + 3 + 4 * i + 2 = p + 1 + 4 * (i + 1) by omega] at this
  exact this
 have HW : Hid (∀ i a3 c3 w', i < n -> PArg a3 (nearD af kf vf p ps i) w' -> (af (p + 1 + 4 * i) = 0 -> Calls prog 94 #[.slice a3 (nearD af kf vf p ps i).length c3, .string (kf (p + 2 + 4 * i))] w' (PairsAt (nearD af kf vf p ps (i + 1)) w')) /\ (af (p + 1 + 4 * i) ≠ 0 -> Calls prog 91 #[.slice a3 (nearD af kf vf p ps i).length c3, .string (kf (p + 2 + 4 * i)), .string (vf (p + 3 + 4 * i))] w' (PairsAt (nearD af kf vf p ps (i + 1)) w'))) := fun i a3 c3 w' hi hP => by
  refine ⟨fun h0 => ?_, fun h0 => ?_⟩
  · rw [nearD, if_pos h0]
    exact without_any a3 _ c3 _ w' hP
  · rw [nearD, if_neg h0]
    exact with_any a3 _ c3 _ _ w' hP (by have := (hkv (p + 2 + 4 * i) (by omega)).1; omega) (by have := (hsm i (by omega)).len; omega)
 have HPa : Hid (∀ i w' a4 c4 W, i <= n -> OwnP w' (nearD af kf vf p ps i) a4 (nearD af kf vf p ps i).length c4 W -> PArg a4 (nearD af kf vf p ps i) W /\ (nearD af kf vf p ps i).length <= c4) := fun i w' a4 c4 W hi h => ⟨ownp_parg h ((hsm i hi).small (by omega)), own2_le h.own⟩
 clear Hn hkv haf hsm hq hB
 obtain ⟨L, hL⟩ : ∃ L, xs.length = L := ⟨_, rfl⟩
 rw [hL] at Hn' HTk HK HV ⊢
 clear hL
 go_enter func44, ntmps44
 go_wp2_with (first | (go_at_call 41; refine Hn'.mono ?_; rintro e w1 ⟨rfl, hb1⟩))
 have hP1 := hP.below hb1
 have hM0 : ∀ b off, a3 = some ⟨b, off, none⟩ -> w.heap.size <= b \/ (a3 = a3 /\ nearD af kf vf p ps 0 = ps) := fun _ _ _ => .inr ⟨rfl, rfl⟩
 go_loopw [1, 2, 9] (fun t1 t2 t10 wr => ∃ (i : Nat) (a4 : Option Addr) (c4 : Nat), i <= n /\ t10 = .int .i64 (i : Int) /\ t1 = .int .i64 ((p + 1 + 4 * i : Nat) : Int) /\ t2 = .slice a4 (nearD af kf vf p ps i).length c4 /\ PArg a4 (nearD af kf vf p ps i) wr /\ (nearD af kf vf p ps i).length <= c4 /\ (∀ b off, a4 = some ⟨b, off, none⟩ -> w.heap.size <= b \/ (a4 = a3 /\ nearD af kf vf p ps i = ps)) /\ Below w.heap.size w wr) (fun _ _ t10 _ => n - (intOf t10).toNat)
 case atStart => exact ⟨0, a3, c3, Nat.zero_le _, rfl, rfl, rfl, hP1, hc3, hM0, hb1⟩
 case round =>
  clear hP1 hM0 hP hc3
  obtain ⟨i, a4, c4, hi, rfl, rfl, rfl, hPi, hci, hge, hbw⟩ := hrel
  by_cases hlt : i < n
  · have z1 : decide ((i : Int) < (n : Int)) = true := by simp; omega
    have HT' : Hid (∀ w', Below w.heap.size w w' -> Calls prog 41 #[.slice a L cap, .int .i64 ((p + 1 + 4 * i : Nat) : Int), .int .i64 3] w' fun e w'' => e = .returned (.tuple #[.int .i64 (af (p + 1 + 4 * i) : Int), .int .i64 ((p + 1 + 4 * i + 1 : Nat) : Int)]) /\ Below w'.heap.size w' w'') := fun w' hb => HTk.out i w' hi hb
    have HK' : Hid (∀ w', Below w.heap.size w w' -> Calls prog 86 #[.slice a L cap, .int .i64 ((p + 1 + 4 * i + 1 : Nat) : Int)] w' fun e w'' => e = .returned (.tuple #[.string (kf (p + 2 + 4 * i)), .int .i64 ((p + 3 + 4 * i : Nat) : Int)]) /\ Below w'.heap.size w' w'') := fun w' hb => HK.out i w' hi hb
    have HV' : Hid (∀ w', Below w.heap.size w w' -> Calls prog 87 #[.slice a L cap, .int .i64 ((p + 3 + 4 * i : Nat) : Int)] w' fun e w'' => e = .returned (.tuple #[.string (vf (p + 3 + 4 * i)), .int .i64 ((p + 1 + 4 * (i + 1) : Nat) : Int)]) /\ Below w'.heap.size w' w'') := fun w' hb => HV.out i w' hi hb
    have HW' : Hid (∀ w', PArg a4 (nearD af kf vf p ps i) w' -> (af (p + 1 + 4 * i) = 0 -> Calls prog 94 #[.slice a4 (nearD af kf vf p ps i).length c4, .string (kf (p + 2 + 4 * i))] w' (PairsAt (nearD af kf vf p ps (i + 1)) w')) /\ (af (p + 1 + 4 * i) ≠ 0 -> Calls prog 91 #[.slice a4 (nearD af kf vf p ps i).length c4, .string (kf (p + 2 + 4 * i)), .string (vf (p + 3 + 4 * i))] w' (PairsAt (nearD af kf vf p ps (i + 1)) w'))) := fun w' q => HW.out i a4 c4 w' hlt q
    have HF : Hid (∀ w' a5 c5 W, Below w.heap.size w w' -> OwnP w' (nearD af kf vf p ps (i + 1)) a5 (nearD af kf vf p ps (i + 1)).length c5 W -> ∃ (j : Nat) (b4 : Option Addr) (d4 : Nat), j <= n /\ Value.int .i64 ((i + 1 : Nat) : Int) = .int .i64 (j : Int) /\ Value.int .i64 ((p + 1 + 4 * (i + 1) : Nat) : Int) = .int .i64 ((p + 1 + 4 * j : Nat) : Int) /\ Value.slice a5 (nearD af kf vf p ps (i + 1)).length c5 = .slice b4 (nearD af kf vf p ps j).length d4 /\ PArg b4 (nearD af kf vf p ps j) W /\ (nearD af kf vf p ps j).length <= d4 /\ (∀ b off, b4 = some ⟨b, off, none⟩ -> w.heap.size <= b \/ (b4 = a3 /\ nearD af kf vf p ps j = ps)) /\ Below w.heap.size w W) := fun w' a5 c5 W hb ho => ⟨i + 1, a5, c5, hlt, rfl, rfl, rfl, (HPa.out (i + 1) w' a5 c5 W hlt ho).1, (HPa.out (i + 1) w' a5 c5 W hlt ho).2, fun b off e => .inl (Nat.le_trans hb.size (ho.ge b off e)), hb.trans (ho.bel.mono hb.size)⟩
    unfold PairsAt at HW'
    generalize nearD af kf vf p ps i = X at HW' hPi ⊢
    obtain ⟨Y, hY⟩ : ∃ Y, nearD af kf vf p ps (i + 1) = Y := ⟨_, rfl⟩
    rw [hY] at HW'
    generalize kf (p + 2 + 4 * i) = ky at HK' HW'
    generalize vf (p + 3 + 4 * i) = vl at HV' HW'
    generalize p + 1 + 4 * i = q1 at HT' HK' HW' ⊢
    generalize p + 3 + 4 * i = q3 at HK' HV'
    obtain ⟨q4, hq4⟩ : ∃ q4, p + 1 + 4 * (i + 1) = q4 := ⟨_, rfl⟩
    rw [hq4, hY] at HF
    rw [hq4] at HV'
    clear hq4 hY hci HTk HK HV HW HPa hge
    by_cases h0 : af q1 = 0
    · rw [h0] at HT'
      have HW2 : Hid (∀ w', PArg a4 X w' -> Calls prog 94 #[.slice a4 X.length c4, .string ky] w' fun e w'' => ∃ a5 c5, e = .returned (.slice a5 Y.length c5) /\ OwnP w' Y a5 Y.length c5 w'') := fun w' q => (HW'.out w' q).1 h0
      clear HW' h0
      go_wp2_with (first | (go_at_call 41; refine (HT'.out _ hbw).mono ?_; rintro e w2 ⟨rfl, hb2⟩; have hbw2 := hbw.trans (hb2.mono hbw.size); have hP2 := hPi.below hb2) | (go_at_call 86; refine (HK'.out _ hbw2).mono ?_; rintro e w3 ⟨rfl, hb3⟩; have hbw3 := hbw2.trans (hb3.mono hbw2.size); have hP3 := hP2.below hb3) | (go_at_call 87; refine (HV'.out _ hbw3).mono ?_; rintro e w4 ⟨rfl, hb4⟩; have hbw4 := hbw3.trans (hb4.mono hbw3.size); have hP4 := hP3.below hb4) | (go_at_call 94; refine (HW2.out _ hP4).mono ?_; rintro e w5 ⟨a5, c5, rfl, hT5⟩))
      have hfin := HF.out _ _ _ _ hbw4 hT5
      go_roundw
      case rel =>
       obtain ⟨j, b4, d4, r1, r2, r3, r4, r5⟩ := hfin
       exact ⟨j, b4, d4, r1, by rw [<- r2]; go_num, r3, r4, r5⟩
      case measure => simp [intOf]; omega
    · have HW2 : Hid (∀ w', PArg a4 X w' -> Calls prog 91 #[.slice a4 X.length c4, .string ky, .string vl] w' fun e w'' => ∃ a5 c5, e = .returned (.slice a5 Y.length c5) /\ OwnP w' Y a5 Y.length c5 w'') := fun w' q => (HW'.out w' q).2 h0
      have z2 : ((af q1 : Int) == 0) = false := by simp; omega
      generalize af q1 = av at HT' z2
      clear HW' h0
      go_wp2_with (first | (go_at_call 41; refine (HT'.out _ hbw).mono ?_; rintro e w2 ⟨rfl, hb2⟩; have hbw2 := hbw.trans (hb2.mono hbw.size); have hP2 := hPi.below hb2) | (go_at_call 86; refine (HK'.out _ hbw2).mono ?_; rintro e w3 ⟨rfl, hb3⟩; have hbw3 := hbw2.trans (hb3.mono hbw2.size); have hP3 := hP2.below hb3) | (go_at_call 87; refine (HV'.out _ hbw3).mono ?_; rintro e w4 ⟨rfl, hb4⟩; have hbw4 := hbw3.trans (hb4.mono hbw3.size); have hP4 := hP3.below hb4) | (go_at_call 91; refine (HW2.out _ hP4).mono ?_; rintro e w5 ⟨a5, c5, rfl, hT5⟩))
      have hfin := HF.out _ _ _ _ hbw4 hT5
      go_roundw
      case rel =>
       obtain ⟨j, b4, d4, r1, r2, r3, r4, r5⟩ := hfin
       exact ⟨j, b4, d4, r1, by rw [<- r2]; go_num, r3, r4, r5⟩
      case measure => simp [intOf]; omega
  · obtain rfl : i = n := by omega
    have z1 : decide ((i : Int) < (i : Int)) = false := by simp
    have hfin : Hid (PGot (nearD af kf vf p ps i) ps (p + 1 + 4 * i) a3 w (.returned (.tuple #[.slice a4 (nearD af kf vf p ps i).length c4, .int .i64 ((p + 1 + 4 * i : Nat) : Int)])) wr) := ⟨a4, c4, rfl, hPi, hci, hge, hbw⟩
    go_wp2_with fail
    go_ret2
    exact hfin.out
theorem count_any (a : Option Addr) (L cap per lo hi : Nat) (w : World) (hp : 1 <= per) (hL : L <= 1048576) (hlo : lo <= 1000) (hhi : hi <= 1000) : Calls prog 93 #[.slice a L cap, .int .i64 (per : Int), .int .i64 (lo : Int), .int .i64 (hi : Int)] w fun e w' => e = .returned (.int .i64 ((if hi < lo + L / per then hi else lo + L / per : Nat) : Int)) /\ w' = w := by
 have hq : (L : Int).tdiv (per : Int) = ((L / per : Nat) : Int) := by rw [<- Int.ofNat_tdiv]
 have hle : L / per <= L := Nat.div_le_self L per
 have hne : ¬ ((per : Int) = 0) := by omega
 have z0 : ((per : Int) == 0) = false := by simp; omega
 obtain ⟨d, hd⟩ : ∃ d, L / per = d := ⟨_, rfl⟩
 rw [hd] at hq hle ⊢
 have w1 : wrap64 ((lo : Int) + (d : Int)) = (lo : Int) + (d : Int) := wr_in64 _ (by omega)
 by_cases h : hi < lo + d
 · rw [if_pos h]
   have z : decide ((hi : Int) < (lo : Int) + (d : Int)) = true := by rw [decide_eq_true_eq]; omega
   go_enter func93, ntmps93
   go_wp2_with fail
   go_ret
   exact ⟨rfl, rfl⟩
 · rw [if_neg h]
   have z : decide ((hi : Int) < (lo : Int) + (d : Int)) = false := by rw [decide_eq_false_iff_not]; omega
   go_enter func93, ntmps93
   go_wp2_with fail
   go_ret
   exact ⟨by first | rfl | (congr 2; omega), rfl⟩
theorem sv_sub (wd : Nat) (ss : List ByteArray) : ∀ (es ad0 ad : List ByteArray), es.foldl (svStep wd ss) (.go ad0) = .go ad -> (∀ x ∈ ad, x ∈ ad0 \/ x ∈ es) /\ ad.length <= ad0.length + es.length
 | [], ad0, ad, h => by
  have : ad0 = ad := by injection h
  subst this
  exact ⟨fun x hx => .inl hx, Nat.le_refl _⟩
 | e :: es, ad0, ad, h => by
  rw [List.foldl_cons] at h
  cases hf : fst2 wd ss ad0 (hashT wd e) with
  | some u =>
   rw [svStep_some hf] at h
   split at h
   · obtain ⟨a1, a2⟩ := sv_sub wd ss es ad0 ad h
     exact ⟨fun x hx => (a1 x hx).imp id (List.mem_cons_of_mem _), by rw [List.length_cons]; omega⟩
   · rw [sv_stuck wd ss es _ rfl] at h; cases h
  | none =>
   rw [svStep_none hf] at h
   split at h
   · rw [sv_stuck wd ss es _ rfl] at h; cases h
   · obtain ⟨a1, a2⟩ := sv_sub wd ss es _ ad h
     refine ⟨fun x hx => ?_, by rw [List.length_append] at a2; rw [List.length_cons]; simp at a2; omega⟩
     rcases a1 x hx with q | q
     · rcases List.mem_append.1 q with q | q
       · exact .inl q
       · exact .inr (by rw [List.mem_singleton.1 q]; exact List.mem_cons_self ..)
     · exact .inr (List.mem_cons_of_mem _ q)
structure SmT (xs : List ByteArray) (n s : Nat) : Prop where
 len : xs.length <= n
 sz : ∀ x ∈ xs, x.size <= s
theorem SmT.getD {xs : List ByteArray} {n s : Nat} (h : SmT xs n s) (j : Nat) : (xs.getD j ⟨#[]⟩).size <= s := by
 rw [List.getD_eq_getElem?_getD]
 cases hx : xs[j]? with
 | none => exact Nat.zero_le _
 | some y => exact h.sz y (List.mem_of_getElem? hx)
theorem SmT.app {xs ys : List ByteArray} {n m s : Nat} (h : SmT xs n s) (k : SmT ys m s) : SmT (xs ++ ys) (n + m) s :=
 ⟨by rw [List.length_append]; have := h.len; have := k.len; omega, fun x hx => (List.mem_append.1 hx).elim (h.sz x) (k.sz x)⟩
theorem saveO_ok {wd : Nat} (h2 : wd <= 32) {ss : List ByteArray} {ps : List PairT} {n k : Nat} (hs : SmT ss n 10000) (hp : ps.length <= k) (h0 : (saveO (wd : Int) ss ps).cd = 0) : SmT (saveO (wd : Int) ss ps).xs (n + k) 10000 /\ (saveO (wd : Int) ss ps).root.size <= 32 /\ (saveO (wd : Int) ss ps).n = (wd : Int) := by
 unfold saveO at h0 ⊢
 split at h0
 · rename_i hq
   rw [if_pos hq]
   unfold savO at h0 ⊢
   rw [Int.toNat_natCast] at h0 ⊢
   cases hR : svAll wd ss (encsT wd (cutTree ps)) with
   | full => rw [hR] at h0; cases h0
   | clash u e => rw [hR] at h0; cases h0
   | go ad =>
    obtain ⟨a1, a2⟩ := sv_sub wd ss _ [] ad hR
    refine ⟨hs.app ⟨?_, fun x hx => ?_⟩, ?_, rfl⟩
    · rw [encsT_len, cutTree_size] at a2
      simp at a2
      omega
    · rcases a1 x hx with q | q
      · cases q
      · exact encsT_size wd _ x q
    · show (rootT wd (cutTree ps)).size <= 32
      have := rootT_size wd h2 (cutTree ps)
      omega
 · cases h0
structure PSt where
 ss : List ByteArray
 roots : List ByteArray
 ps : List PairT
 z : Nat
def stepP (wd : Nat) (nf : List PairT × Nat × Nat -> List PairT × Nat) (i : Nat) (s : PSt) : PSt :=
 ⟨if (saveO (wd : Int) s.ss s.ps).cd = 0 then (saveO (wd : Int) s.ss s.ps).xs else s.ss, if (saveO (wd : Int) s.ss s.ps).cd = 0 then s.roots ++ [(saveO (wd : Int) s.ss s.ps).root] else s.roots, (nf (s.ps, s.z, 14 + 3 * i)).1, (nf (s.ps, s.z, 14 + 3 * i)).2⟩
def stP (wd : Nat) (nf : List PairT × Nat × Nat -> List PairT × Nat) (s0 : PSt) : Nat -> PSt
 | 0 => s0
 | i + 1 => stepP wd nf i (stP wd nf s0 i)
structure PInv (z0 i : Nat) (s : PSt) : Prop where
 ps : SmP s.ps (14 + 3 * i)
 z : s.z <= z0 + 13 * i
 ss : SmT s.ss (100 * i) 10000
 roots : SmT s.roots i 32
theorem SArg.grown {a : Option Addr} {ss : List ByteArray} {w w' : World} {row : Option Nat} (h : SArg a ss w) (hg : w.grownBy w' row) (hn : ∀ b off, a = some ⟨b, off, none⟩ -> 0 < ss.length -> some b ≠ row) : SArg a ss w' := by
 refine ⟨h.le, h.sz, fun hp => ?_⟩
 obtain ⟨b, off, e, hb, hc⟩ := h.at_ hp
 exact ⟨b, off, e, Nat.lt_of_lt_of_le hb hg.size, fun j hj => (hg.cell_far ⟨b, off + j, none⟩ hb (hn b off e hp)).trans (hc j hj)⟩
theorem pool_cell {W : World} {g o : Nat} {n : Int} {v : Option Addr} {m c : Nat} {s : ByteArray} (h : W.heap[g]? = some (.cells #[.int .i64 n, .slice v m c] 37)) (k : W.cell? ⟨g, o, none⟩ = some (.string s)) : False := by
 have := (ZC h o).symm.trans k
 match o with
 | 0 => simp at this
 | 1 => simp at this
 | o + 2 => simp at this
theorem SArg.pool {a : Option Addr} {ss : List ByteArray} {W : World} {g : Nat} {n : Int} {v : Option Addr} {m c : Nat} (hS : SArg a ss W) (h : W.heap[g]? = some (.cells #[.int .i64 n, .slice v m c] 37)) (b off : Nat) (e : a = some ⟨b, off, none⟩) (hp : 0 < ss.length) : b ≠ g := fun q => by
 obtain ⟨b', off', e', _, hc⟩ := hS.at_ hp
 rw [e] at e'
 simp only [Option.some.injEq, Addr.mk.injEq, and_true] at e'
 obtain ⟨rfl, rfl⟩ := e'
 subst q
 exact pool_cell h (hc 0 hp)
theorem PArg.pool {a : Option Addr} {ps : List PairT} {W : World} {g : Nat} {n : Int} {v : Option Addr} {m c : Nat} (hS : PArg a ps W) (h : W.heap[g]? = some (.cells #[.int .i64 n, .slice v m c] 37)) (b off : Nat) (e : a = some ⟨b, off, none⟩) (hp : 0 < ps.length) : b ≠ g := fun q => by
 obtain ⟨b', off', e', _, hc⟩ := hS.at_ hp
 rw [e] at e'
 simp only [Option.some.injEq, Addr.mk.injEq, and_true] at e'
 obtain ⟨rfl, rfl⟩ := e'
 subst q
 exact pool_cell h (hc 0 hp).1
structure PD (w : World) (gq wd : Nat) (ss roots : List ByteArray) (ps : List PairT) (ap : Option Addr) (cp : Nat) (ar : Option Addr) (cr : Nat) (a4 : Option Addr) (c4 : Nat) (W : World) : Prop where
 res : W.heap[w.heap.size]? = some (.cells #[.int .i64 0, .slice none 0 0] 37)
 pool : W.heap[gq]? = some (.cells #[.int .i64 (wd : Int), .slice ap ss.length cp] 37)
 parg : SArg ap ss W
 rown : OwnT w roots ar roots.length cr W
 ppar : PArg a4 ps W
 pcap : ps.length <= c4
 n0 : w.heap.size < gq
 n1 : ∀ b off, ap = some ⟨b, off, none⟩ -> 0 < ss.length -> (Value.slice ar roots.length cr).ownBlock ≠ some b
 n2 : ∀ b off, a4 = some ⟨b, off, none⟩ -> 0 < ps.length -> (Value.slice ar roots.length cr).ownBlock ≠ some b
section
variable {w : World} {gq wd : Nat} {ss roots : List ByteArray} {ps : List PairT} {ap : Option Addr} {cp : Nat} {ar : Option Addr} {cr : Nat} {a4 : Option Addr} {c4 : Nat} {W W' : World}
theorem PD.below (h : PD w gq wd ss roots ps ap cp ar cr a4 c4 W) (hb : Below W.heap.size W W') : PD w gq wd ss roots ps ap cp ar cr a4 c4 W' :=
 ⟨pblk_below hb h.res, pblk_below hb h.pool, h.parg.below hb, h.rown.below hb, h.ppar.below hb, h.pcap, h.n0, h.n1, h.n2⟩
theorem PD.near (h : PD w gq wd ss roots ps ap cp ar cr a4 c4 W) {qs : List PairT} {a5 : Option Addr} {c5 : Nat} (hb : Below W.heap.size W W') (hP : PArg a5 qs W') (hc : qs.length <= c5) (hg : ∀ b off, a5 = some ⟨b, off, none⟩ -> W.heap.size <= b \/ (a5 = a4 /\ qs = ps)) : PD w gq wd ss roots qs ap cp ar cr a5 c5 W' := by
 have k := h.below hb
 refine ⟨k.res, k.pool, k.parg, k.rown, hP, hc, k.n0, k.n1, fun b off e hp q => ?_⟩
 rcases hg b off e with hl | ⟨hl, hl2⟩
 · have := (ownG_cells h.rown.own q).2.1
   omega
 · exact h.n2 b off (hl ▸ e) (hl2 ▸ hp) q
theorem PD.take (h : PD w gq wd ss roots ps ap cp ar cr a4 c4 W) {ss' : List ByteArray} {ap' : Option Addr} {cp' : Nat} (hS : SArg ap' ss' W) (hg : ∀ b off, ap' = some ⟨b, off, none⟩ -> 0 < ss'.length -> (Value.slice ar roots.length cr).ownBlock ≠ some b) :
 PD w gq wd ss' roots ps ap' cp' ar cr a4 c4 ((W.setCell ⟨gq, 0, none⟩ (.int .i64 (wd : Int))).setCell ⟨gq, 1, none⟩ (.slice ap' ss'.length cp')) := by
 have hq1 := heap_setCell_same W gq 0 _ 37 (.int .i64 (wd : Int)) h.pool
 have hq2 := heap_setCell_same _ gq 1 _ 37 (.slice ap' ss'.length cp') hq1
 have hgw : w.heap.size <= gq := Nat.le_of_lt h.n0
 have hne : ∀ q, q ≠ gq -> ((W.setCell ⟨gq, 0, none⟩ (.int .i64 (wd : Int))).setCell ⟨gq, 1, none⟩ (.slice ap' ss'.length cp')).heap[q]? = W.heap[q]? := fun q hq => (Below.heap_setCell _ _ _ _ (by show q ≠ gq; exact hq)).trans (Below.heap_setCell _ _ _ _ (by show q ≠ gq; exact hq))
 have hg1 : W.grownBy ((W.setCell ⟨gq, 0, none⟩ (.int .i64 (wd : Int))).setCell ⟨gq, 1, none⟩ (.slice ap' ss'.length cp')) (some gq) := grownBy_trans (grownBy_setCell W gq 0 _) (grownBy_setCell _ gq 1 _)
 refine ⟨(hne _ (Nat.ne_of_lt h.n0)).trans h.res, hq2, hS.grown hg1 (fun b off e hp q => hS.pool h.pool b off e hp (Option.some.inj q)), ⟨ownG_kept h.rown.own (fun q hv _ => hne q (fun e => ?_)), (h.rown.bel.setCell (p := ⟨gq, 0, none⟩) hgw _).setCell (p := ⟨gq, 1, none⟩) hgw _, h.rown.len⟩, h.ppar.grown hg1 (fun b off e hp q => h.ppar.pool h.pool b off e hp (Option.some.inj q)), h.pcap, h.n0, hg, h.n2⟩
 obtain ⟨_, _, cur, h9⟩ := ownG_cells h.rown.own hv
 rw [e, h.pool] at h9
 simp at h9
theorem PD.root (h : PD w gq wd ss roots ps ap cp ar cr a4 c4 W) {w5 : World} {o : Obj} {g5 c5 : Nat} {y : ByteArray} (hown : w5.ownsRow w.heap.size 9 1 (.slice (some ⟨g5, 0, none⟩) (roots.length + 1) c5) (roots.length + 1) (roots.map Value.string ++ [.string y])) (hgrow : (W.alloc o).grownBy w5 (Value.slice ar roots.length cr).ownBlock) (hat : (Value.slice ar roots.length cr).ownBlock = some g5 \/ g5 = W.heap.size + 1) :
 PD w gq wd ss (roots ++ [y]) ps ap cp (some ⟨g5, 0, none⟩) c5 a4 c4 w5 := by
 have hlen : (roots ++ [y]).length = roots.length + 1 := by rw [List.length_append]; rfl
 have hblk : ∀ {q : Nat} {cs : Array Value}, W.heap[q]? = some (.cells cs 37) -> w5.heap[q]? = some (.cells cs 37) := fun {q cs} hq => by
  have hl := (Array.getElem?_eq_some_iff.1 hq).1
  refine (hgrow.block q (by simp; omega) (fun e => ?_)).trans ((Below.heap_alloc W o q hl).trans hq)
  obtain ⟨_, _, cur, h9⟩ := ownG_cells h.rown.own e.symm
  rw [hq] at h9
  simp at h9
 have al : Below W.heap.size W (W.alloc o) := (Below.refl _ _).alloc (Nat.le_refl _) _
 have hT := h.rown.more hown hgrow rfl
 refine ⟨hblk h.res, hblk h.pool, (h.parg.below al).grown hgrow (fun b off e hp q => h.n1 b off e hp q.symm), by rw [hlen]; exact hT, (h.ppar.below al).grown hgrow (fun b off e hp q => h.n2 b off e hp q.symm), h.pcap, h.n0, fun b off e hp q => ?_, fun b off e hp q => ?_⟩
 · have hq : g5 = b := Option.some.inj q
   subst hq
   rcases hat with r | r
   · exact h.n1 g5 off e hp r
   · obtain ⟨b', off', e', hb', _⟩ := h.parg.at_ hp
     rw [e] at e'
     simp only [Option.some.injEq, Addr.mk.injEq, and_true] at e'
     omega
 · have hq : g5 = b := Option.some.inj q
   subst hq
   rcases hat with r | r
   · exact h.n2 g5 off e hp r
   · obtain ⟨b', off', e', hb', _⟩ := h.ppar.at_ hp
     rw [e] at e'
     simp only [Option.some.injEq, Addr.mk.injEq, and_true] at e'
     omega
end
end Go.Proofs.YtfmpjlpakldheaaGreatDoor
