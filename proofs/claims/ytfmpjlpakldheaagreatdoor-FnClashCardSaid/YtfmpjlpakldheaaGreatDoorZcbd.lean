import Derived.Test.YtfmpjlpakldheaaGreatDoorZcbc
import Derived.Test.YtfmpjlpakldheaaGreatDoorZcat
import Derived.Test.YtfmpjlpakldheaaGreatDoorZcau
import Derived.Deep.RegionLaw
import Derived.Test.YtfmpjlpakldheaaGreatDoorZcay
import Derived.Test.YtfmpjlpakldheaaGreatDoorZcao
import Derived.Test.YtfmpjlpakldheaaGreatDoorZcal
import Derived.Test.YtfmpjlpakldheaaGreatDoorZcap
namespace Go.Proofs.YtfmpjlpakldheaaGreatDoor
open Go.RowKit Go.Proofs.Sha

end Go.Proofs.YtfmpjlpakldheaaGreatDoor
namespace Go.Proofs.YtfmpjlpakldheaaGreatDoor
open Go.RowKit Go.Proofs.Sha

end Go.Proofs.YtfmpjlpakldheaaGreatDoor
namespace Go.Proofs.YtfmpjlpakldheaaGreatDoor
open Go.RowKit Go.Proofs.Sha

end Go.Proofs.YtfmpjlpakldheaaGreatDoor
namespace Go.Proofs.YtfmpjlpakldheaaGreatDoor
open Go.RowKit Go.Proofs.Sha

end Go.Proofs.YtfmpjlpakldheaaGreatDoor
namespace Go.Proofs.YtfmpjlpakldheaaGreatDoor
open Go.RowKit Go.Proofs.Sha

section
variable {w : World} {gp go ge wd : Nat} {a : Option Addr} {N c K ce : Nat} {es xs ys : List ByteArray} {gh ch : Nat} {ao : Option Addr} {co : Nat} {W : World}
end
end Go.Proofs.YtfmpjlpakldheaaGreatDoor
namespace Go.Proofs.YtfmpjlpakldheaaGreatDoor
open Go.RowKit Go.Proofs.Sha

theorem txt_list (e : ByteArray) : (txt e).data.toList = 78 :: e.data.toList := by unfold txt; rw [ByteArray.data_append]; simp
end Go.Proofs.YtfmpjlpakldheaaGreatDoor
namespace Go.Proofs.YtfmpjlpakldheaaGreatDoor
open Go.RowKit Go.Proofs.Sha

end Go.Proofs.YtfmpjlpakldheaaGreatDoor
namespace Go.Proofs.YtfmpjlpakldheaaGreatDoor
open Go.RowKit Go.Proofs.Sha

end Go.Proofs.YtfmpjlpakldheaaGreatDoor
namespace Go.Proofs.YtfmpjlpakldheaaGreatDoor
open Go.RowKit Go.Proofs.Sha

end Go.Proofs.YtfmpjlpakldheaaGreatDoor
namespace Go.Proofs.YtfmpjlpakldheaaGreatDoor
open Go.RowKit Go.Proofs.Sha

end Go.Proofs.YtfmpjlpakldheaaGreatDoor
namespace Go.Proofs.YtfmpjlpakldheaaGreatDoor
open Go.RowKit Go.Proofs.Sha

end Go.Proofs.YtfmpjlpakldheaaGreatDoor
namespace Go.Proofs.YtfmpjlpakldheaaGreatDoor
open Go.RowKit Go.Proofs.Sha

end Go.Proofs.YtfmpjlpakldheaaGreatDoor
namespace Go.Proofs.YtfmpjlpakldheaaGreatDoor
open Go.RowKit Go.Proofs.Sha

end Go.Proofs.YtfmpjlpakldheaaGreatDoor
namespace Go.Proofs.YtfmpjlpakldheaaGreatDoor
open Go.RowKit Go.Proofs.Sha

theorem wout_mem {ps : List PairT} {k : ByteArray} {p : PairT} (h : p ∈ wout ps k) : p ∈ ps := (List.mem_filter.1 h).1
theorem ins_mem {k v : ByteArray} : ∀ {ps : List PairT} {p : PairT}, p ∈ ins k v ps → p = (k, v) ∨ p ∈ ps
  | [], p, h => .inl (List.mem_singleton.1 h)
  | q :: qs, p, h => by
    rw [ins] at h
    split at h
    · exact List.mem_cons.1 h
    · rcases List.mem_cons.1 h with h | h
      · exact .inr (by rw [h]; exact List.mem_cons_self ..)
      · rcases ins_mem h with h | h
        · exact .inl h
        · exact .inr (List.mem_cons_of_mem _ h)
theorem ins_len (k v : ByteArray) : ∀ (ps : List PairT), (ins k v ps).length = ps.length + 1
  | [] => rfl
  | q :: qs => by
    rw [ins]
    split
    · rfl
    · rw [List.length_cons, ins_len k v qs]; rfl
theorem wth_mem {ps : List PairT} {k v : ByteArray} {p : PairT} (h : p ∈ wth ps k v) : p = (k, v) ∨ p ∈ ps := by
  rcases ins_mem h with h | h
  · exact .inl h
  · exact .inr (wout_mem h)
theorem wthLen (ps : List PairT) (k v : ByteArray) : (wth ps k v).length ≤ ps.length + 1 := by
  unfold wth
  rw [ins_len]
  have := wout_le ps k
  omega
theorem smallP_of {ps : List PairT} (h : ps.length ≤ 1048576) (hs : ∀ p ∈ ps, p.1.size ≤ 1048576 ∧ p.2.size ≤ 1048576) : SmallP ps := by
  refine ⟨h, fun j => ?_⟩
  by_cases hj : j < ps.length
  · rw [getD_lt ps j hj]
    exact hs _ (List.getElem_mem _)
  · rw [pget_out ps j (by omega)]
    exact noP_small
end Go.Proofs.YtfmpjlpakldheaaGreatDoor
namespace Go.Proofs.YtfmpjlpakldheaaGreatDoor
open Go.RowKit Go.Proofs.Sha

/-- A drawn key and a drawn value, at every place. -/
theorem kv_det (a : Option Addr) (xs : List Nat) (cap : Nat) (hX : Code8 xs) : ∃ kf vf : Nat → ByteArray, ∀ p : Nat, p ≤ 80000 → (kf p).size ≤ 70 ∧ (vf p).size ≤ 300 ∧ (∀ w, BL a xs w → Calls Tryz.prog 86 #[.slice a xs.length cap, .int .i64 (p : Int)] w fun e w' => e = .returned (.tuple #[.string (kf p), .int .i64 ((p + 1 : Nat) : Int)]) ∧ Below w.heap.size w w') ∧ ∀ w, BL a xs w → Calls Tryz.prog 87 #[.slice a xs.length cap, .int .i64 (p : Int)] w fun e w' => e = .returned (.tuple #[.string (vf p), .int .i64 ((p + 2 : Nat) : Int)]) ∧ Below w.heap.size w w' := by
  have h : ∀ p : Nat, ∃ kv : ByteArray × ByteArray, p ≤ 80000 → kv.1.size ≤ 70 ∧ kv.2.size ≤ 300 ∧ (∀ w, BL a xs w → Calls Tryz.prog 86 #[.slice a xs.length cap, .int .i64 (p : Int)] w fun e w' => e = .returned (.tuple #[.string kv.1, .int .i64 ((p + 1 : Nat) : Int)]) ∧ Below w.heap.size w w') ∧ ∀ w, BL a xs w → Calls Tryz.prog 87 #[.slice a xs.length cap, .int .i64 (p : Int)] w fun e w' => e = .returned (.tuple #[.string kv.2, .int .i64 ((p + 2 : Nat) : Int)]) ∧ Below w.heap.size w w' := fun p => by
    by_cases hp : p ≤ 80000
    · obtain ⟨k, hk, HK⟩ := key_det a xs cap p hX (by omega)
      obtain ⟨v, hv, HV⟩ := val_det a xs cap p hX (by omega)
      exact ⟨(k, v), fun _ => ⟨hk, hv, HK, HV⟩⟩
    · exact ⟨(⟨#[]⟩, ⟨#[]⟩), fun q => absurd q hp⟩
  obtain ⟨f, hf⟩ := Classical.axiomOfChoice h
  exact ⟨fun p => (f p).1, fun p => (f p).2, hf⟩
/-- A map while it is drawn. -/
def mapD (kf vf : Nat → ByteArray) (p : Nat) : Nat → List PairT
  | 0 => []
  | i + 1 => wth (mapD kf vf p i) (kf (p + 3 * i)) (vf (p + 3 * i + 1))
/-- A list of pairs that is small. -/
structure SmP (ps : List PairT) (n : Nat) : Prop where
  len : ps.length ≤ n
  up : KeysUp (keys ps)
  sz : ∀ q ∈ ps, q.1.size ≤ 70 ∧ q.2.size ≤ 300
theorem SmP.small {ps : List PairT} {n : Nat} (h : SmP ps n) (hn : n ≤ 100000) : SmallP ps := smallP_of (by have := h.len; omega) (fun q hq => by have := h.sz q hq; omega)
theorem SmP.wth {ps : List PairT} {n : Nat} (h : SmP ps n) {k v : ByteArray} (hk : k.size ≤ 70) (hv : v.size ≤ 300) : SmP (wth ps k v) (n + 1) :=
  ⟨by have := wthLen ps k v; have := h.len; omega, ku_wth h.up k v, fun q hq => by
    rcases wth_mem hq with e | e
    · rw [e]; exact ⟨hk, hv⟩
    · exact h.sz q e⟩
set_option maxRecDepth 100000 in
set_option maxHeartbeats 1000000 in
theorem map1_det (a : Option Addr) (xs : List Nat) (cap p n : Nat) (hX : Code8 xs) (hp : p ≤ 70000) (hn : n ≤ 100) :
    ∃ ps : List PairT, (SmP ps n ∧ (0 < n → 0 < ps.length)) ∧ ∀ w, BL a xs w → Calls Tryz.prog 92 #[.slice a xs.length cap, .int .i64 (p : Int), .int .i64 (n : Int)] w fun e w' => ∃ a' c', e = .returned (.tuple #[.slice a' ps.length c', .int .i64 ((p + 3 * n : Nat) : Int)]) ∧ OwnP w ps a' ps.length c' w' := by
  obtain ⟨kf, vf, hkv⟩ := kv_det a xs cap hX
  have hsm : ∀ i, i ≤ n → SmP (mapD kf vf p i) i := by
    intro i
    induction i with
    | zero => intro _; exact ⟨Nat.le_refl _, trivial, fun q hq => by cases hq⟩
    | succ i ih =>
      intro hi
      exact (ih (by omega)).wth (hkv _ (by omega)).1 (hkv _ (by omega)).2.1
  refine ⟨mapD kf vf p n, ⟨hsm n (Nat.le_refl _), fun h0 => ?_⟩, fun w hB => ?_⟩
  · obtain ⟨i, rfl⟩ : ∃ i, n = i + 1 := ⟨n - 1, by omega⟩
    have hm : kf (p + 3 * i) ∈ keys (mapD kf vf p (i + 1)) := mem_wth.2 (.inl rfl)
    have h1 := List.length_pos_of_mem hm
    unfold keys at h1
    rwa [List.length_map] at h1
  have HKV : Hid (∀ i w', i ≤ n → Below w.heap.size w w' → Calls Tryz.prog 86 #[.slice a xs.length cap, .int .i64 ((p + 3 * i : Nat) : Int)] w' (fun e w'' => e = .returned (.tuple #[.string (kf (p + 3 * i)), .int .i64 ((p + 3 * i + 1 : Nat) : Int)]) ∧ Below w'.heap.size w' w'') ∧ Calls Tryz.prog 87 #[.slice a xs.length cap, .int .i64 ((p + 3 * i + 1 : Nat) : Int)] w' (fun e w'' => e = .returned (.tuple #[.string (vf (p + 3 * i + 1)), .int .i64 ((p + 3 * i + 1 + 2 : Nat) : Int)]) ∧ Below w'.heap.size w' w'')) := fun i w' hi hb => ⟨(hkv (p + 3 * i) (by omega)).2.2.1 w' (hB.below hb), (hkv (p + 3 * i + 1) (by omega)).2.2.2 w' (hB.below hb)⟩
  have HW : Hid (∀ i a3 c3 w', i < n → PArg a3 (mapD kf vf p i) w' → Calls Tryz.prog 91 #[.slice a3 (mapD kf vf p i).length c3, .string (kf (p + 3 * i)), .string (vf (p + 3 * i + 1))] w' (PairsAt (mapD kf vf p (i + 1)) w')) := fun i a3 c3 w' hi hP => with_any a3 _ c3 _ _ w' hP (by have := (hkv (p + 3 * i) (by omega)).1; omega) (by have := (hsm i (by omega)).len; omega)
  have hO : OwnP w [] (some ⟨w.heap.size, 0, none⟩) 0 0 (w.alloc (.cells #[] 34)) := OwnP.nil w
  have HP : Hid (∀ i a3 m c3 W, i ≤ n → OwnP w (mapD kf vf p i) a3 m c3 W → PArg a3 (mapD kf vf p i) W) := fun i a3 m c3 W hi h => ownp_parg h ((hsm i hi).small (by omega))
  clear hB hkv hsm
  obtain ⟨L, hL⟩ : ∃ L, xs.length = L := ⟨_, rfl⟩
  rw [hL] at HKV ⊢
  clear hL
  go_enter Tryz.func92, Tryz.ntmps92
  go_wp2_with fail
  generalize w.alloc (.cells #[] 34) = W0 at hO ⊢
  obtain ⟨g0, hg0⟩ : ∃ g, w.heap.size = g := ⟨_, rfl⟩
  have hO' : OwnP w [] (some ⟨g0, 0, none⟩) 0 0 W0 := by rw [← hg0]; exact hO
  try rw [hg0]
  clear hO hg0
  go_loopw [1, 8, 9] (fun t1 t8 t9 wr => ∃ (i : Nat) (a3 : Option Addr) (c3 : Nat), i ≤ n ∧ t9 = .int .i64 (i : Int) ∧ t1 = .int .i64 ((p + 3 * i : Nat) : Int) ∧ t8 = .slice a3 (mapD kf vf p i).length c3 ∧ OwnP w (mapD kf vf p i) a3 (mapD kf vf p i).length c3 wr) (fun _ _ t9 _ => n - (intOf t9).toNat)
  case atStart => exact ⟨0, some ⟨g0, 0, none⟩, 0, Nat.zero_le _, rfl, rfl, rfl, hO'⟩
  case round =>
    clear hO'
    obtain ⟨i, a3, c3, hi, rfl, rfl, rfl, hT⟩ := hrel
    by_cases hlt : i < n
    · have z1 : decide ((i : Int) < (n : Int)) = true := by simp; omega
      have hP := HP.out i a3 _ c3 wr hi hT
      have HW' : Hid (∀ w', PArg a3 (mapD kf vf p i) w' → Calls Tryz.prog 91 #[.slice a3 (mapD kf vf p i).length c3, .string (kf (p + 3 * i)), .string (vf (p + 3 * i + 1))] w' (PairsAt (mapD kf vf p (i + 1)) w')) := fun w' q => HW.out i a3 c3 w' hlt q
      unfold PairsAt at HW'
      have HKV' : Hid (∀ w', Below w.heap.size w w' → Calls Tryz.prog 86 #[.slice a L cap, .int .i64 ((p + 3 * i : Nat) : Int)] w' (fun e w'' => e = .returned (.tuple #[.string (kf (p + 3 * i)), .int .i64 ((p + 3 * i + 1 : Nat) : Int)]) ∧ Below w'.heap.size w' w'') ∧ Calls Tryz.prog 87 #[.slice a L cap, .int .i64 ((p + 3 * i + 1 : Nat) : Int)] w' (fun e w'' => e = .returned (.tuple #[.string (vf (p + 3 * i + 1)), .int .i64 ((p + 3 * i + 1 + 2 : Nat) : Int)]) ∧ Below w'.heap.size w' w'')) := fun w' hb => HKV.out i w' hi hb
      have hbw := hT.bel
      have hnx : Hid (p + 3 * i + 1 + 2 = p + 3 * (i + 1)) := by show _ = _; omega
      obtain ⟨X, hX'⟩ : ∃ X, mapD kf vf p i = X := ⟨_, rfl⟩
      obtain ⟨Y, hY⟩ : ∃ Y, mapD kf vf p (i + 1) = Y := ⟨_, rfl⟩
      have hYH : Hid (mapD kf vf p (i + 1) = Y) := hY
      rw [hX'] at HW' hP
      rw [hX']
      rw [hY] at HW'
      generalize kf (p + 3 * i) = ky at HKV' HW'
      generalize vf (p + 3 * i + 1) = vl at HKV' HW'
      obtain ⟨q0, hq0⟩ : ∃ q, p + 3 * i = q := ⟨_, rfl⟩
      rw [hq0] at HKV' hnx ⊢
      clear hT hX' hY hq0
      go_wp2_with (first | (go_at_call 86; refine (HKV'.out _ hbw).1.mono ?_; rintro e w1 ⟨rfl, hb1⟩; have hbw1 := hbw.trans (hb1.mono hbw.size)) | (go_at_call 87; refine (HKV'.out _ hbw1).2.mono ?_; rintro e w2 ⟨rfl, hb2⟩; have hbw2 := hbw1.trans (hb2.mono hbw1.size)) | (go_at_call 91; refine (HW'.out _ ((hP.below hb1).below hb2)).mono ?_; rintro e w3 ⟨a4, c4, rfl, hT4⟩; have hT4' := hT4.up hbw2))
      go_roundw
      case rel => exact ⟨i + 1, a4, c4, hlt, by go_num, by rw [← hnx.out]; rfl, by rw [hYH.out], by rw [hYH.out]; exact hT4'⟩
      case measure => simp [intOf]; omega
    · obtain rfl : i = n := by omega
      have z1 : decide ((i : Int) < (i : Int)) = false := by simp
      go_wp2_with fail
      go_ret2
      exact ⟨a3, c3, rfl, hT⟩
end Go.Proofs.YtfmpjlpakldheaaGreatDoor
namespace Go.Proofs.YtfmpjlpakldheaaGreatDoor
open Go.RowKit Go.Proofs.Sha

theorem own2_le {w : World} {base n m c : Nat} {a : Option Addr} {xs : List Value} (h : w.ownsRow base 34 2 (.slice a m c) n xs) : m ≤ c := by
  rcases h.2 with ⟨e, h0⟩ | ⟨g, cap, cur, e, hb, hg, q1, q2, q3, q4⟩
  · simp only [Value.slice.injEq] at e; omega
  · simp only [Value.slice.injEq] at e
    omega
end Go.Proofs.YtfmpjlpakldheaaGreatDoor
namespace Go.Proofs.YtfmpjlpakldheaaGreatDoor
open Go.RowKit Go.Proofs.Sha

theorem take3_det (a : Option Addr) (xs : List Nat) (cap m : Nat) (hX : Code8 xs) (h1 : 1 ≤ m) (h2 : m ≤ 100000) : ∃ af : Nat → Nat, ∀ p : Nat, p ≤ 80000 → af p < m ∧ ∀ w, BL a xs w → Calls Tryz.prog 41 #[.slice a xs.length cap, .int .i64 (p : Int), .int .i64 (m : Int)] w fun e w' => e = .returned (.tuple #[.int .i64 (af p : Int), .int .i64 ((p + 1 : Nat) : Int)]) ∧ Below w.heap.size w w' := by
  have h : ∀ p : Nat, ∃ x : Nat, p ≤ 80000 → x < m ∧ ∀ w, BL a xs w → Calls Tryz.prog 41 #[.slice a xs.length cap, .int .i64 (p : Int), .int .i64 (m : Int)] w fun e w' => e = .returned (.tuple #[.int .i64 (x : Int), .int .i64 ((p + 1 : Nat) : Int)]) ∧ Below w.heap.size w w' := fun p => by
    by_cases hp : p ≤ 80000
    · obtain ⟨x, hx, HT⟩ := take_det a xs cap p m hX (by omega) h1 h2
      exact ⟨x, fun _ => ⟨hx, HT⟩⟩
    · exact ⟨0, fun q => absurd q hp⟩
  exact Classical.axiomOfChoice h
/-- A list of pairs while it is changed a little. -/
def nearD (af : Nat → Nat) (kf vf : Nat → ByteArray) (p : Nat) (ps : List PairT) : Nat → List PairT
  | 0 => ps
  | i + 1 => if af (p + 1 + 4 * i) = 0 then wout (nearD af kf vf p ps i) (kf (p + 2 + 4 * i)) else wth (nearD af kf vf p ps i) (kf (p + 2 + 4 * i)) (vf (p + 3 + 4 * i))
/-- A list of pairs is handed on: its row is the argument's or the call's own. -/
def PGot (qs ps : List PairT) (z : Nat) (a3 : Option Addr) (w : World) (e : Ending) (w' : World) : Prop := ∃ a' c', e = .returned (.tuple #[.slice a' qs.length c', .int .i64 (z : Int)]) ∧ PArg a' qs w' ∧ qs.length ≤ c' ∧ (∀ b off, a' = some ⟨b, off, none⟩ → w.heap.size ≤ b ∨ (a' = a3 ∧ qs = ps)) ∧ Below w.heap.size w w'
theorem OwnP.ge {w W : World} {xs : List PairT} {a : Option Addr} {m c : Nat} (h : OwnP w xs a m c W) : ∀ b off, a = some ⟨b, off, none⟩ → w.heap.size ≤ b := fun b off e => by
  subst e
  exact (own2_cells h.own (g := b) rfl).1
end Go.Proofs.YtfmpjlpakldheaaGreatDoor
namespace Go.Proofs.YtfmpjlpakldheaaGreatDoor
open Go.RowKit Go.Proofs.Sha

theorem count_any (a : Option Addr) (L cap per lo hi : Nat) (w : World) (hp : 1 ≤ per) (hL : L ≤ 1048576) (hlo : lo ≤ 1000) (hhi : hi ≤ 1000) : Calls Tryz.prog 93 #[.slice a L cap, .int .i64 (per : Int), .int .i64 (lo : Int), .int .i64 (hi : Int)] w fun e w' => e = .returned (.int .i64 ((if hi < lo + L / per then hi else lo + L / per : Nat) : Int)) ∧ w' = w := by
  have hq : (L : Int).tdiv (per : Int) = ((L / per : Nat) : Int) := by rw [← Int.ofNat_tdiv]
  have hle : L / per ≤ L := Nat.div_le_self L per
  have hne : ¬ ((per : Int) = 0) := by omega
  have z0 : ((per : Int) == 0) = false := by simp; omega
  obtain ⟨d, hd⟩ : ∃ d, L / per = d := ⟨_, rfl⟩
  rw [hd] at hq hle ⊢
  have w1 : wrap64 ((lo : Int) + (d : Int)) = (lo : Int) + (d : Int) := wr_in64 _ (by omega)
  by_cases h : hi < lo + d
  · rw [if_pos h]
    have z : decide ((hi : Int) < (lo : Int) + (d : Int)) = true := by rw [decide_eq_true_eq]; omega
    go_enter Tryz.func93, Tryz.ntmps93
    go_wp2_with fail
    go_ret
    exact ⟨rfl, rfl⟩
  · rw [if_neg h]
    have z : decide ((hi : Int) < (lo : Int) + (d : Int)) = false := by rw [decide_eq_false_iff_not]; omega
    go_enter Tryz.func93, Tryz.ntmps93
    go_wp2_with fail
    go_ret
    exact ⟨by first | rfl | (congr 2; omega), rfl⟩
end Go.Proofs.YtfmpjlpakldheaaGreatDoor
