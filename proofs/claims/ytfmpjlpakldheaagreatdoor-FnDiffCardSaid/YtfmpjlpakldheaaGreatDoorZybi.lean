import Derived.Test.YtfmpjlpakldheaaGreatDoorZybh
import Derived.Test.YtfmpjlpakldheaaGreatDoorZyaq
import Derived.Test.YtfmpjlpakldheaaGreatDoorZyat
import Derived.Test.YtfmpjlpakldheaaGreatDoorZyba
import Derived.Test.YtfmpjlpakldheaaGreatDoorZybf
import Derived.Test.YtfmpjlpakldheaaGreatDoorZyai
import Derived.Test.YtfmpjlpakldheaaGreatDoorZybb
namespace Go.Proofs.YtfmpjlpakldheaaGreatDoor
open Go.RowKit Go.Proofs.Sha

set_option maxRecDepth 100000 in
set_option maxHeartbeats 1000000 in
theorem ssave_any (HD : Hid DigSaid) (n : Int) (a : Option Addr) (ss : List ByteArray) (c : Nat) (a2 : Option Addr) (ps : List PairT) (c2 : Nat) (w : World) (h : SArg a ss w) (hq : Hid (∀ j, (ss.getD j ⟨#[]⟩).size ≤ 1048575)) (h2 : PArg a2 ps w) (hc2 : ps.length ≤ c2) :
    Calls Tryz.prog 29 #[.agg #[.int .i64 n, .slice a ss.length c], .slice a2 ps.length c2] w (SavedIs (saveO n ss ps) w) := by
  by_cases hpm : (poolOk n ss.length && isMapT ps) = true
  · have hp2 := (Bool.and_eq_true _ _).mp hpm
    have hp' : 1 ≤ n ∧ n ≤ 32 ∧ ss.length ≤ 20000 := of_decide_eq_true hp2.1
    obtain ⟨wd, rfl⟩ : ∃ wd : Nat, n = (wd : Int) := ⟨n.toNat, by omega⟩
    have ho : saveO (wd : Int) ss ps = savO wd ss (cutTree ps) := by unfold saveO; rw [if_pos hpm]; rfl
    rw [ho]
    exact ssave_yes HD wd a ss c a2 ps c2 w h hq h2 hc2 (by omega) (by omega) hp'.2.2 hp2.2
  have ho : saveO n ss ps = codeO 1 := by unfold saveO; rw [if_neg hpm]
  rw [ho]
  have HV : Hid (∀ w', Calls Tryz.prog 73 #[.agg #[.int .i64 n, .slice a ss.length c]] w' fun e w'' => e = .returned (.bool (poolOk n ss.length)) ∧ Below w'.heap.size w' w'') := fun w' => poolOk_any n a ss.length c w' h.le
  have HM : Hid (∀ w', Below w.heap.size w w' → Calls Tryz.prog 45 #[.slice a2 ps.length c2] w' fun e w'' => e = .returned (.bool (isMapT ps)) ∧ Below w'.heap.size w' w'') := fun w' hb => mapOk_any a2 ps c2 w' (h2.below hb)
  have hbA : Below w.heap.size w ((w.alloc (.cells #[.int .i64 n, .slice a ss.length c] 37)).alloc (.cells #[.int .i64 0, .int .i64 0, .slice none 0 0, .string ⟨#[]⟩, .string ⟨#[]⟩, .string ⟨#[]⟩] 40)) := ((Below.refl _ _).alloc (Nat.le_refl _) _).alloc (by simp) _
  have nB := heap_alloc_new (w.alloc (.cells #[.int .i64 n, .slice a ss.length c] 37)) (.cells #[.int .i64 0, .int .i64 0, .slice none 0 0, .string ⟨#[]⟩, .string ⟨#[]⟩, .string ⟨#[]⟩] 40)
  have nA := (Below.heap_alloc (w.alloc (.cells #[.int .i64 n, .slice a ss.length c] 37)) (.cells #[.int .i64 0, .int .i64 0, .slice none 0 0, .string ⟨#[]⟩, .string ⟨#[]⟩, .string ⟨#[]⟩] 40) w.heap.size (by simp)).trans (heap_alloc_new w _)
  rw [World.size_alloc] at nB
  obtain ⟨gp, hgp⟩ : ∃ g, w.heap.size = g := ⟨_, rfl⟩
  have hge' : w.heap.size ≤ gp + 1 := by omega
  clear h h2 ho
  go_enter Tryz.func29, Tryz.ntmps29
  go_upto_region 1 with fail
  generalize (w.alloc (.cells #[.int .i64 n, .slice a ss.length c] 37)).alloc (.cells #[.int .i64 0, .int .i64 0, .slice none 0 0, .string ⟨#[]⟩, .string ⟨#[]⟩, .string ⟨#[]⟩] 40) = wA at hbA nA nB ⊢
  try rw [hgp]
  rw [hgp] at nA nB
  have p0 := Lib.cell_of_heap nA 0
  have p1 := Lib.cell_of_heap nA 1
  have HB : Hid (∀ W, Below wA.heap.size wA W → Below w.heap.size w W ∧ SB (gp + 1) 0 0 none 0 0 ⟨#[]⟩ ⟨#[]⟩ ⟨#[]⟩ W) := fun W hW => ⟨hbA.trans (hW.mono hbA.size), pblk_below hW nB⟩
  cases hp : poolOk n ss.length with
  | false =>
    rw [hp] at HV
    go_wp2_with (first | (go_at_call 73; refine (HV.out _).mono ?_; rintro e w1 ⟨rfl, hb1⟩; obtain ⟨hbw, hB1⟩ := HB.out _ hb1; obtain ⟨d0, d1, d2, d3, d4, d5, df⟩ := hB1.at))
    exact retS Tryz.results29 rfl rfl (hB1.all 1 0 none 0 0 ⟨#[]⟩ ⟨#[]⟩ ⟨#[]⟩) (SavedIs.code hbw hB1 hge')
  | true =>
    have hm : isMapT ps = false := by
      cases hm : isMapT ps with
      | false => rfl
      | true => exact absurd (by rw [hp, hm]; rfl) hpm
    rw [hp] at HV
    rw [hm] at HM
    go_wp2_with (first | (go_at_call 73; refine (HV.out _).mono ?_; rintro e w1 ⟨rfl, hb1⟩) | (go_at_call 45; refine (HM.out _ (hbA.trans (hb1.mono hbA.size))).mono ?_; rintro e w2 ⟨rfl, hb2⟩; obtain ⟨hbw, hB1⟩ := HB.out _ (hb1.trans (hb2.mono hb1.size)); obtain ⟨d0, d1, d2, d3, d4, d5, df⟩ := hB1.at))
    exact retS Tryz.results29 rfl rfl (hB1.all 1 0 none 0 0 ⟨#[]⟩ ⟨#[]⟩ ⟨#[]⟩) (SavedIs.code hbw hB1 hge')
end Go.Proofs.YtfmpjlpakldheaaGreatDoor
namespace Go.Proofs.YtfmpjlpakldheaaGreatDoor
open Go.RowKit Go.Proofs.Sha

end Go.Proofs.YtfmpjlpakldheaaGreatDoor
namespace Go.Proofs.YtfmpjlpakldheaaGreatDoor
open Go.RowKit Go.Proofs.Sha

end Go.Proofs.YtfmpjlpakldheaaGreatDoor
namespace Go.Proofs.YtfmpjlpakldheaaGreatDoor
open Go.RowKit Go.Proofs.Sha

set_option maxRecDepth 100000 in
set_option maxHeartbeats 1000000 in
theorem ld_any (fnd : ByteArray → FN) (wd : Nat) (hfo : FndOk wd fnd) (sb : Nat) (root : ByteArray) (v0 v2 : Value) (w : World) (hb : w.heap[sb]? = some (.cells #[v0, .int .i64 (wd : Int), v2] 178)) (hr : root.size ≤ 1048576)
    (HF : Hid (∀ (hash : ByteArray) w', hash.size = wd → Below w.heap.size w w' → Calls Tryz.prog 176 #[.pointer (some ⟨sb, 0, none⟩), .string hash] w' fun e w'' => e = .returned (nodeT (fnd hash)) ∧ Below w'.heap.size w' w''))
    (HR : Hid (∀ (k : ByteArray) w', okKey k = true → Below w.heap.size w w' → Calls Tryz.prog 158 #[Value.string k] w' fun e w'' => e = .returned (.agg (rkL k).toArray) ∧ Below w'.heap.size w' w'')) :
    Calls Tryz.prog 69 #[.pointer (some ⟨sb, 0, none⟩), .string root] w (RangeAt (if hashOk root.size (wd : Int) = true then (if (goF fnd hgW ⟨#[]⟩ ⟨#[]⟩ 501 root ⟨#[]⟩ ⟨#[]⟩ ⟨#[]⟩ 0).1 = 0 then ((goF fnd hgW ⟨#[]⟩ ⟨#[]⟩ 501 root ⟨#[]⟩ ⟨#[]⟩ ⟨#[]⟩ 0).2.2, 0) else ([], (goF fnd hgW ⟨#[]⟩ ⟨#[]⟩ 501 root ⟨#[]⟩ ⟨#[]⟩ ⟨#[]⟩ 0).1)) else ([], 1)) w) := by
  have HP := pw_any fnd wd hfo sb ⟨#[]⟩ ⟨#[]⟩ root v0 v2 w hb hr HF HR
  generalize (if hashOk root.size (wd : Int) = true then (if (goF fnd hgW ⟨#[]⟩ ⟨#[]⟩ 501 root ⟨#[]⟩ ⟨#[]⟩ ⟨#[]⟩ 0).1 = 0 then ((goF fnd hgW ⟨#[]⟩ ⟨#[]⟩ 501 root ⟨#[]⟩ ⟨#[]⟩ ⟨#[]⟩ 0).2.2, (0 : Int)) else ([], (goF fnd hgW ⟨#[]⟩ ⟨#[]⟩ 501 root ⟨#[]⟩ ⟨#[]⟩ ⟨#[]⟩ 0).1)) else ([], 1)) = X at HP ⊢
  have HQ : Hid (∀ e w2, RangeAt X w e w2 → ∃ a' c', e = .returned (.tuple #[.slice a' X.1.length c', .int .i64 X.2]) ∧ RangeAt X w e w2) := fun e w2 hR => by
    obtain ⟨⟨a', c', he, ho⟩, hb2⟩ := hR
    exact ⟨a', c', he, ⟨⟨a', c', he, ho⟩, hb2⟩⟩
  clear HF HR hfo hb
  go_enter Tryz.func69, Tryz.ntmps69
  go_wp2_with (first | (go_at_call 77; refine HP.mono ?_; intro e w3 hR3; obtain ⟨a3, c3, rfl, hR3⟩ := HQ.out _ _ hR3))
  go_ret2
  exact hR3
set_option maxRecDepth 100000 in
theorem sload_any (X : List PairT × Int) (v : Value) (root : ByteArray) (w : World) (hv : ∃ n a m c, v = .agg #[.int .i64 n, .slice a m c]) (HP : ∀ w', Below w.heap.size w w' → Calls Tryz.prog 24 #[v, .string root, .string ⟨#[]⟩, .string ⟨#[]⟩] w' (RangeAt X w')) :
    Calls Tryz.prog 26 #[v, .string root] w (RangeAt X w) := by
  obtain ⟨n, a, m, c, rfl⟩ := hv
  have hA : Below w.heap.size w (w.alloc (.cells #[.int .i64 n, .slice a m c] 37)) := (Below.refl _ _).alloc (Nat.le_refl _) _
  have HP' := HP _ hA
  have HQ : Hid (∀ e w2, RangeAt X (w.alloc (.cells #[.int .i64 n, .slice a m c] 37)) e w2 → ∃ a' c', e = .returned (.tuple #[.slice a' X.1.length c', .int .i64 X.2]) ∧ RangeAt X w e w2) := fun e w2 hR => by
    obtain ⟨⟨a', c', he, ho⟩, hb2⟩ := hR
    exact ⟨a', c', he, ⟨⟨a', c', he, own2_mono ho hA.size⟩, hA.trans (hb2.mono hA.size)⟩⟩
  clear HP
  go_enter Tryz.func26, Tryz.ntmps26
  go_wp2_with (first | (go_at_call 24; refine HP'.mono ?_; intro e w3 hR3; obtain ⟨a3, c3, rfl, hR3⟩ := HQ.out _ _ hR3))
  go_ret2
  exact hR3
end Go.Proofs.YtfmpjlpakldheaaGreatDoor
namespace Go.Proofs.YtfmpjlpakldheaaGreatDoor
open Go.RowKit Go.Proofs.Sha

end Go.Proofs.YtfmpjlpakldheaaGreatDoor
namespace Go.Proofs.YtfmpjlpakldheaaGreatDoor
open Go.RowKit Go.Proofs.Sha

end Go.Proofs.YtfmpjlpakldheaaGreatDoor
namespace Go.Proofs.YtfmpjlpakldheaaGreatDoor
open Go.RowKit Go.Proofs.Sha

end Go.Proofs.YtfmpjlpakldheaaGreatDoor
namespace Go.Proofs.YtfmpjlpakldheaaGreatDoor
open Go.RowKit Go.Proofs.Sha

theorem wout_mem {ps : List PairT} {k : ByteArray} {p : PairT} (h : p ∈ wout ps k) : p ∈ ps := (List.mem_filter.1 h).1
theorem ins_mem {k v : ByteArray} : ∀ {ps : List PairT} {p : PairT}, p ∈ ins k v ps → p = (k, v) ∨ p ∈ ps
  | [], p, h => .inl (List.mem_singleton.1 h)
  | q :: qs, p, h => by
    rw [ins] at h
    split at h
    · exact List.mem_cons.1 h
    · rcases List.mem_cons.1 h with h | h
      · exact .inr (by rw [h]; exact List.mem_cons_self ..)
      · rcases ins_mem h with h | h
        · exact .inl h
        · exact .inr (List.mem_cons_of_mem _ h)
theorem ins_len (k v : ByteArray) : ∀ (ps : List PairT), (ins k v ps).length = ps.length + 1
  | [] => rfl
  | q :: qs => by
    rw [ins]
    split
    · rfl
    · rw [List.length_cons, ins_len k v qs]; rfl
theorem wth_mem {ps : List PairT} {k v : ByteArray} {p : PairT} (h : p ∈ wth ps k v) : p = (k, v) ∨ p ∈ ps := by
  rcases ins_mem h with h | h
  · exact .inl h
  · exact .inr (wout_mem h)
theorem wthLen (ps : List PairT) (k v : ByteArray) : (wth ps k v).length ≤ ps.length + 1 := by
  unfold wth
  rw [ins_len]
  have := wout_le ps k
  omega
theorem smallP_of {ps : List PairT} (h : ps.length ≤ 1048576) (hs : ∀ p ∈ ps, p.1.size ≤ 1048576 ∧ p.2.size ≤ 1048576) : SmallP ps := by
  refine ⟨h, fun j => ?_⟩
  by_cases hj : j < ps.length
  · rw [getD_lt ps j hj]
    exact hs _ (List.getElem_mem _)
  · rw [pget_out ps j (by omega)]
    exact noP_small
end Go.Proofs.YtfmpjlpakldheaaGreatDoor
namespace Go.Proofs.YtfmpjlpakldheaaGreatDoor
open Go.RowKit Go.Proofs.Sha

/-- A drawn key and a drawn value, at every place. -/
theorem kv_det (a : Option Addr) (xs : List Nat) (cap : Nat) (hX : Code8 xs) : ∃ kf vf : Nat → ByteArray, ∀ p : Nat, p ≤ 80000 → (kf p).size ≤ 70 ∧ (vf p).size ≤ 300 ∧ (∀ w, BL a xs w → Calls Tryz.prog 86 #[.slice a xs.length cap, .int .i64 (p : Int)] w fun e w' => e = .returned (.tuple #[.string (kf p), .int .i64 ((p + 1 : Nat) : Int)]) ∧ Below w.heap.size w w') ∧ ∀ w, BL a xs w → Calls Tryz.prog 87 #[.slice a xs.length cap, .int .i64 (p : Int)] w fun e w' => e = .returned (.tuple #[.string (vf p), .int .i64 ((p + 2 : Nat) : Int)]) ∧ Below w.heap.size w w' := by
  have h : ∀ p : Nat, ∃ kv : ByteArray × ByteArray, p ≤ 80000 → kv.1.size ≤ 70 ∧ kv.2.size ≤ 300 ∧ (∀ w, BL a xs w → Calls Tryz.prog 86 #[.slice a xs.length cap, .int .i64 (p : Int)] w fun e w' => e = .returned (.tuple #[.string kv.1, .int .i64 ((p + 1 : Nat) : Int)]) ∧ Below w.heap.size w w') ∧ ∀ w, BL a xs w → Calls Tryz.prog 87 #[.slice a xs.length cap, .int .i64 (p : Int)] w fun e w' => e = .returned (.tuple #[.string kv.2, .int .i64 ((p + 2 : Nat) : Int)]) ∧ Below w.heap.size w w' := fun p => by
    by_cases hp : p ≤ 80000
    · obtain ⟨k, hk, HK⟩ := key_det a xs cap p hX (by omega)
      obtain ⟨v, hv, HV⟩ := val_det a xs cap p hX (by omega)
      exact ⟨(k, v), fun _ => ⟨hk, hv, HK, HV⟩⟩
    · exact ⟨(⟨#[]⟩, ⟨#[]⟩), fun q => absurd q hp⟩
  obtain ⟨f, hf⟩ := Classical.axiomOfChoice h
  exact ⟨fun p => (f p).1, fun p => (f p).2, hf⟩
/-- A map while it is drawn. -/
def mapD (kf vf : Nat → ByteArray) (p : Nat) : Nat → List PairT
  | 0 => []
  | i + 1 => wth (mapD kf vf p i) (kf (p + 3 * i)) (vf (p + 3 * i + 1))
/-- A list of pairs that is small. -/
structure SmP (ps : List PairT) (n : Nat) : Prop where
  len : ps.length ≤ n
  up : KeysUp (keys ps)
  sz : ∀ q ∈ ps, q.1.size ≤ 70 ∧ q.2.size ≤ 300
theorem SmP.small {ps : List PairT} {n : Nat} (h : SmP ps n) (hn : n ≤ 100000) : SmallP ps := smallP_of (by have := h.len; omega) (fun q hq => by have := h.sz q hq; omega)
theorem SmP.wth {ps : List PairT} {n : Nat} (h : SmP ps n) {k v : ByteArray} (hk : k.size ≤ 70) (hv : v.size ≤ 300) : SmP (wth ps k v) (n + 1) :=
  ⟨by have := wthLen ps k v; have := h.len; omega, ku_wth h.up k v, fun q hq => by
    rcases wth_mem hq with e | e
    · rw [e]; exact ⟨hk, hv⟩
    · exact h.sz q e⟩
theorem SmP.wout {ps : List PairT} {n : Nat} (h : SmP ps n) (k : ByteArray) : SmP (wout ps k) n :=
  ⟨Nat.le_trans (wout_le ps k) h.len, ku_wout h.up k, fun q hq => h.sz q (wout_mem hq)⟩
set_option maxRecDepth 100000 in
set_option maxHeartbeats 1000000 in
theorem map1_det (a : Option Addr) (xs : List Nat) (cap p n : Nat) (hX : Code8 xs) (hp : p ≤ 70000) (hn : n ≤ 100) :
    ∃ ps : List PairT, (SmP ps n ∧ (0 < n → 0 < ps.length)) ∧ ∀ w, BL a xs w → Calls Tryz.prog 92 #[.slice a xs.length cap, .int .i64 (p : Int), .int .i64 (n : Int)] w fun e w' => ∃ a' c', e = .returned (.tuple #[.slice a' ps.length c', .int .i64 ((p + 3 * n : Nat) : Int)]) ∧ OwnP w ps a' ps.length c' w' := by
  obtain ⟨kf, vf, hkv⟩ := kv_det a xs cap hX
  have hsm : ∀ i, i ≤ n → SmP (mapD kf vf p i) i := by
    intro i
    induction i with
    | zero => intro _; exact ⟨Nat.le_refl _, trivial, fun q hq => by cases hq⟩
    | succ i ih =>
      intro hi
      exact (ih (by omega)).wth (hkv _ (by omega)).1 (hkv _ (by omega)).2.1
  refine ⟨mapD kf vf p n, ⟨hsm n (Nat.le_refl _), fun h0 => ?_⟩, fun w hB => ?_⟩
  · obtain ⟨i, rfl⟩ : ∃ i, n = i + 1 := ⟨n - 1, by omega⟩
    have hm : kf (p + 3 * i) ∈ keys (mapD kf vf p (i + 1)) := mem_wth.2 (.inl rfl)
    have h1 := List.length_pos_of_mem hm
    unfold keys at h1
    rwa [List.length_map] at h1
  have HKV : Hid (∀ i w', i ≤ n → Below w.heap.size w w' → Calls Tryz.prog 86 #[.slice a xs.length cap, .int .i64 ((p + 3 * i : Nat) : Int)] w' (fun e w'' => e = .returned (.tuple #[.string (kf (p + 3 * i)), .int .i64 ((p + 3 * i + 1 : Nat) : Int)]) ∧ Below w'.heap.size w' w'') ∧ Calls Tryz.prog 87 #[.slice a xs.length cap, .int .i64 ((p + 3 * i + 1 : Nat) : Int)] w' (fun e w'' => e = .returned (.tuple #[.string (vf (p + 3 * i + 1)), .int .i64 ((p + 3 * i + 1 + 2 : Nat) : Int)]) ∧ Below w'.heap.size w' w'')) := fun i w' hi hb => ⟨(hkv (p + 3 * i) (by omega)).2.2.1 w' (hB.below hb), (hkv (p + 3 * i + 1) (by omega)).2.2.2 w' (hB.below hb)⟩
  have HW : Hid (∀ i a3 c3 w', i < n → PArg a3 (mapD kf vf p i) w' → Calls Tryz.prog 91 #[.slice a3 (mapD kf vf p i).length c3, .string (kf (p + 3 * i)), .string (vf (p + 3 * i + 1))] w' (PairsAt (mapD kf vf p (i + 1)) w')) := fun i a3 c3 w' hi hP => with_any a3 _ c3 _ _ w' hP (by have := (hkv (p + 3 * i) (by omega)).1; omega) (by have := (hsm i (by omega)).len; omega)
  have hO : OwnP w [] (some ⟨w.heap.size, 0, none⟩) 0 0 (w.alloc (.cells #[] 34)) := OwnP.nil w
  have HP : Hid (∀ i a3 m c3 W, i ≤ n → OwnP w (mapD kf vf p i) a3 m c3 W → PArg a3 (mapD kf vf p i) W) := fun i a3 m c3 W hi h => ownp_parg h ((hsm i hi).small (by omega))
  clear hB hkv hsm
  obtain ⟨L, hL⟩ : ∃ L, xs.length = L := ⟨_, rfl⟩
  rw [hL] at HKV ⊢
  clear hL
  go_enter Tryz.func92, Tryz.ntmps92
  go_wp2_with fail
  generalize w.alloc (.cells #[] 34) = W0 at hO ⊢
  obtain ⟨g0, hg0⟩ : ∃ g, w.heap.size = g := ⟨_, rfl⟩
  have hO' : OwnP w [] (some ⟨g0, 0, none⟩) 0 0 W0 := by rw [← hg0]; exact hO
  try rw [hg0]
  clear hO hg0
  go_loopw [1, 8, 9] (fun t1 t8 t9 wr => ∃ (i : Nat) (a3 : Option Addr) (c3 : Nat), i ≤ n ∧ t9 = .int .i64 (i : Int) ∧ t1 = .int .i64 ((p + 3 * i : Nat) : Int) ∧ t8 = .slice a3 (mapD kf vf p i).length c3 ∧ OwnP w (mapD kf vf p i) a3 (mapD kf vf p i).length c3 wr) (fun _ _ t9 _ => n - (intOf t9).toNat)
  case atStart => exact ⟨0, some ⟨g0, 0, none⟩, 0, Nat.zero_le _, rfl, rfl, rfl, hO'⟩
  case round =>
    clear hO'
    obtain ⟨i, a3, c3, hi, rfl, rfl, rfl, hT⟩ := hrel
    by_cases hlt : i < n
    · have z1 : decide ((i : Int) < (n : Int)) = true := by simp; omega
      have hP := HP.out i a3 _ c3 wr hi hT
      have HW' : Hid (∀ w', PArg a3 (mapD kf vf p i) w' → Calls Tryz.prog 91 #[.slice a3 (mapD kf vf p i).length c3, .string (kf (p + 3 * i)), .string (vf (p + 3 * i + 1))] w' (PairsAt (mapD kf vf p (i + 1)) w')) := fun w' q => HW.out i a3 c3 w' hlt q
      unfold PairsAt at HW'
      have HKV' : Hid (∀ w', Below w.heap.size w w' → Calls Tryz.prog 86 #[.slice a L cap, .int .i64 ((p + 3 * i : Nat) : Int)] w' (fun e w'' => e = .returned (.tuple #[.string (kf (p + 3 * i)), .int .i64 ((p + 3 * i + 1 : Nat) : Int)]) ∧ Below w'.heap.size w' w'') ∧ Calls Tryz.prog 87 #[.slice a L cap, .int .i64 ((p + 3 * i + 1 : Nat) : Int)] w' (fun e w'' => e = .returned (.tuple #[.string (vf (p + 3 * i + 1)), .int .i64 ((p + 3 * i + 1 + 2 : Nat) : Int)]) ∧ Below w'.heap.size w' w'')) := fun w' hb => HKV.out i w' hi hb
      have hbw := hT.bel
      have hnx : Hid (p + 3 * i + 1 + 2 = p + 3 * (i + 1)) := by show _ = _; omega
      obtain ⟨X, hX'⟩ : ∃ X, mapD kf vf p i = X := ⟨_, rfl⟩
      obtain ⟨Y, hY⟩ : ∃ Y, mapD kf vf p (i + 1) = Y := ⟨_, rfl⟩
      have hYH : Hid (mapD kf vf p (i + 1) = Y) := hY
      rw [hX'] at HW' hP
      rw [hX']
      rw [hY] at HW'
      generalize kf (p + 3 * i) = ky at HKV' HW'
      generalize vf (p + 3 * i + 1) = vl at HKV' HW'
      obtain ⟨q0, hq0⟩ : ∃ q, p + 3 * i = q := ⟨_, rfl⟩
      rw [hq0] at HKV' hnx ⊢
      clear hT hX' hY hq0
      go_wp2_with (first | (go_at_call 86; refine (HKV'.out _ hbw).1.mono ?_; rintro e w1 ⟨rfl, hb1⟩; have hbw1 := hbw.trans (hb1.mono hbw.size)) | (go_at_call 87; refine (HKV'.out _ hbw1).2.mono ?_; rintro e w2 ⟨rfl, hb2⟩; have hbw2 := hbw1.trans (hb2.mono hbw1.size)) | (go_at_call 91; refine (HW'.out _ ((hP.below hb1).below hb2)).mono ?_; rintro e w3 ⟨a4, c4, rfl, hT4⟩; have hT4' := hT4.up hbw2))
      go_roundw
      case rel => exact ⟨i + 1, a4, c4, hlt, by go_num, by rw [← hnx.out]; rfl, by rw [hYH.out], by rw [hYH.out]; exact hT4'⟩
      case measure => simp [intOf]; omega
    · obtain rfl : i = n := by omega
      have z1 : decide ((i : Int) < (i : Int)) = false := by simp
      go_wp2_with fail
      go_ret2
      exact ⟨a3, c3, rfl, hT⟩
theorem map_det (a : Option Addr) (xs : List Nat) (cap p n : Nat) (hX : Code8 xs) (hp : p ≤ 70000) (hn : n ≤ 100) :
    ∃ ps : List PairT, SmP ps n ∧ ∀ w, BL a xs w → Calls Tryz.prog 92 #[.slice a xs.length cap, .int .i64 (p : Int), .int .i64 (n : Int)] w fun e w' => ∃ a' c', e = .returned (.tuple #[.slice a' ps.length c', .int .i64 ((p + 3 * n : Nat) : Int)]) ∧ OwnP w ps a' ps.length c' w' := by
  obtain ⟨ps, ⟨h1, _⟩, H⟩ := map1_det a xs cap p n hX hp hn
  exact ⟨ps, h1, H⟩
end Go.Proofs.YtfmpjlpakldheaaGreatDoor
namespace Go.Proofs.YtfmpjlpakldheaaGreatDoor
open Go.RowKit Go.Proofs.Sha

theorem own2_le {w : World} {base n m c : Nat} {a : Option Addr} {xs : List Value} (h : w.ownsRow base 34 2 (.slice a m c) n xs) : m ≤ c := by
  rcases h.2 with ⟨e, h0⟩ | ⟨g, cap, cur, e, hb, hg, q1, q2, q3, q4⟩
  · simp only [Value.slice.injEq] at e; omega
  · simp only [Value.slice.injEq] at e
    omega
theorem sld_any (HD : Hid DigSaid) (D : Dec) (n : Int) (HD2 : Hid (∀ wd : Nat, (wd : Int) = n → 1 ≤ wd → wd ≤ 32 → DecSaid 148 wd D)) (hdo : ∀ wd : Nat, (wd : Int) = n → DecOk wd D) (a : Option Addr) (ss : List ByteArray) (c : Nat) (root : ByteArray) (w : World) (h : SArg a ss w) (hs : Hid (∀ j, (ss.getD j ⟨#[]⟩).size ≤ 1048575)) (hr : root.size ≤ 1048576) :
    Calls Tryz.prog 26 #[.agg #[.int .i64 n, .slice a ss.length c], .string root] w (RangeAt (rangeM (fndD D n.toNat ss) n ss.length root ⟨#[]⟩ ⟨#[]⟩) w) := by
  refine sload_any _ _ root w ⟨_, _, _, _, rfl⟩ fun w' hb => ?_
  have hS := h.below hb
  cases hp : (poolOk n ss.length && hashOk root.size n) with
  | false => rw [rangeM_bad hp]; exact srange_bad n _ ss.length c root ⟨#[]⟩ ⟨#[]⟩ w' hS.le hr hp
  | true =>
    have hp2 := (Bool.and_eq_true _ _).mp hp
    have hp' : 1 ≤ n ∧ n ≤ 32 ∧ ss.length ≤ 20000 := of_decide_eq_true hp2.1
    obtain ⟨wd, rfl⟩ : ∃ wd : Nat, n = (wd : Int) := ⟨n.toNat, by omega⟩
    rw [Int.toNat_natCast]
    exact srange_good HD D wd (HD2.out wd rfl (by omega) (by omega)) (hdo wd rfl) _ ss c root ⟨#[]⟩ ⟨#[]⟩ w' hS hs (by omega) (by omega) hr (Nat.zero_le _) (Nat.zero_le _) hp2.1 hp2.2
end Go.Proofs.YtfmpjlpakldheaaGreatDoor
