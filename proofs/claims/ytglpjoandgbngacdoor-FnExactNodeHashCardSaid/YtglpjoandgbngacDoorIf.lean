import Derived.Test.YtglpjoandgbngacDoorIe
import Derived.Test.YtglpjoandgbngacDoorL2
namespace Go.Proofs.YtglpjoandgbngacDoor
open Go.RowKit Go.Proofs.Sha

theorem size5 : (Tryd.prog.info? 5).map (·.size) = some 1 := by kernel_rfl
def lenS : Value → Nat | .string s => s.size | _ => 0

set_option maxRecDepth 100000 in
set_option maxHeartbeats 1600000 in
theorem feed_any (b : Nat) (p kb : List UInt8) (s : ByteArray) (w : World) (F : Fed w b p kb p.length) (hsz : p.length + s.size ≤ 2000000) (hb0 : b ≠ 0)
    (hK : ∀ j, j < 64 → w.cell? ⟨0, j, none⟩ = some (.int .u32 ((kTab.getD j 0).toNat : Int))) :
    Calls Tryd.prog 21 #[.pointer (some ⟨b, 0, none⟩), .string s] w fun e w' => e = .returned (.tuple #[]) ∧ (∃ k', Fed w' b (p ++ s.data.toList) k' (p.length + s.size)) ∧ w.grownBy w' (some b) := by
  have hl0 : 0 < w.heap.size := by have := F.H.lt; omega
  have HK : Hid (∀ w' : World, w.grownBy w' (some b) → ∀ j, j < 64 → w'.cell? ⟨0, j, none⟩ = some (.int .u32 ((kTab.getD j 0).toNat : Int))) := fun w' hg j hj => (hg.cell_far _ hl0 (by simp; omega)).trans (hK j hj)
  clear hK
  have hsl : s.data.toList.length = s.size := rfl
  have cs := F.H.sz
  have cf := F.H.fr 73 (by omega)
  go_enter Tryd.func21, Tryd.ntmps21
  go_wp2_with fail
  obtain ⟨w1, hw1⟩ : ∃ w1, w1 = w.setCell ⟨b, 73, none⟩ (.int .u64 ((p.length : Int) + (s.size : Int))) := ⟨_, rfl⟩
  rw [← hw1]
  have F1 : Fed w1 b (p ++ s.data.toList.take 0) kb (p.length + s.size) := by
    rw [hw1, List.take_zero, List.append_nil]; exact ⟨F.H.setSize (p.length + s.size), F.tk⟩
  have hg1 : w.grownBy w1 (some b) := by rw [hw1]; exact grownBy_setCell _ _ _ _
  clear hw1 cs cf F
  go_loopw [1] (fun v wr => ∃ (c : Nat) (t : ByteArray) (k : List UInt8), v = .string t ∧ Hid (t.data.toList = s.data.toList.drop c) ∧ t.size + c ≤ s.size ∧ s.size ≤ t.size + c ∧ Fed wr b (p ++ s.data.toList.take c) k (p.length + s.size) ∧ w.grownBy wr (some b)) (fun v _ => lenS v)
  case atStart => exact ⟨0, s, kb, rfl, rfl, by omega, by omega, F1, hg1⟩
  case round =>
    clear F1 hg1
    obtain ⟨c, t, k, rfl, HT, ht1, ht2, F, hgr⟩ := hrel
    have hPl : (p ++ s.data.toList.take c).length = p.length + c := by rw [List.length_append, List.length_take, hsl]; omega
    by_cases hlt : 0 < t.size
    · obtain ⟨P, hP⟩ : ∃ P, p ++ s.data.toList.take c = P := ⟨_, rfl⟩
      rw [hP] at F hPl
      have HP : Hid (p ++ s.data.toList.take c = P) := hP
      clear hP
      obtain ⟨held, hheld⟩ : ∃ held, P.length % 64 = held := ⟨_, rfl⟩
      obtain ⟨H, tk⟩ := F
      rw [hheld] at H tk
      have hh : held < 64 := by omega
      have HH : Hid (P.length % 64 = held ∧ P.length = p.length + c ∧ k.take held = P.drop (64 * (P.length / 64))) := ⟨hheld, hPl, tk⟩
      clear hheld hPl tk
      obtain ⟨n, hn⟩ : ∃ n, n = Nat.min t.size (64 - held) := ⟨_, rfl⟩
      have hn1 : n ≤ t.size := by rw [hn]; exact Nat.min_le_left _ _
      have hn2 : n ≤ 64 - held := by rw [hn]; exact Nat.min_le_right _ _
      have hn3 : 0 < n := by rw [hn]; exact Nat.lt_min.2 ⟨hlt, by omega⟩
      have HN : Hid (n = Nat.min t.size (64 - held)) := hn
      have hn4 : n = t.size ∨ n = 64 - held := by rw [hn]; exact (Nat.le_total t.size (64 - held)).imp (fun h => Nat.min_eq_left h) (fun h => Nat.min_eq_right h)
      clear hn
      have HKL : Hid (k.length = 64) := H.kl
      have cd := H.hd
      have q0 : (0 : Int) ≤ (held : Int) := by omega
      have q1 : (held : Int) ≤ 64 := by omega
      have q2 : ¬ (64 : Nat) = held := by omega
      go_wp2_with fail
      go_region_held3 (fun w' => w'.cell? ⟨b, 72, none⟩ = some (.int .i64 (held : Int))) (first | exact cd | exact H2.hd)
        ((refine step_copy_at (by rfl) _ _ _ _ (by rfl) 5 Tryd.underlying34 size5 b _ k held _ H.drew (8 + held) (64 - held) (64 - held) rfl (by omega) (by rfl) t (by rfl) n HN.out ?_; intro w2 H2 hg2))
      have cd2 := H2.hd
      have cf2 := H2.fr 72 (by omega)
      clear H cd
      have hyl : (t.data.toList.take n).length = n := by rw [List.length_take]; exact Nat.min_eq_left hn1
      have hkl : k.length = 64 := HKL.out
      have hPP : P ++ t.data.toList.take n = p ++ s.data.toList.take (c + n) := by rw [← HP.out, HT.out, take_step, List.append_assoc]
      have hex : (t.extract n t.size).data.toList = s.data.toList.drop (c + n) := by rw [extract_list, HT.out, List.drop_drop]
      have hes := extract_size t n
      obtain ⟨t', ht'⟩ : ∃ t', t.extract n t.size = t' := ⟨_, rfl⟩
      have HT' : Hid (t.extract n t.size = t') := ht'
      rw [ht'] at hex hes
      have HX : Hid (t'.data.toList = s.data.toList.drop (c + n)) := hex
      have hs1 : t'.size + (c + n) ≤ s.size := by omega
      have hs2 : s.size ≤ t'.size + (c + n) := by omega
      have hs3 : t'.size < t.size := by omega
      have HPP : Hid (P ++ t.data.toList.take n = p ++ s.data.toList.take (c + n)) := hPP
      have HYL : Hid ((t.data.toList.take n).length = n) := hyl
      clear ht' hex hes hPP hyl hkl
      by_cases hfull : held + n = 64
      · go_wp2_with fail
        rw [HT'.out]
        obtain ⟨w3, hw3⟩ : ∃ w3, w3 = w2.setCell ⟨b, 72, none⟩ (.int .i64 ((held : Int) + (n : Int))) := ⟨_, rfl⟩
        rw [← hw3]
        have H3 := H2.setHeld (held + n)
        have hg3 : w.grownBy w3 (some b) := by rw [hw3]; exact grownBy_trans (grownBy_trans (grownBy_drewR hgr) hg2) (grownBy_setCell _ _ _ _)
        have H3' : Hsh w3 b (blocks P (P.length / 64)) (k.take held ++ t.data.toList.take n ++ k.drop (held + n)) (held + n) (p.length + s.size) := by rw [hw3]; exact H3
        clear H3 hw3 H2 cd2 cf2
        refine (mix_h b _ _ _ _ w3 H3' hb0 (HK.out w3 hg3)).mono ?_
        rintro e w4 ⟨rfl, H4, hg4⟩
        have F4 := fed_full H4 HH.out.1 HH.out.2.2 HYL.out HKL.out hfull
        rw [HPP.out] at F4
        clear H3' H4
        go_wp2
        go_roundw
        case rel => exact ⟨c + n, t', _, rfl, HX, hs1, hs2, F4, grownBy_trans hg3 hg4⟩
        case measure => simp only [lenS]; omega
      · go_wp2
        rw [HT'.out]
        go_roundw
        case rel =>
          have H3 := H2.setHeld (held + n)
          have F4 := fed_part H3 HH.out.1 HH.out.2.2 HYL.out HKL.out (by omega)
          rw [HPP.out] at F4
          exact ⟨c + n, t', _, rfl, HX, hs1, hs2, F4, grownBy_trans (grownBy_trans (grownBy_drewR hgr) hg2) (grownBy_setCell _ _ _ _)⟩
        case measure => simp only [lenS]; omega
    · go_wp2
      go_end0
      have hc : c = s.size := by omega
      have e : s.data.toList.take c = s.data.toList := List.take_of_length_le (by rw [hsl]; omega)
      rw [e] at F
      exact ⟨rfl, ⟨k, F⟩, hgr⟩
end Go.Proofs.YtglpjoandgbngacDoor
