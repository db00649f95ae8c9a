import Derived.Test.YtfmpjlpakldheaaGreatDoorZrag
import Derived.Test.YtfmpjlpakldheaaGreatDoorZraf
import Derived.Test.YtfmpjlpakldheaaGreatDoorZrab
import Derived.Test.YtfmpjlpakldheaaGreatDoorZrad
import Derived.Test.YtfmpjlpakldheaaGreatDoorZraa
import Derived.DeepKeys5
set_option maxRecDepth 100000
set_option maxHeartbeats 1600000
namespace Go.Proofs.YtfmpjlpakldheaaGreatDoor
open Go.RowKit Go.Proofs.Sha Tryz
theorem size5 : (prog.info? 5).map (·.size) = some 1 := by kernel_rfl
def lenS : Value -> Nat | .string s => s.size | _ => 0
theorem feed_any (b : Nat) (p kb : List UInt8) (s : ByteArray) (w : World) (F : Fed w b p kb p.length) (hsz : p.length + s.size <= 2000000) (hb0 : b ≠ 0)
 (hK : ∀ j, j < 64 -> w.cell? ⟨0, j, none⟩ = some (.int .u32 ((kTab.getD j 0).toNat : Int))) :
 Calls prog 127 #[.pointer (some ⟨b, 0, none⟩), .string s] w fun e w' => e = .returned (.tuple #[]) /\ (∃ k', Fed w' b (p ++ s.data.toList) k' (p.length + s.size)) /\ w.grownBy w' (some b) := by
 have hl0 : 0 < w.heap.size := by have := F.H.lt; omega
 have HK : Hid (∀ w' : World, w.grownBy w' (some b) -> ∀ j, j < 64 -> w'.cell? ⟨0, j, none⟩ = some (.int .u32 ((kTab.getD j 0).toNat : Int))) := fun w' hg j hj => (hg.cell_far _ hl0 (by simp; omega)).trans (hK j hj)
 clear hK
 have hsl : s.data.toList.length = s.size := rfl
 have cs := F.H.sz
 have cf := F.H.fr 73 (by omega)
 go_enter func127, ntmps127
 go_wp2_with fail
 obtain ⟨w1, hw1⟩ : ∃ w1, w1 = w.setCell ⟨b, 73, none⟩ (.int .u64 ((p.length : Int) + (s.size : Int))) := ⟨_, rfl⟩
 rw [<- hw1]
 have F1 : Fed w1 b (p ++ s.data.toList.take 0) kb (p.length + s.size) := by
  rw [hw1, List.take_zero, List.append_nil]; exact ⟨F.H.setSize (p.length + s.size), F.tk⟩
 have hg1 : w.grownBy w1 (some b) := by rw [hw1]; exact grownBy_setCell _ _ _ _
 clear hw1 cs cf F
 go_loopw [1] (fun v wr => ∃ (c : Nat) (t : ByteArray) (k : List UInt8), v = .string t /\ Hid (t.data.toList = s.data.toList.drop c) /\ t.size + c <= s.size /\ s.size <= t.size + c /\ Fed wr b (p ++ s.data.toList.take c) k (p.length + s.size) /\ w.grownBy wr (some b)) (fun v _ => lenS v)
 case atStart => exact ⟨0, s, kb, rfl, rfl, by omega, by omega, F1, hg1⟩
 case round =>
  clear F1 hg1
  obtain ⟨c, t, k, rfl, HT, ht1, ht2, F, hgr⟩ := hrel
  have hPl : (p ++ s.data.toList.take c).length = p.length + c := by rw [List.length_append, List.length_take, hsl]; omega
  by_cases hlt : 0 < t.size
  · obtain ⟨P, hP⟩ : ∃ P, p ++ s.data.toList.take c = P := ⟨_, rfl⟩
    rw [hP] at F hPl
    have HP : Hid (p ++ s.data.toList.take c = P) := hP
    clear hP
    obtain ⟨held, hheld⟩ : ∃ held, P.length % 64 = held := ⟨_, rfl⟩
    obtain ⟨H, tk⟩ := F
    rw [hheld] at H tk
    have hh : held < 64 := by omega
    have HH : Hid (P.length % 64 = held /\ P.length = p.length + c /\ k.take held = P.drop (64 * (P.length / 64))) := ⟨hheld, hPl, tk⟩
    clear hheld hPl tk
    obtain ⟨n, hn⟩ : ∃ n, n = Nat.min t.size (64 - held) := ⟨_, rfl⟩
    have hn1 : n <= t.size := by rw [hn]; exact Nat.min_le_left _ _
    have hn2 : n <= 64 - held := by rw [hn]; exact Nat.min_le_right _ _
    have hn3 : 0 < n := by rw [hn]; exact Nat.lt_min.2 ⟨hlt, by omega⟩
    have HN : Hid (n = Nat.min t.size (64 - held)) := hn
    have hn4 : n = t.size \/ n = 64 - held := by rw [hn]; exact (Nat.le_total t.size (64 - held)).imp (fun h => Nat.min_eq_left h) (fun h => Nat.min_eq_right h)
    clear hn
    have HKL : Hid (k.length = 64) := H.kl
    have cd := H.hd
    have q0 : (0 : Int) <= (held : Int) := by omega
    have q1 : (held : Int) <= 64 := by omega
    have q2 : ¬ (64 : Nat) = held := by omega
    go_wp2_with fail
    go_region_held3 (fun w' => w'.cell? ⟨b, 72, none⟩ = some (.int .i64 (held : Int))) (first | exact cd | exact H2.hd)
     ((refine step_copy_at (by rfl) _ _ _ _ (by rfl) 5 Tryz.underlying22 size5 b _ k held _ H.drew (8 + held) (64 - held) (64 - held) rfl (by omega) (by rfl) t (by rfl) n HN.out ?_; intro w2 H2 hg2))
    have cd2 := H2.hd
    have cf2 := H2.fr 72 (by omega)
    clear H cd
    have hyl : (t.data.toList.take n).length = n := by rw [List.length_take]; exact Nat.min_eq_left hn1
    have hkl : k.length = 64 := HKL.out
    have hPP : P ++ t.data.toList.take n = p ++ s.data.toList.take (c + n) := by rw [<- HP.out, HT.out, take_step, List.append_assoc]
    have hex : (t.extract n t.size).data.toList = s.data.toList.drop (c + n) := by rw [extract_list, HT.out, List.drop_drop]
    have hes := extract_size t n
    obtain ⟨t', ht'⟩ : ∃ t', t.extract n t.size = t' := ⟨_, rfl⟩
    have HT' : Hid (t.extract n t.size = t') := ht'
    rw [ht'] at hex hes
    have HX : Hid (t'.data.toList = s.data.toList.drop (c + n)) := hex
    have hs1 : t'.size + (c + n) <= s.size := by omega
    have hs2 : s.size <= t'.size + (c + n) := by omega
    have hs3 : t'.size < t.size := by omega
    have HPP : Hid (P ++ t.data.toList.take n = p ++ s.data.toList.take (c + n)) := hPP
    have HYL : Hid ((t.data.toList.take n).length = n) := hyl
    clear ht' hex hes hPP hyl hkl
    by_cases hfull : held + n = 64
    · go_wp2_with fail
      rw [HT'.out]
      obtain ⟨w3, hw3⟩ : ∃ w3, w3 = w2.setCell ⟨b, 72, none⟩ (.int .i64 ((held : Int) + (n : Int))) := ⟨_, rfl⟩
      rw [<- hw3]
      have H3 := H2.setHeld (held + n)
      have hg3 : w.grownBy w3 (some b) := by rw [hw3]; exact grownBy_trans (grownBy_trans (grownBy_drewR hgr) hg2) (grownBy_setCell _ _ _ _)
      have H3' : Hsh w3 b (blocks P (P.length / 64)) (k.take held ++ t.data.toList.take n ++ k.drop (held + n)) (held + n) (p.length + s.size) := by rw [hw3]; exact H3
      clear H3 hw3 H2 cd2 cf2
      refine (mix_h b _ _ _ _ w3 H3' hb0 (HK.out w3 hg3)).mono ?_
      rintro e w4 ⟨rfl, H4, hg4⟩
      have F4 := fed_full H4 HH.out.1 HH.out.2.2 HYL.out HKL.out hfull
      rw [HPP.out] at F4
      clear H3' H4
      go_wp2
      go_roundw
      case rel => exact ⟨c + n, t', _, rfl, HX, hs1, hs2, F4, grownBy_trans hg3 hg4⟩
      case measure => simp only [lenS]; omega
    · go_wp2
      rw [HT'.out]
      go_roundw
      case rel =>
       have H3 := H2.setHeld (held + n)
       have F4 := fed_part H3 HH.out.1 HH.out.2.2 HYL.out HKL.out (by omega)
       rw [HPP.out] at F4
       exact ⟨c + n, t', _, rfl, HX, hs1, hs2, F4, grownBy_trans (grownBy_trans (grownBy_drewR hgr) hg2) (grownBy_setCell _ _ _ _)⟩
      case measure => simp only [lenS]; omega
  · go_wp2
    go_end0
    have hc : c = s.size := by omega
    have e : s.data.toList.take c = s.data.toList := List.take_of_length_le (by rw [hsl]; omega)
    rw [e] at F
    exact ⟨rfl, ⟨k, F⟩, hgr⟩
end Go.Proofs.YtfmpjlpakldheaaGreatDoor
namespace Go.Proofs.Sha
open Go Go.RowKit
theorem lb_length (k : List UInt8) (N n : Nat) : (lb k N n).length = k.length := by
 induction n with
 | zero => rfl
 | succ n ih => rw [lb, List.length_set, ih]
theorem lb_getD (k : List UInt8) (N n j : Nat) (hn : 56 + n <= k.length) : (lb k N n).getD j 0 = if 56 <= j /\ j < 56 + n then lenByte (8 * N) (7 - (j - 56)) else k.getD j 0 := by
 induction n with
 | zero => rw [lb, if_neg (by omega)]
 | succ n ih =>
  rw [lb, getD_set _ _ _ _ _ (by rw [lb_length]; omega), ih (by omega)]
  by_cases e : j = 56 + n
  · rw [if_pos e, if_pos (by omega)]; congr 1; omega
  · rw [if_neg e]
    by_cases e2 : 56 <= j /\ j < 56 + n
    · rw [if_pos e2, if_pos (by omega)]
    · rw [if_neg e2, if_neg (by omega)]
def tl (T : List UInt8) (z N : Nat) : List UInt8 := T ++ [128] ++ List.replicate z 0 ++ beTo (8 * N) 8
theorem getD_left (A C : List UInt8) (j : Nat) (h : j < A.length) : (A ++ C).getD j 0 = A.getD j 0 := by
 rw [List.getD_eq_getElem?_getD, List.getD_eq_getElem?_getD, List.getElem?_append_left h]
theorem getD_right (A C : List UInt8) (j : Nat) (h : A.length <= j) : (A ++ C).getD j 0 = C.getD (j - A.length) 0 := by
 rw [List.getD_eq_getElem?_getD, List.getD_eq_getElem?_getD, List.getElem?_append_right h]
theorem beTo_getD (N i : Nat) (hi : i < 8) : (beTo N 8).getD i 0 = lenByte N (7 - i) := by
 have : i = 0 \/ i = 1 \/ i = 2 \/ i = 3 \/ i = 4 \/ i = 5 \/ i = 6 \/ i = 7 := by omega
 rcases this with h | h | h | h | h | h | h | h <;> subst h <;> rfl
theorem tl_1 (T : List UInt8) (z N j : Nat) (h : j < T.length) : (tl T z N).getD j 0 = T.getD j 0 := by
 unfold tl
 rw [getD_left _ _ _ (by simp; omega), getD_left _ _ _ (by simp; omega), getD_left _ _ _ h]
theorem tl_2 (T : List UInt8) (z N j : Nat) (h : j = T.length) : (tl T z N).getD j 0 = 128 := by
 unfold tl
 rw [getD_left _ _ _ (by simp; omega), getD_left _ _ _ (by simp; omega), getD_right _ _ _ (by omega), h, Nat.sub_self]; rfl
theorem tl_3 (T : List UInt8) (z N j : Nat) (h : T.length < j) (h2 : j < T.length + 1 + z) : (tl T z N).getD j 0 = 0 := by
 unfold tl
 rw [getD_left _ _ _ (by simp; omega), getD_right _ _ _ (by simp; omega), List.getD_eq_getElem?_getD, List.getElem?_replicate, if_pos (by simp; omega)]; rfl
theorem tl_4 (T : List UInt8) (z N j : Nat) (h : T.length + 1 + z <= j) (h2 : j < T.length + 1 + z + 8) : (tl T z N).getD j 0 = lenByte (8 * N) (7 - (j - (T.length + 1 + z))) := by
 unfold tl
 have hl : (T ++ [128] ++ List.replicate z 0).length = T.length + 1 + z := by simp; omega
 rw [getD_right _ _ _ (by omega), hl, beTo_getD _ _ (by omega)]
theorem pad_drop (l : List UInt8) (q : Nat) (hq : 64 * q <= l.length) : (pad l).drop (64 * q) = tl (l.drop (64 * q)) (zpad l.length) l.length := by
 unfold pad tl
 rw [List.drop_append_of_le_length (by simp; omega), List.drop_append_of_le_length (by simp; omega), List.drop_append_of_le_length hq]
theorem pad_blocks (l : List UInt8) (q : Nat) (hq : 64 * q <= l.length) : blocks (pad l) q = blocks l q := by
 unfold pad
 rw [List.append_assoc, List.append_assoc]; exact blocks_append l _ q hq
theorem fin_sha (l k : List UInt8) (hk : k.length = 64) (tk : k.take (l.length % 64) = l.drop (64 * (l.length / 64))) :
 outTo (fin (blocks l (l.length / 64)) k (l.length % 64) l.length) 8 = sha l := by
 have hplen := pad_length l
 have hq : 64 * (l.length / 64) <= l.length := by omega
 have hpd := pad_drop l _ hq
 have hpb := pad_blocks l _ hq
 have hT : (l.drop (64 * (l.length / 64))).length = l.length % 64 := by rw [List.length_drop]; omega
 have hTk : ∀ j, j < l.length % 64 -> (l.drop (64 * (l.length / 64))).getD j 0 = k.getD j 0 := fun j hj => by rw [<- tk]; exact getD_take k _ j hj
 have hh : l.length % 64 < 64 := by omega
 have hk1 : (k.set (l.length % 64) 128).length = 64 := by rw [List.length_set]; exact hk
 have hks : ∀ j, (k.set (l.length % 64) 128).getD j 0 = if j = l.length % 64 then 128 else k.getD j 0 := fun j => getD_set k _ j 128 0 (by omega)
 unfold sha fin
 congr 1
 by_cases hb : l.length % 64 + 1 <= 56
 · have hz : zpad l.length = 55 - l.length % 64 := by unfold zpad; omega
   have hn : (pad l).length / 64 = l.length / 64 + 1 := by rw [hplen, hz]; omega
   rw [if_pos hb, hn, blocks, hpb, hpd]
   refine comp_congr _ _ _ (fun j hj => ?_)
   rw [lb_getD _ _ _ _ (by rw [zf_length]; omega), zf_getD _ _ _ _ (by omega), hks j, hz]
   by_cases c1 : 56 <= j
   · rw [if_pos (by omega), tl_4 _ _ _ _ (by omega) (by omega)]; congr 1; omega
   · rw [if_neg (by omega)]
     by_cases c2 : l.length % 64 + 1 <= j
     · rw [if_pos (by omega), tl_3 _ _ _ _ (by omega) (by omega)]
     · rw [if_neg (by omega)]
       by_cases c3 : j = l.length % 64
       · rw [if_pos c3, tl_2 _ _ _ _ (by omega)]
       · rw [if_neg c3, tl_1 _ _ _ _ (by omega), hTk j (by omega)]
 · have hz : zpad l.length = 119 - l.length % 64 := by unfold zpad; omega
   have hn : (pad l).length / 64 = l.length / 64 + 1 + 1 := by rw [hplen, hz]; omega
   have hd2 : ∀ j, ((pad l).drop (64 * (l.length / 64 + 1))).getD j 0 = (tl (l.drop (64 * (l.length / 64))) (zpad l.length) l.length).getD (64 + j) 0 := fun j => by
    rw [<- hpd, getD_drop, getD_drop]; congr 1; omega
   rw [if_neg hb, hn, blocks, blocks, hpb]
   have e1 : comp (blocks l (l.length / 64)) (zf (k.set (l.length % 64) 128) (l.length % 64 + 1) (64 - (l.length % 64 + 1))) = comp (blocks l (l.length / 64)) ((pad l).drop (64 * (l.length / 64))) := by
    rw [hpd]
    refine comp_congr _ _ _ (fun j hj => ?_)
    rw [zf_getD _ _ _ _ (by omega), hks j, hz]
    by_cases c2 : l.length % 64 + 1 <= j
    · rw [if_pos (by omega), tl_3 _ _ _ _ (by omega) (by omega)]
    · rw [if_neg (by omega)]
      by_cases c3 : j = l.length % 64
      · rw [if_pos c3, tl_2 _ _ _ _ (by omega)]
      · rw [if_neg c3, tl_1 _ _ _ _ (by omega), hTk j (by omega)]
   rw [e1]
   refine comp_congr _ _ _ (fun j hj => ?_)
   rw [hd2 j, lb_getD _ _ _ _ (by rw [zf_length, zf_length]; omega), zf_getD _ _ _ _ (by rw [zf_length]; omega), hz]
   by_cases c1 : 56 <= j
   · rw [if_pos (by omega), tl_4 _ _ _ _ (by omega) (by omega)]; congr 1; omega
   · rw [if_neg (by omega), if_pos (by omega), tl_3 _ _ _ _ (by omega) (by omega)]
end Go.Proofs.Sha
namespace Go.Proofs.YtfmpjlpakldheaaGreatDoor
open Go.RowKit Go.Proofs.Sha Tryz
theorem sha_len (l : List UInt8) : (sha l).length = 32 := by unfold sha; rw [outTo_length]
theorem extract_take (M : List UInt8) (n : Nat) : (⟨M.toArray⟩ : ByteArray).extract 0 n = ⟨(M.take n).toArray⟩ := by
 apply ByteArray.ext
 rw [ByteArray.data_extract]
 apply Array.ext'
 rw [Array.toList_extract, List.extract_eq_take_drop]
 simp
theorem sdig_yes (s : ByteArray) (k : Nat) (w : World) (hs : s.size <= 1048576) (h1 : 1 <= k) (h2 : k <= 32) :
 Calls prog 14 #[.string s, .int .i64 (k : Int)] w fun e w' => e = .returned (.string ⟨((sha s.data.toList).take k).toArray⟩) /\ Below w.heap.size w w' := by
 have hl := sha_len s.data.toList
 have hx := extract_take (sha s.data.toList) k
 have hsp := spec_any s w hs
 obtain ⟨X, hX⟩ : ∃ X : ByteArray, X = ⟨(sha s.data.toList).toArray⟩ := ⟨_, rfl⟩
 have hXs : X.size = 32 := by rw [hX]; exact hl
 rw [<- hX] at hx hsp
 have HX : Hid (X.extract 0 k = ⟨((sha s.data.toList).take k).toArray⟩) := hx
 clear hX hx hl
 have q1 : (1 : Int) <= (k : Int) := by omega
 have q2 : (k : Int) <= 32 := by omega
 go_enter func14, ntmps14
 go_wp2_with (first | (go_at_call 59; refine hsp.mono ?_; rintro e w' ⟨rfl, hb⟩) | go_in)
 go_ret
 rw [<- HX.out]
 exact ⟨rfl, hb⟩
theorem commitRec_le (v : Int) (root : ByteArray) : (commitRec v root).size <= 64 := by
 unfold commitRec
 split
 · rename_i h
   rw [T_size]
   have hl : (four v.toNat ++ [UInt8.ofNat root.size] ++ root.data.toList).length = 5 + root.size := by rw [List.length_append, List.length_append]; rfl
   unfold marked
   rw [show ((four v.toNat ++ [UInt8.ofNat root.size] ++ root.data.toList).length + 62) / 63 = 1 by omega, markedTo, markedTo, List.nil_append, if_pos rfl, List.length_append, part63_length]
   exact Nat.le_refl _
 · exact Nat.zero_le _
theorem long_d (c : UInt8) (m : Int) (n : Nat) (hm : m = (n : Int)) (h1 : n <= 1048576) (w : World) :
 Calls prog 89 #[.int .i64 m, .string ⟨#[c]⟩] w fun e w' => e = .returned (.string (reps n c)) /\ Below w.heap.size w w' := by
 subst hm
 exact (long_any c n h1 w).mono (by rintro e w' ⟨t, rfl, hz, HT, hb⟩; exact ⟨by rw [HT.out], hb⟩)
theorem byte_d (m : Int) (n : Nat) (hm : m = (n : Int)) (h1 : n <= 1048576) (w : World) :
 Calls prog 78 #[.int .i64 m] w fun e w' => e = .returned (.string (byteS n)) /\ Below w.heap.size w w' := by
 subst hm
 exact byte_any n h1 w
theorem commit_d (v : Int) (root : ByteArray) (hs : root.size <= 1048576) (w : World) :
 Calls prog 131 #[.int .i64 v, .string root] w fun e w' => e = .returned (.string (commitRec v root)) /\ Below w.heap.size w w' :=
 (commitRec_any v root w hs).mono (by rintro e w' ⟨t, rfl, HT, hb⟩; exact ⟨by rw [HT.out], hb⟩)
theorem val_det (a : Option Addr) (xs : List Nat) (cap : Nat) (p : Nat) (hX : Code8 xs) (hp : p <= 90000) :
 ∃ t : ByteArray, t.size <= 300 /\ ∀ w, BL a xs w -> Calls prog 87 #[.slice a xs.length cap, .int .i64 (p : Int)] w fun e w' => e = .returned (.tuple #[.string t, .int .i64 ((p + 2 : Nat) : Int)]) /\ Below w.heap.size w w' := by
 obtain ⟨x, hx, HT⟩ := take_det a xs cap p 16 hX (by omega) (by omega) (by omega)
 obtain ⟨y, hy, HT2⟩ := take_det a xs cap (p + 1) 120 hX (by omega) (by omega) (by omega)
 replace HT : Hid _ := HT
 replace HT2 : Hid _ := HT2
 obtain ⟨p1, hp1⟩ : ∃ p1, p + 1 = p1 := ⟨_, rfl⟩
 obtain ⟨p2, hp2⟩ : ∃ p2, p + 2 = p2 := ⟨_, rfl⟩
 rw [show p + 1 + 1 = p2 by omega] at HT2
 rw [hp1] at HT HT2
 rw [hp2]
 clear hp1 hp2
 by_cases h1 : x < 2
 · have z1 : decide ((x : Int) < 2) = true := by simp; omega
   refine ⟨⟨#[]⟩, by decide, fun w h => ?_⟩
   go_enter func87, ntmps87
   go_wp2_with fail
   refine (HT.out w h).mono ?_
   rintro e w1 ⟨rfl, hb1⟩
   go_wp2_with fail
   refine (HT2.out _ (h.below hb1)).mono ?_
   rintro e w2 ⟨rfl, hb2⟩
   have hb : Below w.heap.size w w2 := hb1.trans (hb2.mono hb1.size)
   go_wp2_with fail
   go_ret2
   exact ⟨rfl, hb⟩
 have z1 : decide ((x : Int) < 2) = false := by simp; omega
 by_cases h2 : x = 14
 · subst h2
   refine ⟨reps (y * 2) 118, by rw [reps_size]; omega, fun w h => ?_⟩
   go_enter func87, ntmps87
   go_wp2_with fail
   refine (HT.out w h).mono ?_
   rintro e w1 ⟨rfl, hb1⟩
   go_wp2_with fail
   refine (HT2.out _ (h.below hb1)).mono ?_
   rintro e w2 ⟨rfl, hb2⟩
   have hb : Below w.heap.size w w2 := hb1.trans (hb2.mono hb1.size)
   go_wp2_with fail
   refine (long_d _ _ (y * 2) (by omega) (by omega) _).mono ?_
   rintro e w3 ⟨rfl, hb3⟩
   go_wp2_with fail
   go_ret2
   exact ⟨rfl, hb.trans (hb3.mono hb.size)⟩
 have z2 : ((x : Int) == 14) = false := by rw [beq_eq_false_iff_ne]; omega
 by_cases h3 : x = 15
 · subst h3
   obtain ⟨t3, ht3⟩ : ∃ t, reps (y % 63) 0 = t := ⟨_, rfl⟩
   obtain ⟨t4, ht4⟩ : ∃ t, commitRec ((y % 4 + 1 : Nat) : Int) ⟨#[]⟩ = t := ⟨_, rfl⟩
   obtain ⟨t6, ht6⟩ : ∃ t, commitRec ((y % 3 + 1 : Nat) : Int) (reps 1 114) = t := ⟨_, rfl⟩
   have k3 : t3.size <= 63 := by rw [<- ht3, reps_size]; omega
   have k4 : t4.size <= 64 := by rw [<- ht4]; exact commitRec_le _ _
   have k6 : t6.size <= 64 := by rw [<- ht6]; exact commitRec_le _ _
   have f1 : ¬ (9223372036854775807 < t3.size + t4.size) := by omega
   have f2 : ¬ (9223372036854775807 < t3.size + t4.size + t6.size) := by omega
   have H3 : Hid (∀ w m, m = ((y % 63 : Nat) : Int) -> Calls prog 89 #[.int .i64 m, .string ⟨#[0]⟩] w fun e w' => e = .returned (.string t3) /\ Below w.heap.size w w') := fun w m hm => by rw [<- ht3]; exact long_d 0 m (y % 63) hm (by omega) w
   have H4 : Hid (∀ w m, m = ((y % 4 + 1 : Nat) : Int) -> Calls prog 131 #[.int .i64 m, .string ⟨#[]⟩] w fun e w' => e = .returned (.string t4) /\ Below w.heap.size w w') := fun w m hm => by rw [<- ht4, hm]; exact commit_d _ _ (by decide) w
   have H6 : Hid (∀ w m, m = ((y % 3 + 1 : Nat) : Int) -> Calls prog 131 #[.int .i64 m, .string (reps 1 114)] w fun e w' => e = .returned (.string t6) /\ Below w.heap.size w w') := fun w m hm => by rw [<- ht6, hm]; exact commit_d _ _ (by rw [reps_size]; omega) w
   clear ht3 ht4 ht6
   refine ⟨t3 ++ t4 ++ t6, by rw [ByteArray.size_append, ByteArray.size_append]; omega, fun w h => ?_⟩
   go_enter func87, ntmps87
   go_wp2_with fail
   refine (HT.out w h).mono ?_
   rintro e w1 ⟨rfl, hb1⟩
   go_wp2_with fail
   refine (HT2.out _ (h.below hb1)).mono ?_
   rintro e w2 ⟨rfl, hb2⟩
   have hb : Below w.heap.size w w2 := hb1.trans (hb2.mono hb1.size)
   go_wp2_with fail
   refine (H3.out _ _ (by omega)).mono ?_
   rintro e w3 ⟨rfl, hb3⟩
   have hB3 := hb.trans (hb3.mono hb.size)
   go_wp2_with fail
   refine (H4.out _ _ (by omega)).mono ?_
   rintro e w4 ⟨rfl, hb4⟩
   have hB4 := hB3.trans (hb4.mono hB3.size)
   go_wp2_with fail
   refine (long_d _ _ 1 (by omega) (by omega) _).mono ?_
   rintro e w5 ⟨rfl, hb5⟩
   have hB5 := hB4.trans (hb5.mono hB4.size)
   go_wp2_with fail
   refine (H6.out _ _ (by omega)).mono ?_
   rintro e w6 ⟨rfl, hb6⟩
   have hB6 := hB5.trans (hb6.mono hB5.size)
   clear hb hb3 hb4 hb5 hb6 hB3 hB4 hB5
   go_wp2_with fail
   go_ret2
   exact ⟨rfl, hB6⟩
 have z3 : ((x : Int) == 15) = false := by rw [beq_eq_false_iff_ne]; omega
 refine ⟨⟨#[118]⟩ ++ byteS (48 + y % 10) ++ byteS (48 + y / 10), by rw [ByteArray.size_append, ByteArray.size_append]; show 1 + 1 + 1 <= 300; omega, fun w h => ?_⟩
 obtain ⟨t3, ht3⟩ : ∃ t, byteS (48 + y % 10) = t := ⟨_, rfl⟩
 obtain ⟨t4, ht4⟩ : ∃ t, byteS (48 + y / 10) = t := ⟨_, rfl⟩
 have k3 : t3.size = 1 := by rw [<- ht3]; rfl
 have k4 : t4.size = 1 := by rw [<- ht4]; rfl
 have H3 : Hid (∀ w m, m = ((48 + y % 10 : Nat) : Int) -> Calls prog 78 #[.int .i64 m] w fun e w' => e = .returned (.string t3) /\ Below w.heap.size w w') := fun w m hm => by rw [<- ht3]; exact byte_d m _ hm (by omega) w
 have H4 : Hid (∀ w m, m = ((48 + y / 10 : Nat) : Int) -> Calls prog 78 #[.int .i64 m] w fun e w' => e = .returned (.string t4) /\ Below w.heap.size w w') := fun w m hm => by rw [<- ht4]; exact byte_d m _ hm (by omega) w
 rw [ht3, ht4]
 clear ht3 ht4
 have f1 : ¬ (9223372036854775807 < 1 + t3.size) := by omega
 have f2 : ¬ (9223372036854775807 < 1 + t3.size + t4.size) := by omega
 go_enter func87, ntmps87
 go_wp2_with fail
 refine (HT.out w h).mono ?_
 rintro e w1 ⟨rfl, hb1⟩
 go_wp2_with fail
 refine (HT2.out _ (h.below hb1)).mono ?_
 rintro e w2 ⟨rfl, hb2⟩
 have hb : Below w.heap.size w w2 := hb1.trans (hb2.mono hb1.size)
 go_wp2_with fail
 refine (H3.out _ _ (by omega)).mono ?_
 rintro e w3 ⟨rfl, hb3⟩
 have hB3 := hb.trans (hb3.mono hb.size)
 go_wp2_with fail
 refine (H4.out _ _ (by omega)).mono ?_
 rintro e w4 ⟨rfl, hb4⟩
 have hB4 := hB3.trans (hb4.mono hB3.size)
 go_wp2_with fail
 go_ret2
 exact ⟨rfl, hB4⟩
end Go.Proofs.YtfmpjlpakldheaaGreatDoor
namespace Go.Proofs.Sha
open Go Go.RowKit
def K32 (X : List UInt8) : Value := .agg (X.map B).toArray
theorem mapM_some {α β : Type} (f : α -> Option β) : ∀ l : List α, (∀ i ∈ l, ∃ y, f i = some y) -> ∃ ys, l.mapM f = some ys
 | [], _ => ⟨[], rfl⟩
 | i :: l, h => by
  obtain ⟨y, hy⟩ := h i (List.mem_cons_self ..)
  obtain ⟨ys, hys⟩ := mapM_some f l (fun j hj => h j (List.mem_cons_of_mem _ hj))
  exact ⟨y :: ys, by rw [List.mapM_cons, hy, hys]; rfl⟩
theorem byte_wf (x : UInt8) : (Lit.int .u8 (x.toNat : Int)).wf = true := by
 have e1 : IntKind.u8.min = 0 := rfl
 have e2 : IntKind.u8.max = 255 := rfl
 have := UInt8.toNat_lt x
 unfold Lit.wf
 rw [Bool.and_eq_true, decide_eq_true_eq, decide_eq_true_eq, e1, e2]
 omega
theorem K32_inj {X Y : List UInt8} (h : K32 X = K32 Y) : X = Y := by
 unfold K32 at h
 simp only [Value.agg.injEq] at h
 have h' : X.map B = Y.map B := by
  have := congrArg Array.toList h
  simpa using this
 refine List.map_inj_right (f := B) ?_ |>.1 h'
 intro a b hab
 unfold B at hab
 simp only [Value.int.injEq, true_and] at hab
 exact UInt8.toNat_inj.1 (by omega)
structure Key32 (P : Program) (k e : TypeId) : Prop where
 ak : P.underlying k = some (.array 32 e)
 ae : P.underlying e = some (.int .u8)
 ce : P.cellsOf e = 1
 ck : P.cellsOf k = 32
 kt : P.keyType k = true
 law : WideMaps.KeyLaw P k
 tz : ∃ d, P.types.size = d + 1
section
variable {P : Program} {k e : TypeId}
theorem key_of (hk : Key32 P k e) (X : List UInt8) (hX : X.length = 32) : ∃ l, keyOf P k (K32 X) = some l := by
 have hform : (K32 X).formed P k = true := by
  unfold K32 Value.formed
  rw [hk.ak]
  simp [hk.ck, hX]
 have hcells : (K32 X).cells.toList = X.map B := by simp [K32, Value.cells]
 have hL : ∃ ls, P.keyLits (P.types.size + 1) k (X.map B) = some ls := by
  obtain ⟨ys, hys⟩ := mapM_some (fun i => P.keyLits P.types.size e (((X.map B).drop (i * P.cellsOf e)).take (P.cellsOf e))) (List.range 32) (fun i hi => by
   have hi' : i < X.length := by rw [hX]; exact List.mem_range.1 hi
   rw [hk.ce, Nat.mul_one]
   have e1 : ((X.map B).drop i).take 1 = [B X[i]] := by
    rw [List.drop_eq_getElem_cons (by rw [List.length_map]; exact hi'), List.take_succ_cons, List.take_zero, List.getElem_map]
   obtain ⟨d, hd⟩ := hk.tz
   refine ⟨[.int .u8 (X[i].toNat : Int)], ?_⟩
   rw [e1, hd]
   have hb := byte_wf X[i]
   simp [Program.keyLits, hk.ae, B, hb])
  refine ⟨ys.flatten, ?_⟩
  have hlen : (X.map B).length = P.cellsOf k := by rw [List.length_map, hX, hk.ck]
  simp only [Program.keyLits, hk.ak, hlen, if_true, hys, Option.map_some]
 obtain ⟨ls, hls⟩ := hL
 refine ⟨.string (keyBytes ls), ?_⟩
 unfold keyOf
 rw [hk.ak]
 simp only [hk.kt, hform, Bool.and_self, if_true, hcells, hls, Option.map_some]
structure MapF (F : List UInt8 -> Option Int) (r : Nat) (w : World) : Prop where
 is : ∃ (es : Array MapEntry) (clock : Nat), w.heap[r]? = some (.map es clock) /\ (∀ x ∈ es.toList, ∃ (X : List UInt8) (v : Int), X.length = 32 /\ x.key = K32 X /\ x.val = .int .i64 v /\ F X = some v) /\ (∀ X v, F X = some v -> ∃ x ∈ es.toList, x.key = K32 X)
theorem MapF.below {F : List UInt8 -> Option Int} {r : Nat} {w w' : World} (h : MapF F r w) (hb : Below w.heap.size w w') : MapF F r w' := by
 obtain ⟨es, clock, hg, h1, h2⟩ := h.is
 exact ⟨es, clock, (hb.block r (Array.getElem?_eq_some_iff.1 hg).1).trans hg, h1, h2⟩
theorem MapF.kept {F : List UInt8 -> Option Int} {r g : Nat} {w w' : World} (h : MapF F r w) (hg : w.grownBy w' (some g)) (hne : r ≠ g) : MapF F r w' := by
 obtain ⟨es, clock, hh, h1, h2⟩ := h.is
 exact ⟨es, clock, (hg.block r (Array.getElem?_eq_some_iff.1 hh).1 (fun e => hne (Option.some.inj e))).trans hh, h1, h2⟩
theorem run_look (hk : Key32 P k e) {mt el : TypeId} (hm : P.underlying mt = some (.map k el)) (hz : ∀ w, (zeroValue el).run P w = .ok (.int .i64 0) w) {F : List UInt8 -> Option Int} {r : Nat} {w : World} (h : MapF F r w) (X : List UInt8) (hX : X.length = 32) :
 (Instr.lookup mt (.map (some r)) (K32 X) true).run P w = .ok (.tuple #[.int .i64 ((F X).getD 0), .bool (F X).isSome]) w := by
 obtain ⟨es, clock, hg, h1, h2⟩ := h.is
 obtain ⟨l, hl⟩ := key_of hk X hX
 have hgo : (getObj r).run P w = .ok (.map es clock) w := by simp [getObj, Sem.run, hg]
 have hch := fun em => hk.law.check w em hl
 have hall : ∀ x ∈ es.toList, ∃ l, keyOf P k x.key = some l := fun x hx => by
  obtain ⟨Y, v, hY, hy, _, _⟩ := h1 x hx
  rw [hy]; exact key_of hk Y hY
 unfold Instr.lookup
 simp only [Sem.run_bind, run_underlying hm, Result.andThen_ok, hgo, Sem.run_pure, hch]
 rcases hk.law.find w hl es.toList hall with ⟨hf, hn⟩ | ⟨j, x, hf, hj, hx⟩
 · have hF : F X = none := by
    cases hFX : F X with
    | none => rfl
    | some v =>
     obtain ⟨x, hx, he⟩ := h2 X v hFX
     exact absurd he (hn x hx)
   simp only [hf, Result.andThen_ok, hF, Sem.run_bind, hz, Sem.run_pure]
   rfl
 · obtain ⟨Y, v, hY, hy, hv, hFY⟩ := h1 x (List.mem_of_getElem? hj)
   have : Y = X := K32_inj (hy.symm.trans hx)
   subst this
   simp only [hf, Result.andThen_ok, hFY, hv]
   rfl
theorem run_put (hk : Key32 P k e) {mt el : TypeId} (hm : P.underlying mt = some (.map k el)) {F : List UInt8 -> Option Int} {r : Nat} {w : World} (h : MapF F r w) (X : List UInt8) (hX : X.length = 32) (hF : F X = none) (v : Int) :
 ∃ w', (Instr.mapUpdate mt (.map (some r)) (K32 X) (.int .i64 v)).run P w = .ok () w' /\ MapF (fun Y => if Y = X then some v else F Y) r w' /\ w.grownBy w' (some r) := by
 obtain ⟨es, clock, hg, h1, h2⟩ := h.is
 obtain ⟨l, hl⟩ := key_of hk X hX
 have hgo : (getObj r).run P w = .ok (.map es clock) w := by simp [getObj, Sem.run, hg]
 have hch := fun em => hk.law.check w em hl
 have hall : ∀ x ∈ es.toList, ∃ l, keyOf P k x.key = some l := fun x hx => by
  obtain ⟨Y, u, hY, hy, _, _⟩ := h1 x hx
  rw [hy]; exact key_of hk Y hY
 have hnone : (Instr.findKey k (K32 X) es.toList).run P w = .ok none w := by
  rcases hk.law.find w hl es.toList hall with ⟨hf, _⟩ | ⟨j, x, hf, hj, hx⟩
  · exact hf
  · obtain ⟨Y, u, hY, hy, _, hFY⟩ := h1 x (List.mem_of_getElem? hj)
    have : Y = X := K32_inj (hy.symm.trans hx)
    rw [this, hF] at hFY; cases hFY
 obtain ⟨o, ho⟩ : ∃ o : Obj, o = .map (es.push { key := K32 X, val := .int .i64 v, born := clock }) (clock + 1) := ⟨_, rfl⟩
 have hso : (setObj r o).run P w = .ok () { w with heap := w.heap.setIfInBounds r o } := by
  simp [setObj, Sem.run, hg]
 refine ⟨{ w with heap := w.heap.setIfInBounds r o }, ?_, ?_, ?_⟩
 · unfold Instr.mapUpdate
   simp only [Sem.run_bind, run_underlying hm, Result.andThen_ok, hgo, hch, hnone]
   rw [<- ho]
   exact hso
 · have hlt : r < w.heap.size := (Array.getElem?_eq_some_iff.1 hg).1
   refine ⟨_, _, by show (w.heap.setIfInBounds r o)[r]? = _; rw [Array.getElem?_setIfInBounds_self, if_pos hlt, ho], ?_, ?_⟩
   · intro x hx
     rw [Array.toList_push, List.mem_append, List.mem_singleton] at hx
     rcases hx with hx | rfl
     · obtain ⟨Y, u, hY, hy, hv, hFY⟩ := h1 x hx
       refine ⟨Y, u, hY, hy, hv, ?_⟩
       rw [if_neg (fun e => by rw [e, hF] at hFY; cases hFY)]
       exact hFY
     · exact ⟨X, v, hX, rfl, rfl, if_pos rfl⟩
   · intro Y u hu
     rw [Array.toList_push]
     by_cases e : Y = X
     · subst e
       exact ⟨_, List.mem_append_right _ (List.mem_singleton.2 rfl), rfl⟩
     · rw [if_neg e] at hu
       obtain ⟨x, hx, hy⟩ := h2 Y u hu
       exact ⟨x, List.mem_append_left _ hx, hy⟩
 · refine ⟨rfl, rfl, rfl, by simp, fun j hj hne => ?_⟩
   show (w.heap.setIfInBounds r o)[j]? = _
   rw [Array.getElem?_setIfInBounds_ne (fun e => hne (by rw [e]))]
end
end Go.Proofs.Sha
