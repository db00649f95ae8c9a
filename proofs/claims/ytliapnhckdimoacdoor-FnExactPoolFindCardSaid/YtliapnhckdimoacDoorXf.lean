import Derived.Test.YtliapnhckdimoacDoorXe
import Derived.Test.YtliapnhckdimoacDoorXd
import Derived.Shelf.Strings.BuilderF
import Derived.Shelf.Strings.BuilderK
import Derived.Shelf.Strconv.Clone
import Derived.Test.YtliapnhckdimoacDoorProg
import Derived.Test.YtliapnhckdimoacDoorXa
namespace Go.Proofs.YtliapnhckdimoacDoor
open Go.RowKit Go.Proofs.Sha

theorem size5 : (Tryd.prog.info? 5).map (·.size) = some 1 := by kernel_rfl
def lenS : Value → Nat | .string s => s.size | _ => 0

set_option maxRecDepth 100000 in
set_option maxHeartbeats 1600000 in
theorem feed_any (b : Nat) (p kb : List UInt8) (s : ByteArray) (w : World) (F : Fed w b p kb p.length) (hsz : p.length + s.size ≤ 2000000) (hb0 : b ≠ 0)
    (hK : ∀ j, j < 64 → w.cell? ⟨0, j, none⟩ = some (.int .u32 ((kTab.getD j 0).toNat : Int))) :
    Calls Tryd.prog 83 #[.pointer (some ⟨b, 0, none⟩), .string s] w fun e w' => e = .returned (.tuple #[]) ∧ (∃ k', Fed w' b (p ++ s.data.toList) k' (p.length + s.size)) ∧ w.grownBy w' (some b) := by
  have hl0 : 0 < w.heap.size := by have := F.H.lt; omega
  have HK : Hid (∀ w' : World, w.grownBy w' (some b) → ∀ j, j < 64 → w'.cell? ⟨0, j, none⟩ = some (.int .u32 ((kTab.getD j 0).toNat : Int))) := fun w' hg j hj => (hg.cell_far _ hl0 (by simp; omega)).trans (hK j hj)
  clear hK
  have hsl : s.data.toList.length = s.size := rfl
  have cs := F.H.sz
  have cf := F.H.fr 73 (by omega)
  go_enter Tryd.func83, Tryd.ntmps83
  go_wp2_with fail
  obtain ⟨w1, hw1⟩ : ∃ w1, w1 = w.setCell ⟨b, 73, none⟩ (.int .u64 ((p.length : Int) + (s.size : Int))) := ⟨_, rfl⟩
  rw [← hw1]
  have F1 : Fed w1 b (p ++ s.data.toList.take 0) kb (p.length + s.size) := by
    rw [hw1, List.take_zero, List.append_nil]; exact ⟨F.H.setSize (p.length + s.size), F.tk⟩
  have hg1 : w.grownBy w1 (some b) := by rw [hw1]; exact grownBy_setCell _ _ _ _
  clear hw1 cs cf F
  go_loopw [1] (fun v wr => ∃ (c : Nat) (t : ByteArray) (k : List UInt8), v = .string t ∧ Hid (t.data.toList = s.data.toList.drop c) ∧ t.size + c ≤ s.size ∧ s.size ≤ t.size + c ∧ Fed wr b (p ++ s.data.toList.take c) k (p.length + s.size) ∧ w.grownBy wr (some b)) (fun v _ => lenS v)
  case atStart => exact ⟨0, s, kb, rfl, rfl, by omega, by omega, F1, hg1⟩
  case round =>
    clear F1 hg1
    obtain ⟨c, t, k, rfl, HT, ht1, ht2, F, hgr⟩ := hrel
    have hPl : (p ++ s.data.toList.take c).length = p.length + c := by rw [List.length_append, List.length_take, hsl]; omega
    by_cases hlt : 0 < t.size
    · obtain ⟨P, hP⟩ : ∃ P, p ++ s.data.toList.take c = P := ⟨_, rfl⟩
      rw [hP] at F hPl
      have HP : Hid (p ++ s.data.toList.take c = P) := hP
      clear hP
      obtain ⟨held, hheld⟩ : ∃ held, P.length % 64 = held := ⟨_, rfl⟩
      obtain ⟨H, tk⟩ := F
      rw [hheld] at H tk
      have hh : held < 64 := by omega
      have HH : Hid (P.length % 64 = held ∧ P.length = p.length + c ∧ k.take held = P.drop (64 * (P.length / 64))) := ⟨hheld, hPl, tk⟩
      clear hheld hPl tk
      obtain ⟨n, hn⟩ : ∃ n, n = Nat.min t.size (64 - held) := ⟨_, rfl⟩
      have hn1 : n ≤ t.size := by rw [hn]; exact Nat.min_le_left _ _
      have hn2 : n ≤ 64 - held := by rw [hn]; exact Nat.min_le_right _ _
      have hn3 : 0 < n := by rw [hn]; exact Nat.lt_min.2 ⟨hlt, by omega⟩
      have HN : Hid (n = Nat.min t.size (64 - held)) := hn
      have hn4 : n = t.size ∨ n = 64 - held := by rw [hn]; exact (Nat.le_total t.size (64 - held)).imp (fun h => Nat.min_eq_left h) (fun h => Nat.min_eq_right h)
      clear hn
      have HKL : Hid (k.length = 64) := H.kl
      have cd := H.hd
      have q0 : (0 : Int) ≤ (held : Int) := by omega
      have q1 : (held : Int) ≤ 64 := by omega
      have q2 : ¬ (64 : Nat) = held := by omega
      go_wp2_with fail
      go_region_held3 (fun w' => w'.cell? ⟨b, 72, none⟩ = some (.int .i64 (held : Int))) (first | exact cd | exact H2.hd)
        ((refine step_copy_at (by rfl) _ _ _ _ (by rfl) 5 Tryd.underlying94 size5 b _ k held _ H.drew (8 + held) (64 - held) (64 - held) rfl (by omega) (by rfl) t (by rfl) n HN.out ?_; intro w2 H2 hg2))
      have cd2 := H2.hd
      have cf2 := H2.fr 72 (by omega)
      clear H cd
      have hyl : (t.data.toList.take n).length = n := by rw [List.length_take]; exact Nat.min_eq_left hn1
      have hkl : k.length = 64 := HKL.out
      have hPP : P ++ t.data.toList.take n = p ++ s.data.toList.take (c + n) := by rw [← HP.out, HT.out, take_step, List.append_assoc]
      have hex : (t.extract n t.size).data.toList = s.data.toList.drop (c + n) := by rw [extract_list, HT.out, List.drop_drop]
      have hes := extract_size t n
      obtain ⟨t', ht'⟩ : ∃ t', t.extract n t.size = t' := ⟨_, rfl⟩
      have HT' : Hid (t.extract n t.size = t') := ht'
      rw [ht'] at hex hes
      have HX : Hid (t'.data.toList = s.data.toList.drop (c + n)) := hex
      have hs1 : t'.size + (c + n) ≤ s.size := by omega
      have hs2 : s.size ≤ t'.size + (c + n) := by omega
      have hs3 : t'.size < t.size := by omega
      have HPP : Hid (P ++ t.data.toList.take n = p ++ s.data.toList.take (c + n)) := hPP
      have HYL : Hid ((t.data.toList.take n).length = n) := hyl
      clear ht' hex hes hPP hyl hkl
      by_cases hfull : held + n = 64
      · go_wp2_with fail
        rw [HT'.out]
        obtain ⟨w3, hw3⟩ : ∃ w3, w3 = w2.setCell ⟨b, 72, none⟩ (.int .i64 ((held : Int) + (n : Int))) := ⟨_, rfl⟩
        rw [← hw3]
        have H3 := H2.setHeld (held + n)
        have hg3 : w.grownBy w3 (some b) := by rw [hw3]; exact grownBy_trans (grownBy_trans (grownBy_drewR hgr) hg2) (grownBy_setCell _ _ _ _)
        have H3' : Hsh w3 b (blocks P (P.length / 64)) (k.take held ++ t.data.toList.take n ++ k.drop (held + n)) (held + n) (p.length + s.size) := by rw [hw3]; exact H3
        clear H3 hw3 H2 cd2 cf2
        refine (mix_h b _ _ _ _ w3 H3' hb0 (HK.out w3 hg3)).mono ?_
        rintro e w4 ⟨rfl, H4, hg4⟩
        have F4 := fed_full H4 HH.out.1 HH.out.2.2 HYL.out HKL.out hfull
        rw [HPP.out] at F4
        clear H3' H4
        go_wp2
        go_roundw
        case rel => exact ⟨c + n, t', _, rfl, HX, hs1, hs2, F4, grownBy_trans hg3 hg4⟩
        case measure => simp only [lenS]; omega
      · go_wp2
        rw [HT'.out]
        go_roundw
        case rel =>
          have H3 := H2.setHeld (held + n)
          have F4 := fed_part H3 HH.out.1 HH.out.2.2 HYL.out HKL.out (by omega)
          rw [HPP.out] at F4
          exact ⟨c + n, t', _, rfl, HX, hs1, hs2, F4, grownBy_trans (grownBy_trans (grownBy_drewR hgr) hg2) (grownBy_setCell _ _ _ _)⟩
        case measure => simp only [lenS]; omega
    · go_wp2
      go_end0
      have hc : c = s.size := by omega
      have e : s.data.toList.take c = s.data.toList := List.take_of_length_le (by rw [hsl]; omega)
      rw [e] at F
      exact ⟨rfl, ⟨k, F⟩, hgr⟩
end Go.Proofs.YtliapnhckdimoacDoor
namespace Go.Proofs.Sha
open Go Go.RowKit

theorem lb_length (k : List UInt8) (N n : Nat) : (lb k N n).length = k.length := by
  induction n with
  | zero => rfl
  | succ n ih => rw [lb, List.length_set, ih]
theorem lb_getD (k : List UInt8) (N n j : Nat) (hn : 56 + n ≤ k.length) : (lb k N n).getD j 0 = if 56 ≤ j ∧ j < 56 + n then lenByte (8 * N) (7 - (j - 56)) else k.getD j 0 := by
  induction n with
  | zero => rw [lb, if_neg (by omega)]
  | succ n ih =>
    rw [lb, getD_set _ _ _ _ _ (by rw [lb_length]; omega), ih (by omega)]
    by_cases e : j = 56 + n
    · rw [if_pos e, if_pos (by omega)]; congr 1; omega
    · rw [if_neg e]
      by_cases e2 : 56 ≤ j ∧ j < 56 + n
      · rw [if_pos e2, if_pos (by omega)]
      · rw [if_neg e2, if_neg (by omega)]

def tl (T : List UInt8) (z N : Nat) : List UInt8 := T ++ [128] ++ List.replicate z 0 ++ beTo (8 * N) 8
theorem getD_left (A C : List UInt8) (j : Nat) (h : j < A.length) : (A ++ C).getD j 0 = A.getD j 0 := by
  rw [List.getD_eq_getElem?_getD, List.getD_eq_getElem?_getD, List.getElem?_append_left h]
theorem getD_right (A C : List UInt8) (j : Nat) (h : A.length ≤ j) : (A ++ C).getD j 0 = C.getD (j - A.length) 0 := by
  rw [List.getD_eq_getElem?_getD, List.getD_eq_getElem?_getD, List.getElem?_append_right h]
theorem beTo_getD (N i : Nat) (hi : i < 8) : (beTo N 8).getD i 0 = lenByte N (7 - i) := by
  have : i = 0 ∨ i = 1 ∨ i = 2 ∨ i = 3 ∨ i = 4 ∨ i = 5 ∨ i = 6 ∨ i = 7 := by omega
  rcases this with h | h | h | h | h | h | h | h <;> subst h <;> rfl
theorem tl_1 (T : List UInt8) (z N j : Nat) (h : j < T.length) : (tl T z N).getD j 0 = T.getD j 0 := by
  unfold tl
  rw [getD_left _ _ _ (by simp; omega), getD_left _ _ _ (by simp; omega), getD_left _ _ _ h]
theorem tl_2 (T : List UInt8) (z N j : Nat) (h : j = T.length) : (tl T z N).getD j 0 = 128 := by
  unfold tl
  rw [getD_left _ _ _ (by simp; omega), getD_left _ _ _ (by simp; omega), getD_right _ _ _ (by omega), h, Nat.sub_self]; rfl
theorem tl_3 (T : List UInt8) (z N j : Nat) (h : T.length < j) (h2 : j < T.length + 1 + z) : (tl T z N).getD j 0 = 0 := by
  unfold tl
  rw [getD_left _ _ _ (by simp; omega), getD_right _ _ _ (by simp; omega), List.getD_eq_getElem?_getD, List.getElem?_replicate, if_pos (by simp; omega)]; rfl
theorem tl_4 (T : List UInt8) (z N j : Nat) (h : T.length + 1 + z ≤ j) (h2 : j < T.length + 1 + z + 8) : (tl T z N).getD j 0 = lenByte (8 * N) (7 - (j - (T.length + 1 + z))) := by
  unfold tl
  have hl : (T ++ [128] ++ List.replicate z 0).length = T.length + 1 + z := by simp; omega
  rw [getD_right _ _ _ (by omega), hl, beTo_getD _ _ (by omega)]

theorem pad_drop (l : List UInt8) (q : Nat) (hq : 64 * q ≤ l.length) : (pad l).drop (64 * q) = tl (l.drop (64 * q)) (zpad l.length) l.length := by
  unfold pad tl
  rw [List.drop_append_of_le_length (by simp; omega), List.drop_append_of_le_length (by simp; omega), List.drop_append_of_le_length hq]
theorem pad_blocks (l : List UInt8) (q : Nat) (hq : 64 * q ≤ l.length) : blocks (pad l) q = blocks l q := by
  unfold pad
  rw [List.append_assoc, List.append_assoc]; exact blocks_append l _ q hq

theorem fin_sha (l k : List UInt8) (hk : k.length = 64) (tk : k.take (l.length % 64) = l.drop (64 * (l.length / 64))) :
    outTo (fin (blocks l (l.length / 64)) k (l.length % 64) l.length) 8 = sha l := by
  have hplen := pad_length l
  have hq : 64 * (l.length / 64) ≤ l.length := by omega
  have hpd := pad_drop l _ hq
  have hpb := pad_blocks l _ hq
  have hT : (l.drop (64 * (l.length / 64))).length = l.length % 64 := by rw [List.length_drop]; omega
  have hTk : ∀ j, j < l.length % 64 → (l.drop (64 * (l.length / 64))).getD j 0 = k.getD j 0 := fun j hj => by rw [← tk]; exact getD_take k _ j hj
  have hh : l.length % 64 < 64 := by omega
  have hk1 : (k.set (l.length % 64) 128).length = 64 := by rw [List.length_set]; exact hk
  have hks : ∀ j, (k.set (l.length % 64) 128).getD j 0 = if j = l.length % 64 then 128 else k.getD j 0 := fun j => getD_set k _ j 128 0 (by omega)
  unfold sha fin
  congr 1
  by_cases hb : l.length % 64 + 1 ≤ 56
  · have hz : zpad l.length = 55 - l.length % 64 := by unfold zpad; omega
    have hn : (pad l).length / 64 = l.length / 64 + 1 := by rw [hplen, hz]; omega
    rw [if_pos hb, hn, blocks, hpb, hpd]
    refine comp_congr _ _ _ (fun j hj => ?_)
    rw [lb_getD _ _ _ _ (by rw [zf_length]; omega), zf_getD _ _ _ _ (by omega), hks j, hz]
    by_cases c1 : 56 ≤ j
    · rw [if_pos (by omega), tl_4 _ _ _ _ (by omega) (by omega)]; congr 1; omega
    · rw [if_neg (by omega)]
      by_cases c2 : l.length % 64 + 1 ≤ j
      · rw [if_pos (by omega), tl_3 _ _ _ _ (by omega) (by omega)]
      · rw [if_neg (by omega)]
        by_cases c3 : j = l.length % 64
        · rw [if_pos c3, tl_2 _ _ _ _ (by omega)]
        · rw [if_neg c3, tl_1 _ _ _ _ (by omega), hTk j (by omega)]
  · have hz : zpad l.length = 119 - l.length % 64 := by unfold zpad; omega
    have hn : (pad l).length / 64 = l.length / 64 + 1 + 1 := by rw [hplen, hz]; omega
    have hd2 : ∀ j, ((pad l).drop (64 * (l.length / 64 + 1))).getD j 0 = (tl (l.drop (64 * (l.length / 64))) (zpad l.length) l.length).getD (64 + j) 0 := fun j => by
      rw [← hpd, getD_drop, getD_drop]; congr 1; omega
    rw [if_neg hb, hn, blocks, blocks, hpb]
    have e1 : comp (blocks l (l.length / 64)) (zf (k.set (l.length % 64) 128) (l.length % 64 + 1) (64 - (l.length % 64 + 1))) = comp (blocks l (l.length / 64)) ((pad l).drop (64 * (l.length / 64))) := by
      rw [hpd]
      refine comp_congr _ _ _ (fun j hj => ?_)
      rw [zf_getD _ _ _ _ (by omega), hks j, hz]
      by_cases c2 : l.length % 64 + 1 ≤ j
      · rw [if_pos (by omega), tl_3 _ _ _ _ (by omega) (by omega)]
      · rw [if_neg (by omega)]
        by_cases c3 : j = l.length % 64
        · rw [if_pos c3, tl_2 _ _ _ _ (by omega)]
        · rw [if_neg c3, tl_1 _ _ _ _ (by omega), hTk j (by omega)]
    rw [e1]
    refine comp_congr _ _ _ (fun j hj => ?_)
    rw [hd2 j, lb_getD _ _ _ _ (by rw [zf_length, zf_length]; omega), zf_getD _ _ _ _ (by rw [zf_length]; omega), hz]
    by_cases c1 : 56 ≤ j
    · rw [if_pos (by omega), tl_4 _ _ _ _ (by omega) (by omega)]; congr 1; omega
    · rw [if_neg (by omega), if_pos (by omega), tl_3 _ _ _ _ (by omega) (by omega)]

end Go.Proofs.Sha
namespace Go.Proofs.YtliapnhckdimoacDoor
open Go.RowKit Go.Proofs.Sha

theorem sha_len (l : List UInt8) : (sha l).length = 32 := by unfold sha; rw [outTo_length]
theorem extract_take (M : List UInt8) (n : Nat) : (⟨M.toArray⟩ : ByteArray).extract 0 n = ⟨(M.take n).toArray⟩ := by
  apply ByteArray.ext
  rw [ByteArray.data_extract]
  apply Array.ext'
  rw [Array.toList_extract, List.extract_eq_take_drop]
  simp

set_option maxRecDepth 100000 in
set_option maxHeartbeats 400000 in
theorem sdig_no (s : ByteArray) (k : Int) (w : World) (h : k < 1 ∨ 32 < k) :
    Calls Tryd.prog 25 #[.string s, .int .i64 k] w fun e w' => e = .returned (.string ⟨#[]⟩) ∧ Below w.heap.size w w' := by
  rcases h with h | h
  · have h1 : decide (1 ≤ k) = false := by simpa using h
    go_enter Tryd.func25, Tryd.ntmps25
    go_wp2
    go_ret
    exact ⟨rfl, Below.refl _ _⟩
  · have h1 : 1 ≤ k := by omega
    have h2 : decide (k ≤ 32) = false := by simpa using h
    go_enter Tryd.func25, Tryd.ntmps25
    go_wp2
    go_ret
    exact ⟨rfl, Below.refl _ _⟩

set_option maxRecDepth 100000 in
set_option maxHeartbeats 400000 in
theorem sdig_yes (s : ByteArray) (k : Nat) (w : World) (hs : s.size ≤ 1048576) (h1 : 1 ≤ k) (h2 : k ≤ 32) :
    Calls Tryd.prog 25 #[.string s, .int .i64 (k : Int)] w fun e w' => e = .returned (.string ⟨((sha s.data.toList).take k).toArray⟩) ∧ Below w.heap.size w w' := by
  have hl := sha_len s.data.toList
  have hx := extract_take (sha s.data.toList) k
  have hsp := spec_any s w hs
  obtain ⟨X, hX⟩ : ∃ X : ByteArray, X = ⟨(sha s.data.toList).toArray⟩ := ⟨_, rfl⟩
  have hXs : X.size = 32 := by rw [hX]; exact hl
  rw [← hX] at hx hsp
  have HX : Hid (X.extract 0 k = ⟨((sha s.data.toList).take k).toArray⟩) := hx
  clear hX hx hl
  have q1 : (1 : Int) ≤ (k : Int) := by omega
  have q2 : (k : Int) ≤ 32 := by omega
  go_enter Tryd.func25, Tryd.ntmps25
  go_wp2_with (first | (go_at_call 58; refine hsp.mono ?_; rintro e w' ⟨rfl, hb⟩) | go_in)
  go_ret
  rw [← HX.out]
  exact ⟨rfl, hb⟩
end Go.Proofs.YtliapnhckdimoacDoor
namespace Go.Proofs
open Go.Shelf
def Tryd.lays169_ren : Go.Shelf.Ren := ⟨fun | 169 => 81 | n => n, fun | 70 => 122 | 9 => 9 | 0 => 0 | 72 => 124 | 37 => 94 | 127 => 147 | 3 => 3 | 5 => 5 | n => n, fun | n => n⟩
theorem Tryd.lays169 : Go.Proofs.Lays.n169 Tryd.prog Tryd.lays169_ren := {
  mixed := by kernel_rfl
  f169 := Tryd.func81.trans (congrArg some (by kernel_rfl))
  t0 := Tryd.underlying0
  a0 := Tryd.isAgg0
  z0 := Tryd.sizeOf0
  v0 := Tryd.zeroValue0
  t3 := Tryd.underlying3
  a3 := Tryd.isAgg3
  z3 := Tryd.sizeOf3
  v3 := Tryd.zeroValue3
  t9 := Tryd.underlying9
  a9 := Tryd.isAgg9
  z9 := Tryd.sizeOf9
  v9 := Tryd.zeroValue9
  t37 := Tryd.underlying94
  a37 := Tryd.isAgg94
  z37 := Tryd.sizeOf94
  v37 := Tryd.zeroValue94
  t70 := Tryd.underlying122
  a70 := Tryd.isAgg122
  z70 := Tryd.sizeOf122
  v70 := Tryd.zeroValue122
  t72 := Tryd.underlying124
  a72 := Tryd.isAgg124
  z72 := Tryd.sizeOf124
  v72 := Tryd.zeroValue124
  t127 := Tryd.underlying147
  a127 := Tryd.isAgg147
  z127 := Tryd.sizeOf147
  v127 := Tryd.zeroValue147 }
theorem Tryd.Builder_Extra_169 : Builder.Extra Tryd.prog Tryd.lays169_ren := {
  sizeBuilder := by kernel_rfl
  liesBuilder := by kernel_rfl
  t5 := Tryd.underlying5
  a5 := Tryd.isAgg5
  z5 := Tryd.sizeOf5
  v5 := Tryd.zeroValue5
  infoByte := by kernel_rfl
  cellsByte := by kernel_rfl
  sizeByte := by kernel_rfl
  neB5 := by decide }
open Go.RowKit in
theorem Tryd.Builder_String_any_k (B b : Nat) (l : List UInt8) (w : World) (h : Lib.IsBuilderF 124 5 B b (Lib.byteCells l) w) (hBw : B ≤ w.heap.size) :
    Calls Tryd.prog 81 #[.pointer (some ⟨b, 0, none⟩)] w fun e w' => e = .returned (.string ⟨l.toArray⟩) ∧ (Lib.IsBuilderF 124 5 B b (Lib.byteCells l) w' ∧ Below B w w' ∧ Lib.OthersKept 5 (some b) w w') := Any.Builder_String_any_k Tryd.lays169 Tryd.Builder_Extra_169 B b l w h hBw
def Tryd.laysM316_ren : Go.Shelf.Ren := ⟨fun | 316 => 153 | n => n, fun | 9 => 9 | 3 => 3 | 4 => 4 | 37 => 94 | 0 => 0 | 127 => 147 | 5 => 5 | n => n, fun | n => n⟩
theorem Tryd.laysM316 : Go.Proofs.LaysM.n316 Tryd.prog Tryd.laysM316_ren := {
  mixed := by kernel_rfl
  f316 := Tryd.func153.trans (congrArg some (by kernel_rfl))
  t0 := Tryd.underlying0
  a0 := Tryd.isAgg0
  z0 := Tryd.sizeOf0
  v0 := Tryd.zeroValue0
  t3 := Tryd.underlying3
  a3 := Tryd.isAgg3
  z3 := Tryd.sizeOf3
  v3 := Tryd.zeroValue3
  t4 := Tryd.underlying4
  a4 := Tryd.isAgg4
  z4 := Tryd.sizeOf4
  v4 := Tryd.zeroValue4
  t9 := Tryd.underlying9
  a9 := Tryd.isAgg9
  z9 := Tryd.sizeOf9
  v9 := Tryd.zeroValue9
  t37 := Tryd.underlying94
  a37 := Tryd.isAgg94
  z37 := Tryd.sizeOf94
  v37 := Tryd.zeroValue94
  t127 := Tryd.underlying147
  a127 := Tryd.isAgg147
  z127 := Tryd.sizeOf147
  v127 := Tryd.zeroValue147
  t5 := Tryd.underlying5
  a5 := Tryd.isAgg5
  z5 := Tryd.sizeOf5
  v5 := Tryd.zeroValue5
  i0 := by kernel_rfl
  i3 := by kernel_rfl
  i4 := by kernel_rfl
  i5 := by kernel_rfl
  i9 := by kernel_rfl
  i37 := by kernel_rfl
  i127 := by kernel_rfl }
open Go.RowKit in
theorem Tryd.stringslite_Clone (s : ByteArray) (w : World) (hlim : s.size ≤ 281474976710656) :
    Calls Tryd.prog 153 #[.string s] w fun e w' => e = .returned (.string s) ∧ Below w.heap.size w w' := Any.stringslite_Clone Tryd.laysM316 s w hlim
def Tryd.lays167_ren : Go.Shelf.Ren := ⟨fun | 166 => 151 | 167 => 143 | 240 => 145 | 276 => 146 | n => n, fun | 0 => 0 | 3 => 3 | 4 => 4 | 5 => 5 | 9 => 9 | 20 => 20 | 37 => 94 | 70 => 122 | 72 => 124 | 75 => 201 | 80 => 126 | 164 => 198 | n => n, fun | n => n⟩
theorem Tryd.lays167 : Go.Proofs.Lays.n167 Tryd.prog Tryd.lays167_ren := {
  mixed := by kernel_rfl
  f167 := Tryd.func143.trans (congrArg some (by kernel_rfl))
  f240 := Tryd.func145.trans (congrArg some (by kernel_rfl))
  f276 := Tryd.func146.trans (congrArg some (by kernel_rfl))
  t0 := Tryd.underlying0
  a0 := Tryd.isAgg0
  z0 := Tryd.sizeOf0
  v0 := Tryd.zeroValue0
  t4 := Tryd.underlying4
  a4 := Tryd.isAgg4
  z4 := Tryd.sizeOf4
  v4 := Tryd.zeroValue4
  t5 := Tryd.underlying5
  a5 := Tryd.isAgg5
  z5 := Tryd.sizeOf5
  v5 := Tryd.zeroValue5
  t9 := Tryd.underlying9
  a9 := Tryd.isAgg9
  z9 := Tryd.sizeOf9
  v9 := Tryd.zeroValue9
  t20 := Tryd.underlying20
  a20 := Tryd.isAgg20
  z20 := Tryd.sizeOf20
  v20 := Tryd.zeroValue20
  t37 := Tryd.underlying94
  a37 := Tryd.isAgg94
  z37 := Tryd.sizeOf94
  v37 := Tryd.zeroValue94
  t70 := Tryd.underlying122
  a70 := Tryd.isAgg122
  z70 := Tryd.sizeOf122
  v70 := Tryd.zeroValue122
  t72 := Tryd.underlying124
  a72 := Tryd.isAgg124
  z72 := Tryd.sizeOf124
  v72 := Tryd.zeroValue124
  t75 := Tryd.underlying201
  a75 := Tryd.isAgg201
  z75 := Tryd.sizeOf201
  v75 := Tryd.zeroValue201
  t164 := Tryd.underlying198
  a164 := Tryd.isAgg198
  z164 := Tryd.sizeOf198
  v164 := Tryd.zeroValue198 }
theorem Tryd.Builder_Extra_167 : Builder.Extra Tryd.prog Tryd.lays167_ren := {
  sizeBuilder := by kernel_rfl
  liesBuilder := by kernel_rfl
  t5 := Tryd.underlying5
  a5 := Tryd.isAgg5
  z5 := Tryd.sizeOf5
  v5 := Tryd.zeroValue5
  infoByte := by kernel_rfl
  cellsByte := by kernel_rfl
  sizeByte := by kernel_rfl
  neB5 := by decide }
open Go.RowKit in
theorem Tryd.Builder_WriteByte_k (B b : Nat) (bs : List Value) (c : Int) (w : World) (h : Lib.IsBuilderF 124 5 B b bs w) (hlen : bs.length + 1 ≤ 140737488355328) (hBw : B ≤ w.heap.size) :
    Calls Tryd.prog 143 #[.pointer (some ⟨b, 0, none⟩), .int .u8 c] w fun e w' => e = .returned .nilIface ∧ (Lib.BuilderAtF 124 5 B b (.pointer (some ⟨b, 0, none⟩)) (bs ++ [.int .u8 c]) w' ∧ Below B w w' ∧ Lib.OthersKept 5 (some b) w w') := Any.Builder_WriteByte_k Tryd.lays167 Tryd.Builder_Extra_167 B b bs c w h hlen hBw
def Tryd.lays166_ren : Go.Shelf.Ren := ⟨fun | 166 => 151 | 167 => 143 | 240 => 145 | 276 => 146 | n => n, fun | 0 => 0 | 3 => 3 | 4 => 4 | 5 => 5 | 9 => 9 | 20 => 20 | 37 => 94 | 70 => 122 | 72 => 124 | 75 => 201 | 80 => 126 | 164 => 198 | n => n, fun | n => n⟩
theorem Tryd.lays166 : Go.Proofs.Lays.n166 Tryd.prog Tryd.lays166_ren := {
  mixed := by kernel_rfl
  f166 := Tryd.func151.trans (congrArg some (by kernel_rfl))
  f240 := Tryd.func145.trans (congrArg some (by kernel_rfl))
  f276 := Tryd.func146.trans (congrArg some (by kernel_rfl))
  t0 := Tryd.underlying0
  a0 := Tryd.isAgg0
  z0 := Tryd.sizeOf0
  v0 := Tryd.zeroValue0
  t3 := Tryd.underlying3
  a3 := Tryd.isAgg3
  z3 := Tryd.sizeOf3
  v3 := Tryd.zeroValue3
  t4 := Tryd.underlying4
  a4 := Tryd.isAgg4
  z4 := Tryd.sizeOf4
  v4 := Tryd.zeroValue4
  t9 := Tryd.underlying9
  a9 := Tryd.isAgg9
  z9 := Tryd.sizeOf9
  v9 := Tryd.zeroValue9
  t20 := Tryd.underlying20
  a20 := Tryd.isAgg20
  z20 := Tryd.sizeOf20
  v20 := Tryd.zeroValue20
  t37 := Tryd.underlying94
  a37 := Tryd.isAgg94
  z37 := Tryd.sizeOf94
  v37 := Tryd.zeroValue94
  t70 := Tryd.underlying122
  a70 := Tryd.isAgg122
  z70 := Tryd.sizeOf122
  v70 := Tryd.zeroValue122
  t72 := Tryd.underlying124
  a72 := Tryd.isAgg124
  z72 := Tryd.sizeOf124
  v72 := Tryd.zeroValue124
  t75 := Tryd.underlying201
  a75 := Tryd.isAgg201
  z75 := Tryd.sizeOf201
  v75 := Tryd.zeroValue201
  t164 := Tryd.underlying198
  a164 := Tryd.isAgg198
  z164 := Tryd.sizeOf198
  v164 := Tryd.zeroValue198 }
theorem Tryd.Builder_Extra_166 : Builder.Extra Tryd.prog Tryd.lays166_ren := {
  sizeBuilder := by kernel_rfl
  liesBuilder := by kernel_rfl
  t5 := Tryd.underlying5
  a5 := Tryd.isAgg5
  z5 := Tryd.sizeOf5
  v5 := Tryd.zeroValue5
  infoByte := by kernel_rfl
  cellsByte := by kernel_rfl
  sizeByte := by kernel_rfl
  neB5 := by decide }
open Go.RowKit in
theorem Tryd.Builder_WriteString_k (B b : Nat) (bs : List Value) (s : ByteArray) (w : World) (h : Lib.IsBuilderF 124 5 B b bs w) (hlen : bs.length + s.size ≤ 140737488355328) (hBw : B ≤ w.heap.size) :
    Calls Tryd.prog 151 #[.pointer (some ⟨b, 0, none⟩), .string s] w fun e w' => e = .returned (.tuple #[.int .i64 s.size, .nilIface]) ∧ (Lib.BuilderAtF 124 5 B b (.pointer (some ⟨b, 0, none⟩)) (bs ++ Lib.strCells s) w' ∧ Below B w w' ∧ Lib.OthersKept 5 (some b) w w') := Any.Builder_WriteString_k Tryd.lays166 Tryd.Builder_Extra_166 B b bs s w h hlen hBw
end Go.Proofs
namespace Go.Proofs.YtliapnhckdimoacDoor
open Go.RowKit Go.Proofs.Sha

def sh (z : Int) (low : Bool) (i : Int) : Int := if low then 8 * i else 8 * (z - 1 - i)

theorem shift_any (z : Int) (low : Bool) (i : Int) (w : World) (hz : 0 ≤ z) (hz4 : z ≤ 8) (hi : 0 ≤ i) (hi4 : i < z) :
    Calls Tryd.prog 141 #[.agg #[.int .i64 z, .bool low], .int .i64 i] w fun e w' => e = .returned (.int .i64 (sh z low i)) ∧ Below w.heap.size w w' := by
  cases low
  · go_enter Tryd.func141, Tryd.ntmps141
    go_wp2
    go_ret
    exact ⟨rfl, (Below.refl _ _).alloc (Nat.le_refl _) _⟩
  · go_enter Tryd.func141, Tryd.ntmps141
    go_wp2
    go_ret
    exact ⟨rfl, (Below.refl _ _).alloc (Nat.le_refl _) _⟩

/-- The builder in block b holds these bytes. -/
def Bld (b : Nat) (l : List UInt8) (w : World) : Prop := Lib.IsBuilderF 124 5 b b (Lib.byteCells l) w
/-- It holds them, and nothing else has turned. -/
def Put (b : Nat) (l : List UInt8) (w w' : World) : Prop := Bld b l w' ∧ Below b w w' ∧ Lib.OthersKept 5 (some b) w w'

theorem Bld.lt {b : Nat} {l : List UInt8} {w : World} (h : Bld b l w) : b < w.heap.size := by
  rcases h with h | h
  · exact h.lt
  · exact h.lt
theorem Bld.alloc {b : Nat} {l : List UInt8} {w : World} (h : Bld b l w) (o : Obj) : Bld b l (w.alloc o) := by
  rcases h with h | h
  · exact .inl (h.alloc o)
  · exact .inr (h.alloc o)
theorem Put.refl {b : Nat} {l : List UInt8} {w : World} (h : Bld b l w) : Put b l w w := ⟨h, Below.refl _ _, Lib.OthersKept.refl _ _ _⟩
theorem Put.trans {b : Nat} {l m : List UInt8} {w w' w'' : World} (h : Put b l w w') (h' : Put b m w' w'') : Put b m w w'' := ⟨h'.1, h.2.1.trans h'.2.1, h.2.2.trans h'.2.2⟩
theorem Put.alloc {b : Nat} {l : List UInt8} {w w' : World} (h : Put b l w w') (o : Obj) : Put b l w (w'.alloc o) := ⟨h.1.alloc o, h.2.1.alloc (Nat.le_of_lt h.1.lt) o, h.2.2.alloc o⟩

theorem wb_any (b : Nat) (l : List UInt8) (c : Int) (w : World) (x : UInt8) (hc : c = (x.toNat : Int)) (h : Bld b l w) (hl : l.length ≤ 100000) :
    Calls Tryd.prog 143 #[.pointer (some ⟨b, 0, none⟩), .int .u8 c] w fun e w' => e = .returned .nilIface ∧ Put b (l ++ [x]) w w' := by
  refine (Tryd.Builder_WriteByte_k b b _ c w h (by rw [Lib.byteCells_length]; omega) (Nat.le_of_lt h.lt)).mono ?_
  rintro e w' ⟨rfl, h1, h2, h3⟩
  refine ⟨rfl, .inr ?_, h2, h3⟩
  rw [Lib.byteCells_append]
  rw [hc] at h1
  exact h1
theorem ws_any (b : Nat) (l : List UInt8) (s : ByteArray) (w : World) (h : Bld b l w) (hl : l.length + s.size ≤ 100000) :
    Calls Tryd.prog 151 #[.pointer (some ⟨b, 0, none⟩), .string s] w fun e w' => e = .returned (.tuple #[.int .i64 s.size, .nilIface]) ∧ Put b (l ++ s.data.toList) w w' := by
  refine (Tryd.Builder_WriteString_k b b _ s w h (by rw [Lib.byteCells_length]; omega) (Nat.le_of_lt h.lt)).mono ?_
  rintro e w' ⟨rfl, h1, h2, h3⟩
  refine ⟨rfl, .inr ?_, h2, h3⟩
  rw [Lib.byteCells_append]
  exact h1

/-- The byte at a place of a number. -/
def numByte (z : Nat) (low : Bool) (v i : Nat) : UInt8 := UInt8.ofNat (v / 2 ^ (8 * (if low then i else z - 1 - i)))
def numTo (z : Nat) (low : Bool) (v : Nat) : Nat → List UInt8
  | 0 => []
  | i + 1 => numTo z low v i ++ [numByte z low v i]
theorem numTo_length (z : Nat) (low : Bool) (v : Nat) : ∀ i, (numTo z low v i).length = i
  | 0 => rfl
  | i + 1 => by rw [numTo, List.length_append, numTo_length z low v i]; rfl

theorem Bld.heap {b : Nat} {l : List UInt8} {w w' : World} (h : Bld b l w) (hb : ∀ k, k < w.heap.size → w'.heap[k]? = w.heap[k]?) : Bld b l w' := by
  have H : ∀ p, Lib.BuilderAtF 124 5 b b p (Lib.byteCells l) w → Lib.BuilderAtF 124 5 b b p (Lib.byteCells l) w' := by
    rintro p ⟨h1, v, h2, h3, h4⟩
    have l2 := (Array.getElem?_eq_some_iff.1 h2).1
    refine ⟨h1, v, (hb b l2).trans h2, ⟨h3.1, ?_⟩, h4⟩
    rcases h3.2 with hn | ⟨g, cap, cur, fz, hv, hbg, hg, rest⟩
    · exact .inl hn
    · exact .inr ⟨g, cap, cur, fz, hv, hbg, (hb g (Array.getElem?_eq_some_iff.1 hg).1).trans hg, rest⟩
  rcases h with h | h
  · exact .inl (H _ h)
  · exact .inr (H _ h)
theorem Bld.below {b : Nat} {l : List UInt8} {w w' : World} (h : Bld b l w) (hb : Below w.heap.size w w') : Bld b l w' := h.heap hb.block
theorem Put.below {b : Nat} {l : List UInt8} {w w' w'' : World} (h : Put b l w w') (hb : Below w'.heap.size w' w'') : Put b l w w'' :=
  ⟨h.1.below hb, h.2.1.trans (hb.mono (Nat.le_of_lt h.1.lt)), fun k o hk hkb ho => by
    have h1 := h.2.2 k o hk hkb ho
    exact (hb.block k (Array.getElem?_eq_some_iff.1 h1).1).trans h1⟩
theorem Put.cells {b k : Nat} {l : List UInt8} {w w' : World} {cs : Array Value} {t : TypeId} (h : Put b l w w') (hk : w.heap[k]? = some (.cells cs t)) (hne : k ≠ b) (ht : t ≠ 5) : w'.heap[k]? = some (.cells cs t) :=
  h.2.2 k _ hk (fun e => hne (Option.some.inj e)) (fun c fz e => ht (by cases e; rfl))
theorem below_cells {k : Nat} {w w' : World} {o : Obj} (h : Below w.heap.size w w') (hk : w.heap[k]? = some o) : w'.heap[k]? = some o :=
  (h.block k (Array.getElem?_eq_some_iff.1 hk).1).trans hk

theorem byte_of_shift (v k : Nat) : ((v : Int) / 2 ^ k % 256) = ((UInt8.ofNat (v / 2 ^ k)).toNat : Int) := by
  rw [UInt8.toNat_ofNat', show (2 : Nat) ^ 8 = 256 from rfl]
  obtain ⟨p, hp⟩ : ∃ p : Nat, 2 ^ k = p := ⟨_, rfl⟩
  have hp' : (2 : Int) ^ k = (p : Int) := by rw [← hp, Int.natCast_pow]; rfl
  rw [hp, hp', Int.natCast_emod, Int.natCast_ediv]
  rfl

set_option maxRecDepth 100000 in
theorem nput (z : Nat) (low : Bool) (b : Nat) (v : Nat) (l : List UInt8) (w : World) (hz : 0 < z) (hz4 : z ≤ 7) (h : Bld b l w) (hl : l.length ≤ 90000) (_hv : v ≤ 9223372036854775807) :
    Calls Tryd.prog 140 #[.agg #[.int .i64 (z : Int), .bool low], .pointer (some ⟨b, 0, none⟩), .int .i64 (v : Int)] w fun e w' => e = .returned (.tuple #[]) ∧ Put b (l ++ numTo z low v z) w w' := by
  go_enter Tryd.func140, Tryd.ntmps140
  go_wp2
  go_loopw [9] (fun t9 wr => ∃ i : Nat, i ≤ z ∧ t9 = .int .i64 (i : Int) ∧ Put b (l ++ numTo z low v i) w wr ∧ wr.heap[w.heap.size]? = some (.cells #[.int .i64 (z : Int), .bool low] 181)) (fun t9 _ => z - (intOf t9).toNat)
  case atStart => 
    refine ⟨0, Nat.zero_le _, rfl, ?_, heap_alloc_new _ _⟩
    rw [numTo, List.append_nil]
    exact (Put.refl h).alloc _
  case round =>
    obtain ⟨i, hi, rfl, hp, hn⟩ := hrel
    by_cases h1 : i < z
    · have z1 : decide ((i : Int) < (z : Int)) = true := by simp; omega
      have c0 : wr.cell? ⟨w.heap.size, 0, none⟩ = some (.int .i64 (z : Int)) := Lib.cell_of_heap hn 0
      have c1 : wr.cell? ⟨w.heap.size, 1, none⟩ = some (.bool low) := Lib.cell_of_heap hn 1
      obtain ⟨k, hk, hk56, hkb⟩ : ∃ k : Nat, sh z low i = (k : Int) ∧ k ≤ 56 ∧ numByte z low v i = UInt8.ofNat (v / 2 ^ k) := by
        unfold sh numByte
        cases low
        · exact ⟨8 * (z - 1 - i), by simp only [Bool.false_eq_true, if_false]; omega, by omega, rfl⟩
        · exact ⟨8 * i, by simp only [if_true]; omega, by omega, rfl⟩
      have HC : Hid (∀ w', Calls Tryd.prog 141 #[.agg #[.int .i64 (z : Int), .bool low], .int .i64 (i : Int)] w' fun e w'' => e = .returned (.int .i64 (k : Int)) ∧ Below w'.heap.size w' w'') := fun w' => by rw [← hk]; exact shift_any _ _ _ w' (by omega) (by omega) (by omega) (by omega)
      have k0 : (0 : Int) ≤ (k : Int) := by omega
      go_wp2_with (first | (go_at_call 141; refine (HC.out _).mono ?_; rintro e w1 ⟨rfl, hb1⟩) | (go_at_call 143; refine (wb_any b _ _ w1 _ (byte_of_shift v k) (hp.1.below hb1) (by rw [List.length_append, numTo_length]; omega)).mono ?_; rintro e w2 ⟨rfl, hp2⟩))
      have hne : w.heap.size ≠ b := by have := h.lt; omega
      refine ⟨⟨i + 1, by omega, congrArg (Value.int .i64) (by omega), ?_, hp2.cells (below_cells hb1 hn) hne (by decide)⟩, ?_⟩
      · have := (hp.below hb1).trans hp2
        rw [numTo, hkb, ← List.append_assoc]
        exact this
      · show z - ((i : Int) + 1).toNat < z - ((i : Int)).toNat
        omega
    · have z1 : decide ((i : Int) < (z : Int)) = false := by simp; omega
      go_wp2
      have e : i = z := by omega
      subst e
      go_end0
      exact ⟨rfl, hp⟩
end Go.Proofs.YtliapnhckdimoacDoor
namespace Go.Proofs.YtliapnhckdimoacDoor
open Go.RowKit Go.Proofs.Sha

theorem wint (z : Nat) (low : Bool) (b : Nat) (v : Nat) (l : List UInt8) (w : World) (hz : 0 < z) (hz4 : z ≤ 7) (h : Bld b l w) (hl : l.length ≤ 90000) (hv : v ≤ 9223372036854775807) :
    Calls Tryd.prog 134 #[.pointer (some ⟨b, 0, none⟩), .iface 181 (.agg #[.int .i64 (z : Int), .bool low]), .int .i64 (v : Int)] w fun e w' => e = .returned (.tuple #[]) ∧ Put b (l ++ numTo z low v z) w w' := by
  have hmt : ∀ w : World, (method 306 181 (.agg #[.int .i64 (z : Int), .bool low]) "loop.example/s03048/impl.put").run Tryd.prog w = .ok (140, .agg #[.int .i64 (z : Int), .bool low]) w := fun _ => by kernel_rfl
  go_enter Tryd.func134, Tryd.ntmps134
  go_wp2_with (first | (go_at_call 140; refine (nput z low b v l w hz hz4 h hl hv).mono ?_; rintro e w2 ⟨rfl, hp2⟩))
  go_end0
  exact ⟨rfl, hp2⟩

theorem plain_put (n : Int) (b : Nat) (s : ByteArray) (l : List UInt8) (w : World) (h : Bld b l w) (hl : l.length + s.size ≤ 90000) :
    Calls Tryd.prog 149 #[.agg #[.int .i64 n], .pointer (some ⟨b, 0, none⟩), .string s] w fun e w' => e = .returned (.tuple #[]) ∧ Put b (l ++ s.data.toList) w w' := by
  go_enter Tryd.func149, Tryd.ntmps149
  go_wp2_with (first | (go_at_call 151; refine (ws_any b l s _ (h.alloc _) (by omega)).mono ?_; rintro e w2 ⟨rfl, hp2⟩))
  go_end0
  exact ⟨rfl, ((Put.refl h).alloc _).trans hp2⟩

theorem wplain (n : Int) (b : Nat) (s : ByteArray) (l : List UInt8) (w : World) (h : Bld b l w) (hl : l.length + s.size ≤ 90000) :
    Calls Tryd.prog 132 #[.pointer (some ⟨b, 0, none⟩), .iface 187 (.agg #[.int .i64 n]), .string s] w fun e w' => e = .returned (.tuple #[]) ∧ Put b (l ++ s.data.toList) w w' := by
  have hmt : ∀ w : World, (method 306 187 (.agg #[.int .i64 n]) "loop.example/s03048/impl.put").run Tryd.prog w = .ok (149, .agg #[.int .i64 n]) w := fun _ => by kernel_rfl
  go_enter Tryd.func132, Tryd.ntmps132
  go_wp2_with (first | (go_at_call 149; refine (plain_put n b s l w h hl).mono ?_; rintro e w2 ⟨rfl, hp2⟩))
  go_end0
  exact ⟨rfl, hp2⟩

theorem sized_put (z : Nat) (low : Bool) (b : Nat) (s : ByteArray) (l : List UInt8) (w : World) (hz : 0 < z) (hz4 : z ≤ 7) (h : Bld b l w) (hl : l.length + s.size ≤ 80000) :
    Calls Tryd.prog 147 #[.agg #[.int .i64 (z : Int), .bool low], .pointer (some ⟨b, 0, none⟩), .string s] w fun e w' => e = .returned (.tuple #[]) ∧ Put b (l ++ numTo z low s.size z ++ s.data.toList) w w' := by
  go_enter Tryd.func147, Tryd.ntmps147
  go_wp2_with (first | (go_at_call 134; refine (wint z low b s.size l _ hz hz4 (h.alloc _) (by omega) (by omega)).mono ?_; rintro e w2 ⟨rfl, hp2⟩) | (go_at_call 132; refine (wplain _ b s _ _ hp2.1 (by rw [List.length_append, numTo_length]; omega)).mono ?_; rintro e w3 ⟨rfl, hp3⟩))
  go_end0
  exact ⟨rfl, (((Put.refl h).alloc _).trans hp2).trans hp3⟩

theorem wsized (z : Nat) (low : Bool) (b : Nat) (s : ByteArray) (l : List UInt8) (w : World) (hz : 0 < z) (hz4 : z ≤ 7) (h : Bld b l w) (hl : l.length + s.size ≤ 80000) :
    Calls Tryd.prog 132 #[.pointer (some ⟨b, 0, none⟩), .iface 183 (.agg #[.int .i64 (z : Int), .bool low]), .string s] w fun e w' => e = .returned (.tuple #[]) ∧ Put b (l ++ numTo z low s.size z ++ s.data.toList) w w' := by
  have hmt : ∀ w : World, (method 306 183 (.agg #[.int .i64 (z : Int), .bool low]) "loop.example/s03048/impl.put").run Tryd.prog w = .ok (147, .agg #[.int .i64 (z : Int), .bool low]) w := fun _ => by kernel_rfl
  go_enter Tryd.func132, Tryd.ntmps132
  go_wp2_with (first | (go_at_call 147; refine (sized_put z low b s l w hz hz4 h hl).mono ?_; rintro e w2 ⟨rfl, hp2⟩))
  go_end0
  exact ⟨rfl, hp2⟩

theorem wint1 (b : Nat) (v : Nat) (l : List UInt8) (w : World) (h : Bld b l w) (hl : l.length ≤ 90000) (hv : v ≤ 9223372036854775807) :
    Calls Tryd.prog 134 #[.pointer (some ⟨b, 0, none⟩), .iface 181 (.agg #[.int .i64 1, .bool false]), .int .i64 (v : Int)] w fun e w' => e = .returned (.tuple #[]) ∧ Put b (l ++ [UInt8.ofNat v]) w w' := by
  have := wint 1 false b v l w (by omega) (by omega) h hl hv
  have e : numTo 1 false v 1 = [UInt8.ofNat v] := by simp [numTo, numByte]
  rw [e] at this
  exact this
end Go.Proofs.YtliapnhckdimoacDoor
namespace Go.Proofs.YtliapnhckdimoacDoor
open Go.RowKit Go.Proofs.Sha

def gap (n : Nat) : Nat := (n + 62) / 63 * 63 - n
def pad63 (l : List UInt8) : List UInt8 := l ++ List.replicate (gap l.length) 0
theorem gap_lt (n : Nat) : gap n < 63 := by unfold gap; omega
theorem pad63_length (l : List UInt8) : (pad63 l).length = l.length + gap l.length := by rw [pad63, List.length_append, List.length_replicate]


end Go.Proofs.YtliapnhckdimoacDoor
