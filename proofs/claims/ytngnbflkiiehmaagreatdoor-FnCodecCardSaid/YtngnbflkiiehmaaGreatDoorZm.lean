import Derived.Test.YtngnbflkiiehmaaGreatDoorZl
import Derived.Test.YtngnbflkiiehmaaGreatDoorZh
import Derived.Test.YtngnbflkiiehmaaGreatDoorZk
namespace Go.Proofs.YtngnbflkiiehmaaGreatDoor
open Go.RowKit Go.Proofs.Sha

theorem un_len (s : ByteArray) (a : Nat) : ∀ q, a + 64 * q ≤ s.size → (unTo s a q).length = 63 * q
  | 0, _ => rfl
  | q + 1, h => by
    rw [unTo, List.length_append, un_len s a q (by omega)]
    show 63 * q + (s.extract (a + 64 * q) (a + 64 * q + 63)).size = _
    rw [ByteArray.size_extract]; omega


theorem num_ex (s t1 : ByteArray) (a : Nat) (h : a + 4 ≤ s.size) (ht : t1 = s.extract a (a + 4)) : valTo 4 true (byteAt t1) t1.size = numAt s a := by
  rw [ht, ex_size s a 4 h, val4 _ (byteAt_lt _), byteAt_ex s a 4 0 (by omega), byteAt_ex s a 4 1 (by omega), byteAt_ex s a 4 2 (by omega), byteAt_ex s a 4 3 (by omega)]
  rfl
theorem SX4 {s : ByteArray} {a : Nat} {f : Bool} {t : ByteArray} {a' : Nat} {f' : Bool} (h : SX 4 true s a f t a' f') :
    (f = false ∧ a + 4 + numAt s a ≤ s.size ∧ t = s.extract (a + 4) (a + 4 + numAt s a) ∧ a' = a + 4 + numAt s a ∧ f' = false) ∨ ((f = true ∨ ¬ (a + 4 + numAt s a ≤ s.size)) ∧ f' = true) := by
  obtain ⟨t1, a1, f1, h1, h2⟩ := h
  rcases h1 with ⟨hf, hle, ht1, ha1, hf1⟩ | ⟨hf, ht1, ha1, hf1⟩
  · rw [num_ex s t1 a hle ht1] at h2
    subst ha1
    rcases h2 with ⟨_, hle2, ht, ha', hf'⟩ | ⟨hf2, _, _, hf'⟩
    · exact .inl ⟨hf, hle2, ht, ha', hf'⟩
    · refine .inr ⟨.inr fun hp => ?_, hf'⟩
      rcases hf2 with h | h
      · rw [hf1] at h; cases h
      · exact h hp
  · rcases h2 with ⟨hf2, _⟩ | ⟨_, _, _, hf'⟩
    · rw [hf1] at hf2; cases hf2
    · refine .inr ⟨?_, hf'⟩
      rcases hf with h | h
      · exact .inl h
      · exact .inr fun hp => h (by omega)
theorem seg_four (L : List UInt8) (a : Nat) (h : a + 4 ≤ L.length) : (L.drop a).take 4 = [L.getD a 0, L.getD (a + 1) 0, L.getD (a + 2) 0, L.getD (a + 3) 0] := by
  have := seg_add L a 2 2
  rw [← this, seg_two L a (by omega), seg_two L (a + 2) (by omega)]; rfl
theorem four_back (s : ByteArray) (a : Nat) (h : a + 4 ≤ s.size) : four (numAt s a) = (s.data.toList.drop a).take 4 := by
  rw [seg_four _ _ h, four]
  have h0 := (s.data.toList.getD a 0).toNat_lt
  have h1 := (s.data.toList.getD (a + 1) 0).toNat_lt
  have h2 := (s.data.toList.getD (a + 2) 0).toNat_lt
  have h3 := (s.data.toList.getD (a + 3) 0).toNat_lt
  have e0 : numAt s a % 256 = (s.data.toList.getD a 0).toNat := by unfold numAt; omega
  have e1 : numAt s a / 256 % 256 = (s.data.toList.getD (a + 1) 0).toNat := by unfold numAt; omega
  have e2 : numAt s a / 65536 % 256 = (s.data.toList.getD (a + 2) 0).toNat := by unfold numAt; omega
  have e3 : numAt s a / 16777216 % 256 = (s.data.toList.getD (a + 3) 0).toNat := by unfold numAt; omega
  rw [e0, e1, e2, e3]
  simp
theorem zeroT_rep {t : ByteArray} (h : zeroT t = true) : t.data.toList = List.replicate t.size 0 := by
  rw [List.eq_replicate_iff]
  refine ⟨rfl, fun b hb => ?_⟩
  have := List.all_eq_true.1 h b hb
  simpa using this
theorem rep_zeroT (n : Nat) {t : ByteArray} (h : t.data.toList = List.replicate n 0) : zeroT t = true := by
  unfold zeroT; rw [h, List.all_eq_true]
  intro b hb
  rw [List.eq_of_mem_replicate hb]; rfl

/-- A body that is read to its end. -/
theorem PX.yes {S t : ByteArray} {a' : Nat} (h : PX S 0 false t a' false) (ha : a' = S.size) :
    4 + numAt S 0 ≤ S.size ∧ t = S.extract 4 (4 + numAt S 0) ∧ S.data.toList = four (numAt S 0) ++ t.data.toList ++ List.replicate (S.size - (4 + numAt S 0)) 0 := by
  obtain ⟨a1, f1, t2, f2, h1, _, h3, hf⟩ := h
  have hf2 : f2 = false ∧ zeroT t2 = true := by
    cases f2 <;> cases hz : zeroT t2 <;> rw [hz] at hf <;> first | exact ⟨rfl, rfl⟩ | cases hf
  rcases SX4 h1 with ⟨_, hle, ht, ha1, hf1⟩ | ⟨_, hf1⟩
  · rw [Nat.zero_add] at hle ht ha1
    subst ha1
    rcases h3 with ⟨_, hle2, ht2, ha2, _⟩ | ⟨_, _, _, g⟩
    · refine ⟨hle, ht, ?_⟩
      have hz := zeroT_rep hf2.2
      have hg : gap (4 + numAt S 0) = S.size - (4 + numAt S 0) := by omega
      rw [ht2, ex_size S _ _ hle2, hg, ex_list] at hz
      have e0 := four_back S 0 (by omega)
      have hl : S.data.toList.length = S.size := rfl
      rw [e0, ht, ex_list, ← hz, List.drop_zero]
      have e1 := seg_add S.data.toList 0 4 (numAt S 0)
      rw [List.drop_zero, Nat.zero_add] at e1
      rw [e1, List.take_of_length_le (l := List.drop (4 + numAt S 0) S.data.toList) (by rw [List.length_drop]; omega), List.take_append_drop]
    · rw [g] at hf2; cases hf2.1
  · rcases h3 with ⟨g, _⟩ | ⟨_, _, _, g⟩
    · rw [hf1] at g; cases g
    · rw [g] at hf2; cases hf2.1
theorem PX.no {S t : ByteArray} {a' : Nat} {f' : Bool} (h : PX S 0 false t a' f') (N : Nat) (hN : numAt S 0 = N) (R : List UInt8) (hR : R.length = 4 + N) (hS : S.data.toList = R ++ List.replicate (gap (4 + N)) 0) : f' = false ∧ a' = S.size := by
  have hz : S.size = 4 + N + gap (4 + N) := by
    show S.data.toList.length = _
    rw [hS, List.length_append, List.length_replicate, hR]
  obtain ⟨a1, f1, t2, f2, h1, _, h3, hf⟩ := h
  rcases SX4 h1 with ⟨_, hle, ht, ha1, hf1⟩ | ⟨hno, _⟩
  · rw [Nat.zero_add, hN] at ha1
    subst ha1
    rcases h3 with ⟨_, hle2, ht2, ha2, g⟩ | ⟨hno, _⟩
    · refine ⟨?_, by omega⟩
      have : zeroT t2 = true := rep_zeroT (gap (4 + N)) (by
        rw [ht2, ex_list, hS, ← hR, List.drop_left, List.take_of_length_le (by rw [List.length_replicate]; exact Nat.le_refl _)])
      rw [hf, g, this]; rfl
    · rcases hno with g | g
      · rw [hf1] at g; cases g
      · omega
  · rcases hno with g | g
    · cases g
    · rw [hN] at g; omega

theorem un_head (s : ByteArray) (a : Nat) (j : Nat) (hj : j < 63) : ∀ q, a + 64 * (q + 1) ≤ s.size → (unTo s a (q + 1)).getD j 0 = s.data.toList.getD (a + j) 0
  | 0, h => by
    rw [unTo, unTo, List.nil_append, Nat.mul_zero, Nat.add_zero, ex_list, List.getD_eq_getElem?_getD, List.getD_eq_getElem?_getD, List.getElem?_take_of_lt hj, List.getElem?_drop]
  | q + 1, h => by
    rw [unTo, List.getD_eq_getElem?_getD, List.getElem?_append_left (by rw [un_len s a (q + 1) (by omega)]; omega), ← List.getD_eq_getElem?_getD]
    exact un_head s a j hj q (by omega)
theorem un_num (s : ByteArray) (a q : Nat) (hq : 1 ≤ q) (h : a + 64 * q ≤ s.size) : numAt (T (unTo s a q)) 0 = numAt s a := by
  obtain ⟨p, rfl⟩ : ∃ p, q = p + 1 := ⟨q - 1, by omega⟩
  have g := fun j hj => un_head s a j hj p h
  unfold numAt
  rw [T_data, g 0 (by omega), g (0 + 1) (by omega), g (0 + 2) (by omega), g (0 + 3) (by omega)]
  simp only [Nat.zero_add, Nat.add_zero]
theorem un_parts {s : ByteArray} {a : Nat} {L : List UInt8} : ∀ q, a + 64 * q ≤ s.size → unTo s a q = partsTo L q → ∀ j, j < q → (s.extract (a + 64 * j) (a + 64 * j + 63)).data.toList = part63 L (63 * j)
  | 0, _, _, j, hj => by omega
  | q + 1, h, he, j, hj => by
    rw [unTo, partsTo] at he
    have hl : (s.extract (a + 64 * q) (a + 64 * q + 63)).data.toList.length = (part63 L (63 * q)).length := by
      rw [part63_length]; exact ex_size s (a + 64 * q) 63 (by omega)
    have := List.append_inj' he hl
    by_cases hjq : j = q
    · subst hjq; exact this.2
    · exact un_parts q (by omega) this.1 j (by omega)
theorem marked_of {s : ByteArray} {a : Nat} {L : List UInt8} (h0 : s.data.toList.getD (a + 63) 0 = 83) : ∀ q, a + 64 * q ≤ s.size → (∀ j, 1 ≤ j → j < q → s.data.toList.getD (a + 64 * j + 63) 0 = 77) → (∀ j, j < q → (s.extract (a + 64 * j) (a + 64 * j + 63)).data.toList = part63 L (63 * j)) → (s.data.toList.drop a).take (64 * q) = markedTo L [83] [77] q
  | 0, _, _, _ => by rw [Nat.mul_zero, List.take_zero]; rfl
  | q + 1, h, hm, hp => by
    have hl : s.data.toList.length = s.size := rfl
    rw [markedTo, ← marked_of h0 q (by omega) (fun j h1 h2 => hm j h1 (by omega)) (fun j hj => hp j (by omega)), ← hp q (by omega), ex_list, show 64 * (q + 1) = 64 * q + (63 + 1) by omega, ← seg_add, ← seg_add, ← List.append_assoc, seg_one _ _ (by omega)]
    congr 2
    by_cases hq : q = 0
    · subst hq; rw [if_pos rfl, Nat.mul_zero, Nat.add_zero, h0]
    · rw [if_neg hq, hm q (by omega) (by omega)]
theorem marked_marks (L : List UInt8) (c d : UInt8) (j : Nat) : ∀ q, j < q → (markedTo L [c] [d] q).getD (64 * j + 63) 0 = if j = 0 then c else d
  | 0, h => by omega
  | q + 1, h => by
    have hl := markedTo_len1 L c d q
    rw [markedTo, List.append_assoc]
    by_cases hjq : j = q
    · subst hjq
      rw [List.getD_eq_getElem?_getD, List.getElem?_append_right (by omega), List.getElem?_append_right (by rw [part63_length]; omega), hl, part63_length, show 64 * j + 63 - 64 * j - 63 = 0 by omega]
      split <;> rfl
    · rw [List.getD_eq_getElem?_getD, List.getElem?_append_left (by omega), ← List.getD_eq_getElem?_getD]
      exact marked_marks L c d j q (by omega)

theorem node_yes {s : ByteArray} {a N q i a' a2 : Nat} {l : List UInt8} {t : ByteArray} (hq : secs N = q) (hN : N = numAt s a) (h1 : 1 ≤ N) (h2 : N ≤ 4000) (hmk : a + 64 ≤ s.size ∧ (s.data.toList.getD (a + 63) 0).toNat = 83) (hi : i + 1 = q) (hM : MI s a i a' false l) (hP : PX (T l) 0 false t a2 false) (ha2 : a2 = (T l).size) :
    IsNode s a t ∧ a' = a + 64 * secs t.size := by
  rcases hM with ⟨_, hg, ha', hl⟩ | ⟨_, g⟩
  · have hle : a + 64 * q ≤ s.size := by
      by_cases h : i = 0
      · omega
      · have := (hg i (by omega) (Nat.le_refl _)).1; omega
    rw [hi] at hl ha'
    subst hl
    have hq1 : 1 ≤ q := by omega
    have hn : numAt (T (unTo s a q)) 0 = N := by rw [un_num s a q hq1 hle, hN]
    have hsz : (T (unTo s a q)).size = 63 * q := un_len s a q hle
    obtain ⟨p1, p2, p3⟩ := hP.yes ha2
    rw [hn] at p1 p2 p3
    have hts : t.size = N := by rw [p2]; exact ex_size _ 4 N p1
    rw [hsz, T_data] at p3
    have hL : (four N ++ t.data.toList).length = 4 + N := by rw [List.length_append]; show 4 + t.size = _; rw [hts]
    have e : unTo s a q = partsTo (four N ++ t.data.toList) q := by
      rw [partsTo_eq, p3, List.take_of_length_le (by rw [hL]; omega), hL]
    have hx := marked_of (L := four N ++ t.data.toList) (UInt8.toNat.inj (by rw [hmk.2]; rfl)) q hle (fun j h1 h2 => UInt8.toNat.inj (by rw [(hg j h1 (by omega)).2]; rfl)) (un_parts q hle e)
    refine ⟨⟨by omega, by omega, by rw [hts, hq]; exact hle, ?_⟩, by rw [hts, hq]; exact ha'⟩
    rw [nodeRec, if_pos (by omega), marked, secs_eq, hts, hq, ← hx]
    conv => lhs; rw [← T_of s, T_extract, Nat.add_sub_cancel_left]
  · cases g
theorem node_no {s : ByteArray} {a N q i a' a2 : Nat} {f' f2 : Bool} {l : List UInt8} {t : ByteArray} (hq : secs N = q) (hN : N = numAt s a) (hi : i + 1 = q) (hM : MI s a i a' f' l) (hP : PX (T l) 0 false t a2 f2) (hno : ¬ (f' = false ∧ f2 = false ∧ a2 = (T l).size)) (enc : ByteArray) : ¬ IsNode s a enc := by
  intro hE
  have ht := hE.text
  have hn := hE.parts.2.2.1
  have hle := hE.2.2.1
  have hN2 : enc.size = N := by rw [hN, hn]
  rw [hN2, hq] at ht hle
  have hg : good s a i := fun j h1 h2 => by
    refine ⟨by omega, ?_⟩
    rw [Nat.add_assoc a, sub_getD ht (64 * j + 63) (by omega), marked_marks _ _ _ _ _ (by omega), if_neg (by omega)]; rfl
  rcases hM with ⟨hf, _, ha', hl⟩ | ⟨g, _⟩
  · rw [hi] at hl
    have hL : (four N ++ enc.data.toList).length = 4 + N := by rw [List.length_append]; show 4 + enc.size = _; rw [hN2]
    have hgap : 63 * q - (4 + N) = gap (4 + N) := by rw [← hq]; unfold secs gap; omega
    have hq63 : 4 + N ≤ 63 * q := by rw [← hq]; unfold secs; omega
    have e := un_of ht q (Nat.le_refl _)
    rw [partsTo_eq, List.take_of_length_le (by rw [hL]; exact hq63), hL, hgap] at e
    exact hno ⟨hf, hP.no N (by rw [hl, un_num s a q (by omega) hle, hN]) _ hL (by rw [T_data, hl]; exact e)⟩
  · exact g hg
end Go.Proofs.YtngnbflkiiehmaaGreatDoor
namespace Go.Proofs.YtngnbflkiiehmaaGreatDoor
open Go.RowKit Go.Proofs.Sha

/-- What stands once the text is taken. -/
structure CS (w : World) (fb r : Nat) (s : ByteArray) (a : Nat) (f : Bool) (W : World) : Prop where
  sz : w.heap.size = fb
  lt : r < fb
  rd : Rd r s a f W
  mv : Mv r w W
  rb : RB (fb + 1) 0 ⟨#[]⟩ 0 ⟨#[]⟩ 0 W
theorem BS.low {w : World} {fb r b : Nat} {s : ByteArray} {a : Nat} {f : Bool} {l : List UInt8} {W W' : World} (h : BS w fb r b s a f l W) (hb : Below b W W') : CS w fb r s a f W' :=
  have h1 := h.lt; have h2 := h.bb; have h3 := h.sz
  ⟨h.sz, h.lt, (hb.block r (by omega)).trans h.rd, ⟨hb.os.trans h.mv.os, hb.tape.trans h.mv.tape, hb.output.trans h.mv.output, Nat.le_trans h.mv.size hb.size, fun k hk hr => (hb.block k (by omega)).trans (h.mv.block k hk hr)⟩, (hb.block (fb + 1) (by omega)).trans h.rb⟩
theorem CS.below {w : World} {fb r : Nat} {s : ByteArray} {a : Nat} {f : Bool} {W W' : World} (h : CS w fb r s a f W) (hb : Below W.heap.size W W') : CS w fb r s a f W' :=
  ⟨h.sz, h.lt, h.rd.below hb, h.mv.trans (Mv.of_below r hb), below_cells hb h.rb⟩
theorem CS.move {w : World} {fb r : Nat} {s : ByteArray} {a : Nat} {f : Bool} {W W' : World} (h : CS w fb r s a f W) {a' : Nat} {f' : Bool} (hr : Rd r s a' f' W') (hm : Mv r W W') : CS w fb r s a' f' W' :=
  have h1 := h.lt
  ⟨h.sz, h.lt, hr, h.mv.trans hm, hm.cells h.rb (by omega)⟩

set_option maxRecDepth 100000 in
set_option maxHeartbeats 1000000 in
theorem nodeRec_take (r : Nat) (s : ByteArray) (a : Nat) (w : World) (h : Rd r s a false w) (ha : a ≤ s.size) (hs : s.size ≤ 1048576) :
    Calls Tryz.prog 92 #[.agg #[], .pointer (some ⟨r, 0, none⟩)] w fun e w' => ∃ (k v nx : Int) (enc root : ByteArray) (a' : Nat) (f' : Bool), e = .returned (recV k enc v root nx) ∧ Hid (NodeR s a k enc v root nx a' f') ∧ a' ≤ s.size ∧ Rd r s a' f' w' ∧ Mv r w w' := by
  have hlt := h.lt
  obtain ⟨fb, hfb⟩ : ∃ fb, w.heap.size = fb := ⟨_, rfl⟩
  obtain ⟨w0, hw0⟩ : ∃ w0, w0 = (w.alloc (.cells #[] 58)).alloc (.cells #[.int .i64 0, .string ⟨#[]⟩, .int .i64 0, .string ⟨#[]⟩, .int .i64 0] 36) := ⟨_, rfl⟩
  have hr0 : Rd r s a false w0 := by rw [hw0]; exact (h.alloc _).alloc _
  have hm0 : Mv r w w0 := by rw [hw0]; exact ((Mv.refl r w).alloc _).alloc _
  have hb0 : RB (fb + 1) 0 ⟨#[]⟩ 0 ⟨#[]⟩ 0 w0 := by
    rw [hw0]; unfold RB; rw [show fb + 1 = (w.alloc (.cells #[] 58)).heap.size by simp [hfb]]; exact heap_alloc_new _ _
  have hz0 : fb + 2 ≤ w0.heap.size := by rw [hw0]; simp [hfb]
  go_enter Tryz.func92, Tryz.ntmps92
  go_wp2_with fail
  rw [← hw0]
  clear hw0 h
  refine (rsec 83 r s a false _ hr0 ha hs (by omega) (by omega)).mono ?_
  rintro e w1 ⟨t1, a1, f1, rfl, H1, hf1, ha1, ht1, hr1, hm1⟩
  have hmw1 := hm0.trans hm1
  have hb1 : RB (fb + 1) 0 ⟨#[]⟩ 0 ⟨#[]⟩ 0 w1 := hm1.cells hb0 (by omega)
  have hz1 : fb + 2 ≤ w1.heap.size := Nat.le_trans hz0 hm1.size
  clear hm0 hm1 hb0 hr0 hz0
  go_wp2_with fail
  refine (recNum_any _).mono ?_
  rintro e w2 ⟨rfl, hb2⟩
  obtain ⟨r2, hr2e⟩ : ∃ r2, w1.heap.size = r2 := ⟨_, rfl⟩
  have hr2 : Rd r2 t1 0 false w2 := Rd.below (by unfold Rd; rw [← hr2e]; exact heap_alloc_new _ _) hb2
  have hA2 : Below w1.heap.size w1 w2 := ((Below.refl _ w1).alloc (Nat.le_refl _) _).trans (hb2.mono (by simp))
  rw [hr2e]
  go_wp2_with fail
  refine (rint 4 true r2 t1 0 false _ hr2 (Nat.zero_le _) (by omega) (by omega) (by omega)).mono ?_
  rintro e w3 ⟨N, t3, a3, f3, rfl, H3, HV, ha3, hN, hr3, hm3⟩
  have hA3 : Below w1.heap.size w1 w3 := hA2.trans (hm3.to_below (by have := hA2.size; omega) (by omega))
  have hrr3 : Rd r s a1 f1 w3 := hr1.below hA3
  have hmw3 : Mv r w w3 := hmw1.trans (Mv.of_below r hA3)
  have hb3 : RB (fb + 1) 0 ⟨#[]⟩ 0 ⟨#[]⟩ 0 w3 := below_cells hA3 hb1
  have hz3 : fb + 2 ≤ w3.heap.size := Nat.le_trans hz1 hA3.size
  clear hA3 hA2 hm3 hr3 hb2 hr2 hr1 hmw1 hb1 hz1
  have HVs : Hid (∀ w', Calls Tryz.prog 35 #[.int .i64 (N : Int)] w' fun e w'' => e = .returned (.bool (decide (1 ≤ N ∧ N ≤ 4000))) ∧ w' = w'') := fun w' => vsize_any N w'
  have hfirst := num_first H1.out hf1 H3.out HV.out
  by_cases hv : 1 ≤ N ∧ N ≤ 4000
  · rw [decide_eq_true hv] at HVs
    have hmk := hfirst.2 hv.1
    obtain ⟨rfl, ht1e, rfl, HNn⟩ := hfirst.1 hmk
    have HT1 : Hid (t1 = s.extract a (a + 63)) := ht1e
    have HNum : Hid (N = numAt s a) := HNn
    have HMK : Hid (a + 64 ≤ s.size ∧ (s.data.toList.getD (a + 63) 0).toNat = 83) := hmk
    clear hfirst H1 H3 HV hf1 ht1e HNn hmk
    go_wp2_with (first | (go_at_call 35; refine (HVs.out _).mono ?_; rintro e w4 ⟨rfl, rfl⟩))
    have ht1s : t1.size ≤ 63 := by rw [HT1.out, ByteArray.size_extract]; omega
    obtain ⟨b, hb⟩ : ∃ b, w3.heap.size = b := ⟨_, rfl⟩
    have hS3 : BS w fb r b s (a + 64) false [] (w3.alloc (.cells #[.pointer none, .slice none 0 0] 70)) := by
      refine ⟨hfb, by omega, by omega, ?_, hrr3.alloc _, hmw3.alloc _, below_cells ((Below.refl _ _).alloc (Nat.le_refl _) _) hb3⟩
      rw [← hb]; exact fresh_bld w3
    rw [hb]
    refine (ws_any b [] t1 _ hS3.bld (by show 0 + t1.size ≤ _; omega)).mono ?_
    rintro e w4 ⟨rfl, hp4⟩
    have hS4 := hS3.put hp4
    rw [List.nil_append] at hS4
    clear hp4 hS3 hb3 hmw3 hrr3 HVs
    go_wp2_with fail
    refine (recNum_any _).mono ?_
    rintro e w5 ⟨rfl, hb5⟩
    have hS5 := hS4.below hb5
    clear hS4 hb5
    obtain ⟨q, hq⟩ : ∃ q, secs N = q := ⟨_, rfl⟩
    have hq1 : 1 ≤ q ∧ q ≤ 65 ∧ N + 4 ≤ 63 * q := by rw [← hq]; unfold secs; omega
    have HQ : Hid (secs N = q) := hq
    have HSF : Hid (∀ w', Calls Tryz.prog 97 #[.int .i64 (4 + (N : Int))] w' fun e w'' => e = .returned (.int .i64 (q : Int)) ∧ w' = w'') := fun w' => by
      have := secsFor_any (4 + N) w' (by omega)
      rw [show ((4 + N : Nat) : Int) = 4 + (N : Int) by omega, show (4 + N + 62) / 63 = q by rw [← hq]; unfold secs; congr 1; omega] at this
      exact this
    clear hq
    have hfld : ∀ w : World, (Instr.field 123 (.agg #[.int .i64 4, .bool true]) 0).run Tryz.prog w = .ok (.int .i64 4) w := fun _ => by kernel_rfl
    have y1 : IntKind.i64.wrap (4 + (N : Int)) = 4 + (N : Int) := wrap_i64_in _ (by omega) (by omega)
    have y2 : IntKind.i64.wrap ((q : Int) - 1) = (q : Int) - 1 := wrap_i64_in _ (by omega) (by omega)
    go_wp2_with (first | (go_at_call 97; refine (HSF.out _).mono ?_; rintro e w6 ⟨rfl, rfl⟩))
    have HM0 : Hid (MI s a 0 (a + 64) false t1.data.toList) := .inl ⟨rfl, fun j h1 h2 => by omega, by omega, by rw [unTo, unTo, List.nil_append, HT1.out]; rfl⟩
    have ha64 : a + 64 ≤ s.size := HMK.out.1
    clear hfld HSF
    go_loopw [34] (fun t34 wr => ∃ (i a' : Nat) (f' : Bool) (l : List UInt8), i + 1 ≤ q ∧ t34 = .int .i64 (i : Int) ∧ BS w fb r b s a' f' l wr ∧ a' ≤ s.size ∧ l.length ≤ 63 * (i + 1) ∧ Hid (MI s a i a' f' l)) (fun t34 _ => q - (intOf t34).toNat)
    case atStart => exact ⟨0, a + 64, false, t1.data.toList, hq1.1, rfl, hS5, ha64, ht1s, HM0⟩
    case round =>
      obtain ⟨i, a', f', l, hi, rfl, hS, ha', hl, HM⟩ := hrel
      by_cases h1 : i + 1 < q
      · have z1 : decide ((i : Int) < (q : Int) - 1) = true := by simp; omega
        have z1' : decide ((i : Int) + 1 < (q : Int)) = true := by simp; omega
        go_wp2_with fail
        refine (rsec 77 r s a' f' _ hS.rd ha' hs (by omega) (by omega)).mono ?_
        rintro e w7 ⟨t7, a7, f7, rfl, H7, hf7, ha7, ht7, hr7, hm7⟩
        have hS7 := hS.move hr7 hm7
        have h7s := H7.out.small hf7
        have HM7 : Hid (MI s a (i + 1) a7 f7 (l ++ t7.data.toList)) := HM.out.step H7.out
        clear hr7 hm7 hf7 H7 HM
        go_wp2_with fail
        refine (ws_any b l t7 _ hS7.bld (by omega)).mono ?_
        rintro e w8 ⟨rfl, hp8⟩
        have hS8 := hS7.put hp8
        go_wp2_with fail
        refine ⟨⟨i + 1, a7, f7, l ++ t7.data.toList, by omega, congrArg (Value.int .i64) (by omega), hS8, ha7, ?_, HM7⟩, ?_⟩
        · rw [List.length_append]; show l.length + t7.size ≤ _; omega
        · show q - ((i : Int) + 1).toNat < q - ((i : Int)).toNat
          omega
      · have e : i + 1 = q := by omega
        have z1 : decide ((i : Int) < (q : Int) - 1) = false := by simp; omega
        have z1' : decide ((i : Int) + 1 < (q : Int)) = false := by simp; omega
        go_wp2_with fail
        refine (bstring b l _ hS.bld).mono ?_
        rintro e w7 ⟨rfl, hb7⟩
        have hS7 := hS.low hb7
        go_wp2_with fail
        refine (nodeBody_any _).mono ?_
        rintro e w8 ⟨rfl, hb8⟩
        have hS8 := hS7.below hb8
        go_wp2_with fail
        refine (whole_S (T l) _ (by rw [T_size]; omega)).mono ?_
        rintro e w9 ⟨t, t', a2, f2, bb, rfl, HP, HB, ht', ha2, hts, hb9⟩
        have hS9 := hS8.below hb9
        clear hS8 hS7 hS hb7 hb8 hb9
        have HNo : Hid (¬ (f' = false ∧ f2 = false ∧ a2 = (T l).size) → ∀ enc, ¬ IsNode s a enc) := fun hno enc => node_no HQ.out HNum.out e HM.out HP.out hno enc
        have HYes : Hid (f' = false → f2 = false → a2 = (T l).size → IsNode s a t ∧ a' = a + 64 * secs t.size) := fun hf hf2 h2 => by
          subst hf hf2
          exact node_yes HQ.out HNum.out hv.1 hv.2 HMK.out e HM.out HP.out h2
        clear HM HP HQ HNum HMK HT1 HM0 hS5 z1 z1' e
        by_cases hok : f2 = false ∧ a2 = (T l).size
        · have hbb : bb = true := by rw [HB.out, decide_eq_true hok]
          subst hbb
          have htt : t' = t := by rw [ht', if_pos rfl]
          subst htt
          have HO : Hid (f2 = false ∧ a2 = (T l).size) := hok
          clear hok ht' HB
          obtain ⟨c0, c1, c2, c3, c4, g0, g1, g2, g3, g4⟩ := RB.at hS9.rb
          go_wp2_with fail
          have hF := fin5 hS9.rd hS9.mv hfb (Nat.le_succ fb) (by omega)
          refine retRec rfl (RecAt.set5 ⟨c0, c1, c2, c3, c4, g0, g1, g2, g3, g4⟩ 1 t' 0 ⟨#[]⟩ 0) rfl rfl ⟨1, 0, 0, t', ⟨#[]⟩, a', f', rfl, ?_, ha', (hF _ _ _ _ _).1, (hF _ _ _ _ _).2⟩
          cases f'
          · have := HYes.out rfl HO.out.1 HO.out.2
            exact .inl ⟨rfl, this.1, this.2, rfl, rfl, rfl, rfl⟩
          · exact .inr ⟨rfl, HNo.out (by rintro ⟨h, _⟩; cases h)⟩
        · have hbb : bb = false := by rw [HB.out, decide_eq_false hok]
          subst hbb
          have htt : t' = ⟨#[]⟩ := by rw [ht', if_neg (by simp)]
          subst htt
          have HO : Hid (∀ enc, ¬ IsNode s a enc) := HNo.out fun h => hok h.2
          clear hok ht' HB
          go_wp2_with (first | (go_at_call 52; refine (fail_any r s a' f' _ hS9.rd).mono ?_; rintro e wA ⟨rfl, hrA, hmA⟩; have hSA := hS9.move hrA hmA; obtain ⟨c0, c1, c2, c3, c4, g0, g1, g2, g3, g4⟩ := RB.at hSA.rb))
          have hF := fin5 hSA.rd hSA.mv hfb (Nat.le_succ fb) (by omega)
          exact retRec rfl (RecAt.set5 ⟨c0, c1, c2, c3, c4, g0, g1, g2, g3, g4⟩ 1 ⟨#[]⟩ 0 ⟨#[]⟩ 0) rfl rfl ⟨1, 0, 0, ⟨#[]⟩, ⟨#[]⟩, a', true, rfl, .inr ⟨rfl, HO.out⟩, ha', (hF _ _ _ _ _).1, (hF _ _ _ _ _).2⟩
  · rw [decide_eq_false hv] at HVs
    have HNo : Hid (∀ enc', ¬ IsNode s a enc') := fun enc' hE => by
      have hp := hE.parts
      have := (hfirst.1 ⟨hp.1, by rw [hp.2.1]; rfl⟩).2.2.2
      rw [hp.2.2.1] at this
      exact hv ⟨by rw [this]; exact hE.1, by rw [this]; exact hE.2.1⟩
    clear hfirst H1 H3 HV hf1
    go_wp2_with (first | (go_at_call 35; refine (HVs.out _).mono ?_; rintro e w4 ⟨rfl, rfl⟩) | (go_at_call 52; refine (fail_any r s a1 f1 _ hrr3).mono ?_; rintro e w5 ⟨rfl, hr5, hm5⟩; obtain ⟨c0, c1, c2, c3, c4, g0, g1, g2, g3, g4⟩ := RB.at (show RB (fb + 1) 0 ⟨#[]⟩ 0 ⟨#[]⟩ 0 w5 from hm5.cells hb3 (by omega))))
    have hF := fin5 hr5 (hmw3.trans hm5) hfb (Nat.le_succ fb) (by omega)
    exact retRec rfl (RecAt.set5 ⟨c0, c1, c2, c3, c4, g0, g1, g2, g3, g4⟩ 0 ⟨#[]⟩ 0 ⟨#[]⟩ 0) rfl rfl ⟨0, 0, 0, ⟨#[]⟩, ⟨#[]⟩, a1, true, rfl, .inr ⟨rfl, HNo.out⟩, ha1, (hF _ _ _ _ _).1, (hF _ _ _ _ _).2⟩
end Go.Proofs.YtngnbflkiiehmaaGreatDoor
namespace Go.Proofs.YtngnbflkiiehmaaGreatDoor
open Go.RowKit Go.Proofs.Sha

theorem vcommit_any (v : Nat) (root : ByteArray) (w : World) : Calls Tryz.prog 31 #[.int .i64 (v : Int), .string root] w fun e w' => e = .returned (.bool (decide (1 ≤ v ∧ v ≤ 1000000 ∧ root.size ≤ 32))) ∧ w = w' := by
  by_cases h1 : 1 ≤ v
  · by_cases h2 : v ≤ 1000000
    · by_cases h3 : root.size ≤ 32
      · have z1 : decide ((1 : Int) ≤ (v : Int)) = true := by simp; omega
        have z2 : decide ((v : Int) ≤ 1000000) = true := by simp; omega
        have z3 : decide ((root.size : Int) ≤ 32) = true := by simp; omega
        rw [decide_eq_true ⟨h1, h2, h3⟩]
        go_enter Tryz.func31, Tryz.ntmps31
        go_wp2
        go_ret
        exact ⟨rfl, rfl⟩
      · have z1 : decide ((1 : Int) ≤ (v : Int)) = true := by simp; omega
        have z2 : decide ((v : Int) ≤ 1000000) = true := by simp; omega
        have z3 : decide ((root.size : Int) ≤ 32) = false := by simp; omega
        rw [decide_eq_false (by omega)]
        go_enter Tryz.func31, Tryz.ntmps31
        go_wp2
        go_ret
        exact ⟨rfl, rfl⟩
    · have z1 : decide ((1 : Int) ≤ (v : Int)) = true := by simp; omega
      have z2 : decide ((v : Int) ≤ 1000000) = false := by simp; omega
      rw [decide_eq_false (by omega)]
      go_enter Tryz.func31, Tryz.ntmps31
      go_wp2
      go_ret
      exact ⟨rfl, rfl⟩
  · have z1 : decide ((1 : Int) ≤ (v : Int)) = false := by simp; omega
    rw [decide_eq_false (by omega)]
    go_enter Tryz.func31, Tryz.ntmps31
    go_wp2
    go_ret
    exact ⟨rfl, rfl⟩

/-- What commitForm.take answers and leaves. -/
def KR (s : ByteArray) (a : Nat) (f : Bool) (v : Nat) (root : ByteArray) (a' : Nat) (f' : Bool) : Prop :=
  ∃ (t1 : ByteArray) (a1 : Nat) (f1 f2 : Bool), NX s a f 4 t1 a1 f1 ∧ v = valTo 4 true (byteAt t1) t1.size ∧ SX 1 false s a1 f1 root a' f2 ∧ f' = (f2 || !decide (1 ≤ v ∧ v ≤ 1000000 ∧ root.size ≤ 32))

theorem RB.s2 {g : Nat} {k : Int} {enc : ByteArray} {v : Int} {root : ByteArray} {nx : Int} {w : World} (h : RB g k enc v root nx w) (x : Int) : RB g k enc x root nx (w.setCell ⟨g, 2, none⟩ (.int .i64 x)) := heap_setCell_same w g 2 _ 36 _ h
theorem RB.s3 {g : Nat} {k : Int} {enc : ByteArray} {v : Int} {root : ByteArray} {nx : Int} {w : World} (h : RB g k enc v root nx w) (x : ByteArray) : RB g k enc v x nx (w.setCell ⟨g, 3, none⟩ (.string x)) := heap_setCell_same w g 3 _ 36 _ h

/-- What stands while a commit is read. -/
structure KS (w : World) (fb r : Nat) (s : ByteArray) (a : Nat) (f : Bool) (v : Int) (root : ByteArray) (W : World) : Prop where
  sz : w.heap.size = fb
  lt : r < fb
  rd : Rd r s a f W
  mv : Mv r w W
  rb : RB (fb + 1) 0 ⟨#[]⟩ 0 ⟨#[]⟩ 0 W
  nb : RB (fb + 1 + 1) 2 ⟨#[]⟩ v root 0 W
section
variable {w : World} {fb r : Nat} {s : ByteArray} {a : Nat} {f : Bool} {v : Int} {root : ByteArray} {W W' : World}
theorem KS.below (h : KS w fb r s a f v root W) (hb : Below W.heap.size W W') : KS w fb r s a f v root W' :=
  ⟨h.sz, h.lt, h.rd.below hb, h.mv.trans (Mv.of_below r hb), below_cells hb h.rb, below_cells hb h.nb⟩
theorem KS.move (h : KS w fb r s a f v root W) {a' : Nat} {f' : Bool} (hr : Rd r s a' f' W') (hm : Mv r W W') : KS w fb r s a' f' v root W' :=
  have hl := h.lt
  ⟨h.sz, h.lt, hr, h.mv.trans hm, hm.cells h.rb (by omega), hm.cells h.nb (by omega)⟩
theorem KS.s2 (h : KS w fb r s a f v root W) (y : Int) : KS w fb r s a f y root (W.setCell ⟨fb + 1 + 1, 2, none⟩ (.int .i64 y)) :=
  have hl := h.lt
  ⟨h.sz, h.lt, h.rd.other (by omega), h.mv.other h.sz (by omega), set_other h.rb (by omega), h.nb.s2 y⟩
theorem KS.s3 (h : KS w fb r s a f v root W) (y : ByteArray) : KS w fb r s a f v y (W.setCell ⟨fb + 1 + 1, 3, none⟩ (.string y)) :=
  have hl := h.lt
  ⟨h.sz, h.lt, h.rd.other (by omega), h.mv.other h.sz (by omega), set_other h.rb (by omega), h.nb.s3 y⟩
end

set_option maxRecDepth 100000 in
set_option maxHeartbeats 1000000 in
theorem commit_take (r : Nat) (s : ByteArray) (a : Nat) (f : Bool) (w : World) (h : Rd r s a f w) (ha : a ≤ s.size) (hs : s.size ≤ 1048576) :
    Calls Tryz.prog 152 #[.agg #[], .pointer (some ⟨r, 0, none⟩)] w fun e w' => ∃ (v : Nat) (root : ByteArray) (a' : Nat) (f' : Bool), e = .returned (recV 2 ⟨#[]⟩ (v : Int) root 0) ∧ Hid (KR s a f v root a' f') ∧ a' ≤ s.size ∧ Rd r s a' f' w' ∧ Mv r w w' := by
  have hlt := h.lt
  obtain ⟨fb, hfb⟩ : ∃ fb, w.heap.size = fb := ⟨_, rfl⟩
  obtain ⟨w0, hw0⟩ : ∃ w0, w0 = ((w.alloc (.cells #[] 147)).alloc (.cells #[.int .i64 0, .string ⟨#[]⟩, .int .i64 0, .string ⟨#[]⟩, .int .i64 0] 36)).alloc (.cells #[.int .i64 2, .string ⟨#[]⟩, .int .i64 0, .string ⟨#[]⟩, .int .i64 0] 36) := ⟨_, rfl⟩
  have hS0 : KS w fb r s a f 0 ⟨#[]⟩ w0 := by
    refine ⟨hfb, by omega, ?_, ?_, ?_, ?_⟩
    · rw [hw0]; exact ((h.alloc _).alloc _).alloc _
    · rw [hw0]; exact (((Mv.refl r w).alloc _).alloc _).alloc _
    · rw [hw0]; refine below_cells ((Below.refl _ _).alloc (Nat.le_refl _) _) ?_
      rw [show fb + 1 = (w.alloc (.cells #[] 147)).heap.size by simp [hfb]]; exact heap_alloc_new _ _
    · rw [hw0]; unfold RB; rw [show fb + 1 + 1 = ((w.alloc (.cells #[] 147)).alloc (.cells #[.int .i64 0, .string ⟨#[]⟩, .int .i64 0, .string ⟨#[]⟩, .int .i64 0] 36)).heap.size by simp [hfb]]; exact heap_alloc_new _ _
  go_enter Tryz.func152, Tryz.ntmps152
  go_wp2_with fail
  rw [← hw0]
  clear hw0 h
  refine (recNum_any _).mono ?_
  rintro e w1 ⟨rfl, hb1⟩
  have hS1 := hS0.below hb1
  clear hS0 hb1
  go_wp2_with fail
  refine (rint 4 true r s a f _ hS1.rd ha hs (by omega) (by omega)).mono ?_
  rintro e w2 ⟨v, t1, a1, f1, rfl, H1, HV, ha1, hv, hr2, hm2⟩
  have hS2 := hS1.move hr2 hm2
  clear hS1 hr2 hm2
  have c2 : w2.cell? ⟨fb + 1 + 1, 2, none⟩ = some (.int .i64 0) := Lib.cell_of_heap hS2.nb 2
  have g2 : w2.frozen? ⟨fb + 1 + 1, 2, none⟩ = false := frozen_of_heap hS2.nb
  go_wp2_with fail
  obtain ⟨w3, hw3⟩ : ∃ w3, w3 = w2.setCell ⟨fb + 1 + 1, 2, none⟩ (.int .i64 (v : Int)) := ⟨_, rfl⟩
  have hS3 : KS w fb r s a1 f1 (v : Int) ⟨#[]⟩ w3 := by rw [hw3]; exact hS2.s2 _
  rw [← hw3]
  clear hw3 hS2 c2 g2
  refine (rsized 1 false r s a1 f1 _ hS3.rd ha1 hs (by omega) (by omega)).mono ?_
  rintro e w4 ⟨root, a', f2, rfl, H2, ha', hrt, hr4, hm4⟩
  have hS4 := hS3.move hr4 hm4
  clear hS3 hr4 hm4
  have HK : Hid (∀ f', f' = (f2 || !decide (1 ≤ v ∧ v ≤ 1000000 ∧ root.size ≤ 32)) → KR s a f v root a' f') := fun f' hf' => ⟨t1, a1, f1, f2, H1.out, HV.out, H2.out, hf'⟩
  obtain ⟨z, hz⟩ : ∃ z, decide (1 ≤ v ∧ v ≤ 1000000 ∧ root.size ≤ 32) = z := ⟨_, rfl⟩
  have HVc : Hid (∀ w', Calls Tryz.prog 31 #[.int .i64 (v : Int), .string root] w' fun e w'' => e = .returned (.bool z) ∧ w' = w'') := fun w' => by rw [← hz]; exact vcommit_any v root w'
  rw [hz] at HK
  clear H1 HV H2 hz
  have c3 : w4.cell? ⟨fb + 1 + 1, 3, none⟩ = some (.string ⟨#[]⟩) := Lib.cell_of_heap hS4.nb 3
  have g3 : w4.frozen? ⟨fb + 1 + 1, 3, none⟩ = false := frozen_of_heap hS4.nb
  have c2 : w4.cell? ⟨fb + 1 + 1, 2, none⟩ = some (.int .i64 (v : Int)) := Lib.cell_of_heap hS4.nb 2
  go_wp2_with fail
  obtain ⟨w5, hw5⟩ : ∃ w5, w5 = w4.setCell ⟨fb + 1 + 1, 3, none⟩ (.string root) := ⟨_, rfl⟩
  have hS5 : KS w fb r s a' f2 (v : Int) root w5 := by rw [hw5]; exact hS4.s3 _
  rw [← hw5]
  clear hw5 hS4 c3 g3 c2
  refine (HVc.out _).mono ?_
  rintro e w6 ⟨rfl, rfl⟩
  have HEnd : Hid (∀ (W : World) (f' : Bool), f' = (f2 || !z) → KS w fb r s a' f' (v : Int) root W → ∀ (A : Act), A.tmps.getD 4 undef = .pointer (some ⟨fb + 1, 0, none⟩) → A.defers = [] →
      bodyPost Tryz.prog Tryz.f152 (fun e w' => ∃ (v : Nat) (root : ByteArray) (a' : Nat) (f' : Bool), e = .returned (recV 2 ⟨#[]⟩ (v : Int) root 0) ∧ Hid (KR s a f v root a' f') ∧ a' ≤ s.size ∧ Rd r s a' f' w' ∧ Mv r w w') .ret A
        (((((W.setCell ⟨fb + 1, 0, none⟩ (.int .i64 2)).setCell ⟨fb + 1, 1, none⟩ (.string ⟨#[]⟩)).setCell ⟨fb + 1, 2, none⟩ (.int .i64 (v : Int))).setCell ⟨fb + 1, 3, none⟩ (.string root)).setCell ⟨fb + 1, 4, none⟩ (.int .i64 0))) := by
    intro W f' hf' hS A h4 hd
    have hF := fin5 hS.rd hS.mv hfb (Nat.le_succ fb) (by omega)
    exact retRec rfl (RecAt.set5 (RB.at hS.rb) 2 ⟨#[]⟩ (v : Int) root 0) h4 hd ⟨v, root, a', f', rfl, HK.out f' hf', ha', (hF _ _ _ _ _).1, (hF _ _ _ _ _).2⟩
  clear HK HVc
  cases z
  · go_wp2_with fail
    refine (fail_any r s a' f2 _ hS5.rd).mono ?_
    rintro e w7 ⟨rfl, hr7, hm7⟩
    have hS7 := hS5.move hr7 hm7
    obtain ⟨c0, c1, c2, c3, c4, g0, g1, g2, g3, g4⟩ := RB.at hS7.rb
    obtain ⟨d0, d1, d2, d3, d4, k0, k1, k2, k3, k4⟩ := RB.at hS7.nb
    go_wp2_with fail
    exact HEnd.out _ true (by simp) hS7 _ rfl rfl
  · obtain ⟨c0, c1, c2, c3, c4, g0, g1, g2, g3, g4⟩ := RB.at hS5.rb
    obtain ⟨d0, d1, d2, d3, d4, k0, k1, k2, k3, k4⟩ := RB.at hS5.nb
    go_wp2_with fail
    exact HEnd.out _ f2 (by simp) hS5 _ rfl rfl
end Go.Proofs.YtngnbflkiiehmaaGreatDoor
namespace Go.Proofs.YtngnbflkiiehmaaGreatDoor
open Go.RowKit Go.Proofs.Sha

set_option maxRecDepth 100000 in
set_option maxHeartbeats 1000000 in
theorem rrec_commit (X : Int → ByteArray → Int → ByteArray → Int → Nat → Bool → Prop) (r : Nat) (s : ByteArray) (a : Nat) (f : Bool) (w : World) (h : Rd r s a f w)
    (HC : Hid (∀ w', Rd r s a f w' → Calls Tryz.prog 152 #[.agg #[], .pointer (some ⟨r, 0, none⟩)] w' fun e w'' => ∃ (k v nx : Int) (enc root : ByteArray) (a' : Nat) (f' : Bool), e = .returned (recV k enc v root nx) ∧ Hid (X k enc v root nx a' f') ∧ a' ≤ s.size ∧ Rd r s a' f' w'' ∧ Mv r w' w'')) :
    Calls Tryz.prog 51 #[.pointer (some ⟨r, 0, none⟩), .iface 147 (.agg #[])] w fun e w' => ∃ (k v nx : Int) (enc root : ByteArray) (a' : Nat) (f' : Bool), e = .returned (if f' = true then recV 0 ⟨#[]⟩ 0 ⟨#[]⟩ 0 else recV k enc v root nx) ∧ Hid (X k enc v root nx a' f') ∧ a' ≤ s.size ∧ Rd r s a' f' w' ∧ Mv r w w' := by
  have hmt : ∀ w : World, (method 292 147 (.agg #[]) "loop.example/s03048/impl.take").run Tryz.prog w = .ok (152, .agg #[]) w := fun _ => by kernel_rfl
  have hlt := h.lt
  obtain ⟨fb, hfb⟩ : ∃ fb, w.heap.size = fb := ⟨_, rfl⟩
  go_enter Tryz.func51, Tryz.ntmps51
  go_wp2_with fail
  refine (HC.out _ (h.alloc _)).mono ?_
  rintro e w1 ⟨k, v, nx, enc, root, a', f', rfl, HX, ha', hr1, hm1⟩
  have hn1 : RB fb 0 ⟨#[]⟩ 0 ⟨#[]⟩ 0 w1 := by rw [← hfb]; exact hm1.cells (heap_alloc_new _ _) (by omega)
  have hmw : Mv r w w1 := ((Mv.refl r w).alloc _).trans hm1
  have A1 : ∀ o, Rd r s a' f' (w1.alloc o) := fun o => hr1.alloc o
  have B1 : ∀ o, RB fb 0 ⟨#[]⟩ 0 ⟨#[]⟩ 0 (w1.alloc o) := fun o => below_cells ((Below.refl _ _).alloc (Nat.le_refl _) _) hn1
  have B2 : ∀ o o', RB fb 0 ⟨#[]⟩ 0 ⟨#[]⟩ 0 ((w1.alloc o).alloc o') := fun o o' => below_cells ((Below.refl _ _).alloc (Nat.le_refl _) _) (B1 o)
  have e1 : ∀ o, (w1.alloc o).cell? ⟨r, 2, none⟩ = some (.bool f') := fun o => Lib.cell_of_heap (A1 o) 2
  have b0 : ∀ o, (w1.alloc o).cell? ⟨fb, 0, none⟩ = some (.int .i64 0) := fun o => Lib.cell_of_heap (B1 o) 0
  have d0 : ∀ o, (w1.alloc o).frozen? ⟨fb, 0, none⟩ = false := fun o => frozen_of_heap (B1 o)
  have p0 : ∀ o o', ((w1.alloc o).alloc o').cell? ⟨fb, 0, none⟩ = some (.int .i64 0) := fun o o' => Lib.cell_of_heap (B2 o o') 0
  have q0 : ∀ o o', ((w1.alloc o).alloc o').frozen? ⟨fb, 0, none⟩ = false := fun o o' => frozen_of_heap (B2 o o')
  have b1 : ∀ o, (w1.alloc o).cell? ⟨fb, 1, none⟩ = some (.string ⟨#[]⟩) := fun o => Lib.cell_of_heap (B1 o) 1
  have d1 : ∀ o, (w1.alloc o).frozen? ⟨fb, 1, none⟩ = false := fun o => frozen_of_heap (B1 o)
  have p1 : ∀ o o', ((w1.alloc o).alloc o').cell? ⟨fb, 1, none⟩ = some (.string ⟨#[]⟩) := fun o o' => Lib.cell_of_heap (B2 o o') 1
  have q1 : ∀ o o', ((w1.alloc o).alloc o').frozen? ⟨fb, 1, none⟩ = false := fun o o' => frozen_of_heap (B2 o o')
  have b2 : ∀ o, (w1.alloc o).cell? ⟨fb, 2, none⟩ = some (.int .i64 0) := fun o => Lib.cell_of_heap (B1 o) 2
  have d2 : ∀ o, (w1.alloc o).frozen? ⟨fb, 2, none⟩ = false := fun o => frozen_of_heap (B1 o)
  have p2 : ∀ o o', ((w1.alloc o).alloc o').cell? ⟨fb, 2, none⟩ = some (.int .i64 0) := fun o o' => Lib.cell_of_heap (B2 o o') 2
  have q2 : ∀ o o', ((w1.alloc o).alloc o').frozen? ⟨fb, 2, none⟩ = false := fun o o' => frozen_of_heap (B2 o o')
  have b3 : ∀ o, (w1.alloc o).cell? ⟨fb, 3, none⟩ = some (.string ⟨#[]⟩) := fun o => Lib.cell_of_heap (B1 o) 3
  have d3 : ∀ o, (w1.alloc o).frozen? ⟨fb, 3, none⟩ = false := fun o => frozen_of_heap (B1 o)
  have p3 : ∀ o o', ((w1.alloc o).alloc o').cell? ⟨fb, 3, none⟩ = some (.string ⟨#[]⟩) := fun o o' => Lib.cell_of_heap (B2 o o') 3
  have q3 : ∀ o o', ((w1.alloc o).alloc o').frozen? ⟨fb, 3, none⟩ = false := fun o o' => frozen_of_heap (B2 o o')
  have b4 : ∀ o, (w1.alloc o).cell? ⟨fb, 4, none⟩ = some (.int .i64 0) := fun o => Lib.cell_of_heap (B1 o) 4
  have d4 : ∀ o, (w1.alloc o).frozen? ⟨fb, 4, none⟩ = false := fun o => frozen_of_heap (B1 o)
  have p4 : ∀ o o', ((w1.alloc o).alloc o').cell? ⟨fb, 4, none⟩ = some (.int .i64 0) := fun o o' => Lib.cell_of_heap (B2 o o') 4
  have q4 : ∀ o o', ((w1.alloc o).alloc o').frozen? ⟨fb, 4, none⟩ = false := fun o o' => frozen_of_heap (B2 o o')
  have HA : Hid (∀ o, Rd r s a' f' (w1.alloc o)) := A1
  have HB1 : Hid (∀ o, RB fb 0 ⟨#[]⟩ 0 ⟨#[]⟩ 0 (w1.alloc o)) := B1
  have HB2 : Hid (∀ o o', RB fb 0 ⟨#[]⟩ 0 ⟨#[]⟩ 0 ((w1.alloc o).alloc o')) := B2
  clear A1 B1 B2 hn1 hm1 HC hr1
  cases f'
  · go_wp2_with fail
    have hF := fun o => fin5 (HA.out o) (hmw.alloc o) hfb (Nat.le_refl fb) (by omega)
    exact retRec rfl (RecAt.set5 (RB.at (HB1.out _)) k enc v root nx) rfl rfl ⟨k, v, nx, enc, root, a', false, rfl, HX, ha', (hF _ _ _ _ _ _).1, (hF _ _ _ _ _ _).2⟩
  · go_wp2_with fail
    have hF := fun o o' => fin5 (Rd.alloc (HA.out o) o') ((hmw.alloc o).alloc o') hfb (Nat.le_refl fb) (by omega)
    exact retRec rfl (RecAt.set5 (RB.at (HB2.out _ _)) 0 ⟨#[]⟩ 0 ⟨#[]⟩ 0) rfl rfl ⟨k, v, nx, enc, root, a', true, rfl, HX, ha', (hF _ _ _ _ _ _ _).1, (hF _ _ _ _ _ _ _).2⟩
set_option maxRecDepth 100000 in
set_option maxHeartbeats 1000000 in
theorem rrec_pad (X : Int → ByteArray → Int → ByteArray → Int → Nat → Bool → Prop) (r : Nat) (s : ByteArray) (a : Nat) (f : Bool) (w : World) (h : Rd r s a f w)
    (HC : Hid (∀ w', Rd r s a f w' → Calls Tryz.prog 118 #[.agg #[.iface 147 (.agg #[])], .pointer (some ⟨r, 0, none⟩)] w' fun e w'' => ∃ (k v nx : Int) (enc root : ByteArray) (a' : Nat) (f' : Bool), e = .returned (recV k enc v root nx) ∧ Hid (X k enc v root nx a' f') ∧ a' ≤ s.size ∧ Rd r s a' f' w'' ∧ Mv r w' w'')) :
    Calls Tryz.prog 51 #[.pointer (some ⟨r, 0, none⟩), .iface 143 (.agg #[.iface 147 (.agg #[])])] w fun e w' => ∃ (k v nx : Int) (enc root : ByteArray) (a' : Nat) (f' : Bool), e = .returned (if f' = true then recV 0 ⟨#[]⟩ 0 ⟨#[]⟩ 0 else recV k enc v root nx) ∧ Hid (X k enc v root nx a' f') ∧ a' ≤ s.size ∧ Rd r s a' f' w' ∧ Mv r w w' := by
  have hmt : ∀ w : World, (method 292 143 (.agg #[.iface 147 (.agg #[])]) "loop.example/s03048/impl.take").run Tryz.prog w = .ok (118, .agg #[.iface 147 (.agg #[])]) w := fun _ => by kernel_rfl
  have hlt := h.lt
  obtain ⟨fb, hfb⟩ : ∃ fb, w.heap.size = fb := ⟨_, rfl⟩
  go_enter Tryz.func51, Tryz.ntmps51
  go_wp2_with fail
  refine (HC.out _ (h.alloc _)).mono ?_
  rintro e w1 ⟨k, v, nx, enc, root, a', f', rfl, HX, ha', hr1, hm1⟩
  have hn1 : RB fb 0 ⟨#[]⟩ 0 ⟨#[]⟩ 0 w1 := by rw [← hfb]; exact hm1.cells (heap_alloc_new _ _) (by omega)
  have hmw : Mv r w w1 := ((Mv.refl r w).alloc _).trans hm1
  have A1 : ∀ o, Rd r s a' f' (w1.alloc o) := fun o => hr1.alloc o
  have B1 : ∀ o, RB fb 0 ⟨#[]⟩ 0 ⟨#[]⟩ 0 (w1.alloc o) := fun o => below_cells ((Below.refl _ _).alloc (Nat.le_refl _) _) hn1
  have B2 : ∀ o o', RB fb 0 ⟨#[]⟩ 0 ⟨#[]⟩ 0 ((w1.alloc o).alloc o') := fun o o' => below_cells ((Below.refl _ _).alloc (Nat.le_refl _) _) (B1 o)
  have e1 : ∀ o, (w1.alloc o).cell? ⟨r, 2, none⟩ = some (.bool f') := fun o => Lib.cell_of_heap (A1 o) 2
  have b0 : ∀ o, (w1.alloc o).cell? ⟨fb, 0, none⟩ = some (.int .i64 0) := fun o => Lib.cell_of_heap (B1 o) 0
  have d0 : ∀ o, (w1.alloc o).frozen? ⟨fb, 0, none⟩ = false := fun o => frozen_of_heap (B1 o)
  have p0 : ∀ o o', ((w1.alloc o).alloc o').cell? ⟨fb, 0, none⟩ = some (.int .i64 0) := fun o o' => Lib.cell_of_heap (B2 o o') 0
  have q0 : ∀ o o', ((w1.alloc o).alloc o').frozen? ⟨fb, 0, none⟩ = false := fun o o' => frozen_of_heap (B2 o o')
  have b1 : ∀ o, (w1.alloc o).cell? ⟨fb, 1, none⟩ = some (.string ⟨#[]⟩) := fun o => Lib.cell_of_heap (B1 o) 1
  have d1 : ∀ o, (w1.alloc o).frozen? ⟨fb, 1, none⟩ = false := fun o => frozen_of_heap (B1 o)
  have p1 : ∀ o o', ((w1.alloc o).alloc o').cell? ⟨fb, 1, none⟩ = some (.string ⟨#[]⟩) := fun o o' => Lib.cell_of_heap (B2 o o') 1
  have q1 : ∀ o o', ((w1.alloc o).alloc o').frozen? ⟨fb, 1, none⟩ = false := fun o o' => frozen_of_heap (B2 o o')
  have b2 : ∀ o, (w1.alloc o).cell? ⟨fb, 2, none⟩ = some (.int .i64 0) := fun o => Lib.cell_of_heap (B1 o) 2
  have d2 : ∀ o, (w1.alloc o).frozen? ⟨fb, 2, none⟩ = false := fun o => frozen_of_heap (B1 o)
  have p2 : ∀ o o', ((w1.alloc o).alloc o').cell? ⟨fb, 2, none⟩ = some (.int .i64 0) := fun o o' => Lib.cell_of_heap (B2 o o') 2
  have q2 : ∀ o o', ((w1.alloc o).alloc o').frozen? ⟨fb, 2, none⟩ = false := fun o o' => frozen_of_heap (B2 o o')
  have b3 : ∀ o, (w1.alloc o).cell? ⟨fb, 3, none⟩ = some (.string ⟨#[]⟩) := fun o => Lib.cell_of_heap (B1 o) 3
  have d3 : ∀ o, (w1.alloc o).frozen? ⟨fb, 3, none⟩ = false := fun o => frozen_of_heap (B1 o)
  have p3 : ∀ o o', ((w1.alloc o).alloc o').cell? ⟨fb, 3, none⟩ = some (.string ⟨#[]⟩) := fun o o' => Lib.cell_of_heap (B2 o o') 3
  have q3 : ∀ o o', ((w1.alloc o).alloc o').frozen? ⟨fb, 3, none⟩ = false := fun o o' => frozen_of_heap (B2 o o')
  have b4 : ∀ o, (w1.alloc o).cell? ⟨fb, 4, none⟩ = some (.int .i64 0) := fun o => Lib.cell_of_heap (B1 o) 4
  have d4 : ∀ o, (w1.alloc o).frozen? ⟨fb, 4, none⟩ = false := fun o => frozen_of_heap (B1 o)
  have p4 : ∀ o o', ((w1.alloc o).alloc o').cell? ⟨fb, 4, none⟩ = some (.int .i64 0) := fun o o' => Lib.cell_of_heap (B2 o o') 4
  have q4 : ∀ o o', ((w1.alloc o).alloc o').frozen? ⟨fb, 4, none⟩ = false := fun o o' => frozen_of_heap (B2 o o')
  have HA : Hid (∀ o, Rd r s a' f' (w1.alloc o)) := A1
  have HB1 : Hid (∀ o, RB fb 0 ⟨#[]⟩ 0 ⟨#[]⟩ 0 (w1.alloc o)) := B1
  have HB2 : Hid (∀ o o', RB fb 0 ⟨#[]⟩ 0 ⟨#[]⟩ 0 ((w1.alloc o).alloc o')) := B2
  clear A1 B1 B2 hn1 hm1 HC hr1
  cases f'
  · go_wp2_with fail
    have hF := fun o => fin5 (HA.out o) (hmw.alloc o) hfb (Nat.le_refl fb) (by omega)
    exact retRec rfl (RecAt.set5 (RB.at (HB1.out _)) k enc v root nx) rfl rfl ⟨k, v, nx, enc, root, a', false, rfl, HX, ha', (hF _ _ _ _ _ _).1, (hF _ _ _ _ _ _).2⟩
  · go_wp2_with fail
    have hF := fun o o' => fin5 (Rd.alloc (HA.out o) o') ((hmw.alloc o).alloc o') hfb (Nat.le_refl fb) (by omega)
    exact retRec rfl (RecAt.set5 (RB.at (HB2.out _ _)) 0 ⟨#[]⟩ 0 ⟨#[]⟩ 0) rfl rfl ⟨k, v, nx, enc, root, a', true, rfl, HX, ha', (hF _ _ _ _ _ _ _).1, (hF _ _ _ _ _ _ _).2⟩
set_option maxRecDepth 100000 in
set_option maxHeartbeats 1000000 in
theorem rrec_node (X : Int → ByteArray → Int → ByteArray → Int → Nat → Bool → Prop) (r : Nat) (s : ByteArray) (a : Nat) (f : Bool) (w : World) (h : Rd r s a f w)
    (HC : Hid (∀ w', Rd r s a f w' → Calls Tryz.prog 92 #[.agg #[], .pointer (some ⟨r, 0, none⟩)] w' fun e w'' => ∃ (k v nx : Int) (enc root : ByteArray) (a' : Nat) (f' : Bool), e = .returned (recV k enc v root nx) ∧ Hid (X k enc v root nx a' f') ∧ a' ≤ s.size ∧ Rd r s a' f' w'' ∧ Mv r w' w'')) :
    Calls Tryz.prog 51 #[.pointer (some ⟨r, 0, none⟩), .iface 58 (.agg #[])] w fun e w' => ∃ (k v nx : Int) (enc root : ByteArray) (a' : Nat) (f' : Bool), e = .returned (if f' = true then recV 0 ⟨#[]⟩ 0 ⟨#[]⟩ 0 else recV k enc v root nx) ∧ Hid (X k enc v root nx a' f') ∧ a' ≤ s.size ∧ Rd r s a' f' w' ∧ Mv r w w' := by
  have hmt : ∀ w : World, (method 292 58 (.agg #[]) "loop.example/s03048/impl.take").run Tryz.prog w = .ok (92, .agg #[]) w := fun _ => by kernel_rfl
  have hlt := h.lt
  obtain ⟨fb, hfb⟩ : ∃ fb, w.heap.size = fb := ⟨_, rfl⟩
  go_enter Tryz.func51, Tryz.ntmps51
  go_wp2_with fail
  refine (HC.out _ (h.alloc _)).mono ?_
  rintro e w1 ⟨k, v, nx, enc, root, a', f', rfl, HX, ha', hr1, hm1⟩
  have hn1 : RB fb 0 ⟨#[]⟩ 0 ⟨#[]⟩ 0 w1 := by rw [← hfb]; exact hm1.cells (heap_alloc_new _ _) (by omega)
  have hmw : Mv r w w1 := ((Mv.refl r w).alloc _).trans hm1
  have A1 : ∀ o, Rd r s a' f' (w1.alloc o) := fun o => hr1.alloc o
  have B1 : ∀ o, RB fb 0 ⟨#[]⟩ 0 ⟨#[]⟩ 0 (w1.alloc o) := fun o => below_cells ((Below.refl _ _).alloc (Nat.le_refl _) _) hn1
  have B2 : ∀ o o', RB fb 0 ⟨#[]⟩ 0 ⟨#[]⟩ 0 ((w1.alloc o).alloc o') := fun o o' => below_cells ((Below.refl _ _).alloc (Nat.le_refl _) _) (B1 o)
  have e1 : ∀ o, (w1.alloc o).cell? ⟨r, 2, none⟩ = some (.bool f') := fun o => Lib.cell_of_heap (A1 o) 2
  have b0 : ∀ o, (w1.alloc o).cell? ⟨fb, 0, none⟩ = some (.int .i64 0) := fun o => Lib.cell_of_heap (B1 o) 0
  have d0 : ∀ o, (w1.alloc o).frozen? ⟨fb, 0, none⟩ = false := fun o => frozen_of_heap (B1 o)
  have p0 : ∀ o o', ((w1.alloc o).alloc o').cell? ⟨fb, 0, none⟩ = some (.int .i64 0) := fun o o' => Lib.cell_of_heap (B2 o o') 0
  have q0 : ∀ o o', ((w1.alloc o).alloc o').frozen? ⟨fb, 0, none⟩ = false := fun o o' => frozen_of_heap (B2 o o')
  have b1 : ∀ o, (w1.alloc o).cell? ⟨fb, 1, none⟩ = some (.string ⟨#[]⟩) := fun o => Lib.cell_of_heap (B1 o) 1
  have d1 : ∀ o, (w1.alloc o).frozen? ⟨fb, 1, none⟩ = false := fun o => frozen_of_heap (B1 o)
  have p1 : ∀ o o', ((w1.alloc o).alloc o').cell? ⟨fb, 1, none⟩ = some (.string ⟨#[]⟩) := fun o o' => Lib.cell_of_heap (B2 o o') 1
  have q1 : ∀ o o', ((w1.alloc o).alloc o').frozen? ⟨fb, 1, none⟩ = false := fun o o' => frozen_of_heap (B2 o o')
  have b2 : ∀ o, (w1.alloc o).cell? ⟨fb, 2, none⟩ = some (.int .i64 0) := fun o => Lib.cell_of_heap (B1 o) 2
  have d2 : ∀ o, (w1.alloc o).frozen? ⟨fb, 2, none⟩ = false := fun o => frozen_of_heap (B1 o)
  have p2 : ∀ o o', ((w1.alloc o).alloc o').cell? ⟨fb, 2, none⟩ = some (.int .i64 0) := fun o o' => Lib.cell_of_heap (B2 o o') 2
  have q2 : ∀ o o', ((w1.alloc o).alloc o').frozen? ⟨fb, 2, none⟩ = false := fun o o' => frozen_of_heap (B2 o o')
  have b3 : ∀ o, (w1.alloc o).cell? ⟨fb, 3, none⟩ = some (.string ⟨#[]⟩) := fun o => Lib.cell_of_heap (B1 o) 3
  have d3 : ∀ o, (w1.alloc o).frozen? ⟨fb, 3, none⟩ = false := fun o => frozen_of_heap (B1 o)
  have p3 : ∀ o o', ((w1.alloc o).alloc o').cell? ⟨fb, 3, none⟩ = some (.string ⟨#[]⟩) := fun o o' => Lib.cell_of_heap (B2 o o') 3
  have q3 : ∀ o o', ((w1.alloc o).alloc o').frozen? ⟨fb, 3, none⟩ = false := fun o o' => frozen_of_heap (B2 o o')
  have b4 : ∀ o, (w1.alloc o).cell? ⟨fb, 4, none⟩ = some (.int .i64 0) := fun o => Lib.cell_of_heap (B1 o) 4
  have d4 : ∀ o, (w1.alloc o).frozen? ⟨fb, 4, none⟩ = false := fun o => frozen_of_heap (B1 o)
  have p4 : ∀ o o', ((w1.alloc o).alloc o').cell? ⟨fb, 4, none⟩ = some (.int .i64 0) := fun o o' => Lib.cell_of_heap (B2 o o') 4
  have q4 : ∀ o o', ((w1.alloc o).alloc o').frozen? ⟨fb, 4, none⟩ = false := fun o o' => frozen_of_heap (B2 o o')
  have HA : Hid (∀ o, Rd r s a' f' (w1.alloc o)) := A1
  have HB1 : Hid (∀ o, RB fb 0 ⟨#[]⟩ 0 ⟨#[]⟩ 0 (w1.alloc o)) := B1
  have HB2 : Hid (∀ o o', RB fb 0 ⟨#[]⟩ 0 ⟨#[]⟩ 0 ((w1.alloc o).alloc o')) := B2
  clear A1 B1 B2 hn1 hm1 HC hr1
  cases f'
  · go_wp2_with fail
    have hF := fun o => fin5 (HA.out o) (hmw.alloc o) hfb (Nat.le_refl fb) (by omega)
    exact retRec rfl (RecAt.set5 (RB.at (HB1.out _)) k enc v root nx) rfl rfl ⟨k, v, nx, enc, root, a', false, rfl, HX, ha', (hF _ _ _ _ _ _).1, (hF _ _ _ _ _ _).2⟩
  · go_wp2_with fail
    have hF := fun o o' => fin5 (Rd.alloc (HA.out o) o') ((hmw.alloc o).alloc o') hfb (Nat.le_refl fb) (by omega)
    exact retRec rfl (RecAt.set5 (RB.at (HB2.out _ _)) 0 ⟨#[]⟩ 0 ⟨#[]⟩ 0) rfl rfl ⟨k, v, nx, enc, root, a', true, rfl, HX, ha', (hF _ _ _ _ _ _ _).1, (hF _ _ _ _ _ _ _).2⟩
set_option maxRecDepth 100000 in
set_option maxHeartbeats 1000000 in
theorem rrec_cr (X : Int → ByteArray → Int → ByteArray → Int → Nat → Bool → Prop) (r : Nat) (s : ByteArray) (a : Nat) (f : Bool) (w : World) (h : Rd r s a f w)
    (HC : Hid (∀ w', Rd r s a f w' → Calls Tryz.prog 88 #[.agg #[], .pointer (some ⟨r, 0, none⟩)] w' fun e w'' => ∃ (k v nx : Int) (enc root : ByteArray) (a' : Nat) (f' : Bool), e = .returned (recV k enc v root nx) ∧ Hid (X k enc v root nx a' f') ∧ a' ≤ s.size ∧ Rd r s a' f' w'' ∧ Mv r w' w'')) :
    Calls Tryz.prog 51 #[.pointer (some ⟨r, 0, none⟩), .iface 56 (.agg #[])] w fun e w' => ∃ (k v nx : Int) (enc root : ByteArray) (a' : Nat) (f' : Bool), e = .returned (if f' = true then recV 0 ⟨#[]⟩ 0 ⟨#[]⟩ 0 else recV k enc v root nx) ∧ Hid (X k enc v root nx a' f') ∧ a' ≤ s.size ∧ Rd r s a' f' w' ∧ Mv r w w' := by
  have hmt : ∀ w : World, (method 292 56 (.agg #[]) "loop.example/s03048/impl.take").run Tryz.prog w = .ok (88, .agg #[]) w := fun _ => by kernel_rfl
  have hlt := h.lt
  obtain ⟨fb, hfb⟩ : ∃ fb, w.heap.size = fb := ⟨_, rfl⟩
  go_enter Tryz.func51, Tryz.ntmps51
  go_wp2_with fail
  refine (HC.out _ (h.alloc _)).mono ?_
  rintro e w1 ⟨k, v, nx, enc, root, a', f', rfl, HX, ha', hr1, hm1⟩
  have hn1 : RB fb 0 ⟨#[]⟩ 0 ⟨#[]⟩ 0 w1 := by rw [← hfb]; exact hm1.cells (heap_alloc_new _ _) (by omega)
  have hmw : Mv r w w1 := ((Mv.refl r w).alloc _).trans hm1
  have A1 : ∀ o, Rd r s a' f' (w1.alloc o) := fun o => hr1.alloc o
  have B1 : ∀ o, RB fb 0 ⟨#[]⟩ 0 ⟨#[]⟩ 0 (w1.alloc o) := fun o => below_cells ((Below.refl _ _).alloc (Nat.le_refl _) _) hn1
  have B2 : ∀ o o', RB fb 0 ⟨#[]⟩ 0 ⟨#[]⟩ 0 ((w1.alloc o).alloc o') := fun o o' => below_cells ((Below.refl _ _).alloc (Nat.le_refl _) _) (B1 o)
  have e1 : ∀ o, (w1.alloc o).cell? ⟨r, 2, none⟩ = some (.bool f') := fun o => Lib.cell_of_heap (A1 o) 2
  have b0 : ∀ o, (w1.alloc o).cell? ⟨fb, 0, none⟩ = some (.int .i64 0) := fun o => Lib.cell_of_heap (B1 o) 0
  have d0 : ∀ o, (w1.alloc o).frozen? ⟨fb, 0, none⟩ = false := fun o => frozen_of_heap (B1 o)
  have p0 : ∀ o o', ((w1.alloc o).alloc o').cell? ⟨fb, 0, none⟩ = some (.int .i64 0) := fun o o' => Lib.cell_of_heap (B2 o o') 0
  have q0 : ∀ o o', ((w1.alloc o).alloc o').frozen? ⟨fb, 0, none⟩ = false := fun o o' => frozen_of_heap (B2 o o')
  have b1 : ∀ o, (w1.alloc o).cell? ⟨fb, 1, none⟩ = some (.string ⟨#[]⟩) := fun o => Lib.cell_of_heap (B1 o) 1
  have d1 : ∀ o, (w1.alloc o).frozen? ⟨fb, 1, none⟩ = false := fun o => frozen_of_heap (B1 o)
  have p1 : ∀ o o', ((w1.alloc o).alloc o').cell? ⟨fb, 1, none⟩ = some (.string ⟨#[]⟩) := fun o o' => Lib.cell_of_heap (B2 o o') 1
  have q1 : ∀ o o', ((w1.alloc o).alloc o').frozen? ⟨fb, 1, none⟩ = false := fun o o' => frozen_of_heap (B2 o o')
  have b2 : ∀ o, (w1.alloc o).cell? ⟨fb, 2, none⟩ = some (.int .i64 0) := fun o => Lib.cell_of_heap (B1 o) 2
  have d2 : ∀ o, (w1.alloc o).frozen? ⟨fb, 2, none⟩ = false := fun o => frozen_of_heap (B1 o)
  have p2 : ∀ o o', ((w1.alloc o).alloc o').cell? ⟨fb, 2, none⟩ = some (.int .i64 0) := fun o o' => Lib.cell_of_heap (B2 o o') 2
  have q2 : ∀ o o', ((w1.alloc o).alloc o').frozen? ⟨fb, 2, none⟩ = false := fun o o' => frozen_of_heap (B2 o o')
  have b3 : ∀ o, (w1.alloc o).cell? ⟨fb, 3, none⟩ = some (.string ⟨#[]⟩) := fun o => Lib.cell_of_heap (B1 o) 3
  have d3 : ∀ o, (w1.alloc o).frozen? ⟨fb, 3, none⟩ = false := fun o => frozen_of_heap (B1 o)
  have p3 : ∀ o o', ((w1.alloc o).alloc o').cell? ⟨fb, 3, none⟩ = some (.string ⟨#[]⟩) := fun o o' => Lib.cell_of_heap (B2 o o') 3
  have q3 : ∀ o o', ((w1.alloc o).alloc o').frozen? ⟨fb, 3, none⟩ = false := fun o o' => frozen_of_heap (B2 o o')
  have b4 : ∀ o, (w1.alloc o).cell? ⟨fb, 4, none⟩ = some (.int .i64 0) := fun o => Lib.cell_of_heap (B1 o) 4
  have d4 : ∀ o, (w1.alloc o).frozen? ⟨fb, 4, none⟩ = false := fun o => frozen_of_heap (B1 o)
  have p4 : ∀ o o', ((w1.alloc o).alloc o').cell? ⟨fb, 4, none⟩ = some (.int .i64 0) := fun o o' => Lib.cell_of_heap (B2 o o') 4
  have q4 : ∀ o o', ((w1.alloc o).alloc o').frozen? ⟨fb, 4, none⟩ = false := fun o o' => frozen_of_heap (B2 o o')
  have HA : Hid (∀ o, Rd r s a' f' (w1.alloc o)) := A1
  have HB1 : Hid (∀ o, RB fb 0 ⟨#[]⟩ 0 ⟨#[]⟩ 0 (w1.alloc o)) := B1
  have HB2 : Hid (∀ o o', RB fb 0 ⟨#[]⟩ 0 ⟨#[]⟩ 0 ((w1.alloc o).alloc o')) := B2
  clear A1 B1 B2 hn1 hm1 HC hr1
  cases f'
  · go_wp2_with fail
    have hF := fun o => fin5 (HA.out o) (hmw.alloc o) hfb (Nat.le_refl fb) (by omega)
    exact retRec rfl (RecAt.set5 (RB.at (HB1.out _)) k enc v root nx) rfl rfl ⟨k, v, nx, enc, root, a', false, rfl, HX, ha', (hF _ _ _ _ _ _).1, (hF _ _ _ _ _ _).2⟩
  · go_wp2_with fail
    have hF := fun o o' => fin5 (Rd.alloc (HA.out o) o') ((hmw.alloc o).alloc o') hfb (Nat.le_refl fb) (by omega)
    exact retRec rfl (RecAt.set5 (RB.at (HB2.out _ _)) 0 ⟨#[]⟩ 0 ⟨#[]⟩ 0) rfl rfl ⟨k, v, nx, enc, root, a', true, rfl, HX, ha', (hF _ _ _ _ _ _ _).1, (hF _ _ _ _ _ _ _).2⟩
end Go.Proofs.YtngnbflkiiehmaaGreatDoor
namespace Go.Proofs.YtngnbflkiiehmaaGreatDoor
open Go.RowKit Go.Proofs.Sha

/-- A commit with zeros behind is read. -/
def QX (s : ByteArray) (a : Nat) (f : Bool) (k : Int) (enc : ByteArray) (v : Int) (root : ByteArray) (nx : Int) (a' : Nat) (f' : Bool) : Prop :=
  ∃ (a1 : Nat) (f1 : Bool) (n : Nat) (rt t2 : ByteArray) (f2 : Bool), KR s a f n rt a1 f1 ∧ (f1 = false → k = 2 ∧ enc = ⟨#[]⟩ ∧ v = (n : Int) ∧ root = rt ∧ nx = 0) ∧ a1 ≤ s.size ∧ NX s a1 f1 (gap a1) t2 a' f2 ∧ f' = (f2 || !zeroT t2)

/-- What stands while a padded record is read. -/
structure PS (w : World) (fb r : Nat) (s : ByteArray) (a : Nat) (f : Bool) (g : Nat) (k : Int) (enc : ByteArray) (v : Int) (root : ByteArray) (nx : Int) (W : World) : Prop where
  sz : w.heap.size = fb
  lt : r < fb
  gb : fb + 1 < g
  rd : Rd r s a f W
  mv : Mv r w W
  rb : RB (fb + 1) 0 ⟨#[]⟩ 0 ⟨#[]⟩ 0 W
  nb : RB g k enc v root nx W
section
variable {w : World} {fb r g : Nat} {s : ByteArray} {a : Nat} {f : Bool} {k v nx : Int} {enc root : ByteArray} {W W' : World}
theorem PS.below (h : PS w fb r s a f g k enc v root nx W) (hb : Below W.heap.size W W') : PS w fb r s a f g k enc v root nx W' :=
  ⟨h.sz, h.lt, h.gb, h.rd.below hb, h.mv.trans (Mv.of_below r hb), below_cells hb h.rb, below_cells hb h.nb⟩
theorem PS.move (h : PS w fb r s a f g k enc v root nx W) {a' : Nat} {f' : Bool} (hr : Rd r s a' f' W') (hm : Mv r W W') : PS w fb r s a' f' g k enc v root nx W' :=
  have hl := h.lt; have hg := h.gb
  ⟨h.sz, h.lt, h.gb, hr, h.mv.trans hm, hm.cells h.rb (by omega), hm.cells h.nb (by omega)⟩
end

set_option maxRecDepth 100000 in
set_option maxHeartbeats 1000000 in
theorem padR_take (r : Nat) (s : ByteArray) (a : Nat) (f : Bool) (w : World) (h : Rd r s a f w) (ha : a ≤ s.size) (hs : s.size ≤ 90000) :
    Calls Tryz.prog 118 #[.agg #[.iface 147 (.agg #[])], .pointer (some ⟨r, 0, none⟩)] w fun e w' => ∃ (k v nx : Int) (enc root : ByteArray) (a' : Nat) (f' : Bool), e = .returned (recV k enc v root nx) ∧ Hid (QX s a f k enc v root nx a' f') ∧ a' ≤ s.size ∧ Rd r s a' f' w' ∧ Mv r w w' := by
  have HS : Hid (∀ w', Rd r s a f w' → Calls Tryz.prog 51 #[.pointer (some ⟨r, 0, none⟩), .iface 147 (.agg #[])] w' fun e w'' => ∃ (k v nx : Int) (enc root : ByteArray) (a1 : Nat) (f1 : Bool), e = .returned (recV k enc v root nx) ∧ Hid (∃ (n : Nat) (rt : ByteArray), KR s a f n rt a1 f1 ∧ (f1 = false → k = 2 ∧ enc = ⟨#[]⟩ ∧ v = (n : Int) ∧ root = rt ∧ nx = 0)) ∧ a1 ≤ s.size ∧ Rd r s a1 f1 w'' ∧ Mv r w' w'') := by
    intro w' h'
    refine (rrec_commit (fun k enc v root nx a1 f1 => ∃ (n : Nat) (rt : ByteArray), KR s a f n rt a1 f1 ∧ k = 2 ∧ enc = ⟨#[]⟩ ∧ v = (n : Int) ∧ root = rt ∧ nx = 0) r s a f w' h' ?_).mono ?_
    · intro w2 h2
      refine (commit_take r s a f w2 h2 ha (by omega)).mono ?_
      rintro e w3 ⟨n, rt, a1, f1, rfl, HK, ha1, hr3, hm3⟩
      exact ⟨2, (n : Int), 0, ⟨#[]⟩, rt, a1, f1, rfl, ⟨n, rt, HK.out, rfl, rfl, rfl, rfl, rfl⟩, ha1, hr3, hm3⟩
    · rintro e w3 ⟨k, v, nx, enc, root, a1, f1, rfl, HK, ha1, hr3, hm3⟩
      obtain ⟨n, rt, hK, hh⟩ := HK.out
      cases f1
      · exact ⟨k, v, nx, enc, root, a1, false, rfl, ⟨n, rt, hK, fun _ => hh⟩, ha1, hr3, hm3⟩
      · exact ⟨0, 0, 0, ⟨#[]⟩, ⟨#[]⟩, a1, true, rfl, ⟨n, rt, hK, fun h => by cases h⟩, ha1, hr3, hm3⟩
  have hlt := h.lt
  obtain ⟨fb, hfb⟩ : ∃ fb, w.heap.size = fb := ⟨_, rfl⟩
  obtain ⟨w0, hw0⟩ : ∃ w0, w0 = (w.alloc (.cells #[.iface 147 (.agg #[])] 143)).alloc (.cells #[.int .i64 0, .string ⟨#[]⟩, .int .i64 0, .string ⟨#[]⟩, .int .i64 0] 36) := ⟨_, rfl⟩
  have hr0 : Rd r s a f w0 := by rw [hw0]; exact (h.alloc _).alloc _
  have hm0 : Mv r w w0 := by rw [hw0]; exact ((Mv.refl r w).alloc _).alloc _
  have hb0 : RB (fb + 1) 0 ⟨#[]⟩ 0 ⟨#[]⟩ 0 w0 := by
    rw [hw0]; unfold RB; rw [show fb + 1 = (w.alloc (.cells #[.iface 147 (.agg #[])] 143)).heap.size by simp [hfb]]; exact heap_alloc_new _ _
  have hz0 : fb + 2 ≤ w0.heap.size := by rw [hw0]; simp [hfb]
  go_enter Tryz.func118, Tryz.ntmps118
  go_wp2_with fail
  rw [← hw0]
  clear hw0 h
  refine (HS.out _ hr0).mono ?_
  rintro e w1 ⟨k, v, nx, enc, root, a1, f1, rfl, HK, ha1, hr1, hm1⟩
  obtain ⟨gg, hgg⟩ : ∃ gg, w1.heap.size = gg := ⟨_, rfl⟩
  have hz1 := Nat.le_trans hz0 hm1.size
  have hS2 : PS w fb r s a1 f1 gg k enc v root nx (w1.alloc (.cells #[.int .i64 k, .string enc, .int .i64 v, .string root, .int .i64 nx] 36)) :=
    ⟨hfb, by omega, by omega, hr1.alloc _, (hm0.trans hm1).alloc _, below_cells ((Below.refl _ _).alloc (Nat.le_refl _) _) (hm1.cells hb0 (by omega)), by unfold RB; rw [← hgg]; exact heap_alloc_new _ _⟩
  clear hr0 hm0 hb0 hz0 hr1 hm1 hz1 HS
  obtain ⟨g, hg⟩ : ∃ g, gap a1 = g := ⟨_, rfl⟩
  have g63 : g < 63 := by rw [← hg]; exact gap_lt _
  have HM : Hid (∀ w', Calls Tryz.prog 120 #[.int .i64 (a1 : Int)] w' fun e w'' => e = .returned (.int .i64 (g : Int)) ∧ w' = w'') := fun w' => by rw [← hg]; exact missing_any a1 w' (by omega)
  have HN : Hid (∀ w', Rd r s a1 f1 w' → Calls Tryz.prog 108 #[.pointer (some ⟨r, 0, none⟩), .int .i64 (g : Int)] w' fun e w'' => ∃ t a' f', e = .returned (.string t) ∧ Hid (NX s a1 f1 g t a' f') ∧ a' ≤ s.size ∧ t.size ≤ s.size ∧ Rd r s a' f' w'' ∧ Mv r w' w'') := fun w' h' => next_any r s a1 f1 g w' h' ha1 (by omega) (by omega)
  have HG : Hid (gap a1 = g) := hg
  have c1 : (w1.alloc (.cells #[.int .i64 k, .string enc, .int .i64 v, .string root, .int .i64 nx] 36)).cell? ⟨r, 1, none⟩ = some (.int .i64 (a1 : Int)) := Lib.cell_of_heap hS2.rd 1
  clear hg
  go_wp2_with fail
  refine (HM.out _).mono ?_
  rintro e w2 ⟨rfl, rfl⟩
  clear c1
  go_wp2_with fail
  refine (HN.out _ hS2.rd).mono ?_
  rintro e w3 ⟨t2, a2, f2, rfl, HX2, ha2, ht2, hr3, hm3⟩
  have hS3 := hS2.move hr3 hm3
  clear hS2 hr3 hm3
  go_wp2_with fail
  refine (trim_any t2 _ (by omega)).mono ?_
  rintro e w4 ⟨y, rfl, HY, hb4⟩
  have hS4 := hS3.below hb4
  have HP : Hid (∀ f', f' = (f2 || !zeroT t2) → QX s a f k enc v root nx a2 f') := fun f' hf' => by
    obtain ⟨n, rt, hK, hh⟩ := HK.out
    exact ⟨a1, f1, n, rt, t2, f2, hK, hh, ha1, by rw [HG.out]; exact HX2.out, hf'⟩
  clear hb4 hS3 HK HX2 HM HN
  obtain ⟨z, hz⟩ : ∃ z, zeroT t2 = z := ⟨_, rfl⟩
  have ye : y.toList.isEmpty = z := by rw [HY.out, hz]
  rw [hz] at HP
  have HEnd : Hid (∀ (W : World) (f' : Bool), f' = (f2 || !z) → PS w fb r s a2 f' gg k enc v root nx W → ∀ (A : Act), A.tmps.getD 4 undef = .pointer (some ⟨fb + 1, 0, none⟩) → A.defers = [] →
      bodyPost Tryz.prog Tryz.f118 (fun e w' => ∃ (k v nx : Int) (enc root : ByteArray) (a' : Nat) (f' : Bool), e = .returned (recV k enc v root nx) ∧ Hid (QX s a f k enc v root nx a' f') ∧ a' ≤ s.size ∧ Rd r s a' f' w' ∧ Mv r w w') .ret A
        (((((W.setCell ⟨fb + 1, 0, none⟩ (.int .i64 k)).setCell ⟨fb + 1, 1, none⟩ (.string enc)).setCell ⟨fb + 1, 2, none⟩ (.int .i64 v)).setCell ⟨fb + 1, 3, none⟩ (.string root)).setCell ⟨fb + 1, 4, none⟩ (.int .i64 nx))) := by
    intro W f' hf' hS A h4 hd
    have hF := fin5 hS.rd hS.mv hfb (Nat.le_succ fb) (by omega)
    exact retRec rfl (RecAt.set5 (RB.at hS.rb) k enc v root nx) h4 hd ⟨k, v, nx, enc, root, a2, f', rfl, HP.out f' hf', ha2, (hF _ _ _ _ _).1, (hF _ _ _ _ _).2⟩
  clear HY hz HP HG
  cases z
  · go_wp2_with fail
    refine (fail_any r s a2 f2 _ hS4.rd).mono ?_
    rintro e w5 ⟨rfl, hr5, hm5⟩
    have hS5 := hS4.move hr5 hm5
    obtain ⟨c0, c1, c2, c3, c4, g0, g1, g2, g3, g4⟩ := RB.at hS5.rb
    obtain ⟨d0, d1, d2, d3, d4, k0, k1, k2, k3, k4⟩ := RB.at hS5.nb
    go_wp2_with fail
    exact HEnd.out _ true (by simp) hS5 _ rfl rfl
  · obtain ⟨c0, c1, c2, c3, c4, g0, g1, g2, g3, g4⟩ := RB.at hS4.rb
    obtain ⟨d0, d1, d2, d3, d4, k0, k1, k2, k3, k4⟩ := RB.at hS4.nb
    go_wp2_with fail
    exact HEnd.out _ f2 (by simp) hS4 _ rfl rfl
end Go.Proofs.YtngnbflkiiehmaaGreatDoor
