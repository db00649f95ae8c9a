import Derived.Test.YtibjhkpgaaapaaaGreatDoorZkdb
import Derived.Test.YtibjhkpgaaapaaaGreatDoorZkbh
import Derived.Test.YtibjhkpgaaapaaaGreatDoorZkbi
import Derived.Test.YtibjhkpgaaapaaaGreatDoorZkda
import Derived.Test.YtibjhkpgaaapaaaGreatDoorZkbt
import Derived.Test.YtibjhkpgaaapaaaGreatDoorZkaf
import Derived.Test.YtibjhkpgaaapaaaGreatDoorZkay
import Derived.Test.YtibjhkpgaaapaaaGreatDoorZkbq
namespace Go.Proofs.YtibjhkpgaaapaaaGreatDoor
open Go.RowKit Go.Proofs.Sha

theorem seg_add (L : List UInt8) (a m p : Nat) : (L.drop a).take m ++ (L.drop (a + m)).take p = (L.drop a).take (m + p) := by
  rw [List.take_add, List.drop_drop]
theorem seg_two (L : List UInt8) (a : Nat) (h : a + 2 ≤ L.length) : (L.drop a).take 2 = [L.getD a 0, L.getD (a + 1) 0] := by
  rw [List.getD_eq_getElem?_getD, List.getD_eq_getElem?_getD, List.getElem?_eq_getElem (by omega), List.getElem?_eq_getElem (by omega), List.drop_eq_getElem_cons (by omega), List.take_succ_cons, List.drop_eq_getElem_cons (by omega), List.take_succ_cons, List.take_zero]
  rfl
theorem seg_one (L : List UInt8) (a : Nat) (h : a + 1 ≤ L.length) : (L.drop a).take 1 = [L.getD a 0] := by
  rw [List.getD_eq_getElem?_getD, List.getElem?_eq_getElem (by omega), List.drop_eq_getElem_cons (by omega), List.take_succ_cons, List.take_zero]
  rfl
theorem sized_seg (s : ByteArray) (a : Nat) (h : pieceOk s a) : sized (s.extract (a + 2) (a + 2 + szAt s a)).data.toList = (s.data.toList.drop a).take (2 + szAt s a) := by
  have hL : s.data.toList.length = s.size := rfl
  have hlen : ((s.data.toList.drop (a + 2)).take (szAt s a)).length = szAt s a := by
    have := h.2
    rw [List.length_take, List.length_drop]; omega
  rw [ex_list, ← seg_add, seg_two _ _ (by rw [hL]; exact h.1), sized, hlen]
  have h0 := (s.data.toList.getD a 0).toNat_lt
  have h1 := (s.data.toList.getD (a + 1) 0).toNat_lt
  have e0 : szAt s a / 256 = (s.data.toList.getD a 0).toNat := by unfold szAt; omega
  have e1 : szAt s a % 256 = (s.data.toList.getD (a + 1) 0).toNat := by unfold szAt; omega
  rw [e0, e1]
  simp

theorem flag_eq (fl n l x : Nat) (hfl : fl ≤ 3) (hn : 1 ≤ n) (hl : l = if fl &&& 1 = 0 then 0 else n) (hx : x = if fl &&& 2 = 0 then 0 else n) : flagOf l x = fl := by
  subst hl hx
  have : fl = 0 ∨ fl = 1 ∨ fl = 2 ∨ fl = 3 := by omega
  have h0 : ¬ n = 0 := by omega
  rcases this with rfl | rfl | rfl | rfl <;> simp [flagOf, h0]
theorem flag_back (fl n l x : Nat) (hn : 1 ≤ n) (hfl : fl = flagOf l x) (hl : l = 0 ∨ l = n) (hx : x = 0 ∨ x = n) : (if fl &&& 1 = 0 then 0 else n) = l ∧ (if fl &&& 2 = 0 then 0 else n) = x ∧ fl ≤ 3 := by
  subst hfl
  unfold flagOf
  rcases hl with rfl | rfl <;> rcases hx with rfl | rfl
  · simp
  · have h : ¬ x = 0 := by omega
    simp [h]
  · have h : ¬ l = 0 := by omega
    simp [h]
  · have h : ¬ x = 0 := by omega
    simp [h]

theorem NR.enc {n : Nat} {s k v l x : ByteArray} (h : NR n s 0 false k v l x s.size false) : IsEnc s (n : Int) k v l x := by
  obtain ⟨a1, a2, fl, hp0, hk, ha1, hp1, hv, ha2, hle, hfl, hle2, hl, hx, hend, hfl3, hok⟩ := h.ok
  have ho := nodeOk_out hok
  refine ⟨hok, ?_⟩
  have hL : s.data.toList.length = s.size := rfl
  obtain ⟨n1, hn1⟩ : ∃ m, (if fl &&& 1 = 0 then 0 else n) = m := ⟨_, rfl⟩
  obtain ⟨n2, hn2⟩ : ∃ m, (if fl &&& 2 = 0 then 0 else n) = m := ⟨_, rfl⟩
  rw [hn1, hn2] at hle2 hx hend
  rw [hn1] at hl
  have hls : l.size = n1 := by rw [hl]; exact ex_size s _ _ (by omega)
  have hxs : x.size = n2 := by rw [hx]; exact ex_size s _ _ (by omega)
  have hf : flagOf l.size x.size = fl := flag_eq fl n _ _ hfl3 (by omega) (by rw [hls, hn1]) (by rw [hxs, hn2])
  refine of_list ?_
  unfold encL
  rw [show l.data.toList.length = l.size from rfl, show x.data.toList.length = x.size from rfl, hf]
  have e4 : x.data.toList = (s.data.toList.drop (a2 + 1 + n1)).take n2 := by rw [hx]; exact ex_list _ _ _
  have e3 : l.data.toList = (s.data.toList.drop (a2 + 1)).take n1 := by rw [hl]; exact ex_list _ _ _
  have e2 : [UInt8.ofNat fl] = (s.data.toList.drop a2).take 1 := by rw [seg_one _ _ (by rw [hL]; exact hle), hfl]; simp
  have e1 : sized v.data.toList = (s.data.toList.drop a1).take (2 + szAt s a1) := by rw [hv]; exact sized_seg s a1 hp1
  have e0 : sized k.data.toList = (s.data.toList.drop 0).take (2 + szAt s 0) := by rw [hk]; exact sized_seg s 0 hp0
  rw [e0, e1, e2, e3, e4]
  obtain ⟨z0, hz0⟩ : ∃ z, szAt s 0 = z := ⟨_, rfl⟩
  obtain ⟨z1, hz1⟩ : ∃ z, szAt s a1 = z := ⟨_, rfl⟩
  rw [hz0, hz1]
  rw [show a1 = 0 + (2 + z0) by omega, seg_add, show a2 = 0 + (2 + z0 + (2 + z1)) by omega, seg_add, show 0 + (2 + z0 + (2 + z1)) + 1 = 0 + (2 + z0 + (2 + z1) + 1) by omega, seg_add, show 0 + (2 + z0 + (2 + z1) + 1) + n1 = 0 + (2 + z0 + (2 + z1) + 1 + n1) by omega, seg_add]
  rw [List.drop_zero, List.take_of_length_le (by rw [hL]; omega)]

theorem NR.no {n : Nat} {s k v l x : ByteArray} {a' : Nat} {f' : Bool} (h : NR n s 0 false k v l x a' f') (hno : ¬ (f' = false ∧ a' = s.size)) (k' v' l' x' : ByteArray) : ¬ IsEnc s (n : Int) k' v' l' x' := by
  intro hE
  obtain ⟨p1, p2, p3⟩ := hE.parts
  obtain ⟨q1, q2, q3⟩ := p3 _ rfl
  obtain ⟨r1, r2⟩ := q3 _ rfl
  have ho := nodeOk_out hE.1
  obtain ⟨a1, f1, a2, f2, fl, t3, a3, f3, a4, f4, f5, h1, h2, h3, hfl, h4, h5, hf⟩ := h
  rcases SX2 h1 with ⟨_, hp1, hk, ha1, hf1⟩ | ⟨g, _⟩
  rotate_left
  · rcases g with g | g
    · cases g
    · exact g ⟨by omega, by omega⟩
  rcases SX2 h2 with ⟨_, hp2, hv, ha2, hf2⟩ | ⟨g, _⟩
  rotate_left
  · rcases g with g | g
    · rw [hf1] at g; cases g
    · subst ha1; exact g ⟨by omega, by omega⟩
  rcases NX1 h3 with ⟨_, hle3, hv3, ha3, hf3⟩ | ⟨g, _⟩
  rotate_left
  · rcases g with g | g
    · rw [hf2] at g; cases g
    · subst ha1 ha2; exact g (by omega)
  have hflv : fl = flagOf l'.size x'.size := by subst ha1 ha2; rw [hfl, hv3, r1]
  have hb := flag_back fl n l'.size x'.size (by omega) hflv (by omega) (by omega)
  have hsz : s.size - (a2 + 1) = l'.size + x'.size := by
    subst ha1 ha2
    have := congrArg ByteArray.size r2
    rw [ByteArray.size_extract, ByteArray.size_append] at this
    omega
  rw [hb.1] at h4
  rw [hb.2.1] at h5
  rcases h4 with ⟨_, hle4, hl, ha4, hf4⟩ | ⟨g, _⟩
  rotate_left
  · rcases g with g | g
    · rw [hf3] at g; cases g
    · exact g (by omega)
  rcases h5 with ⟨_, hle5, hx, ha5, hf5⟩ | ⟨g, _⟩
  rotate_left
  · rcases g with g | g
    · rw [hf4] at g; cases g
    · exact g (by omega)
  apply hno
  have hks : k = k' := by rw [hk, p2]
  have hvs : v = v' := by subst ha1; rw [hv, q2]
  have hls : l.size = l'.size := by rw [hl]; exact ex_size s _ _ (by omega)
  have hxs : x.size = x'.size := by rw [hx]; exact ex_size s _ _ (by omega)
  refine ⟨?_, by omega⟩
  rw [hf, hf5, hks, hvs, hls, hxs, hE.1, decide_eq_false (by omega)]
  rfl
end Go.Proofs.YtibjhkpgaaapaaaGreatDoor
namespace Go.Proofs.YtibjhkpgaaapaaaGreatDoor
open Go.RowKit Go.Proofs.Sha

theorem ret11 {w : World} {g : Nat} {k v l r : ByteArray} (h : NB g k v l r w) {a : Act} {R : Ending → World → Prop} (b : Bool) (h4 : a.tmps.getD 4 undef = .pointer (some ⟨g, 0, none⟩)) (h5 : a.tmps.getD 5 undef = .bool b) (hd : a.defers = [])
    (hR : R (.returned (.tuple #[nodeV k v l r, .bool b])) w) : bodyPost Tryz.prog Tryz.f198 R .ret a w := by
  have c0 : w.cell? ⟨g, 0, none⟩ = some (.string k) := Lib.cell_of_heap h 0
  have c1 : w.cell? ⟨g, 1, none⟩ = some (.string v) := Lib.cell_of_heap h 1
  have c2 : w.cell? ⟨g, 2, none⟩ = some (.string l) := Lib.cell_of_heap h 2
  have c3 : w.cell? ⟨g, 3, none⟩ = some (.string r) := Lib.cell_of_heap h 3
  have h4' : a.tmps[4]?.getD undef = .pointer (some ⟨g, 0, none⟩) := by simpa using h4
  have h5' : a.tmps[5]?.getD undef = .bool b := by simpa using h5
  exact bodyPost_ret (v := .tuple #[nodeV k v l r, .bool b]) (by simp [results, Tryz.results198, go_sem, h4', h5', asAddr, c0, c1, c2, c3]) hd hR

set_option maxRecDepth 100000 in
set_option maxHeartbeats 1000000 in
theorem dec_impl (s : ByteArray) (n : Int) (w : World) (hs : s.size ≤ 1048576) :
    Calls Tryz.prog 198 #[.string s, .int .i64 n] w fun e w' => decPost s n e ∧ Below w.heap.size w w' := by
  by_cases hw : 1 ≤ n ∧ n ≤ 32
  · obtain ⟨m, rfl⟩ := Int.eq_ofNat_of_zero_le (show 0 ≤ n by omega)
    have z1 : decide ((1 : Int) ≤ (m : Int)) = true := by simp; omega
    have z2 : decide ((m : Int) ≤ 32) = true := by simp; omega
    have HC : Hid (∀ w', Calls Tryz.prog 203 #[.string s, .iface 285 (.agg #[.int .i64 (m : Int)])] w' fun e w'' => ∃ (k v l x : ByteArray) (b : Bool), e = .returned (.tuple #[nodeV k v l x, .bool b]) ∧ Hid (decPost s (m : Int) (.returned (.tuple #[nodeV k v l x, .bool b]))) ∧ Below w'.heap.size w' w'') := by
      intro w'
      refine (whole_node m s w' hs (by omega)).mono ?_
      rintro e w'' ⟨k, v, l, x, a', f', rfl, HNR, ha', hb⟩
      by_cases hc : f' = false ∧ a' = s.size
      · refine ⟨k, v, l, x, true, by unfold wholeV; rw [if_pos hc], .inl ⟨k, v, l, x, ?_, rfl⟩, hb⟩
        have := HNR.out
        rw [hc.1, hc.2] at this
        exact this.enc
      · exact ⟨⟨#[]⟩, ⟨#[]⟩, ⟨#[]⟩, ⟨#[]⟩, false, by unfold wholeV; rw [if_neg hc], .inr ⟨fun k' v' l' x' => HNR.out.no hc k' v' l' x', rfl⟩, hb⟩
    obtain ⟨fb, hfb⟩ : ∃ fb, w.heap.size = fb := ⟨_, rfl⟩
    go_enter Tryz.func198, Tryz.ntmps198
    go_wp2_with (first | (go_at_call 203; refine (HC.out _).mono ?_; rintro e w1 ⟨k, v, l, x, b, rfl, HD, hb1⟩; have hn1 : NB fb ⟨#[]⟩ ⟨#[]⟩ ⟨#[]⟩ ⟨#[]⟩ w1 := below_cells hb1 (by rw [← hfb]; exact heap_alloc_new _ _); have c0 : w1.cell? ⟨fb, 0, none⟩ = some (.string ⟨#[]⟩) := Lib.cell_of_heap hn1 0; have c1 : w1.cell? ⟨fb, 1, none⟩ = some (.string ⟨#[]⟩) := Lib.cell_of_heap hn1 1; have c2 : w1.cell? ⟨fb, 2, none⟩ = some (.string ⟨#[]⟩) := Lib.cell_of_heap hn1 2; have c3 : w1.cell? ⟨fb, 3, none⟩ = some (.string ⟨#[]⟩) := Lib.cell_of_heap hn1 3; have f0 : w1.frozen? ⟨fb, 0, none⟩ = false := frozen_of_heap hn1; have f1 : w1.frozen? ⟨fb, 1, none⟩ = false := frozen_of_heap hn1; have f2 : w1.frozen? ⟨fb, 2, none⟩ = false := frozen_of_heap hn1; have f3 : w1.frozen? ⟨fb, 3, none⟩ = false := frozen_of_heap hn1) | go_in)
    refine ret11 ((((hn1.s0 _).s1 _).s2 _).s3 _) b rfl rfl rfl ⟨HD.out, ?_⟩
    have hb2 : Below fb w w1 := ((Below.refl _ w).alloc (by omega) _).trans (hb1.mono (by simp [hfb]))
    rw [hfb]
    exact (((hb2.setCell (Nat.le_refl _) _).setCell (Nat.le_refl _) _).setCell (Nat.le_refl _) _).setCell (Nat.le_refl _) _
  · have HN : Hid (∀ k v l r, ¬ IsEnc s n k v l r) := fun k v l r hE => by have := nodeOk_out hE.1; omega
    by_cases h1 : 1 ≤ n
    · have z1 : decide (1 ≤ n) = true := by simp; omega
      have z2 : decide (n ≤ 32) = false := by simp; omega
      go_enter Tryz.func198, Tryz.ntmps198
      go_wp2_with go_in
      exact ret11 (heap_alloc_new _ _) false rfl rfl rfl ⟨.inr ⟨HN.out, rfl⟩, (Below.refl _ _).alloc (Nat.le_refl _) _⟩
    · have z1 : decide (1 ≤ n) = false := by simp; omega
      go_enter Tryz.func198, Tryz.ntmps198
      go_wp2_with go_in
      exact ret11 (heap_alloc_new _ _) false rfl rfl rfl ⟨.inr ⟨HN.out, rfl⟩, (Below.refl _ _).alloc (Nat.le_refl _) _⟩

theorem IsEnc.one {s : ByteArray} {n : Int} {k v l r k' v' l' r' : ByteArray} (h : IsEnc s n k v l r) (h' : IsEnc s n k' v' l' r') : k = k' ∧ v = v' ∧ l = l' ∧ r = r' := by
  obtain ⟨_, p2, p3⟩ := h.parts
  obtain ⟨_, p2', p3'⟩ := h'.parts
  obtain ⟨_, q2, q3⟩ := p3 _ rfl
  obtain ⟨_, q2', q3'⟩ := p3' _ rfl
  obtain ⟨r1, r2⟩ := q3 _ rfl
  obtain ⟨r1', r2'⟩ := q3' _ rfl
  refine ⟨p2.trans p2'.symm, q2.trans q2'.symm, ?_⟩
  have s1 := h.sides r1 r2
  have s2 := h'.sides r1' r2'
  by_cases hf : (s.data.toList.getD (0 + 2 + szAt s 0 + 2 + szAt s (0 + 2 + szAt s 0)) 0).toNat % 2 = 1
  · have t1 := s1.1 hf
    have t2 := s2.1 hf
    exact ⟨t1.2.1.trans t2.2.1.symm, t1.2.2.trans t2.2.2.symm⟩
  · have t1 := s1.2 hf
    have t2 := s2.2 hf
    exact ⟨t1.1.trans t2.1.symm, t1.2.trans t2.2.symm⟩
/-- One answer at most. -/
theorem decPost.one {s : ByteArray} {n : Int} {e e' : Ending} (h : decPost s n e) (h' : decPost s n e') : e = e' := by
  rcases h with ⟨k, v, l, r, hE, rfl⟩ | ⟨hN, rfl⟩ <;> rcases h' with ⟨k', v', l', r', hE', rfl⟩ | ⟨hN', rfl⟩
  · obtain ⟨rfl, rfl, rfl, rfl⟩ := hE.one hE'
    rfl
  · exact absurd hE (hN' _ _ _ _)
  · exact absurd hE' (hN _ _ _ _)
  · rfl
end Go.Proofs.YtibjhkpgaaapaaaGreatDoor
namespace Go.Proofs.YtibjhkpgaaapaaaGreatDoor
open Go.RowKit Go.Proofs.Sha

theorem dec_ex (n : Int) (s : ByteArray) : ∃ x : ByteArray × ByteArray × ByteArray × ByteArray × Bool, decPost s n (.returned (.tuple #[nodeV x.1 x.2.1 x.2.2.1 x.2.2.2.1, .bool x.2.2.2.2])) := by
  by_cases hE : ∃ k v l r, IsEnc s n k v l r
  · obtain ⟨k, v, l, r, hE⟩ := hE
    exact ⟨(k, v, l, r, true), .inl ⟨k, v, l, r, hE, rfl⟩⟩
  · exact ⟨(⟨#[]⟩, ⟨#[]⟩, ⟨#[]⟩, ⟨#[]⟩, false), .inr ⟨fun k v l r h => hE ⟨k, v, l, r, h⟩, rfl⟩⟩
end Go.Proofs.YtibjhkpgaaapaaaGreatDoor
namespace Go.Proofs.YtibjhkpgaaapaaaGreatDoor
open Go.RowKit Go.Proofs.Sha

/-- What is left of a number, and its digits so far. -/
def leftK (k : Nat) : Nat → Nat
  | 0 => k
  | j + 1 => leftK k j / 10
def digs (k : Nat) : Nat → ByteArray
  | 0 => ⟨#[]⟩
  | j + 1 => ⟨#[UInt8.ofNat (48 + leftK k j % 10)]⟩ ++ digs k j
theorem digs_size (k j : Nat) : (digs k j).size = j := by
  induction j with
  | zero => rfl
  | succ j ih => rw [digs, ByteArray.size_append, ih]; show 1 + j = _; omega
theorem leftK_le (k j : Nat) (h : ∀ i, i < j → 0 < leftK k i) : leftK k j + j ≤ k := by
  induction j with
  | zero => exact Nat.le_refl _
  | succ j ih =>
    have h1 := ih (fun i hi => h i (by omega))
    have h2 := h j (by omega)
    rw [leftK]
    omega
theorem leftK_ends (k : Nat) : ∃ j, leftK k j = 0 ∧ ∀ i, i < j → 0 < leftK k i := by
  by_cases h : ∀ j, ∀ i, i < j → 0 < leftK k i
  · exfalso
    have := leftK_le k (k + 1) (h (k + 1))
    omega
  · obtain ⟨j, hj⟩ := Classical.not_forall.1 h
    clear h
    induction j with
    | zero => exact absurd (fun i hi => absurd hi (Nat.not_lt_zero i)) hj
    | succ j ih =>
      by_cases hs : ∀ i, i < j → 0 < leftK k i
      · refine ⟨j, ?_, hs⟩
        apply Nat.eq_zero_of_not_pos
        intro hp
        exact hj (fun i hi => by
          by_cases e : i = j
          · subst e; exact hp
          · exact hs i (by omega))
      · exact ih hs
set_option maxRecDepth 100000 in
set_option maxHeartbeats 400000 in
theorem markText_ex (k : Nat) (hk : 1 ≤ k) (hk2 : k ≤ 4000000) : ∃ X : ByteArray, ∀ w, Calls Tryz.prog 57 #[.int .i64 (k : Int)] w fun e w' => e = .returned (.string X) ∧ Below w.heap.size w w' := by
  obtain ⟨j0, hj0, hpos⟩ := leftK_ends k
  have hjb : j0 ≤ k := by have := leftK_le k j0 hpos; omega
  refine ⟨⟨#[109]⟩ ++ digs k j0, fun w => ?_⟩
  have z0 : decide ((k : Int) ≤ 0) = false := by rw [decide_eq_false_iff_not]; omega
  have z00 : decide (k = 0) = false := by rw [decide_eq_false_iff_not]; omega
  have z01 : ¬ k = 0 := by omega
  obtain ⟨Y, hY⟩ : ∃ Y, (⟨#[109]⟩ : ByteArray) ++ digs k j0 = Y := ⟨_, rfl⟩
  rw [hY]
  have HY : Hid ((⟨#[109]⟩ : ByteArray) ++ digs k j0 = Y) := hY
  clear hY
  go_enter Tryz.func57, Tryz.ntmps57
  go_wp2_with fail
  go_loopw [0, 3] (fun t0 t3 wr => ∃ j : Nat, j ≤ j0 ∧ t0 = .int .i64 (leftK k j : Int) ∧ t3 = .string (digs k j) ∧ Below w.heap.size w wr) (fun t0 _ _ => (intOf t0).toNat)
  case atStart => exact ⟨0, Nat.zero_le _, rfl, rfl, Below.refl _ _⟩
  case round =>
    obtain ⟨j, hj, rfl, rfl, hbw⟩ := hrel
    have hKb : leftK k j ≤ 4000000 := by have := leftK_le k j (fun i hi => hpos i (by omega)); omega
    have hsz := digs_size k j
    by_cases hlt : j < j0
    · have hp := hpos j hlt
      have hnx : Hid (leftK k (j + 1) = leftK k j / 10) := rfl
      have hdx : Hid (digs k (j + 1) = ⟨#[UInt8.ofNat (48 + leftK k j % 10)]⟩ ++ digs k j) := rfl
      generalize leftK k j = K at hp hKb hnx hdx ⊢
      generalize hD : digs k j = D at hsz hdx ⊢
      have z1 : decide ((K : Int) > 0) = true := by rw [decide_eq_true_eq]; omega
      have z2 : decide ((0 : Int) < (K : Int)) = true := by rw [decide_eq_true_eq]; omega
      have z3 : decide (0 < K) = true := by rw [decide_eq_true_eq]; omega
      obtain ⟨d, hd⟩ : ∃ d, 48 + K % 10 = d := ⟨_, rfl⟩
      have hrow : Row (wr.alloc (.cells #[.int .u8 (48 + (K : Int) % 10)] 5)) wr.heap.size wr.heap.size 1 1 ([UInt8.ofNat d].map B) := by
        have e : [UInt8.ofNat d].map B = [.int .u8 (48 + (K : Int) % 10)] := by
          show [B (UInt8.ofNat d)] = _
          unfold B
          have h8 : ((UInt8.ofNat d).toNat : Int) = 48 + (K : Int) % 10 := by
            rw [UInt8.toNat_ofNat']; omega
          rw [h8]
        rw [e]
        exact Row.of_block (Nat.le_refl _) (heap_alloc_new wr (.cells #[.int .u8 (48 + (K : Int) % 10)] 5)) 1 (by simp) (.inl rfl)
      have hbn : Below w.heap.size w (wr.alloc (.cells #[.int .u8 (48 + (K : Int) % 10)] 5)) := hbw.alloc hbw.size _
      rw [hd] at hdx
      have z4 : ¬ (9223372036854775807 < (⟨[UInt8.ofNat d].toArray⟩ : ByteArray).size + D.size) := by show ¬ _ < 1 + _; omega
      have z5 : ¬ (9223372036854775807 < 1 + D.size) := by omega
      have z6 : ¬ (9223372036854775807 < (⟨#[UInt8.ofNat d]⟩ : ByteArray).size + D.size) := by show ¬ _ < 1 + _; omega
      clear hd hpos
      go_upto_region 5 with fail
      go_wp2_with (first | (refine wpList_string_row _ rfl (.tmp 12) 41 9 5 rfl wr.heap.size wr.heap.size 1 1 [UInt8.ofNat d] rfl hrow Tryz.underlying41 Tryz.underlying5 Tryz.underlying9 ?_))
      go_roundw
      case rel => exact ⟨j + 1, hlt, by rw [hnx.out]; rfl, by rw [hdx.out], hbn⟩
      case measure => simp [intOf]; omega
    · obtain rfl : j = j0 := by omega
      rw [hj0]
      have z4 : ¬ (9223372036854775807 < (⟨#[109]⟩ : ByteArray).size + (digs k j).size) := by show ¬ _ < 1 + _; omega
      have z5 : ¬ (9223372036854775807 < 1 + (digs k j).size) := by omega
      go_wp2_with fail
      go_ret
      exact ⟨by rw [← HY.out]; rfl, hbw⟩
end Go.Proofs.YtibjhkpgaaapaaaGreatDoor
namespace Go.Proofs.YtibjhkpgaaapaaaGreatDoor
open Go.RowKit Go.Proofs.Sha

/-- What markText's contract says, by itself. -/
def MarkSaid (M : Nat → ByteArray) : Prop := ∀ k : Nat, 1 ≤ k → k ≤ 4000000 → ∀ w, Calls Tryz.prog 57 #[.int .i64 (k : Int)] w fun e w' => e = .returned (.string (M k)) ∧ Below w.heap.size w w'
theorem mark_ex : ∃ M, MarkSaid M := by
  have h : ∀ k : Nat, ∃ X : ByteArray, 1 ≤ k → k ≤ 4000000 → ∀ w, Calls Tryz.prog 57 #[.int .i64 (k : Int)] w fun e w' => e = .returned (.string X) ∧ Below w.heap.size w w' := fun k => by
    by_cases h1 : 1 ≤ k ∧ k ≤ 4000000
    · obtain ⟨X, hX⟩ := markText_ex k h1.1 h1.2
      exact ⟨X, fun _ _ => hX⟩
    · exact ⟨⟨#[]⟩, fun a b => absurd ⟨a, b⟩ h1⟩
  obtain ⟨M, hM⟩ := Classical.axiomOfChoice h
  exact ⟨M, hM⟩
def marksV (M : Nat → ByteArray) (k0 n : Nat) : List Value := (List.range n).map fun i => .string (M (k0 + i))
/-- A row, or nothing. -/
def SRow (w : World) (base : Nat) (a : Option Addr) (n c : Nat) (xs : List Value) : Prop := n = 0 ∨ ∃ g, a = some ⟨g, 0, none⟩ ∧ Row w base g n c xs
theorem own_srow {w : World} {base n c : Nat} {a : Option Addr} {xs : List Value} (h : w.ownsRow base 9 1 (.slice a n c) n xs) : SRow w base a n c xs := by
  by_cases hn : n = 0
  · exact .inl hn
  · right
    rcases h.2 with ⟨e, h0⟩ | ⟨g, cap, cur, e, hb, hg, q1, q2, q3, q4⟩
    · omega
    · simp only [Value.slice.injEq, true_and] at e
      obtain ⟨rfl, rfl⟩ := e
      refine ⟨g, rfl, hb, (Array.getElem?_eq_some_iff.1 hg).1, by have := h.1; omega, q1, fun j hj => ?_, fun j hj => ?_, fun j _ => ?_⟩
      · rw [cell_of_row w g j cur 9 (0, 0) hg, ← q4, List.getElem?_take, if_pos (by omega)]; simp
      · rw [cell_of_row w g j cur 9 (0, 0) hg, Array.getElem?_eq_getElem (by omega)]; rfl
      · rw [World.frozen?, hg]; rfl
theorem SRow.kept {w w' : World} {base n c : Nat} {a : Option Addr} {xs : List Value} {row : Option Nat} (h : SRow w base a n c xs) (hg : w.grownBy w' row) (hn : ∀ g, a = some ⟨g, 0, none⟩ → some g ≠ row) : SRow w' base a n c xs := by
  rcases h with h | ⟨g, ha, hr⟩
  · exact .inl h
  · exact .inr ⟨g, ha, hr.kept hg (hn g ha)⟩
theorem SRow.below {w w' : World} {base n c : Nat} {a : Option Addr} {xs : List Value} (h : SRow w base a n c xs) (hb : Below w.heap.size w w') : SRow w' base a n c xs := h.kept (grownBy_of_below hb none) (fun _ _ e => by cases e)
def partV (ys xs : List Value) (k : Nat) : List Value := ys.take k ++ xs.drop k
theorem partV_set (ys xs : List Value) (k : Nat) (h1 : k < ys.length) (h2 : k < xs.length) (v : Value) (hv : ys[k] = v) : (partV ys xs k).set k v = partV ys xs (k + 1) := by
  unfold partV
  rw [List.set_append_right _ _ (by rw [List.length_take]; omega), List.length_take, show k - min k ys.length = 0 by omega, List.drop_eq_getElem_cons h2, List.set_cons_zero, List.take_add_one, List.getElem?_eq_getElem h1, hv]
  simp
theorem marksV_at (M : Nat → ByteArray) (k0 n k : Nat) (h : k < (marksV M k0 n).length) : (marksV M k0 n)[k] = .string (M (k0 + k)) := by simp [marksV]
theorem marksV_len (M : Nat → ByteArray) (k0 n : Nat) : (marksV M k0 n).length = n := by simp [marksV]

end Go.Proofs.YtibjhkpgaaapaaaGreatDoor
namespace Go.Proofs.YtibjhkpgaaapaaaGreatDoor
open Go.RowKit Go.Proofs.Sha

/-- A row of pairs, or nothing. -/
def PRow (w : World) (base : Nat) (a : Option Addr) (n _c : Nat) (xs : List Value) : Prop := n = 0 ∨ ∃ g, a = some ⟨g, 0, none⟩ ∧ Row w base g (n * 2) (n * 2) xs
theorem own_prow {w : World} {base n c : Nat} {a : Option Addr} {xs : List Value} (h : w.ownsRow base 81 2 (.slice a n c) n xs) : PRow w base a n c xs := by
  by_cases hn : n = 0
  · exact .inl hn
  · right
    rcases h.2 with ⟨e, h0⟩ | ⟨g, cap, cur, e, hb, hg, q1, q2, q3, q4⟩
    · omega
    · simp only [Value.slice.injEq, true_and] at e
      obtain ⟨rfl, rfl⟩ := e
      refine ⟨g, rfl, hb, (Array.getElem?_eq_some_iff.1 hg).1, by have := h.1; omega, Nat.le_refl _, fun j hj => ?_, fun j hj => ?_, fun j _ => ?_⟩
      · rw [cell_of_row w g j cur 81 (0, 0) hg, ← q4, List.getElem?_take, if_pos (by omega)]; simp
      · rw [cell_of_row w g j cur 81 (0, 0) hg, Array.getElem?_eq_getElem (by omega)]; rfl
      · rw [World.frozen?, hg]; rfl
theorem PRow.below {w w' : World} {base n c : Nat} {a : Option Addr} {xs : List Value} (h : PRow w base a n c xs) (hb : Below w.heap.size w w') : PRow w' base a n c xs := by
  rcases h with h | ⟨g, h1, h2⟩
  · exact .inl h
  · exact .inr ⟨g, h1, h2.below hb⟩
set_option maxRecDepth 100000 in
set_option maxHeartbeats 400000 in
theorem markP_row (M : Nat → ByteArray) (HM : Hid (MarkSaid M)) (base g n c k0 : Nat) (xs : List Value) (w : World) (h : Row w base g (n * 2) (n * 2) xs) (h1 : 1 ≤ k0) (h2 : k0 + n * 2 ≤ 4000000) :
    Calls Tryz.prog 19 #[.slice (some ⟨g, 0, none⟩) n c, .int .i64 (k0 : Int)] w fun e w' => e = .returned (.int .i64 ((k0 + n * 2 : Nat) : Int)) ∧ Row w' base g (n * 2) (n * 2) (marksV M k0 (n * 2)) ∧ w.grownBy w' (some g) := by
  have hxl := h.len
  obtain ⟨Y, hY⟩ : ∃ Y, marksV M k0 (n * 2) = Y := ⟨_, rfl⟩
  have hYl : Y.length = n * 2 := by rw [← hY, marksV_len]
  have HYa : Hid (∀ k (hk : k < Y.length), Y[k] = .string (M (k0 + k))) := by subst hY; exact fun k hk => marksV_at M k0 (n * 2) k hk
  rw [hY]
  clear hY
  obtain ⟨z, hz⟩ : ∃ z : Int, ((k0 + n * 2 : Nat) : Int) = z := ⟨_, rfl⟩
  rw [hz]
  have HZ : Hid (((k0 + n * 2 : Nat) : Int) = z) := hz
  clear hz
  go_enter Tryz.func19, Tryz.ntmps19
  go_wp2_with fail
  go_loopw [1, 5] (fun t1 t5 wr => ∃ k : Nat, k ≤ n ∧ t1 = .int .i64 ((k0 + k * 2 : Nat) : Int) ∧ t5 = .int .i64 (k : Int) ∧ Row wr base g (n * 2) (n * 2) (partV Y xs (k * 2)) ∧ w.grownBy wr (some g)) (fun _ t5 _ => n - (intOf t5).toNat)
  case atStart => exact ⟨0, Nat.zero_le _, rfl, rfl, by unfold partV; simpa using h, grownBy_refl _ _⟩
  case round =>
    obtain ⟨k, hk, rfl, rfl, hrow, hgr⟩ := hrel
    by_cases hlt : k < n
    · have z1 : decide ((k : Int) < (n : Int)) = true := by simp; omega
      have hx0 : (0 : Int) ≤ (k : Int) := Int.natCast_nonneg _
      have hx1 : (k : Int) < (n : Int) := by omega
      have HK : Hid (∀ w', Calls Tryz.prog 57 #[.int .i64 ((k0 + k * 2 : Nat) : Int)] w' fun e w'' => e = .returned (.string (M (k0 + k * 2))) ∧ Below w'.heap.size w' w'') := fun w' => HM.out (k0 + k * 2) (by omega) (by omega) w'
      have HK2 : Hid (∀ w', Calls Tryz.prog 57 #[.int .i64 (((k0 + k * 2 : Nat) : Int) + 1)] w' fun e w'' => e = .returned (.string (M (k0 + (k * 2 + 1)))) ∧ Below w'.heap.size w' w'') := fun w' => HM.out (k0 + (k * 2 + 1)) (by omega) (by omega) w'
      have hset : Hid ((partV Y xs (k * 2)).set (k * 2) (.string (M (k0 + k * 2))) = partV Y xs (k * 2 + 1)) := partV_set Y xs (k * 2) (by omega) (by omega) _ (HYa.out (k * 2) (by omega))
      have hset2 : Hid ((partV Y xs (k * 2 + 1)).set (k * 2 + 1) (.string (M (k0 + (k * 2 + 1)))) = partV Y xs (k * 2 + 1 + 1)) := partV_set Y xs (k * 2 + 1) (by omega) (by omega) _ (HYa.out (k * 2 + 1) (by omega))
      obtain ⟨X, hX⟩ : ∃ X, M (k0 + k * 2) = X := ⟨_, rfl⟩
      rw [hX] at HK hset
      obtain ⟨X2, hX2⟩ : ∃ X2, M (k0 + (k * 2 + 1)) = X2 := ⟨_, rfl⟩
      rw [hX2] at HK2 hset2
      obtain ⟨p, hp⟩ : ∃ p : Nat, k0 + k * 2 = p := ⟨_, rfl⟩
      rw [hp] at HK HK2 ⊢
      have hpb : p ≤ 4000000 := by omega
      have hpn : Hid (k0 + (k + 1) * 2 = p + 1 + 1) := by show _ = _; omega
      clear hX hp hX2
      go_wp2_with fail
      refine (HK.out _).mono ?_
      rintro e w1 ⟨rfl, hb1⟩
      have hrow1 := hrow.below hb1
      have hrow1s := hrow1.set (k * 2) (by omega) (Value.string X)
      rw [hset.out] at hrow1s
      have hfr := hrow1.free (k * 2) (by omega)
      obtain ⟨y, hy⟩ := Option.isSome_iff_exists.1 (hrow1.room (k * 2) (by omega))
      go_wp2_with fail
      refine (HK2.out _).mono ?_
      rintro e w2 ⟨rfl, hb2⟩
      have hrow2 := hrow1s.below hb2
      have hfr2 := hrow2.free (k * 2 + 1) (by omega)
      obtain ⟨y2, hy2⟩ := Option.isSome_iff_exists.1 (hrow2.room (k * 2 + 1) (by omega))
      go_wp2_with fail
      go_roundw
      case rel =>
        have e := hrow2.set (k * 2 + 1) (by omega) (Value.string X2)
        rw [hset2.out] at e
        exact ⟨k + 1, hlt, by rw [hpn.out]; rfl, rfl, by rw [show (k + 1) * 2 = k * 2 + 1 + 1 by omega]; exact e, grownBy_trans hgr (grownBy_trans (grownBy_of_below hb1 _) (grownBy_trans (grownBy_setCell _ _ _ _) (grownBy_trans (grownBy_of_below hb2 _) (grownBy_setCell _ _ _ _))))⟩
      case measure => simp [intOf]; omega
    · obtain rfl : k = n := by omega
      have z1 : decide ((k : Int) < (k : Int)) = false := by simp
      have hfin : Row wr base g (k * 2) (k * 2) Y := by
        have : partV Y xs (k * 2) = Y := by unfold partV; rw [List.take_of_length_le (by omega), List.drop_of_length_le (by omega), List.append_nil]
        rw [this] at hrow; exact hrow
      rw [HZ.out]
      go_wp2_with fail
      go_ret
      exact ⟨rfl, hfin, hgr⟩
set_option maxRecDepth 100000 in
theorem markP_zero (a : Option Addr) (c k0 : Nat) (w : World) : Calls Tryz.prog 19 #[.slice a 0 c, .int .i64 (k0 : Int)] w fun e w' => e = .returned (.int .i64 (k0 : Int)) ∧ w = w' := by
  go_enter Tryz.func19, Tryz.ntmps19
  go_wp2_with fail
  go_loopw [1, 5] (fun t1 t5 wr => t1 = .int .i64 (k0 : Int) ∧ t5 = .int .i64 0 ∧ w = wr) (fun _ _ _ => 0)
  case atStart => exact ⟨rfl, rfl, rfl⟩
  case round =>
    obtain ⟨rfl, rfl, rfl⟩ := hrel
    go_wp2_with fail
    go_ret
    exact ⟨rfl, by first | rfl | trivial⟩
theorem markP_any (M : Nat → ByteArray) (HM : Hid (MarkSaid M)) (base n c k0 : Nat) (a : Option Addr) (xs : List Value) (w : World) (h : PRow w base a n c xs) (h1 : 1 ≤ k0) (h2 : k0 + n * 2 ≤ 4000000) :
    Calls Tryz.prog 19 #[.slice a n c, .int .i64 (k0 : Int)] w fun e w' => e = .returned (.int .i64 ((k0 + n * 2 : Nat) : Int)) ∧ PRow w' base a n c (marksV M k0 (n * 2)) ∧ w.grownBy w' (if n = 0 then none else (Value.slice a n c).ownBlock) := by
  by_cases hn : n = 0
  · subst hn
    refine (markP_zero a c k0 w).mono ?_
    rintro e w' ⟨rfl, rfl⟩
    exact ⟨rfl, .inl rfl, grownBy_refl _ _⟩
  · rcases h with h | ⟨g, rfl, hr⟩
    · exact absurd h hn
    · refine (markP_row M HM base g n c k0 xs w hr h1 h2).mono ?_
      rintro e w' ⟨rfl, q1, q2⟩
      rw [if_neg hn]
      exact ⟨rfl, .inr ⟨g, rfl, q1⟩, q2⟩
set_option maxRecDepth 100000 in
set_option maxHeartbeats 400000 in
theorem heldP_any (M : Nat → ByteArray) (HM : Hid (MarkSaid M)) (base n c k0 : Nat) (a : Option Addr) (w : World) (h : PRow w base a n c (marksV M k0 (n * 2))) (h1 : 1 ≤ k0) (h2 : k0 + n * 2 ≤ 4000000) :
    Calls Tryz.prog 20 #[.slice a n c, .int .i64 (k0 : Int)] w fun e w' => e = .returned (.int .i64 ((k0 + n * 2 : Nat) : Int)) ∧ Below w.heap.size w w' := by
  obtain ⟨z, hz⟩ : ∃ z : Int, ((k0 + n * 2 : Nat) : Int) = z := ⟨_, rfl⟩
  rw [hz]
  have HZ : Hid (((k0 + n * 2 : Nat) : Int) = z) := hz
  clear hz
  go_enter Tryz.func20, Tryz.ntmps20
  go_wp2_with fail
  go_loopw [1, 5] (fun t1 t5 wr => ∃ k : Nat, k ≤ n ∧ t1 = .int .i64 ((k0 + k * 2 : Nat) : Int) ∧ t5 = .int .i64 (k : Int) ∧ Below w.heap.size w wr) (fun _ t5 _ => n - (intOf t5).toNat)
  case atStart => exact ⟨0, Nat.zero_le _, rfl, rfl, Below.refl _ _⟩
  case round =>
    obtain ⟨k, hk, rfl, rfl, hbw⟩ := hrel
    by_cases hlt : k < n
    · have z1 : decide ((k : Int) < (n : Int)) = true := by simp; omega
      have hx0 : (0 : Int) ≤ (k : Int) := Int.natCast_nonneg _
      have hx1 : (k : Int) < (n : Int) := by omega
      have HK : Hid (∀ w', Calls Tryz.prog 57 #[.int .i64 ((k0 + k * 2 : Nat) : Int)] w' fun e w'' => e = .returned (.string (M (k0 + k * 2))) ∧ Below w'.heap.size w' w'') := fun w' => HM.out (k0 + k * 2) (by omega) (by omega) w'
      have HK2 : Hid (∀ w', Calls Tryz.prog 57 #[.int .i64 (((k0 + k * 2 : Nat) : Int) + 1)] w' fun e w'' => e = .returned (.string (M (k0 + (k * 2 + 1)))) ∧ Below w'.heap.size w' w'') := fun w' => HM.out (k0 + (k * 2 + 1)) (by omega) (by omega) w'
      rcases h.below hbw with h0 | ⟨g, rfl, hrow⟩
      · omega
      · have hcx : wr.cell? ⟨g, k * 2, none⟩ = some (.string (M (k0 + k * 2))) := by
          rw [hrow.cell (k * 2) (by omega), List.getElem?_eq_getElem (by rw [marksV_len]; omega), marksV_at]
        have hcy : wr.cell? ⟨g, k * 2 + 1, none⟩ = some (.string (M (k0 + (k * 2 + 1)))) := by
          rw [hrow.cell (k * 2 + 1) (by omega), List.getElem?_eq_getElem (by rw [marksV_len]; omega), marksV_at]
        obtain ⟨X, hX⟩ : ∃ X, M (k0 + k * 2) = X := ⟨_, rfl⟩
        rw [hX] at HK hcx
        obtain ⟨X2, hX2⟩ : ∃ X2, M (k0 + (k * 2 + 1)) = X2 := ⟨_, rfl⟩
        rw [hX2] at HK2 hcy
        obtain ⟨p, hp⟩ : ∃ p : Nat, k0 + k * 2 = p := ⟨_, rfl⟩
        rw [hp] at HK HK2 ⊢
        have hpb : p ≤ 4000000 := by omega
        have hpn : Hid (k0 + (k + 1) * 2 = p + 1 + 1) := by show _ = _; omega
        have hgl := hrow.lt
        have hq : (X.toList != X.toList) = false := by simp
        have hq2 : (X2.toList != X2.toList) = false := by simp
        clear hX hp hrow hX2
        have HC : Hid (∀ W : World, Below wr.heap.size wr W → W.cell? ⟨g, k * 2, none⟩ = some (.string X) ∧ W.cell? ⟨g, k * 2 + 1, none⟩ = some (.string X2)) := fun W hW => ⟨(hW.cell hgl).trans hcx, (hW.cell hgl).trans hcy⟩
        go_upto_region 4 with fail
        go_region_held3 (fun W => W.cell? ⟨g, k * 2, none⟩ = some (.string X)) (first | exact hcx | exact (HC.out _ hb1).1) (first | (go_at_call 57; refine (HK.out _).mono ?_; rintro e w1 ⟨rfl, hb1'⟩; have hb1 : Below wr.heap.size wr w1 := (Below.refl wr.heap.size wr).drew.trans hb1'; clear hb1'))
        obtain ⟨_, hcy1⟩ := HC.out _ hb1
        go_wp2_with fail
        go_region_held3 (fun W => W.cell? ⟨g, k * 2 + 1, none⟩ = some (.string X2)) (first | exact hcy1 | exact (HC.out _ hb2).2) (first | (go_at_call 57; refine (HK2.out _).mono ?_; rintro e w2 ⟨rfl, hb2'⟩; have hb2 : Below wr.heap.size wr w2 := hb1.trans (((Below.refl w1.heap.size w1).drew.trans hb2').mono hb1.size); clear hb2'))
        go_wp2_with fail
        go_roundw
        case rel => exact ⟨k + 1, hlt, by rw [hpn.out]; rfl, rfl, hbw.trans (hb2.mono hbw.size)⟩
        case measure => simp [intOf]; omega
    · obtain rfl : k = n := by omega
      have z1 : decide ((k : Int) < (k : Int)) = false := by simp
      rw [HZ.out]
      go_wp2_with fail
      go_ret
      exact ⟨rfl, hbw⟩
end Go.Proofs.YtibjhkpgaaapaaaGreatDoor
namespace Go.Proofs.YtibjhkpgaaapaaaGreatDoor
open Go.RowKit Go.Proofs.Sha

set_option maxRecDepth 100000 in
set_option maxHeartbeats 1000000 in
theorem toPool_row (n : Int) (a : Option Addr) (ss : List ByteArray) (c : Nat) (w : World) (h : SArg a ss w) :
    Calls Tryz.prog 13 #[.agg #[.int .i64 n, .slice a ss.length c]] w fun e w' => ∃ g, e = .returned (.agg #[.int .i64 n, .slice (some ⟨g, 0, none⟩) ss.length ss.length]) ∧ Row w' w.heap.size g ss.length ss.length (ss.map Value.string) ∧ Below w.heap.size w w' := by
  have HT : Hid (∀ w', SArg a ss w' → Calls Tryz.prog 51 #[.slice a ss.length c] w' fun e w'' => ∃ g, e = .returned (.slice (some ⟨g, 0, none⟩) ss.length ss.length) ∧ Row w'' w'.heap.size g ss.length ss.length (ss.map Value.string) ∧ Below w'.heap.size w' w'') := fun w' h' => toStringS_any a ss c w' h'
  go_enter Tryz.func13, Tryz.ntmps13
  obtain ⟨o1, ho1⟩ : ∃ o : Obj, .cells #[.int .i64 n, .slice a ss.length c] 27 = o := ⟨_, rfl⟩
  have hW : Below w.heap.size w (((w.alloc o1).alloc (.cells #[.int .i64 0, .slice none 0 0] 31)).alloc (.cells #[.int .i64 n, .slice none 0 0] 31)) := ((((Below.refl _ w).alloc (Nat.le_refl _) _).alloc (by simp) _).alloc (by simp; omega) _)
  have m2 := heap_alloc_new ((w.alloc o1).alloc (.cells #[.int .i64 0, .slice none 0 0] 31)) (.cells #[.int .i64 n, .slice none 0 0] 31)
  have m1 := pblk_below ((Below.refl _ _).alloc (Nat.le_refl _) (.cells #[.int .i64 n, .slice none 0 0] 31)) (heap_alloc_new (w.alloc o1) (.cells #[.int .i64 0, .slice none 0 0] 31))
  have hsz3 : (((w.alloc o1).alloc (.cells #[.int .i64 0, .slice none 0 0] 31)).alloc (.cells #[.int .i64 n, .slice none 0 0] 31)).heap.size = w.heap.size + 3 := by simp
  rw [World.size_alloc] at m1
  rw [World.size_alloc, World.size_alloc] at m2
  subst ho1
  go_wp2_with fail
  refine (HT.out _ (h.below hW)).mono ?_
  rintro e w1 ⟨g, rfl, hrow, hb1⟩
  have n1 := pblk_below hb1 m1
  have n2 := pblk_below hb1 m2
  have hge := hrow.ge
  have hB1 := hW.trans (hb1.mono hW.size)
  rw [hsz3] at hge
  replace hrow := hrow.mono (show w.heap.size ≤ _ by rw [hsz3]; omega)
  clear hb1 m1 m2 hW hsz3
  obtain ⟨g1, hg1⟩ : ∃ g1, w.heap.size + 1 = g1 := ⟨_, rfl⟩
  obtain ⟨g2, hg2⟩ : ∃ g2, w.heap.size + 1 + 1 = g2 := ⟨_, rfl⟩
  rw [hg1] at n1
  rw [hg2] at n2
  rw [hg2, hg1]
  have hle1 : w.heap.size ≤ g1 := by omega
  have hle2 : w.heap.size ≤ g2 := by omega
  have hne1 : g1 ≠ g := by omega
  have hne2 : g2 ≠ g := by omega
  have hne : g2 ≠ g1 := by omega
  clear hge hg1 hg2
  have c0 := Lib.cell_of_heap n2 0
  have c1 := Lib.cell_of_heap n2 1
  have fr2 : ∀ j, w1.frozen? ⟨g2, j, none⟩ = false := fun j => by rw [World.frozen?, n2]; rfl
  have f1 := fr2 1
  obtain ⟨W, hWW⟩ : ∃ W, w1.setCell ⟨g2, 1, none⟩ (.slice (some ⟨g, 0, none⟩) ss.length ss.length) = W := ⟨_, rfl⟩
  have p2 : W.heap[g2]? = some (.cells #[.int .i64 n, .slice (some ⟨g, 0, none⟩) ss.length ss.length] 31) := by rw [← hWW]; exact heap_setCell_same _ g2 1 _ 31 _ n2
  have p1 : W.heap[g1]? = some (.cells #[.int .i64 0, .slice none 0 0] 31) := by
    rw [← hWW]
    exact ((grownBy_setCell _ _ _ _).block g1 (Array.getElem?_eq_some_iff.1 n1).1 (fun e => hne (Option.some.inj e).symm)).trans n1
  have hrW : Row W w.heap.size g ss.length ss.length (ss.map Value.string) := by rw [← hWW]; exact hrow.kept (grownBy_setCell _ _ _ _) (fun e => hne2 (Option.some.inj e).symm)
  have hBW : Below w.heap.size w W := by rw [← hWW]; exact hB1.setCell hle2 _
  go_upto_region 4 with fail
  clear hWW n1 n2 c0 c1 f1 fr2 hrow hB1
  have c0 := Lib.cell_of_heap p2 0
  have c1 := Lib.cell_of_heap p2 1
  have e0 := Lib.cell_of_heap p1 0
  have e1 := Lib.cell_of_heap p1 1
  have fr1 : ∀ j, W.frozen? ⟨g1, j, none⟩ = false := fun j => by rw [World.frozen?, p1]; rfl
  have f0 := fr1 0
  have f1 := fr1 1
  go_wp2_with fail
  have q1 := heap_setCell_same _ g1 1 _ 31 (.slice (some ⟨g, 0, none⟩) ss.length ss.length) (heap_setCell_same _ g1 0 _ 31 (.int .i64 n) p1)
  refine retP Tryz.results13 rfl rfl q1 ⟨g, rfl, (hrW.kept (grownBy_setCell _ _ _ _) (fun e => hne1 (Option.some.inj e).symm)).kept (grownBy_setCell _ _ _ _) (fun e => hne1 (Option.some.inj e).symm), (hBW.setCell hle1 _).setCell hle1 _⟩
theorem PArg.grown {a : Option Addr} {ps : List PairT} {w w' : World} {row : Option Nat} (h : PArg a ps w) (hg : w.grownBy w' row) (hn : ∀ b off, a = some ⟨b, off, none⟩ → 0 < ps.length → some b ≠ row) : PArg a ps w' := by
  refine ⟨h.le, h.sz, fun h0 => ?_⟩
  obtain ⟨b, off, ha, hlt, hc⟩ := h.at_ h0
  have hne := hn b off ha h0
  exact ⟨b, off, ha, Nat.lt_of_lt_of_le hlt hg.size, fun j hj => ⟨(hg.cell_far ⟨b, off + j * 2, none⟩ hlt hne).trans (hc j hj).1, (hg.cell_far ⟨b, off + j * 2 + 1, none⟩ hlt hne).trans (hc j hj).2⟩⟩
theorem own_parg {w : World} {base c : Nat} {a : Option Addr} {ps : List PairT} (h : w.ownsRow base 81 2 (.slice a ps.length c) ps.length (flatP ps)) (hs : SmallP ps) : PArg a ps w := by
  rcases own_prow h with h0 | ⟨g, rfl, hr⟩
  · exact ⟨hs.1, hs.2, fun q => by omega⟩
  · exact Row.parg hr hs
theorem own_in {w : World} {base n c : Nat} {a : Option Addr} {xs : List Value} (h : w.ownsRow base 81 2 (.slice a n c) n xs) (b off : Nat) (e : a = some ⟨b, off, none⟩) : base ≤ b ∧ b < w.heap.size := by
  obtain ⟨q1, q2, _⟩ := own2_cells h (g := b) (by rw [e]; rfl)
  exact ⟨q1, q2⟩
end Go.Proofs.YtibjhkpgaaapaaaGreatDoor
namespace Go.Proofs.YtibjhkpgaaapaaaGreatDoor
open Go.RowKit Go.Proofs.Sha

theorem goF_ok {fnd : ByteArray → FN} {hg : ByteArray → ByteArray → Bool} {lo hi : ByteArray} {wd : Nat} (hfo : FndOk wd fnd) : ∀ (f : Nat) (hash over under par : ByteArray) (cnt : Nat), ∀ p ∈ (goF fnd hg lo hi f hash over under par cnt).2.2, okKey p.1 = true ∧ okVal p.2 = true
  | 0, _, _, _, _, _, p, hp => by rw [goF] at hp; cases hp
  | f + 1, hash, over, under, par, cnt, p, hp => by
    cases h1 : (emp hash || !canW over under lo hi) with
    | true => rw [goF_skip h1] at hp; cases hp
    | false =>
      by_cases h2 : (fnd hash).2 = 2
      · rw [goF_missing h1 h2] at hp; cases hp
      · by_cases h20 : (fnd hash).2 = 0
        · cases h3 : (insW over under (fnd hash).1.1 && parW hg par (fnd hash).1.1) with
          | false => rw [goF_place h1 h20 h3] at hp; cases hp
          | true =>
            by_cases h4 : 500 < cnt + 1
            · rw [goF_many h1 h20 h3 h4] at hp; cases hp
            · have e : fnd hash = (((fnd hash).1.1, (fnd hash).1.2.1, (fnd hash).1.2.2.1, (fnd hash).1.2.2.2), 0) := by rw [← h20]
              rw [goF_node h1 e h3 (by omega) rfl rfl] at hp
              split at hp
              · cases hp
              · split at hp
                · cases hp
                · rcases List.mem_append.1 hp with hp | hp
                  · rcases List.mem_append.1 hp with hp | hp
                    · exact goF_ok hfo f _ _ _ _ _ p hp
                    · split at hp
                      · rw [List.mem_singleton] at hp
                        subst hp
                        exact ⟨(hfo.node hash h20).1, (hfo.node hash h20).2.1⟩
                      · cases hp
                  · exact goF_ok hfo f _ _ _ _ _ p hp
        · rw [goF, if_neg (by rw [h1]; decide), if_neg h2, if_pos h20] at hp; cases hp
theorem noP_small : noPair.1.size ≤ 1048576 ∧ noPair.2.size ≤ 1048576 := ⟨Nat.zero_le _, Nat.zero_le _⟩
theorem nil_small : SmallP [] := ⟨by decide, fun j => by rw [pget_out _ _ (Nat.zero_le _)]; exact noP_small⟩
theorem rangeM_small {fnd : ByteArray → FN} {wd : Nat} (hfo : FndOk wd fnd) (n : Int) (m : Nat) (root lo hi : ByteArray) : (rangeM fnd n m root lo hi).1.length ≤ 500 ∧ SmallP (rangeM fnd n m root lo hi).1 := by
  have hnil : ([] : List PairT).length ≤ 500 ∧ SmallP [] := ⟨by decide, nil_small⟩
  unfold rangeM
  split
  · split
    · rename_i h0
      have h1 := goF_cnt 501 root ⟨#[]⟩ ⟨#[]⟩ ⟨#[]⟩ 0 (by decide) h0
      have h2 := goF_len 501 root ⟨#[]⟩ ⟨#[]⟩ ⟨#[]⟩ 0 h0
      have h3 := goF_ok hfo 501 root ⟨#[]⟩ ⟨#[]⟩ ⟨#[]⟩ 0 (hg := hgW) (lo := lo) (hi := hi)
      generalize goF fnd hgW lo hi 501 root ⟨#[]⟩ ⟨#[]⟩ ⟨#[]⟩ 0 = R at h0 h1 h2 h3 ⊢
      refine ⟨by simp only; omega, by simp only; omega, fun j => ?_⟩
      by_cases hj : j < R.2.2.length
      · obtain ⟨q1, q2⟩ := h3 _ (List.getElem_mem hj)
        simp only [List.getD_eq_getElem?_getD, List.getElem?_eq_getElem hj, Option.getD_some]
        unfold okKey at q1
        unfold okVal at q2
        have q1 := of_decide_eq_true q1
        have q2 := of_decide_eq_true q2
        omega
      · rw [pget_out _ _ (by simp only; omega)]
        exact noP_small
    · exact hnil
  · exact hnil
theorem decOk_of {n : Int} {s k v l r : ByteArray} (h : decPost s n (.returned (.tuple #[nodeV k v l r, .bool true]))) : nodeOk k.size v.size l.size r.size n = true := by
  rcases h with ⟨k', v', l', r', hE, e⟩ | ⟨_, e⟩
  · simp only [nodeV, Ending.returned.injEq, Value.tuple.injEq, Array.mk.injEq, List.cons.injEq, Value.agg.injEq, Value.string.injEq] at e
    obtain ⟨⟨rfl, rfl, rfl, rfl, _⟩, _⟩ := e
    exact hE.1
  · simp at e
end Go.Proofs.YtibjhkpgaaapaaaGreatDoor
