import Derived.Test.YtliapnhckdimoacGreatDoorZr
import Derived.Test.YtliapnhckdimoacGreatDoorZq
import Derived.Test.YtliapnhckdimoacGreatDoorZe
import Derived.Deep.Cut
import Derived.Test.YtliapnhckdimoacGreatDoorZd
namespace Go.Proofs.YtliapnhckdimoacGreatDoor
open Go.RowKit Go.Proofs.Sha

theorem Bld.mv {b r : Nat} {l : List UInt8} {w w' : World} {s : ByteArray} {a : Nat} {f : Bool} (h : Bld b l w) (hm : Mv r w w') (hr : Rd r s a f w) : Bld b l w' := by
  have H : ∀ p, Lib.BuilderAtF 119 5 b b p (Lib.byteCells l) w → Lib.BuilderAtF 119 5 b b p (Lib.byteCells l) w' := by
    rintro p ⟨h1, v, h2, h3, h4⟩
    have l2 := (Array.getElem?_eq_some_iff.1 h2).1
    have hbr : b ≠ r := by
      intro e; rw [e] at h2; rw [Rd] at hr; rw [hr] at h2; simp at h2
    refine ⟨h1, v, (hm.block b l2 hbr).trans h2, ⟨h3.1, ?_⟩, h4⟩
    rcases h3.2 with hn | ⟨g, cap, cur, fz, hv, hbg, hg, rest⟩
    · exact .inl hn
    · have hgr : g ≠ r := by
        intro e; rw [e] at hg; rw [Rd] at hr; rw [hr] at hg; simp at hg
      exact .inr ⟨g, cap, cur, fz, hv, hbg, (hm.block g (Array.getElem?_eq_some_iff.1 hg).1 hgr).trans hg, rest⟩
  rcases h with h | h
  · exact .inl (H _ h)
  · exact .inr (H _ h)
theorem Rd.put {b r : Nat} {l : List UInt8} {w w' : World} {s : ByteArray} {a : Nat} {f : Bool} (h : Rd r s a f w) (hp : Put b l w w') (hne : r ≠ b) : Rd r s a f w' := hp.cells h hne (by decide)
theorem Mv.put {b r : Nat} {l : List UInt8} {w w' w'' : World} (h : Mv r w w') (hp : Put b l w' w'') (hb : w.heap.size ≤ b) : Mv r w w'' :=
  ⟨hp.2.1.os.trans h.os, hp.2.1.tape.trans h.tape, hp.2.1.output.trans h.output, Nat.le_trans h.size hp.2.1.size, fun k hk hr => (hp.2.1.block k (by omega)).trans (h.block k hk hr)⟩

theorem secsFor_any (n : Nat) (w : World) (hn : n ≤ 100000) :
    Calls Tryz.prog 77 #[.int .i64 (n : Int)] w fun e w' => e = .returned (.int .i64 (((n + 62) / 63 : Nat) : Int)) ∧ w = w' := by
  go_enter Tryz.func77, Tryz.ntmps77
  go_wp2
  go_ret
  exact ⟨congrArg Ending.returned (congrArg (Value.int .i64) (by omega)), rfl⟩
theorem vsize_any (n : Nat) (w : World) : Calls Tryz.prog 75 #[.int .i64 (n : Int)] w fun e w' => e = .returned (.bool (decide (1 ≤ n ∧ n ≤ 4000))) ∧ w = w' := by
  by_cases h1 : 1 ≤ n
  · by_cases h2 : n ≤ 4000
    · have z1 : decide ((1 : Int) ≤ (n : Int)) = true := by simp; omega
      have z2 : decide ((n : Int) ≤ 4000) = true := by simp; omega
      rw [decide_eq_true ⟨h1, h2⟩]
      go_enter Tryz.func75, Tryz.ntmps75
      go_wp2
      go_ret
      exact ⟨rfl, rfl⟩
    · have z1 : decide ((1 : Int) ≤ (n : Int)) = true := by simp; omega
      have z2 : decide ((n : Int) ≤ 4000) = false := by simp; omega
      rw [decide_eq_false (by omega)]
      go_enter Tryz.func75, Tryz.ntmps75
      go_wp2
      go_ret
      exact ⟨rfl, rfl⟩
  · have z1 : decide ((1 : Int) ≤ (n : Int)) = false := by simp; omega
    rw [decide_eq_false (by omega)]
    go_enter Tryz.func75, Tryz.ntmps75
    go_wp2
    go_ret
    exact ⟨rfl, rfl⟩

theorem num_first {s : ByteArray} {a : Nat} {t1 : ByteArray} {a1 : Nat} {f1 : Bool} {t3 : ByteArray} {a3 : Nat} {f3 : Bool} {N : Nat} (h1 : CX 83 s a false t1 a1 f1) (hf1 : f1 = true → t1 = ⟨#[]⟩) (h3 : NX t1 0 false 4 t3 a3 f3) (hN : N = valTo 4 true (byteAt t3) t3.size) :
    ((a + 64 ≤ s.size ∧ (s.data.toList.getD (a + 63) 0).toNat = 83) → f1 = false ∧ t1 = s.extract a (a + 63) ∧ a1 = a + 64 ∧ N = numAt s a) ∧ (1 ≤ N → a + 64 ≤ s.size ∧ (s.data.toList.getD (a + 63) 0).toNat = 83) := by
  rcases h1 with ⟨_, hle, hmk, ht1, ha1, hf⟩ | ⟨hno, hf⟩
  · refine ⟨fun _ => ⟨hf, ht1, ha1, ?_⟩, fun _ => ⟨hle, hmk⟩⟩
    have hs1 : t1.size = 63 := by rw [ht1]; exact ex_size s a 63 (by omega)
    rcases h3 with ⟨_, _, ht3, _, _⟩ | ⟨g, _⟩
    · rw [hN, ht3, ex_size t1 0 4 (by omega), val4 _ (byteAt_lt _), byteAt_ex t1 0 4 0 (by omega), byteAt_ex t1 0 4 1 (by omega), byteAt_ex t1 0 4 2 (by omega), byteAt_ex t1 0 4 3 (by omega)]
      have hb : ∀ j, j < 63 → (t1.data.toList.getD (0 + j) 0).toNat = (s.data.toList.getD (a + j) 0).toNat := fun j hj => by
        rw [ht1, ex_list, List.getD_eq_getElem?_getD, List.getD_eq_getElem?_getD, List.getElem?_take_of_lt (by omega), List.getElem?_drop, Nat.zero_add]
      rw [hb 0 (by omega), hb 1 (by omega), hb 2 (by omega), hb 3 (by omega)]
      rfl
    · rcases g with g | g
      · cases g
      · omega
  · refine ⟨fun hh => ?_, fun h1 => ?_⟩
    · rcases hno with g | g
      · cases g
      · exact absurd hh g
    · have ht : t1 = ⟨#[]⟩ := hf1 hf
      have ht3 : t3 = ⟨#[]⟩ := by
        rcases h3 with ⟨_, g, _⟩ | ⟨_, g, _⟩
        · rw [ht] at g; exact absurd g (by decide)
        · exact g
      rw [hN, ht3] at h1
      exact absurd h1 (by decide)

/-- What a node record's reading answers and leaves. -/
def NodeR (s : ByteArray) (a : Nat) (k : Int) (enc : ByteArray) (v : Int) (root : ByteArray) (nx : Int) (a' : Nat) (f' : Bool) : Prop :=
  (f' = false ∧ IsNode s a enc ∧ a' = a + 64 * secs enc.size ∧ k = 1 ∧ v = 0 ∧ root = ⟨#[]⟩ ∧ nx = 0) ∨ (f' = true ∧ ∀ enc', ¬ IsNode s a enc')

/-- A record's block. -/
def RB (g : Nat) (k : Int) (enc : ByteArray) (v : Int) (root : ByteArray) (nx : Int) (w : World) : Prop := w.heap[g]? = some (.cells #[.int .i64 k, .string enc, .int .i64 v, .string root, .int .i64 nx] 31)
theorem RB.at {g : Nat} {k : Int} {enc : ByteArray} {v : Int} {root : ByteArray} {nx : Int} {w : World} (h : RB g k enc v root nx w) : RecAt w g k enc v root nx :=
  ⟨Lib.cell_of_heap h 0, Lib.cell_of_heap h 1, Lib.cell_of_heap h 2, Lib.cell_of_heap h 3, Lib.cell_of_heap h 4, frozen_of_heap h, frozen_of_heap h, frozen_of_heap h, frozen_of_heap h, frozen_of_heap h⟩
theorem retRec {fn : Func} {w : World} {g : Nat} {k : Int} {enc : ByteArray} {v : Int} {root : ByteArray} {nx : Int} (hres : fn.results = #[.cell 4 31]) (h : RecAt w g k enc v root nx) {a : Act} {R : Ending → World → Prop} (h4 : a.tmps.getD 4 undef = .pointer (some ⟨g, 0, none⟩)) (hd : a.defers = [])
    (hR : R (.returned (recV k enc v root nx)) w) : bodyPost Tryz.prog fn R .ret a w := by
  obtain ⟨c0, c1, c2, c3, c4, f0, f1, f2, f3, f4⟩ := h
  have h4' : a.tmps[4]?.getD undef = .pointer (some ⟨g, 0, none⟩) := by simpa using h4
  exact bodyPost_ret (v := recV k enc v root nx) (by simp [results, hres, go_sem, h4', asAddr, c0, c1, c2, c3, c4]) hd hR
theorem fin5 {w W : World} {fb g r : Nat} {s : ByteArray} {a : Nat} {f : Bool} (hr : Rd r s a f W) (hm : Mv r w W) (hsz : w.heap.size = fb) (hg : fb ≤ g) (hl : r < fb) (x0 x1 x2 x3 x4 : Value) :
    Rd r s a f (((((W.setCell ⟨g, 0, none⟩ x0).setCell ⟨g, 1, none⟩ x1).setCell ⟨g, 2, none⟩ x2).setCell ⟨g, 3, none⟩ x3).setCell ⟨g, 4, none⟩ x4) ∧
    Mv r w (((((W.setCell ⟨g, 0, none⟩ x0).setCell ⟨g, 1, none⟩ x1).setCell ⟨g, 2, none⟩ x2).setCell ⟨g, 3, none⟩ x3).setCell ⟨g, 4, none⟩ x4) :=
  ⟨((((hr.other (by omega)).other (by omega)).other (by omega)).other (by omega)).other (by omega), ((((hm.other hsz hg).other hsz hg).other hsz hg).other hsz hg).other hsz hg⟩

/-- The sectors behind the first, up to number i, bear their marks. -/
def good (s : ByteArray) (a i : Nat) : Prop := ∀ j, 1 ≤ j → j ≤ i → a + 64 * j + 64 ≤ s.size ∧ (s.data.toList.getD (a + 64 * j + 63) 0).toNat = 77
def MI (s : ByteArray) (a i a' : Nat) (f' : Bool) (l : List UInt8) : Prop :=
  (f' = false ∧ good s a i ∧ a' = a + 64 * (i + 1) ∧ l = unTo s a (i + 1)) ∨ (¬ good s a i ∧ f' = true)
theorem MI.step {s : ByteArray} {a i a' : Nat} {f' : Bool} {l : List UInt8} {t : ByteArray} {a'' : Nat} {f'' : Bool} (h : MI s a i a' f' l) (hc : CX 77 s a' f' t a'' f'') : MI s a (i + 1) a'' f'' (l ++ t.data.toList) := by
  rcases h with ⟨hf, hg, ha, hl⟩ | ⟨hg, hf⟩
  · subst ha
    rcases hc with ⟨_, hle, hmk, ht, ha'', hf''⟩ | ⟨hno, hf''⟩
    · refine .inl ⟨hf'', fun j h1 h2 => ?_, by omega, by rw [unTo, hl, ht]⟩
      by_cases hj : j ≤ i
      · exact hg j h1 hj
      · have : j = i + 1 := by omega
        subst this
        exact ⟨hle, hmk⟩
    · refine .inr ⟨fun hg' => ?_, hf''⟩
      rcases hno with g | g
      · rw [hf] at g; cases g
      · exact g (hg' (i + 1) (by omega) (Nat.le_refl _))
  · refine .inr ⟨fun hg' => hg fun j h1 h2 => hg' j h1 (by omega), ?_⟩
    rcases hc with ⟨g, _⟩ | ⟨_, g⟩
    · rw [hf] at g; cases g
    · exact g
theorem CX.small {mk : Nat} {s : ByteArray} {a : Nat} {f : Bool} {t : ByteArray} {a' : Nat} {f' : Bool} (h : CX mk s a f t a' f') (hf : f' = true → t = ⟨#[]⟩) : t.size ≤ 63 := by
  rcases h with ⟨_, hle, _, ht, _, _⟩ | ⟨_, g⟩
  · rw [ht, ByteArray.size_extract]; omega
  · rw [hf g]; exact Nat.zero_le _

/-- What stands while a node record is read. -/
structure BS (w : World) (fb r b : Nat) (s : ByteArray) (a : Nat) (f : Bool) (l : List UInt8) (W : World) : Prop where
  sz : w.heap.size = fb
  lt : r < fb
  bb : fb + 1 < b
  bld : Bld b l W
  rd : Rd r s a f W
  mv : Mv r w W
  rb : RB (fb + 1) 0 ⟨#[]⟩ 0 ⟨#[]⟩ 0 W
section
variable {w : World} {fb r b : Nat} {s : ByteArray} {a : Nat} {f : Bool} {l : List UInt8} {W W' : World}
theorem BS.below (h : BS w fb r b s a f l W) (hb : Below W.heap.size W W') : BS w fb r b s a f l W' :=
  ⟨h.sz, h.lt, h.bb, h.bld.below hb, h.rd.below hb, h.mv.trans (Mv.of_below r hb), below_cells hb h.rb⟩
theorem BS.put (h : BS w fb r b s a f l W) {l' : List UInt8} (hp : Put b l' W W') : BS w fb r b s a f l' W' :=
  have h1 := h.lt; have h2 := h.bb; have h3 := h.sz
  ⟨h.sz, h.lt, h.bb, hp.1, h.rd.put hp (by omega), h.mv.put hp (by omega), hp.cells h.rb (by omega) (by decide)⟩
theorem BS.move (h : BS w fb r b s a f l W) {a' : Nat} {f' : Bool} (hr : Rd r s a' f' W') (hm : Mv r W W') : BS w fb r b s a' f' l W' :=
  have h1 := h.lt
  ⟨h.sz, h.lt, h.bb, h.bld.mv hm h.rd, hr, h.mv.trans hm, hm.cells h.rb (by omega)⟩
end
theorem wsb (b : Nat) (l : List UInt8) (s : ByteArray) (w : World) (h : Bld b l w) (hl : l.length + s.size ≤ 100000) :
    Calls Tryz.prog 76 #[.pointer (some ⟨b, 0, none⟩), .string s] w fun e w' => ∃ x, e = .returned x ∧ Put b (l ++ s.data.toList) w w' := (ws_any b l s w h hl).mono (by rintro e w' ⟨rfl, hp⟩; exact ⟨_, rfl, hp⟩)

end Go.Proofs.YtliapnhckdimoacGreatDoor
namespace Go.Proofs.YtliapnhckdimoacGreatDoor
open Go.RowKit Go.Proofs.Sha

set_option maxRecDepth 100000 in
set_option maxHeartbeats 1000000 in
theorem read_c (s : ByteArray) (m : Nat) (w : World) (hs : s.size ≤ 1048576) (h : 64 * m + 64 ≤ s.size) (hc : s.data.toList.getD (64 * m + 63) 0 = 67) :
    Calls Tryz.prog 10 #[.string s, .int .i64 (m : Int)] w fun e w' => readPost s (m : Int) e ∧ Below w.heap.size w w' := by
  obtain ⟨a, ha⟩ : ∃ a, 64 * m = a := ⟨_, rfl⟩
  have z0 : decide ((m : Int) < 0) = false := by simp
  have z1 : decide ((s.size : Int) / 64 < (m : Int)) = false := by simp; omega
  have z2 : IntKind.i64.wrap ((m : Int) * 64) = (a : Int) := by rw [wrap_i64_in _ (by omega) (by omega)]; omega
  have z3 : IntKind.i64.wrap ((s.size : Int) - (a : Int)) = (s.size : Int) - (a : Int) := wrap_i64_in _ (by omega) (by omega)
  have z4 : decide ((s.size : Int) - (a : Int) < 64) = false := by simp; omega
  have HNum : Hid (∀ w', Calls Tryz.prog 23 #[.string s, .int .i64 (a : Int)] w' fun e w'' => e = .returned (.int .i64 (numAt s a : Int)) ∧ Below w'.heap.size w' w'') := fun w' => number_any s a w' hs (by omega)
  obtain ⟨N, hN⟩ : ∃ N, numAt s a = N := ⟨_, rfl⟩
  rw [hN] at HNum
  have HN : Hid (numAt s a = N) := hN
  clear hN
  go_enter Tryz.func10, Tryz.ntmps10
  go_wp2_with fail
  refine (HNum.out _).mono ?_
  rintro e w1 ⟨rfl, hb1⟩
  have hA1 : RecAt w1 w.heap.size 0 ⟨#[]⟩ 0 ⟨#[]⟩ 0 := (RecAt.mk5 w 0 ⟨#[]⟩ 0 ⟨#[]⟩ 0).below hb1 (by simp)
  have hw1 : Below w.heap.size w w1 := ((Below.refl _ w).alloc (Nat.le_refl _) _).trans (hb1.mono (by simp))
  clear hb1
  obtain ⟨c0, c1, c2, c3, c4, f0, f1, f2, f3, f4⟩ := hA1
  rw [ha] at hc h
  have y1 : IntKind.i64.wrap ((a : Int) + 63) = (a : Int) + 63 := wrap_i64_in _ (by omega) (by omega)
  have y2 : (0 : Int) ≤ (a : Int) + 63 := by omega
  have y3 : (a : Int) + 63 < (s.size : Int) := by omega
  have y4 : (((s[a + 63]'(by omega)).toNat : Int) == 67) = true := by rw [bget s (a + 63) (by omega), hc]; rfl
  have x1 : IntKind.i64.wrap ((a : Int) + 4) = (a : Int) + 4 := wrap_i64_in _ (by omega) (by omega)
  have x2 : (0 : Int) ≤ (a : Int) + 4 := by omega
  have x3 : (a : Int) + 4 < (s.size : Int) := by omega
  obtain ⟨b4, hb4⟩ : ∃ b, (s.data.toList.getD (a + 4) 0).toNat = b := ⟨_, rfl⟩
  have hb256 : b4 < 256 := by rw [← hb4]; exact UInt8.toNat_lt _
  have x4 : ((s[a + 4]'(by omega)).toNat : Int) = (b4 : Int) := by rw [bget s (a + 4) (by omega), hb4]
  have HNoN : Hid (∀ enc, ¬ IsNode s a enc) := fun enc hE => by
    have := hE.parts.2.1
    rw [hc] at this; cases this
  have HBc : Hid (∀ v root, IsCommit s a v root → root.size = b4 ∧ (N : Int) = v ∧ s.extract (a + 5) (a + 5 + b4) = root) := fun v root hE => by
    have hp := hE.parts
    rw [hb4] at hp
    refine ⟨hp.2.2.1.symm, ?_, ?_⟩
    · rw [← HN.out]; exact hp.2.1
    · rw [hp.2.2.1]; exact hp.2.2.2
  clear hb4
  by_cases h32 : 32 < b4
  · have x5 : decide ((32 : Int) < (b4 : Int)) = true := by simp; omega
    go_wp2_with fail
    have hA : RecAt w1 w.heap.size 0 ⟨#[]⟩ 0 ⟨#[]⟩ 0 := ⟨c0, c1, c2, c3, c4, f0, f1, f2, f3, f4⟩
    refine (hA.set5 0 ⟨#[]⟩ 0 ⟨#[]⟩ 0).ret rfl rfl ⟨.inr (.inr ⟨fun _ => ?_, rfl⟩), below5 hw1 (Nat.le_refl _) _ _ _ _ _⟩
    rw [show 64 * (m : Int).toNat = a by omega]
    exact ⟨HNoN.out, fun v root hE => by have := HBc.out v root hE; have := hE.2.2.1; omega⟩
  · have x5 : decide ((32 : Int) < (b4 : Int)) = false := by simp; omega
    have u1 : IntKind.i64.wrap ((a : Int) + 5) = (a : Int) + 5 := wrap_i64_in _ (by omega) (by omega)
    have u2 : IntKind.i64.wrap ((a : Int) + 5 + (b4 : Int)) = (a : Int) + 5 + (b4 : Int) := wrap_i64_in _ (by omega) (by omega)
    have u3 : (0 : Int) ≤ (a : Int) + 5 := by omega
    have u4 : (a : Int) + 5 ≤ (a : Int) + 5 + (b4 : Int) := by omega
    have u5 : (a : Int) + 5 + (b4 : Int) ≤ (s.size : Int) := by omega
    have u6 : IntKind.i64.wrap ((a : Int) + 64) = (a : Int) + 64 := wrap_i64_in _ (by omega) (by omega)
    have u7 : (0 : Int) ≤ (a : Int) := by omega
    have u8 : (a : Int) ≤ (a : Int) + 64 := by omega
    have u9 : (a : Int) + 64 ≤ (s.size : Int) := by omega
    go_upto_region 12 with fail
    obtain ⟨root, hroot⟩ : ∃ root, s.extract (a + 5) (a + 5 + b4) = root := ⟨_, rfl⟩
    have hrs : root.size = b4 := by rw [← hroot, ByteArray.size_extract]; omega
    rw [hroot] at HBc ⊢
    obtain ⟨t, ht⟩ : ∃ t, commitRec (N : Int) root = t := ⟨_, rfl⟩
    have HC : Hid (∀ w', Calls Tryz.prog 24 #[.int .i64 (N : Int), .string root] w' fun e w'' => e = .returned (.string t) ∧ Below w'.heap.size w' w'') := fun w' => (commitRec_any (N : Int) root w' (by omega)).mono (by rintro e w'' ⟨t', rfl, HT, hb⟩; exact ⟨by rw [HT.out, ht], hb⟩)
    have HT : Hid (commitRec (N : Int) root = t) := ht
    clear ht hroot
    obtain ⟨y, hy⟩ : ∃ y, s.extract a (a + 64) = y := ⟨_, rfl⟩
    have HY : Hid (s.extract a (a + 64) = y) := hy
    have Hlt : w.heap.size < w1.heap.size := World.block_lt_of_cell? w1 _ c0
    by_cases hty : t = y
    · have k1 : (t.toList == (s.extract a ((a : Int) + 64).toNat).toList) = true := by rw [show ((a : Int) + 64).toNat = a + 64 by omega, hy, hty]; simp
      have HTY : Hid (t = y) := hty
      clear hy hty
      go_region_held3 (fun _ => True) (exact trivial) (first | (go_at_call 24; refine (HC.out _).mono ?_; rintro e w2 ⟨rfl, hb2'⟩; have hb2 : Below w1.heap.size w1 w2 := (Below.refl w1.heap.size w1).drew.trans hb2'))
      have hA2 : RecAt w2 w.heap.size 0 ⟨#[]⟩ 0 ⟨#[]⟩ 0 := RecAt.below ⟨c0, c1, c2, c3, c4, f0, f1, f2, f3, f4⟩ hb2 Hlt
      have hw2 : Below w.heap.size w w2 := hw1.trans (hb2.mono hw1.size)
      clear c0 c1 c2 c3 c4 f0 f1 f2 f3 f4 hb2 hb2' hw1
      obtain ⟨c0, c1, c2, c3, c4, f0, f1, f2, f3, f4⟩ := hA2
      have v1 : IntKind.i64.wrap ((m : Int) + 1) = (m : Int) + 1 := wrap_i64_in _ (by omega) (by omega)
      go_wp2_with fail
      have hA : RecAt w2 w.heap.size 0 ⟨#[]⟩ 0 ⟨#[]⟩ 0 := ⟨c0, c1, c2, c3, c4, f0, f1, f2, f3, f4⟩
      refine (hA.set5 2 ⟨#[]⟩ (N : Int) root ((m : Int) + 1)).ret rfl rfl ⟨.inr (.inl ⟨(N : Int), root, by omega, ?_, rfl⟩), below5 hw2 (Nat.le_refl _) _ _ _ _ _⟩
      rw [show 64 * (m : Int).toNat = a by omega]
      have e1 : commitRec (N : Int) root = s.extract a (a + 64) := by rw [HT.out, HY.out, HTY.out]
      have hv : 1 ≤ (N : Int) ∧ (N : Int) ≤ 1000000 ∧ root.size ≤ 32 := by
        by_cases hcond : 1 ≤ (N : Int) ∧ (N : Int) ≤ 1000000 ∧ root.size ≤ 32
        · exact hcond
        · rw [commitRec, if_neg hcond] at e1
          have := congrArg ByteArray.size e1
          rw [ByteArray.size_extract] at this
          have e0 : (⟨#[]⟩ : ByteArray).size = 0 := rfl
          omega
      exact ⟨hv.1, hv.2.1, hv.2.2, h, e1.symm⟩
    · have k1 : (t.toList == (s.extract a ((a : Int) + 64).toNat).toList) = false := by rw [show ((a : Int) + 64).toNat = a + 64 by omega, hy]; exact str_ne hty
      have HTY : Hid (¬ t = y) := hty
      clear hy hty
      go_region_held3 (fun _ => True) (exact trivial) (first | (go_at_call 24; refine (HC.out _).mono ?_; rintro e w2 ⟨rfl, hb2'⟩; have hb2 : Below w1.heap.size w1 w2 := (Below.refl w1.heap.size w1).drew.trans hb2'))
      have hA2 : RecAt w2 w.heap.size 0 ⟨#[]⟩ 0 ⟨#[]⟩ 0 := RecAt.below ⟨c0, c1, c2, c3, c4, f0, f1, f2, f3, f4⟩ hb2 Hlt
      have hw2 : Below w.heap.size w w2 := hw1.trans (hb2.mono hw1.size)
      clear c0 c1 c2 c3 c4 f0 f1 f2 f3 f4 hb2 hb2' hw1
      obtain ⟨c0, c1, c2, c3, c4, f0, f1, f2, f3, f4⟩ := hA2
      go_wp2_with fail
      have hA : RecAt w2 w.heap.size 0 ⟨#[]⟩ 0 ⟨#[]⟩ 0 := ⟨c0, c1, c2, c3, c4, f0, f1, f2, f3, f4⟩
      refine (hA.set5 0 ⟨#[]⟩ 0 ⟨#[]⟩ 0).ret rfl rfl ⟨.inr (.inr ⟨fun _ => ?_, rfl⟩), below5 hw2 (Nat.le_refl _) _ _ _ _ _⟩
      rw [show 64 * (m : Int).toNat = a by omega]
      refine ⟨HNoN.out, fun v root' hE => HTY.out ?_⟩
      obtain ⟨_, q2, q3⟩ := HBc.out v root' hE
      rw [← HT.out, ← HY.out, q2, q3]
      exact hE.2.2.2.2.symm
end Go.Proofs.YtliapnhckdimoacGreatDoor
namespace Go.Proofs.YtliapnhckdimoacGreatDoor
open Go.RowKit Go.Proofs.Sha

theorem un_len (s : ByteArray) (a : Nat) : ∀ q, a + 64 * q ≤ s.size → (unTo s a q).length = 63 * q
  | 0, _ => rfl
  | q + 1, h => by
    rw [unTo, List.length_append, un_len s a q (by omega)]
    show 63 * q + (s.extract (a + 64 * q) (a + 64 * q + 63)).size = _
    rw [ByteArray.size_extract]; omega

set_option maxRecDepth 100000 in
set_option maxHeartbeats 1000000 in
theorem read_n (s : ByteArray) (m : Nat) (w : World) (hs : s.size ≤ 1048576) (h : 64 * m + 64 ≤ s.size) (hc : ¬ s.data.toList.getD (64 * m + 63) 0 = 67) :
    Calls Tryz.prog 10 #[.string s, .int .i64 (m : Int)] w fun e w' => readPost s (m : Int) e ∧ Below w.heap.size w w' := by
  obtain ⟨a, ha⟩ : ∃ a, 64 * m = a := ⟨_, rfl⟩
  have z0 : decide ((m : Int) < 0) = false := by simp
  have z1 : decide ((s.size : Int) / 64 < (m : Int)) = false := by simp; omega
  have z2 : IntKind.i64.wrap ((m : Int) * 64) = (a : Int) := by rw [wrap_i64_in _ (by omega) (by omega)]; omega
  have z3 : IntKind.i64.wrap ((s.size : Int) - (a : Int)) = (s.size : Int) - (a : Int) := wrap_i64_in _ (by omega) (by omega)
  have z4 : decide ((s.size : Int) - (a : Int) < 64) = false := by simp; omega
  have HNum : Hid (∀ w', Calls Tryz.prog 23 #[.string s, .int .i64 (a : Int)] w' fun e w'' => e = .returned (.int .i64 (numAt s a : Int)) ∧ Below w'.heap.size w' w'') := fun w' => number_any s a w' hs (by omega)
  obtain ⟨N, hN⟩ : ∃ N, numAt s a = N := ⟨_, rfl⟩
  rw [hN] at HNum
  have HN : Hid (numAt s a = N) := hN
  clear hN
  go_enter Tryz.func10, Tryz.ntmps10
  go_wp2_with fail
  refine (HNum.out _).mono ?_
  rintro e w1 ⟨rfl, hb1⟩
  have hA1 : RecAt w1 w.heap.size 0 ⟨#[]⟩ 0 ⟨#[]⟩ 0 := (RecAt.mk5 w 0 ⟨#[]⟩ 0 ⟨#[]⟩ 0).below hb1 (by simp)
  have hw1 : Below w.heap.size w w1 := ((Below.refl _ w).alloc (Nat.le_refl _) _).trans (hb1.mono (by simp))
  have Hlt : w.heap.size < w1.heap.size := hA1.lt
  clear hb1
  obtain ⟨c0, c1, c2, c3, c4, f0, f1, f2, f3, f4⟩ := hA1
  rw [ha] at hc h
  have y1 : IntKind.i64.wrap ((a : Int) + 63) = (a : Int) + 63 := wrap_i64_in _ (by omega) (by omega)
  have y2 : (0 : Int) ≤ (a : Int) + 63 := by omega
  have y3 : (a : Int) + 63 < (s.size : Int) := by omega
  have y4 : (((s[a + 63]'(by omega)).toNat : Int) == 67) = false := by
    rw [bget s (a + 63) (by omega), beq_eq_false_iff_ne]
    intro hh
    exact hc (UInt8.toNat.inj (by show _ = 67; omega))
  have HNoC : Hid (∀ v root, ¬ IsCommit s a v root) := fun v root hE => hc hE.parts.1
  have HBn : Hid (∀ enc, IsNode s a enc → enc.size = N ∧ (T (unTo s a (secs N))).extract 4 (4 + N) = enc) := fun enc hE => by
    obtain ⟨_, _, p3, p4⟩ := hE.parts
    rw [HN.out] at p3 p4
    exact ⟨p3.symm, p4⟩
  have HZ : Hid (∀ (W : World) (A : Act), RecAt W w.heap.size 0 ⟨#[]⟩ 0 ⟨#[]⟩ 0 → Below w.heap.size w W → (∀ enc, ¬ IsNode s a enc) → A.tmps.getD 4 undef = .pointer (some ⟨w.heap.size, 0, none⟩) → A.defers = [] → bodyPost Tryz.prog Tryz.f10 (fun e w' => readPost s (m : Int) e ∧ Below w.heap.size w w') .ret A
      (((((W.setCell ⟨w.heap.size, 0, none⟩ (.int .i64 0)).setCell ⟨w.heap.size, 1, none⟩ (.string ⟨#[]⟩)).setCell ⟨w.heap.size, 2, none⟩ (.int .i64 0)).setCell ⟨w.heap.size, 3, none⟩ (.string ⟨#[]⟩)).setCell ⟨w.heap.size, 4, none⟩ (.int .i64 0))) := by
    intro W A hA hB hno h4 hd
    refine (hA.set5 0 ⟨#[]⟩ 0 ⟨#[]⟩ 0).ret h4 hd ⟨.inr (.inr ⟨fun _ => ?_, rfl⟩), below5 hB (Nat.le_refl _) _ _ _ _ _⟩
    rw [show 64 * (m : Int).toNat = a by omega]
    exact ⟨hno, HNoC.out⟩
  clear hc
  by_cases hN1 : N < 1
  · have t1 : decide ((N : Int) < 1) = true := by simp; omega
    go_wp2_with fail
    exact HZ.out w1 _ ⟨c0, c1, c2, c3, c4, f0, f1, f2, f3, f4⟩ hw1 (fun enc hE => by have := HBn.out enc hE; have := hE.1; omega) rfl rfl
  have t1 : decide ((N : Int) < 1) = false := by simp; omega
  by_cases hN2 : 4000 < N
  · have t2 : decide ((4000 : Int) < (N : Int)) = true := by simp; omega
    go_wp2_with fail
    exact HZ.out w1 _ ⟨c0, c1, c2, c3, c4, f0, f1, f2, f3, f4⟩ hw1 (fun enc hE => by have := HBn.out enc hE; have := hE.2.1; omega) rfl rfl
  have t2 : decide ((4000 : Int) < (N : Int)) = false := by simp; omega
  obtain ⟨q, hq⟩ : ∃ q, secs N = q := ⟨_, rfl⟩
  have hq1 : 1 ≤ q ∧ q ≤ 65 ∧ N + 4 ≤ 63 * q := by rw [← hq]; unfold secs; omega
  have t3 : IntKind.i64.wrap ((N : Int) + 4) = (N : Int) + 4 := wrap_i64_in _ (by omega) (by omega)
  have t4 : IntKind.i64.wrap ((N : Int) + 4 + 62) = (N : Int) + 4 + 62 := wrap_i64_in _ (by omega) (by omega)
  have t4' : IntKind.i64.wrap ((N : Int) + 66) = (N : Int) + 66 := wrap_i64_in _ (by omega) (by omega)
  have t5 : ((N : Int) + 4 + 62) / 63 = (q : Int) := by rw [← hq]; unfold secs; omega
  have t5' : ((N : Int) + 66) / 63 = (q : Int) := by rw [← hq]; unfold secs; omega
  have t6 : IntKind.i64.wrap ((q : Int) * 64) = (q : Int) * 64 := wrap_i64_in _ (by omega) (by omega)
  have t7 : IntKind.i64.wrap ((a : Int) + (q : Int) * 64) = (a : Int) + (q : Int) * 64 := wrap_i64_in _ (by omega) (by omega)
  rw [hq] at HBn
  have HQ : Hid (secs N = q) := hq
  clear hq
  by_cases hq2 : s.size < a + 64 * q
  · have t8 : decide ((s.size : Int) < (a : Int) + (q : Int) * 64) = true := by simp; omega
    go_wp2_with fail
    refine HZ.out w1 _ ⟨c0, c1, c2, c3, c4, f0, f1, f2, f3, f4⟩ hw1 (fun enc hE => ?_) rfl rfl
    have h1 := (HBn.out enc hE).1
    have h2 := hE.2.2.1
    rw [h1] at h2
    have h3 := HQ.out
    omega
  have t8 : decide ((s.size : Int) < (a : Int) + (q : Int) * 64) = false := by simp; omega
  go_wp2_with fail
  refine (un_any s a q _ hs (by omega)).mono ?_
  rintro e w2 ⟨x, rfl, HX, hb2⟩
  have hxs : x.size = 63 * q := by
    rw [HX.out, T_size]
    exact un_len s a q (by omega)
  have hA2 : RecAt w2 w.heap.size 0 ⟨#[]⟩ 0 ⟨#[]⟩ 0 := RecAt.below ⟨c0, c1, c2, c3, c4, f0, f1, f2, f3, f4⟩ hb2 Hlt
  have hw2 : Below w.heap.size w w2 := hw1.trans (hb2.mono hw1.size)
  have Hlt2 : w.heap.size < w2.heap.size := hA2.lt
  clear c0 c1 c2 c3 c4 f0 f1 f2 f3 f4 hb2 hw1 Hlt
  have u1 : IntKind.i64.wrap (4 + (N : Int)) = 4 + (N : Int) := wrap_i64_in _ (by omega) (by omega)
  have u2 : (4 : Int) ≤ 4 + (N : Int) := by omega
  have u3 : 4 + (N : Int) ≤ (x.size : Int) := by omega
  have u4 : (0 : Int) ≤ (a : Int) := by omega
  have u5 : (a : Int) ≤ (a : Int) + (q : Int) * 64 := by omega
  have u6 : (a : Int) + (q : Int) * 64 ≤ (s.size : Int) := by omega
  go_upto_region 21 with fail
  obtain ⟨enc, henc⟩ : ∃ enc, x.extract 4 (4 + N) = enc := ⟨_, rfl⟩
  have hes : enc.size = N := by rw [← henc, ByteArray.size_extract]; omega
  have HBn' : Hid (∀ enc', IsNode s a enc' → enc' = enc) := fun enc' hE => by
    rw [← (HBn.out enc' hE).2, ← HX.out, henc]
  rw [henc]
  obtain ⟨t, ht⟩ : ∃ t, nodeRec enc = t := ⟨_, rfl⟩
  have HC : Hid (∀ w', Calls Tryz.prog 26 #[.string enc] w' fun e w'' => e = .returned (.string t) ∧ Below w'.heap.size w' w'') := fun w' => (nodeRec_any enc w' (by omega)).mono (by rintro e w'' ⟨t', rfl, HT, hb⟩; exact ⟨by rw [HT.out, ht], hb⟩)
  have HT : Hid (nodeRec enc = t) := ht
  clear ht henc
  have e64 : ((a : Int) + (q : Int) * 64).toNat = a + 64 * q := by omega
  obtain ⟨y, hy⟩ : ∃ y, s.extract a (a + 64 * q) = y := ⟨_, rfl⟩
  have HY : Hid (s.extract a (a + 64 * q) = y) := hy
  by_cases hty : t = y
  · have k1 : (t.toList == (s.extract a ((a : Int) + (q : Int) * 64).toNat).toList) = true := by rw [e64, hy, hty]; simp
    have HTY : Hid (t = y) := hty
    clear hy hty e64
    go_region_held3 (fun _ => True) (exact trivial) (first | (go_at_call 26; refine (HC.out _).mono ?_; rintro e w3 ⟨rfl, hb3'⟩; have hb3 : Below w2.heap.size w2 w3 := (Below.refl w2.heap.size w2).drew.trans hb3'))
    have hA3 : RecAt w3 w.heap.size 0 ⟨#[]⟩ 0 ⟨#[]⟩ 0 := hA2.below hb3 Hlt2
    have hw3 : Below w.heap.size w w3 := hw2.trans (hb3.mono hw2.size)
    clear hb3 hb3' hw2 hA2
    obtain ⟨c0, c1, c2, c3, c4, f0, f1, f2, f3, f4⟩ := hA3
    have v1 : IntKind.i64.wrap ((m : Int) + (q : Int)) = (m : Int) + (q : Int) := wrap_i64_in _ (by omega) (by omega)
    go_wp2_with fail
    have hA : RecAt w3 w.heap.size 0 ⟨#[]⟩ 0 ⟨#[]⟩ 0 := ⟨c0, c1, c2, c3, c4, f0, f1, f2, f3, f4⟩
    refine (hA.set5 1 enc 0 ⟨#[]⟩ ((m : Int) + (q : Int))).ret rfl rfl ⟨.inl ⟨enc, by omega, ?_, ?_⟩, below5 hw3 (Nat.le_refl _) _ _ _ _ _⟩
    · rw [show 64 * (m : Int).toNat = a by omega]
      refine ⟨by omega, by omega, by rw [hes, HQ.out]; omega, ?_⟩
      rw [hes, HQ.out, HY.out, ← HTY.out, ← HT.out]
    · rw [hes, HQ.out]
  · have k1 : (t.toList == (s.extract a ((a : Int) + (q : Int) * 64).toNat).toList) = false := by rw [e64, hy]; exact str_ne hty
    have HTY : Hid (¬ t = y) := hty
    clear hy hty e64
    go_region_held3 (fun _ => True) (exact trivial) (first | (go_at_call 26; refine (HC.out _).mono ?_; rintro e w3 ⟨rfl, hb3'⟩; have hb3 : Below w2.heap.size w2 w3 := (Below.refl w2.heap.size w2).drew.trans hb3'))
    have hA3 : RecAt w3 w.heap.size 0 ⟨#[]⟩ 0 ⟨#[]⟩ 0 := hA2.below hb3 Hlt2
    have hw3 : Below w.heap.size w w3 := hw2.trans (hb3.mono hw2.size)
    clear hb3 hb3' hw2 hA2
    obtain ⟨c0, c1, c2, c3, c4, f0, f1, f2, f3, f4⟩ := hA3
    go_wp2_with fail
    refine HZ.out w3 _ ⟨c0, c1, c2, c3, c4, f0, f1, f2, f3, f4⟩ hw3 (fun enc' hE => HTY.out ?_) rfl rfl
    have h1 := HBn'.out enc' hE
    subst h1
    have h2 := hE.2.2.2
    rw [hes, HQ.out] at h2
    rw [← HT.out, ← HY.out, h2]

theorem read_any (s : ByteArray) (n : Int) (w : World) (hs : s.size ≤ 1048576) :
    Calls Tryz.prog 10 #[.string s, .int .i64 n] w fun e w' => readPost s n e ∧ Below w.heap.size w w' := by
  by_cases h : n < 0 ∨ (s.size : Int) / 64 < n ∨ (s.size : Int) - 64 * n < 64
  · exact read_no s n w hs h
  · obtain ⟨m, rfl⟩ := Int.eq_ofNat_of_zero_le (show 0 ≤ n by omega)
    by_cases hc : s.data.toList.getD (64 * m + 63) 0 = 67
    · exact read_c s m w hs (by omega) hc
    · exact read_n s m w hs (by omega) hc
end Go.Proofs.YtliapnhckdimoacGreatDoor
namespace Go.Proofs.YtliapnhckdimoacGreatDoor
open Go.RowKit Go.Proofs.Sha

theorem seg_add (L : List UInt8) (a m p : Nat) : (L.drop a).take m ++ (L.drop (a + m)).take p = (L.drop a).take (m + p) := by
  rw [List.take_add, List.drop_drop]
theorem seg_two (L : List UInt8) (a : Nat) (h : a + 2 ≤ L.length) : (L.drop a).take 2 = [L.getD a 0, L.getD (a + 1) 0] := by
  rw [List.getD_eq_getElem?_getD, List.getD_eq_getElem?_getD, List.getElem?_eq_getElem (by omega), List.getElem?_eq_getElem (by omega), List.drop_eq_getElem_cons (by omega), List.take_succ_cons, List.drop_eq_getElem_cons (by omega), List.take_succ_cons, List.take_zero]
  rfl
theorem seg_one (L : List UInt8) (a : Nat) (h : a + 1 ≤ L.length) : (L.drop a).take 1 = [L.getD a 0] := by
  rw [List.getD_eq_getElem?_getD, List.getElem?_eq_getElem (by omega), List.drop_eq_getElem_cons (by omega), List.take_succ_cons, List.take_zero]
  rfl
theorem sized_seg (s : ByteArray) (a : Nat) (h : pieceOk s a) : sized (s.extract (a + 2) (a + 2 + szAt s a)).data.toList = (s.data.toList.drop a).take (2 + szAt s a) := by
  have hL : s.data.toList.length = s.size := rfl
  have hlen : ((s.data.toList.drop (a + 2)).take (szAt s a)).length = szAt s a := by
    have := h.2
    rw [List.length_take, List.length_drop]; omega
  rw [ex_list, ← seg_add, seg_two _ _ (by rw [hL]; exact h.1), sized, hlen]
  have h0 := (s.data.toList.getD a 0).toNat_lt
  have h1 := (s.data.toList.getD (a + 1) 0).toNat_lt
  have e0 : szAt s a / 256 = (s.data.toList.getD a 0).toNat := by unfold szAt; omega
  have e1 : szAt s a % 256 = (s.data.toList.getD (a + 1) 0).toNat := by unfold szAt; omega
  rw [e0, e1]
  simp

theorem flag_eq (fl n l x : Nat) (hfl : fl ≤ 3) (hn : 1 ≤ n) (hl : l = if fl &&& 1 = 0 then 0 else n) (hx : x = if fl &&& 2 = 0 then 0 else n) : flagOf l x = fl := by
  subst hl hx
  have : fl = 0 ∨ fl = 1 ∨ fl = 2 ∨ fl = 3 := by omega
  have h0 : ¬ n = 0 := by omega
  rcases this with rfl | rfl | rfl | rfl <;> simp [flagOf, h0]
theorem flag_back (fl n l x : Nat) (hn : 1 ≤ n) (hfl : fl = flagOf l x) (hl : l = 0 ∨ l = n) (hx : x = 0 ∨ x = n) : (if fl &&& 1 = 0 then 0 else n) = l ∧ (if fl &&& 2 = 0 then 0 else n) = x ∧ fl ≤ 3 := by
  subst hfl
  unfold flagOf
  rcases hl with rfl | rfl <;> rcases hx with rfl | rfl
  · simp
  · have h : ¬ x = 0 := by omega
    simp [h]
  · have h : ¬ l = 0 := by omega
    simp [h]
  · have h : ¬ x = 0 := by omega
    simp [h]

theorem NR.enc {n : Nat} {s k v l x : ByteArray} (h : NR n s 0 false k v l x s.size false) : IsEnc s (n : Int) k v l x := by
  obtain ⟨a1, a2, fl, hp0, hk, ha1, hp1, hv, ha2, hle, hfl, hle2, hl, hx, hend, hfl3, hok⟩ := h.ok
  have ho := nodeOk_out hok
  refine ⟨hok, ?_⟩
  have hL : s.data.toList.length = s.size := rfl
  obtain ⟨n1, hn1⟩ : ∃ m, (if fl &&& 1 = 0 then 0 else n) = m := ⟨_, rfl⟩
  obtain ⟨n2, hn2⟩ : ∃ m, (if fl &&& 2 = 0 then 0 else n) = m := ⟨_, rfl⟩
  rw [hn1, hn2] at hle2 hx hend
  rw [hn1] at hl
  have hls : l.size = n1 := by rw [hl]; exact ex_size s _ _ (by omega)
  have hxs : x.size = n2 := by rw [hx]; exact ex_size s _ _ (by omega)
  have hf : flagOf l.size x.size = fl := flag_eq fl n _ _ hfl3 (by omega) (by rw [hls, hn1]) (by rw [hxs, hn2])
  refine of_list ?_
  unfold encL
  rw [show l.data.toList.length = l.size from rfl, show x.data.toList.length = x.size from rfl, hf]
  have e4 : x.data.toList = (s.data.toList.drop (a2 + 1 + n1)).take n2 := by rw [hx]; exact ex_list _ _ _
  have e3 : l.data.toList = (s.data.toList.drop (a2 + 1)).take n1 := by rw [hl]; exact ex_list _ _ _
  have e2 : [UInt8.ofNat fl] = (s.data.toList.drop a2).take 1 := by rw [seg_one _ _ (by rw [hL]; exact hle), hfl]; simp
  have e1 : sized v.data.toList = (s.data.toList.drop a1).take (2 + szAt s a1) := by rw [hv]; exact sized_seg s a1 hp1
  have e0 : sized k.data.toList = (s.data.toList.drop 0).take (2 + szAt s 0) := by rw [hk]; exact sized_seg s 0 hp0
  rw [e0, e1, e2, e3, e4]
  obtain ⟨z0, hz0⟩ : ∃ z, szAt s 0 = z := ⟨_, rfl⟩
  obtain ⟨z1, hz1⟩ : ∃ z, szAt s a1 = z := ⟨_, rfl⟩
  rw [hz0, hz1]
  rw [show a1 = 0 + (2 + z0) by omega, seg_add, show a2 = 0 + (2 + z0 + (2 + z1)) by omega, seg_add, show 0 + (2 + z0 + (2 + z1)) + 1 = 0 + (2 + z0 + (2 + z1) + 1) by omega, seg_add, show 0 + (2 + z0 + (2 + z1) + 1) + n1 = 0 + (2 + z0 + (2 + z1) + 1 + n1) by omega, seg_add]
  rw [List.drop_zero, List.take_of_length_le (by rw [hL]; omega)]

theorem NR.no {n : Nat} {s k v l x : ByteArray} {a' : Nat} {f' : Bool} (h : NR n s 0 false k v l x a' f') (hno : ¬ (f' = false ∧ a' = s.size)) (k' v' l' x' : ByteArray) : ¬ IsEnc s (n : Int) k' v' l' x' := by
  intro hE
  obtain ⟨p1, p2, p3⟩ := hE.parts
  obtain ⟨q1, q2, q3⟩ := p3 _ rfl
  obtain ⟨r1, r2⟩ := q3 _ rfl
  have ho := nodeOk_out hE.1
  obtain ⟨a1, f1, a2, f2, fl, t3, a3, f3, a4, f4, f5, h1, h2, h3, hfl, h4, h5, hf⟩ := h
  rcases SX2 h1 with ⟨_, hp1, hk, ha1, hf1⟩ | ⟨g, _⟩
  rotate_left
  · rcases g with g | g
    · cases g
    · exact g ⟨by omega, by omega⟩
  rcases SX2 h2 with ⟨_, hp2, hv, ha2, hf2⟩ | ⟨g, _⟩
  rotate_left
  · rcases g with g | g
    · rw [hf1] at g; cases g
    · subst ha1; exact g ⟨by omega, by omega⟩
  rcases NX1 h3 with ⟨_, hle3, hv3, ha3, hf3⟩ | ⟨g, _⟩
  rotate_left
  · rcases g with g | g
    · rw [hf2] at g; cases g
    · subst ha1 ha2; exact g (by omega)
  have hflv : fl = flagOf l'.size x'.size := by subst ha1 ha2; rw [hfl, hv3, r1]
  have hb := flag_back fl n l'.size x'.size (by omega) hflv (by omega) (by omega)
  have hsz : s.size - (a2 + 1) = l'.size + x'.size := by
    subst ha1 ha2
    have := congrArg ByteArray.size r2
    rw [ByteArray.size_extract, ByteArray.size_append] at this
    omega
  rw [hb.1] at h4
  rw [hb.2.1] at h5
  rcases h4 with ⟨_, hle4, hl, ha4, hf4⟩ | ⟨g, _⟩
  rotate_left
  · rcases g with g | g
    · rw [hf3] at g; cases g
    · exact g (by omega)
  rcases h5 with ⟨_, hle5, hx, ha5, hf5⟩ | ⟨g, _⟩
  rotate_left
  · rcases g with g | g
    · rw [hf4] at g; cases g
    · exact g (by omega)
  apply hno
  have hks : k = k' := by rw [hk, p2]
  have hvs : v = v' := by subst ha1; rw [hv, q2]
  have hls : l.size = l'.size := by rw [hl]; exact ex_size s _ _ (by omega)
  have hxs : x.size = x'.size := by rw [hx]; exact ex_size s _ _ (by omega)
  refine ⟨?_, by omega⟩
  rw [hf, hf5, hks, hvs, hls, hxs, hE.1, decide_eq_false (by omega)]
  rfl
end Go.Proofs.YtliapnhckdimoacGreatDoor
namespace Go.Proofs.YtliapnhckdimoacGreatDoor
open Go.RowKit Go.Proofs.Sha

theorem num_ex (s t1 : ByteArray) (a : Nat) (h : a + 4 ≤ s.size) (ht : t1 = s.extract a (a + 4)) : valTo 4 true (byteAt t1) t1.size = numAt s a := by
  rw [ht, ex_size s a 4 h, val4 _ (byteAt_lt _), byteAt_ex s a 4 0 (by omega), byteAt_ex s a 4 1 (by omega), byteAt_ex s a 4 2 (by omega), byteAt_ex s a 4 3 (by omega)]
  rfl
theorem SX4 {s : ByteArray} {a : Nat} {f : Bool} {t : ByteArray} {a' : Nat} {f' : Bool} (h : SX 4 true s a f t a' f') :
    (f = false ∧ a + 4 + numAt s a ≤ s.size ∧ t = s.extract (a + 4) (a + 4 + numAt s a) ∧ a' = a + 4 + numAt s a ∧ f' = false) ∨ ((f = true ∨ ¬ (a + 4 + numAt s a ≤ s.size)) ∧ f' = true) := by
  obtain ⟨t1, a1, f1, h1, h2⟩ := h
  rcases h1 with ⟨hf, hle, ht1, ha1, hf1⟩ | ⟨hf, ht1, ha1, hf1⟩
  · rw [num_ex s t1 a hle ht1] at h2
    subst ha1
    rcases h2 with ⟨_, hle2, ht, ha', hf'⟩ | ⟨hf2, _, _, hf'⟩
    · exact .inl ⟨hf, hle2, ht, ha', hf'⟩
    · refine .inr ⟨.inr fun hp => ?_, hf'⟩
      rcases hf2 with h | h
      · rw [hf1] at h; cases h
      · exact h hp
  · rcases h2 with ⟨hf2, _⟩ | ⟨_, _, _, hf'⟩
    · rw [hf1] at hf2; cases hf2
    · refine .inr ⟨?_, hf'⟩
      rcases hf with h | h
      · exact .inl h
      · exact .inr fun hp => h (by omega)
theorem seg_four (L : List UInt8) (a : Nat) (h : a + 4 ≤ L.length) : (L.drop a).take 4 = [L.getD a 0, L.getD (a + 1) 0, L.getD (a + 2) 0, L.getD (a + 3) 0] := by
  have := seg_add L a 2 2
  rw [← this, seg_two L a (by omega), seg_two L (a + 2) (by omega)]; rfl
theorem four_back (s : ByteArray) (a : Nat) (h : a + 4 ≤ s.size) : four (numAt s a) = (s.data.toList.drop a).take 4 := by
  rw [seg_four _ _ h, four]
  have h0 := (s.data.toList.getD a 0).toNat_lt
  have h1 := (s.data.toList.getD (a + 1) 0).toNat_lt
  have h2 := (s.data.toList.getD (a + 2) 0).toNat_lt
  have h3 := (s.data.toList.getD (a + 3) 0).toNat_lt
  have e0 : numAt s a % 256 = (s.data.toList.getD a 0).toNat := by unfold numAt; omega
  have e1 : numAt s a / 256 % 256 = (s.data.toList.getD (a + 1) 0).toNat := by unfold numAt; omega
  have e2 : numAt s a / 65536 % 256 = (s.data.toList.getD (a + 2) 0).toNat := by unfold numAt; omega
  have e3 : numAt s a / 16777216 % 256 = (s.data.toList.getD (a + 3) 0).toNat := by unfold numAt; omega
  rw [e0, e1, e2, e3]
  simp
theorem zeroT_rep {t : ByteArray} (h : zeroT t = true) : t.data.toList = List.replicate t.size 0 := by
  rw [List.eq_replicate_iff]
  refine ⟨rfl, fun b hb => ?_⟩
  have := List.all_eq_true.1 h b hb
  simpa using this
theorem rep_zeroT (n : Nat) {t : ByteArray} (h : t.data.toList = List.replicate n 0) : zeroT t = true := by
  unfold zeroT; rw [h, List.all_eq_true]
  intro b hb
  rw [List.eq_of_mem_replicate hb]; rfl

/-- A body that is read to its end. -/
theorem PX.yes {S t : ByteArray} {a' : Nat} (h : PX S 0 false t a' false) (ha : a' = S.size) :
    4 + numAt S 0 ≤ S.size ∧ t = S.extract 4 (4 + numAt S 0) ∧ S.data.toList = four (numAt S 0) ++ t.data.toList ++ List.replicate (S.size - (4 + numAt S 0)) 0 := by
  obtain ⟨a1, f1, t2, f2, h1, _, h3, hf⟩ := h
  have hf2 : f2 = false ∧ zeroT t2 = true := by
    cases f2 <;> cases hz : zeroT t2 <;> rw [hz] at hf <;> first | exact ⟨rfl, rfl⟩ | cases hf
  rcases SX4 h1 with ⟨_, hle, ht, ha1, hf1⟩ | ⟨_, hf1⟩
  · rw [Nat.zero_add] at hle ht ha1
    subst ha1
    rcases h3 with ⟨_, hle2, ht2, ha2, _⟩ | ⟨_, _, _, g⟩
    · refine ⟨hle, ht, ?_⟩
      have hz := zeroT_rep hf2.2
      have hg : gap (4 + numAt S 0) = S.size - (4 + numAt S 0) := by omega
      rw [ht2, ex_size S _ _ hle2, hg, ex_list] at hz
      have e0 := four_back S 0 (by omega)
      have hl : S.data.toList.length = S.size := rfl
      rw [e0, ht, ex_list, ← hz, List.drop_zero]
      have e1 := seg_add S.data.toList 0 4 (numAt S 0)
      rw [List.drop_zero, Nat.zero_add] at e1
      rw [e1, List.take_of_length_le (l := List.drop (4 + numAt S 0) S.data.toList) (by rw [List.length_drop]; omega), List.take_append_drop]
    · rw [g] at hf2; cases hf2.1
  · rcases h3 with ⟨g, _⟩ | ⟨_, _, _, g⟩
    · rw [hf1] at g; cases g
    · rw [g] at hf2; cases hf2.1
theorem PX.no {S t : ByteArray} {a' : Nat} {f' : Bool} (h : PX S 0 false t a' f') (N : Nat) (hN : numAt S 0 = N) (R : List UInt8) (hR : R.length = 4 + N) (hS : S.data.toList = R ++ List.replicate (gap (4 + N)) 0) : f' = false ∧ a' = S.size := by
  have hz : S.size = 4 + N + gap (4 + N) := by
    show S.data.toList.length = _
    rw [hS, List.length_append, List.length_replicate, hR]
  obtain ⟨a1, f1, t2, f2, h1, _, h3, hf⟩ := h
  rcases SX4 h1 with ⟨_, hle, ht, ha1, hf1⟩ | ⟨hno, _⟩
  · rw [Nat.zero_add, hN] at ha1
    subst ha1
    rcases h3 with ⟨_, hle2, ht2, ha2, g⟩ | ⟨hno, _⟩
    · refine ⟨?_, by omega⟩
      have : zeroT t2 = true := rep_zeroT (gap (4 + N)) (by
        rw [ht2, ex_list, hS, ← hR, List.drop_left, List.take_of_length_le (by rw [List.length_replicate]; exact Nat.le_refl _)])
      rw [hf, g, this]; rfl
    · rcases hno with g | g
      · rw [hf1] at g; cases g
      · omega
  · rcases hno with g | g
    · cases g
    · rw [hN] at g; omega

theorem un_head (s : ByteArray) (a : Nat) (j : Nat) (hj : j < 63) : ∀ q, a + 64 * (q + 1) ≤ s.size → (unTo s a (q + 1)).getD j 0 = s.data.toList.getD (a + j) 0
  | 0, h => by
    rw [unTo, unTo, List.nil_append, Nat.mul_zero, Nat.add_zero, ex_list, List.getD_eq_getElem?_getD, List.getD_eq_getElem?_getD, List.getElem?_take_of_lt hj, List.getElem?_drop]
  | q + 1, h => by
    rw [unTo, List.getD_eq_getElem?_getD, List.getElem?_append_left (by rw [un_len s a (q + 1) (by omega)]; omega), ← List.getD_eq_getElem?_getD]
    exact un_head s a j hj q (by omega)
theorem un_num (s : ByteArray) (a q : Nat) (hq : 1 ≤ q) (h : a + 64 * q ≤ s.size) : numAt (T (unTo s a q)) 0 = numAt s a := by
  obtain ⟨p, rfl⟩ : ∃ p, q = p + 1 := ⟨q - 1, by omega⟩
  have g := fun j hj => un_head s a j hj p h
  unfold numAt
  rw [T_data, g 0 (by omega), g (0 + 1) (by omega), g (0 + 2) (by omega), g (0 + 3) (by omega)]
  simp only [Nat.zero_add, Nat.add_zero]
theorem un_parts {s : ByteArray} {a : Nat} {L : List UInt8} : ∀ q, a + 64 * q ≤ s.size → unTo s a q = partsTo L q → ∀ j, j < q → (s.extract (a + 64 * j) (a + 64 * j + 63)).data.toList = part63 L (63 * j)
  | 0, _, _, j, hj => by omega
  | q + 1, h, he, j, hj => by
    rw [unTo, partsTo] at he
    have hl : (s.extract (a + 64 * q) (a + 64 * q + 63)).data.toList.length = (part63 L (63 * q)).length := by
      rw [part63_length]; exact ex_size s (a + 64 * q) 63 (by omega)
    have := List.append_inj' he hl
    by_cases hjq : j = q
    · subst hjq; exact this.2
    · exact un_parts q (by omega) this.1 j (by omega)
theorem marked_of {s : ByteArray} {a : Nat} {L : List UInt8} (h0 : s.data.toList.getD (a + 63) 0 = 83) : ∀ q, a + 64 * q ≤ s.size → (∀ j, 1 ≤ j → j < q → s.data.toList.getD (a + 64 * j + 63) 0 = 77) → (∀ j, j < q → (s.extract (a + 64 * j) (a + 64 * j + 63)).data.toList = part63 L (63 * j)) → (s.data.toList.drop a).take (64 * q) = markedTo L [83] [77] q
  | 0, _, _, _ => by rw [Nat.mul_zero, List.take_zero]; rfl
  | q + 1, h, hm, hp => by
    have hl : s.data.toList.length = s.size := rfl
    rw [markedTo, ← marked_of h0 q (by omega) (fun j h1 h2 => hm j h1 (by omega)) (fun j hj => hp j (by omega)), ← hp q (by omega), ex_list, show 64 * (q + 1) = 64 * q + (63 + 1) by omega, ← seg_add, ← seg_add, ← List.append_assoc, seg_one _ _ (by omega)]
    congr 2
    by_cases hq : q = 0
    · subst hq; rw [if_pos rfl, Nat.mul_zero, Nat.add_zero, h0]
    · rw [if_neg hq, hm q (by omega) (by omega)]
theorem marked_marks (L : List UInt8) (c d : UInt8) (j : Nat) : ∀ q, j < q → (markedTo L [c] [d] q).getD (64 * j + 63) 0 = if j = 0 then c else d
  | 0, h => by omega
  | q + 1, h => by
    have hl := markedTo_len1 L c d q
    rw [markedTo, List.append_assoc]
    by_cases hjq : j = q
    · subst hjq
      rw [List.getD_eq_getElem?_getD, List.getElem?_append_right (by omega), List.getElem?_append_right (by rw [part63_length]; omega), hl, part63_length, show 64 * j + 63 - 64 * j - 63 = 0 by omega]
      split <;> rfl
    · rw [List.getD_eq_getElem?_getD, List.getElem?_append_left (by omega), ← List.getD_eq_getElem?_getD]
      exact marked_marks L c d j q (by omega)

theorem node_yes {s : ByteArray} {a N q i a' a2 : Nat} {l : List UInt8} {t : ByteArray} (hq : secs N = q) (hN : N = numAt s a) (h1 : 1 ≤ N) (h2 : N ≤ 4000) (hmk : a + 64 ≤ s.size ∧ (s.data.toList.getD (a + 63) 0).toNat = 83) (hi : i + 1 = q) (hM : MI s a i a' false l) (hP : PX (T l) 0 false t a2 false) (ha2 : a2 = (T l).size) :
    IsNode s a t ∧ a' = a + 64 * secs t.size := by
  rcases hM with ⟨_, hg, ha', hl⟩ | ⟨_, g⟩
  · have hle : a + 64 * q ≤ s.size := by
      by_cases h : i = 0
      · omega
      · have := (hg i (by omega) (Nat.le_refl _)).1; omega
    rw [hi] at hl ha'
    subst hl
    have hq1 : 1 ≤ q := by omega
    have hn : numAt (T (unTo s a q)) 0 = N := by rw [un_num s a q hq1 hle, hN]
    have hsz : (T (unTo s a q)).size = 63 * q := un_len s a q hle
    obtain ⟨p1, p2, p3⟩ := hP.yes ha2
    rw [hn] at p1 p2 p3
    have hts : t.size = N := by rw [p2]; exact ex_size _ 4 N p1
    rw [hsz, T_data] at p3
    have hL : (four N ++ t.data.toList).length = 4 + N := by rw [List.length_append]; show 4 + t.size = _; rw [hts]
    have e : unTo s a q = partsTo (four N ++ t.data.toList) q := by
      rw [partsTo_eq, p3, List.take_of_length_le (by rw [hL]; omega), hL]
    have hx := marked_of (L := four N ++ t.data.toList) (UInt8.toNat.inj (by rw [hmk.2]; rfl)) q hle (fun j h1 h2 => UInt8.toNat.inj (by rw [(hg j h1 (by omega)).2]; rfl)) (un_parts q hle e)
    refine ⟨⟨by omega, by omega, by rw [hts, hq]; exact hle, ?_⟩, by rw [hts, hq]; exact ha'⟩
    rw [nodeRec, if_pos (by omega), marked, secs_eq, hts, hq, ← hx]
    conv => lhs; rw [← T_of s, T_extract, Nat.add_sub_cancel_left]
  · cases g
theorem node_no {s : ByteArray} {a N q i a' a2 : Nat} {f' f2 : Bool} {l : List UInt8} {t : ByteArray} (hq : secs N = q) (hN : N = numAt s a) (hi : i + 1 = q) (hM : MI s a i a' f' l) (hP : PX (T l) 0 false t a2 f2) (hno : ¬ (f' = false ∧ f2 = false ∧ a2 = (T l).size)) (enc : ByteArray) : ¬ IsNode s a enc := by
  intro hE
  have ht := hE.text
  have hn := hE.parts.2.2.1
  have hle := hE.2.2.1
  have hN2 : enc.size = N := by rw [hN, hn]
  rw [hN2, hq] at ht hle
  have hg : good s a i := fun j h1 h2 => by
    refine ⟨by omega, ?_⟩
    rw [Nat.add_assoc a, sub_getD ht (64 * j + 63) (by omega), marked_marks _ _ _ _ _ (by omega), if_neg (by omega)]; rfl
  rcases hM with ⟨hf, _, ha', hl⟩ | ⟨g, _⟩
  · rw [hi] at hl
    have hL : (four N ++ enc.data.toList).length = 4 + N := by rw [List.length_append]; show 4 + enc.size = _; rw [hN2]
    have hgap : 63 * q - (4 + N) = gap (4 + N) := by rw [← hq]; unfold secs gap; omega
    have hq63 : 4 + N ≤ 63 * q := by rw [← hq]; unfold secs; omega
    have e := un_of ht q (Nat.le_refl _)
    rw [partsTo_eq, List.take_of_length_le (by rw [hL]; exact hq63), hL, hgap] at e
    exact hno ⟨hf, hP.no N (by rw [hl, un_num s a q (by omega) hle, hN]) _ hL (by rw [T_data, hl]; exact e)⟩
  · exact g hg
end Go.Proofs.YtliapnhckdimoacGreatDoor
namespace Go.Proofs.YtliapnhckdimoacGreatDoor
open Go.RowKit Go.Proofs.Sha

/-- What stands once the text is taken. -/
structure CS (w : World) (fb r : Nat) (s : ByteArray) (a : Nat) (f : Bool) (W : World) : Prop where
  sz : w.heap.size = fb
  lt : r < fb
  rd : Rd r s a f W
  mv : Mv r w W
  rb : RB (fb + 1) 0 ⟨#[]⟩ 0 ⟨#[]⟩ 0 W
theorem BS.low {w : World} {fb r b : Nat} {s : ByteArray} {a : Nat} {f : Bool} {l : List UInt8} {W W' : World} (h : BS w fb r b s a f l W) (hb : Below b W W') : CS w fb r s a f W' :=
  have h1 := h.lt; have h2 := h.bb; have h3 := h.sz
  ⟨h.sz, h.lt, (hb.block r (by omega)).trans h.rd, ⟨hb.os.trans h.mv.os, hb.tape.trans h.mv.tape, hb.output.trans h.mv.output, Nat.le_trans h.mv.size hb.size, fun k hk hr => (hb.block k (by omega)).trans (h.mv.block k hk hr)⟩, (hb.block (fb + 1) (by omega)).trans h.rb⟩
theorem CS.below {w : World} {fb r : Nat} {s : ByteArray} {a : Nat} {f : Bool} {W W' : World} (h : CS w fb r s a f W) (hb : Below W.heap.size W W') : CS w fb r s a f W' :=
  ⟨h.sz, h.lt, h.rd.below hb, h.mv.trans (Mv.of_below r hb), below_cells hb h.rb⟩
theorem CS.move {w : World} {fb r : Nat} {s : ByteArray} {a : Nat} {f : Bool} {W W' : World} (h : CS w fb r s a f W) {a' : Nat} {f' : Bool} (hr : Rd r s a' f' W') (hm : Mv r W W') : CS w fb r s a' f' W' :=
  have h1 := h.lt
  ⟨h.sz, h.lt, hr, h.mv.trans hm, hm.cells h.rb (by omega)⟩

set_option maxRecDepth 100000 in
set_option maxHeartbeats 1000000 in
theorem nodeRec_take (r : Nat) (s : ByteArray) (a : Nat) (w : World) (h : Rd r s a false w) (ha : a ≤ s.size) (hs : s.size ≤ 1048576) :
    Calls Tryz.prog 71 #[.agg #[], .pointer (some ⟨r, 0, none⟩)] w fun e w' => ∃ (k v nx : Int) (enc root : ByteArray) (a' : Nat) (f' : Bool), e = .returned (recV k enc v root nx) ∧ Hid (NodeR s a k enc v root nx a' f') ∧ a' ≤ s.size ∧ Rd r s a' f' w' ∧ Mv r w w' := by
  have hlt := h.lt
  obtain ⟨fb, hfb⟩ : ∃ fb, w.heap.size = fb := ⟨_, rfl⟩
  obtain ⟨w0, hw0⟩ : ∃ w0, w0 = (w.alloc (.cells #[] 78)).alloc (.cells #[.int .i64 0, .string ⟨#[]⟩, .int .i64 0, .string ⟨#[]⟩, .int .i64 0] 31) := ⟨_, rfl⟩
  have hr0 : Rd r s a false w0 := by rw [hw0]; exact (h.alloc _).alloc _
  have hm0 : Mv r w w0 := by rw [hw0]; exact ((Mv.refl r w).alloc _).alloc _
  have hb0 : RB (fb + 1) 0 ⟨#[]⟩ 0 ⟨#[]⟩ 0 w0 := by
    rw [hw0]; unfold RB; rw [show fb + 1 = (w.alloc (.cells #[] 78)).heap.size by simp [hfb]]; exact heap_alloc_new _ _
  have hz0 : fb + 2 ≤ w0.heap.size := by rw [hw0]; simp [hfb]
  go_enter Tryz.func71, Tryz.ntmps71
  go_wp2_with fail
  rw [← hw0]
  clear hw0 h
  refine (rsec 83 r s a false _ hr0 ha hs (by omega) (by omega)).mono ?_
  rintro e w1 ⟨t1, a1, f1, rfl, H1, hf1, ha1, ht1, hr1, hm1⟩
  have hmw1 := hm0.trans hm1
  have hb1 : RB (fb + 1) 0 ⟨#[]⟩ 0 ⟨#[]⟩ 0 w1 := hm1.cells hb0 (by omega)
  have hz1 : fb + 2 ≤ w1.heap.size := Nat.le_trans hz0 hm1.size
  clear hm0 hm1 hb0 hr0 hz0
  go_wp2_with fail
  refine (recNum_any _).mono ?_
  rintro e w2 ⟨rfl, hb2⟩
  obtain ⟨r2, hr2e⟩ : ∃ r2, w1.heap.size = r2 := ⟨_, rfl⟩
  have hr2 : Rd r2 t1 0 false w2 := Rd.below (by unfold Rd; rw [← hr2e]; exact heap_alloc_new _ _) hb2
  have hA2 : Below w1.heap.size w1 w2 := ((Below.refl _ w1).alloc (Nat.le_refl _) _).trans (hb2.mono (by simp))
  rw [hr2e]
  go_wp2_with fail
  refine (rint 4 true r2 t1 0 false _ hr2 (Nat.zero_le _) (by omega) (by omega) (by omega)).mono ?_
  rintro e w3 ⟨N, t3, a3, f3, rfl, H3, HV, ha3, hN, hr3, hm3⟩
  have hA3 : Below w1.heap.size w1 w3 := hA2.trans (hm3.to_below (by have := hA2.size; omega) (by omega))
  have hrr3 : Rd r s a1 f1 w3 := hr1.below hA3
  have hmw3 : Mv r w w3 := hmw1.trans (Mv.of_below r hA3)
  have hb3 : RB (fb + 1) 0 ⟨#[]⟩ 0 ⟨#[]⟩ 0 w3 := below_cells hA3 hb1
  have hz3 : fb + 2 ≤ w3.heap.size := Nat.le_trans hz1 hA3.size
  clear hA3 hA2 hm3 hr3 hb2 hr2 hr1 hmw1 hb1 hz1
  have HVs : Hid (∀ w', Calls Tryz.prog 75 #[.int .i64 (N : Int)] w' fun e w'' => e = .returned (.bool (decide (1 ≤ N ∧ N ≤ 4000))) ∧ w' = w'') := fun w' => vsize_any N w'
  have hfirst := num_first H1.out hf1 H3.out HV.out
  by_cases hv : 1 ≤ N ∧ N ≤ 4000
  · rw [decide_eq_true hv] at HVs
    have hmk := hfirst.2 hv.1
    obtain ⟨rfl, ht1e, rfl, HNn⟩ := hfirst.1 hmk
    have HT1 : Hid (t1 = s.extract a (a + 63)) := ht1e
    have HNum : Hid (N = numAt s a) := HNn
    have HMK : Hid (a + 64 ≤ s.size ∧ (s.data.toList.getD (a + 63) 0).toNat = 83) := hmk
    clear hfirst H1 H3 HV hf1 ht1e HNn hmk
    go_wp2_with (first | (go_at_call 75; refine (HVs.out _).mono ?_; rintro e w4 ⟨rfl, rfl⟩))
    have ht1s : t1.size ≤ 63 := by rw [HT1.out, ByteArray.size_extract]; omega
    obtain ⟨b, hb⟩ : ∃ b, w3.heap.size = b := ⟨_, rfl⟩
    have hS3 : BS w fb r b s (a + 64) false [] (w3.alloc (.cells #[.pointer none, .slice none 0 0] 119)) := by
      refine ⟨hfb, by omega, by omega, ?_, hrr3.alloc _, hmw3.alloc _, below_cells ((Below.refl _ _).alloc (Nat.le_refl _) _) hb3⟩
      rw [← hb]; exact fresh_bld w3
    rw [hb]
    refine (ws_any b [] t1 _ hS3.bld (by show 0 + t1.size ≤ _; omega)).mono ?_
    rintro e w4 ⟨rfl, hp4⟩
    have hS4 := hS3.put hp4
    rw [List.nil_append] at hS4
    clear hp4 hS3 hb3 hmw3 hrr3 HVs
    go_wp2_with fail
    refine (recNum_any _).mono ?_
    rintro e w5 ⟨rfl, hb5⟩
    have hS5 := hS4.below hb5
    clear hS4 hb5
    obtain ⟨q, hq⟩ : ∃ q, secs N = q := ⟨_, rfl⟩
    have hq1 : 1 ≤ q ∧ q ≤ 65 ∧ N + 4 ≤ 63 * q := by rw [← hq]; unfold secs; omega
    have HQ : Hid (secs N = q) := hq
    have HSF : Hid (∀ w', Calls Tryz.prog 77 #[.int .i64 (4 + (N : Int))] w' fun e w'' => e = .returned (.int .i64 (q : Int)) ∧ w' = w'') := fun w' => by
      have := secsFor_any (4 + N) w' (by omega)
      rw [show ((4 + N : Nat) : Int) = 4 + (N : Int) by omega, show (4 + N + 62) / 63 = q by rw [← hq]; unfold secs; congr 1; omega] at this
      exact this
    clear hq
    have hfld : ∀ w : World, (Instr.field 115 (.agg #[.int .i64 4, .bool true]) 0).run Tryz.prog w = .ok (.int .i64 4) w := fun _ => by kernel_rfl
    have y1 : IntKind.i64.wrap (4 + (N : Int)) = 4 + (N : Int) := wrap_i64_in _ (by omega) (by omega)
    have y2 : IntKind.i64.wrap ((q : Int) - 1) = (q : Int) - 1 := wrap_i64_in _ (by omega) (by omega)
    go_wp2_with (first | (go_at_call 77; refine (HSF.out _).mono ?_; rintro e w6 ⟨rfl, rfl⟩))
    have HM0 : Hid (MI s a 0 (a + 64) false t1.data.toList) := .inl ⟨rfl, fun j h1 h2 => by omega, by omega, by rw [unTo, unTo, List.nil_append, HT1.out]; rfl⟩
    have ha64 : a + 64 ≤ s.size := HMK.out.1
    clear hfld HSF
    go_loopw [34] (fun t34 wr => ∃ (i a' : Nat) (f' : Bool) (l : List UInt8), i + 1 ≤ q ∧ t34 = .int .i64 (i : Int) ∧ BS w fb r b s a' f' l wr ∧ a' ≤ s.size ∧ l.length ≤ 63 * (i + 1) ∧ Hid (MI s a i a' f' l)) (fun t34 _ => q - (intOf t34).toNat)
    case atStart => exact ⟨0, a + 64, false, t1.data.toList, hq1.1, rfl, hS5, ha64, ht1s, HM0⟩
    case round =>
      obtain ⟨i, a', f', l, hi, rfl, hS, ha', hl, HM⟩ := hrel
      by_cases h1 : i + 1 < q
      · have z1 : decide ((i : Int) < (q : Int) - 1) = true := by simp; omega
        have z1' : decide ((i : Int) + 1 < (q : Int)) = true := by simp; omega
        go_wp2_with fail
        refine (rsec 77 r s a' f' _ hS.rd ha' hs (by omega) (by omega)).mono ?_
        rintro e w7 ⟨t7, a7, f7, rfl, H7, hf7, ha7, ht7, hr7, hm7⟩
        have hS7 := hS.move hr7 hm7
        have h7s := H7.out.small hf7
        have HM7 : Hid (MI s a (i + 1) a7 f7 (l ++ t7.data.toList)) := HM.out.step H7.out
        clear hr7 hm7 hf7 H7 HM
        go_wp2_with fail
        refine (ws_any b l t7 _ hS7.bld (by omega)).mono ?_
        rintro e w8 ⟨rfl, hp8⟩
        have hS8 := hS7.put hp8
        go_wp2_with fail
        refine ⟨⟨i + 1, a7, f7, l ++ t7.data.toList, by omega, congrArg (Value.int .i64) (by omega), hS8, ha7, ?_, HM7⟩, ?_⟩
        · rw [List.length_append]; show l.length + t7.size ≤ _; omega
        · show q - ((i : Int) + 1).toNat < q - ((i : Int)).toNat
          omega
      · have e : i + 1 = q := by omega
        have z1 : decide ((i : Int) < (q : Int) - 1) = false := by simp; omega
        have z1' : decide ((i : Int) + 1 < (q : Int)) = false := by simp; omega
        go_wp2_with fail
        refine (bstring b l _ hS.bld).mono ?_
        rintro e w7 ⟨rfl, hb7⟩
        have hS7 := hS.low hb7
        go_wp2_with fail
        refine (nodeBody_any _).mono ?_
        rintro e w8 ⟨rfl, hb8⟩
        have hS8 := hS7.below hb8
        go_wp2_with fail
        refine (whole_S (T l) _ (by rw [T_size]; omega)).mono ?_
        rintro e w9 ⟨t, t', a2, f2, bb, rfl, HP, HB, ht', ha2, hts, hb9⟩
        have hS9 := hS8.below hb9
        clear hS8 hS7 hS hb7 hb8 hb9
        have HNo : Hid (¬ (f' = false ∧ f2 = false ∧ a2 = (T l).size) → ∀ enc, ¬ IsNode s a enc) := fun hno enc => node_no HQ.out HNum.out e HM.out HP.out hno enc
        have HYes : Hid (f' = false → f2 = false → a2 = (T l).size → IsNode s a t ∧ a' = a + 64 * secs t.size) := fun hf hf2 h2 => by
          subst hf hf2
          exact node_yes HQ.out HNum.out hv.1 hv.2 HMK.out e HM.out HP.out h2
        clear HM HP HQ HNum HMK HT1 HM0 hS5 z1 z1' e
        by_cases hok : f2 = false ∧ a2 = (T l).size
        · have hbb : bb = true := by rw [HB.out, decide_eq_true hok]
          subst hbb
          have htt : t' = t := by rw [ht', if_pos rfl]
          subst htt
          have HO : Hid (f2 = false ∧ a2 = (T l).size) := hok
          clear hok ht' HB
          obtain ⟨c0, c1, c2, c3, c4, g0, g1, g2, g3, g4⟩ := RB.at hS9.rb
          go_wp2_with fail
          have hF := fin5 hS9.rd hS9.mv hfb (Nat.le_succ fb) (by omega)
          refine retRec rfl (RecAt.set5 ⟨c0, c1, c2, c3, c4, g0, g1, g2, g3, g4⟩ 1 t' 0 ⟨#[]⟩ 0) rfl rfl ⟨1, 0, 0, t', ⟨#[]⟩, a', f', rfl, ?_, ha', (hF _ _ _ _ _).1, (hF _ _ _ _ _).2⟩
          cases f'
          · have := HYes.out rfl HO.out.1 HO.out.2
            exact .inl ⟨rfl, this.1, this.2, rfl, rfl, rfl, rfl⟩
          · exact .inr ⟨rfl, HNo.out (by rintro ⟨h, _⟩; cases h)⟩
        · have hbb : bb = false := by rw [HB.out, decide_eq_false hok]
          subst hbb
          have htt : t' = ⟨#[]⟩ := by rw [ht', if_neg (by simp)]
          subst htt
          have HO : Hid (∀ enc, ¬ IsNode s a enc) := HNo.out fun h => hok h.2
          clear hok ht' HB
          go_wp2_with (first | (go_at_call 45; refine (fail_any r s a' f' _ hS9.rd).mono ?_; rintro e wA ⟨rfl, hrA, hmA⟩; have hSA := hS9.move hrA hmA; obtain ⟨c0, c1, c2, c3, c4, g0, g1, g2, g3, g4⟩ := RB.at hSA.rb))
          have hF := fin5 hSA.rd hSA.mv hfb (Nat.le_succ fb) (by omega)
          exact retRec rfl (RecAt.set5 ⟨c0, c1, c2, c3, c4, g0, g1, g2, g3, g4⟩ 1 ⟨#[]⟩ 0 ⟨#[]⟩ 0) rfl rfl ⟨1, 0, 0, ⟨#[]⟩, ⟨#[]⟩, a', true, rfl, .inr ⟨rfl, HO.out⟩, ha', (hF _ _ _ _ _).1, (hF _ _ _ _ _).2⟩
  · rw [decide_eq_false hv] at HVs
    have HNo : Hid (∀ enc', ¬ IsNode s a enc') := fun enc' hE => by
      have hp := hE.parts
      have := (hfirst.1 ⟨hp.1, by rw [hp.2.1]; rfl⟩).2.2.2
      rw [hp.2.2.1] at this
      exact hv ⟨by rw [this]; exact hE.1, by rw [this]; exact hE.2.1⟩
    clear hfirst H1 H3 HV hf1
    go_wp2_with (first | (go_at_call 75; refine (HVs.out _).mono ?_; rintro e w4 ⟨rfl, rfl⟩) | (go_at_call 45; refine (fail_any r s a1 f1 _ hrr3).mono ?_; rintro e w5 ⟨rfl, hr5, hm5⟩; obtain ⟨c0, c1, c2, c3, c4, g0, g1, g2, g3, g4⟩ := RB.at (show RB (fb + 1) 0 ⟨#[]⟩ 0 ⟨#[]⟩ 0 w5 from hm5.cells hb3 (by omega))))
    have hF := fin5 hr5 (hmw3.trans hm5) hfb (Nat.le_succ fb) (by omega)
    exact retRec rfl (RecAt.set5 ⟨c0, c1, c2, c3, c4, g0, g1, g2, g3, g4⟩ 0 ⟨#[]⟩ 0 ⟨#[]⟩ 0) rfl rfl ⟨0, 0, 0, ⟨#[]⟩, ⟨#[]⟩, a1, true, rfl, .inr ⟨rfl, HNo.out⟩, ha1, (hF _ _ _ _ _).1, (hF _ _ _ _ _).2⟩
end Go.Proofs.YtliapnhckdimoacGreatDoor
