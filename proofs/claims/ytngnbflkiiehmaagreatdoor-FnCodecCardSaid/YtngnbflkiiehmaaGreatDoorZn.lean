import Derived.Test.YtngnbflkiiehmaaGreatDoorZm
import Derived.Test.YtngnbflkiiehmaaGreatDoorZh
namespace Go.Proofs.YtngnbflkiiehmaaGreatDoor
open Go.RowKit Go.Proofs.Sha

theorem ret82 {w : World} {g : Nat} {k : Int} {enc : ByteArray} {v : Int} {root : ByteArray} {nx : Int} (h : RecAt w g k enc v root nx) {a : Act} {R : Ending → World → Prop} (b : Bool) (h4 : a.tmps.getD 4 undef = .pointer (some ⟨g, 0, none⟩)) (h5 : a.tmps.getD 5 undef = .bool b) (hd : a.defers = [])
    (hR : R (.returned (.tuple #[recV k enc v root nx, .bool b])) w) : bodyPost Tryz.prog Tryz.f90 R .ret a w := by
  obtain ⟨c0, c1, c2, c3, c4, f0, f1, f2, f3, f4⟩ := h
  have h4' : a.tmps[4]?.getD undef = .pointer (some ⟨g, 0, none⟩) := by simpa using h4
  have h5' : a.tmps[5]?.getD undef = .bool b := by simpa using h5
  exact bodyPost_ret (v := .tuple #[recV k enc v root nx, .bool b]) (by simp [results, Tryz.results90, go_sem, h4', h5', asAddr, c0, c1, c2, c3, c4]) hd hR
/-- What readWhole of a record answers. -/
def wholeR (s : ByteArray) (k : Int) (enc : ByteArray) (v : Int) (root : ByteArray) (nx : Int) (a' : Nat) (f' : Bool) : Value := if f' = false ∧ a' = s.size then .tuple #[recV k enc v root nx, .bool true] else .tuple #[recV 0 ⟨#[]⟩ 0 ⟨#[]⟩ 0, .bool false]

set_option maxRecDepth 100000 in
set_option maxHeartbeats 1000000 in
theorem whole_R (s : ByteArray) (w : World) (hs : s.size ≤ 90000) :
    Calls Tryz.prog 90 #[.string s, .iface 143 (.agg #[.iface 147 (.agg #[])])] w fun e w' => ∃ (k v nx : Int) (enc root : ByteArray) (a' : Nat) (f' : Bool), e = .returned (wholeR s k enc v root nx a' f') ∧ Hid (QX s 0 false k enc v root nx a' f') ∧ a' ≤ s.size ∧ Below w.heap.size w w' := by
  obtain ⟨fb, hfb⟩ : ∃ fb, w.heap.size = fb := ⟨_, rfl⟩
  obtain ⟨w0, hw0⟩ : ∃ w0, w0 = (w.alloc (.cells #[.int .i64 0, .string ⟨#[]⟩, .int .i64 0, .string ⟨#[]⟩, .int .i64 0] 36)).alloc (.cells #[.string s, .int .i64 0, .bool false] 61) := ⟨_, rfl⟩
  have hr0 : Rd (fb + 1) s 0 false w0 := by
    rw [hw0]; unfold Rd; rw [show fb + 1 = (w.alloc (.cells #[.int .i64 0, .string ⟨#[]⟩, .int .i64 0, .string ⟨#[]⟩, .int .i64 0] 36)).heap.size by simp [hfb]]; exact heap_alloc_new _ _
  have hn0 : RB fb 0 ⟨#[]⟩ 0 ⟨#[]⟩ 0 w0 := by
    rw [hw0]; exact below_cells ((Below.refl _ _).alloc (Nat.le_refl _) _) (by rw [← hfb]; exact heap_alloc_new _ _)
  have hb0 : Below fb w w0 := by rw [hw0]; exact ((Below.refl _ _).alloc (by omega) _).alloc (by simp; omega) _
  have hs0 : w0.heap.size = fb + 2 := by rw [hw0]; simp [hfb]
  go_enter Tryz.func90, Tryz.ntmps90
  go_wp2_with fail
  rw [← hw0]
  clear hw0
  refine (rrec_pad (QX s 0 false) (fb + 1) s 0 false _ hr0 (fun w' h' => padR_take (fb + 1) s 0 false w' h' (by omega) hs)).mono ?_
  rintro e w1 ⟨k, v, nx, enc, root, a', f', he, HX, ha', hr1, hm1⟩
  have hn1 : RB fb 0 ⟨#[]⟩ 0 ⟨#[]⟩ 0 w1 := hm1.cells hn0 (by omega)
  have hb1 : Below fb w w1 := hb0.trans (hm1.to_below (by omega) (by omega))
  have A1 : ∀ o, (w1.alloc o).heap[fb + 1]? = some (.cells #[.string s, .int .i64 (a' : Int), .bool f'] 61) := fun o => hr1.alloc o
  have B1 : ∀ o, RB fb 0 ⟨#[]⟩ 0 ⟨#[]⟩ 0 (w1.alloc o) := fun o => below_cells ((Below.refl _ _).alloc (Nat.le_refl _) _) hn1
  have B2 : ∀ o o', RB fb 0 ⟨#[]⟩ 0 ⟨#[]⟩ 0 ((w1.alloc o).alloc o') := fun o o' => below_cells ((Below.refl _ _).alloc (Nat.le_refl _) _) (B1 o)
  have e1 : ∀ o, (w1.alloc o).cell? ⟨fb + 1, 1, none⟩ = some (.int .i64 (a' : Int)) := fun o => Lib.cell_of_heap (A1 o) 1
  have e2 : ∀ o, (w1.alloc o).cell? ⟨fb + 1, 2, none⟩ = some (.bool f') := fun o => Lib.cell_of_heap (A1 o) 2
  have b0 : ∀ o, (w1.alloc o).cell? ⟨fb, 0, none⟩ = some (.int .i64 0) := fun o => Lib.cell_of_heap (B1 o) 0
  have d0 : ∀ o, (w1.alloc o).frozen? ⟨fb, 0, none⟩ = false := fun o => frozen_of_heap (B1 o)
  have p0 : ∀ o o', ((w1.alloc o).alloc o').cell? ⟨fb, 0, none⟩ = some (.int .i64 0) := fun o o' => Lib.cell_of_heap (B2 o o') 0
  have q0 : ∀ o o', ((w1.alloc o).alloc o').frozen? ⟨fb, 0, none⟩ = false := fun o o' => frozen_of_heap (B2 o o')
  have b1 : ∀ o, (w1.alloc o).cell? ⟨fb, 1, none⟩ = some (.string ⟨#[]⟩) := fun o => Lib.cell_of_heap (B1 o) 1
  have d1 : ∀ o, (w1.alloc o).frozen? ⟨fb, 1, none⟩ = false := fun o => frozen_of_heap (B1 o)
  have p1 : ∀ o o', ((w1.alloc o).alloc o').cell? ⟨fb, 1, none⟩ = some (.string ⟨#[]⟩) := fun o o' => Lib.cell_of_heap (B2 o o') 1
  have q1 : ∀ o o', ((w1.alloc o).alloc o').frozen? ⟨fb, 1, none⟩ = false := fun o o' => frozen_of_heap (B2 o o')
  have b2 : ∀ o, (w1.alloc o).cell? ⟨fb, 2, none⟩ = some (.int .i64 0) := fun o => Lib.cell_of_heap (B1 o) 2
  have d2 : ∀ o, (w1.alloc o).frozen? ⟨fb, 2, none⟩ = false := fun o => frozen_of_heap (B1 o)
  have p2 : ∀ o o', ((w1.alloc o).alloc o').cell? ⟨fb, 2, none⟩ = some (.int .i64 0) := fun o o' => Lib.cell_of_heap (B2 o o') 2
  have q2 : ∀ o o', ((w1.alloc o).alloc o').frozen? ⟨fb, 2, none⟩ = false := fun o o' => frozen_of_heap (B2 o o')
  have b3 : ∀ o, (w1.alloc o).cell? ⟨fb, 3, none⟩ = some (.string ⟨#[]⟩) := fun o => Lib.cell_of_heap (B1 o) 3
  have d3 : ∀ o, (w1.alloc o).frozen? ⟨fb, 3, none⟩ = false := fun o => frozen_of_heap (B1 o)
  have p3 : ∀ o o', ((w1.alloc o).alloc o').cell? ⟨fb, 3, none⟩ = some (.string ⟨#[]⟩) := fun o o' => Lib.cell_of_heap (B2 o o') 3
  have q3 : ∀ o o', ((w1.alloc o).alloc o').frozen? ⟨fb, 3, none⟩ = false := fun o o' => frozen_of_heap (B2 o o')
  have b4 : ∀ o, (w1.alloc o).cell? ⟨fb, 4, none⟩ = some (.int .i64 0) := fun o => Lib.cell_of_heap (B1 o) 4
  have d4 : ∀ o, (w1.alloc o).frozen? ⟨fb, 4, none⟩ = false := fun o => frozen_of_heap (B1 o)
  have p4 : ∀ o o', ((w1.alloc o).alloc o').cell? ⟨fb, 4, none⟩ = some (.int .i64 0) := fun o o' => Lib.cell_of_heap (B2 o o') 4
  have q4 : ∀ o o', ((w1.alloc o).alloc o').frozen? ⟨fb, 4, none⟩ = false := fun o o' => frozen_of_heap (B2 o o')
  have HB1 : Hid (∀ o, RB fb 0 ⟨#[]⟩ 0 ⟨#[]⟩ 0 (w1.alloc o)) := B1
  have HB2 : Hid (∀ o o', RB fb 0 ⟨#[]⟩ 0 ⟨#[]⟩ 0 ((w1.alloc o).alloc o')) := B2
  have hsz1 : fb ≤ w1.heap.size := by have := hm1.size; omega
  clear A1 B1 B2 hn1 hm1 hr1 hr0 hn0 hb0 hs0
  have HBl1 : Hid (∀ o (x0 x1 x2 x3 x4 : Value), Below w.heap.size w ((((((w1.alloc o).setCell ⟨fb, 0, none⟩ x0).setCell ⟨fb, 1, none⟩ x1).setCell ⟨fb, 2, none⟩ x2).setCell ⟨fb, 3, none⟩ x3).setCell ⟨fb, 4, none⟩ x4)) := fun o x0 x1 x2 x3 x4 => by
    rw [hfb]; exact below5 (hb1.alloc hsz1 o) (Nat.le_refl _) _ _ _ _ _
  have HBl2 : Hid (∀ o o' (x0 x1 x2 x3 x4 : Value), Below w.heap.size w (((((((w1.alloc o).alloc o').setCell ⟨fb, 0, none⟩ x0).setCell ⟨fb, 1, none⟩ x1).setCell ⟨fb, 2, none⟩ x2).setCell ⟨fb, 3, none⟩ x3).setCell ⟨fb, 4, none⟩ x4)) := fun o o' x0 x1 x2 x3 x4 => by
    rw [hfb]; exact below5 ((hb1.alloc hsz1 o).alloc (by simp; omega) o') (Nat.le_refl _) _ _ _ _ _
  clear hb1 hsz1
  cases f'
  · rw [if_neg (by simp)] at he
    subst he
    by_cases hlt : a' < s.size
    · have z1 : decide ((a' : Int) < (s.size : Int)) = true := by simp; omega
      go_wp2_with fail
      refine ret82 (RecAt.set5 (RB.at (HB2.out _ _)) 0 ⟨#[]⟩ 0 ⟨#[]⟩ 0) false rfl rfl rfl ⟨k, v, nx, enc, root, a', false, ?_, HX, ha', HBl2.out _ _ _ _ _ _ _⟩
      unfold wholeR; rw [if_neg (by omega)]
    · have z1 : decide ((a' : Int) < (s.size : Int)) = false := by simp; omega
      go_wp2_with fail
      refine ret82 (RecAt.set5 (RB.at (HB1.out _)) k enc v root nx) true rfl rfl rfl ⟨k, v, nx, enc, root, a', false, ?_, HX, ha', HBl1.out _ _ _ _ _ _⟩
      unfold wholeR; rw [if_pos ⟨rfl, by omega⟩]
  · rw [if_pos rfl] at he
    subst he
    go_wp2_with fail
    refine ret82 (RecAt.set5 (RB.at (HB2.out _ _)) 0 ⟨#[]⟩ 0 ⟨#[]⟩ 0) false rfl rfl rfl ⟨k, v, nx, enc, root, a', true, ?_, HX, ha', HBl2.out _ _ _ _ _ _ _⟩
    unfold wholeR; rw [if_neg (by simp)]
end Go.Proofs.YtngnbflkiiehmaaGreatDoor
namespace Go.Proofs.YtngnbflkiiehmaaGreatDoor
open Go.RowKit Go.Proofs.Sha

theorem SX1 {s : ByteArray} {a : Nat} {f : Bool} {t : ByteArray} {a' : Nat} {f' : Bool} (h : SX 1 false s a f t a' f') (b : Nat) (hb : (s.data.toList.getD a 0).toNat = b) :
    (f = false ∧ a + 1 + b ≤ s.size ∧ t = s.extract (a + 1) (a + 1 + b) ∧ a' = a + 1 + b ∧ f' = false) ∨ ((f = true ∨ ¬ (a + 1 + b ≤ s.size)) ∧ f' = true) := by
  obtain ⟨t1, a1, f1, h1, h2⟩ := h
  rcases NX1 h1 with ⟨hf, hle, hv, ha1, hf1⟩ | ⟨hf, hf1⟩
  · rw [hv, hb] at h2
    subst ha1
    rcases h2 with ⟨_, hle2, ht, ha', hf'⟩ | ⟨hf2, _, _, hf'⟩
    · exact .inl ⟨hf, hle2, ht, ha', hf'⟩
    · refine .inr ⟨.inr fun hp => ?_, hf'⟩
      rcases hf2 with h | h
      · rw [hf1] at h; cases h
      · exact h hp
  · rcases h2 with ⟨hf2, _⟩ | ⟨_, _, _, hf'⟩
    · rw [hf1] at hf2; cases hf2
    · refine .inr ⟨?_, hf'⟩
      rcases hf with h | h
      · exact .inl h
      · exact .inr fun hp => h (by omega)

/-- What a commit record's reading answers and leaves. -/
def CommitR (s : ByteArray) (a : Nat) (k : Int) (enc : ByteArray) (v : Int) (root : ByteArray) (nx : Int) (a' : Nat) (f' : Bool) : Prop :=
  (f' = false ∧ IsCommit s a v root ∧ a' = a + 64 ∧ k = 2 ∧ enc = ⟨#[]⟩ ∧ nx = 0) ∨ (f' = true ∧ ∀ v' root', ¬ IsCommit s a v' root')

theorem gap5 (b : Nat) (h : b ≤ 32) : gap (5 + b) = 63 - (5 + b) := by unfold gap; omega

theorem QX.yes {t : ByteArray} {k v nx : Int} {enc root : ByteArray} {a' : Nat} (h : QX t 0 false k enc v root nx a' false) (ht : t.size = 63) :
    1 ≤ v ∧ v ≤ 1000000 ∧ root.size ≤ 32 ∧ k = 2 ∧ enc = ⟨#[]⟩ ∧ nx = 0 ∧ t.data.toList = part63 (four v.toNat ++ ([UInt8.ofNat root.size] ++ root.data.toList)) 0 := by
  obtain ⟨a1, f1, n, rt, t2, f2, hK, hh, _, h3, hf⟩ := h
  have hf2 : f2 = false ∧ zeroT t2 = true := by
    cases f2 <;> cases hz : zeroT t2 <;> rw [hz] at hf <;> first | exact ⟨rfl, rfl⟩ | cases hf
  rcases h3 with ⟨hf1, hle2, ht2, _, _⟩ | ⟨_, _, _, g⟩
  · obtain ⟨rfl, rfl, rfl, rfl, rfl⟩ := hh hf1
    obtain ⟨t1, a0, f0, f3, h1, hn, h2, hf3⟩ := hK
    have hf30 : f3 = false ∧ (1 ≤ n ∧ n ≤ 1000000 ∧ root.size ≤ 32) := by
      rw [hf1] at hf3
      cases f3
      · refine ⟨rfl, ?_⟩
        by_cases hd : 1 ≤ n ∧ n ≤ 1000000 ∧ root.size ≤ 32
        · exact hd
        · rw [decide_eq_false hd] at hf3; cases hf3
      · cases hf3
    rcases h1 with ⟨_, hle1, ht1, ha0, _⟩ | ⟨hno, _⟩
    · rw [num_ex t t1 0 hle1 ht1] at hn
      rw [Nat.zero_add] at ha0
      subst ha0
      obtain ⟨b, hb⟩ : ∃ b, (t.data.toList.getD 4 0).toNat = b := ⟨_, rfl⟩
      rcases SX1 h2 b hb with ⟨_, hle, hrt, ha1, _⟩ | ⟨_, g⟩
      · have hrs : root.size = b := by rw [hrt]; exact ex_size t (4 + 1) b hle
        subst ha1
        refine ⟨by omega, by omega, hf30.2.2.2, rfl, rfl, rfl, ?_⟩
        have hz := zeroT_rep hf2.2
        have hl : t.data.toList.length = 63 := ht
        have hg := gap5 b (by omega)
        rw [ht2, ex_size t _ _ hle2, ex_list, show 4 + 1 + b = 5 + b from rfl, hg] at hz
        have hL : (four (n : Int).toNat ++ ([UInt8.ofNat root.size] ++ root.data.toList)).length = 5 + b := by
          rw [List.length_append, List.length_append]; show 4 + (1 + root.size) = _; omega
        unfold part63
        rw [List.drop_zero, List.take_of_length_le (by rw [hL]; omega), hL, Nat.sub_zero, ← hz, Int.toNat_natCast, hn, four_back t 0 (by omega), hrs, ← hb, UInt8.ofNat_toNat, ← seg_one t.data.toList 4 (by omega), hrt, ex_list, seg_add, hb, List.drop_zero]
        have e1 := seg_add t.data.toList 0 4 (1 + b)
        rw [List.drop_zero, Nat.zero_add] at e1
        rw [e1, List.take_of_length_le (l := List.drop (5 + b) t.data.toList) (by rw [List.length_drop]; omega), show 4 + (1 + b) = 5 + b by omega, List.take_append_drop]
      · rw [hf30.1] at g; cases g
    · rcases hno with g | g
      · cases g
      · omega
  · rw [g] at hf2; cases hf2.1

theorem QX.no {t : ByteArray} {k v nx : Int} {enc root : ByteArray} {a' : Nat} {f' : Bool} (h : QX t 0 false k enc v root nx a' f') {v' : Int} {root' : ByteArray} (h1 : 1 ≤ v') (h2 : v' ≤ 1000000) (h3 : root'.size ≤ 32)
    (ht : t.data.toList = four v'.toNat ++ ([UInt8.ofNat root'.size] ++ root'.data.toList) ++ List.replicate (63 - (5 + root'.size)) 0) : f' = false ∧ a' = t.size := by
  have hL : (four v'.toNat ++ ([UInt8.ofNat root'.size] ++ root'.data.toList)).length = 5 + root'.size := by
    rw [List.length_append, List.length_append]; show 4 + (1 + root'.size) = _; omega
  have hsz : t.size = 63 := by
    show t.data.toList.length = _
    rw [ht, List.length_append, List.length_replicate, hL]; omega
  have hnum : numAt t 0 = v'.toNat := by
    have g : ∀ j, j < 4 → t.data.toList.getD j 0 = (four v'.toNat).getD j 0 := fun j hj => by rw [ht, List.append_assoc, four_getD _ _ j hj]
    have := four_num v'.toNat (by omega)
    unfold numAt
    rw [g 0 (by omega), g (0 + 1) (by omega), g (0 + 2) (by omega), g (0 + 3) (by omega)]
    exact this
  have hb : (t.data.toList.getD 4 0).toNat = root'.size := by
    rw [ht]
    show (UInt8.ofNat root'.size).toNat = _
    exact UInt8.toNat_ofNat_of_lt' (by show _ < 256; omega)
  obtain ⟨a1, f1, n, rt, t2, f2, hK, _, _, h5, hf⟩ := h
  obtain ⟨t1, a0, f0, f3, k1, hn, k2, hf3⟩ := hK
  rcases k1 with ⟨_, hle1, ht1, ha0, hf0⟩ | ⟨hno, _⟩
  · rw [num_ex t t1 0 hle1 ht1, hnum] at hn
    rw [Nat.zero_add] at ha0
    subst ha0
    rcases SX1 k2 _ hb with ⟨_, hle, hrt, ha1, hf3'⟩ | ⟨hno, _⟩
    · have hrs : rt.size = root'.size := by rw [hrt]; exact ex_size t (4 + 1) _ hle
      have hf1 : f1 = false := by rw [hf3, hf3', decide_eq_true (by omega)]; rfl
      subst ha1
      have hg := gap5 root'.size h3
      rcases h5 with ⟨_, hle2, ht2, ha2, g⟩ | ⟨hno, _⟩
      · refine ⟨?_, ?_⟩
        · have : zeroT t2 = true := rep_zeroT (63 - (5 + root'.size)) (by
            rw [ht2, ex_list, show 4 + 1 + root'.size = 5 + root'.size from rfl, hg, ht, ← hL, List.drop_left, List.take_of_length_le (by rw [List.length_replicate]; exact Nat.le_refl _)])
          rw [hf, g, this]; rfl
        · rw [ha2, show 4 + 1 + root'.size = 5 + root'.size from rfl, hg]; omega
      · rcases hno with g | g
        · rw [hf1] at g; cases g
        · rw [show 4 + 1 + root'.size = 5 + root'.size from rfl, hg] at g; omega
    · rcases hno with g | g
      · rw [hf0] at g; cases g
      · omega
  · rcases hno with g | g
    · cases g
    · omega

theorem commit_yes {s : ByteArray} {a a' a2 : Nat} {t : ByteArray} {k v nx : Int} {enc root : ByteArray} (hC : CX 67 s a false t a' false) (hQ : QX t 0 false k enc v root nx a2 false) : IsCommit s a v root ∧ a' = a + 64 ∧ k = 2 ∧ enc = ⟨#[]⟩ ∧ nx = 0 := by
  rcases hC with ⟨_, hle, hmk, ht, ha', _⟩ | ⟨_, g⟩
  · have hts : t.size = 63 := by rw [ht]; exact ex_size s a 63 (by omega)
    obtain ⟨h1, h2, h3, rfl, rfl, rfl, hl⟩ := hQ.yes hts
    refine ⟨⟨h1, h2, h3, hle, ?_⟩, ha', rfl, rfl, rfl⟩
    have hsl : s.data.toList.length = s.size := rfl
    rw [commit_text h1 h2 h3, markedTo, markedTo, List.nil_append, Nat.mul_zero, ← hl, if_pos rfl, ht, ex_list]
    conv => lhs; rw [← T_of s, T_extract, Nat.add_sub_cancel_left]
    have e := seg_add s.data.toList a 63 1
    rw [seg_one _ _ (by omega), UInt8.toNat.inj (show _ = (67 : UInt8).toNat from hmk)] at e
    rw [e]
  · cases g
theorem commit_no {s : ByteArray} {a a' a2 : Nat} {f' f2 : Bool} {t : ByteArray} {k v nx : Int} {enc root : ByteArray} (hC : CX 67 s a false t a' f') (hQ : QX t 0 false k enc v root nx a2 f2) (hno : ¬ (f' = false ∧ f2 = false ∧ a2 = t.size)) (v' : Int) (root' : ByteArray) : ¬ IsCommit s a v' root' := by
  intro hE
  have hmk := hE.parts.1
  obtain ⟨h1, h2, h3, hle, he⟩ := hE
  rcases hC with ⟨_, _, _, ht, _, hf'⟩ | ⟨hn, _⟩
  · refine hno ⟨hf', ?_⟩
    rw [commit_text h1 h2 h3] at he
    have hx := sub_extract he 0 63 (by omega)
    rw [Nat.add_zero, List.drop_zero, markedTo, markedTo, List.nil_append, Nat.mul_zero, List.take_append_of_le_length (by rw [part63_length]; exact Nat.le_refl _), List.take_of_length_le (by rw [part63_length]; exact Nat.le_refl _)] at hx
    have hL : (four v'.toNat ++ ([UInt8.ofNat root'.size] ++ root'.data.toList)).length = 5 + root'.size := by
      rw [List.length_append, List.length_append]; show 4 + (1 + root'.size) = _; omega
    refine hQ.no h1 h2 h3 ?_
    rw [ht, hx, T_data, part63, List.drop_zero, List.take_of_length_le (by rw [hL]; omega), hL, Nat.sub_zero]
  · rcases hn with g | g
    · cases g
    · exact g ⟨hle, by rw [hmk]; rfl⟩
end Go.Proofs.YtngnbflkiiehmaaGreatDoor
namespace Go.Proofs.YtngnbflkiiehmaaGreatDoor
open Go.RowKit Go.Proofs.Sha

set_option maxRecDepth 100000 in
set_option maxHeartbeats 1000000 in
theorem commitRec_take (r : Nat) (s : ByteArray) (a : Nat) (w : World) (h : Rd r s a false w) (ha : a ≤ s.size) (hs : s.size ≤ 1048576) :
    Calls Tryz.prog 88 #[.agg #[], .pointer (some ⟨r, 0, none⟩)] w fun e w' => ∃ (k v nx : Int) (enc root : ByteArray) (a' : Nat) (f' : Bool), e = .returned (recV k enc v root nx) ∧ Hid (CommitR s a k enc v root nx a' f') ∧ a' ≤ s.size ∧ Rd r s a' f' w' ∧ Mv r w w' := by
  have hlt := h.lt
  obtain ⟨fb, hfb⟩ : ∃ fb, w.heap.size = fb := ⟨_, rfl⟩
  obtain ⟨w0, hw0⟩ : ∃ w0, w0 = (w.alloc (.cells #[] 56)).alloc (.cells #[.int .i64 0, .string ⟨#[]⟩, .int .i64 0, .string ⟨#[]⟩, .int .i64 0] 36) := ⟨_, rfl⟩
  have hr0 : Rd r s a false w0 := by rw [hw0]; exact (h.alloc _).alloc _
  have hm0 : Mv r w w0 := by rw [hw0]; exact ((Mv.refl r w).alloc _).alloc _
  have hb0 : RB (fb + 1) 0 ⟨#[]⟩ 0 ⟨#[]⟩ 0 w0 := by
    rw [hw0]; unfold RB; rw [show fb + 1 = (w.alloc (.cells #[] 56)).heap.size by simp [hfb]]; exact heap_alloc_new _ _
  have hz0 : fb + 2 ≤ w0.heap.size := by rw [hw0]; simp [hfb]
  go_enter Tryz.func88, Tryz.ntmps88
  go_wp2_with fail
  rw [← hw0]
  clear hw0 h
  refine (rsec 67 r s a false _ hr0 ha hs (by omega) (by omega)).mono ?_
  rintro e w1 ⟨t, a1, f1, rfl, H1, hf1, ha1, ht1, hr1, hm1⟩
  have ht63 : t.size ≤ 63 := H1.out.small hf1
  have hS1 : CS w fb r s a1 f1 w1 := ⟨hfb, by omega, hr1, hm0.trans hm1, hm1.cells hb0 (by omega)⟩
  have hz1 : fb + 2 ≤ w1.heap.size := Nat.le_trans hz0 hm1.size
  clear hm0 hm1 hb0 hr0 hz0 hr1 hf1
  go_wp2_with fail
  refine (commitBody_any _).mono ?_
  rintro e w2 ⟨rfl, hb2⟩
  have hS2 := hS1.below hb2
  have hz2 : fb + 2 ≤ w2.heap.size := Nat.le_trans hz1 hb2.size
  clear hS1 hb2 hz1
  go_wp2_with fail
  refine (whole_R t _ (by omega)).mono ?_
  rintro e w3 ⟨k, v, nx, enc, root, a2, f2, he, HQ, ha2, hb3⟩
  have hS3 := hS2.below hb3
  have hz3 : fb + 2 ≤ w3.heap.size := Nat.le_trans hz2 hb3.size
  clear hS2 hb3 hz2
  have HNo : Hid (¬ (f1 = false ∧ f2 = false ∧ a2 = t.size) → ∀ v' root', ¬ IsCommit s a v' root') := fun hno => commit_no H1.out HQ.out hno
  have HYes : Hid (f1 = false → f2 = false → IsCommit s a v root ∧ a1 = a + 64 ∧ k = 2 ∧ enc = ⟨#[]⟩ ∧ nx = 0) := fun h1 h2 => by
    subst h1 h2
    exact commit_yes H1.out HQ.out
  clear H1 HQ
  obtain ⟨gg, hgg⟩ : ∃ gg, w3.heap.size = gg := ⟨_, rfl⟩
  by_cases hok : f2 = false ∧ a2 = t.size
  · rw [wholeR, if_pos hok] at he
    subst he
    have HO : Hid (f2 = false ∧ a2 = t.size) := hok
    clear hok
    have hS4 : PS w fb r s a1 f1 gg k enc v root nx (w3.alloc (.cells #[.int .i64 k, .string enc, .int .i64 v, .string root, .int .i64 nx] 36)) :=
      ⟨hfb, by omega, by omega, hS3.rd.alloc _, hS3.mv.alloc _, below_cells ((Below.refl _ _).alloc (Nat.le_refl _) _) hS3.rb, by unfold RB; rw [← hgg]; exact heap_alloc_new _ _⟩
    obtain ⟨c0, c1, c2, c3, c4, g0, g1, g2, g3, g4⟩ := RB.at hS4.rb
    obtain ⟨d0, d1, d2, d3, d4, k0, k1, k2, k3, k4⟩ := RB.at hS4.nb
    clear hS3 hgg
    go_wp2_with fail
    have hF := fin5 hS4.rd hS4.mv hfb (Nat.le_succ fb) (by omega)
    refine retRec rfl (RecAt.set5 (RB.at hS4.rb) k enc v root nx) rfl rfl ⟨k, v, nx, enc, root, a1, f1, rfl, ?_, ha1, (hF _ _ _ _ _).1, (hF _ _ _ _ _).2⟩
    cases f1
    · exact .inl ⟨rfl, HYes.out rfl HO.out.1⟩
    · exact .inr ⟨rfl, HNo.out (by rintro ⟨h, _⟩; cases h)⟩
  · rw [wholeR, if_neg hok] at he
    subst he
    have HO : Hid (∀ v' root', ¬ IsCommit s a v' root') := HNo.out fun h => hok h.2
    clear hok HNo HYes
    have hS4 : PS w fb r s a1 f1 gg 0 ⟨#[]⟩ 0 ⟨#[]⟩ 0 (w3.alloc (.cells #[.int .i64 0, .string ⟨#[]⟩, .int .i64 0, .string ⟨#[]⟩, .int .i64 0] 36)) :=
      ⟨hfb, by omega, by omega, hS3.rd.alloc _, hS3.mv.alloc _, below_cells ((Below.refl _ _).alloc (Nat.le_refl _) _) hS3.rb, by unfold RB; rw [← hgg]; exact heap_alloc_new _ _⟩
    go_wp2_with fail
    refine (fail_any r s a1 f1 _ hS4.rd).mono ?_
    rintro e w5 ⟨rfl, hr5, hm5⟩
    have hS5 := hS4.move hr5 hm5
    clear hS3 hS4 hr5 hm5
    obtain ⟨c0, c1, c2, c3, c4, g0, g1, g2, g3, g4⟩ := RB.at hS5.rb
    obtain ⟨d0, d1, d2, d3, d4, k0, k1, k2, k3, k4⟩ := RB.at hS5.nb
    go_wp2_with fail
    have hF := fin5 hS5.rd hS5.mv hfb (Nat.le_succ fb) (by omega)
    exact retRec rfl (RecAt.set5 (RB.at hS5.rb) 0 ⟨#[]⟩ 0 ⟨#[]⟩ 0) rfl rfl ⟨0, 0, 0, ⟨#[]⟩, ⟨#[]⟩, a1, true, rfl, .inr ⟨rfl, HO.out⟩, ha1, (hF _ _ _ _ _).1, (hF _ _ _ _ _).2⟩
end Go.Proofs.YtngnbflkiiehmaaGreatDoor
namespace Go.Proofs.YtngnbflkiiehmaaGreatDoor
open Go.RowKit Go.Proofs.Sha

/-- What takeRecord answers and leaves. -/
def TakeR (s : ByteArray) (a mk : Nat) (k : Int) (enc : ByteArray) (v : Int) (root : ByteArray) (nx : Int) (a' : Nat) (f' : Bool) : Prop :=
  (mk = 83 ∧ NodeR s a k enc v root nx a' f') ∨ (mk = 67 ∧ CommitR s a k enc v root nx a' f') ∨ (mk ≠ 83 ∧ mk ≠ 67 ∧ f' = true)
theorem NodeR.fault {s : ByteArray} {a : Nat} {k : Int} {enc : ByteArray} {v : Int} {root : ByteArray} {nx : Int} {a' : Nat} (h : NodeR s a k enc v root nx a' true) (k' : Int) (enc' : ByteArray) (v' : Int) (root' : ByteArray) (nx' : Int) : NodeR s a k' enc' v' root' nx' a' true := by
  rcases h with ⟨g, _⟩ | h
  · cases g
  · exact .inr h
theorem CommitR.fault {s : ByteArray} {a : Nat} {k : Int} {enc : ByteArray} {v : Int} {root : ByteArray} {nx : Int} {a' : Nat} (h : CommitR s a k enc v root nx a' true) (k' : Int) (enc' : ByteArray) (v' : Int) (root' : ByteArray) (nx' : Int) : CommitR s a k' enc' v' root' nx' a' true := by
  rcases h with ⟨g, _⟩ | h
  · cases g
  · exact .inr h
theorem rnodeR (r : Nat) (s : ByteArray) (a : Nat) (w : World) (h : Rd r s a false w) (ha : a ≤ s.size) (hs : s.size ≤ 1048576) :
    Calls Tryz.prog 51 #[.pointer (some ⟨r, 0, none⟩), .iface 58 (.agg #[])] w fun e w' => ∃ (k v nx : Int) (enc root : ByteArray) (a' : Nat) (f' : Bool), e = .returned (recV k enc v root nx) ∧ Hid (NodeR s a k enc v root nx a' f') ∧ a' ≤ s.size ∧ Rd r s a' f' w' ∧ Mv r w w' := by
  refine (rrec_node (NodeR s a) r s a false w h (fun w' h' => nodeRec_take r s a w' h' ha hs)).mono ?_
  rintro e w' ⟨k, v, nx, enc, root, a', f', rfl, HX, ha', hr, hm⟩
  cases f'
  · exact ⟨k, v, nx, enc, root, a', false, rfl, HX, ha', hr, hm⟩
  · exact ⟨0, 0, 0, ⟨#[]⟩, ⟨#[]⟩, a', true, rfl, HX.out.fault _ _ _ _ _, ha', hr, hm⟩
theorem rcommitR (r : Nat) (s : ByteArray) (a : Nat) (w : World) (h : Rd r s a false w) (ha : a ≤ s.size) (hs : s.size ≤ 1048576) :
    Calls Tryz.prog 51 #[.pointer (some ⟨r, 0, none⟩), .iface 56 (.agg #[])] w fun e w' => ∃ (k v nx : Int) (enc root : ByteArray) (a' : Nat) (f' : Bool), e = .returned (recV k enc v root nx) ∧ Hid (CommitR s a k enc v root nx a' f') ∧ a' ≤ s.size ∧ Rd r s a' f' w' ∧ Mv r w w' := by
  refine (rrec_cr (CommitR s a) r s a false w h (fun w' h' => commitRec_take r s a w' h' ha hs)).mono ?_
  rintro e w' ⟨k, v, nx, enc, root, a', f', rfl, HX, ha', hr, hm⟩
  cases f'
  · exact ⟨k, v, nx, enc, root, a', false, rfl, HX, ha', hr, hm⟩
  · exact ⟨0, 0, 0, ⟨#[]⟩, ⟨#[]⟩, a', true, rfl, HX.out.fault _ _ _ _ _, ha', hr, hm⟩

set_option maxRecDepth 100000 in
set_option maxHeartbeats 1000000 in
theorem takeRec_any (mk : Nat) (r : Nat) (s : ByteArray) (a : Nat) (w : World) (h : Rd r s a false w) (ha : a ≤ s.size) (hs : s.size ≤ 1048576) :
    Calls Tryz.prog 36 #[.pointer (some ⟨r, 0, none⟩), .int .i64 (mk : Int)] w fun e w' => ∃ (k v nx : Int) (enc root : ByteArray) (a' : Nat) (f' : Bool), e = .returned (recV k enc v root nx) ∧ Hid (TakeR s a mk k enc v root nx a' f') ∧ a' ≤ s.size ∧ Rd r s a' f' w' ∧ Mv r w w' := by
  have HNd : Hid (∀ w', Rd r s a false w' → Calls Tryz.prog 51 #[.pointer (some ⟨r, 0, none⟩), .iface 58 (.agg #[])] w' fun e w'' => ∃ (k v nx : Int) (enc root : ByteArray) (a' : Nat) (f' : Bool), e = .returned (recV k enc v root nx) ∧ Hid (NodeR s a k enc v root nx a' f') ∧ a' ≤ s.size ∧ Rd r s a' f' w'' ∧ Mv r w' w'') := fun w' h' => rnodeR r s a w' h' ha hs
  have HCm : Hid (∀ w', Rd r s a false w' → Calls Tryz.prog 51 #[.pointer (some ⟨r, 0, none⟩), .iface 56 (.agg #[])] w' fun e w'' => ∃ (k v nx : Int) (enc root : ByteArray) (a' : Nat) (f' : Bool), e = .returned (recV k enc v root nx) ∧ Hid (CommitR s a k enc v root nx a' f') ∧ a' ≤ s.size ∧ Rd r s a' f' w'' ∧ Mv r w' w'') := fun w' h' => rcommitR r s a w' h' ha hs
  have hlt := h.lt
  obtain ⟨fb, hfb⟩ : ∃ fb, w.heap.size = fb := ⟨_, rfl⟩
  have hb0 : RB fb 0 ⟨#[]⟩ 0 ⟨#[]⟩ 0 (w.alloc (.cells #[.int .i64 0, .string ⟨#[]⟩, .int .i64 0, .string ⟨#[]⟩, .int .i64 0] 36)) := by
    unfold RB; rw [← hfb]; exact heap_alloc_new _ _
  by_cases h83 : mk = 83
  · subst h83
    go_enter Tryz.func36, Tryz.ntmps36
    go_wp2_with fail
    refine (HNd.out _ (h.alloc _)).mono ?_
    rintro e w1 ⟨k, v, nx, enc, root, a', f', rfl, HX, ha', hr1, hm1⟩
    have hb1 : RB fb 0 ⟨#[]⟩ 0 ⟨#[]⟩ 0 w1 := hm1.cells hb0 (by omega)
    obtain ⟨c0, c1, c2, c3, c4, g0, g1, g2, g3, g4⟩ := RB.at hb1
    go_wp2_with fail
    have hF := fin5 hr1 (((Mv.refl r w).alloc _).trans hm1) hfb (Nat.le_refl fb) (by omega)
    exact retRec rfl (RecAt.set5 (RB.at hb1) k enc v root nx) rfl rfl ⟨k, v, nx, enc, root, a', f', rfl, .inl ⟨rfl, HX.out⟩, ha', (hF _ _ _ _ _).1, (hF _ _ _ _ _).2⟩
  have z1 : ((mk : Int) == 83) = false := by rw [beq_eq_false_iff_ne]; omega
  by_cases h67 : mk = 67
  · subst h67
    go_enter Tryz.func36, Tryz.ntmps36
    go_wp2_with fail
    refine (HCm.out _ (h.alloc _)).mono ?_
    rintro e w1 ⟨k, v, nx, enc, root, a', f', rfl, HX, ha', hr1, hm1⟩
    have hb1 : RB fb 0 ⟨#[]⟩ 0 ⟨#[]⟩ 0 w1 := hm1.cells hb0 (by omega)
    obtain ⟨c0, c1, c2, c3, c4, g0, g1, g2, g3, g4⟩ := RB.at hb1
    go_wp2_with fail
    have hF := fin5 hr1 (((Mv.refl r w).alloc _).trans hm1) hfb (Nat.le_refl fb) (by omega)
    exact retRec rfl (RecAt.set5 (RB.at hb1) k enc v root nx) rfl rfl ⟨k, v, nx, enc, root, a', f', rfl, .inr (.inl ⟨rfl, HX.out⟩), ha', (hF _ _ _ _ _).1, (hF _ _ _ _ _).2⟩
  have z2 : ((mk : Int) == 67) = false := by rw [beq_eq_false_iff_ne]; omega
  go_enter Tryz.func36, Tryz.ntmps36
  go_wp2_with fail
  refine (fail_any r s a false _ (h.alloc _)).mono ?_
  rintro e w1 ⟨rfl, hr1, hm1⟩
  have hb1 : RB fb 0 ⟨#[]⟩ 0 ⟨#[]⟩ 0 w1 := hm1.cells hb0 (by omega)
  obtain ⟨c0, c1, c2, c3, c4, g0, g1, g2, g3, g4⟩ := RB.at hb1
  go_wp2_with fail
  have hF := fin5 hr1 (((Mv.refl r w).alloc _).trans hm1) hfb (Nat.le_refl fb) (by omega)
  exact retRec rfl (RecAt.set5 (RB.at hb1) 0 ⟨#[]⟩ 0 ⟨#[]⟩ 0) rfl rfl ⟨0, 0, 0, ⟨#[]⟩, ⟨#[]⟩, a, true, rfl, .inr (.inr ⟨h83, h67, rfl⟩), ha, (hF _ _ _ _ _).1, (hF _ _ _ _ _).2⟩
end Go.Proofs.YtngnbflkiiehmaaGreatDoor
namespace Go.Proofs.YtngnbflkiiehmaaGreatDoor
open Go.RowKit Go.Proofs.Sha

/-- The answer, once the record is taken. -/
theorem take_yes {s : ByteArray} {m a mk : Nat} {k : Int} {enc : ByteArray} {v : Int} {root : ByteArray} {nx : Int} {a' : Nat} (ha : 64 * m = a) (h : TakeR s a mk k enc v root nx a' false) : readPost s (m : Int) (.returned (recV k enc v root ((a' / 64 : Nat) : Int))) := by
  have e : 64 * (m : Int).toNat = a := by omega
  rcases h with ⟨_, h | ⟨g, _⟩⟩ | ⟨_, h | ⟨g, _⟩⟩ | ⟨_, _, g⟩
  · obtain ⟨_, hE, ha', rfl, rfl, rfl, _⟩ := h
    refine .inl ⟨enc, by omega, by rw [e]; exact hE, ?_⟩
    rw [show ((a' / 64 : Nat) : Int) = (m : Int) + (secs enc.size : Int) by omega]
  · cases g
  · obtain ⟨_, hE, ha', rfl, rfl, _⟩ := h
    refine .inr (.inl ⟨v, root, by omega, by rw [e]; exact hE, ?_⟩)
    rw [show ((a' / 64 : Nat) : Int) = (m : Int) + 1 by omega]
  · cases g
  · cases g
theorem take_no {s : ByteArray} {m a mk : Nat} {k : Int} {enc : ByteArray} {v : Int} {root : ByteArray} {nx : Int} {a' : Nat} (ha : 64 * m = a) (hmk : (s.data.toList.getD (a + 63) 0).toNat = mk) (h : TakeR s a mk k enc v root nx a' true) : readPost s (m : Int) (.returned (recV 0 ⟨#[]⟩ 0 ⟨#[]⟩ 0)) := by
  have e : 64 * (m : Int).toNat = a := by omega
  have hn : ∀ enc, IsNode s a enc → mk = 83 := fun enc hE => by rw [← hmk, hE.parts.2.1]; rfl
  have hc : ∀ v root, IsCommit s a v root → mk = 67 := fun v root hE => by rw [← hmk, hE.parts.1]; rfl
  refine .inr (.inr ⟨fun _ => ?_, rfl⟩)
  rw [e]
  rcases h with ⟨h83, ⟨g, _⟩ | ⟨_, h⟩⟩ | ⟨h67, ⟨g, _⟩ | ⟨_, h⟩⟩ | ⟨h1, h2, _⟩
  · cases g
  · exact ⟨h, fun v root hE => by have := hc v root hE; omega⟩
  · cases g
  · exact ⟨fun enc hE => by have := hn enc hE; omega, h⟩
  · exact ⟨fun enc hE => h1 (hn enc hE), fun v root hE => h2 (hc v root hE)⟩
theorem RB.s4 {g : Nat} {k : Int} {enc : ByteArray} {v : Int} {root : ByteArray} {nx : Int} {w : World} (h : RB g k enc v root nx w) (x : Int) : RB g k enc v root x (w.setCell ⟨g, 4, none⟩ (.int .i64 x)) := heap_setCell_same w g 4 _ 36 _ h

set_option maxRecDepth 100000 in
set_option maxHeartbeats 1000000 in
theorem read_impl (s : ByteArray) (n : Int) (w : World) (hs : s.size ≤ 1048576) :
    Calls Tryz.prog 14 #[.string s, .int .i64 n] w fun e w' => readPost s n e ∧ Below w.heap.size w w' := by
  obtain ⟨fb, hfb⟩ : ∃ fb, w.heap.size = fb := ⟨_, rfl⟩
  have hN := RecAt.mk5 w 0 ⟨#[]⟩ 0 ⟨#[]⟩ 0
  have hB1 : Hid (Below w.heap.size w (w.alloc (.cells #[.int .i64 0, .string ⟨#[]⟩, .int .i64 0, .string ⟨#[]⟩, .int .i64 0] 36))) := (Below.refl _ _).alloc (Nat.le_refl _) _
  have hB2 : Hid (Below fb w (w.alloc (.cells #[.int .i64 0, .string ⟨#[]⟩, .int .i64 0, .string ⟨#[]⟩, .int .i64 0] 36))) := (Below.refl _ _).alloc (by omega) _
  by_cases h0 : n < 0 ∨ (s.size : Int) / 64 ≤ n
  · have HN : Hid (0 ≤ n → (∀ enc, ¬ IsNode s (64 * n.toNat) enc) ∧ ∀ v root, ¬ IsCommit s (64 * n.toNat) v root) := fun h0 => by
      have hno : ¬ 64 * n.toNat + 64 ≤ s.size := by omega
      exact ⟨fun enc h => hno h.parts.1, fun v root h => hno h.2.2.2.1⟩
    by_cases h1 : n < 0
    · have z1 : decide (n < 0) = true := by simpa using h1
      go_enter Tryz.func14, Tryz.ntmps14
      go_wp2_with fail
      exact retRec rfl hN (by rw [hfb]; rfl) rfl ⟨.inr (.inr ⟨HN.out, rfl⟩), by first | exact hB1.out | exact hB2.out⟩
    · have z1 : decide (n < 0) = false := by simpa using h1
      have z2 : decide ((s.size : Int) / 64 ≤ n) = true := by simp; omega
      go_enter Tryz.func14, Tryz.ntmps14
      go_wp2_with fail
      exact retRec rfl hN (by rw [hfb]; rfl) rfl ⟨.inr (.inr ⟨HN.out, rfl⟩), by first | exact hB1.out | exact hB2.out⟩
  · obtain ⟨m, rfl⟩ := Int.eq_ofNat_of_zero_le (show 0 ≤ n by omega)
    have hle : 64 * m + 64 ≤ s.size := by omega
    obtain ⟨a, ha⟩ : ∃ a, 64 * m = a := ⟨_, rfl⟩
    have z1 : decide ((m : Int) < 0) = false := by simp
    have z2 : decide ((s.size : Int) / 64 ≤ (m : Int)) = false := by simp; omega
    have z3 : IntKind.i64.wrap ((m : Int) * 64) = (a : Int) := by rw [wrap_i64_in _ (by omega) (by omega)]; omega
    have y1 : IntKind.i64.wrap ((a : Int) + 63) = (a : Int) + 63 := wrap_i64_in _ (by omega) (by omega)
    have y2 : (0 : Int) ≤ (a : Int) + 63 := by omega
    have y3 : (a : Int) + 63 < (s.size : Int) := by omega
    obtain ⟨mk, hmk⟩ : ∃ b, (s.data.toList.getD (a + 63) 0).toNat = b := ⟨_, rfl⟩
    have y4 : ((s[a + 63]'(by omega)).toNat : Int) = (mk : Int) := by rw [bget s (a + 63) (by omega), hmk]
    have y5 : wrap64 (mk : Int) = (mk : Int) := wr64 _ (by omega) (by have := (s.data.toList.getD (a + 63) 0).toNat_lt; omega)
    have HMk : Hid ((s.data.toList.getD (a + 63) 0).toNat = mk) := hmk
    have HA : Hid (64 * m = a) := ha
    have hle2 : a ≤ s.size := by omega
    clear h0 hN hB1 hB2
    obtain ⟨w0, hw0⟩ : ∃ w0, w0 = (w.alloc (.cells #[.int .i64 0, .string ⟨#[]⟩, .int .i64 0, .string ⟨#[]⟩, .int .i64 0] 36)).alloc (.cells #[.string s, .int .i64 (a : Int), .bool false] 61) := ⟨_, rfl⟩
    have hr0 : Rd (fb + 1) s a false w0 := by
      rw [hw0]; unfold Rd; rw [show fb + 1 = (w.alloc (.cells #[.int .i64 0, .string ⟨#[]⟩, .int .i64 0, .string ⟨#[]⟩, .int .i64 0] 36)).heap.size by simp [hfb]]; exact heap_alloc_new _ _
    have hn0 : RB fb 0 ⟨#[]⟩ 0 ⟨#[]⟩ 0 w0 := by
      rw [hw0]; exact below_cells ((Below.refl _ _).alloc (Nat.le_refl _) _) (by rw [← hfb]; exact heap_alloc_new _ _)
    have hb0 : Below fb w w0 := by rw [hw0]; exact ((Below.refl _ _).alloc (by omega) _).alloc (by simp; omega) _
    have hs0 : w0.heap.size = fb + 2 := by rw [hw0]; simp [hfb]
    go_enter Tryz.func14, Tryz.ntmps14
    go_wp2_with fail
    rw [← hw0]
    clear hw0 hmk ha y4
    refine (takeRec_any mk (fb + 1) s a _ hr0 hle2 hs).mono ?_
    rintro e w1 ⟨k, v, nx, enc, root, a', f', rfl, HT, ha', hr1, hm1⟩
    have hn1 : RB fb 0 ⟨#[]⟩ 0 ⟨#[]⟩ 0 w1 := hm1.cells hn0 (by omega)
    have hb1 : Below fb w w1 := hb0.trans (hm1.to_below (by omega) (by omega))
    have hz1 := hm1.size
    obtain ⟨gg, hgg⟩ : ∃ gg, w1.heap.size = gg := ⟨_, rfl⟩
    have A1 : ∀ o, Rd (fb + 1) s a' f' (w1.alloc o) := fun o => hr1.alloc o
    have B1 : ∀ o, RB fb 0 ⟨#[]⟩ 0 ⟨#[]⟩ 0 (w1.alloc o) := fun o => below_cells ((Below.refl _ _).alloc (Nat.le_refl _) _) hn1
    have e1 : ∀ o, (w1.alloc o).cell? ⟨fb + 1, 1, none⟩ = some (.int .i64 (a' : Int)) := fun o => Lib.cell_of_heap (A1 o) 1
    have e2 : ∀ o, (w1.alloc o).cell? ⟨fb + 1, 2, none⟩ = some (.bool f') := fun o => Lib.cell_of_heap (A1 o) 2
    have b0 : ∀ o, (w1.alloc o).cell? ⟨fb, 0, none⟩ = some (.int .i64 0) := fun o => Lib.cell_of_heap (B1 o) 0
    have d0 : ∀ o, (w1.alloc o).frozen? ⟨fb, 0, none⟩ = false := fun o => frozen_of_heap (B1 o)
    have b1 : ∀ o, (w1.alloc o).cell? ⟨fb, 1, none⟩ = some (.string ⟨#[]⟩) := fun o => Lib.cell_of_heap (B1 o) 1
    have d1 : ∀ o, (w1.alloc o).frozen? ⟨fb, 1, none⟩ = false := fun o => frozen_of_heap (B1 o)
    have b2 : ∀ o, (w1.alloc o).cell? ⟨fb, 2, none⟩ = some (.int .i64 0) := fun o => Lib.cell_of_heap (B1 o) 2
    have d2 : ∀ o, (w1.alloc o).frozen? ⟨fb, 2, none⟩ = false := fun o => frozen_of_heap (B1 o)
    have b3 : ∀ o, (w1.alloc o).cell? ⟨fb, 3, none⟩ = some (.string ⟨#[]⟩) := fun o => Lib.cell_of_heap (B1 o) 3
    have d3 : ∀ o, (w1.alloc o).frozen? ⟨fb, 3, none⟩ = false := fun o => frozen_of_heap (B1 o)
    have b4 : ∀ o, (w1.alloc o).cell? ⟨fb, 4, none⟩ = some (.int .i64 0) := fun o => Lib.cell_of_heap (B1 o) 4
    have d4 : ∀ o, (w1.alloc o).frozen? ⟨fb, 4, none⟩ = false := fun o => frozen_of_heap (B1 o)
    have HB1 : Hid (∀ o, RB fb 0 ⟨#[]⟩ 0 ⟨#[]⟩ 0 (w1.alloc o)) := B1
    have HBl : Hid (∀ o, Below fb w (w1.alloc o)) := fun o => hb1.alloc (by omega) o
    have hgf : fb + 1 < gg := by omega
    have x1 : IntKind.i64.wrap ((a' : Int) / 64) = ((a' / 64 : Nat) : Int) := by rw [wrap_i64_in _ (by omega) (by omega)]; omega
    have x2 : (a' : Int) / 64 = ((a' / 64 : Nat) : Int) := by omega
    have x3 : Int.tdiv (a' : Int) 64 = ((a' / 64 : Nat) : Int) := by rw [Int.tdiv_eq_ediv_of_nonneg (by omega)]; omega
    clear hr0 hn0 hb0 hs0 hm1 hr1 hn1 hb1 hz1 A1 B1
    cases f'
    · obtain ⟨q, hq⟩ : ∃ q, a' / 64 = q := ⟨_, rfl⟩
      rw [hq] at x1 x2 x3
      have HPost : Hid (readPost s (m : Int) (.returned (recV k enc v root (q : Int)))) := by rw [← hq]; exact take_yes HA.out HT.out
      clear hq HT HA HMk
      go_wp2_with fail
      exact retRec rfl (RecAt.set5 (RB.at (HB1.out _)) k enc v root (q : Int)) rfl rfl ⟨HPost.out, by rw [hfb]; exact below5 (HBl.out _) (Nat.le_refl _) _ _ _ _ _⟩
    · have HPost : Hid (readPost s (m : Int) (.returned (recV 0 ⟨#[]⟩ 0 ⟨#[]⟩ 0))) := take_no HA.out HMk.out HT.out
      clear HT HA HMk
      go_wp2_with fail
      exact retRec rfl (RecAt.set5 (RB.at (HB1.out _)) 0 ⟨#[]⟩ 0 ⟨#[]⟩ 0) rfl rfl ⟨HPost.out, by rw [hfb]; exact below5 (HBl.out _) (Nat.le_refl _) _ _ _ _ _⟩
end Go.Proofs.YtngnbflkiiehmaaGreatDoor
namespace Go.Proofs.YtngnbflkiiehmaaGreatDoor
open Go.RowKit Go.Proofs.Sha

theorem nodeRec_size {enc : ByteArray} (h1 : 1 ≤ enc.size) (h2 : enc.size ≤ 4000) : (nodeRec enc).size = 64 * secs enc.size := by
  rw [nodeRec, if_pos ⟨h1, h2⟩, T_size, marked, secs_eq, markedTo_len1]
theorem commitRec_size {v : Int} {root : ByteArray} (h1 : 1 ≤ v) (h2 : v ≤ 1000000) (h3 : root.size ≤ 32) : (commitRec v root).size = 64 := by
  rw [commit_text h1 h2 h3, T_size, markedTo, markedTo, List.nil_append, if_pos rfl, List.length_append, part63_length]; rfl
theorem mid_extract (a b c : ByteArray) : (a ++ b ++ c).extract a.size (a.size + b.size) = b := by
  conv => lhs; rw [← T_of a, ← T_of b, ← T_of c, T_append, T_append, T_extract, T_size, T_size, Nat.add_sub_cancel_left, List.append_assoc, List.drop_left, List.take_left]
  exact T_of b
theorem front_extract (b c : ByteArray) : (b ++ c).extract 0 b.size = b := by
  conv => lhs; rw [← T_of b, ← T_of c, T_append, T_extract, T_size, Nat.sub_zero, List.drop_zero, List.take_left]
  exact T_of b
/-- A commit's record at the front. -/
theorem commit_front {v : Int} {root x : ByteArray} (h1 : 1 ≤ v) (h2 : v ≤ 1000000) (h3 : root.size ≤ 32) : IsCommit (commitRec v root ++ x) 0 v root := by
  have hz := commitRec_size h1 h2 h3
  refine ⟨h1, h2, h3, by rw [ByteArray.size_append, hz]; omega, ?_⟩
  have := front_extract (commitRec v root) x
  rw [hz] at this
  exact this
/-- A node's record behind one sector. -/
theorem node_behind {h enc x : ByteArray} (hh : h.size = 64) (h1 : 1 ≤ enc.size) (h2 : enc.size ≤ 4000) : IsNode (h ++ nodeRec enc ++ x) 64 enc := by
  have hz := nodeRec_size h1 h2
  refine ⟨h1, h2, by rw [ByteArray.size_append, ByteArray.size_append, hz, hh]; omega, ?_⟩
  have := mid_extract h (nodeRec enc) x
  rw [hh, hz] at this
  exact this

/-- A text with one byte changed. -/
theorem spoil_getD (s : ByteArray) (p : Nat) (c : UInt8) (hp : p < s.size) (j : Nat) :
    (s.extract 0 p ++ ⟨#[c]⟩ ++ s.extract (p + 1) s.size).data.toList.getD j 0 = if j = p then c else s.data.toList.getD j 0 := by
  have hl : s.data.toList.length = s.size := rfl
  have e : (s.extract 0 p ++ ⟨#[c]⟩ ++ s.extract (p + 1) s.size).data.toList = s.data.toList.take p ++ ([c] ++ s.data.toList.drop (p + 1)) := by
    conv => lhs; rw [← T_of s, show (⟨#[c]⟩ : ByteArray) = T [c] from rfl, T_extract, T_extract, T_append, T_append, T_data, Nat.sub_zero, List.drop_zero, List.append_assoc, List.take_of_length_le (l := List.drop (p + 1) s.data.toList) (by rw [List.length_drop, T_size]; exact Nat.le_refl _)]
  rw [e, List.getD_eq_getElem?_getD, List.getD_eq_getElem?_getD]
  have ht : (s.data.toList.take p).length = p := by rw [List.length_take]; omega
  by_cases h1 : j < p
  · rw [if_neg (by omega), List.getElem?_append_left (by omega), List.getElem?_take_of_lt h1]
  · rw [List.getElem?_append_right (by omega), ht]
    by_cases h2 : j = p
    · subst h2; rw [if_pos rfl, Nat.sub_self]; rfl
    · rw [if_neg h2, List.getElem?_append_right (by show 1 ≤ j - p; omega), List.getElem?_drop]
      congr 2
      show p + 1 + (j - p - 1) = j
      omega
theorem IsNode.marks {s : ByteArray} {a : Nat} {enc : ByteArray} (h : IsNode s a enc) (j : Nat) (hj : j < secs enc.size) : s.data.toList.getD (a + (64 * j + 63)) 0 = if j = 0 then 83 else 77 := by
  rw [sub_getD h.text (64 * j + 63) (by omega), marked_marks _ _ _ _ _ hj]
/-- With one of its sectors' last bytes set to zero it is no record. -/
theorem node_spoilt {s : ByteArray} {a : Nat} {enc : ByteArray} (h : IsNode s a enc) (j : Nat) (hj : j < secs enc.size) (s' : ByteArray) (hs : ∀ i, s'.data.toList.getD i 0 = if i = a + (64 * j + 63) then 0 else s.data.toList.getD i 0) :
    (∀ enc', ¬ IsNode s' a enc') ∧ ∀ v root, ¬ IsCommit s' a v root := by
  have m0 := h.marks 0 (by omega)
  rw [if_pos rfl] at m0
  have hne : ¬ s'.data.toList.getD (a + 63) 0 = 67 := by
    rw [hs]
    split
    · decide
    · have : s.data.toList.getD (a + 63) 0 = 83 := m0
      rw [this]; decide
  refine ⟨fun enc' h' => ?_, fun v root h' => hne h'.parts.1⟩
  by_cases hj0 : j = 0
  · have := h'.parts.2.1
    rw [hs, if_pos (by omega)] at this
    exact absurd this (by decide)
  · have hn : numAt s' a = numAt s a := by
      unfold numAt
      rw [hs a, hs (a + 1), hs (a + 2), hs (a + 3), if_neg (by omega), if_neg (by omega), if_neg (by omega), if_neg (by omega)]
    have e : enc'.size = enc.size := by rw [← h'.parts.2.2.1, ← h.parts.2.2.1, hn]
    have hm := h'.marks j (by rw [e]; exact hj)
    rw [hs, if_pos rfl, if_neg hj0] at hm
    exact absurd hm (by decide)
end Go.Proofs.YtngnbflkiiehmaaGreatDoor
namespace Go.Proofs.YtngnbflkiiehmaaGreatDoor
open Go.RowKit Go.Proofs.Sha

theorem IsNode.one {s : ByteArray} {a : Nat} {enc enc' : ByteArray} (h : IsNode s a enc) (h' : IsNode s a enc') : enc = enc' := h.parts.2.2.2.symm.trans h'.parts.2.2.2
theorem IsCommit.one {s : ByteArray} {a : Nat} {v v' : Int} {root root' : ByteArray} (h : IsCommit s a v root) (h' : IsCommit s a v' root') : v = v' ∧ root = root' := by
  have p := h.parts
  have p' := h'.parts
  refine ⟨p.2.1.symm.trans p'.2.1, ?_⟩
  have e : root.size = root'.size := p.2.2.1.symm.trans p'.2.2.1
  rw [← p.2.2.2, ← p'.2.2.2, e]
theorem IsNode.not {s : ByteArray} {a : Nat} {enc : ByteArray} {v : Int} {root : ByteArray} (h : IsNode s a enc) (h' : IsCommit s a v root) : False := by
  have p := h.parts.2.1
  rw [h'.parts.1] at p
  exact absurd p (by decide)
/-- One answer at most. -/
theorem readPost.one {s : ByteArray} {n : Int} {e e' : Ending} (h : readPost s n e) (h' : readPost s n e') : e = e' := by
  rcases h with ⟨enc, h0, hE, rfl⟩ | ⟨v, root, h0, hE, rfl⟩ | ⟨hN, rfl⟩ <;> rcases h' with ⟨enc', h0', hE', rfl⟩ | ⟨v', root', h0', hE', rfl⟩ | ⟨hN', rfl⟩
  · rw [hE.one hE']
  · exact (hE.not hE').elim
  · exact absurd hE ((hN' h0).1 _)
  · exact (hE'.not hE).elim
  · obtain ⟨rfl, rfl⟩ := hE.one hE'
    rfl
  · exact absurd hE ((hN' h0).2 _ _)
  · exact absurd hE' ((hN h0').1 _)
  · exact absurd hE' ((hN h0').2 _ _)
  · rfl

end Go.Proofs.YtngnbflkiiehmaaGreatDoor
