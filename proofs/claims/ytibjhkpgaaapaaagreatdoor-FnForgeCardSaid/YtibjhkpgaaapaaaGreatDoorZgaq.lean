import Derived.Test.YtibjhkpgaaapaaaGreatDoorZgap
import Derived.Test.YtibjhkpgaaapaaaGreatDoorZgaj
import Derived.Test.YtibjhkpgaaapaaaGreatDoorZgal
import Derived.Test.YtibjhkpgaaapaaaGreatDoorZgab
import Derived.Deep.Cut
import Derived.Deep.RegionHeld3
import Derived.Lib.Builder
import Derived.Deep.QuietTactic
import Derived.BigQuiet
import Derived.Test.YtibjhkpgaaapaaaGreatDoorZgah
set_option maxRecDepth 100000
set_option maxHeartbeats 1000000
namespace Go.Proofs.YtibjhkpgaaapaaaGreatDoor
open Go.RowKit Go.Proofs.Sha

theorem ret24 {w : World} {g : Nat} {k v l r : ByteArray} (h : NB g k v l r w) {a : Act} {R : Ending → World → Prop} (b : Bool) (h4 : a.tmps.getD 4 undef = .pointer (some ⟨g, 0, none⟩)) (h5 : a.tmps.getD 5 undef = .bool b) (hd : a.defers = [])
    (hR : R (.returned (.tuple #[nodeV k v l r, .bool b])) w) : bodyPost Tryz.prog Tryz.f203 R .ret a w := by
  have c0 : w.cell? ⟨g, 0, none⟩ = some (.string k) := Lib.cell_of_heap h 0
  have c1 : w.cell? ⟨g, 1, none⟩ = some (.string v) := Lib.cell_of_heap h 1
  have c2 : w.cell? ⟨g, 2, none⟩ = some (.string l) := Lib.cell_of_heap h 2
  have c3 : w.cell? ⟨g, 3, none⟩ = some (.string r) := Lib.cell_of_heap h 3
  have h4' : a.tmps[4]?.getD undef = .pointer (some ⟨g, 0, none⟩) := by simpa using h4
  have h5' : a.tmps[5]?.getD undef = .bool b := by simpa using h5
  exact bodyPost_ret (v := .tuple #[nodeV k v l r, .bool b]) (by simp [results, Tryz.results203, go_sem, h4', h5', asAddr, c0, c1, c2, c3]) hd hR
/-- What readWhole of a node answers. -/
def wholeV (s : ByteArray) (k v l x : ByteArray) (a' : Nat) (f' : Bool) : Value := if f' = false ∧ a' = s.size then .tuple #[nodeV k v l x, .bool true] else .tuple #[nodeV ⟨#[]⟩ ⟨#[]⟩ ⟨#[]⟩ ⟨#[]⟩, .bool false]

theorem whole_node (n : Nat) (s : ByteArray) (w : World) (hs : s.size ≤ 1048576) (hn : n ≤ 32) :
    Calls Tryz.prog 203 #[.string s, .iface 285 (.agg #[.int .i64 (n : Int)])] w fun e w' => ∃ (k v l x : ByteArray) (a' : Nat) (f' : Bool), e = .returned (wholeV s k v l x a' f') ∧ Hid (NR n s 0 false k v l x a' f') ∧ a' ≤ s.size ∧ Below w.heap.size w w' := by
  obtain ⟨fb, hfb⟩ : ∃ fb, w.heap.size = fb := ⟨_, rfl⟩
  obtain ⟨w0, hw0⟩ : ∃ w0, w0 = (w.alloc (.cells #[.string ⟨#[]⟩, .string ⟨#[]⟩, .string ⟨#[]⟩, .string ⟨#[]⟩] 73)).alloc (.cells #[.string s, .int .i64 0, .bool false] 138) := ⟨_, rfl⟩
  have hr0 : Rd (fb + 1) s 0 false w0 := by
    rw [hw0]; unfold Rd; rw [show fb + 1 = (w.alloc (.cells #[.string ⟨#[]⟩, .string ⟨#[]⟩, .string ⟨#[]⟩, .string ⟨#[]⟩] 73)).heap.size by simp [hfb]]; exact heap_alloc_new _ _
  have hn0 : NB fb ⟨#[]⟩ ⟨#[]⟩ ⟨#[]⟩ ⟨#[]⟩ w0 := by
    rw [hw0]; exact below_cells ((Below.refl _ _).alloc (Nat.le_refl _) _) (by rw [← hfb]; exact heap_alloc_new _ _)
  have hb0 : Below fb w w0 := by rw [hw0]; exact ((Below.refl _ _).alloc (by omega) _).alloc (by simp; omega) _
  have hs0 : w0.heap.size = fb + 2 := by rw [hw0]; simp [hfb]
  go_enter Tryz.func203, Tryz.ntmps203
  go_wp2_with fail
  rw [← hw0]
  clear hw0
  refine (rnode n (fb + 1) s 0 false _ hr0 (by omega) hs hn).mono ?_
  rintro e w1 ⟨k, v, l, x, a', f', he, HNR, ha', hr1, hm1⟩
  have hn1 : NB fb ⟨#[]⟩ ⟨#[]⟩ ⟨#[]⟩ ⟨#[]⟩ w1 := hm1.cells hn0 (by omega)
  have hb1 : Below fb w w1 := hb0.trans (hm1.to_below (by omega) (by omega))
  have A1 : ∀ o, (w1.alloc o).heap[fb + 1]? = some (.cells #[.string s, .int .i64 (a' : Int), .bool f'] 138) := fun o => hr1.alloc o
  have B1 : ∀ o, NB fb ⟨#[]⟩ ⟨#[]⟩ ⟨#[]⟩ ⟨#[]⟩ (w1.alloc o) := fun o => below_cells ((Below.refl _ _).alloc (Nat.le_refl _) _) hn1
  have B2 : ∀ o o', NB fb ⟨#[]⟩ ⟨#[]⟩ ⟨#[]⟩ ⟨#[]⟩ ((w1.alloc o).alloc o') := fun o o' => below_cells ((Below.refl _ _).alloc (Nat.le_refl _) _) (B1 o)
  have e1 : ∀ o, (w1.alloc o).cell? ⟨fb + 1, 1, none⟩ = some (.int .i64 (a' : Int)) := fun o => Lib.cell_of_heap (A1 o) 1
  have e2 : ∀ o, (w1.alloc o).cell? ⟨fb + 1, 2, none⟩ = some (.bool f') := fun o => Lib.cell_of_heap (A1 o) 2
  have b0 : ∀ o, (w1.alloc o).cell? ⟨fb, 0, none⟩ = some (.string ⟨#[]⟩) := fun o => Lib.cell_of_heap (B1 o) 0
  have d0 : ∀ o, (w1.alloc o).frozen? ⟨fb, 0, none⟩ = false := fun o => frozen_of_heap (B1 o)
  have p0 : ∀ o o', ((w1.alloc o).alloc o').cell? ⟨fb, 0, none⟩ = some (.string ⟨#[]⟩) := fun o o' => Lib.cell_of_heap (B2 o o') 0
  have q0 : ∀ o o', ((w1.alloc o).alloc o').frozen? ⟨fb, 0, none⟩ = false := fun o o' => frozen_of_heap (B2 o o')
  have b1 : ∀ o, (w1.alloc o).cell? ⟨fb, 1, none⟩ = some (.string ⟨#[]⟩) := fun o => Lib.cell_of_heap (B1 o) 1
  have d1 : ∀ o, (w1.alloc o).frozen? ⟨fb, 1, none⟩ = false := fun o => frozen_of_heap (B1 o)
  have p1 : ∀ o o', ((w1.alloc o).alloc o').cell? ⟨fb, 1, none⟩ = some (.string ⟨#[]⟩) := fun o o' => Lib.cell_of_heap (B2 o o') 1
  have q1 : ∀ o o', ((w1.alloc o).alloc o').frozen? ⟨fb, 1, none⟩ = false := fun o o' => frozen_of_heap (B2 o o')
  have b2 : ∀ o, (w1.alloc o).cell? ⟨fb, 2, none⟩ = some (.string ⟨#[]⟩) := fun o => Lib.cell_of_heap (B1 o) 2
  have d2 : ∀ o, (w1.alloc o).frozen? ⟨fb, 2, none⟩ = false := fun o => frozen_of_heap (B1 o)
  have p2 : ∀ o o', ((w1.alloc o).alloc o').cell? ⟨fb, 2, none⟩ = some (.string ⟨#[]⟩) := fun o o' => Lib.cell_of_heap (B2 o o') 2
  have q2 : ∀ o o', ((w1.alloc o).alloc o').frozen? ⟨fb, 2, none⟩ = false := fun o o' => frozen_of_heap (B2 o o')
  have b3 : ∀ o, (w1.alloc o).cell? ⟨fb, 3, none⟩ = some (.string ⟨#[]⟩) := fun o => Lib.cell_of_heap (B1 o) 3
  have d3 : ∀ o, (w1.alloc o).frozen? ⟨fb, 3, none⟩ = false := fun o => frozen_of_heap (B1 o)
  have p3 : ∀ o o', ((w1.alloc o).alloc o').cell? ⟨fb, 3, none⟩ = some (.string ⟨#[]⟩) := fun o o' => Lib.cell_of_heap (B2 o o') 3
  have q3 : ∀ o o', ((w1.alloc o).alloc o').frozen? ⟨fb, 3, none⟩ = false := fun o o' => frozen_of_heap (B2 o o')
  have HB1 : Hid (∀ o, NB fb ⟨#[]⟩ ⟨#[]⟩ ⟨#[]⟩ ⟨#[]⟩ (w1.alloc o)) := B1
  have HB2 : Hid (∀ o o', NB fb ⟨#[]⟩ ⟨#[]⟩ ⟨#[]⟩ ⟨#[]⟩ ((w1.alloc o).alloc o')) := B2
  have hsz1 : fb ≤ w1.heap.size := by have := hm1.size; omega
  clear A1 B1 B2 hn1 hm1 hr1 hr0 hn0 hb0 hs0
  have HBl1 : Hid (∀ o (x0 x1 x2 x3 : Value), Below w.heap.size w (((((w1.alloc o).setCell ⟨fb, 0, none⟩ x0).setCell ⟨fb, 1, none⟩ x1).setCell ⟨fb, 2, none⟩ x2).setCell ⟨fb, 3, none⟩ x3)) := fun o x0 x1 x2 x3 => by
    rw [hfb]; exact (((((hb1.alloc hsz1 o).setCell (Nat.le_refl _) _).setCell (Nat.le_refl _) _).setCell (Nat.le_refl _) _).setCell (Nat.le_refl _) _)
  have HBl2 : Hid (∀ o o' (x0 x1 x2 x3 : Value), Below w.heap.size w ((((((w1.alloc o).alloc o').setCell ⟨fb, 0, none⟩ x0).setCell ⟨fb, 1, none⟩ x1).setCell ⟨fb, 2, none⟩ x2).setCell ⟨fb, 3, none⟩ x3)) := fun o o' x0 x1 x2 x3 => by
    rw [hfb]; exact ((((((hb1.alloc hsz1 o).alloc (by simp; omega) o').setCell (Nat.le_refl _) _).setCell (Nat.le_refl _) _).setCell (Nat.le_refl _) _).setCell (Nat.le_refl _) _)
  clear hb1 hsz1
  cases f'
  · rw [if_neg (by simp)] at he
    subst he
    by_cases hlt : a' < s.size
    · have z1 : decide ((a' : Int) < (s.size : Int)) = true := by simp; omega
      go_wp2_with fail
      refine ret24 ((((HB2.out _ _).s0 _).s1 _).s2 _ |>.s3 _) false rfl rfl rfl ⟨k, v, l, x, a', false, ?_, HNR, ha', HBl2.out _ _ _ _ _ _⟩
      unfold wholeV; rw [if_neg (by omega)]
    · have z1 : decide ((a' : Int) < (s.size : Int)) = false := by simp; omega
      go_wp2_with fail
      refine ret24 ((((HB1.out _).s0 _).s1 _).s2 _ |>.s3 _) true rfl rfl rfl ⟨k, v, l, x, a', false, ?_, HNR, ha', HBl1.out _ _ _ _ _⟩
      unfold wholeV; rw [if_pos ⟨rfl, by omega⟩]
  · rw [if_pos rfl] at he
    subst he
    go_wp2_with fail
    refine ret24 ((((HB2.out _ _).s0 _).s1 _).s2 _ |>.s3 _) false rfl rfl rfl ⟨k, v, l, x, a', true, ?_, HNR, ha', HBl2.out _ _ _ _ _ _⟩
    unfold wholeV; rw [if_neg (by simp)]
theorem ex_list (s : ByteArray) (a n : Nat) : (s.extract a (a + n)).data.toList = (s.data.toList.drop a).take n := by
  conv => lhs; rw [← T_of s, T_extract]
  rw [T_data, Nat.add_sub_cancel_left]
theorem ex_size (s : ByteArray) (a n : Nat) (h : a + n ≤ s.size) : (s.extract a (a + n)).size = n := by
  rw [ByteArray.size_extract]; omega
theorem byteAt_ex (s : ByteArray) (a n i : Nat) (hi : i < n) : byteAt (s.extract a (a + n)) i = (s.data.toList.getD (a + i) 0).toNat := by
  unfold byteAt
  rw [ex_list, List.getD_eq_getElem?_getD, List.getD_eq_getElem?_getD, List.getElem?_take_of_lt hi, List.getElem?_drop]
theorem or_add (x y k : Nat) (h : y < 2 ^ k) : x * 2 ^ k ||| y = x * 2 ^ k + y := by
  rw [Nat.mul_comm, ← Nat.two_pow_add_eq_or_of_lt h]
theorem val1 (b : Nat → Nat) : valTo 1 false b 1 = b 0 := by simp [valTo]
theorem val2 (b : Nat → Nat) (hb : ∀ i, b i < 256) : valTo 2 false b 2 = b 0 * 256 + b 1 := by
  have e : valTo 2 false b 2 = b 0 * 2 ^ 8 ||| b 1 := by simp [valTo]
  rw [e, or_add _ _ 8 (hb 1)]
theorem SX2 {s : ByteArray} {a : Nat} {f : Bool} {t : ByteArray} {a' : Nat} {f' : Bool} (h : SX 2 false s a f t a' f') :
    (f = false ∧ pieceOk s a ∧ t = s.extract (a + 2) (a + 2 + szAt s a) ∧ a' = a + 2 + szAt s a ∧ f' = false) ∨ ((f = true ∨ ¬ pieceOk s a) ∧ f' = true) := by
  obtain ⟨t1, a1, f1, h1, h2⟩ := h
  rcases h1 with ⟨hf, hle, ht1, ha1, hf1⟩ | ⟨hf, ht1, ha1, hf1⟩
  · have hv : valTo 2 false (byteAt t1) t1.size = szAt s a := by
      rw [ht1, ex_size s a 2 hle, val2 _ (byteAt_lt _), byteAt_ex s a 2 0 (by omega), byteAt_ex s a 2 1 (by omega)]
      rfl
    rw [hv] at h2
    rcases h2 with ⟨_, hle2, ht, ha', hf'⟩ | ⟨hf2, _, _, hf'⟩
    · subst ha1
      exact .inl ⟨hf, ⟨hle, hle2⟩, ht, ha', hf'⟩
    · subst ha1
      refine .inr ⟨.inr fun hp => ?_, hf'⟩
      rcases hf2 with h | h
      · rw [hf1] at h; cases h
      · exact h hp.2
  · rcases h2 with ⟨hf2, _⟩ | ⟨_, _, _, hf'⟩
    · rw [hf1] at hf2; cases hf2
    · refine .inr ⟨?_, hf'⟩
      rcases hf with h | h
      · exact .inl h
      · exact .inr fun hp => h hp.1
theorem NX1 {s : ByteArray} {a : Nat} {f : Bool} {t : ByteArray} {a' : Nat} {f' : Bool} (h : NX s a f 1 t a' f') :
    (f = false ∧ a + 1 ≤ s.size ∧ valTo 1 false (byteAt t) t.size = (s.data.toList.getD a 0).toNat ∧ a' = a + 1 ∧ f' = false) ∨ ((f = true ∨ ¬ a + 1 ≤ s.size) ∧ f' = true) := by
  rcases h with ⟨hf, hle, ht, ha', hf'⟩ | ⟨hf, _, _, hf'⟩
  · refine .inl ⟨hf, hle, ?_, ha', hf'⟩
    rw [ht, ex_size s a 1 hle, val1, byteAt_ex s a 1 0 (by omega)]
    rfl
  · exact .inr ⟨hf, hf'⟩

/-- Where every step goes through. -/
theorem NR.ok {n : Nat} {s k v l x : ByteArray} {a' : Nat} (h : NR n s 0 false k v l x a' false) :
    ∃ a1 a2 fl, pieceOk s 0 ∧ k = s.extract (0 + 2) (0 + 2 + szAt s 0) ∧ a1 = 0 + 2 + szAt s 0 ∧ pieceOk s a1 ∧ v = s.extract (a1 + 2) (a1 + 2 + szAt s a1) ∧ a2 = a1 + 2 + szAt s a1 ∧ a2 + 1 ≤ s.size ∧ fl = (s.data.toList.getD a2 0).toNat ∧
      a2 + 1 + (if fl &&& 1 = 0 then 0 else n) + (if fl &&& 2 = 0 then 0 else n) ≤ s.size ∧ l = s.extract (a2 + 1) (a2 + 1 + (if fl &&& 1 = 0 then 0 else n)) ∧
      x = s.extract (a2 + 1 + (if fl &&& 1 = 0 then 0 else n)) (a2 + 1 + (if fl &&& 1 = 0 then 0 else n) + (if fl &&& 2 = 0 then 0 else n)) ∧ a' = a2 + 1 + (if fl &&& 1 = 0 then 0 else n) + (if fl &&& 2 = 0 then 0 else n) ∧ fl ≤ 3 ∧ nodeOk k.size v.size l.size x.size (n : Int) = true := by
  obtain ⟨a1, f1, a2, f2, fl, t3, a3, f3, a4, f4, f5, h1, h2, h3, hfl, h4, h5, hf⟩ := h
  have hf5 : f5 = false ∧ ¬ 3 < fl ∧ nodeOk k.size v.size l.size x.size (n : Int) = true := by
    cases f5
    · simp at hf; exact ⟨rfl, by omega, hf.2⟩
    · simp at hf
  rcases h5 with ⟨g4, hle5, hx, ha', _⟩ | ⟨_, _, _, g⟩
  rotate_left
  · rw [hf5.1] at g; cases g
  rcases h4 with ⟨g3, hle4, hl, ha4, _⟩ | ⟨_, _, _, g⟩
  rotate_left
  · rw [g4] at g; cases g
  rcases NX1 h3 with ⟨g2, hle3, hv3, ha3, _⟩ | ⟨_, g⟩
  rotate_left
  · rw [g3] at g; cases g
  rcases SX2 h2 with ⟨g1, hp2, hv, ha2, _⟩ | ⟨_, g⟩
  rotate_left
  · rw [g2] at g; cases g
  rcases SX2 h1 with ⟨_, hp1, hk, ha1, _⟩ | ⟨_, g⟩
  rotate_left
  · rw [g1] at g; cases g
  subst ha4 ha3
  exact ⟨a1, a2, fl, hp1, hk, ha1, hp2, hv, ha2, hle3, by rw [hfl, hv3], hle5, hl, hx, ha', by omega, hf5.2.2⟩
abbrev FN := (ByteArray × ByteArray × ByteArray × ByteArray) × Int
/-- What a look-up may answer. -/
structure FndOk (wd : Nat) (fnd : ByteArray → FN) : Prop where
  code : ∀ h, (fnd h).2 = 0 ∨ (fnd h).2 = 2 ∨ (fnd h).2 = 3
  node : ∀ h, (fnd h).2 = 0 → okKey (fnd h).1.1 = true ∧ okVal (fnd h).1.2.1 = true ∧ ((fnd h).1.2.2.1.size = 0 ∨ (fnd h).1.2.2.1.size = wd) ∧ ((fnd h).1.2.2.2.size = 0 ∨ (fnd h).1.2.2.2.size = wd)
def lessB (a b : ByteArray) : Bool := Op.bytesLess a.toList b.toList
def emp (a : ByteArray) : Bool := decide (a.size = 0)
/-- A subtree between two keys can have a key within the bounds. -/
def canW (over under lo hi : ByteArray) : Bool := (emp hi || (lessB lo hi && lessB over hi)) && (emp under || lessB lo under)
/-- A key stands between two keys. -/
def insW (over under k : ByteArray) : Bool := lessB over k && (emp under || lessB k under)
/-- A key is within the bounds. -/
def hasW (lo hi k : ByteArray) : Bool := !lessB k lo && (emp hi || lessB k hi)
/-- One key stands above another, by the order 'hi'; none is above where there is no first one. -/
def parW (hg : ByteArray → ByteArray → Bool) (par k : ByteArray) : Bool := emp par || hg par k
/-- A walk over a subtree: the code, how many nodes, the pairs. -/
def goF (fnd : ByteArray → FN) (hg : ByteArray → ByteArray → Bool) (lo hi : ByteArray) : Nat → ByteArray → ByteArray → ByteArray → ByteArray → Nat → Int × Nat × List PairT
  | 0, _, _, _, _, _ => (9, 0, [])
  | f + 1, hash, over, under, par, cnt =>
    if (emp hash || !canW over under lo hi) = true then (0, cnt, []) else
    if (fnd hash).2 = 2 then (2, 0, []) else
    if (fnd hash).2 ≠ 0 then (3, 0, []) else
    if (insW over under (fnd hash).1.1 && parW hg par (fnd hash).1.1) = false then (3, 0, []) else
    if 500 < cnt + 1 then (6, 0, []) else
    if (goF fnd hg lo hi f (fnd hash).1.2.2.1 over (fnd hash).1.1 (fnd hash).1.1 (cnt + 1)).1 ≠ 0 then ((goF fnd hg lo hi f (fnd hash).1.2.2.1 over (fnd hash).1.1 (fnd hash).1.1 (cnt + 1)).1, 0, []) else
    if (goF fnd hg lo hi f (fnd hash).1.2.2.2 (fnd hash).1.1 under (fnd hash).1.1 (goF fnd hg lo hi f (fnd hash).1.2.2.1 over (fnd hash).1.1 (fnd hash).1.1 (cnt + 1)).2.1).1 ≠ 0 then ((goF fnd hg lo hi f (fnd hash).1.2.2.2 (fnd hash).1.1 under (fnd hash).1.1 (goF fnd hg lo hi f (fnd hash).1.2.2.1 over (fnd hash).1.1 (fnd hash).1.1 (cnt + 1)).2.1).1, 0, []) else
    (0, (goF fnd hg lo hi f (fnd hash).1.2.2.2 (fnd hash).1.1 under (fnd hash).1.1 (goF fnd hg lo hi f (fnd hash).1.2.2.1 over (fnd hash).1.1 (fnd hash).1.1 (cnt + 1)).2.1).2.1,
      (goF fnd hg lo hi f (fnd hash).1.2.2.1 over (fnd hash).1.1 (fnd hash).1.1 (cnt + 1)).2.2 ++ (if hasW lo hi (fnd hash).1.1 = true then [((fnd hash).1.1, (fnd hash).1.2.1)] else []) ++
      (goF fnd hg lo hi f (fnd hash).1.2.2.2 (fnd hash).1.1 under (fnd hash).1.1 (goF fnd hg lo hi f (fnd hash).1.2.2.1 over (fnd hash).1.1 (fnd hash).1.1 (cnt + 1)).2.1).2.2)
section
variable {fnd : ByteArray → FN} {hg : ByteArray → ByteArray → Bool} {lo hi : ByteArray}
theorem goF_skip {f : Nat} {hash over under par : ByteArray} {cnt : Nat} (h : (emp hash || !canW over under lo hi) = true) : goF fnd hg lo hi (f + 1) hash over under par cnt = (0, cnt, []) := by rw [goF, if_pos h]
theorem goF_missing {f : Nat} {hash over under par : ByteArray} {cnt : Nat} (h : (emp hash || !canW over under lo hi) = false) (h2 : (fnd hash).2 = 2) : goF fnd hg lo hi (f + 1) hash over under par cnt = (2, 0, []) := by rw [goF, if_neg (by rw [h]; decide), if_pos h2]
theorem goF_corrupt {f : Nat} {hash over under par : ByteArray} {cnt : Nat} (h : (emp hash || !canW over under lo hi) = false) (h2 : (fnd hash).2 = 3) : goF fnd hg lo hi (f + 1) hash over under par cnt = (3, 0, []) := by rw [goF, if_neg (by rw [h]; decide), if_neg (by rw [h2]; decide), if_pos (by rw [h2]; decide)]
theorem goF_place {f : Nat} {hash over under par : ByteArray} {cnt : Nat} (h : (emp hash || !canW over under lo hi) = false) (h2 : (fnd hash).2 = 0) (h3 : (insW over under (fnd hash).1.1 && parW hg par (fnd hash).1.1) = false) : goF fnd hg lo hi (f + 1) hash over under par cnt = (3, 0, []) := by
  rw [goF, if_neg (by rw [h]; decide), if_neg (by rw [h2]; decide), if_neg (by rw [h2]; decide), if_pos h3]
theorem goF_many {f : Nat} {hash over under par : ByteArray} {cnt : Nat} (h : (emp hash || !canW over under lo hi) = false) (h2 : (fnd hash).2 = 0) (h3 : (insW over under (fnd hash).1.1 && parW hg par (fnd hash).1.1) = true) (h4 : 500 < cnt + 1) : goF fnd hg lo hi (f + 1) hash over under par cnt = (6, 0, []) := by
  rw [goF, if_neg (by rw [h]; decide), if_neg (by rw [h2]; decide), if_neg (by rw [h2]; decide), if_neg (by rw [h3]; decide), if_pos h4]
/-- The node is gone into: what its two subtrees say. -/
theorem goF_node {f : Nat} {hash over under par : ByteArray} {cnt : Nat} {k v l r : ByteArray} (h : (emp hash || !canW over under lo hi) = false) (h2 : fnd hash = ((k, v, l, r), 0)) (h3 : (insW over under k && parW hg par k) = true) (h4 : cnt + 1 ≤ 500)
    {L R : Int × Nat × List PairT} (hL : goF fnd hg lo hi f l over k k (cnt + 1) = L) (hR : goF fnd hg lo hi f r k under k L.2.1 = R) :
    goF fnd hg lo hi (f + 1) hash over under par cnt = if L.1 ≠ 0 then (L.1, 0, []) else if R.1 ≠ 0 then (R.1, 0, []) else (0, R.2.1, L.2.2 ++ (if hasW lo hi k = true then [(k, v)] else []) ++ R.2.2) := by
  rw [goF, h2]
  simp only [hL, hR]
  rw [if_neg (by rw [h]; decide), if_neg (by decide), if_neg (by simp), if_neg (by rw [h3]; decide), if_neg (by omega)]
theorem goF_cnt : ∀ (f : Nat) (hash over under par : ByteArray) (cnt : Nat), cnt ≤ 500 → (goF fnd hg lo hi f hash over under par cnt).1 = 0 → cnt ≤ (goF fnd hg lo hi f hash over under par cnt).2.1 ∧ (goF fnd hg lo hi f hash over under par cnt).2.1 ≤ 500
  | 0, _, _, _, _, _, _, h => by rw [goF] at h; exact absurd h (by decide)
  | f + 1, hash, over, under, par, cnt, hc, h => by
    cases h1 : (emp hash || !canW over under lo hi) with
    | true => rw [goF_skip h1] at h ⊢; exact ⟨Nat.le_refl _, hc⟩
    | false =>
      by_cases h2 : (fnd hash).2 = 2
      · rw [goF_missing h1 h2] at h; exact absurd h (by decide)
      · by_cases h20 : (fnd hash).2 = 0
        · cases h3 : (insW over under (fnd hash).1.1 && parW hg par (fnd hash).1.1) with
          | false => rw [goF_place h1 h20 h3] at h; exact absurd h (by decide)
          | true =>
            by_cases h4 : 500 < cnt + 1
            · rw [goF_many h1 h20 h3 h4] at h; exact absurd h (by decide)
            · have e : fnd hash = (((fnd hash).1.1, (fnd hash).1.2.1, (fnd hash).1.2.2.1, (fnd hash).1.2.2.2), 0) := by rw [← h20]
              rw [goF_node h1 e h3 (by omega) rfl rfl] at h ⊢
              have il := goF_cnt f (fnd hash).1.2.2.1 over (fnd hash).1.1 (fnd hash).1.1 (cnt + 1) (by omega)
              split at h
              · rename_i q; exact absurd h q
              · rename_i q
                have il := il (by simpa using q)
                split at h
                · rename_i q2; exact absurd h q2
                · rename_i q2
                  have ir := goF_cnt f (fnd hash).1.2.2.2 (fnd hash).1.1 under (fnd hash).1.1 _ il.2 (by simpa using q2)
                  rw [if_neg q, if_neg q2]
                  exact ⟨Nat.le_trans (Nat.le_trans (Nat.le_succ _) il.1) ir.1, ir.2⟩
        · rw [goF, if_neg (by rw [h1]; decide), if_neg h2, if_pos h20] at h; exact absurd h (by decide)
end
theorem emp_iff (s : ByteArray) : s.toList.isEmpty = emp s := by
  rw [ByteArray.toList_eq]
  unfold emp
  by_cases h : s.size = 0
  · rw [decide_eq_true h]
    have : s.data.toList.length = 0 := h
    rw [List.length_eq_zero_iff.1 this]; rfl
  · rw [decide_eq_false h]
    have : s.data.toList.length ≠ 0 := h
    cases hs : s.data.toList with
    | nil => rw [hs] at this; exact absurd rfl this
    | cons a b => rfl
/-- A key's rank, as cells. -/
def rkL (k : ByteArray) : List Value := (sha k.data.toList).map B ++ [Value.string k]
theorem rkL_len (k : ByteArray) : (rkL k).length = 33 := by unfold rkL; rw [List.length_append, List.length_map]; unfold sha; rw [outTo_length]; rfl
theorem rkL_last (k : ByteArray) : (rkL k)[32]? = some (.string k) := by
  unfold rkL
  have : ((sha k.data.toList).map B).length = 32 := by rw [List.length_map]; unfold sha; rw [outTo_length]
  rw [List.getElem?_append_right (by omega), this]; rfl
/-- A rank in its block. -/
def RKb (g : Nat) (k : ByteArray) (w : World) : Prop := w.heap[g]? = some (.cells (rkL k).toArray 249)
theorem RKb.c32 {g : Nat} {k : ByteArray} {w : World} (h : RKb g k w) : w.cell? ⟨g, 32, none⟩ = some (.string k) := (Lib.cell_of_heap h 32).trans (by simpa using rkL_last k)
theorem RKb.range {g : Nat} {k : ByteArray} {w : World} (h : RKb g k w) : w.rangeAt g 0 (rkL k) := fun j u hj => (Lib.cell_of_heap h (0 + j)).trans (by simpa using hj)
theorem leftOf_any (over under key : ByteArray) (par : Option Addr) (w : World) : Calls Tryz.prog 172 #[.agg #[.string over, .string under, .pointer par], .agg (rkL key).toArray] w fun e w' => (∃ g, e = .returned (.agg #[.string over, .string key, .pointer (some ⟨g, 0, none⟩)]) ∧ w.heap.size ≤ g ∧ RKb g key w') ∧ Below w.heap.size w w' := by
  obtain ⟨W, hW⟩ : ∃ W, (w.alloc (.cells #[.string over, .string under, .pointer par] 144)).alloc (.cells (rkL key).toArray 249) = W := ⟨_, rfl⟩
  have hb : Below w.heap.size w W := by rw [← hW]; exact ((Below.refl _ _).alloc (Nat.le_refl _) _).alloc (by simp) _
  have n0 : W.heap[w.heap.size]? = some (.cells #[.string over, .string under, .pointer par] 144) := by rw [← hW, Below.heap_alloc _ _ _ (by simp)]; exact heap_alloc_new w _
  have n1 : W.heap[w.heap.size + 1]? = some (.cells (rkL key).toArray 249) := by
    have := heap_alloc_new (w.alloc (.cells #[.string over, .string under, .pointer par] 144)) (.cells (rkL key).toArray 249)
    rw [← hW]; simpa using this
  have hsz : W.heap.size = w.heap.size + 1 + 1 := by rw [← hW]; simp
  have ca : W.cell? ⟨w.heap.size, 0, none⟩ = some (.string over) := Lib.cell_of_heap n0 0
  have cb : W.cell? ⟨w.heap.size + 1, 32, none⟩ = some (.string key) := RKb.c32 n1
  have hbz : Below w.heap.size w (W.alloc (.cells #[.string over, .string key, .pointer (some ⟨w.heap.size + 1, 0, none⟩)] 144)) := hb.alloc hb.size _
  have nz : RKb (w.heap.size + 1) key (W.alloc (.cells #[.string over, .string key, .pointer (some ⟨w.heap.size + 1, 0, none⟩)] 144)) := (Below.heap_alloc W _ _ (by omega)).trans n1
  have nR := heap_alloc_new W (.cells #[.string over, .string key, .pointer (some ⟨w.heap.size + 1, 0, none⟩)] 144)
  rw [hsz] at nR
  generalize (rkL key).toArray = cs at hW n1
  obtain ⟨ga, hga⟩ : ∃ ga, w.heap.size = ga := ⟨_, rfl⟩
  go_enter Tryz.func172, Tryz.ntmps172
  rw [hga] at ca cb hsz hbz nz nR
  have q0 := Lib.cell_of_heap nR 0
  have q1 := Lib.cell_of_heap nR 1
  have q2 := Lib.cell_of_heap nR 2
  go_wp2_with fail
  exact bodyPost_ret (v := .agg #[.string over, .string key, .pointer (some ⟨ga + 1, 0, none⟩)]) (by simp [results, Tryz.results172, go_sem, q0, q1, q2]) rfl ⟨⟨ga + 1, rfl, by omega, nz⟩, by rw [hga]; exact hbz⟩
theorem rightOf_any (over under key : ByteArray) (par : Option Addr) (w : World) : Calls Tryz.prog 173 #[.agg #[.string over, .string under, .pointer par], .agg (rkL key).toArray] w fun e w' => (∃ g, e = .returned (.agg #[.string key, .string under, .pointer (some ⟨g, 0, none⟩)]) ∧ w.heap.size ≤ g ∧ RKb g key w') ∧ Below w.heap.size w w' := by
  obtain ⟨W, hW⟩ : ∃ W, (w.alloc (.cells #[.string over, .string under, .pointer par] 144)).alloc (.cells (rkL key).toArray 249) = W := ⟨_, rfl⟩
  have hb : Below w.heap.size w W := by rw [← hW]; exact ((Below.refl _ _).alloc (Nat.le_refl _) _).alloc (by simp) _
  have n0 : W.heap[w.heap.size]? = some (.cells #[.string over, .string under, .pointer par] 144) := by rw [← hW, Below.heap_alloc _ _ _ (by simp)]; exact heap_alloc_new w _
  have n1 : W.heap[w.heap.size + 1]? = some (.cells (rkL key).toArray 249) := by
    have := heap_alloc_new (w.alloc (.cells #[.string over, .string under, .pointer par] 144)) (.cells (rkL key).toArray 249)
    rw [← hW]; simpa using this
  have hsz : W.heap.size = w.heap.size + 1 + 1 := by rw [← hW]; simp
  have ca : W.cell? ⟨w.heap.size, 1, none⟩ = some (.string under) := Lib.cell_of_heap n0 1
  have cb : W.cell? ⟨w.heap.size + 1, 32, none⟩ = some (.string key) := RKb.c32 n1
  have hbz : Below w.heap.size w (W.alloc (.cells #[.string key, .string under, .pointer (some ⟨w.heap.size + 1, 0, none⟩)] 144)) := hb.alloc hb.size _
  have nz : RKb (w.heap.size + 1) key (W.alloc (.cells #[.string key, .string under, .pointer (some ⟨w.heap.size + 1, 0, none⟩)] 144)) := (Below.heap_alloc W _ _ (by omega)).trans n1
  have nR := heap_alloc_new W (.cells #[.string key, .string under, .pointer (some ⟨w.heap.size + 1, 0, none⟩)] 144)
  rw [hsz] at nR
  generalize (rkL key).toArray = cs at hW n1
  obtain ⟨ga, hga⟩ : ∃ ga, w.heap.size = ga := ⟨_, rfl⟩
  go_enter Tryz.func173, Tryz.ntmps173
  rw [hga] at ca cb hsz hbz nz nR
  have q0 := Lib.cell_of_heap nR 0
  have q1 := Lib.cell_of_heap nR 1
  have q2 := Lib.cell_of_heap nR 2
  go_wp2_with fail
  exact bodyPost_ret (v := .agg #[.string key, .string under, .pointer (some ⟨ga + 1, 0, none⟩)]) (by simp [results, Tryz.results173, go_sem, q0, q1, q2]) rfl ⟨⟨ga + 1, rfl, by omega, nz⟩, by rw [hga]; exact hbz⟩
end Go.Proofs.YtibjhkpgaaapaaaGreatDoor
