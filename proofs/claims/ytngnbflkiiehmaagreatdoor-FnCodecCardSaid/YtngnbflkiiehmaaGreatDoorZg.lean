import Derived.Test.YtngnbflkiiehmaaGreatDoorProg
import Derived.Test.YtngnbflkiiehmaaGreatDoorZf
import Derived.WalkSpells
import Derived.WalkLawsBesides
import Derived.StillTactics
import Derived.Laws.Pointers
import Derived.Deep.RegionHeld3
import Derived.Deep.QuietTactic
import Derived.BigQuiet
import Derived.OwnWalk
import Derived.Laws.StructEq
namespace Go.Proofs.YtngnbflkiiehmaaGreatDoor
open Go.RowKit Go.Proofs.Sha

def byteS (n : Nat) : ByteArray := ⟨#[UInt8.ofNat n]⟩
theorem byte_form (n : Nat) : Value.int .u8 ((n : Int) % 256) = B (UInt8.ofNat n) := by
  unfold B
  rw [UInt8.toNat_ofNat']
  show Value.int .u8 _ = Value.int .u8 ((n % 256 : Nat) : Int)
  rw [Int.natCast_emod]; rfl

set_option maxRecDepth 100000 in
set_option maxHeartbeats 400000 in
theorem byte_any (n : Nat) (_hn : n ≤ 1048576) (w : World) :
    Calls Tryz.prog 25 #[.int .i64 (n : Int)] w fun e w' => e = .returned (.string (byteS n)) ∧ Below w.heap.size w w' := by
  have hrow : Row (w.alloc (.cells #[.int .u8 ((n : Int) % 256)] 5)) w.heap.size w.heap.size 1 1 ([UInt8.ofNat n].map B) := by
    have e : [UInt8.ofNat n].map B = [.int .u8 ((n : Int) % 256)] := by rw [byte_form]; rfl
    rw [e]
    exact Row.of_block (Nat.le_refl _) (heap_alloc_new w (.cells #[.int .u8 ((n : Int) % 256)] 5)) 1 (by simp) (.inl rfl)
  go_enter Tryz.func25, Tryz.ntmps25
  go_wp2_with (refine wpList_string_row _ rfl (.tmp 5) 22 9 5 rfl w.heap.size w.heap.size 1 1 [UInt8.ofNat n] rfl hrow Tryz.underlying22 Tryz.underlying5 Tryz.underlying9 ?_)
  go_ret
  exact ⟨rfl, (Below.refl _ _).alloc (Nat.le_refl _) _⟩

theorem byte_i (m : Int) (h0 : 0 ≤ m) (h1 : m ≤ 1048576) (w : World) :
    Calls Tryz.prog 25 #[.int .i64 m] w fun e w' => ∃ t : ByteArray, e = .returned (.string t) ∧ t.size ≤ 1 ∧ Hid (t = byteS m.toNat) ∧ Below w.heap.size w w' := by
  obtain ⟨n, rfl⟩ := Int.eq_ofNat_of_zero_le h0
  rw [Int.toNat_natCast]
  exact (byte_any n (by omega) w).mono fun e w' ⟨he, hb⟩ => ⟨_, he, Nat.le_refl _, rfl, hb⟩

/-- A text of bytes. -/
def T (l : List UInt8) : ByteArray := ⟨l.toArray⟩
theorem T_data (l : List UInt8) : (T l).data.toList = l := rfl
theorem T_size (l : List UInt8) : (T l).size = l.length := rfl
theorem T_of (s : ByteArray) : T s.data.toList = s := by cases s; rfl
theorem T_append (a b : List UInt8) : T a ++ T b = T (a ++ b) := by
  apply ByteArray.ext
  show (T a ++ T b).data = _
  rw [ByteArray.data_append]
  apply Array.ext'
  simp [T]

def sized (l : List UInt8) : List UInt8 := UInt8.ofNat (l.length / 256) :: UInt8.ofNat (l.length % 256) :: l
theorem byteS_T (n : Nat) : byteS n = T [UInt8.ofNat n] := rfl

set_option maxRecDepth 100000 in
set_option maxHeartbeats 400000 in
theorem sized_any (l : List UInt8) (hl : l.length ≤ 1048576) (w : World) :
    Calls Tryz.prog 24 #[.string (T l)] w fun e w' => e = .returned (.string (T (sized l))) ∧ Below w.heap.size w w' := by
  have hs := T_size l
  obtain ⟨s, hS⟩ : ∃ s, T l = s := ⟨_, rfl⟩
  rw [hS] at hs
  rw [hS]
  have HS : Hid (T l = s ∧ s.size = l.length) := ⟨hS, hs⟩
  have hs2 : s.size ≤ 1048576 := by omega
  clear hS hs
  go_enter Tryz.func24, Tryz.ntmps24
  go_wp2_with fail
  refine (byte_i _ (by omega) (by omega) _).mono ?_
  rintro e w1 ⟨t1, rfl, hz1, HT1, hb1⟩
  go_wp2_with fail
  refine (byte_i _ (by omega) (by omega) _).mono ?_
  rintro e w2 ⟨t2, rfl, hz2, HT2, hb2⟩
  go_wp2
  go_ret
  refine ⟨congrArg (fun z => Ending.returned (.string z)) ?_, hb1.trans (hb2.mono hb1.size)⟩
  show t1 ++ t2 ++ s = T (sized l)
  rw [HT1.out, HT2.out, byteS_T, byteS_T, ← HS.out.1, T_append, T_append]
  have e1 : ((T l).size / 256 : Int).toNat = l.length / 256 := by rw [T_size]; omega
  have e2 : ((T l).size % 256 : Int).toNat = l.length % 256 := by rw [T_size]; omega
  rw [e1, e2]; rfl

def hashOk (n : Nat) (w : Int) : Bool := decide (n = 0) || decide ((n : Int) = w)
set_option maxRecDepth 100000 in
set_option maxHeartbeats 400000 in
theorem hashOk_any (s : ByteArray) (k : Int) (w : World) (_hs : s.size ≤ 1048576) :
    Calls Tryz.prog 44 #[.string s, .int .i64 k] w fun e w' => e = .returned (.bool (hashOk s.size k)) ∧ w = w' := by
  by_cases h0 : s.size = 0
  · have c0 : ((s.size : Int) == 0) = true := by rw [h0]; rfl
    have HR : Hid (hashOk s.size k = true) := by show hashOk s.size k = true; unfold hashOk; simp [h0]
    clear h0
    go_enter Tryz.func44, Tryz.ntmps44
    go_wp2
    go_ret
    exact ⟨by rw [HR.out]; rfl, rfl⟩
  · have c0 : ((s.size : Int) == 0) = false := by rw [beq_eq_false_iff_ne]; omega
    have HR : Hid (hashOk s.size k = ((s.size : Int) == k)) := by
      show hashOk s.size k = ((s.size : Int) == k)
      unfold hashOk; rw [decide_eq_false h0, Bool.false_or, Bool.eq_iff_iff]; simp
    clear h0
    go_enter Tryz.func44, Tryz.ntmps44
    go_wp2
    go_ret
    exact ⟨by rw [HR.out]; rfl, rfl⟩

/-- Is the node valid for the width? -/
def nodeOk (k v l r : Nat) (w : Int) : Bool := decide (1 ≤ w ∧ w ≤ 32 ∧ 1 ≤ k ∧ k ≤ 256 ∧ v ≤ 2000) && (hashOk l w && hashOk r w)

set_option maxRecDepth 100000 in
set_option maxHeartbeats 400000 in
theorem nodeOk_any (k v l r : ByteArray) (n : Int) (w : World) (hk : k.size ≤ 1048576) (hv : v.size ≤ 1048576) (hl : l.size ≤ 1048576) (hr : r.size ≤ 1048576) :
    Calls Tryz.prog 23 #[.agg #[.string k, .string v, .string l, .string r], .int .i64 n] w fun e w' => e = .returned (.bool (nodeOk k.size v.size l.size r.size n)) ∧ Below w.heap.size w w' := by
  have hfin : Below w.heap.size w (w.alloc (.cells #[.string k, .string v, .string l, .string r] 24)) := (Below.refl _ _).alloc (Nat.le_refl _) _
  by_cases h1 : n < 1
  · have HR : Hid (nodeOk k.size v.size l.size r.size n = false) := by
      show nodeOk k.size v.size l.size r.size n = false
      unfold nodeOk; rw [decide_eq_false (by omega), Bool.false_and]
    have c1 : decide (1 ≤ n) = false := by simpa using h1
    go_enter Tryz.func23, Tryz.ntmps23
    go_wp2_with (first | (go_at_call 44; refine (hashOk_any _ _ _ (by assumption)).mono ?_; rintro e w' ⟨rfl, rfl⟩) | go_in)
    go_ret
    exact ⟨by rw [HR.out]; rfl, hfin⟩
  by_cases h2 : 32 < n
  · have HR : Hid (nodeOk k.size v.size l.size r.size n = false) := by
      show nodeOk k.size v.size l.size r.size n = false
      unfold nodeOk; rw [decide_eq_false (by omega), Bool.false_and]
    have c1 : decide (1 ≤ n) = true := by simp; omega
    have c2 : decide (n ≤ 32) = false := by simpa using h2
    go_enter Tryz.func23, Tryz.ntmps23
    go_wp2_with (first | (go_at_call 44; refine (hashOk_any _ _ _ (by assumption)).mono ?_; rintro e w' ⟨rfl, rfl⟩) | go_in)
    go_ret
    exact ⟨by rw [HR.out]; rfl, hfin⟩
  by_cases h3 : k.size < 1
  · have HR : Hid (nodeOk k.size v.size l.size r.size n = false) := by
      show nodeOk k.size v.size l.size r.size n = false
      unfold nodeOk; rw [decide_eq_false (by omega), Bool.false_and]
    have c1 : decide (1 ≤ n) = true := by simp; omega
    have c2 : decide (n ≤ 32) = true := by simp; omega
    have c3 : decide ((k.size : Int) < 1) = true := by simp; omega
    go_enter Tryz.func23, Tryz.ntmps23
    go_wp2_with (first | (go_at_call 44; refine (hashOk_any _ _ _ (by assumption)).mono ?_; rintro e w' ⟨rfl, rfl⟩) | go_in)
    go_ret
    exact ⟨by rw [HR.out]; rfl, hfin⟩
  by_cases h4 : 256 < k.size
  · have HR : Hid (nodeOk k.size v.size l.size r.size n = false) := by
      show nodeOk k.size v.size l.size r.size n = false
      unfold nodeOk; rw [decide_eq_false (by omega), Bool.false_and]
    have c1 : decide (1 ≤ n) = true := by simp; omega
    have c2 : decide (n ≤ 32) = true := by simp; omega
    have c3 : decide ((k.size : Int) < 1) = false := by simp; omega
    have c4 : decide ((256 : Int) < (k.size : Int)) = true := by simp; omega
    go_enter Tryz.func23, Tryz.ntmps23
    go_wp2_with (first | (go_at_call 44; refine (hashOk_any _ _ _ (by assumption)).mono ?_; rintro e w' ⟨rfl, rfl⟩) | go_in)
    go_ret
    exact ⟨by rw [HR.out]; rfl, hfin⟩
  by_cases h5 : 2000 < v.size
  · have HR : Hid (nodeOk k.size v.size l.size r.size n = false) := by
      show nodeOk k.size v.size l.size r.size n = false
      unfold nodeOk; rw [decide_eq_false (by omega), Bool.false_and]
    have c1 : decide (1 ≤ n) = true := by simp; omega
    have c2 : decide (n ≤ 32) = true := by simp; omega
    have c3 : decide ((k.size : Int) < 1) = false := by simp; omega
    have c4 : decide ((256 : Int) < (k.size : Int)) = false := by simp; omega
    have c5 : decide ((2000 : Int) < (v.size : Int)) = true := by simp; omega
    go_enter Tryz.func23, Tryz.ntmps23
    go_wp2_with (first | (go_at_call 44; refine (hashOk_any _ _ _ (by assumption)).mono ?_; rintro e w' ⟨rfl, rfl⟩) | go_in)
    go_ret
    exact ⟨by rw [HR.out]; rfl, hfin⟩
  by_cases h6 : hashOk l.size n = false
  · have HR : Hid (nodeOk k.size v.size l.size r.size n = false) := by
      show nodeOk k.size v.size l.size r.size n = false
      unfold nodeOk; rw [decide_eq_true (by omega), Bool.true_and, h6, Bool.false_and]
    have c1 : decide (1 ≤ n) = true := by simp; omega
    have c2 : decide (n ≤ 32) = true := by simp; omega
    have c3 : decide ((k.size : Int) < 1) = false := by simp; omega
    have c4 : decide ((256 : Int) < (k.size : Int)) = false := by simp; omega
    have c5 : decide ((2000 : Int) < (v.size : Int)) = false := by simp; omega
    go_enter Tryz.func23, Tryz.ntmps23
    go_wp2_with (first | (go_at_call 44; refine (hashOk_any _ _ _ (by assumption)).mono ?_; rintro e w' ⟨rfl, rfl⟩) | go_in)
    go_ret
    exact ⟨by rw [HR.out]; rfl, hfin⟩
  have h6' : hashOk l.size n = true := by simpa using h6
  clear h6
  have HR : Hid (nodeOk k.size v.size l.size r.size n = hashOk r.size n) := by
    show nodeOk k.size v.size l.size r.size n = hashOk r.size n
    unfold nodeOk; rw [decide_eq_true (by omega), Bool.true_and, h6', Bool.true_and]
  have c1 : decide (1 ≤ n) = true := by simp; omega
  have c2 : decide (n ≤ 32) = true := by simp; omega
  have c3 : decide ((k.size : Int) < 1) = false := by simp; omega
  have c4 : decide ((256 : Int) < (k.size : Int)) = false := by simp; omega
  have c5 : decide ((2000 : Int) < (v.size : Int)) = false := by simp; omega
  go_enter Tryz.func23, Tryz.ntmps23
  go_wp2_with (first | (go_at_call 44; refine (hashOk_any _ _ _ (by assumption)).mono ?_; rintro e w' ⟨rfl, rfl⟩) | go_in)
  go_ret
  exact ⟨by rw [HR.out]; rfl, hfin⟩
end Go.Proofs.YtngnbflkiiehmaaGreatDoor
namespace Go.Proofs.YtngnbflkiiehmaaGreatDoor
open Go.RowKit Go.Proofs.Sha

theorem sized_b (s : ByteArray) (_hs : s.size ≤ 2097152) (hs' : s.size ≤ 1048576) (w : World) :
    Calls Tryz.prog 24 #[.string s] w fun e w' => ∃ t : ByteArray, e = .returned (.string t) ∧ t.size ≤ s.size + 2 ∧ Hid (t = T (sized s.data.toList)) ∧ Below w.heap.size w w' := by
  have := sized_any s.data.toList hs' w
  rw [T_of] at this
  exact this.mono fun e w' ⟨he, hb⟩ => ⟨_, he, Nat.le_refl _, rfl, hb⟩

def flagOf (l r : Nat) : Nat := (if l = 0 then 0 else 1) + (if r = 0 then 0 else 2)
def encL (k v l r : List UInt8) : List UInt8 := sized k ++ sized v ++ [UInt8.ofNat (flagOf l.length r.length)] ++ l ++ r

set_option maxRecDepth 100000 in
set_option maxHeartbeats 400000 in
theorem enc_no (k v l r : ByteArray) (n : Int) (w : World) (hk : k.size ≤ 1048576) (hv : v.size ≤ 1048576) (hl : l.size ≤ 1048576) (hr : r.size ≤ 1048576) (hok : nodeOk k.size v.size l.size r.size n = false) :
    Calls Tryz.prog 7 #[.agg #[.string k, .string v, .string l, .string r], .int .i64 n] w fun e w' => e = .returned (.string ⟨#[]⟩) ∧ Below w.heap.size w w' := by
  have HC : Hid (∀ w', Calls Tryz.prog 23 #[.agg #[.string k, .string v, .string l, .string r], .int .i64 n] w' fun e w'' => e = .returned (.bool false) ∧ Below w'.heap.size w' w'') := fun w' => by
    have := nodeOk_any k v l r n w' hk hv hl hr
    rw [hok] at this; exact this
  clear hok
  go_enter Tryz.func7, Tryz.ntmps7
  go_wp2_with fail
  refine (HC.out _).mono ?_
  rintro e w1 ⟨rfl, hb1⟩
  go_wp2
  go_ret
  exact ⟨rfl, ((Below.refl _ _).alloc (Nat.le_refl _) _).trans (hb1.mono (by simp))⟩

set_option maxRecDepth 100000 in
set_option maxHeartbeats 800000 in
theorem enc_yes (k v l r : ByteArray) (n : Int) (w : World) (hk : k.size ≤ 1048576) (hv : v.size ≤ 1048576) (hl : l.size ≤ 1048576) (hr : r.size ≤ 1048576) (hok : nodeOk k.size v.size l.size r.size n = true) :
    Calls Tryz.prog 7 #[.agg #[.string k, .string v, .string l, .string r], .int .i64 n] w fun e w' => e = .returned (.string (T (encL k.data.toList v.data.toList l.data.toList r.data.toList))) ∧ Below w.heap.size w w' := by
  have HC : Hid (∀ w', Calls Tryz.prog 23 #[.agg #[.string k, .string v, .string l, .string r], .int .i64 n] w' fun e w'' => e = .returned (.bool true) ∧ Below w'.heap.size w' w'') := fun w' => by
    have := nodeOk_any k v l r n w' hk hv hl hr
    rw [hok] at this; exact this
  clear hok
  by_cases h1 : l.size = 0
  all_goals by_cases h2 : r.size = 0
  all_goals
    have HF : Hid (flagOf l.data.toList.length r.data.toList.length = flagOf l.size r.size) := rfl
    have H12 : Hid ((l.size = 0 ↔ ¬ 0 < l.size) ∧ (r.size = 0 ↔ ¬ 0 < r.size)) := ⟨by omega, by omega⟩
    go_enter Tryz.func7, Tryz.ntmps7
    go_wp2_with fail
    refine (HC.out _).mono ?_
    rintro e w1 ⟨rfl, hb1⟩
    have hs1 : w.heap.size < w1.heap.size := by have := hb1.size; simp at this; omega
    have c0 : w1.cell? ⟨w.heap.size, 0, none⟩ = some (.string k) := (hb1.cell (by simp)).trans (by simp)
    have c1 : w1.cell? ⟨w.heap.size, 1, none⟩ = some (.string v) := (hb1.cell (by simp)).trans (by simp)
    have c2 : w1.cell? ⟨w.heap.size, 2, none⟩ = some (.string l) := (hb1.cell (by simp)).trans (by simp)
    have c3 : w1.cell? ⟨w.heap.size, 3, none⟩ = some (.string r) := (hb1.cell (by simp)).trans (by simp)
    have hbw : Below w.heap.size w w1 := ((Below.refl _ _).alloc (Nat.le_refl _) _).trans (hb1.mono (by simp))
    clear hb1
    go_wp2_with fail
    go_region_held3 (fun w' => w.heap.size < w'.heap.size ∧ w'.cell? ⟨w.heap.size, 0, none⟩ = some (.string k) ∧ w'.cell? ⟨w.heap.size, 1, none⟩ = some (.string v) ∧ w'.cell? ⟨w.heap.size, 2, none⟩ = some (.string l) ∧ w'.cell? ⟨w.heap.size, 3, none⟩ = some (.string r))
      (first | exact ⟨hs1, c0, c1, c2, c3⟩ | (go_split_ands; refine ⟨Nat.lt_of_lt_of_le (by assumption) hbC.size, ?_, ?_, ?_, ?_⟩ <;> (rw [hbC.cell (by assumption)]; assumption)) | (go_split_ands; refine ⟨Nat.lt_of_lt_of_le (by assumption) hbB.size, ?_, ?_, ?_, ?_⟩ <;> (rw [hbB.cell (by assumption)]; assumption)) | (go_split_ands; refine ⟨Nat.lt_of_lt_of_le (by assumption) hbA.size, ?_, ?_, ?_, ?_⟩ <;> (rw [hbA.cell (by assumption)]; assumption)))
      (first | (go_at_call_of 24 (Value.string k); refine (sized_b k (by omega) hk _).mono ?_; rintro e wA ⟨tA, rfl, zA, HA, hbA⟩) | (go_at_call_of 24 (Value.string v); refine (sized_b v (by omega) hv _).mono ?_; rintro e wB ⟨tB, rfl, zB, HB, hbB⟩; have fB : ¬ (9223372036854775807 < tA.size + tB.size) := (by omega)) | (go_at_call 25; refine (byte_i _ (by omega) (by omega) _).mono ?_; rintro e wC ⟨tC, rfl, zC, HCC, hbC⟩; have fC : ¬ (9223372036854775807 < tA.size + tB.size + tC.size) := (by omega); have fD : ¬ (9223372036854775807 < tA.size + tB.size + tC.size + l.size) := (by omega); have fE : ¬ (9223372036854775807 < tA.size + tB.size + tC.size + l.size + r.size) := (by omega); have fF : ¬ (9223372036854775807 < tA.size + tB.size + tC.size + r.size) := (by omega)))
    go_wp2
    go_ret
    refine ⟨congrArg (fun z => Ending.returned (.string z)) ?_, ?_⟩
    · show tA ++ tB ++ tC ++ l ++ r = _
      rw [HA.out, HB.out, HCC.out, byteS_T]
      conv => lhs; rw [← T_of l, ← T_of r]
      rw [T_append, T_append, T_append, T_append]
      unfold encL
      rw [HF.out]
      unfold flagOf
      simp [h1, h2]
    · exact hbw.trans ((((Below.refl _ w1).drew.trans hbA).trans (hbB.mono hbA.size)).trans (hbC.mono (Nat.le_trans hbA.size hbB.size)) |>.mono (Nat.le_of_lt hs1))
end Go.Proofs.YtngnbflkiiehmaaGreatDoor
namespace Go.Proofs.YtngnbflkiiehmaaGreatDoor
open Go.RowKit Go.Proofs.Sha

theorem bget (p : ByteArray) (k : Nat) (h : k < p.size) : p[k] = p.data.toList.getD k 0 := by
  rw [List.getD_eq_getElem?_getD, List.getElem?_eq_getElem (by exact h)]; rfl
theorem get_nat (s : ByteArray) (k : Nat) (i : Int) (hi : i = (k : Int)) (h : i.toNat < s.size) : ((s[i.toNat]'h).toNat : Int) = ((s.data.toList.getD k 0).toNat : Int) := by
  subst hi; rw [bget s _ h, Int.toNat_natCast]

/-- The size that stands at a place of a text, in two bytes. -/
def szAt (s : ByteArray) (a : Nat) : Nat := (s.data.toList.getD a 0).toNat * 256 + (s.data.toList.getD (a + 1) 0).toNat
theorem szAt_le (s : ByteArray) (a : Nat) : szAt s a ≤ 65535 := by
  unfold szAt
  have h1 := (s.data.toList.getD a 0).toNat_lt
  have h2 := (s.data.toList.getD (a + 1) 0).toNat_lt
  omega
theorem szAt_w (s : ByteArray) (a : Nat) (h1 : a < s.size) (h2 : a + 1 < s.size) : wrap64 (wrap64 (wrap64 (s[a].toNat : Int) * 256) + wrap64 (s[a + 1].toNat : Int)) = (szAt s a : Int) := by
  rw [bget s _ h1, bget s _ h2]
  unfold szAt
  have h3 := (s.data.toList.getD a 0).toNat_lt
  have h4 := (s.data.toList.getD (a + 1) 0).toNat_lt
  unfold wrap64
  omega
def pieceOk (s : ByteArray) (a : Nat) : Prop := a + 2 ≤ s.size ∧ a + 2 + szAt s a ≤ s.size

end Go.Proofs.YtngnbflkiiehmaaGreatDoor
namespace Go.Proofs.YtngnbflkiiehmaaGreatDoor
open Go.RowKit Go.Proofs.Sha

/-- The text is the encoding of this node at this width. -/
def IsEnc (s : ByteArray) (n : Int) (k v l r : ByteArray) : Prop :=
  nodeOk k.size v.size l.size r.size n = true ∧ s = T (encL k.data.toList v.data.toList l.data.toList r.data.toList)

theorem nodeOk_out {k v l r : Nat} {n : Int} (h : nodeOk k v l r n = true) : 1 ≤ n ∧ n ≤ 32 ∧ 1 ≤ k ∧ k ≤ 256 ∧ v ≤ 2000 ∧ (l = 0 ∨ (l : Int) = n) ∧ (r = 0 ∨ (r : Int) = n) := by
  simp only [nodeOk, hashOk, Bool.and_eq_true, Bool.or_eq_true, decide_eq_true_eq] at h
  omega

theorem T_extract (l : List UInt8) (a b : Nat) : (T l).extract a b = T ((l.drop a).take (b - a)) := ByteArray.extract_mk l a b
theorem T_list (l : List UInt8) : (T l).data.toList = l := rfl
theorem T_inj {a b : List UInt8} (h : T a = T b) : a = b := by have := congrArg (fun z : ByteArray => z.data.toList) h; exact this

theorem szAt_sized (P K Q : List UInt8) (hK : K.length < 65536) : szAt (T (P ++ (sized K ++ Q))) P.length = K.length := by
  unfold szAt sized
  rw [T_list, List.getD_eq_getElem?_getD, List.getD_eq_getElem?_getD, List.getElem?_append_right (Nat.le_refl _), List.getElem?_append_right (Nat.le_add_right P.length 1)]
  simp only [Nat.sub_self, Nat.add_sub_cancel_left, List.cons_append, List.getElem?_cons_zero, List.getElem?_cons_succ, Option.getD_some]
  rw [UInt8.toNat_ofNat_of_lt' (by show _ < 256; omega), UInt8.toNat_ofNat_of_lt' (by show _ < 256; omega)]
  omega

theorem piece_sized (P K Q : List UInt8) : (T (P ++ (sized K ++ Q))).extract (P.length + 2) (P.length + 2 + K.length) = T K := by
  rw [T_extract, ← List.drop_drop, List.drop_left]
  congr 1
  simp [sized]

theorem sized_length (K : List UInt8) : (sized K).length = K.length + 2 := rfl

theorem flag_odd (l r : Nat) : (UInt8.ofNat (flagOf l r)).toNat = flagOf l r := by
  unfold flagOf; rw [UInt8.toNat_ofNat_of_lt' (by show _ < 256; split <;> split <;> omega)]

/-- What a text that is an encoding shows where it is taken apart. -/
theorem IsEnc.parts {s : ByteArray} {n : Int} {k v l r : ByteArray} (h : IsEnc s n k v l r) :
    0 + 2 + szAt s 0 ≤ s.size ∧ k = s.extract (0 + 2) (0 + 2 + szAt s 0) ∧
    ∀ a, a = 0 + 2 + szAt s 0 → a + 2 + szAt s a < s.size ∧ v = s.extract (a + 2) (a + 2 + szAt s a) ∧
    ∀ b, b = a + 2 + szAt s a → (s.data.toList.getD b 0).toNat = flagOf l.size r.size ∧ s.extract (b + 1) s.size = l ++ r := by
  obtain ⟨hok, hs⟩ := h
  have ho := nodeOk_out hok
  have hkl : k.data.toList.length = k.size := rfl
  have hvl : v.data.toList.length = v.size := rfl
  have e0 : s = T ([] ++ (sized k.data.toList ++ (sized v.data.toList ++ ([UInt8.ofNat (flagOf l.size r.size)] ++ (l.data.toList ++ r.data.toList))))) := by
    rw [hs]; unfold encL; simp only [List.append_assoc, List.nil_append]; rfl
  have e1 : s = T (sized k.data.toList ++ (sized v.data.toList ++ ([UInt8.ofNat (flagOf l.size r.size)] ++ (l.data.toList ++ r.data.toList)))) := e0
  have e2 : s = T ((sized k.data.toList ++ sized v.data.toList) ++ (UInt8.ofNat (flagOf l.size r.size) :: (l.data.toList ++ r.data.toList))) := by
    rw [e1, List.append_assoc]; rfl
  have hz : s.size = 2 + k.size + (2 + v.size) + 1 + (l.size + r.size) := by
    rw [e1, T_size]; simp only [List.length_append, sized_length, List.length_cons, List.length_nil, hkl, hvl]
    show k.size + 2 + (v.size + 2 + (0 + 1 + (l.size + r.size))) = _
    omega
  have s0 : szAt s 0 = k.size := by rw [e0]; exact szAt_sized [] _ _ (by omega)
  refine ⟨by omega, ?_, ?_⟩
  · rw [s0]
    conv => rhs; rw [e0]
    exact ((piece_sized [] k.data.toList _).trans (T_of k)).symm
  · intro a ha
    have ha' : a = (sized k.data.toList).length := by rw [sized_length, hkl]; omega
    have s1 : szAt s a = v.size := by rw [ha', e1]; exact szAt_sized _ _ _ (by omega)
    refine ⟨by omega, ?_, ?_⟩
    · rw [s1, ha']
      conv => rhs; rw [e1]
      exact ((piece_sized (sized k.data.toList) v.data.toList _).trans (T_of v)).symm
    · intro b hb
      have hb' : b = (sized k.data.toList ++ sized v.data.toList).length := by rw [List.length_append, sized_length, sized_length, hkl, hvl]; omega
      constructor
      · conv => lhs; rw [e2]
        rw [T_list, hb', List.getD_eq_getElem?_getD, List.getElem?_append_right (Nat.le_refl _), Nat.sub_self]
        exact flag_odd _ _
      · rw [hz]
        conv => lhs; rw [e2]
        rw [T_extract, hb', ← List.drop_drop, List.drop_left, List.drop_succ_cons, List.drop_zero, List.take_of_length_le, ← T_append, T_of, T_of]
        rw [List.length_append, List.length_append, sized_length, sized_length, hkl, hvl]
        show l.size + r.size ≤ _
        omega

theorem flag_even (l r : Nat) : flagOf l r % 2 = 1 ↔ l ≠ 0 := by
  unfold flagOf; split <;> split <;> omega

theorem ext_left (a b : ByteArray) : (a ++ b).extract 0 a.size = a := by
  rw [← T_of a, ← T_of b, T_append, T_extract]
  congr 1
  rw [T_size]; simp
theorem ext_right (a b : ByteArray) : (a ++ b).extract a.size (a ++ b).size = b := by
  rw [← T_of a, ← T_of b, T_append, T_extract]
  congr 1
  rw [T_size, T_size, List.drop_left, List.take_of_length_le]
  rw [List.length_append]; omega

/-- The sides, as they are cut from what is behind the flag. -/
theorem IsEnc.sides {s : ByteArray} {n : Int} {k v l r : ByteArray} (h : IsEnc s n k v l r) {f : Nat} {q : ByteArray} (hf : f = flagOf l.size r.size) (hq : q = l ++ r) :
    (f % 2 = 1 → n ≤ q.size ∧ l = q.extract 0 n.toNat ∧ r = q.extract n.toNat q.size) ∧ (¬ f % 2 = 1 → l = ⟨#[]⟩ ∧ r = q) := by
  have ho := nodeOk_out h.1
  constructor
  · intro h1
    rw [hf, flag_even] at h1
    have hn : n.toNat = l.size := by omega
    refine ⟨?_, ?_, ?_⟩
    · rw [hq, ByteArray.size_append]; omega
    · rw [hn, hq, ext_left]
    · rw [hn, hq, ext_right]
  · intro h1
    rw [hf, flag_even] at h1
    have hl : l = ⟨#[]⟩ := by
      have : l.data.size = 0 := by show l.size = 0; omega
      apply ByteArray.ext
      exact Array.eq_empty_of_size_eq_zero this
    refine ⟨hl, ?_⟩
    rw [hq, hl]
    exact (ByteArray.empty_append).symm
end Go.Proofs.YtngnbflkiiehmaaGreatDoor
namespace Go.Proofs.YtngnbflkiiehmaaGreatDoor
open Go.RowKit Go.Proofs.Sha

abbrev nodeV (k v l r : ByteArray) : Value := .agg #[.string k, .string v, .string l, .string r]
/-- What DecodeNode answers. -/
def decPost (s : ByteArray) (n : Int) (e : Ending) : Prop :=
  (∃ k v l r, IsEnc s n k v l r ∧ e = .returned (.tuple #[nodeV k v l r, .bool true])) ∨
  ((∀ k v l r, ¬ IsEnc s n k v l r) ∧ e = .returned (.tuple #[nodeV ⟨#[]⟩ ⟨#[]⟩ ⟨#[]⟩ ⟨#[]⟩, .bool false]))

structure NodeAt (w : World) (g : Nat) (k v l r : ByteArray) : Prop where
  c0 : w.cell? ⟨g, 0, none⟩ = some (.string k)
  c1 : w.cell? ⟨g, 1, none⟩ = some (.string v)
  c2 : w.cell? ⟨g, 2, none⟩ = some (.string l)
  c3 : w.cell? ⟨g, 3, none⟩ = some (.string r)
  f0 : w.frozen? ⟨g, 0, none⟩ = false
  f1 : w.frozen? ⟨g, 1, none⟩ = false
  f2 : w.frozen? ⟨g, 2, none⟩ = false
  f3 : w.frozen? ⟨g, 3, none⟩ = false
theorem NodeAt.lt {w : World} {g : Nat} {k v l r : ByteArray} (h : NodeAt w g k v l r) : g < w.heap.size := World.block_lt_of_cell? w _ h.c0
theorem NodeAt.below {w w' : World} {g B : Nat} {k v l r : ByteArray} (h : NodeAt w g k v l r) (hb : Below B w w') (hg : g < B) : NodeAt w' g k v l r :=
  ⟨(hb.cell hg).trans h.c0, (hb.cell hg).trans h.c1, (hb.cell hg).trans h.c2, (hb.cell hg).trans h.c3, (hb.frozen hg).trans h.f0, (hb.frozen hg).trans h.f1, (hb.frozen hg).trans h.f2, (hb.frozen hg).trans h.f3⟩
theorem NodeAt.drew {w : World} {g : Nat} {k v l r : ByteArray} (h : NodeAt w g k v l r) : NodeAt w.drew g k v l r := ⟨h.c0, h.c1, h.c2, h.c3, h.f0, h.f1, h.f2, h.f3⟩
theorem NodeAt.mk4 (w : World) (k v l r : ByteArray) : NodeAt (w.alloc (.cells #[.string k, .string v, .string l, .string r] 24)) w.heap.size k v l r := by
  constructor <;> simp
theorem NodeAt.s0 {w : World} {g : Nat} {k v l r : ByteArray} (h : NodeAt w g k v l r) (x : ByteArray) : NodeAt (w.setCell ⟨g, 0, none⟩ (.string x)) g x v l r := by
  refine ⟨World.cell?_setCell_same _ _ _ h.c0, ?_, ?_, ?_, ?_, ?_, ?_, ?_⟩
  · rw [cell_set_ne _ _ _ _ _ (by omega)]; exact h.c1
  · rw [cell_set_ne _ _ _ _ _ (by omega)]; exact h.c2
  · rw [cell_set_ne _ _ _ _ _ (by omega)]; exact h.c3
  all_goals rw [World.frozen?_setCell]
  · exact h.f0
  · exact h.f1
  · exact h.f2
  · exact h.f3
theorem NodeAt.s1 {w : World} {g : Nat} {k v l r : ByteArray} (h : NodeAt w g k v l r) (x : ByteArray) : NodeAt (w.setCell ⟨g, 1, none⟩ (.string x)) g k x l r := by
  refine ⟨?_, World.cell?_setCell_same _ _ _ h.c1, ?_, ?_, ?_, ?_, ?_, ?_⟩
  · rw [cell_set_ne _ _ _ _ _ (by omega)]; exact h.c0
  · rw [cell_set_ne _ _ _ _ _ (by omega)]; exact h.c2
  · rw [cell_set_ne _ _ _ _ _ (by omega)]; exact h.c3
  all_goals rw [World.frozen?_setCell]
  · exact h.f0
  · exact h.f1
  · exact h.f2
  · exact h.f3
theorem NodeAt.s2 {w : World} {g : Nat} {k v l r : ByteArray} (h : NodeAt w g k v l r) (x : ByteArray) : NodeAt (w.setCell ⟨g, 2, none⟩ (.string x)) g k v x r := by
  refine ⟨?_, ?_, World.cell?_setCell_same _ _ _ h.c2, ?_, ?_, ?_, ?_, ?_⟩
  · rw [cell_set_ne _ _ _ _ _ (by omega)]; exact h.c0
  · rw [cell_set_ne _ _ _ _ _ (by omega)]; exact h.c1
  · rw [cell_set_ne _ _ _ _ _ (by omega)]; exact h.c3
  all_goals rw [World.frozen?_setCell]
  · exact h.f0
  · exact h.f1
  · exact h.f2
  · exact h.f3
theorem NodeAt.s3 {w : World} {g : Nat} {k v l r : ByteArray} (h : NodeAt w g k v l r) (x : ByteArray) : NodeAt (w.setCell ⟨g, 3, none⟩ (.string x)) g k v l x := by
  refine ⟨?_, ?_, ?_, World.cell?_setCell_same _ _ _ h.c3, ?_, ?_, ?_, ?_⟩
  · rw [cell_set_ne _ _ _ _ _ (by omega)]; exact h.c0
  · rw [cell_set_ne _ _ _ _ _ (by omega)]; exact h.c1
  · rw [cell_set_ne _ _ _ _ _ (by omega)]; exact h.c2
  all_goals rw [World.frozen?_setCell]
  · exact h.f0
  · exact h.f1
  · exact h.f2
  · exact h.f3
theorem NodeAt.set4 {w : World} {g : Nat} {k v l r : ByteArray} (h : NodeAt w g k v l r) (k' v' l' r' : ByteArray) :
    NodeAt ((((w.setCell ⟨g, 0, none⟩ (.string k')).setCell ⟨g, 1, none⟩ (.string v')).setCell ⟨g, 2, none⟩ (.string l')).setCell ⟨g, 3, none⟩ (.string r')) g k' v' l' r' :=
  (((h.s0 k').s1 v').s2 l').s3 r'
end Go.Proofs.YtngnbflkiiehmaaGreatDoor
namespace Go.Proofs.YtngnbflkiiehmaaGreatDoor
open Go.RowKit Go.Proofs.Sha

/-- What EncodeNode answers. -/
def encS (k v l r : ByteArray) (n : Int) : ByteArray := if nodeOk k.size v.size l.size r.size n = true then T (encL k.data.toList v.data.toList l.data.toList r.data.toList) else ⟨#[]⟩
theorem enc_any (k v l r : ByteArray) (n : Int) (w : World) (hk : k.size ≤ 1048576) (hv : v.size ≤ 1048576) (hl : l.size ≤ 1048576) (hr : r.size ≤ 1048576) :
    Calls Tryz.prog 7 #[nodeV k v l r, .int .i64 n] w fun e w' => ∃ t, e = .returned (.string t) ∧ Hid (t = encS k v l r n) ∧ Below w.heap.size w w' := by
  by_cases h : nodeOk k.size v.size l.size r.size n = true
  · exact (enc_yes k v l r n w hk hv hl hr h).mono fun e w' ⟨he, hb⟩ => ⟨_, he, by show _ = encS k v l r n; rw [encS, if_pos h], hb⟩
  · exact (enc_no k v l r n w hk hv hl hr (by simpa using h)).mono fun e w' ⟨he, hb⟩ => ⟨_, he, by show _ = encS k v l r n; rw [encS, if_neg h], hb⟩
theorem encS_is {s k v l r : ByteArray} {n : Int} (hs : 0 < s.size) : encS k v l r n = s ↔ IsEnc s n k v l r := by
  unfold encS IsEnc
  constructor
  · intro h
    split at h
    · exact ⟨by assumption, h.symm⟩
    · subst h; cases hs
  · intro h; rw [if_pos h.1, ← h.2]

theorem str_ne {t s : ByteArray} (h : ¬ t = s) : (t.toList == s.toList) = false := by
  rw [ByteArray.toList_eq, ByteArray.toList_eq, beq_eq_false_iff_ne]
  intro e
  exact h ((T_of t).symm.trans ((congrArg T e).trans (T_of s)))
theorem extract_size_le (s : ByteArray) (a b : Nat) : (s.extract a b).size ≤ s.size := by
  rw [← T_of s, T_extract, T_size, T_size, List.length_take, List.length_drop]; omega

end Go.Proofs.YtngnbflkiiehmaaGreatDoor
