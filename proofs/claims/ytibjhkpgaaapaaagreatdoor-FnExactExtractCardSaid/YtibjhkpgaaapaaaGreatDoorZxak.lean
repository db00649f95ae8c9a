import Derived.Test.YtibjhkpgaaapaaaGreatDoorProg
import Derived.Test.YtibjhkpgaaapaaaGreatDoorZxai
import Derived.WalkSpells
import Derived.WalkLawsBesides
import Derived.StillTactics
import Derived.Laws.Pointers
import Derived.Deep.RegionHeld3
import Derived.Test.YtibjhkpgaaapaaaGreatDoorZxaj
namespace Go.Proofs.YtibjhkpgaaapaaaGreatDoor
open Go.RowKit Go.Proofs.Sha

def byteS (n : Nat) : ByteArray := ⟨#[UInt8.ofNat n]⟩
theorem byte_form (n : Nat) : Value.int .u8 ((n : Int) % 256) = B (UInt8.ofNat n) := by
  unfold B
  rw [UInt8.toNat_ofNat']
  show Value.int .u8 _ = Value.int .u8 ((n % 256 : Nat) : Int)
  rw [Int.natCast_emod]; rfl

set_option maxRecDepth 100000 in
set_option maxHeartbeats 400000 in
theorem byte_any (n : Nat) (_hn : n ≤ 1048576) (w : World) :
    Calls Tryz.prog 91 #[.int .i64 (n : Int)] w fun e w' => e = .returned (.string (byteS n)) ∧ Below w.heap.size w w' := by
  have hrow : Row (w.alloc (.cells #[.int .u8 ((n : Int) % 256)] 5)) w.heap.size w.heap.size 1 1 ([UInt8.ofNat n].map B) := by
    have e : [UInt8.ofNat n].map B = [.int .u8 ((n : Int) % 256)] := by rw [byte_form]; rfl
    rw [e]
    exact Row.of_block (Nat.le_refl _) (heap_alloc_new w (.cells #[.int .u8 ((n : Int) % 256)] 5)) 1 (by simp) (.inl rfl)
  go_enter Tryz.func91, Tryz.ntmps91
  go_wp2_with (refine wpList_string_row _ rfl (.tmp 5) 41 9 5 rfl w.heap.size w.heap.size 1 1 [UInt8.ofNat n] rfl hrow Tryz.underlying41 Tryz.underlying5 Tryz.underlying9 ?_)
  go_ret
  exact ⟨rfl, (Below.refl _ _).alloc (Nat.le_refl _) _⟩

theorem byte_i (m : Int) (h0 : 0 ≤ m) (h1 : m ≤ 1048576) (w : World) :
    Calls Tryz.prog 91 #[.int .i64 m] w fun e w' => ∃ t : ByteArray, e = .returned (.string t) ∧ t.size ≤ 1 ∧ Hid (t = byteS m.toNat) ∧ Below w.heap.size w w' := by
  obtain ⟨n, rfl⟩ := Int.eq_ofNat_of_zero_le h0
  rw [Int.toNat_natCast]
  exact (byte_any n (by omega) w).mono fun e w' ⟨he, hb⟩ => ⟨_, he, Nat.le_refl _, rfl, hb⟩

/-- A text of bytes. -/
def T (l : List UInt8) : ByteArray := ⟨l.toArray⟩
theorem T_data (l : List UInt8) : (T l).data.toList = l := rfl
theorem T_size (l : List UInt8) : (T l).size = l.length := rfl
theorem T_of (s : ByteArray) : T s.data.toList = s := by cases s; rfl
theorem T_append (a b : List UInt8) : T a ++ T b = T (a ++ b) := by
  apply ByteArray.ext
  show (T a ++ T b).data = _
  rw [ByteArray.data_append]
  apply Array.ext'
  simp [T]

def sized (l : List UInt8) : List UInt8 := UInt8.ofNat (l.length / 256) :: UInt8.ofNat (l.length % 256) :: l
theorem byteS_T (n : Nat) : byteS n = T [UInt8.ofNat n] := rfl

set_option maxRecDepth 100000 in
set_option maxHeartbeats 400000 in
theorem sized_any (l : List UInt8) (hl : l.length ≤ 1048576) (w : World) :
    Calls Tryz.prog 90 #[.string (T l)] w fun e w' => e = .returned (.string (T (sized l))) ∧ Below w.heap.size w w' := by
  have hs := T_size l
  obtain ⟨s, hS⟩ : ∃ s, T l = s := ⟨_, rfl⟩
  rw [hS] at hs
  rw [hS]
  have HS : Hid (T l = s ∧ s.size = l.length) := ⟨hS, hs⟩
  have hs2 : s.size ≤ 1048576 := by omega
  clear hS hs
  go_enter Tryz.func90, Tryz.ntmps90
  go_wp2_with fail
  refine (byte_i _ (by omega) (by omega) _).mono ?_
  rintro e w1 ⟨t1, rfl, hz1, HT1, hb1⟩
  go_wp2_with fail
  refine (byte_i _ (by omega) (by omega) _).mono ?_
  rintro e w2 ⟨t2, rfl, hz2, HT2, hb2⟩
  go_wp2
  go_ret
  refine ⟨congrArg (fun z => Ending.returned (.string z)) ?_, hb1.trans (hb2.mono hb1.size)⟩
  show t1 ++ t2 ++ s = T (sized l)
  rw [HT1.out, HT2.out, byteS_T, byteS_T, ← HS.out.1, T_append, T_append]
  have e1 : ((T l).size / 256 : Int).toNat = l.length / 256 := by rw [T_size]; omega
  have e2 : ((T l).size % 256 : Int).toNat = l.length % 256 := by rw [T_size]; omega
  rw [e1, e2]; rfl

def hashOk (n : Nat) (w : Int) : Bool := decide (n = 0) || decide ((n : Int) = w)
set_option maxRecDepth 100000 in
set_option maxHeartbeats 400000 in
theorem hashOk_any (s : ByteArray) (k : Int) (w : World) (_hs : s.size ≤ 1048576) :
    Calls Tryz.prog 82 #[.string s, .int .i64 k] w fun e w' => e = .returned (.bool (hashOk s.size k)) ∧ w = w' := by
  by_cases h0 : s.size = 0
  · have c0 : ((s.size : Int) == 0) = true := by rw [h0]; rfl
    have HR : Hid (hashOk s.size k = true) := by show hashOk s.size k = true; unfold hashOk; simp [h0]
    clear h0
    go_enter Tryz.func82, Tryz.ntmps82
    go_wp2
    go_ret
    exact ⟨by rw [HR.out]; rfl, rfl⟩
  · have c0 : ((s.size : Int) == 0) = false := by rw [beq_eq_false_iff_ne]; omega
    have HR : Hid (hashOk s.size k = ((s.size : Int) == k)) := by
      show hashOk s.size k = ((s.size : Int) == k)
      unfold hashOk; rw [decide_eq_false h0, Bool.false_or, Bool.eq_iff_iff]; simp
    clear h0
    go_enter Tryz.func82, Tryz.ntmps82
    go_wp2
    go_ret
    exact ⟨by rw [HR.out]; rfl, rfl⟩

/-- Is the node valid for the width? -/
def nodeOk (k v l r : Nat) (w : Int) : Bool := decide (1 ≤ w ∧ w ≤ 32 ∧ 1 ≤ k ∧ k ≤ 256 ∧ v ≤ 2000) && (hashOk l w && hashOk r w)

set_option maxRecDepth 100000 in
set_option maxHeartbeats 400000 in
theorem nodeOk_any (k v l r : ByteArray) (n : Int) (w : World) (hk : k.size ≤ 1048576) (hv : v.size ≤ 1048576) (hl : l.size ≤ 1048576) (hr : r.size ≤ 1048576) :
    Calls Tryz.prog 89 #[.agg #[.string k, .string v, .string l, .string r], .int .i64 n] w fun e w' => e = .returned (.bool (nodeOk k.size v.size l.size r.size n)) ∧ Below w.heap.size w w' := by
  have hfin : Below w.heap.size w (w.alloc (.cells #[.string k, .string v, .string l, .string r] 73)) := (Below.refl _ _).alloc (Nat.le_refl _) _
  by_cases h1 : n < 1
  · have HR : Hid (nodeOk k.size v.size l.size r.size n = false) := by
      show nodeOk k.size v.size l.size r.size n = false
      unfold nodeOk; rw [decide_eq_false (by omega), Bool.false_and]
    have c1 : decide (1 ≤ n) = false := by simpa using h1
    go_enter Tryz.func89, Tryz.ntmps89
    go_wp2_with (first | (go_at_call 82; refine (hashOk_any _ _ _ (by assumption)).mono ?_; rintro e w' ⟨rfl, rfl⟩) | go_in)
    go_ret
    exact ⟨by rw [HR.out]; rfl, hfin⟩
  by_cases h2 : 32 < n
  · have HR : Hid (nodeOk k.size v.size l.size r.size n = false) := by
      show nodeOk k.size v.size l.size r.size n = false
      unfold nodeOk; rw [decide_eq_false (by omega), Bool.false_and]
    have c1 : decide (1 ≤ n) = true := by simp; omega
    have c2 : decide (n ≤ 32) = false := by simpa using h2
    go_enter Tryz.func89, Tryz.ntmps89
    go_wp2_with (first | (go_at_call 82; refine (hashOk_any _ _ _ (by assumption)).mono ?_; rintro e w' ⟨rfl, rfl⟩) | go_in)
    go_ret
    exact ⟨by rw [HR.out]; rfl, hfin⟩
  by_cases h3 : k.size < 1
  · have HR : Hid (nodeOk k.size v.size l.size r.size n = false) := by
      show nodeOk k.size v.size l.size r.size n = false
      unfold nodeOk; rw [decide_eq_false (by omega), Bool.false_and]
    have c1 : decide (1 ≤ n) = true := by simp; omega
    have c2 : decide (n ≤ 32) = true := by simp; omega
    have c3 : decide ((k.size : Int) < 1) = true := by simp; omega
    go_enter Tryz.func89, Tryz.ntmps89
    go_wp2_with (first | (go_at_call 82; refine (hashOk_any _ _ _ (by assumption)).mono ?_; rintro e w' ⟨rfl, rfl⟩) | go_in)
    go_ret
    exact ⟨by rw [HR.out]; rfl, hfin⟩
  by_cases h4 : 256 < k.size
  · have HR : Hid (nodeOk k.size v.size l.size r.size n = false) := by
      show nodeOk k.size v.size l.size r.size n = false
      unfold nodeOk; rw [decide_eq_false (by omega), Bool.false_and]
    have c1 : decide (1 ≤ n) = true := by simp; omega
    have c2 : decide (n ≤ 32) = true := by simp; omega
    have c3 : decide ((k.size : Int) < 1) = false := by simp; omega
    have c4 : decide ((256 : Int) < (k.size : Int)) = true := by simp; omega
    go_enter Tryz.func89, Tryz.ntmps89
    go_wp2_with (first | (go_at_call 82; refine (hashOk_any _ _ _ (by assumption)).mono ?_; rintro e w' ⟨rfl, rfl⟩) | go_in)
    go_ret
    exact ⟨by rw [HR.out]; rfl, hfin⟩
  by_cases h5 : 2000 < v.size
  · have HR : Hid (nodeOk k.size v.size l.size r.size n = false) := by
      show nodeOk k.size v.size l.size r.size n = false
      unfold nodeOk; rw [decide_eq_false (by omega), Bool.false_and]
    have c1 : decide (1 ≤ n) = true := by simp; omega
    have c2 : decide (n ≤ 32) = true := by simp; omega
    have c3 : decide ((k.size : Int) < 1) = false := by simp; omega
    have c4 : decide ((256 : Int) < (k.size : Int)) = false := by simp; omega
    have c5 : decide ((2000 : Int) < (v.size : Int)) = true := by simp; omega
    go_enter Tryz.func89, Tryz.ntmps89
    go_wp2_with (first | (go_at_call 82; refine (hashOk_any _ _ _ (by assumption)).mono ?_; rintro e w' ⟨rfl, rfl⟩) | go_in)
    go_ret
    exact ⟨by rw [HR.out]; rfl, hfin⟩
  by_cases h6 : hashOk l.size n = false
  · have HR : Hid (nodeOk k.size v.size l.size r.size n = false) := by
      show nodeOk k.size v.size l.size r.size n = false
      unfold nodeOk; rw [decide_eq_true (by omega), Bool.true_and, h6, Bool.false_and]
    have c1 : decide (1 ≤ n) = true := by simp; omega
    have c2 : decide (n ≤ 32) = true := by simp; omega
    have c3 : decide ((k.size : Int) < 1) = false := by simp; omega
    have c4 : decide ((256 : Int) < (k.size : Int)) = false := by simp; omega
    have c5 : decide ((2000 : Int) < (v.size : Int)) = false := by simp; omega
    go_enter Tryz.func89, Tryz.ntmps89
    go_wp2_with (first | (go_at_call 82; refine (hashOk_any _ _ _ (by assumption)).mono ?_; rintro e w' ⟨rfl, rfl⟩) | go_in)
    go_ret
    exact ⟨by rw [HR.out]; rfl, hfin⟩
  have h6' : hashOk l.size n = true := by simpa using h6
  clear h6
  have HR : Hid (nodeOk k.size v.size l.size r.size n = hashOk r.size n) := by
    show nodeOk k.size v.size l.size r.size n = hashOk r.size n
    unfold nodeOk; rw [decide_eq_true (by omega), Bool.true_and, h6', Bool.true_and]
  have c1 : decide (1 ≤ n) = true := by simp; omega
  have c2 : decide (n ≤ 32) = true := by simp; omega
  have c3 : decide ((k.size : Int) < 1) = false := by simp; omega
  have c4 : decide ((256 : Int) < (k.size : Int)) = false := by simp; omega
  have c5 : decide ((2000 : Int) < (v.size : Int)) = false := by simp; omega
  go_enter Tryz.func89, Tryz.ntmps89
  go_wp2_with (first | (go_at_call 82; refine (hashOk_any _ _ _ (by assumption)).mono ?_; rintro e w' ⟨rfl, rfl⟩) | go_in)
  go_ret
  exact ⟨by rw [HR.out]; rfl, hfin⟩
end Go.Proofs.YtibjhkpgaaapaaaGreatDoor
namespace Go.Proofs.YtibjhkpgaaapaaaGreatDoor
open Go.RowKit Go.Proofs.Sha

theorem sized_b (s : ByteArray) (_hs : s.size ≤ 2097152) (hs' : s.size ≤ 1048576) (w : World) :
    Calls Tryz.prog 90 #[.string s] w fun e w' => ∃ t : ByteArray, e = .returned (.string t) ∧ t.size ≤ s.size + 2 ∧ Hid (t = T (sized s.data.toList)) ∧ Below w.heap.size w w' := by
  have := sized_any s.data.toList hs' w
  rw [T_of] at this
  exact this.mono fun e w' ⟨he, hb⟩ => ⟨_, he, Nat.le_refl _, rfl, hb⟩

def flagOf (l r : Nat) : Nat := (if l = 0 then 0 else 1) + (if r = 0 then 0 else 2)
def encL (k v l r : List UInt8) : List UInt8 := sized k ++ sized v ++ [UInt8.ofNat (flagOf l.length r.length)] ++ l ++ r

set_option maxRecDepth 100000 in
set_option maxHeartbeats 400000 in
theorem enc_no (k v l r : ByteArray) (n : Int) (w : World) (hk : k.size ≤ 1048576) (hv : v.size ≤ 1048576) (hl : l.size ≤ 1048576) (hr : r.size ≤ 1048576) (hok : nodeOk k.size v.size l.size r.size n = false) :
    Calls Tryz.prog 40 #[.agg #[.string k, .string v, .string l, .string r], .int .i64 n] w fun e w' => e = .returned (.string ⟨#[]⟩) ∧ Below w.heap.size w w' := by
  have HC : Hid (∀ w', Calls Tryz.prog 89 #[.agg #[.string k, .string v, .string l, .string r], .int .i64 n] w' fun e w'' => e = .returned (.bool false) ∧ Below w'.heap.size w' w'') := fun w' => by
    have := nodeOk_any k v l r n w' hk hv hl hr
    rw [hok] at this; exact this
  clear hok
  go_enter Tryz.func40, Tryz.ntmps40
  go_wp2_with fail
  refine (HC.out _).mono ?_
  rintro e w1 ⟨rfl, hb1⟩
  go_wp2
  go_ret
  exact ⟨rfl, ((Below.refl _ _).alloc (Nat.le_refl _) _).trans (hb1.mono (by simp))⟩

set_option maxRecDepth 100000 in
set_option maxHeartbeats 800000 in
theorem enc_yes (k v l r : ByteArray) (n : Int) (w : World) (hk : k.size ≤ 1048576) (hv : v.size ≤ 1048576) (hl : l.size ≤ 1048576) (hr : r.size ≤ 1048576) (hok : nodeOk k.size v.size l.size r.size n = true) :
    Calls Tryz.prog 40 #[.agg #[.string k, .string v, .string l, .string r], .int .i64 n] w fun e w' => e = .returned (.string (T (encL k.data.toList v.data.toList l.data.toList r.data.toList))) ∧ Below w.heap.size w w' := by
  have HC : Hid (∀ w', Calls Tryz.prog 89 #[.agg #[.string k, .string v, .string l, .string r], .int .i64 n] w' fun e w'' => e = .returned (.bool true) ∧ Below w'.heap.size w' w'') := fun w' => by
    have := nodeOk_any k v l r n w' hk hv hl hr
    rw [hok] at this; exact this
  clear hok
  by_cases h1 : l.size = 0
  all_goals by_cases h2 : r.size = 0
  all_goals
    have HF : Hid (flagOf l.data.toList.length r.data.toList.length = flagOf l.size r.size) := rfl
    have H12 : Hid ((l.size = 0 ↔ ¬ 0 < l.size) ∧ (r.size = 0 ↔ ¬ 0 < r.size)) := ⟨by omega, by omega⟩
    go_enter Tryz.func40, Tryz.ntmps40
    go_wp2_with fail
    refine (HC.out _).mono ?_
    rintro e w1 ⟨rfl, hb1⟩
    have hs1 : w.heap.size < w1.heap.size := by have := hb1.size; simp at this; omega
    have c0 : w1.cell? ⟨w.heap.size, 0, none⟩ = some (.string k) := (hb1.cell (by simp)).trans (by simp)
    have c1 : w1.cell? ⟨w.heap.size, 1, none⟩ = some (.string v) := (hb1.cell (by simp)).trans (by simp)
    have c2 : w1.cell? ⟨w.heap.size, 2, none⟩ = some (.string l) := (hb1.cell (by simp)).trans (by simp)
    have c3 : w1.cell? ⟨w.heap.size, 3, none⟩ = some (.string r) := (hb1.cell (by simp)).trans (by simp)
    have hbw : Below w.heap.size w w1 := ((Below.refl _ _).alloc (Nat.le_refl _) _).trans (hb1.mono (by simp))
    clear hb1
    go_wp2_with fail
    go_region_held3 (fun w' => w.heap.size < w'.heap.size ∧ w'.cell? ⟨w.heap.size, 0, none⟩ = some (.string k) ∧ w'.cell? ⟨w.heap.size, 1, none⟩ = some (.string v) ∧ w'.cell? ⟨w.heap.size, 2, none⟩ = some (.string l) ∧ w'.cell? ⟨w.heap.size, 3, none⟩ = some (.string r))
      (first | exact ⟨hs1, c0, c1, c2, c3⟩ | (go_split_ands; refine ⟨Nat.lt_of_lt_of_le (by assumption) hbC.size, ?_, ?_, ?_, ?_⟩ <;> (rw [hbC.cell (by assumption)]; assumption)) | (go_split_ands; refine ⟨Nat.lt_of_lt_of_le (by assumption) hbB.size, ?_, ?_, ?_, ?_⟩ <;> (rw [hbB.cell (by assumption)]; assumption)) | (go_split_ands; refine ⟨Nat.lt_of_lt_of_le (by assumption) hbA.size, ?_, ?_, ?_, ?_⟩ <;> (rw [hbA.cell (by assumption)]; assumption)))
      (first | (go_at_call_of 90 (Value.string k); refine (sized_b k (by omega) hk _).mono ?_; rintro e wA ⟨tA, rfl, zA, HA, hbA⟩) | (go_at_call_of 90 (Value.string v); refine (sized_b v (by omega) hv _).mono ?_; rintro e wB ⟨tB, rfl, zB, HB, hbB⟩; have fB : ¬ (9223372036854775807 < tA.size + tB.size) := (by omega)) | (go_at_call 91; refine (byte_i _ (by omega) (by omega) _).mono ?_; rintro e wC ⟨tC, rfl, zC, HCC, hbC⟩; have fC : ¬ (9223372036854775807 < tA.size + tB.size + tC.size) := (by omega); have fD : ¬ (9223372036854775807 < tA.size + tB.size + tC.size + l.size) := (by omega); have fE : ¬ (9223372036854775807 < tA.size + tB.size + tC.size + l.size + r.size) := (by omega); have fF : ¬ (9223372036854775807 < tA.size + tB.size + tC.size + r.size) := (by omega)))
    go_wp2
    go_ret
    refine ⟨congrArg (fun z => Ending.returned (.string z)) ?_, ?_⟩
    · show tA ++ tB ++ tC ++ l ++ r = _
      rw [HA.out, HB.out, HCC.out, byteS_T]
      conv => lhs; rw [← T_of l, ← T_of r]
      rw [T_append, T_append, T_append, T_append]
      unfold encL
      rw [HF.out]
      unfold flagOf
      simp [h1, h2]
    · exact hbw.trans ((((Below.refl _ w1).drew.trans hbA).trans (hbB.mono hbA.size)).trans (hbC.mono (Nat.le_trans hbA.size hbB.size)) |>.mono (Nat.le_of_lt hs1))
end Go.Proofs.YtibjhkpgaaapaaaGreatDoor
namespace Go.Proofs.YtibjhkpgaaapaaaGreatDoor
open Go.RowKit Go.Proofs.Sha

theorem empty_iff (l : ByteArray) : l.toList.isEmpty = decide (l.size = 0) := by
  rw [ByteArray.toList_eq]
  have : l.data.toList.length = l.size := rfl
  cases h : l.data.toList with
  | nil =>
    rw [h, List.length_nil] at this
    simp [← this]
  | cons a t =>
    rw [h, List.length_cons] at this
    have h0 : ¬ l.size = 0 := by omega
    simp [h0]
theorem flags_any (k v l r : ByteArray) (w : World) :
    Calls Tryz.prog 248 #[.agg #[.string k, .string v, .string l, .string r]] w fun e w' => e = .returned (.int .i64 (flagOf l.size r.size : Int)) ∧ Below w.heap.size w w' := by
  have hb : Below w.heap.size w (w.alloc (.cells #[.string k, .string v, .string l, .string r] 73)) := (Below.refl _ _).alloc (Nat.le_refl _) _
  by_cases h1 : l.size = 0
  all_goals by_cases h2 : r.size = 0
  all_goals
    have HF : Hid (∃ f, flagOf l.size r.size = f ∧ f = (if l.size = 0 then 0 else 1) + (if r.size = 0 then 0 else 2)) := ⟨_, rfl, rfl⟩
    have e1 := empty_iff l
    have e2 := empty_iff r
    simp only [h1, h2, decide_true, decide_false] at e1 e2
    clear h1 h2
    go_enter Tryz.func248, Tryz.ntmps248
    go_wp2
    go_ret
    obtain ⟨f, hf, hf2⟩ := HF.out
    refine ⟨?_, hb⟩
    rw [hf, hf2]
    rw [empty_iff] at e1 e2
    simp at e1 e2
    simp [e1, e2]
theorem kept_any (w : World) : Calls Tryz.prog 170 #[] w fun e w' => e = .returned (.agg #[.int .i64 2, .bool false]) ∧ Below w.heap.size w w' := by
  go_enter Tryz.func170, Tryz.ntmps170
  go_wp2
  have c0 := Lib.cell_of_heap (heap_alloc_new w (.cells #[.int .i64 2, .bool false] 261)) 0
  have c1 := Lib.cell_of_heap (heap_alloc_new w (.cells #[.int .i64 2, .bool false] 261)) 1
  refine bodyPost_ret (v := .agg #[.int .i64 2, .bool false]) ?_ rfl ⟨rfl, (Below.refl _ _).alloc (Nat.le_refl _) _⟩
  simp [results, Tryz.results170, go_sem, asAddr, c0, c1]
theorem link_any (n f : Int) (w : World) : Calls Tryz.prog 245 #[.agg #[.int .i64 n], .int .i64 f] w fun e w' => e = .returned (.agg #[.int .i64 (if f = 0 then 0 else n)]) ∧ Below w.heap.size w w' := by
  have hb : ∀ x, Below w.heap.size w ((w.alloc (.cells #[.int .i64 n] 285)).alloc (.cells #[.int .i64 x] 214)) := fun x => ((Below.refl _ _).alloc (Nat.le_refl _) _).alloc (by simp) _
  have c0 : ∀ x, ((w.alloc (.cells #[.int .i64 n] 285)).alloc (.cells #[.int .i64 x] 214)).cell? ⟨w.heap.size + 1, 0, none⟩ = some (.int .i64 x) := fun x => by
    have := Lib.cell_of_heap (heap_alloc_new (w.alloc (.cells #[.int .i64 n] 285)) (.cells #[.int .i64 x] 214)) 0
    rw [show (w.alloc (.cells #[.int .i64 n] 285)).heap.size = w.heap.size + 1 by simp] at this
    exact this
  by_cases h : f = 0
  · rw [if_pos h]
    subst h
    go_enter Tryz.func245, Tryz.ntmps245
    go_wp2
    refine bodyPost_ret (v := .agg #[.int .i64 0]) ?_ rfl ⟨rfl, hb _⟩
    simp [results, Tryz.results245, go_sem, asAddr]
  · rw [if_neg h]
    go_enter Tryz.func245, Tryz.ntmps245
    go_wp2
    refine bodyPost_ret (v := .agg #[.int .i64 n]) ?_ rfl ⟨rfl, hb _⟩
    simp [results, Tryz.results245, go_sem, asAddr]

theorem wsized2 (b : Nat) (s : ByteArray) (l : List UInt8) (w : World) (h : Bld b l w) (hl : l.length + s.size ≤ 8000000) :
    Calls Tryz.prog 224 #[.pointer (some ⟨b, 0, none⟩), .iface 261 (.agg #[.int .i64 2, .bool false]), .string s] w fun e w' => e = .returned (.tuple #[]) ∧ Put b (l ++ sized s.data.toList) w w' := by
  have := wsized 2 false b s l w (by omega) (by omega) h hl
  have e0 : ∀ x : Nat, UInt8.ofNat (x % 256) = UInt8.ofNat x := fun x => by apply UInt8.toNat.inj; simp
  have e : numTo 2 false s.size 2 = [UInt8.ofNat (s.size / 256), UInt8.ofNat (s.size % 256)] := by simp [numTo, numByte, e0]
  rw [e, List.append_assoc] at this
  exact this

theorem link_ex (n f : Int) (w : World) : Calls Tryz.prog 245 #[.agg #[.int .i64 n], .int .i64 f] w fun e w' => ∃ p, e = .returned (.agg #[.int .i64 p]) ∧ Below w.heap.size w w' :=
  (link_any n f w).mono (by rintro e w' ⟨rfl, hb⟩; exact ⟨_, rfl, hb⟩)
end Go.Proofs.YtibjhkpgaaapaaaGreatDoor
namespace Go.Proofs.YtibjhkpgaaapaaaGreatDoor
open Go.RowKit Go.Proofs.Sha

set_option maxRecDepth 100000 in
set_option maxHeartbeats 2000000 in
theorem node_put_f (f : Nat) (F : Int) (hFf : F = (f : Int)) (hf : F = 0 ∨ F = 1 ∨ F = 2 ∨ F = 3) (b : Nat) (n : Int) (k v l r : ByteArray) (q : List UInt8) (w : World) (h : Bld b q w) (hq : q.length ≤ 1000) (hk : k.size ≤ 256) (hv : v.size ≤ 2000) (hl : l.size ≤ 32) (hr : r.size ≤ 32)
    (HF : Hid (∀ w', Calls Tryz.prog 248 #[.agg #[.string k, .string v, .string l, .string r]] w' fun e w'' => e = .returned (.int .i64 F) ∧ Below w'.heap.size w' w'')) :
    Calls Tryz.prog 246 #[.agg #[.int .i64 n], .pointer (some ⟨b, 0, none⟩), .agg #[.string k, .string v, .string l, .string r]] w fun e w' => e = .returned (.tuple #[]) ∧ Put b (q ++ sized k.data.toList ++ sized v.data.toList ++ [UInt8.ofNat f] ++ l.data.toList ++ r.data.toList) w w' := by
  have hlt := h.lt
  obtain ⟨m1, hm1⟩ : ∃ m, q ++ sized k.data.toList = m := ⟨_, rfl⟩
  have z1 : m1.length ≤ 2000 := by rw [← hm1, List.length_append]; show q.length + (k.size + 1 + 1) ≤ _; omega
  obtain ⟨m2, hm2⟩ : ∃ m, m1 ++ sized v.data.toList = m := ⟨_, rfl⟩
  have z2 : m2.length ≤ 5000 := by rw [← hm2, List.length_append]; show m1.length + (v.size + 1 + 1) ≤ _; omega
  obtain ⟨m3, hm3⟩ : ∃ m, m2 ++ [UInt8.ofNat f] = m := ⟨_, rfl⟩
  have z3 : m3.length ≤ 5001 := by rw [← hm3, List.length_append]; show m2.length + 1 ≤ _; omega
  obtain ⟨m4, hm4⟩ : ∃ m, m3 ++ l.data.toList = m := ⟨_, rfl⟩
  have z4 : m4.length ≤ 6000 := by rw [← hm4, List.length_append]; show m3.length + l.size ≤ _; omega
  have HA : Hid (∀ w', Bld b q w' → Calls Tryz.prog 224 #[.pointer (some ⟨b, 0, none⟩), .iface 261 (.agg #[.int .i64 2, .bool false]), .string k] w' fun e w'' => e = .returned (.tuple #[]) ∧ Put b m1 w' w'') := fun w' h' => by rw [← hm1]; exact wsized2 b k q w' h' (by omega)
  have HB : Hid (∀ w', Bld b m1 w' → Calls Tryz.prog 224 #[.pointer (some ⟨b, 0, none⟩), .iface 261 (.agg #[.int .i64 2, .bool false]), .string v] w' fun e w'' => e = .returned (.tuple #[]) ∧ Put b m2 w' w'') := fun w' h' => by rw [← hm2]; exact wsized2 b v m1 w' h' (by omega)
  have HC : Hid (∀ w', Bld b m2 w' → Calls Tryz.prog 223 #[.pointer (some ⟨b, 0, none⟩), .iface 208 (.agg #[.int .i64 1, .bool false]), .int .i64 F] w' fun e w'' => e = .returned (.tuple #[]) ∧ Put b m3 w' w'') := fun w' h' => by rw [← hm3, hFf]; exact wint1 b f m2 w' h' (by omega) (by omega)
  have HD : Hid (∀ p w', Bld b m3 w' → Calls Tryz.prog 224 #[.pointer (some ⟨b, 0, none⟩), .iface 214 (.agg #[.int .i64 p]), .string l] w' fun e w'' => e = .returned (.tuple #[]) ∧ Put b m4 w' w'') := fun p w' h' => by rw [← hm4]; exact wplain p b l m3 w' h' (by omega)
  have HE : Hid (∀ p w', Bld b m4 w' → Calls Tryz.prog 224 #[.pointer (some ⟨b, 0, none⟩), .iface 214 (.agg #[.int .i64 p]), .string r] w' fun e w'' => e = .returned (.tuple #[]) ∧ Put b (m4 ++ r.data.toList) w' w'') := fun p w' h' => wplain p b r m4 w' h' (by omega)
  rw [hm1, hm2, hm3, hm4]
  clear hm1 hm2 hm3 hm4
  have HL : Hid (∀ p w', Calls Tryz.prog 245 #[.agg #[.int .i64 n], .int .i64 p] w' fun e w'' => ∃ p, e = .returned (.agg #[.int .i64 p]) ∧ Below w'.heap.size w' w'') := fun p w' => link_ex n p w'
  obtain ⟨m5, hm5⟩ : ∃ m, m4 ++ r.data.toList = m := ⟨_, rfl⟩
  rw [hm5] at HE ⊢
  clear hm5 hk hv hl hr hq z1 z2 z3 z4 hFf
  rcases hf with rfl | rfl | rfl | rfl
  all_goals
    go_enter Tryz.func246, Tryz.ntmps246
    go_wp2_with (first | (go_at_call 248; refine (HF.out _).mono ?_; rintro e w1 ⟨rfl, hb1⟩))
    have hp1 : Put b q w w1 := (((Put.refl h).alloc (.cells #[.int .i64 n] 285)).alloc (.cells #[.string k, .string v, .string l, .string r] 73)).below hb1
    have hf1 : w1.heap[w.heap.size]? = some (.cells #[.int .i64 n] 285) := below_cells hb1 (below_cells ((Below.refl _ _).alloc (Nat.le_refl _) _) (heap_alloc_new w (.cells #[.int .i64 n] 285)))
    have hn1 : w1.heap[w.heap.size + 1]? = some (.cells #[.string k, .string v, .string l, .string r] 73) := below_cells hb1 (by
      rw [show w.heap.size + 1 = (w.alloc (.cells #[.int .i64 n] 285)).heap.size by simp]; exact heap_alloc_new _ _)
    clear hb1
    have c0 : w1.cell? ⟨w.heap.size + 1, 0, none⟩ = some (.string k) := Lib.cell_of_heap hn1 0
    go_wp2_with fail
    go_region_held3 (fun W => W.cell? ⟨w.heap.size + 1, 0, none⟩ = some (.string k))
      (first | exact c0 | exact Lib.cell_of_heap hnA 0 | exact Lib.cell_of_heap hn2 0)
      (first | (go_at_call 170; refine (kept_any _).mono ?_; rintro e wA ⟨rfl, hbA'⟩; have hbA : Below w1.heap.size w1 wA := (Below.refl w1.heap.size w1).drew.trans hbA'; have hnA := below_cells hbA hn1) | (go_at_call 224; refine (HA.out _ (hp1.1.below hbA)).mono ?_; rintro e w2 ⟨rfl, hpA⟩; have hn2 := hpA.cells hnA (by omega) (by decide); have hf2 := hpA.cells (below_cells hbA hf1) (by omega) (by decide)))
    have hp2 := (hp1.below hbA).trans hpA
    clear hpA hbA' hbA hnA hp1 hn1 hf1 c0
    have c1 : w2.cell? ⟨w.heap.size + 1, 1, none⟩ = some (.string v) := Lib.cell_of_heap hn2 1
    go_wp2_with fail
    go_region_held3 (fun W => W.cell? ⟨w.heap.size + 1, 1, none⟩ = some (.string v))
      (first | exact c1 | exact Lib.cell_of_heap hnB 1 | exact Lib.cell_of_heap hn3 1)
      (first | (go_at_call 170; refine (kept_any _).mono ?_; rintro e wB ⟨rfl, hbB'⟩; have hbB : Below w2.heap.size w2 wB := (Below.refl w2.heap.size w2).drew.trans hbB'; have hnB := below_cells hbB hn2) | (go_at_call 224; refine (HB.out _ (hp2.1.below hbB)).mono ?_; rintro e w3 ⟨rfl, hpB⟩; have hn3 := hpB.cells hnB (by omega) (by decide); have hf3 := hpB.cells (below_cells hbB hf2) (by omega) (by decide)))
    have hp3 := (hp2.below hbB).trans hpB
    clear hpB hbB' hbB hnB hp2 hn2 hf2 c1
    go_wp2_with (first | (go_at_call 223; refine (HC.out _ hp3.1).mono ?_; rintro e w4 ⟨rfl, hpC⟩))
    have hn4 := hpC.cells hn3 (by omega) (by decide)
    have hf4 := hpC.cells hf3 (by omega) (by decide)
    have hp4 := hp3.trans hpC
    clear hpC hp3 hn3 hf3
    have c2 : w4.cell? ⟨w.heap.size + 1, 2, none⟩ = some (.string l) := Lib.cell_of_heap hn4 2
    have d2 : w4.cell? ⟨w.heap.size, 0, none⟩ = some (.int .i64 n) := Lib.cell_of_heap hf4 0
    go_region_held3 (fun W => W.cell? ⟨w.heap.size + 1, 2, none⟩ = some (.string l) ∧ W.cell? ⟨w.heap.size, 0, none⟩ = some (.int .i64 n))
      (first | exact ⟨c2, d2⟩ | exact ⟨Lib.cell_of_heap hnD 2, Lib.cell_of_heap hfD 0⟩ | exact ⟨Lib.cell_of_heap hn5 2, Lib.cell_of_heap hf5 0⟩)
      (first | (go_at_call 245; refine (HL.out _ _).mono ?_; rintro e wD ⟨p, rfl, hbD'⟩; have hbD : Below w4.heap.size w4 wD := (Below.refl w4.heap.size w4).drew.trans hbD'; have hnD := below_cells hbD hn4; have hfD := below_cells hbD hf4) | (go_at_call 224; refine (HD.out _ _ (hp4.1.below hbD)).mono ?_; rintro e w5 ⟨rfl, hpD⟩; have hn5 := hpD.cells hnD (by omega) (by decide); have hf5 := hpD.cells hfD (by omega) (by decide)))
    have hp5 := (hp4.below hbD).trans hpD
    clear hpD hbD' hbD hnD hp4 hn4 hf4 c2 d2 hfD
    have c3 : w5.cell? ⟨w.heap.size + 1, 3, none⟩ = some (.string r) := Lib.cell_of_heap hn5 3
    have d3 : w5.cell? ⟨w.heap.size, 0, none⟩ = some (.int .i64 n) := Lib.cell_of_heap hf5 0
    go_wp2_with fail
    go_region_held3 (fun W => W.cell? ⟨w.heap.size + 1, 3, none⟩ = some (.string r) ∧ W.cell? ⟨w.heap.size, 0, none⟩ = some (.int .i64 n))
      (first | exact ⟨c3, d3⟩ | exact ⟨Lib.cell_of_heap hnE 3, Lib.cell_of_heap hfE 0⟩ | exact ⟨Lib.cell_of_heap hn6 3, Lib.cell_of_heap hf6 0⟩)
      (first | (go_at_call 245; refine (HL.out _ _).mono ?_; rintro e wE ⟨p2, rfl, hbE'⟩; have hbE : Below w5.heap.size w5 wE := (Below.refl w5.heap.size w5).drew.trans hbE'; have hnE := below_cells hbE hn5; have hfE := below_cells hbE hf5) | (go_at_call 224; refine (HE.out _ _ (hp5.1.below hbE)).mono ?_; rintro e w6 ⟨rfl, hpE⟩; have hn6 := hpE.cells hnE (by omega) (by decide); have hf6 := hpE.cells hfE (by omega) (by decide)))
    go_wp2
    go_end0
    exact ⟨rfl, (hp5.below hbE).trans hpE⟩
end Go.Proofs.YtibjhkpgaaapaaaGreatDoor
