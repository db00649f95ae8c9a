import Derived.Test.YtmfhfehemoeeeaaGreatDoorProg
import Derived.Test.YtmfhfehemoeeeaaGreatDoorZsac
import Derived.WalkSpells
import Derived.WalkLawsBesides
import Derived.StillTactics
import Derived.Laws.Pointers
import Derived.Deep.RegionHeld3
import Derived.Deep.QuietTactic
import Derived.BigQuiet
import Derived.OwnWalk
import Derived.Laws.StructEq
set_option maxRecDepth 100000
set_option maxHeartbeats 800000
namespace Go.Proofs.YtmfhfehemoeeeaaGreatDoor
open Go.RowKit Go.Proofs.Sha

def byteS (n : Nat) : ByteArray := ⟨#[UInt8.ofNat n]⟩
theorem byte_form (n : Nat) : Value.int .u8 ((n : Int) % 256) = B (UInt8.ofNat n) := by
  unfold B
  rw [UInt8.toNat_ofNat']
  show Value.int .u8 _ = Value.int .u8 ((n % 256 : Nat) : Int)
  rw [Int.natCast_emod]; rfl

theorem byte_any (n : Nat) (_hn : n ≤ 1048576) (w : World) :
    Calls Tryz.prog 41 #[.int .i64 (n : Int)] w fun e w' => e = .returned (.string (byteS n)) ∧ Below w.heap.size w w' := by
  have hrow : Row (w.alloc (.cells #[.int .u8 ((n : Int) % 256)] 5)) w.heap.size w.heap.size 1 1 ([UInt8.ofNat n].map B) := by
    have e : [UInt8.ofNat n].map B = [.int .u8 ((n : Int) % 256)] := by rw [byte_form]; rfl
    rw [e]
    exact Row.of_block (Nat.le_refl _) (heap_alloc_new w (.cells #[.int .u8 ((n : Int) % 256)] 5)) 1 (by simp) (.inl rfl)
  go_enter Tryz.func41, Tryz.ntmps41
  go_wp2_with (refine wpList_string_row _ rfl (.tmp 5) 22 9 5 rfl w.heap.size w.heap.size 1 1 [UInt8.ofNat n] rfl hrow Tryz.underlying22 Tryz.underlying5 Tryz.underlying9 ?_)
  go_ret
  exact ⟨rfl, (Below.refl _ _).alloc (Nat.le_refl _) _⟩

theorem byte_i (m : Int) (h0 : 0 ≤ m) (h1 : m ≤ 1048576) (w : World) :
    Calls Tryz.prog 41 #[.int .i64 m] w fun e w' => ∃ t : ByteArray, e = .returned (.string t) ∧ t.size ≤ 1 ∧ Hid (t = byteS m.toNat) ∧ Below w.heap.size w w' := by
  obtain ⟨n, rfl⟩ := Int.eq_ofNat_of_zero_le h0
  rw [Int.toNat_natCast]
  exact (byte_any n (by omega) w).mono fun e w' ⟨he, hb⟩ => ⟨_, he, Nat.le_refl _, rfl, hb⟩

/-- A text of bytes. -/
def T (l : List UInt8) : ByteArray := ⟨l.toArray⟩
theorem T_data (l : List UInt8) : (T l).data.toList = l := rfl
theorem T_size (l : List UInt8) : (T l).size = l.length := rfl
theorem T_of (s : ByteArray) : T s.data.toList = s := by cases s; rfl
theorem T_append (a b : List UInt8) : T a ++ T b = T (a ++ b) := by
  apply ByteArray.ext
  show (T a ++ T b).data = _
  rw [ByteArray.data_append]
  apply Array.ext'
  simp [T]

def sized (l : List UInt8) : List UInt8 := UInt8.ofNat (l.length / 256) :: UInt8.ofNat (l.length % 256) :: l
theorem byteS_T (n : Nat) : byteS n = T [UInt8.ofNat n] := rfl

theorem sized_any (l : List UInt8) (hl : l.length ≤ 1048576) (w : World) :
    Calls Tryz.prog 67 #[.string (T l)] w fun e w' => e = .returned (.string (T (sized l))) ∧ Below w.heap.size w w' := by
  have hs := T_size l
  obtain ⟨s, hS⟩ : ∃ s, T l = s := ⟨_, rfl⟩
  rw [hS] at hs
  rw [hS]
  have HS : Hid (T l = s ∧ s.size = l.length) := ⟨hS, hs⟩
  have hs2 : s.size ≤ 1048576 := by omega
  clear hS hs
  go_enter Tryz.func67, Tryz.ntmps67
  go_wp2_with fail
  refine (byte_i _ (by omega) (by omega) _).mono ?_
  rintro e w1 ⟨t1, rfl, hz1, HT1, hb1⟩
  go_wp2_with fail
  refine (byte_i _ (by omega) (by omega) _).mono ?_
  rintro e w2 ⟨t2, rfl, hz2, HT2, hb2⟩
  go_wp2
  go_ret
  refine ⟨congrArg (fun z => Ending.returned (.string z)) ?_, hb1.trans (hb2.mono hb1.size)⟩
  show t1 ++ t2 ++ s = T (sized l)
  rw [HT1.out, HT2.out, byteS_T, byteS_T, ← HS.out.1, T_append, T_append]
  have e1 : ((T l).size / 256 : Int).toNat = l.length / 256 := by rw [T_size]; omega
  have e2 : ((T l).size % 256 : Int).toNat = l.length % 256 := by rw [T_size]; omega
  rw [e1, e2]; rfl

def hashOk (n : Nat) (w : Int) : Bool := decide (n = 0) || decide ((n : Int) = w)
theorem hashOk_any (s : ByteArray) (k : Int) (w : World) (_hs : s.size ≤ 1048576) :
    Calls Tryz.prog 85 #[.string s, .int .i64 k] w fun e w' => e = .returned (.bool (hashOk s.size k)) ∧ w = w' := by
  by_cases h0 : s.size = 0
  · have c0 : ((s.size : Int) == 0) = true := by rw [h0]; rfl
    have HR : Hid (hashOk s.size k = true) := by show hashOk s.size k = true; unfold hashOk; simp [h0]
    clear h0
    go_enter Tryz.func85, Tryz.ntmps85
    go_wp2
    go_ret
    exact ⟨by rw [HR.out]; rfl, rfl⟩
  · have c0 : ((s.size : Int) == 0) = false := by rw [beq_eq_false_iff_ne]; omega
    have HR : Hid (hashOk s.size k = ((s.size : Int) == k)) := by
      show hashOk s.size k = ((s.size : Int) == k)
      unfold hashOk; rw [decide_eq_false h0, Bool.false_or, Bool.eq_iff_iff]; simp
    clear h0
    go_enter Tryz.func85, Tryz.ntmps85
    go_wp2
    go_ret
    exact ⟨by rw [HR.out]; rfl, rfl⟩

/-- Is the node valid for the width? -/
def nodeOk (k v l r : Nat) (w : Int) : Bool := decide (1 ≤ w ∧ w ≤ 32 ∧ 1 ≤ k ∧ k ≤ 256 ∧ v ≤ 2000) && (hashOk l w && hashOk r w)

theorem nodeOk_any (k v l r : ByteArray) (n : Int) (w : World) (hk : k.size ≤ 1048576) (hv : v.size ≤ 1048576) (hl : l.size ≤ 1048576) (hr : r.size ≤ 1048576) :
    Calls Tryz.prog 66 #[.agg #[.string k, .string v, .string l, .string r], .int .i64 n] w fun e w' => e = .returned (.bool (nodeOk k.size v.size l.size r.size n)) ∧ Below w.heap.size w w' := by
  have hfin : Below w.heap.size w (w.alloc (.cells #[.string k, .string v, .string l, .string r] 88)) := (Below.refl _ _).alloc (Nat.le_refl _) _
  by_cases h1 : n < 1
  · have HR : Hid (nodeOk k.size v.size l.size r.size n = false) := by
      show nodeOk k.size v.size l.size r.size n = false
      unfold nodeOk; rw [decide_eq_false (by omega), Bool.false_and]
    have c1 : decide (1 ≤ n) = false := by simpa using h1
    go_enter Tryz.func66, Tryz.ntmps66
    go_wp2_with (first | (go_at_call 85; refine (hashOk_any _ _ _ (by assumption)).mono ?_; rintro e w' ⟨rfl, rfl⟩) | go_in)
    go_ret
    exact ⟨by rw [HR.out]; rfl, hfin⟩
  by_cases h2 : 32 < n
  · have HR : Hid (nodeOk k.size v.size l.size r.size n = false) := by
      show nodeOk k.size v.size l.size r.size n = false
      unfold nodeOk; rw [decide_eq_false (by omega), Bool.false_and]
    have c1 : decide (1 ≤ n) = true := by simp; omega
    have c2 : decide (n ≤ 32) = false := by simpa using h2
    go_enter Tryz.func66, Tryz.ntmps66
    go_wp2_with (first | (go_at_call 85; refine (hashOk_any _ _ _ (by assumption)).mono ?_; rintro e w' ⟨rfl, rfl⟩) | go_in)
    go_ret
    exact ⟨by rw [HR.out]; rfl, hfin⟩
  by_cases h3 : k.size < 1
  · have HR : Hid (nodeOk k.size v.size l.size r.size n = false) := by
      show nodeOk k.size v.size l.size r.size n = false
      unfold nodeOk; rw [decide_eq_false (by omega), Bool.false_and]
    have c1 : decide (1 ≤ n) = true := by simp; omega
    have c2 : decide (n ≤ 32) = true := by simp; omega
    have c3 : decide ((k.size : Int) < 1) = true := by simp; omega
    go_enter Tryz.func66, Tryz.ntmps66
    go_wp2_with (first | (go_at_call 85; refine (hashOk_any _ _ _ (by assumption)).mono ?_; rintro e w' ⟨rfl, rfl⟩) | go_in)
    go_ret
    exact ⟨by rw [HR.out]; rfl, hfin⟩
  by_cases h4 : 256 < k.size
  · have HR : Hid (nodeOk k.size v.size l.size r.size n = false) := by
      show nodeOk k.size v.size l.size r.size n = false
      unfold nodeOk; rw [decide_eq_false (by omega), Bool.false_and]
    have c1 : decide (1 ≤ n) = true := by simp; omega
    have c2 : decide (n ≤ 32) = true := by simp; omega
    have c3 : decide ((k.size : Int) < 1) = false := by simp; omega
    have c4 : decide ((256 : Int) < (k.size : Int)) = true := by simp; omega
    go_enter Tryz.func66, Tryz.ntmps66
    go_wp2_with (first | (go_at_call 85; refine (hashOk_any _ _ _ (by assumption)).mono ?_; rintro e w' ⟨rfl, rfl⟩) | go_in)
    go_ret
    exact ⟨by rw [HR.out]; rfl, hfin⟩
  by_cases h5 : 2000 < v.size
  · have HR : Hid (nodeOk k.size v.size l.size r.size n = false) := by
      show nodeOk k.size v.size l.size r.size n = false
      unfold nodeOk; rw [decide_eq_false (by omega), Bool.false_and]
    have c1 : decide (1 ≤ n) = true := by simp; omega
    have c2 : decide (n ≤ 32) = true := by simp; omega
    have c3 : decide ((k.size : Int) < 1) = false := by simp; omega
    have c4 : decide ((256 : Int) < (k.size : Int)) = false := by simp; omega
    have c5 : decide ((2000 : Int) < (v.size : Int)) = true := by simp; omega
    go_enter Tryz.func66, Tryz.ntmps66
    go_wp2_with (first | (go_at_call 85; refine (hashOk_any _ _ _ (by assumption)).mono ?_; rintro e w' ⟨rfl, rfl⟩) | go_in)
    go_ret
    exact ⟨by rw [HR.out]; rfl, hfin⟩
  by_cases h6 : hashOk l.size n = false
  · have HR : Hid (nodeOk k.size v.size l.size r.size n = false) := by
      show nodeOk k.size v.size l.size r.size n = false
      unfold nodeOk; rw [decide_eq_true (by omega), Bool.true_and, h6, Bool.false_and]
    have c1 : decide (1 ≤ n) = true := by simp; omega
    have c2 : decide (n ≤ 32) = true := by simp; omega
    have c3 : decide ((k.size : Int) < 1) = false := by simp; omega
    have c4 : decide ((256 : Int) < (k.size : Int)) = false := by simp; omega
    have c5 : decide ((2000 : Int) < (v.size : Int)) = false := by simp; omega
    go_enter Tryz.func66, Tryz.ntmps66
    go_wp2_with (first | (go_at_call 85; refine (hashOk_any _ _ _ (by assumption)).mono ?_; rintro e w' ⟨rfl, rfl⟩) | go_in)
    go_ret
    exact ⟨by rw [HR.out]; rfl, hfin⟩
  have h6' : hashOk l.size n = true := by simpa using h6
  clear h6
  have HR : Hid (nodeOk k.size v.size l.size r.size n = hashOk r.size n) := by
    show nodeOk k.size v.size l.size r.size n = hashOk r.size n
    unfold nodeOk; rw [decide_eq_true (by omega), Bool.true_and, h6', Bool.true_and]
  have c1 : decide (1 ≤ n) = true := by simp; omega
  have c2 : decide (n ≤ 32) = true := by simp; omega
  have c3 : decide ((k.size : Int) < 1) = false := by simp; omega
  have c4 : decide ((256 : Int) < (k.size : Int)) = false := by simp; omega
  have c5 : decide ((2000 : Int) < (v.size : Int)) = false := by simp; omega
  go_enter Tryz.func66, Tryz.ntmps66
  go_wp2_with (first | (go_at_call 85; refine (hashOk_any _ _ _ (by assumption)).mono ?_; rintro e w' ⟨rfl, rfl⟩) | go_in)
  go_ret
  exact ⟨by rw [HR.out]; rfl, hfin⟩
theorem sized_b (s : ByteArray) (_hs : s.size ≤ 2097152) (hs' : s.size ≤ 1048576) (w : World) :
    Calls Tryz.prog 67 #[.string s] w fun e w' => ∃ t : ByteArray, e = .returned (.string t) ∧ t.size ≤ s.size + 2 ∧ Hid (t = T (sized s.data.toList)) ∧ Below w.heap.size w w' := by
  have := sized_any s.data.toList hs' w
  rw [T_of] at this
  exact this.mono fun e w' ⟨he, hb⟩ => ⟨_, he, Nat.le_refl _, rfl, hb⟩

def flagOf (l r : Nat) : Nat := (if l = 0 then 0 else 1) + (if r = 0 then 0 else 2)
def encL (k v l r : List UInt8) : List UInt8 := sized k ++ sized v ++ [UInt8.ofNat (flagOf l.length r.length)] ++ l ++ r

theorem enc_no (k v l r : ByteArray) (n : Int) (w : World) (hk : k.size ≤ 1048576) (hv : v.size ≤ 1048576) (hl : l.size ≤ 1048576) (hr : r.size ≤ 1048576) (hok : nodeOk k.size v.size l.size r.size n = false) :
    Calls Tryz.prog 45 #[.agg #[.string k, .string v, .string l, .string r], .int .i64 n] w fun e w' => e = .returned (.string ⟨#[]⟩) ∧ Below w.heap.size w w' := by
  have HC : Hid (∀ w', Calls Tryz.prog 66 #[.agg #[.string k, .string v, .string l, .string r], .int .i64 n] w' fun e w'' => e = .returned (.bool false) ∧ Below w'.heap.size w' w'') := fun w' => by
    have := nodeOk_any k v l r n w' hk hv hl hr
    rw [hok] at this; exact this
  clear hok
  go_enter Tryz.func45, Tryz.ntmps45
  go_wp2_with fail
  refine (HC.out _).mono ?_
  rintro e w1 ⟨rfl, hb1⟩
  go_wp2
  go_ret
  exact ⟨rfl, ((Below.refl _ _).alloc (Nat.le_refl _) _).trans (hb1.mono (by simp))⟩

theorem enc_yes (k v l r : ByteArray) (n : Int) (w : World) (hk : k.size ≤ 1048576) (hv : v.size ≤ 1048576) (hl : l.size ≤ 1048576) (hr : r.size ≤ 1048576) (hok : nodeOk k.size v.size l.size r.size n = true) :
    Calls Tryz.prog 45 #[.agg #[.string k, .string v, .string l, .string r], .int .i64 n] w fun e w' => e = .returned (.string (T (encL k.data.toList v.data.toList l.data.toList r.data.toList))) ∧ Below w.heap.size w w' := by
  have HC : Hid (∀ w', Calls Tryz.prog 66 #[.agg #[.string k, .string v, .string l, .string r], .int .i64 n] w' fun e w'' => e = .returned (.bool true) ∧ Below w'.heap.size w' w'') := fun w' => by
    have := nodeOk_any k v l r n w' hk hv hl hr
    rw [hok] at this; exact this
  clear hok
  by_cases h1 : l.size = 0
  all_goals by_cases h2 : r.size = 0
  all_goals
    have HF : Hid (flagOf l.data.toList.length r.data.toList.length = flagOf l.size r.size) := rfl
    have H12 : Hid ((l.size = 0 ↔ ¬ 0 < l.size) ∧ (r.size = 0 ↔ ¬ 0 < r.size)) := ⟨by omega, by omega⟩
    go_enter Tryz.func45, Tryz.ntmps45
    go_wp2_with fail
    refine (HC.out _).mono ?_
    rintro e w1 ⟨rfl, hb1⟩
    have hs1 : w.heap.size < w1.heap.size := by have := hb1.size; simp at this; omega
    have c0 : w1.cell? ⟨w.heap.size, 0, none⟩ = some (.string k) := (hb1.cell (by simp)).trans (by simp)
    have c1 : w1.cell? ⟨w.heap.size, 1, none⟩ = some (.string v) := (hb1.cell (by simp)).trans (by simp)
    have c2 : w1.cell? ⟨w.heap.size, 2, none⟩ = some (.string l) := (hb1.cell (by simp)).trans (by simp)
    have c3 : w1.cell? ⟨w.heap.size, 3, none⟩ = some (.string r) := (hb1.cell (by simp)).trans (by simp)
    have hbw : Below w.heap.size w w1 := ((Below.refl _ _).alloc (Nat.le_refl _) _).trans (hb1.mono (by simp))
    clear hb1
    go_wp2_with fail
    go_region_held3 (fun w' => w.heap.size < w'.heap.size ∧ w'.cell? ⟨w.heap.size, 0, none⟩ = some (.string k) ∧ w'.cell? ⟨w.heap.size, 1, none⟩ = some (.string v) ∧ w'.cell? ⟨w.heap.size, 2, none⟩ = some (.string l) ∧ w'.cell? ⟨w.heap.size, 3, none⟩ = some (.string r))
      (first | exact ⟨hs1, c0, c1, c2, c3⟩ | (go_split_ands; refine ⟨Nat.lt_of_lt_of_le (by assumption) hbC.size, ?_, ?_, ?_, ?_⟩ <;> (rw [hbC.cell (by assumption)]; assumption)) | (go_split_ands; refine ⟨Nat.lt_of_lt_of_le (by assumption) hbB.size, ?_, ?_, ?_, ?_⟩ <;> (rw [hbB.cell (by assumption)]; assumption)) | (go_split_ands; refine ⟨Nat.lt_of_lt_of_le (by assumption) hbA.size, ?_, ?_, ?_, ?_⟩ <;> (rw [hbA.cell (by assumption)]; assumption)))
      (first | (go_at_call_of 67 (Value.string k); refine (sized_b k (by omega) hk _).mono ?_; rintro e wA ⟨tA, rfl, zA, HA, hbA⟩) | (go_at_call_of 67 (Value.string v); refine (sized_b v (by omega) hv _).mono ?_; rintro e wB ⟨tB, rfl, zB, HB, hbB⟩; have fB : ¬ (9223372036854775807 < tA.size + tB.size) := (by omega)) | (go_at_call 41; refine (byte_i _ (by omega) (by omega) _).mono ?_; rintro e wC ⟨tC, rfl, zC, HCC, hbC⟩; have fC : ¬ (9223372036854775807 < tA.size + tB.size + tC.size) := (by omega); have fD : ¬ (9223372036854775807 < tA.size + tB.size + tC.size + l.size) := (by omega); have fE : ¬ (9223372036854775807 < tA.size + tB.size + tC.size + l.size + r.size) := (by omega); have fF : ¬ (9223372036854775807 < tA.size + tB.size + tC.size + r.size) := (by omega)))
    go_wp2
    go_ret
    refine ⟨congrArg (fun z => Ending.returned (.string z)) ?_, ?_⟩
    · show tA ++ tB ++ tC ++ l ++ r = _
      rw [HA.out, HB.out, HCC.out, byteS_T]
      conv => lhs; rw [← T_of l, ← T_of r]
      rw [T_append, T_append, T_append, T_append]
      unfold encL
      rw [HF.out]
      unfold flagOf
      simp [h1, h2]
    · exact hbw.trans ((((Below.refl _ w1).drew.trans hbA).trans (hbB.mono hbA.size)).trans (hbC.mono (Nat.le_trans hbA.size hbB.size)) |>.mono (Nat.le_of_lt hs1))
theorem bget (p : ByteArray) (k : Nat) (h : k < p.size) : p[k] = p.data.toList.getD k 0 := by
  rw [List.getD_eq_getElem?_getD, List.getElem?_eq_getElem (by exact h)]; rfl
theorem nodeOk_out {k v l r : Nat} {n : Int} (h : nodeOk k v l r n = true) : 1 ≤ n ∧ n ≤ 32 ∧ 1 ≤ k ∧ k ≤ 256 ∧ v ≤ 2000 ∧ (l = 0 ∨ (l : Int) = n) ∧ (r = 0 ∨ (r : Int) = n) := by
  simp only [nodeOk, hashOk, Bool.and_eq_true, Bool.or_eq_true, decide_eq_true_eq] at h
  omega

theorem T_extract (l : List UInt8) (a b : Nat) : (T l).extract a b = T ((l.drop a).take (b - a)) := ByteArray.extract_mk l a b
theorem T_inj {a b : List UInt8} (h : T a = T b) : a = b := by have := congrArg (fun z : ByteArray => z.data.toList) h; exact this

abbrev nodeV (k v l r : ByteArray) : Value := .agg #[.string k, .string v, .string l, .string r]
/-- What EncodeNode answers. -/
def encS (k v l r : ByteArray) (n : Int) : ByteArray := if nodeOk k.size v.size l.size r.size n = true then T (encL k.data.toList v.data.toList l.data.toList r.data.toList) else ⟨#[]⟩
theorem enc_any (k v l r : ByteArray) (n : Int) (w : World) (hk : k.size ≤ 1048576) (hv : v.size ≤ 1048576) (hl : l.size ≤ 1048576) (hr : r.size ≤ 1048576) :
    Calls Tryz.prog 45 #[nodeV k v l r, .int .i64 n] w fun e w' => ∃ t, e = .returned (.string t) ∧ Hid (t = encS k v l r n) ∧ Below w.heap.size w w' := by
  by_cases h : nodeOk k.size v.size l.size r.size n = true
  · exact (enc_yes k v l r n w hk hv hl hr h).mono fun e w' ⟨he, hb⟩ => ⟨_, he, by show _ = encS k v l r n; rw [encS, if_pos h], hb⟩
  · exact (enc_no k v l r n w hk hv hl hr (by simpa using h)).mono fun e w' ⟨he, hb⟩ => ⟨_, he, by show _ = encS k v l r n; rw [encS, if_neg h], hb⟩
/-- A number in four bytes, the lowest first. -/
def four (n : Nat) : List UInt8 := [UInt8.ofNat (n % 256), UInt8.ofNat (n / 256 % 256), UInt8.ofNat (n / 65536 % 256), UInt8.ofNat (n / 16777216 % 256)]

theorem four_any (n : Nat) (hn : n ≤ 1048576) (w : World) :
    Calls Tryz.prog 102 #[.int .i64 (n : Int)] w fun e w' => ∃ t : ByteArray, e = .returned (.string t) ∧ t.size ≤ 4 ∧ Hid (t = T (four n)) ∧ Below w.heap.size w w' := by
  go_enter Tryz.func102, Tryz.ntmps102
  go_wp2_with fail
  refine (byte_i _ (by omega) (by omega) _).mono ?_
  rintro e w1 ⟨t1, rfl, hz1, HT1, hb1⟩
  go_wp2_with fail
  refine (byte_i _ (by omega) (by omega) _).mono ?_
  rintro e w2 ⟨t2, rfl, hz2, HT2, hb2⟩
  go_wp2_with fail
  refine (byte_i _ (by omega) (by omega) _).mono ?_
  rintro e w3 ⟨t3, rfl, hz3, HT3, hb3⟩
  go_wp2_with fail
  refine (byte_i _ (by omega) (by omega) _).mono ?_
  rintro e w4 ⟨t4, rfl, hz4, HT4, hb4⟩
  have hf : ¬ (9223372036854775807 < t1.size + t2.size + t3.size + t4.size) := by omega
  go_wp2
  go_ret
  refine ⟨t1 ++ t2 ++ t3 ++ t4, rfl, by simp only [ByteArray.size_append]; omega, ?_, ((hb1.trans (hb2.mono hb1.size)).trans (hb3.mono (Nat.le_trans hb1.size hb2.size))).trans (hb4.mono (Nat.le_trans (Nat.le_trans hb1.size hb2.size) hb3.size))⟩
  show t1 ++ t2 ++ t3 ++ t4 = T (four n)
  rw [HT1.out, HT2.out, HT3.out, HT4.out, byteS_T, byteS_T, byteS_T, byteS_T, T_append, T_append, T_append]
  have e1 : ((n : Int) % 256).toNat = n % 256 := by omega
  have e2 : ((n : Int) / 256 % 256).toNat = n / 256 % 256 := by omega
  have e3 : ((n : Int) / 65536 % 256).toNat = n / 65536 % 256 := by omega
  have e4 : ((n : Int) / 16777216 % 256).toNat = n / 16777216 % 256 := by omega
  rw [e1, e2, e3, e4]; rfl

def reps (n : Nat) (c : UInt8) : ByteArray := T (List.replicate n c)
theorem reps_size (n : Nat) (c : UInt8) : (reps n c).size = n := by unfold reps; rw [T_size, List.length_replicate]
theorem reps_add (n m : Nat) (c : UInt8) : reps n c ++ reps m c = reps (n + m) c := by unfold reps; rw [T_append, List.replicate_append_replicate]

theorem long_any (c : UInt8) (n : Nat) : ∀ (_hn : n ≤ 1048576) (w : World),
    Calls Tryz.prog 40 #[.int .i64 (n : Int), .string ⟨#[c]⟩] w fun e w' => ∃ t : ByteArray, e = .returned (.string t) ∧ t.size = n ∧ Hid (t = reps n c) ∧ Below w.heap.size w w' := by
  induction n using Nat.strongRecOn with
  | ind n ih =>
  intro hn w
  have hU : Hid ((⟨#[c]⟩ : ByteArray) = reps 1 c ∧ (⟨#[c]⟩ : ByteArray).size = 1) := ⟨rfl, rfl⟩
  by_cases h0 : 0 < n
  · have z0 : decide ((0 : Int) < (n : Int)) = true := by simp; omega
    have hu : (⟨#[c]⟩ : ByteArray).size = 1 := rfl
    obtain ⟨u, hu'⟩ : ∃ u : ByteArray, ⟨#[c]⟩ = u := ⟨_, rfl⟩
    rw [hu'] at hU hu ih ⊢
    clear hu'
    go_enter Tryz.func40, Tryz.ntmps40
    go_wp2_with fail
    go_loopw [5] (fun t wr => ∃ (m : Nat) (x : ByteArray), 1 ≤ m ∧ m ≤ n ∧ t = .string x ∧ x.size = m ∧ Hid (x = reps m c) ∧ wr = w) (fun t _ => n - (match t with | .string x => x.size | _ => 0))
    case atStart => exact ⟨1, u, by omega, by omega, rfl, hu, hU.out.1, rfl⟩
    case round =>
      obtain ⟨m, x, hm1, hm2, rfl, hx, HX, rfl⟩ := hrel
      by_cases h1 : 2 * m ≤ n
      · have z1 : decide ((x.size : Int) * 2 ≤ (n : Int)) = true := by simp; omega
        go_wp2_with fail
        refine ⟨⟨m + m, x ++ x, by omega, by omega, rfl, by rw [ByteArray.size_append, hx], ?_, trivial⟩, ?_⟩
        · show x ++ x = _
          rw [HX.out, reps_add]
        · show n - (x ++ x).size < n - x.size
          rw [ByteArray.size_append, hx]; omega
      · have z1 : decide ((x.size : Int) * 2 ≤ (n : Int)) = false := by simp; omega
        by_cases h2 : m < n
        · have z2 : decide ((x.size : Int) < (n : Int)) = true := by simp; omega
          have z3 : IntKind.i64.wrap ((n : Int) - (m : Int)) = ((n - m : Nat) : Int) := by rw [wrap_i64_in _ (by omega) (by omega)]; omega
          go_wp2_with fail
          refine (ih (n - m) (by omega) (by omega) _).mono ?_
          rintro e w1 ⟨t, rfl, ht, HT, hb⟩
          have z4 : ¬ (9223372036854775807 < x.size + t.size) := by omega
          go_wp2
          go_ret
          refine ⟨x ++ t, rfl, by rw [ByteArray.size_append]; omega, ?_, hb⟩
          show x ++ t = _
          rw [HX.out, HT.out, reps_add]
          congr 1
          omega
        · have z2 : decide ((x.size : Int) < (n : Int)) = false := by simp; omega
          go_wp2
          go_ret
          exact ⟨x, rfl, by omega, by show x = _; rw [HX.out]; congr 1; omega, Below.refl _ _⟩
  · have hn0 : n = 0 := by omega
    subst hn0
    clear ih
    go_enter Tryz.func40, Tryz.ntmps40
    go_wp2_with fail
    go_loopw [5] (fun t wr => t = .string ⟨#[]⟩ ∧ wr = w) (fun _ _ => 0)
    case atStart => exact ⟨rfl, rfl⟩
    case round =>
      obtain ⟨rfl, rfl⟩ := hrel
      go_wp2
      go_ret
      exact ⟨⟨#[]⟩, rfl, rfl, rfl, Below.refl _ _⟩
end Go.Proofs.YtmfhfehemoeeeaaGreatDoor
