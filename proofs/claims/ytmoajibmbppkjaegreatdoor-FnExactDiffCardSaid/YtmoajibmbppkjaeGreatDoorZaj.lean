import Derived.Test.YtmoajibmbppkjaeGreatDoorZai
import Derived.Laws.MakeOwn
import Derived.Laws.OwnMore
import Derived.Test.YtmoajibmbppkjaeGreatDoorProg
import Derived.Test.YtmoajibmbppkjaeGreatDoorZae
import Derived.WalkSpells
import Derived.WalkLawsBesides
import Derived.StillTactics
import Derived.Laws.Pointers
import Derived.Deep.RegionHeld3
namespace Go.Proofs.YtmoajibmbppkjaeGreatDoor
open Go.RowKit Go.Proofs.Sha

theorem make29 (n : Nat) (hn : n ≤ 1048576) (W : World) : (Instr.makeSlice 22 (.int .i64 (n : Int)) (.int .i64 (n : Int))).run Tryz.prog W = .ok (.slice (some ⟨W.heap.size, 0, none⟩) n n) (W.alloc (.cells ((List.replicate n ⟨#[]⟩).map Value.string).toArray 9)) := by
  obtain ⟨i0, hi, hz0, hz1, hz2⟩ := info_parts info9
  have e : madeCells (Value.string ⟨#[]⟩).cells (((n : Nat) : Int).toNat * i0.size) = ((List.replicate n ⟨#[]⟩).map Value.string).toArray := by
    rw [hz1, Int.toNat_natCast, Nat.mul_one]
    show madeCells #[.string ⟨#[]⟩] n = _
    rw [← Array.toList_inj, toList_madeCells_one, List.map_replicate]
  have h := run_make (P := Tryz.prog) W 22 9 i0 (.string ⟨#[]⟩) Tryz.underlying22 hi hz0 .i64 .i64 (n : Int) (n : Int) (by omega) (by omega) (by rw [hz2]; omega) (by omega)
  rw [e] at h
  simpa using h
theorem Row.sarg {w : World} {base g c : Nat} {ss : List ByteArray} (h : Row w base g ss.length c (ss.map Value.string)) (hs : SmallS ss) : SArg (some ⟨g, 0, none⟩) ss w := by
  refine RArg.sarg ⟨fun _ => ⟨g, 0, rfl, h.lt, fun j hj => ?_⟩⟩ hs
  rw [Nat.zero_add, h.cell j hj, List.getElem?_map, List.getElem?_eq_getElem hj, List.getD_eq_getElem?_getD, List.getElem?_eq_getElem hj]
  rfl

/-- The first k of xs, and zeros. -/
def partS (xs : List ByteArray) (k : Nat) : List ByteArray := xs.take k ++ List.replicate (xs.length - k) ⟨#[]⟩
theorem partS_zero (xs : List ByteArray) : partS xs 0 = List.replicate xs.length ⟨#[]⟩ := by simp [partS]
theorem partS_all (xs : List ByteArray) : partS xs xs.length = xs := by simp [partS]
theorem partS_len (xs : List ByteArray) (k : Nat) (h : k ≤ xs.length) : (partS xs k).length = xs.length := by simp [partS]; omega
theorem partS_set (xs : List ByteArray) (k : Nat) (h : k < xs.length) : ((partS xs k).map Value.string).set k (Value.string (xs.getD k ⟨#[]⟩)) = (partS xs (k + 1)).map Value.string := by
  rw [← List.map_set]
  congr 1
  have e : xs.take (k + 1) = xs.take k ++ [xs[k]] := by rw [List.take_add_one, List.getElem?_eq_getElem h]; rfl
  unfold partS
  rw [show xs.length - k = (xs.length - (k + 1)) + 1 by omega, List.replicate_succ, List.set_append_right _ _ (by rw [List.length_take]; omega), List.length_take, show k - min k xs.length = 0 by omega, List.set_cons_zero, e, List.getD_eq_getElem?_getD, List.getElem?_eq_getElem h, List.append_assoc]
  rfl

set_option maxRecDepth 100000 in
theorem toStringS_any (a : Option Addr) (xs : List ByteArray) (c : Nat) (w : World) (h : SArg a xs w) :
    Calls Tryz.prog 50 #[.slice a xs.length c] w fun e w' => ∃ g, e = .returned (.slice (some ⟨g, 0, none⟩) xs.length xs.length) ∧ Row w' w.heap.size g xs.length xs.length (xs.map Value.string) ∧ Below w.heap.size w w' := by
  have hn := h.le
  have hmk := make29 xs.length hn
  go_enter Tryz.func50, Tryz.ntmps50
  have hrow0 : Row (w.alloc (.cells ((List.replicate xs.length ⟨#[]⟩).map Value.string).toArray 9)) w.heap.size w.heap.size xs.length xs.length ((partS xs 0).map Value.string) := by
    have := Row.of_block (Nat.le_refl w.heap.size) (heap_alloc_new w (.cells ((List.replicate xs.length ⟨#[]⟩).map Value.string).toArray 9)) xs.length (by simp) (.inl rfl)
    simpa [partS_zero] using this
  have hb0 : Below w.heap.size w (w.alloc (.cells ((List.replicate xs.length ⟨#[]⟩).map Value.string).toArray 9)) := (Below.refl _ _).alloc (Nat.le_refl _) _
  obtain ⟨o, ho⟩ : ∃ o, (.cells ((List.replicate xs.length ⟨#[]⟩).map Value.string).toArray 9 : Obj) = o := ⟨_, rfl⟩
  rw [ho] at hrow0 hb0 hmk
  clear ho
  go_wp2_with fail
  go_loopw [4] (fun t wr => ∃ k : Nat, k ≤ xs.length ∧ t = .int .i64 (k : Int) ∧ Row wr w.heap.size w.heap.size xs.length xs.length ((partS xs k).map Value.string) ∧ Below w.heap.size w wr) (fun t _ => xs.length - (intOf t).toNat)
  case atStart => exact ⟨0, Nat.zero_le _, rfl, hrow0, hb0⟩
  case round =>
    clear hrow0 hb0 hmk
    obtain ⟨k, hk, rfl, hrow, hbel⟩ := hrel
    by_cases hlt : k < xs.length
    · have z1 : decide ((k : Int) < (xs.length : Int)) = true := by simp; omega
      obtain ⟨b, off, rfl, hbl, hc⟩ := (h.below hbel).at_ (by omega)
      have hcx := hc k hlt
      obtain ⟨y, hy⟩ := Option.isSome_iff_exists.1 (hrow.room k hlt)
      have hfr := hrow.free k hlt
      obtain ⟨x, hx⟩ : ∃ x, xs.getD k ⟨#[]⟩ = x := ⟨_, rfl⟩
      rw [hx] at hcx
      clear hc
      obtain ⟨g, hg⟩ : ∃ g, w.heap.size = g := ⟨_, rfl⟩
      rw [hg] at hy hfr hrow hbel ⊢
      go_wp2_with fail
      go_roundw
      case rel =>
        have e := hrow.set k hlt (Value.string (xs.getD k ⟨#[]⟩))
        rw [partS_set xs k hlt, hx] at e
        exact ⟨k + 1, hlt, rfl, e, hbel.setCell (Nat.le_refl _) _⟩
      case measure => simp [intOf]; omega
    · obtain rfl : k = xs.length := by omega
      have z1 : decide ((xs.length : Int) < (xs.length : Int)) = false := by simp
      rw [partS_all] at hrow
      go_wp2_with fail
      go_ret
      exact ⟨_, rfl, hrow, hbel⟩

set_option maxRecDepth 100000 in
theorem eqStringS_same (a a2 : Option Addr) (xs : List ByteArray) (c c2 : Nat) (w : World) (h : SArg a xs w) (h2 : SArg a2 xs w) :
    Calls Tryz.prog 55 #[.slice a xs.length c, .slice a2 xs.length c2] w fun e w' => e = .returned (.bool true) ∧ Below w.heap.size w w' := by
  have hn := h.le
  go_enter Tryz.func55, Tryz.ntmps55
  go_wp2_with fail
  go_loopw [5] (fun t wr => ∃ k : Nat, k ≤ xs.length ∧ t = .int .i64 (k : Int) ∧ Below w.heap.size w wr) (fun t _ => xs.length - (intOf t).toNat)
  case atStart => exact ⟨0, Nat.zero_le _, rfl, Below.refl _ _⟩
  case round =>
    obtain ⟨k, hk, rfl, hbel⟩ := hrel
    by_cases hlt : k < xs.length
    · have z1 : decide ((k : Int) < (xs.length : Int)) = true := by simp; omega
      obtain ⟨b, off, rfl, hbl, hc⟩ := (h.below hbel).at_ (by omega)
      obtain ⟨b2, off2, rfl, hbl2, hc2⟩ := (h2.below hbel).at_ (by omega)
      have hcx := hc k hlt
      have hcy := hc2 k hlt
      obtain ⟨x, hx⟩ : ∃ x, xs.getD k ⟨#[]⟩ = x := ⟨_, rfl⟩
      rw [hx] at hcx hcy
      have hq : (x.toList != x.toList) = false := by simp
      clear hc hc2 hx
      have b1 : (k : Int) < (xs.length : Int) := by omega
      go_wp2_with fail
      go_region_held3 (fun W => W.cell? ⟨b, off + k, none⟩ = some (.string x) ∧ W.cell? ⟨b2, off2 + k, none⟩ = some (.string x)) (exact ⟨hcx, hcy⟩) (fail)
      go_wp2_with fail
      go_roundw
      case rel => exact ⟨k + 1, hlt, rfl, hbel.drew⟩
      case measure => simp [intOf]; omega
    · obtain rfl : k = xs.length := by omega
      have z1 : decide ((xs.length : Int) < (xs.length : Int)) = false := by simp
      go_wp2_with fail
      go_ret
      exact ⟨rfl, hbel⟩
end Go.Proofs.YtmoajibmbppkjaeGreatDoor
namespace Go.Proofs.YtmoajibmbppkjaeGreatDoor
open Go.RowKit Go.Proofs.Sha

def byteS (n : Nat) : ByteArray := ⟨#[UInt8.ofNat n]⟩
theorem byte_form (n : Nat) : Value.int .u8 ((n : Int) % 256) = B (UInt8.ofNat n) := by
  unfold B
  rw [UInt8.toNat_ofNat']
  show Value.int .u8 _ = Value.int .u8 ((n % 256 : Nat) : Int)
  rw [Int.natCast_emod]; rfl

set_option maxRecDepth 100000 in
set_option maxHeartbeats 400000 in
theorem byte_any (n : Nat) (_hn : n ≤ 1048576) (w : World) :
    Calls Tryz.prog 122 #[.int .i64 (n : Int)] w fun e w' => e = .returned (.string (byteS n)) ∧ Below w.heap.size w w' := by
  have hrow : Row (w.alloc (.cells #[.int .u8 ((n : Int) % 256)] 5)) w.heap.size w.heap.size 1 1 ([UInt8.ofNat n].map B) := by
    have e : [UInt8.ofNat n].map B = [.int .u8 ((n : Int) % 256)] := by rw [byte_form]; rfl
    rw [e]
    exact Row.of_block (Nat.le_refl _) (heap_alloc_new w (.cells #[.int .u8 ((n : Int) % 256)] 5)) 1 (by simp) (.inl rfl)
  go_enter Tryz.func122, Tryz.ntmps122
  go_wp2_with (refine wpList_string_row _ rfl (.tmp 5) 36 9 5 rfl w.heap.size w.heap.size 1 1 [UInt8.ofNat n] rfl hrow Tryz.underlying36 Tryz.underlying5 Tryz.underlying9 ?_)
  go_ret
  exact ⟨rfl, (Below.refl _ _).alloc (Nat.le_refl _) _⟩

theorem byte_i (m : Int) (h0 : 0 ≤ m) (h1 : m ≤ 1048576) (w : World) :
    Calls Tryz.prog 122 #[.int .i64 m] w fun e w' => ∃ t : ByteArray, e = .returned (.string t) ∧ t.size ≤ 1 ∧ Hid (t = byteS m.toNat) ∧ Below w.heap.size w w' := by
  obtain ⟨n, rfl⟩ := Int.eq_ofNat_of_zero_le h0
  rw [Int.toNat_natCast]
  exact (byte_any n (by omega) w).mono fun e w' ⟨he, hb⟩ => ⟨_, he, Nat.le_refl _, rfl, hb⟩

/-- A text of bytes. -/
def T (l : List UInt8) : ByteArray := ⟨l.toArray⟩
theorem T_data (l : List UInt8) : (T l).data.toList = l := rfl
theorem T_size (l : List UInt8) : (T l).size = l.length := rfl
theorem T_of (s : ByteArray) : T s.data.toList = s := by cases s; rfl
theorem T_append (a b : List UInt8) : T a ++ T b = T (a ++ b) := by
  apply ByteArray.ext
  show (T a ++ T b).data = _
  rw [ByteArray.data_append]
  apply Array.ext'
  simp [T]

def sized (l : List UInt8) : List UInt8 := UInt8.ofNat (l.length / 256) :: UInt8.ofNat (l.length % 256) :: l
theorem byteS_T (n : Nat) : byteS n = T [UInt8.ofNat n] := rfl

set_option maxRecDepth 100000 in
set_option maxHeartbeats 400000 in
theorem sized_any (l : List UInt8) (hl : l.length ≤ 1048576) (w : World) :
    Calls Tryz.prog 158 #[.string (T l)] w fun e w' => e = .returned (.string (T (sized l))) ∧ Below w.heap.size w w' := by
  have hs := T_size l
  obtain ⟨s, hS⟩ : ∃ s, T l = s := ⟨_, rfl⟩
  rw [hS] at hs
  rw [hS]
  have HS : Hid (T l = s ∧ s.size = l.length) := ⟨hS, hs⟩
  have hs2 : s.size ≤ 1048576 := by omega
  clear hS hs
  go_enter Tryz.func158, Tryz.ntmps158
  go_wp2_with fail
  refine (byte_i _ (by omega) (by omega) _).mono ?_
  rintro e w1 ⟨t1, rfl, hz1, HT1, hb1⟩
  go_wp2_with fail
  refine (byte_i _ (by omega) (by omega) _).mono ?_
  rintro e w2 ⟨t2, rfl, hz2, HT2, hb2⟩
  go_wp2
  go_ret
  refine ⟨congrArg (fun z => Ending.returned (.string z)) ?_, hb1.trans (hb2.mono hb1.size)⟩
  show t1 ++ t2 ++ s = T (sized l)
  rw [HT1.out, HT2.out, byteS_T, byteS_T, ← HS.out.1, T_append, T_append]
  have e1 : ((T l).size / 256 : Int).toNat = l.length / 256 := by rw [T_size]; omega
  have e2 : ((T l).size % 256 : Int).toNat = l.length % 256 := by rw [T_size]; omega
  rw [e1, e2]; rfl

def hashOk (n : Nat) (w : Int) : Bool := decide (n = 0) || decide ((n : Int) = w)
set_option maxRecDepth 100000 in
set_option maxHeartbeats 400000 in
theorem hashOk_any (s : ByteArray) (k : Int) (w : World) (_hs : s.size ≤ 1048576) :
    Calls Tryz.prog 106 #[.string s, .int .i64 k] w fun e w' => e = .returned (.bool (hashOk s.size k)) ∧ w = w' := by
  by_cases h0 : s.size = 0
  · have c0 : ((s.size : Int) == 0) = true := by rw [h0]; rfl
    have HR : Hid (hashOk s.size k = true) := by show hashOk s.size k = true; unfold hashOk; simp [h0]
    clear h0
    go_enter Tryz.func106, Tryz.ntmps106
    go_wp2
    go_ret
    exact ⟨by rw [HR.out]; rfl, rfl⟩
  · have c0 : ((s.size : Int) == 0) = false := by rw [beq_eq_false_iff_ne]; omega
    have HR : Hid (hashOk s.size k = ((s.size : Int) == k)) := by
      show hashOk s.size k = ((s.size : Int) == k)
      unfold hashOk; rw [decide_eq_false h0, Bool.false_or, Bool.eq_iff_iff]; simp
    clear h0
    go_enter Tryz.func106, Tryz.ntmps106
    go_wp2
    go_ret
    exact ⟨by rw [HR.out]; rfl, rfl⟩

/-- Is the node valid for the width? -/
def nodeOk (k v l r : Nat) (w : Int) : Bool := decide (1 ≤ w ∧ w ≤ 32 ∧ 1 ≤ k ∧ k ≤ 256 ∧ v ≤ 2000) && (hashOk l w && hashOk r w)

set_option maxRecDepth 100000 in
set_option maxHeartbeats 400000 in
theorem nodeOk_any (k v l r : ByteArray) (n : Int) (w : World) (hk : k.size ≤ 1048576) (hv : v.size ≤ 1048576) (hl : l.size ≤ 1048576) (hr : r.size ≤ 1048576) :
    Calls Tryz.prog 157 #[.agg #[.string k, .string v, .string l, .string r], .int .i64 n] w fun e w' => e = .returned (.bool (nodeOk k.size v.size l.size r.size n)) ∧ Below w.heap.size w w' := by
  have hfin : Below w.heap.size w (w.alloc (.cells #[.string k, .string v, .string l, .string r] 159)) := (Below.refl _ _).alloc (Nat.le_refl _) _
  by_cases h1 : n < 1
  · have HR : Hid (nodeOk k.size v.size l.size r.size n = false) := by
      show nodeOk k.size v.size l.size r.size n = false
      unfold nodeOk; rw [decide_eq_false (by omega), Bool.false_and]
    have c1 : decide (1 ≤ n) = false := by simpa using h1
    go_enter Tryz.func157, Tryz.ntmps157
    go_wp2_with (first | (go_at_call 106; refine (hashOk_any _ _ _ (by assumption)).mono ?_; rintro e w' ⟨rfl, rfl⟩) | go_in)
    go_ret
    exact ⟨by rw [HR.out]; rfl, hfin⟩
  by_cases h2 : 32 < n
  · have HR : Hid (nodeOk k.size v.size l.size r.size n = false) := by
      show nodeOk k.size v.size l.size r.size n = false
      unfold nodeOk; rw [decide_eq_false (by omega), Bool.false_and]
    have c1 : decide (1 ≤ n) = true := by simp; omega
    have c2 : decide (n ≤ 32) = false := by simpa using h2
    go_enter Tryz.func157, Tryz.ntmps157
    go_wp2_with (first | (go_at_call 106; refine (hashOk_any _ _ _ (by assumption)).mono ?_; rintro e w' ⟨rfl, rfl⟩) | go_in)
    go_ret
    exact ⟨by rw [HR.out]; rfl, hfin⟩
  by_cases h3 : k.size < 1
  · have HR : Hid (nodeOk k.size v.size l.size r.size n = false) := by
      show nodeOk k.size v.size l.size r.size n = false
      unfold nodeOk; rw [decide_eq_false (by omega), Bool.false_and]
    have c1 : decide (1 ≤ n) = true := by simp; omega
    have c2 : decide (n ≤ 32) = true := by simp; omega
    have c3 : decide ((k.size : Int) < 1) = true := by simp; omega
    go_enter Tryz.func157, Tryz.ntmps157
    go_wp2_with (first | (go_at_call 106; refine (hashOk_any _ _ _ (by assumption)).mono ?_; rintro e w' ⟨rfl, rfl⟩) | go_in)
    go_ret
    exact ⟨by rw [HR.out]; rfl, hfin⟩
  by_cases h4 : 256 < k.size
  · have HR : Hid (nodeOk k.size v.size l.size r.size n = false) := by
      show nodeOk k.size v.size l.size r.size n = false
      unfold nodeOk; rw [decide_eq_false (by omega), Bool.false_and]
    have c1 : decide (1 ≤ n) = true := by simp; omega
    have c2 : decide (n ≤ 32) = true := by simp; omega
    have c3 : decide ((k.size : Int) < 1) = false := by simp; omega
    have c4 : decide ((256 : Int) < (k.size : Int)) = true := by simp; omega
    go_enter Tryz.func157, Tryz.ntmps157
    go_wp2_with (first | (go_at_call 106; refine (hashOk_any _ _ _ (by assumption)).mono ?_; rintro e w' ⟨rfl, rfl⟩) | go_in)
    go_ret
    exact ⟨by rw [HR.out]; rfl, hfin⟩
  by_cases h5 : 2000 < v.size
  · have HR : Hid (nodeOk k.size v.size l.size r.size n = false) := by
      show nodeOk k.size v.size l.size r.size n = false
      unfold nodeOk; rw [decide_eq_false (by omega), Bool.false_and]
    have c1 : decide (1 ≤ n) = true := by simp; omega
    have c2 : decide (n ≤ 32) = true := by simp; omega
    have c3 : decide ((k.size : Int) < 1) = false := by simp; omega
    have c4 : decide ((256 : Int) < (k.size : Int)) = false := by simp; omega
    have c5 : decide ((2000 : Int) < (v.size : Int)) = true := by simp; omega
    go_enter Tryz.func157, Tryz.ntmps157
    go_wp2_with (first | (go_at_call 106; refine (hashOk_any _ _ _ (by assumption)).mono ?_; rintro e w' ⟨rfl, rfl⟩) | go_in)
    go_ret
    exact ⟨by rw [HR.out]; rfl, hfin⟩
  by_cases h6 : hashOk l.size n = false
  · have HR : Hid (nodeOk k.size v.size l.size r.size n = false) := by
      show nodeOk k.size v.size l.size r.size n = false
      unfold nodeOk; rw [decide_eq_true (by omega), Bool.true_and, h6, Bool.false_and]
    have c1 : decide (1 ≤ n) = true := by simp; omega
    have c2 : decide (n ≤ 32) = true := by simp; omega
    have c3 : decide ((k.size : Int) < 1) = false := by simp; omega
    have c4 : decide ((256 : Int) < (k.size : Int)) = false := by simp; omega
    have c5 : decide ((2000 : Int) < (v.size : Int)) = false := by simp; omega
    go_enter Tryz.func157, Tryz.ntmps157
    go_wp2_with (first | (go_at_call 106; refine (hashOk_any _ _ _ (by assumption)).mono ?_; rintro e w' ⟨rfl, rfl⟩) | go_in)
    go_ret
    exact ⟨by rw [HR.out]; rfl, hfin⟩
  have h6' : hashOk l.size n = true := by simpa using h6
  clear h6
  have HR : Hid (nodeOk k.size v.size l.size r.size n = hashOk r.size n) := by
    show nodeOk k.size v.size l.size r.size n = hashOk r.size n
    unfold nodeOk; rw [decide_eq_true (by omega), Bool.true_and, h6', Bool.true_and]
  have c1 : decide (1 ≤ n) = true := by simp; omega
  have c2 : decide (n ≤ 32) = true := by simp; omega
  have c3 : decide ((k.size : Int) < 1) = false := by simp; omega
  have c4 : decide ((256 : Int) < (k.size : Int)) = false := by simp; omega
  have c5 : decide ((2000 : Int) < (v.size : Int)) = false := by simp; omega
  go_enter Tryz.func157, Tryz.ntmps157
  go_wp2_with (first | (go_at_call 106; refine (hashOk_any _ _ _ (by assumption)).mono ?_; rintro e w' ⟨rfl, rfl⟩) | go_in)
  go_ret
  exact ⟨by rw [HR.out]; rfl, hfin⟩
end Go.Proofs.YtmoajibmbppkjaeGreatDoor
