import Derived.Test.YtglpjoandgbngaaProg
import Derived.Test.YtglpjoandgbngaaB
import Derived.WalkSpells
import Derived.WalkLawsBesides
import Derived.StillTactics
import Derived.Laws.Pointers
import Derived.Deep.RegionHeld3
namespace Go.Proofs.Ytglpjoandgbngaa
open Go.RowKit Go.Proofs.Sha

def byteS (n : Nat) : ByteArray := ⟨#[UInt8.ofNat n]⟩
theorem byte_form (n : Nat) : Value.int .u8 ((n : Int) % 256) = B (UInt8.ofNat n) := by
  unfold B
  rw [UInt8.toNat_ofNat']
  show Value.int .u8 _ = Value.int .u8 ((n % 256 : Nat) : Int)
  rw [Int.natCast_emod]; rfl

set_option maxRecDepth 100000 in
set_option maxHeartbeats 400000 in
theorem byte_any (n : Nat) (_hn : n ≤ 1048576) (w : World) :
    Calls Try.prog 13 #[.int .i64 (n : Int)] w fun e w' => e = .returned (.string (byteS n)) ∧ Below w.heap.size w w' := by
  have hrow : Row (w.alloc (.cells #[.int .u8 ((n : Int) % 256)] 5)) w.heap.size w.heap.size 1 1 ([UInt8.ofNat n].map B) := by
    have e : [UInt8.ofNat n].map B = [.int .u8 ((n : Int) % 256)] := by rw [byte_form]; rfl
    rw [e]
    exact Row.of_block (Nat.le_refl _) (heap_alloc_new w (.cells #[.int .u8 ((n : Int) % 256)] 5)) 1 (by simp) (.inl rfl)
  go_enter Try.func13, Try.ntmps13
  go_wp2_with (refine wpList_string_row _ rfl (.tmp 5) 38 9 5 rfl w.heap.size w.heap.size 1 1 [UInt8.ofNat n] rfl hrow Try.underlying38 Try.underlying5 Try.underlying9 ?_)
  go_ret
  exact ⟨rfl, (Below.refl _ _).alloc (Nat.le_refl _) _⟩

theorem byte_i (m : Int) (h0 : 0 ≤ m) (h1 : m ≤ 1048576) (w : World) :
    Calls Try.prog 13 #[.int .i64 m] w fun e w' => ∃ t : ByteArray, e = .returned (.string t) ∧ t.size ≤ 1 ∧ Hid (t = byteS m.toNat) ∧ Below w.heap.size w w' := by
  obtain ⟨n, rfl⟩ := Int.eq_ofNat_of_zero_le h0
  rw [Int.toNat_natCast]
  exact (byte_any n (by omega) w).mono fun e w' ⟨he, hb⟩ => ⟨_, he, Nat.le_refl _, rfl, hb⟩

/-- A text of bytes. -/
def T (l : List UInt8) : ByteArray := ⟨l.toArray⟩
theorem T_data (l : List UInt8) : (T l).data.toList = l := rfl
theorem T_size (l : List UInt8) : (T l).size = l.length := rfl
theorem T_of (s : ByteArray) : T s.data.toList = s := by cases s; rfl
theorem T_append (a b : List UInt8) : T a ++ T b = T (a ++ b) := by
  apply ByteArray.ext
  show (T a ++ T b).data = _
  rw [ByteArray.data_append]
  apply Array.ext'
  simp [T]

def sized (l : List UInt8) : List UInt8 := UInt8.ofNat (l.length / 256) :: UInt8.ofNat (l.length % 256) :: l
theorem byteS_T (n : Nat) : byteS n = T [UInt8.ofNat n] := rfl

def hashOk (n : Nat) (w : Int) : Bool := decide (n = 0) || decide ((n : Int) = w)
/-- Is the node valid for the width? -/
def nodeOk (k v l r : Nat) (w : Int) : Bool := decide (1 ≤ w ∧ w ≤ 32 ∧ 1 ≤ k ∧ k ≤ 256 ∧ v ≤ 2000) && (hashOk l w && hashOk r w)

end Go.Proofs.Ytglpjoandgbngaa
