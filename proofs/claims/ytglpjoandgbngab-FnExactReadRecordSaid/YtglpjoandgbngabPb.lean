import Derived.Test.YtglpjoandgbngabPa
namespace Go.Proofs.Ytglpjoandgbngab
open Go.RowKit Go.Proofs.Sha

theorem wint (z : Nat) (low : Bool) (b : Nat) (v : Nat) (l : List UInt8) (w : World) (hz : 0 < z) (hz4 : z ≤ 7) (h : Bld b l w) (hl : l.length ≤ 90000) (hv : v ≤ 9223372036854775807) :
    Calls Try.prog 63 #[.pointer (some ⟨b, 0, none⟩), .iface 93 (.agg #[.int .i64 (z : Int), .bool low]), .int .i64 (v : Int)] w fun e w' => e = .returned (.tuple #[]) ∧ Put b (l ++ numTo z low v z) w w' := by
  have hmt : ∀ w : World, (method 269 93 (.agg #[.int .i64 (z : Int), .bool low]) "loop.example/s03048/impl.put").run Try.prog w = .ok (85, .agg #[.int .i64 (z : Int), .bool low]) w := fun _ => by kernel_rfl
  go_enter Try.func63, Try.ntmps63
  go_wp2_with (first | (go_at_call 85; refine (nput z low b v l w hz hz4 h hl hv).mono ?_; rintro e w2 ⟨rfl, hp2⟩))
  go_end0
  exact ⟨rfl, hp2⟩

theorem plain_put (n : Int) (b : Nat) (s : ByteArray) (l : List UInt8) (w : World) (h : Bld b l w) (hl : l.length + s.size ≤ 90000) :
    Calls Try.prog 92 #[.agg #[.int .i64 n], .pointer (some ⟨b, 0, none⟩), .string s] w fun e w' => e = .returned (.tuple #[]) ∧ Put b (l ++ s.data.toList) w w' := by
  go_enter Try.func92, Try.ntmps92
  go_wp2_with (first | (go_at_call 73; refine (ws_any b l s _ (h.alloc _) (by omega)).mono ?_; rintro e w2 ⟨rfl, hp2⟩))
  go_end0
  exact ⟨rfl, ((Put.refl h).alloc _).trans hp2⟩

theorem wplain (n : Int) (b : Nat) (s : ByteArray) (l : List UInt8) (w : World) (h : Bld b l w) (hl : l.length + s.size ≤ 90000) :
    Calls Try.prog 61 #[.pointer (some ⟨b, 0, none⟩), .iface 99 (.agg #[.int .i64 n]), .string s] w fun e w' => e = .returned (.tuple #[]) ∧ Put b (l ++ s.data.toList) w w' := by
  have hmt : ∀ w : World, (method 269 99 (.agg #[.int .i64 n]) "loop.example/s03048/impl.put").run Try.prog w = .ok (92, .agg #[.int .i64 n]) w := fun _ => by kernel_rfl
  go_enter Try.func61, Try.ntmps61
  go_wp2_with (first | (go_at_call 92; refine (plain_put n b s l w h hl).mono ?_; rintro e w2 ⟨rfl, hp2⟩))
  go_end0
  exact ⟨rfl, hp2⟩

theorem sized_put (z : Nat) (low : Bool) (b : Nat) (s : ByteArray) (l : List UInt8) (w : World) (hz : 0 < z) (hz4 : z ≤ 7) (h : Bld b l w) (hl : l.length + s.size ≤ 80000) :
    Calls Try.prog 90 #[.agg #[.int .i64 (z : Int), .bool low], .pointer (some ⟨b, 0, none⟩), .string s] w fun e w' => e = .returned (.tuple #[]) ∧ Put b (l ++ numTo z low s.size z ++ s.data.toList) w w' := by
  go_enter Try.func90, Try.ntmps90
  go_wp2_with (first | (go_at_call 63; refine (wint z low b s.size l _ hz hz4 (h.alloc _) (by omega) (by omega)).mono ?_; rintro e w2 ⟨rfl, hp2⟩) | (go_at_call 61; refine (wplain _ b s _ _ hp2.1 (by rw [List.length_append, numTo_length]; omega)).mono ?_; rintro e w3 ⟨rfl, hp3⟩))
  go_end0
  exact ⟨rfl, (((Put.refl h).alloc _).trans hp2).trans hp3⟩

theorem wsized (z : Nat) (low : Bool) (b : Nat) (s : ByteArray) (l : List UInt8) (w : World) (hz : 0 < z) (hz4 : z ≤ 7) (h : Bld b l w) (hl : l.length + s.size ≤ 80000) :
    Calls Try.prog 61 #[.pointer (some ⟨b, 0, none⟩), .iface 95 (.agg #[.int .i64 (z : Int), .bool low]), .string s] w fun e w' => e = .returned (.tuple #[]) ∧ Put b (l ++ numTo z low s.size z ++ s.data.toList) w w' := by
  have hmt : ∀ w : World, (method 269 95 (.agg #[.int .i64 (z : Int), .bool low]) "loop.example/s03048/impl.put").run Try.prog w = .ok (90, .agg #[.int .i64 (z : Int), .bool low]) w := fun _ => by kernel_rfl
  go_enter Try.func61, Try.ntmps61
  go_wp2_with (first | (go_at_call 90; refine (sized_put z low b s l w hz hz4 h hl).mono ?_; rintro e w2 ⟨rfl, hp2⟩))
  go_end0
  exact ⟨rfl, hp2⟩

theorem wint1 (b : Nat) (v : Nat) (l : List UInt8) (w : World) (h : Bld b l w) (hl : l.length ≤ 90000) (hv : v ≤ 9223372036854775807) :
    Calls Try.prog 63 #[.pointer (some ⟨b, 0, none⟩), .iface 93 (.agg #[.int .i64 1, .bool false]), .int .i64 (v : Int)] w fun e w' => e = .returned (.tuple #[]) ∧ Put b (l ++ [UInt8.ofNat v]) w w' := by
  have := wint 1 false b v l w (by omega) (by omega) h hl hv
  have e : numTo 1 false v 1 = [UInt8.ofNat v] := by simp [numTo, numByte]
  rw [e] at this
  exact this
theorem sector_put (m : Nat) (b : Nat) (s : ByteArray) (l : List UInt8) (w : World) (hm : m ≤ 255) (h : Bld b l w) (hl : l.length + s.size ≤ 80000) :
    Calls Try.prog 130 #[.agg #[.int .i64 (m : Int)], .pointer (some ⟨b, 0, none⟩), .string s] w fun e w' => e = .returned (.tuple #[]) ∧ Put b (l ++ s.data.toList ++ [UInt8.ofNat m]) w w' := by
  go_enter Try.func130, Try.ntmps130
  go_wp2_with (first | (go_at_call 73; refine (ws_any b l s _ (h.alloc _) (by omega)).mono ?_; rintro e w2 ⟨rfl, hp2⟩; have c0 : w2.cell? ⟨w.heap.size, 0, none⟩ = some (.int .i64 (m : Int)) := Lib.cell_of_heap (hp2.cells (heap_alloc_new _ _) (by have := h.lt; omega) (by decide)) 0))
  have HH := wint1 b m _ _ hp2.1 (by rw [List.length_append]; exact Nat.le_trans hl (by omega)) (by omega)
  refine HH.mono ?_
  rintro e w3 ⟨rfl, hp3⟩
  go_wp2
  go_end0
  exact ⟨rfl, (((Put.refl h).alloc _).trans hp2).trans hp3⟩

theorem wsector (m : Nat) (b : Nat) (s : ByteArray) (l : List UInt8) (w : World) (hm : m ≤ 255) (h : Bld b l w) (hl : l.length + s.size ≤ 80000) :
    Calls Try.prog 61 #[.pointer (some ⟨b, 0, none⟩), .iface 116 (.agg #[.int .i64 (m : Int)]), .string s] w fun e w' => e = .returned (.tuple #[]) ∧ Put b (l ++ s.data.toList ++ [UInt8.ofNat m]) w w' := by
  have hmt : ∀ w : World, (method 269 116 (.agg #[.int .i64 (m : Int)]) "loop.example/s03048/impl.put").run Try.prog w = .ok (130, .agg #[.int .i64 (m : Int)]) w := fun _ => by kernel_rfl
  go_enter Try.func61, Try.ntmps61
  go_wp2_with (first | (go_at_call 130; refine (sector_put m b s l w hm h hl).mono ?_; rintro e w2 ⟨rfl, hp2⟩))
  go_end0
  exact ⟨rfl, hp2⟩
end Go.Proofs.Ytglpjoandgbngab
