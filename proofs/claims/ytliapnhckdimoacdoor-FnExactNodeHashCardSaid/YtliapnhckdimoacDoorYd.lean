import Derived.Test.YtliapnhckdimoacDoorYb
import Derived.Test.YtliapnhckdimoacDoorYc
import Derived.Shelf.Strings.BuilderF
import Derived.Shelf.Strings.BuilderK
import Derived.Shelf.Strconv.Clone
import Derived.Test.YtliapnhckdimoacDoorProg
namespace Go.Proofs.YtliapnhckdimoacDoor
open Go.RowKit Go.Proofs.Sha

theorem sha_len (l : List UInt8) : (sha l).length = 32 := by unfold sha; rw [outTo_length]
theorem extract_take (M : List UInt8) (n : Nat) : (⟨M.toArray⟩ : ByteArray).extract 0 n = ⟨(M.take n).toArray⟩ := by
  apply ByteArray.ext
  rw [ByteArray.data_extract]
  apply Array.ext'
  rw [Array.toList_extract, List.extract_eq_take_drop]
  simp

set_option maxRecDepth 100000 in
set_option maxHeartbeats 400000 in
theorem sdig_no (s : ByteArray) (k : Int) (w : World) (h : k < 1 ∨ 32 < k) :
    Calls Tryd.prog 25 #[.string s, .int .i64 k] w fun e w' => e = .returned (.string ⟨#[]⟩) ∧ Below w.heap.size w w' := by
  rcases h with h | h
  · have h1 : decide (1 ≤ k) = false := by simpa using h
    go_enter Tryd.func25, Tryd.ntmps25
    go_wp2
    go_ret
    exact ⟨rfl, Below.refl _ _⟩
  · have h1 : 1 ≤ k := by omega
    have h2 : decide (k ≤ 32) = false := by simpa using h
    go_enter Tryd.func25, Tryd.ntmps25
    go_wp2
    go_ret
    exact ⟨rfl, Below.refl _ _⟩

set_option maxRecDepth 100000 in
set_option maxHeartbeats 400000 in
theorem sdig_yes (s : ByteArray) (k : Nat) (w : World) (hs : s.size ≤ 1048576) (h1 : 1 ≤ k) (h2 : k ≤ 32) :
    Calls Tryd.prog 25 #[.string s, .int .i64 (k : Int)] w fun e w' => e = .returned (.string ⟨((sha s.data.toList).take k).toArray⟩) ∧ Below w.heap.size w w' := by
  have hl := sha_len s.data.toList
  have hx := extract_take (sha s.data.toList) k
  have hsp := spec_any s w hs
  obtain ⟨X, hX⟩ : ∃ X : ByteArray, X = ⟨(sha s.data.toList).toArray⟩ := ⟨_, rfl⟩
  have hXs : X.size = 32 := by rw [hX]; exact hl
  rw [← hX] at hx hsp
  have HX : Hid (X.extract 0 k = ⟨((sha s.data.toList).take k).toArray⟩) := hx
  clear hX hx hl
  have q1 : (1 : Int) ≤ (k : Int) := by omega
  have q2 : (k : Int) ≤ 32 := by omega
  go_enter Tryd.func25, Tryd.ntmps25
  go_wp2_with (first | (go_at_call 58; refine hsp.mono ?_; rintro e w' ⟨rfl, hb⟩) | go_in)
  go_ret
  rw [← HX.out]
  exact ⟨rfl, hb⟩
end Go.Proofs.YtliapnhckdimoacDoor
namespace Go.Proofs
open Go.Shelf
def Tryd.lays169_ren : Go.Shelf.Ren := ⟨fun | 169 => 81 | n => n, fun | 70 => 122 | 9 => 9 | 0 => 0 | 72 => 124 | 37 => 94 | 127 => 147 | 3 => 3 | 5 => 5 | n => n, fun | n => n⟩
theorem Tryd.lays169 : Go.Proofs.Lays.n169 Tryd.prog Tryd.lays169_ren := {
  mixed := by kernel_rfl
  f169 := Tryd.func81.trans (congrArg some (by kernel_rfl))
  t0 := Tryd.underlying0
  a0 := Tryd.isAgg0
  z0 := Tryd.sizeOf0
  v0 := Tryd.zeroValue0
  t3 := Tryd.underlying3
  a3 := Tryd.isAgg3
  z3 := Tryd.sizeOf3
  v3 := Tryd.zeroValue3
  t9 := Tryd.underlying9
  a9 := Tryd.isAgg9
  z9 := Tryd.sizeOf9
  v9 := Tryd.zeroValue9
  t37 := Tryd.underlying94
  a37 := Tryd.isAgg94
  z37 := Tryd.sizeOf94
  v37 := Tryd.zeroValue94
  t70 := Tryd.underlying122
  a70 := Tryd.isAgg122
  z70 := Tryd.sizeOf122
  v70 := Tryd.zeroValue122
  t72 := Tryd.underlying124
  a72 := Tryd.isAgg124
  z72 := Tryd.sizeOf124
  v72 := Tryd.zeroValue124
  t127 := Tryd.underlying147
  a127 := Tryd.isAgg147
  z127 := Tryd.sizeOf147
  v127 := Tryd.zeroValue147 }
theorem Tryd.Builder_Extra_169 : Builder.Extra Tryd.prog Tryd.lays169_ren := {
  sizeBuilder := by kernel_rfl
  liesBuilder := by kernel_rfl
  t5 := Tryd.underlying5
  a5 := Tryd.isAgg5
  z5 := Tryd.sizeOf5
  v5 := Tryd.zeroValue5
  infoByte := by kernel_rfl
  cellsByte := by kernel_rfl
  sizeByte := by kernel_rfl
  neB5 := by decide }
open Go.RowKit in
theorem Tryd.Builder_String_any_k (B b : Nat) (l : List UInt8) (w : World) (h : Lib.IsBuilderF 124 5 B b (Lib.byteCells l) w) (hBw : B ≤ w.heap.size) :
    Calls Tryd.prog 81 #[.pointer (some ⟨b, 0, none⟩)] w fun e w' => e = .returned (.string ⟨l.toArray⟩) ∧ (Lib.IsBuilderF 124 5 B b (Lib.byteCells l) w' ∧ Below B w w' ∧ Lib.OthersKept 5 (some b) w w') := Any.Builder_String_any_k Tryd.lays169 Tryd.Builder_Extra_169 B b l w h hBw
def Tryd.laysM316_ren : Go.Shelf.Ren := ⟨fun | 316 => 153 | n => n, fun | 9 => 9 | 3 => 3 | 4 => 4 | 37 => 94 | 0 => 0 | 127 => 147 | 5 => 5 | n => n, fun | n => n⟩
theorem Tryd.laysM316 : Go.Proofs.LaysM.n316 Tryd.prog Tryd.laysM316_ren := {
  mixed := by kernel_rfl
  f316 := Tryd.func153.trans (congrArg some (by kernel_rfl))
  t0 := Tryd.underlying0
  a0 := Tryd.isAgg0
  z0 := Tryd.sizeOf0
  v0 := Tryd.zeroValue0
  t3 := Tryd.underlying3
  a3 := Tryd.isAgg3
  z3 := Tryd.sizeOf3
  v3 := Tryd.zeroValue3
  t4 := Tryd.underlying4
  a4 := Tryd.isAgg4
  z4 := Tryd.sizeOf4
  v4 := Tryd.zeroValue4
  t9 := Tryd.underlying9
  a9 := Tryd.isAgg9
  z9 := Tryd.sizeOf9
  v9 := Tryd.zeroValue9
  t37 := Tryd.underlying94
  a37 := Tryd.isAgg94
  z37 := Tryd.sizeOf94
  v37 := Tryd.zeroValue94
  t127 := Tryd.underlying147
  a127 := Tryd.isAgg147
  z127 := Tryd.sizeOf147
  v127 := Tryd.zeroValue147
  t5 := Tryd.underlying5
  a5 := Tryd.isAgg5
  z5 := Tryd.sizeOf5
  v5 := Tryd.zeroValue5
  i0 := by kernel_rfl
  i3 := by kernel_rfl
  i4 := by kernel_rfl
  i5 := by kernel_rfl
  i9 := by kernel_rfl
  i37 := by kernel_rfl
  i127 := by kernel_rfl }
open Go.RowKit in
theorem Tryd.stringslite_Clone (s : ByteArray) (w : World) (hlim : s.size ≤ 281474976710656) :
    Calls Tryd.prog 153 #[.string s] w fun e w' => e = .returned (.string s) ∧ Below w.heap.size w w' := Any.stringslite_Clone Tryd.laysM316 s w hlim
def Tryd.lays167_ren : Go.Shelf.Ren := ⟨fun | 166 => 151 | 167 => 143 | 240 => 145 | 276 => 146 | n => n, fun | 0 => 0 | 3 => 3 | 4 => 4 | 5 => 5 | 9 => 9 | 20 => 20 | 37 => 94 | 70 => 122 | 72 => 124 | 75 => 201 | 80 => 126 | 164 => 198 | n => n, fun | n => n⟩
theorem Tryd.lays167 : Go.Proofs.Lays.n167 Tryd.prog Tryd.lays167_ren := {
  mixed := by kernel_rfl
  f167 := Tryd.func143.trans (congrArg some (by kernel_rfl))
  f240 := Tryd.func145.trans (congrArg some (by kernel_rfl))
  f276 := Tryd.func146.trans (congrArg some (by kernel_rfl))
  t0 := Tryd.underlying0
  a0 := Tryd.isAgg0
  z0 := Tryd.sizeOf0
  v0 := Tryd.zeroValue0
  t4 := Tryd.underlying4
  a4 := Tryd.isAgg4
  z4 := Tryd.sizeOf4
  v4 := Tryd.zeroValue4
  t5 := Tryd.underlying5
  a5 := Tryd.isAgg5
  z5 := Tryd.sizeOf5
  v5 := Tryd.zeroValue5
  t9 := Tryd.underlying9
  a9 := Tryd.isAgg9
  z9 := Tryd.sizeOf9
  v9 := Tryd.zeroValue9
  t20 := Tryd.underlying20
  a20 := Tryd.isAgg20
  z20 := Tryd.sizeOf20
  v20 := Tryd.zeroValue20
  t37 := Tryd.underlying94
  a37 := Tryd.isAgg94
  z37 := Tryd.sizeOf94
  v37 := Tryd.zeroValue94
  t70 := Tryd.underlying122
  a70 := Tryd.isAgg122
  z70 := Tryd.sizeOf122
  v70 := Tryd.zeroValue122
  t72 := Tryd.underlying124
  a72 := Tryd.isAgg124
  z72 := Tryd.sizeOf124
  v72 := Tryd.zeroValue124
  t75 := Tryd.underlying201
  a75 := Tryd.isAgg201
  z75 := Tryd.sizeOf201
  v75 := Tryd.zeroValue201
  t164 := Tryd.underlying198
  a164 := Tryd.isAgg198
  z164 := Tryd.sizeOf198
  v164 := Tryd.zeroValue198 }
theorem Tryd.Builder_Extra_167 : Builder.Extra Tryd.prog Tryd.lays167_ren := {
  sizeBuilder := by kernel_rfl
  liesBuilder := by kernel_rfl
  t5 := Tryd.underlying5
  a5 := Tryd.isAgg5
  z5 := Tryd.sizeOf5
  v5 := Tryd.zeroValue5
  infoByte := by kernel_rfl
  cellsByte := by kernel_rfl
  sizeByte := by kernel_rfl
  neB5 := by decide }
open Go.RowKit in
theorem Tryd.Builder_WriteByte_k (B b : Nat) (bs : List Value) (c : Int) (w : World) (h : Lib.IsBuilderF 124 5 B b bs w) (hlen : bs.length + 1 ≤ 140737488355328) (hBw : B ≤ w.heap.size) :
    Calls Tryd.prog 143 #[.pointer (some ⟨b, 0, none⟩), .int .u8 c] w fun e w' => e = .returned .nilIface ∧ (Lib.BuilderAtF 124 5 B b (.pointer (some ⟨b, 0, none⟩)) (bs ++ [.int .u8 c]) w' ∧ Below B w w' ∧ Lib.OthersKept 5 (some b) w w') := Any.Builder_WriteByte_k Tryd.lays167 Tryd.Builder_Extra_167 B b bs c w h hlen hBw
def Tryd.lays166_ren : Go.Shelf.Ren := ⟨fun | 166 => 151 | 167 => 143 | 240 => 145 | 276 => 146 | n => n, fun | 0 => 0 | 3 => 3 | 4 => 4 | 5 => 5 | 9 => 9 | 20 => 20 | 37 => 94 | 70 => 122 | 72 => 124 | 75 => 201 | 80 => 126 | 164 => 198 | n => n, fun | n => n⟩
theorem Tryd.lays166 : Go.Proofs.Lays.n166 Tryd.prog Tryd.lays166_ren := {
  mixed := by kernel_rfl
  f166 := Tryd.func151.trans (congrArg some (by kernel_rfl))
  f240 := Tryd.func145.trans (congrArg some (by kernel_rfl))
  f276 := Tryd.func146.trans (congrArg some (by kernel_rfl))
  t0 := Tryd.underlying0
  a0 := Tryd.isAgg0
  z0 := Tryd.sizeOf0
  v0 := Tryd.zeroValue0
  t3 := Tryd.underlying3
  a3 := Tryd.isAgg3
  z3 := Tryd.sizeOf3
  v3 := Tryd.zeroValue3
  t4 := Tryd.underlying4
  a4 := Tryd.isAgg4
  z4 := Tryd.sizeOf4
  v4 := Tryd.zeroValue4
  t9 := Tryd.underlying9
  a9 := Tryd.isAgg9
  z9 := Tryd.sizeOf9
  v9 := Tryd.zeroValue9
  t20 := Tryd.underlying20
  a20 := Tryd.isAgg20
  z20 := Tryd.sizeOf20
  v20 := Tryd.zeroValue20
  t37 := Tryd.underlying94
  a37 := Tryd.isAgg94
  z37 := Tryd.sizeOf94
  v37 := Tryd.zeroValue94
  t70 := Tryd.underlying122
  a70 := Tryd.isAgg122
  z70 := Tryd.sizeOf122
  v70 := Tryd.zeroValue122
  t72 := Tryd.underlying124
  a72 := Tryd.isAgg124
  z72 := Tryd.sizeOf124
  v72 := Tryd.zeroValue124
  t75 := Tryd.underlying201
  a75 := Tryd.isAgg201
  z75 := Tryd.sizeOf201
  v75 := Tryd.zeroValue201
  t164 := Tryd.underlying198
  a164 := Tryd.isAgg198
  z164 := Tryd.sizeOf198
  v164 := Tryd.zeroValue198 }
theorem Tryd.Builder_Extra_166 : Builder.Extra Tryd.prog Tryd.lays166_ren := {
  sizeBuilder := by kernel_rfl
  liesBuilder := by kernel_rfl
  t5 := Tryd.underlying5
  a5 := Tryd.isAgg5
  z5 := Tryd.sizeOf5
  v5 := Tryd.zeroValue5
  infoByte := by kernel_rfl
  cellsByte := by kernel_rfl
  sizeByte := by kernel_rfl
  neB5 := by decide }
open Go.RowKit in
theorem Tryd.Builder_WriteString_k (B b : Nat) (bs : List Value) (s : ByteArray) (w : World) (h : Lib.IsBuilderF 124 5 B b bs w) (hlen : bs.length + s.size ≤ 140737488355328) (hBw : B ≤ w.heap.size) :
    Calls Tryd.prog 151 #[.pointer (some ⟨b, 0, none⟩), .string s] w fun e w' => e = .returned (.tuple #[.int .i64 s.size, .nilIface]) ∧ (Lib.BuilderAtF 124 5 B b (.pointer (some ⟨b, 0, none⟩)) (bs ++ Lib.strCells s) w' ∧ Below B w w' ∧ Lib.OthersKept 5 (some b) w w') := Any.Builder_WriteString_k Tryd.lays166 Tryd.Builder_Extra_166 B b bs s w h hlen hBw
end Go.Proofs
namespace Go.Proofs.YtliapnhckdimoacDoor
open Go.RowKit Go.Proofs.Sha

def sh (z : Int) (low : Bool) (i : Int) : Int := if low then 8 * i else 8 * (z - 1 - i)

theorem shift_any (z : Int) (low : Bool) (i : Int) (w : World) (hz : 0 ≤ z) (hz4 : z ≤ 8) (hi : 0 ≤ i) (hi4 : i < z) :
    Calls Tryd.prog 141 #[.agg #[.int .i64 z, .bool low], .int .i64 i] w fun e w' => e = .returned (.int .i64 (sh z low i)) ∧ Below w.heap.size w w' := by
  cases low
  · go_enter Tryd.func141, Tryd.ntmps141
    go_wp2
    go_ret
    exact ⟨rfl, (Below.refl _ _).alloc (Nat.le_refl _) _⟩
  · go_enter Tryd.func141, Tryd.ntmps141
    go_wp2
    go_ret
    exact ⟨rfl, (Below.refl _ _).alloc (Nat.le_refl _) _⟩

/-- The builder in block b holds these bytes. -/
def Bld (b : Nat) (l : List UInt8) (w : World) : Prop := Lib.IsBuilderF 124 5 b b (Lib.byteCells l) w
/-- It holds them, and nothing else has turned. -/
def Put (b : Nat) (l : List UInt8) (w w' : World) : Prop := Bld b l w' ∧ Below b w w' ∧ Lib.OthersKept 5 (some b) w w'

theorem Bld.lt {b : Nat} {l : List UInt8} {w : World} (h : Bld b l w) : b < w.heap.size := by
  rcases h with h | h
  · exact h.lt
  · exact h.lt
theorem Bld.alloc {b : Nat} {l : List UInt8} {w : World} (h : Bld b l w) (o : Obj) : Bld b l (w.alloc o) := by
  rcases h with h | h
  · exact .inl (h.alloc o)
  · exact .inr (h.alloc o)
theorem Put.refl {b : Nat} {l : List UInt8} {w : World} (h : Bld b l w) : Put b l w w := ⟨h, Below.refl _ _, Lib.OthersKept.refl _ _ _⟩
theorem Put.trans {b : Nat} {l m : List UInt8} {w w' w'' : World} (h : Put b l w w') (h' : Put b m w' w'') : Put b m w w'' := ⟨h'.1, h.2.1.trans h'.2.1, h.2.2.trans h'.2.2⟩
theorem Put.alloc {b : Nat} {l : List UInt8} {w w' : World} (h : Put b l w w') (o : Obj) : Put b l w (w'.alloc o) := ⟨h.1.alloc o, h.2.1.alloc (Nat.le_of_lt h.1.lt) o, h.2.2.alloc o⟩

theorem wb_any (b : Nat) (l : List UInt8) (c : Int) (w : World) (x : UInt8) (hc : c = (x.toNat : Int)) (h : Bld b l w) (hl : l.length ≤ 100000) :
    Calls Tryd.prog 143 #[.pointer (some ⟨b, 0, none⟩), .int .u8 c] w fun e w' => e = .returned .nilIface ∧ Put b (l ++ [x]) w w' := by
  refine (Tryd.Builder_WriteByte_k b b _ c w h (by rw [Lib.byteCells_length]; omega) (Nat.le_of_lt h.lt)).mono ?_
  rintro e w' ⟨rfl, h1, h2, h3⟩
  refine ⟨rfl, .inr ?_, h2, h3⟩
  rw [Lib.byteCells_append]
  rw [hc] at h1
  exact h1
theorem ws_any (b : Nat) (l : List UInt8) (s : ByteArray) (w : World) (h : Bld b l w) (hl : l.length + s.size ≤ 100000) :
    Calls Tryd.prog 151 #[.pointer (some ⟨b, 0, none⟩), .string s] w fun e w' => e = .returned (.tuple #[.int .i64 s.size, .nilIface]) ∧ Put b (l ++ s.data.toList) w w' := by
  refine (Tryd.Builder_WriteString_k b b _ s w h (by rw [Lib.byteCells_length]; omega) (Nat.le_of_lt h.lt)).mono ?_
  rintro e w' ⟨rfl, h1, h2, h3⟩
  refine ⟨rfl, .inr ?_, h2, h3⟩
  rw [Lib.byteCells_append]
  exact h1

/-- The byte at a place of a number. -/
def numByte (z : Nat) (low : Bool) (v i : Nat) : UInt8 := UInt8.ofNat (v / 2 ^ (8 * (if low then i else z - 1 - i)))
def numTo (z : Nat) (low : Bool) (v : Nat) : Nat → List UInt8
  | 0 => []
  | i + 1 => numTo z low v i ++ [numByte z low v i]
theorem numTo_length (z : Nat) (low : Bool) (v : Nat) : ∀ i, (numTo z low v i).length = i
  | 0 => rfl
  | i + 1 => by rw [numTo, List.length_append, numTo_length z low v i]; rfl

theorem Bld.heap {b : Nat} {l : List UInt8} {w w' : World} (h : Bld b l w) (hb : ∀ k, k < w.heap.size → w'.heap[k]? = w.heap[k]?) : Bld b l w' := by
  have H : ∀ p, Lib.BuilderAtF 124 5 b b p (Lib.byteCells l) w → Lib.BuilderAtF 124 5 b b p (Lib.byteCells l) w' := by
    rintro p ⟨h1, v, h2, h3, h4⟩
    have l2 := (Array.getElem?_eq_some_iff.1 h2).1
    refine ⟨h1, v, (hb b l2).trans h2, ⟨h3.1, ?_⟩, h4⟩
    rcases h3.2 with hn | ⟨g, cap, cur, fz, hv, hbg, hg, rest⟩
    · exact .inl hn
    · exact .inr ⟨g, cap, cur, fz, hv, hbg, (hb g (Array.getElem?_eq_some_iff.1 hg).1).trans hg, rest⟩
  rcases h with h | h
  · exact .inl (H _ h)
  · exact .inr (H _ h)
theorem Bld.below {b : Nat} {l : List UInt8} {w w' : World} (h : Bld b l w) (hb : Below w.heap.size w w') : Bld b l w' := h.heap hb.block
theorem Put.below {b : Nat} {l : List UInt8} {w w' w'' : World} (h : Put b l w w') (hb : Below w'.heap.size w' w'') : Put b l w w'' :=
  ⟨h.1.below hb, h.2.1.trans (hb.mono (Nat.le_of_lt h.1.lt)), fun k o hk hkb ho => by
    have h1 := h.2.2 k o hk hkb ho
    exact (hb.block k (Array.getElem?_eq_some_iff.1 h1).1).trans h1⟩
theorem Put.cells {b k : Nat} {l : List UInt8} {w w' : World} {cs : Array Value} {t : TypeId} (h : Put b l w w') (hk : w.heap[k]? = some (.cells cs t)) (hne : k ≠ b) (ht : t ≠ 5) : w'.heap[k]? = some (.cells cs t) :=
  h.2.2 k _ hk (fun e => hne (Option.some.inj e)) (fun c fz e => ht (by cases e; rfl))
theorem below_cells {k : Nat} {w w' : World} {o : Obj} (h : Below w.heap.size w w') (hk : w.heap[k]? = some o) : w'.heap[k]? = some o :=
  (h.block k (Array.getElem?_eq_some_iff.1 hk).1).trans hk

theorem byte_of_shift (v k : Nat) : ((v : Int) / 2 ^ k % 256) = ((UInt8.ofNat (v / 2 ^ k)).toNat : Int) := by
  rw [UInt8.toNat_ofNat', show (2 : Nat) ^ 8 = 256 from rfl]
  obtain ⟨p, hp⟩ : ∃ p : Nat, 2 ^ k = p := ⟨_, rfl⟩
  have hp' : (2 : Int) ^ k = (p : Int) := by rw [← hp, Int.natCast_pow]; rfl
  rw [hp, hp', Int.natCast_emod, Int.natCast_ediv]
  rfl

set_option maxRecDepth 100000 in
theorem nput (z : Nat) (low : Bool) (b : Nat) (v : Nat) (l : List UInt8) (w : World) (hz : 0 < z) (hz4 : z ≤ 7) (h : Bld b l w) (hl : l.length ≤ 90000) (_hv : v ≤ 9223372036854775807) :
    Calls Tryd.prog 140 #[.agg #[.int .i64 (z : Int), .bool low], .pointer (some ⟨b, 0, none⟩), .int .i64 (v : Int)] w fun e w' => e = .returned (.tuple #[]) ∧ Put b (l ++ numTo z low v z) w w' := by
  go_enter Tryd.func140, Tryd.ntmps140
  go_wp2
  go_loopw [9] (fun t9 wr => ∃ i : Nat, i ≤ z ∧ t9 = .int .i64 (i : Int) ∧ Put b (l ++ numTo z low v i) w wr ∧ wr.heap[w.heap.size]? = some (.cells #[.int .i64 (z : Int), .bool low] 181)) (fun t9 _ => z - (intOf t9).toNat)
  case atStart => 
    refine ⟨0, Nat.zero_le _, rfl, ?_, heap_alloc_new _ _⟩
    rw [numTo, List.append_nil]
    exact (Put.refl h).alloc _
  case round =>
    obtain ⟨i, hi, rfl, hp, hn⟩ := hrel
    by_cases h1 : i < z
    · have z1 : decide ((i : Int) < (z : Int)) = true := by simp; omega
      have c0 : wr.cell? ⟨w.heap.size, 0, none⟩ = some (.int .i64 (z : Int)) := Lib.cell_of_heap hn 0
      have c1 : wr.cell? ⟨w.heap.size, 1, none⟩ = some (.bool low) := Lib.cell_of_heap hn 1
      obtain ⟨k, hk, hk56, hkb⟩ : ∃ k : Nat, sh z low i = (k : Int) ∧ k ≤ 56 ∧ numByte z low v i = UInt8.ofNat (v / 2 ^ k) := by
        unfold sh numByte
        cases low
        · exact ⟨8 * (z - 1 - i), by simp only [Bool.false_eq_true, if_false]; omega, by omega, rfl⟩
        · exact ⟨8 * i, by simp only [if_true]; omega, by omega, rfl⟩
      have HC : Hid (∀ w', Calls Tryd.prog 141 #[.agg #[.int .i64 (z : Int), .bool low], .int .i64 (i : Int)] w' fun e w'' => e = .returned (.int .i64 (k : Int)) ∧ Below w'.heap.size w' w'') := fun w' => by rw [← hk]; exact shift_any _ _ _ w' (by omega) (by omega) (by omega) (by omega)
      have k0 : (0 : Int) ≤ (k : Int) := by omega
      go_wp2_with (first | (go_at_call 141; refine (HC.out _).mono ?_; rintro e w1 ⟨rfl, hb1⟩) | (go_at_call 143; refine (wb_any b _ _ w1 _ (byte_of_shift v k) (hp.1.below hb1) (by rw [List.length_append, numTo_length]; omega)).mono ?_; rintro e w2 ⟨rfl, hp2⟩))
      have hne : w.heap.size ≠ b := by have := h.lt; omega
      refine ⟨⟨i + 1, by omega, congrArg (Value.int .i64) (by omega), ?_, hp2.cells (below_cells hb1 hn) hne (by decide)⟩, ?_⟩
      · have := (hp.below hb1).trans hp2
        rw [numTo, hkb, ← List.append_assoc]
        exact this
      · show z - ((i : Int) + 1).toNat < z - ((i : Int)).toNat
        omega
    · have z1 : decide ((i : Int) < (z : Int)) = false := by simp; omega
      go_wp2
      have e : i = z := by omega
      subst e
      go_end0
      exact ⟨rfl, hp⟩
end Go.Proofs.YtliapnhckdimoacDoor
namespace Go.Proofs.YtliapnhckdimoacDoor
open Go.RowKit Go.Proofs.Sha

theorem wint (z : Nat) (low : Bool) (b : Nat) (v : Nat) (l : List UInt8) (w : World) (hz : 0 < z) (hz4 : z ≤ 7) (h : Bld b l w) (hl : l.length ≤ 90000) (hv : v ≤ 9223372036854775807) :
    Calls Tryd.prog 134 #[.pointer (some ⟨b, 0, none⟩), .iface 181 (.agg #[.int .i64 (z : Int), .bool low]), .int .i64 (v : Int)] w fun e w' => e = .returned (.tuple #[]) ∧ Put b (l ++ numTo z low v z) w w' := by
  have hmt : ∀ w : World, (method 306 181 (.agg #[.int .i64 (z : Int), .bool low]) "loop.example/s03048/impl.put").run Tryd.prog w = .ok (140, .agg #[.int .i64 (z : Int), .bool low]) w := fun _ => by kernel_rfl
  go_enter Tryd.func134, Tryd.ntmps134
  go_wp2_with (first | (go_at_call 140; refine (nput z low b v l w hz hz4 h hl hv).mono ?_; rintro e w2 ⟨rfl, hp2⟩))
  go_end0
  exact ⟨rfl, hp2⟩

theorem plain_put (n : Int) (b : Nat) (s : ByteArray) (l : List UInt8) (w : World) (h : Bld b l w) (hl : l.length + s.size ≤ 90000) :
    Calls Tryd.prog 149 #[.agg #[.int .i64 n], .pointer (some ⟨b, 0, none⟩), .string s] w fun e w' => e = .returned (.tuple #[]) ∧ Put b (l ++ s.data.toList) w w' := by
  go_enter Tryd.func149, Tryd.ntmps149
  go_wp2_with (first | (go_at_call 151; refine (ws_any b l s _ (h.alloc _) (by omega)).mono ?_; rintro e w2 ⟨rfl, hp2⟩))
  go_end0
  exact ⟨rfl, ((Put.refl h).alloc _).trans hp2⟩

theorem wplain (n : Int) (b : Nat) (s : ByteArray) (l : List UInt8) (w : World) (h : Bld b l w) (hl : l.length + s.size ≤ 90000) :
    Calls Tryd.prog 132 #[.pointer (some ⟨b, 0, none⟩), .iface 187 (.agg #[.int .i64 n]), .string s] w fun e w' => e = .returned (.tuple #[]) ∧ Put b (l ++ s.data.toList) w w' := by
  have hmt : ∀ w : World, (method 306 187 (.agg #[.int .i64 n]) "loop.example/s03048/impl.put").run Tryd.prog w = .ok (149, .agg #[.int .i64 n]) w := fun _ => by kernel_rfl
  go_enter Tryd.func132, Tryd.ntmps132
  go_wp2_with (first | (go_at_call 149; refine (plain_put n b s l w h hl).mono ?_; rintro e w2 ⟨rfl, hp2⟩))
  go_end0
  exact ⟨rfl, hp2⟩

theorem sized_put (z : Nat) (low : Bool) (b : Nat) (s : ByteArray) (l : List UInt8) (w : World) (hz : 0 < z) (hz4 : z ≤ 7) (h : Bld b l w) (hl : l.length + s.size ≤ 80000) :
    Calls Tryd.prog 147 #[.agg #[.int .i64 (z : Int), .bool low], .pointer (some ⟨b, 0, none⟩), .string s] w fun e w' => e = .returned (.tuple #[]) ∧ Put b (l ++ numTo z low s.size z ++ s.data.toList) w w' := by
  go_enter Tryd.func147, Tryd.ntmps147
  go_wp2_with (first | (go_at_call 134; refine (wint z low b s.size l _ hz hz4 (h.alloc _) (by omega) (by omega)).mono ?_; rintro e w2 ⟨rfl, hp2⟩) | (go_at_call 132; refine (wplain _ b s _ _ hp2.1 (by rw [List.length_append, numTo_length]; omega)).mono ?_; rintro e w3 ⟨rfl, hp3⟩))
  go_end0
  exact ⟨rfl, (((Put.refl h).alloc _).trans hp2).trans hp3⟩

theorem wsized (z : Nat) (low : Bool) (b : Nat) (s : ByteArray) (l : List UInt8) (w : World) (hz : 0 < z) (hz4 : z ≤ 7) (h : Bld b l w) (hl : l.length + s.size ≤ 80000) :
    Calls Tryd.prog 132 #[.pointer (some ⟨b, 0, none⟩), .iface 183 (.agg #[.int .i64 (z : Int), .bool low]), .string s] w fun e w' => e = .returned (.tuple #[]) ∧ Put b (l ++ numTo z low s.size z ++ s.data.toList) w w' := by
  have hmt : ∀ w : World, (method 306 183 (.agg #[.int .i64 (z : Int), .bool low]) "loop.example/s03048/impl.put").run Tryd.prog w = .ok (147, .agg #[.int .i64 (z : Int), .bool low]) w := fun _ => by kernel_rfl
  go_enter Tryd.func132, Tryd.ntmps132
  go_wp2_with (first | (go_at_call 147; refine (sized_put z low b s l w hz hz4 h hl).mono ?_; rintro e w2 ⟨rfl, hp2⟩))
  go_end0
  exact ⟨rfl, hp2⟩

theorem wint1 (b : Nat) (v : Nat) (l : List UInt8) (w : World) (h : Bld b l w) (hl : l.length ≤ 90000) (hv : v ≤ 9223372036854775807) :
    Calls Tryd.prog 134 #[.pointer (some ⟨b, 0, none⟩), .iface 181 (.agg #[.int .i64 1, .bool false]), .int .i64 (v : Int)] w fun e w' => e = .returned (.tuple #[]) ∧ Put b (l ++ [UInt8.ofNat v]) w w' := by
  have := wint 1 false b v l w (by omega) (by omega) h hl hv
  have e : numTo 1 false v 1 = [UInt8.ofNat v] := by simp [numTo, numByte]
  rw [e] at this
  exact this
end Go.Proofs.YtliapnhckdimoacDoor
namespace Go.Proofs.YtliapnhckdimoacDoor
open Go.RowKit Go.Proofs.Sha

def gap (n : Nat) : Nat := (n + 62) / 63 * 63 - n
def pad63 (l : List UInt8) : List UInt8 := l ++ List.replicate (gap l.length) 0
theorem gap_lt (n : Nat) : gap n < 63 := by unfold gap; omega
theorem pad63_length (l : List UInt8) : (pad63 l).length = l.length + gap l.length := by rw [pad63, List.length_append, List.length_replicate]


end Go.Proofs.YtliapnhckdimoacDoor
namespace Go.Proofs.YtliapnhckdimoacDoor
open Go.RowKit Go.Proofs.Sha

theorem fresh_bld (w : World) : Bld w.heap.size [] (w.alloc (.cells #[.pointer none, .slice none 0 0] 124)) := Lib.IsBuilderF.of (Lib.fresh_isBuilder 124 5 w)

theorem bstring (b : Nat) (l : List UInt8) (w : World) (h : Bld b l w) :
    Calls Tryd.prog 81 #[.pointer (some ⟨b, 0, none⟩)] w fun e w' => e = .returned (.string ⟨l.toArray⟩) ∧ Below b w w' := by
  refine (Tryd.Builder_String_any_k b b l w h (Nat.le_of_lt h.lt)).mono ?_
  rintro e w' ⟨rfl, _, hb, _⟩
  exact ⟨rfl, hb⟩

theorem fresh_bld1 (w : World) (o : Obj) : Bld (w.heap.size + 1) [] ((w.alloc o).alloc (.cells #[.pointer none, .slice none 0 0] 124)) := by
  have := fresh_bld (w.alloc o)
  rwa [show (w.alloc o).heap.size = w.heap.size + 1 by simp] at this

end Go.Proofs.YtliapnhckdimoacDoor
namespace Go.Proofs.Sha
open Go Go.RowKit
section
variable {P : Program} (w : World)
theorem wpList_box_row {ops : Array Oper} {rest : List Oper} {o : Oper} {a : Act} {Q : Exit → Act → World → Prop} (hgd : o.guard = none) (dst : Option Tmp) (hdst : o.dst = dst) (ty : TypeId) (x : Operand) (ho : o.op = .box ty x) (xs : List Value) (hx : a.eval x = .agg xs.toArray)
    (h : ∀ g w', Row w' w.heap.size g xs.length xs.length xs → Below w.heap.size w w' → wpList P ops Q rest (a.put dst (.pointer (some ⟨g, 0, none⟩))) w') : wpList P ops Q (o :: rest) a w := by
  refine Go.Great.wpList_runTo hgd dst hdst (.pointer (some ⟨w.heap.size, 0, none⟩)) (w.alloc (.cells xs.toArray ty)) ?_ (h _ _ ?_ ((Below.refl _ _).alloc (Nat.le_refl _) _))
  · unfold execOp
    simp only [ho, hx]
    rfl
  · have := Row.of_block (base := w.heap.size) (Nat.le_refl _) (heap_alloc_new w (.cells xs.toArray ty)) xs.length (by simp) (.inl rfl)
    simpa using this
theorem wpList_build_to {ops : Array Oper} {rest : List Oper} {o : Oper} {a : Act} {Q : Exit → Act → World → Prop} (hgd : o.guard = none) (t : TypeId) (parts : Array (Nat × Operand)) (ho : o.op = .build t parts) (cells : Array Value)
    (hb : P.built t (parts.toList.map fun (i, x) => (i, a.eval x)) = some cells)
    (h : wpList P ops Q rest (a.put o.dst (.agg cells)) w) : wpList P ops Q (o :: rest) a w := by
  rw [← Array.toList_map] at hb
  refine Go.Great.wpList_runTo hgd o.dst rfl (.agg cells) w ?_ h
  unfold execOp
  simp only [ho, Sem.run_bind, run_build w t _ cells hb, Result.andThen_ok, Sem.run_pure]
theorem ret_any {fn : Func} {R : Ending → World → Prop} {a : Act} {p : Tmp} {ty : TypeId} {d : TypeDesc} (hres : fn.results = #[.cell p ty]) (base g n cap : Nat) (xs : List Value) (ht : a.tmps.getD p undef = .pointer (some ⟨g, 0, none⟩))
    (hr : Row w base g n cap xs) (hu : P.underlying ty = some d) (hd : d.isRow = true) (hi : (P.info? ty).map (·.size) = some n) (hdef : a.defers = []) (hR : R (.returned (.agg xs.toArray)) w) : bodyPost P fn R .ret a w := by
  refine bodyPost_ret (v := .agg xs.toArray) ?_ hdef hR
  rw [results_cell w hres a.tmps _ ht]
  exact run_loadVar_mid w g 0 ty xs _ hr.range hu hd (by rw [hi, hr.len])
theorem Row.prefix {w : World} {base g n cap : Nat} {xs ys : List Value} (h : Row w base g n cap (xs ++ ys)) : w.rangeAt g 0 xs := fun j v hv => by
  refine h.range j v ?_
  rw [List.getElem?_append_left (List.getElem?_eq_some_iff.1 hv).1, hv]
end
end Go.Proofs.Sha
