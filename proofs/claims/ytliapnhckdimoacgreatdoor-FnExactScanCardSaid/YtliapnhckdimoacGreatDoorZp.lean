import Derived.Shelf.Strings.BuilderF
import Derived.Shelf.Strings.BuilderK
import Derived.Shelf.Strings.Trim
import Derived.Shelf.Strconv.Clone
import Derived.Test.YtliapnhckdimoacGreatDoorProg
import Derived.Test.YtliapnhckdimoacGreatDoorZa
import Derived.WalkSpells
import Derived.WalkLawsBesides
import Derived.Deep.RegionHeld3
namespace Go.Proofs
open Go.Shelf
def Tryz.lays169_ren : Go.Shelf.Ren := ⟨fun | 169 => 79 | n => n, fun | 70 => 117 | 9 => 9 | 0 => 0 | 72 => 119 | 37 => 62 | 127 => 103 | 3 => 3 | 5 => 5 | n => n, fun | n => n⟩
theorem Tryz.lays169 : Go.Proofs.Lays.n169 Tryz.prog Tryz.lays169_ren := {
  mixed := by kernel_rfl
  f169 := Tryz.func79.trans (congrArg some (by kernel_rfl))
  t0 := Tryz.underlying0
  a0 := Tryz.isAgg0
  z0 := Tryz.sizeOf0
  v0 := Tryz.zeroValue0
  t3 := Tryz.underlying3
  a3 := Tryz.isAgg3
  z3 := Tryz.sizeOf3
  v3 := Tryz.zeroValue3
  t9 := Tryz.underlying9
  a9 := Tryz.isAgg9
  z9 := Tryz.sizeOf9
  v9 := Tryz.zeroValue9
  t37 := Tryz.underlying62
  a37 := Tryz.isAgg62
  z37 := Tryz.sizeOf62
  v37 := Tryz.zeroValue62
  t70 := Tryz.underlying117
  a70 := Tryz.isAgg117
  z70 := Tryz.sizeOf117
  v70 := Tryz.zeroValue117
  t72 := Tryz.underlying119
  a72 := Tryz.isAgg119
  z72 := Tryz.sizeOf119
  v72 := Tryz.zeroValue119
  t127 := Tryz.underlying103
  a127 := Tryz.isAgg103
  z127 := Tryz.sizeOf103
  v127 := Tryz.zeroValue103 }
theorem Tryz.Builder_Extra_169 : Builder.Extra Tryz.prog Tryz.lays169_ren := {
  sizeBuilder := by kernel_rfl
  liesBuilder := by kernel_rfl
  t5 := Tryz.underlying5
  a5 := Tryz.isAgg5
  z5 := Tryz.sizeOf5
  v5 := Tryz.zeroValue5
  infoByte := by kernel_rfl
  cellsByte := by kernel_rfl
  sizeByte := by kernel_rfl
  neB5 := by decide }
open Go.RowKit in
open Go.RowKit in
theorem Tryz.Builder_String_any_k (B b : Nat) (l : List UInt8) (w : World) (h : Lib.IsBuilderF 119 5 B b (Lib.byteCells l) w) (hBw : B ≤ w.heap.size) :
    Calls Tryz.prog 79 #[.pointer (some ⟨b, 0, none⟩)] w fun e w' => e = .returned (.string ⟨l.toArray⟩) ∧ (Lib.IsBuilderF 119 5 B b (Lib.byteCells l) w' ∧ Below B w w' ∧ Lib.OthersKept 5 (some b) w w') := Any.Builder_String_any_k Tryz.lays169 Tryz.Builder_Extra_169 B b l w h hBw
open Go.RowKit Go.Lib in
open Go.RowKit in
def Tryz.lays166_ren : Go.Shelf.Ren := ⟨fun | 166 => 76 | 240 => 81 | 276 => 82 | n => n, fun | 0 => 0 | 3 => 3 | 4 => 4 | 5 => 5 | 9 => 9 | 20 => 20 | 37 => 62 | 70 => 117 | 72 => 119 | 75 => 121 | 80 => 93 | 164 => 138 | n => n, fun | n => n⟩
theorem Tryz.lays166 : Go.Proofs.Lays.n166 Tryz.prog Tryz.lays166_ren := {
  mixed := by kernel_rfl
  f166 := Tryz.func76.trans (congrArg some (by kernel_rfl))
  f240 := Tryz.func81.trans (congrArg some (by kernel_rfl))
  f276 := Tryz.func82.trans (congrArg some (by kernel_rfl))
  t0 := Tryz.underlying0
  a0 := Tryz.isAgg0
  z0 := Tryz.sizeOf0
  v0 := Tryz.zeroValue0
  t3 := Tryz.underlying3
  a3 := Tryz.isAgg3
  z3 := Tryz.sizeOf3
  v3 := Tryz.zeroValue3
  t4 := Tryz.underlying4
  a4 := Tryz.isAgg4
  z4 := Tryz.sizeOf4
  v4 := Tryz.zeroValue4
  t9 := Tryz.underlying9
  a9 := Tryz.isAgg9
  z9 := Tryz.sizeOf9
  v9 := Tryz.zeroValue9
  t20 := Tryz.underlying20
  a20 := Tryz.isAgg20
  z20 := Tryz.sizeOf20
  v20 := Tryz.zeroValue20
  t37 := Tryz.underlying62
  a37 := Tryz.isAgg62
  z37 := Tryz.sizeOf62
  v37 := Tryz.zeroValue62
  t70 := Tryz.underlying117
  a70 := Tryz.isAgg117
  z70 := Tryz.sizeOf117
  v70 := Tryz.zeroValue117
  t72 := Tryz.underlying119
  a72 := Tryz.isAgg119
  z72 := Tryz.sizeOf119
  v72 := Tryz.zeroValue119
  t75 := Tryz.underlying121
  a75 := Tryz.isAgg121
  z75 := Tryz.sizeOf121
  v75 := Tryz.zeroValue121
  t164 := Tryz.underlying138
  a164 := Tryz.isAgg138
  z164 := Tryz.sizeOf138
  v164 := Tryz.zeroValue138 }
theorem Tryz.Builder_Extra_166 : Builder.Extra Tryz.prog Tryz.lays166_ren := {
  sizeBuilder := by kernel_rfl
  liesBuilder := by kernel_rfl
  t5 := Tryz.underlying5
  a5 := Tryz.isAgg5
  z5 := Tryz.sizeOf5
  v5 := Tryz.zeroValue5
  infoByte := by kernel_rfl
  cellsByte := by kernel_rfl
  sizeByte := by kernel_rfl
  neB5 := by decide }
open Go.RowKit in
theorem Tryz.Builder_WriteString_k (B b : Nat) (bs : List Value) (s : ByteArray) (w : World) (h : Lib.IsBuilderF 119 5 B b bs w) (hlen : bs.length + s.size ≤ 140737488355328) (hBw : B ≤ w.heap.size) :
    Calls Tryz.prog 76 #[.pointer (some ⟨b, 0, none⟩), .string s] w fun e w' => e = .returned (.tuple #[.int .i64 s.size, .nilIface]) ∧ (Lib.BuilderAtF 119 5 B b (.pointer (some ⟨b, 0, none⟩)) (bs ++ Lib.strCells s) w' ∧ Below B w w' ∧ Lib.OthersKept 5 (some b) w w') := Any.Builder_WriteString_k Tryz.lays166 Tryz.Builder_Extra_166 B b bs s w h hlen hBw
def Tryz.laysM316_ren : Go.Shelf.Ren := ⟨fun | 316 => 128 | n => n, fun | 9 => 9 | 3 => 3 | 4 => 4 | 37 => 62 | 0 => 0 | 127 => 103 | 5 => 5 | n => n, fun | n => n⟩
theorem Tryz.laysM316 : Go.Proofs.LaysM.n316 Tryz.prog Tryz.laysM316_ren := {
  mixed := by kernel_rfl
  f316 := Tryz.func128.trans (congrArg some (by kernel_rfl))
  t0 := Tryz.underlying0
  a0 := Tryz.isAgg0
  z0 := Tryz.sizeOf0
  v0 := Tryz.zeroValue0
  t3 := Tryz.underlying3
  a3 := Tryz.isAgg3
  z3 := Tryz.sizeOf3
  v3 := Tryz.zeroValue3
  t4 := Tryz.underlying4
  a4 := Tryz.isAgg4
  z4 := Tryz.sizeOf4
  v4 := Tryz.zeroValue4
  t9 := Tryz.underlying9
  a9 := Tryz.isAgg9
  z9 := Tryz.sizeOf9
  v9 := Tryz.zeroValue9
  t37 := Tryz.underlying62
  a37 := Tryz.isAgg62
  z37 := Tryz.sizeOf62
  v37 := Tryz.zeroValue62
  t127 := Tryz.underlying103
  a127 := Tryz.isAgg103
  z127 := Tryz.sizeOf103
  v127 := Tryz.zeroValue103
  t5 := Tryz.underlying5
  a5 := Tryz.isAgg5
  z5 := Tryz.sizeOf5
  v5 := Tryz.zeroValue5
  i0 := by kernel_rfl
  i3 := by kernel_rfl
  i4 := by kernel_rfl
  i5 := by kernel_rfl
  i9 := by kernel_rfl
  i37 := by kernel_rfl
  i127 := by kernel_rfl }
open Go.RowKit in
theorem Tryz.stringslite_Clone (s : ByteArray) (w : World) (hlim : s.size ≤ 281474976710656) :
    Calls Tryz.prog 128 #[.string s] w fun e w' => e = .returned (.string s) ∧ Below w.heap.size w w' := Any.stringslite_Clone Tryz.laysM316 s w hlim
def Tryz.lays160_ren : Go.Shelf.Ren := ⟨fun | 160 => 96 | 232 => 99 | 231 => 98 | 227 => 100 | 234 => 102 | 233 => 101 | 236 => 104 | 235 => 103 | 228 => 105 | 271 => 108 | 151 => 107 | 197 => 106 | 120 => 111 | 152 => 110 | 260 => 109 | 137 => 112 | 119 => 113 | 224 => 114 | 225 => 115 | 217 => 116 | 266 => 117 | n => n, fun | 9 => 9 | 4 => 4 | 3 => 3 | 5 => 5 | 117 => 151 | 116 => 150 | 0 => 0 | 124 => 154 | 21 => 21 | 105 => 156 | 46 => 65 | 119 => 160 | 139 => 163 | 138 => 162 | n => n, fun | 3 => 1 | 4 => 2 | n => n⟩
theorem Tryz.lays160 : Go.Proofs.Lays.n160 Tryz.prog Tryz.lays160_ren := {
  mixed := by kernel_rfl
  f119 := Tryz.func113.trans (congrArg some (by kernel_rfl))
  f120 := Tryz.func111.trans (congrArg some (by kernel_rfl))
  f137 := Tryz.func112.trans (congrArg some (by kernel_rfl))
  f151 := Tryz.func107.trans (congrArg some (by kernel_rfl))
  f152 := Tryz.func110.trans (congrArg some (by kernel_rfl))
  f160 := Tryz.func96.trans (congrArg some (by kernel_rfl))
  f197 := Tryz.func106.trans (congrArg some (by kernel_rfl))
  f217 := Tryz.func116.trans (congrArg some (by kernel_rfl))
  f224 := Tryz.func114.trans (congrArg some (by kernel_rfl))
  f225 := Tryz.func115.trans (congrArg some (by kernel_rfl))
  f227 := Tryz.func100.trans (congrArg some (by kernel_rfl))
  f228 := Tryz.func105.trans (congrArg some (by kernel_rfl))
  f231 := Tryz.func98.trans (congrArg some (by kernel_rfl))
  f232 := Tryz.func99.trans (congrArg some (by kernel_rfl))
  f233 := Tryz.func101.trans (congrArg some (by kernel_rfl))
  f234 := Tryz.func102.trans (congrArg some (by kernel_rfl))
  f235 := Tryz.func103.trans (congrArg some (by kernel_rfl))
  f236 := Tryz.func104.trans (congrArg some (by kernel_rfl))
  f260 := Tryz.func109.trans (congrArg some (by kernel_rfl))
  f266 := Tryz.func117.trans (congrArg some (by kernel_rfl))
  f271 := Tryz.func108.trans (congrArg some (by kernel_rfl))
  t0 := Tryz.underlying0
  a0 := Tryz.isAgg0
  z0 := Tryz.sizeOf0
  v0 := Tryz.zeroValue0
  t3 := Tryz.underlying3
  a3 := Tryz.isAgg3
  z3 := Tryz.sizeOf3
  v3 := Tryz.zeroValue3
  t4 := Tryz.underlying4
  a4 := Tryz.isAgg4
  z4 := Tryz.sizeOf4
  v4 := Tryz.zeroValue4
  t5 := Tryz.underlying5
  a5 := Tryz.isAgg5
  z5 := Tryz.sizeOf5
  v5 := Tryz.zeroValue5
  t9 := Tryz.underlying9
  a9 := Tryz.isAgg9
  z9 := Tryz.sizeOf9
  v9 := Tryz.zeroValue9
  t21 := Tryz.underlying21
  a21 := Tryz.isAgg21
  z21 := Tryz.sizeOf21
  v21 := Tryz.zeroValue21
  t46 := Tryz.underlying65
  a46 := Tryz.isAgg65
  z46 := Tryz.sizeOf65
  v46 := Tryz.zeroValue65
  t105 := Tryz.underlying156
  a105 := Tryz.isAgg156
  z105 := Tryz.sizeOf156
  v105 := Tryz.zeroValue156
  t116 := Tryz.underlying150
  a116 := Tryz.isAgg150
  z116 := Tryz.sizeOf150
  t117 := Tryz.underlying151
  a117 := Tryz.isAgg151
  z117 := Tryz.sizeOf151
  v117 := Tryz.zeroValue151
  t119 := Tryz.underlying160
  a119 := Tryz.isAgg160
  z119 := Tryz.sizeOf160
  t124 := Tryz.underlying154
  a124 := Tryz.isAgg154
  z124 := Tryz.sizeOf154
  v124 := Tryz.zeroValue154
  t138 := Tryz.underlying162
  a138 := Tryz.isAgg162
  z138 := Tryz.sizeOf162
  v138 := Tryz.zeroValue162
  t139 := Tryz.underlying163
  a139 := Tryz.isAgg163
  z139 := Tryz.sizeOf163
  v139 := Tryz.zeroValue163
  g3 := by kernel_rfl
  g4 := by kernel_rfl }
open Go.RowKit in
theorem Tryz.strings_Trim_one (s : ByteArray) (c : UInt8) (hc : c.toNat < 128) (w : World) (hs : s.size ≤ 9223372036854775807) :
    Calls Tryz.prog 96 #[.string s, .string ⟨#[c]⟩] w fun e w' => e = .returned (.string ⟨(Lib.trimB s.data.toList c).toArray⟩) ∧ (w' = w ∨ w' = w.drew) := Any.strings_Trim_one Tryz.lays160 s c hc w hs
end Go.Proofs
namespace Go.Proofs.YtliapnhckdimoacGreatDoor
open Go.RowKit Go.Proofs.Sha

def sh (z : Int) (low : Bool) (i : Int) : Int := if low then 8 * i else 8 * (z - 1 - i)

theorem shift_any (z : Int) (low : Bool) (i : Int) (w : World) (hz : 0 ≤ z) (hz4 : z ≤ 8) (hi : 0 ≤ i) (hi4 : i < z) :
    Calls Tryz.prog 91 #[.agg #[.int .i64 z, .bool low], .int .i64 i] w fun e w' => e = .returned (.int .i64 (sh z low i)) ∧ Below w.heap.size w w' := by
  cases low
  · go_enter Tryz.func91, Tryz.ntmps91
    go_wp2
    go_ret
    exact ⟨rfl, (Below.refl _ _).alloc (Nat.le_refl _) _⟩
  · go_enter Tryz.func91, Tryz.ntmps91
    go_wp2
    go_ret
    exact ⟨rfl, (Below.refl _ _).alloc (Nat.le_refl _) _⟩

/-- The builder in block b holds these bytes. -/
def Bld (b : Nat) (l : List UInt8) (w : World) : Prop := Lib.IsBuilderF 119 5 b b (Lib.byteCells l) w
/-- It holds them, and nothing else has turned. -/
def Put (b : Nat) (l : List UInt8) (w w' : World) : Prop := Bld b l w' ∧ Below b w w' ∧ Lib.OthersKept 5 (some b) w w'

theorem Bld.lt {b : Nat} {l : List UInt8} {w : World} (h : Bld b l w) : b < w.heap.size := by
  rcases h with h | h
  · exact h.lt
  · exact h.lt
theorem Bld.alloc {b : Nat} {l : List UInt8} {w : World} (h : Bld b l w) (o : Obj) : Bld b l (w.alloc o) := by
  rcases h with h | h
  · exact .inl (h.alloc o)
  · exact .inr (h.alloc o)
theorem Put.refl {b : Nat} {l : List UInt8} {w : World} (h : Bld b l w) : Put b l w w := ⟨h, Below.refl _ _, Lib.OthersKept.refl _ _ _⟩
theorem Put.trans {b : Nat} {l m : List UInt8} {w w' w'' : World} (h : Put b l w w') (h' : Put b m w' w'') : Put b m w w'' := ⟨h'.1, h.2.1.trans h'.2.1, h.2.2.trans h'.2.2⟩
theorem Put.alloc {b : Nat} {l : List UInt8} {w w' : World} (h : Put b l w w') (o : Obj) : Put b l w (w'.alloc o) := ⟨h.1.alloc o, h.2.1.alloc (Nat.le_of_lt h.1.lt) o, h.2.2.alloc o⟩

theorem ws_any (b : Nat) (l : List UInt8) (s : ByteArray) (w : World) (h : Bld b l w) (hl : l.length + s.size ≤ 100000) :
    Calls Tryz.prog 76 #[.pointer (some ⟨b, 0, none⟩), .string s] w fun e w' => e = .returned (.tuple #[.int .i64 s.size, .nilIface]) ∧ Put b (l ++ s.data.toList) w w' := by
  refine (Tryz.Builder_WriteString_k b b _ s w h (by rw [Lib.byteCells_length]; omega) (Nat.le_of_lt h.lt)).mono ?_
  rintro e w' ⟨rfl, h1, h2, h3⟩
  refine ⟨rfl, .inr ?_, h2, h3⟩
  rw [Lib.byteCells_append]
  exact h1

/-- The byte at a place of a number. -/
def numByte (z : Nat) (low : Bool) (v i : Nat) : UInt8 := UInt8.ofNat (v / 2 ^ (8 * (if low then i else z - 1 - i)))
def numTo (z : Nat) (low : Bool) (v : Nat) : Nat → List UInt8
  | 0 => []
  | i + 1 => numTo z low v i ++ [numByte z low v i]
theorem numTo_length (z : Nat) (low : Bool) (v : Nat) : ∀ i, (numTo z low v i).length = i
  | 0 => rfl
  | i + 1 => by rw [numTo, List.length_append, numTo_length z low v i]; rfl

theorem Bld.heap {b : Nat} {l : List UInt8} {w w' : World} (h : Bld b l w) (hb : ∀ k, k < w.heap.size → w'.heap[k]? = w.heap[k]?) : Bld b l w' := by
  have H : ∀ p, Lib.BuilderAtF 119 5 b b p (Lib.byteCells l) w → Lib.BuilderAtF 119 5 b b p (Lib.byteCells l) w' := by
    rintro p ⟨h1, v, h2, h3, h4⟩
    have l2 := (Array.getElem?_eq_some_iff.1 h2).1
    refine ⟨h1, v, (hb b l2).trans h2, ⟨h3.1, ?_⟩, h4⟩
    rcases h3.2 with hn | ⟨g, cap, cur, fz, hv, hbg, hg, rest⟩
    · exact .inl hn
    · exact .inr ⟨g, cap, cur, fz, hv, hbg, (hb g (Array.getElem?_eq_some_iff.1 hg).1).trans hg, rest⟩
  rcases h with h | h
  · exact .inl (H _ h)
  · exact .inr (H _ h)
theorem Bld.below {b : Nat} {l : List UInt8} {w w' : World} (h : Bld b l w) (hb : Below w.heap.size w w') : Bld b l w' := h.heap hb.block
theorem Put.below {b : Nat} {l : List UInt8} {w w' w'' : World} (h : Put b l w w') (hb : Below w'.heap.size w' w'') : Put b l w w'' :=
  ⟨h.1.below hb, h.2.1.trans (hb.mono (Nat.le_of_lt h.1.lt)), fun k o hk hkb ho => by
    have h1 := h.2.2 k o hk hkb ho
    exact (hb.block k (Array.getElem?_eq_some_iff.1 h1).1).trans h1⟩
theorem Put.cells {b k : Nat} {l : List UInt8} {w w' : World} {cs : Array Value} {t : TypeId} (h : Put b l w w') (hk : w.heap[k]? = some (.cells cs t)) (hne : k ≠ b) (ht : t ≠ 5) : w'.heap[k]? = some (.cells cs t) :=
  h.2.2 k _ hk (fun e => hne (Option.some.inj e)) (fun c fz e => ht (by cases e; rfl))
theorem below_cells {k : Nat} {w w' : World} {o : Obj} (h : Below w.heap.size w w') (hk : w.heap[k]? = some o) : w'.heap[k]? = some o :=
  (h.block k (Array.getElem?_eq_some_iff.1 hk).1).trans hk

theorem byte_of_shift (v k : Nat) : ((v : Int) / 2 ^ k % 256) = ((UInt8.ofNat (v / 2 ^ k)).toNat : Int) := by
  rw [UInt8.toNat_ofNat', show (2 : Nat) ^ 8 = 256 from rfl]
  obtain ⟨p, hp⟩ : ∃ p : Nat, 2 ^ k = p := ⟨_, rfl⟩
  have hp' : (2 : Int) ^ k = (p : Int) := by rw [← hp, Int.natCast_pow]; rfl
  rw [hp, hp', Int.natCast_emod, Int.natCast_ediv]
  rfl

end Go.Proofs.YtliapnhckdimoacGreatDoor
namespace Go.Proofs.YtliapnhckdimoacGreatDoor
open Go.RowKit Go.Proofs.Sha

/-- The reader in block r. -/
def Rd (r : Nat) (s : ByteArray) (a : Nat) (f : Bool) (w : World) : Prop := w.heap[r]? = some (.cells #[.string s, .int .i64 (a : Int), .bool f] 68)
/-- Of what was there only block r may have turned. -/
structure Mv (r : Nat) (w w' : World) : Prop where
  os : w'.os = w.os
  tape : w'.tape = w.tape
  output : w'.output = w.output
  size : w.heap.size ≤ w'.heap.size
  block : ∀ k, k < w.heap.size → k ≠ r → w'.heap[k]? = w.heap[k]?
theorem Mv.refl (r : Nat) (w : World) : Mv r w w := ⟨rfl, rfl, rfl, Nat.le_refl _, fun _ _ _ => rfl⟩
theorem Mv.trans {r : Nat} {a b c : World} (h : Mv r a b) (k : Mv r b c) : Mv r a c :=
  ⟨k.os.trans h.os, k.tape.trans h.tape, k.output.trans h.output, Nat.le_trans h.size k.size, fun i hi hr => (k.block i (Nat.lt_of_lt_of_le hi h.size) hr).trans (h.block i hi hr)⟩
theorem Mv.of_below {w w' : World} (r : Nat) (h : Below w.heap.size w w') : Mv r w w' := ⟨h.os, h.tape, h.output, h.size, fun k hk _ => h.block k hk⟩
theorem Mv.to_below {r B : Nat} {w w' : World} (h : Mv r w w') (hB : B ≤ w.heap.size) (hr : B ≤ r) : Below B w w' := ⟨h.os, h.tape, h.output, h.size, fun k hk => h.block k (Nat.lt_of_lt_of_le hk hB) (by omega)⟩
theorem Mv.alloc {r : Nat} {a w : World} (h : Mv r a w) (o : Obj) : Mv r a (w.alloc o) := h.trans (Mv.of_below r ((Below.refl _ _).alloc (Nat.le_refl _) _))
theorem Mv.drew {r : Nat} {a w : World} (h : Mv r a w) : Mv r a w.drew := ⟨h.os, h.tape, h.output, h.size, h.block⟩
theorem Mv.setCell {r : Nat} {a w : World} (h : Mv r a w) (i : Nat) (v : Value) : Mv r a (w.setCell ⟨r, i, none⟩ v) :=
  ⟨h.os, h.tape, h.output, by rw [show (w.setCell ⟨r, i, none⟩ v).heap.size = w.heap.size by simp [World.setCell]]; exact h.size, fun k hk hr => (heap_setCell_other w ⟨r, i, none⟩ k v hr).trans (h.block k hk hr)⟩
theorem Mv.cells {r k : Nat} {w w' : World} {o : Obj} (h : Mv r w w') (hk : w.heap[k]? = some o) (hr : k ≠ r) : w'.heap[k]? = some o :=
  (h.block k (Array.getElem?_eq_some_iff.1 hk).1 hr).trans hk
theorem Rd.lt {r : Nat} {s : ByteArray} {a : Nat} {f : Bool} {w : World} (h : Rd r s a f w) : r < w.heap.size := (Array.getElem?_eq_some_iff.1 h).1
theorem Rd.below {r : Nat} {s : ByteArray} {a : Nat} {f : Bool} {w w' : World} (h : Rd r s a f w) (hb : Below w.heap.size w w') : Rd r s a f w' := below_cells hb h
theorem Rd.alloc {r : Nat} {s : ByteArray} {a : Nat} {f : Bool} {w : World} (h : Rd r s a f w) (o : Obj) : Rd r s a f (w.alloc o) := h.below ((Below.refl _ _).alloc (Nat.le_refl _) _)
theorem Rd.drew {r : Nat} {s : ByteArray} {a : Nat} {f : Bool} {w : World} (h : Rd r s a f w) : Rd r s a f w.drew := h
theorem Rd.setF {r : Nat} {s : ByteArray} {a : Nat} {f : Bool} {w : World} (h : Rd r s a f w) (g : Bool) : Rd r s a g (w.setCell ⟨r, 2, none⟩ (.bool g)) := heap_setCell_same w r 2 _ 68 _ h
theorem Rd.setA {r : Nat} {s : ByteArray} {a : Nat} {f : Bool} {w : World} (h : Rd r s a f w) (b : Nat) : Rd r s b f (w.setCell ⟨r, 1, none⟩ (.int .i64 (b : Int))) := heap_setCell_same w r 1 _ 68 _ h
theorem frozen_of_heap {w : World} {k j : Nat} {cs : Array Value} {t : TypeId} (h : w.heap[k]? = some (.cells cs t)) : w.frozen? ⟨k, j, none⟩ = false := by rw [World.frozen?, h]; rfl

theorem fail_any (r : Nat) (s : ByteArray) (a : Nat) (f : Bool) (w : World) (h : Rd r s a f w) :
    Calls Tryz.prog 45 #[.pointer (some ⟨r, 0, none⟩)] w fun e w' => e = .returned (.tuple #[]) ∧ Rd r s a true w' ∧ Mv r w w' := by
  have c2 : w.cell? ⟨r, 2, none⟩ = some (.bool f) := Lib.cell_of_heap h 2
  have f2 : w.frozen? ⟨r, 2, none⟩ = false := frozen_of_heap h
  go_enter Tryz.func45, Tryz.ntmps45
  go_wp2
  go_end0
  exact ⟨rfl, h.setF true, (Mv.refl r w).setCell 2 _⟩

/-- What 'next' answers and leaves. -/
def NX (s : ByteArray) (a : Nat) (f : Bool) (n : Nat) (t : ByteArray) (a' : Nat) (f' : Bool) : Prop :=
  (f = false ∧ a + n ≤ s.size ∧ t = s.extract a (a + n) ∧ a' = a + n ∧ f' = false) ∨ ((f = true ∨ ¬ a + n ≤ s.size) ∧ t = ⟨#[]⟩ ∧ a' = a ∧ f' = true)

end Go.Proofs.YtliapnhckdimoacGreatDoor
namespace Go.Proofs.YtliapnhckdimoacGreatDoor
open Go.RowKit Go.Proofs.Sha
set_option maxRecDepth 100000 in
theorem next_any (r : Nat) (s : ByteArray) (a : Nat) (f : Bool) (n : Nat) (w : World) (h : Rd r s a f w) (ha : a ≤ s.size) (hs : s.size ≤ 1048576) (hn : n ≤ 4294967296) :
    Calls Tryz.prog 90 #[.pointer (some ⟨r, 0, none⟩), .int .i64 (n : Int)] w fun e w' => ∃ t a' f', e = .returned (.string t) ∧ Hid (NX s a f n t a' f') ∧ a' ≤ s.size ∧ t.size ≤ s.size ∧ Rd r s a' f' w' ∧ Mv r w w' := by
  have c0 : w.cell? ⟨r, 0, none⟩ = some (.string s) := Lib.cell_of_heap h 0
  have c1 : w.cell? ⟨r, 1, none⟩ = some (.int .i64 (a : Int)) := Lib.cell_of_heap h 1
  have c2 : w.cell? ⟨r, 2, none⟩ = some (.bool f) := Lib.cell_of_heap h 2
  have f1 : w.frozen? ⟨r, 1, none⟩ = false := frozen_of_heap h
  cases f
  · by_cases h1 : a + n ≤ s.size
    · have z1 : decide ((s.size : Int) - (a : Int) < (n : Int)) = false := by simp; omega
      have z2 : IntKind.i64.wrap ((s.size : Int) - (a : Int)) = (s.size : Int) - (a : Int) := wrap_i64_in _ (by omega) (by omega)
      go_enter Tryz.func90, Tryz.ntmps90
      go_wp2_with fail
      go_region_held3 (fun W => W.cell? ⟨r, 0, none⟩ = some (.string s) ∧ W.cell? ⟨r, 1, none⟩ = some (.int .i64 (a : Int)) ∧ W.cell? ⟨r, 2, none⟩ = some (.bool false)) (exact ⟨c0, c1, c2⟩) (fail)
      go_wp2_with fail
      have z3 : IntKind.i64.wrap ((a : Int) + (n : Int)) = (a : Int) + (n : Int) := wrap_i64_in _ (by omega) (by omega)
      have y1 : (0 : Int) ≤ (a : Int) := by omega
      have y2 : (a : Int) ≤ (a : Int) + (n : Int) := by omega
      have y3 : (a : Int) + (n : Int) ≤ (s.size : Int) := by omega
      go_region_held3 (fun W => W.cell? ⟨r, 0, none⟩ = some (.string s) ∧ W.cell? ⟨r, 1, none⟩ = some (.int .i64 (a : Int))) (exact ⟨c0, c1⟩) (fail)
      go_wp2
      go_ret
      have e1 : ((a : Int) + (n : Int)).toNat = a + n := by omega
      have e2 : ((a : Int) + (n : Int)) = ((a + n : Nat) : Int) := by omega
      rw [e1, e2]
      refine ⟨_, a + n, false, rfl, .inl ⟨rfl, h1, rfl, rfl, rfl⟩, h1, ?_, h.setA (a + n), ((Mv.refl r w).setCell 1 _).drew.drew⟩
      rw [ByteArray.size_extract]; omega
    · have z1 : decide ((s.size : Int) - (a : Int) < (n : Int)) = true := by simp; omega
      have z2 : IntKind.i64.wrap ((s.size : Int) - (a : Int)) = (s.size : Int) - (a : Int) := wrap_i64_in _ (by omega) (by omega)
      go_enter Tryz.func90, Tryz.ntmps90
      go_wp2_with fail
      go_region_held3 (fun W => W.cell? ⟨r, 0, none⟩ = some (.string s) ∧ W.cell? ⟨r, 1, none⟩ = some (.int .i64 (a : Int)) ∧ W.cell? ⟨r, 2, none⟩ = some (.bool false)) (exact ⟨c0, c1, c2⟩) (fail)
      go_wp2_with (first | (go_at_call 45; refine (fail_any r s a false _ h.drew).mono ?_; rintro e w2 ⟨rfl, hr2, hm2⟩))
      go_ret
      exact ⟨_, _, _, rfl, .inr ⟨.inr h1, rfl, rfl, rfl⟩, ha, Nat.zero_le _, hr2, (Mv.refl r w).drew.trans hm2⟩
  · go_enter Tryz.func90, Tryz.ntmps90
    go_wp2_with fail
    go_region
    go_wp2_with (first | (go_at_call 45; refine (fail_any r s a true _ h.drew).mono ?_; rintro e w2 ⟨rfl, hr2, hm2⟩))
    go_ret
    exact ⟨_, _, _, rfl, .inr ⟨.inl rfl, rfl, rfl, rfl⟩, ha, Nat.zero_le _, hr2, (Mv.refl r w).drew.trans hm2⟩
end Go.Proofs.YtliapnhckdimoacGreatDoor
namespace Go.Proofs.YtliapnhckdimoacGreatDoor
open Go.RowKit Go.Proofs.Sha

theorem i64_or_nat (a b : Nat) (ha : a < 4294967296) (hb : b < 4294967296) : bits .or .i64 (a : Int) (b : Int) = ((a ||| b : Nat) : Int) := by
  have hx : a ||| b < 2 ^ 32 := Nat.or_lt_two_pow (by omega) (by omega)
  show IntKind.i64.wrap ((BitVec.ofInt 64 (a : Int) ||| BitVec.ofInt 64 (b : Int)).toNat : Int) = _
  rw [BitVec.toNat_or, ofInt_u64 a (by omega), ofInt_u64 b (by omega)]
  exact wrap_i64_in _ (by omega) (by omega)
theorem i64_and_nat (a b : Nat) (ha : a < 4294967296) (hb : b < 4294967296) : bits .and .i64 (a : Int) (b : Int) = ((a &&& b : Nat) : Int) := by
  have hx : a &&& b < 2 ^ 32 := Nat.and_lt_two_pow _ (by omega)
  show IntKind.i64.wrap ((BitVec.ofInt 64 (a : Int) &&& BitVec.ofInt 64 (b : Int)).toNat : Int) = _
  rw [BitVec.toNat_and, ofInt_u64 a (by omega), ofInt_u64 b (by omega)]
  exact wrap_i64_in _ (by omega) (by omega)

/-- The number of the first i bytes of a text. -/
def valTo (z : Nat) (low : Bool) (b : Nat → Nat) : Nat → Nat
  | 0 => 0
  | i + 1 => valTo z low b i ||| b i * 2 ^ (8 * (if low then i else z - 1 - i))
theorem piece_lt (m k : Nat) (hm : m < 256) (hk : k ≤ 24) : m * 2 ^ k < 4294967296 := by
  have h1 : 2 ^ k ≤ 2 ^ 24 := Nat.pow_le_pow_right (by omega) hk
  have h2 : m * 2 ^ k ≤ 255 * 2 ^ 24 := Nat.mul_le_mul (by omega) h1
  have h3 : 255 * 2 ^ 24 < 4294967296 := by decide
  omega
theorem valTo_lt (z : Nat) (low : Bool) (b : Nat → Nat) (hb : ∀ i, b i < 256) (hz : z ≤ 4) : ∀ i, i ≤ z → valTo z low b i < 4294967296
  | 0, _ => by rw [valTo]; omega
  | i + 1, hi => by
    rw [valTo]
    have h1 := valTo_lt z low b hb hz i (by omega)
    have h2 := piece_lt (b i) (8 * (if low then i else z - 1 - i)) (hb i) (by split <;> omega)
    have := Nat.or_lt_two_pow (n := 32) (x := valTo z low b i) (y := b i * 2 ^ (8 * (if low then i else z - 1 - i))) (by omega) (by omega)
    omega
/-- The bytes of a text, zeros behind it. -/
def byteAt (t : ByteArray) (i : Nat) : Nat := (t.data.toList.getD i 0).toNat
theorem byteAt_lt (t : ByteArray) (i : Nat) : byteAt t i < 256 := UInt8.toNat_lt _

set_option maxRecDepth 100000 in
set_option maxHeartbeats 1000000 in
theorem ntake (z : Nat) (low : Bool) (r : Nat) (s : ByteArray) (a : Nat) (f : Bool) (w : World) (h : Rd r s a f w) (ha : a ≤ s.size) (hs : s.size ≤ 1048576) (hz : 0 < z) (hz4 : z ≤ 4) :
    Calls Tryz.prog 92 #[.agg #[.int .i64 (z : Int), .bool low], .pointer (some ⟨r, 0, none⟩)] w fun e w' => ∃ (v : Nat) (t : ByteArray) (a' : Nat) (f' : Bool), e = .returned (.int .i64 (v : Int)) ∧ Hid (NX s a f z t a' f') ∧ Hid (v = valTo z low (byteAt t) t.size) ∧ a' ≤ s.size ∧ v < 4294967296 ∧ Rd r s a' f' w' ∧ Mv r w w' := by
  have hlt := h.lt
  have HN : Hid (∀ w', Rd r s a f w' → Calls Tryz.prog 90 #[.pointer (some ⟨r, 0, none⟩), .int .i64 (z : Int)] w' fun e w'' => ∃ t a' f', e = .returned (.string t) ∧ Hid (NX s a f z t a' f') ∧ a' ≤ s.size ∧ t.size ≤ s.size ∧ Rd r s a' f' w'' ∧ Mv r w' w'') := fun w' h' => next_any r s a f z w' h' ha hs (by omega)
  go_enter Tryz.func92, Tryz.ntmps92
  go_wp2_with (first | (go_at_call 90; refine (HN.out _ (h.alloc _)).mono ?_; rintro e w1 ⟨t, a', f', rfl, HX, ha', ht, hr1, hm1⟩) | (refine wpList_bytes_row _ rfl (.tmp 11) 9 62 5 rfl t rfl Tryz.underlying9 Tryz.underlying62 Tryz.underlying5 ?_; intro g cap w2 hrow hb2))
  have hn1 := hm1.cells (heap_alloc_new w (.cells #[.int .i64 (z : Int), .bool low] 115)) (by omega)
  have hn2 := below_cells hb2 hn1
  have hr2 := hr1.below hb2
  have hm2 : Mv r w w2 := (((Mv.refl r w).alloc _).trans hm1).trans (Mv.of_below r hb2)
  have htz : t.size ≤ z := by
    rcases HX.out with ⟨_, h2, h3, _⟩ | ⟨_, h3, _⟩
    · rw [h3, ByteArray.size_extract]; omega
    · rw [h3]; exact Nat.zero_le _
  have HB := byteAt_lt t
  have HVL : Hid (∀ i, i ≤ z → valTo z low (byteAt t) i < 4294967296) := fun i hi => valTo_lt z low (byteAt t) HB hz4 i hi
  have HRow : Hid (∀ W, Below w2.heap.size w2 W → ∀ i, i < t.size → W.cell? ⟨g, i, none⟩ = some (.int .u8 (byteAt t i : Int))) := by
    intro W hW i hi
    rw [(hrow.below hW).cell i hi, List.getElem?_map, List.getElem?_eq_getElem (by exact hi)]
    unfold byteAt
    rw [List.getD_eq_getElem?_getD, List.getElem?_eq_getElem (by exact hi)]
    rfl
  clear hb2 hrow hn1 hm1 hr1 HN
  go_loopw [5, 14] (fun t5 t14 wr => ∃ i v : Nat, i ≤ t.size ∧ t5 = .int .i64 (v : Int) ∧ t14 = .int .i64 (i : Int) ∧ Hid (v = valTo z low (byteAt t) i) ∧ Below w2.heap.size w2 wr) (fun _ t14 _ => t.size - (intOf t14).toNat)
  case atStart => exact ⟨0, 0, Nat.zero_le _, rfl, rfl, rfl, Below.refl _ _⟩
  case round =>
    obtain ⟨i, v, hi, rfl, rfl, HV, hb⟩ := hrel
    by_cases h1 : i < t.size
    · have z1 : decide ((i : Int) < (t.size : Int)) = true := by simp; omega
      have y1 : (0 : Int) ≤ (i : Int) := by omega
      have y2 : (i : Int) < (t.size : Int) := by omega
      have cb := HRow.out wr hb i h1
      have hn := below_cells hb hn2
      have c0 : wr.cell? ⟨w.heap.size, 0, none⟩ = some (.int .i64 (z : Int)) := Lib.cell_of_heap hn 0
      have c1 : wr.cell? ⟨w.heap.size, 1, none⟩ = some (.bool low) := Lib.cell_of_heap hn 1
      obtain ⟨k, hk, hk24, hkb⟩ : ∃ k : Nat, sh z low i = (k : Int) ∧ k ≤ 24 ∧ k = 8 * (if low then i else z - 1 - i) := by
        unfold sh
        cases low
        · exact ⟨8 * (z - 1 - i), by simp only [Bool.false_eq_true, if_false]; omega, by omega, rfl⟩
        · exact ⟨8 * i, by simp only [if_true]; omega, by omega, rfl⟩
      have HC : Hid (∀ w', Calls Tryz.prog 91 #[.agg #[.int .i64 (z : Int), .bool low], .int .i64 (i : Int)] w' fun e w'' => e = .returned (.int .i64 (k : Int)) ∧ Below w'.heap.size w' w'') := fun w' => by rw [← hk]; exact shift_any _ _ _ w' (by omega) (by omega) (by omega) (by omega)
      have k0 : (0 : Int) ≤ (k : Int) := by omega
      obtain ⟨m, hm⟩ : ∃ m, byteAt t i = m := ⟨_, rfl⟩
      have hm256 : m < 256 := by rw [← hm]; exact HB i
      obtain ⟨q, hq⟩ : ∃ q, m * 2 ^ k = q := ⟨_, rfl⟩
      have hq32 : q < 4294967296 := by rw [← hq]; exact piece_lt m k hm256 hk24
      have hv32 : v < 4294967296 := by rw [HV.out]; exact HVL.out i (by omega)
      have hw : IntKind.i64.wrap ((m : Int) * 2 ^ k) = (q : Int) := by
        rw [← hq, wrap_i64_in]
        · rw [Int.natCast_mul, Int.natCast_pow]; rfl
        · have : (0 : Int) ≤ (m : Int) * 2 ^ k := Int.mul_nonneg (by omega) (Int.pow_nonneg (by omega))
          omega
        · have e : (m : Int) * 2 ^ k = (q : Int) := by rw [← hq, Int.natCast_mul, Int.natCast_pow]; rfl
          omega
      obtain ⟨v', hv'⟩ : ∃ v', v ||| q = v' := ⟨_, rfl⟩
      have hor : bits .or .i64 (v : Int) (q : Int) = (v' : Int) := by rw [← hv']; exact i64_or_nat v q hv32 hq32
      have HV' : Hid (v' = valTo z low (byteAt t) (i + 1)) := by show _ = _; rw [valTo, ← HV.out, hm, ← hkb, hq, hv']
      rw [hm] at cb
      clear hv' hq hkb hk hm
      go_wp2_with (first | (go_at_call 91; refine (HC.out _).mono ?_; rintro e w3 ⟨rfl, hb3⟩))
      refine ⟨⟨i + 1, v', by omega, rfl, congrArg (Value.int .i64) (by omega), HV', hb.trans (hb3.mono hb.size)⟩, ?_⟩
      show t.size - ((i : Int) + 1).toNat < t.size - ((i : Int)).toNat
      omega
    · have e : i = t.size := by omega
      have z1 : decide ((i : Int) < (t.size : Int)) = false := by simp; omega
      go_wp2_with fail
      go_ret
      have hv32 : v < 4294967296 := by rw [HV.out]; exact HVL.out i (by omega)
      subst e
      exact ⟨v, t, a', f', rfl, HX, HV, ha', hv32, hr2.below hb, hm2.trans (Mv.of_below r hb)⟩
end Go.Proofs.YtliapnhckdimoacGreatDoor
namespace Go.Proofs.YtliapnhckdimoacGreatDoor
open Go.RowKit Go.Proofs.Sha

theorem NX.fault {s : ByteArray} {a : Nat} {f : Bool} {n : Nat} {t : ByteArray} {a' : Nat} (h : NX s a f n t a' true) : t = ⟨#[]⟩ := by
  rcases h with ⟨_, _, _, _, h⟩ | ⟨_, h, _⟩
  · cases h
  · exact h

set_option maxRecDepth 100000 in
theorem rint (z : Nat) (low : Bool) (r : Nat) (s : ByteArray) (a : Nat) (f : Bool) (w : World) (h : Rd r s a f w) (ha : a ≤ s.size) (hs : s.size ≤ 1048576) (hz : 0 < z) (hz4 : z ≤ 4) :
    Calls Tryz.prog 73 #[.pointer (some ⟨r, 0, none⟩), .iface 115 (.agg #[.int .i64 (z : Int), .bool low])] w fun e w' => ∃ (v : Nat) (t : ByteArray) (a' : Nat) (f' : Bool), e = .returned (.int .i64 (v : Int)) ∧ Hid (NX s a f z t a' f') ∧ Hid (v = valTo z low (byteAt t) t.size) ∧ a' ≤ s.size ∧ v < 4294967296 ∧ Rd r s a' f' w' ∧ Mv r w w' := by
  have hmt : ∀ w : World, (method 271 115 (.agg #[.int .i64 (z : Int), .bool low]) "loop.example/s03048/impl.take").run Tryz.prog w = .ok (92, .agg #[.int .i64 (z : Int), .bool low]) w := fun _ => by kernel_rfl
  have HC := ntake z low r s a f w h ha hs hz hz4
  have HCh : Hid (Calls Tryz.prog 92 #[.agg #[.int .i64 (z : Int), .bool low], .pointer (some ⟨r, 0, none⟩)] w fun e w' => ∃ (v : Nat) (t : ByteArray) (a' : Nat) (f' : Bool), e = .returned (.int .i64 (v : Int)) ∧ Hid (NX s a f z t a' f') ∧ Hid (v = valTo z low (byteAt t) t.size) ∧ a' ≤ s.size ∧ v < 4294967296 ∧ Rd r s a' f' w' ∧ Mv r w w') := HC
  clear HC
  go_enter Tryz.func73, Tryz.ntmps73
  go_wp2_with (first | (go_at_call 92; refine HCh.out.mono ?_; rintro e w1 ⟨v, t, a', f', rfl, HX, HV, ha', hv, hr1, hm1⟩; have c2 : w1.cell? ⟨r, 2, none⟩ = some (.bool f') := Lib.cell_of_heap hr1 2))
  · rename_i hf
    go_ret
    subst hf
    have e := NX.fault HX.out
    exact ⟨0, t, a', true, rfl, HX, by show 0 = valTo z low (byteAt t) t.size; rw [e]; rfl, ha', by omega, hr1, hm1⟩
  · go_ret
    exact ⟨v, t, a', f', rfl, HX, HV, ha', hv, hr1, hm1⟩

theorem clone_any (t : ByteArray) (w : World) (ht : t.size ≤ 1048576) :
    Calls Tryz.prog 127 #[.string t] w fun e w' => e = .returned (.string t) ∧ Below w.heap.size w w' := by
  have HC : Hid (Calls Tryz.prog 128 #[.string t] w fun e w' => e = .returned (.string t) ∧ Below w.heap.size w w') := Tryz.stringslite_Clone t w (by omega)
  go_enter Tryz.func127, Tryz.ntmps127
  go_wp2_with (first | (go_at_call 128; refine HC.out.mono ?_; rintro e w1 ⟨rfl, hb1⟩))
  go_ret
  exact ⟨rfl, hb1⟩

set_option maxRecDepth 100000 in
theorem ptake (n : Nat) (r : Nat) (s : ByteArray) (a : Nat) (f : Bool) (w : World) (h : Rd r s a f w) (ha : a ≤ s.size) (hs : s.size ≤ 1048576) (hn : n ≤ 4294967296) :
    Calls Tryz.prog 126 #[.agg #[.int .i64 (n : Int)], .pointer (some ⟨r, 0, none⟩)] w fun e w' => ∃ (t : ByteArray) (a' : Nat) (f' : Bool), e = .returned (.string t) ∧ Hid (NX s a f n t a' f') ∧ a' ≤ s.size ∧ t.size ≤ s.size ∧ Rd r s a' f' w' ∧ Mv r w w' := by
  have HN : Hid (∀ w', Rd r s a f w' → Calls Tryz.prog 90 #[.pointer (some ⟨r, 0, none⟩), .int .i64 (n : Int)] w' fun e w'' => ∃ t a' f', e = .returned (.string t) ∧ Hid (NX s a f n t a' f') ∧ a' ≤ s.size ∧ t.size ≤ s.size ∧ Rd r s a' f' w'' ∧ Mv r w' w'') := fun w' h' => next_any r s a f n w' h' ha hs hn
  go_enter Tryz.func126, Tryz.ntmps126
  go_wp2_with (first | (go_at_call 90; refine (HN.out _ (h.alloc _)).mono ?_; rintro e w1 ⟨t, a', f', rfl, HX, ha', ht, hr1, hm1⟩) | (go_at_call 127; refine (clone_any t _ (by omega)).mono ?_; rintro e w2 ⟨rfl, hb2⟩))
  go_ret
  exact ⟨t, a', f', rfl, HX, ha', ht, hr1.below hb2, (((Mv.refl r w).alloc _).trans hm1).trans (Mv.of_below r hb2)⟩

set_option maxRecDepth 100000 in
theorem rplain (n : Nat) (r : Nat) (s : ByteArray) (a : Nat) (f : Bool) (w : World) (h : Rd r s a f w) (ha : a ≤ s.size) (hs : s.size ≤ 1048576) (hn : n ≤ 4294967296) :
    Calls Tryz.prog 72 #[.pointer (some ⟨r, 0, none⟩), .iface 169 (.agg #[.int .i64 (n : Int)])] w fun e w' => ∃ (t : ByteArray) (a' : Nat) (f' : Bool), e = .returned (.string t) ∧ Hid (NX s a f n t a' f') ∧ a' ≤ s.size ∧ t.size ≤ s.size ∧ Rd r s a' f' w' ∧ Mv r w w' := by
  have hmt : ∀ w : World, (method 271 169 (.agg #[.int .i64 (n : Int)]) "loop.example/s03048/impl.take").run Tryz.prog w = .ok (126, .agg #[.int .i64 (n : Int)]) w := fun _ => by kernel_rfl
  have HCh : Hid (Calls Tryz.prog 126 #[.agg #[.int .i64 (n : Int)], .pointer (some ⟨r, 0, none⟩)] w fun e w' => ∃ (t : ByteArray) (a' : Nat) (f' : Bool), e = .returned (.string t) ∧ Hid (NX s a f n t a' f') ∧ a' ≤ s.size ∧ t.size ≤ s.size ∧ Rd r s a' f' w' ∧ Mv r w w') := ptake n r s a f w h ha hs hn
  go_enter Tryz.func72, Tryz.ntmps72
  go_wp2_with (first | (go_at_call 126; refine HCh.out.mono ?_; rintro e w1 ⟨t, a', f', rfl, HX, ha', ht, hr1, hm1⟩; have c2 : w1.cell? ⟨r, 2, none⟩ = some (.bool f') := Lib.cell_of_heap hr1 2))
  · rename_i hf
    go_ret
    subst hf
    exact ⟨⟨#[]⟩, a', true, rfl, by rw [← NX.fault HX.out]; exact HX, ha', Nat.zero_le _, hr1, hm1⟩
  · go_ret
    exact ⟨t, a', f', rfl, HX, ha', ht, hr1, hm1⟩

/-- What a text with its size ahead answers and leaves. -/
def SX (z : Nat) (low : Bool) (s : ByteArray) (a : Nat) (f : Bool) (t : ByteArray) (a' : Nat) (f' : Bool) : Prop :=
  ∃ (t1 : ByteArray) (a1 : Nat) (f1 : Bool), NX s a f z t1 a1 f1 ∧ NX s a1 f1 (valTo z low (byteAt t1) t1.size) t a' f'

set_option maxRecDepth 100000 in
theorem stake (z : Nat) (low : Bool) (r : Nat) (s : ByteArray) (a : Nat) (f : Bool) (w : World) (h : Rd r s a f w) (ha : a ≤ s.size) (hs : s.size ≤ 1048576) (hz : 0 < z) (hz4 : z ≤ 4) :
    Calls Tryz.prog 119 #[.agg #[.int .i64 (z : Int), .bool low], .pointer (some ⟨r, 0, none⟩)] w fun e w' => ∃ (t : ByteArray) (a' : Nat) (f' : Bool), e = .returned (.string t) ∧ Hid (SX z low s a f t a' f') ∧ a' ≤ s.size ∧ t.size ≤ s.size ∧ Rd r s a' f' w' ∧ Mv r w w' := by
  have HI : Hid (∀ w', Rd r s a f w' → Calls Tryz.prog 73 #[.pointer (some ⟨r, 0, none⟩), .iface 115 (.agg #[.int .i64 (z : Int), .bool low])] w' fun e w'' => ∃ (v : Nat) (t : ByteArray) (a' : Nat) (f' : Bool), e = .returned (.int .i64 (v : Int)) ∧ Hid (NX s a f z t a' f') ∧ Hid (v = valTo z low (byteAt t) t.size) ∧ a' ≤ s.size ∧ v < 4294967296 ∧ Rd r s a' f' w'' ∧ Mv r w' w'') := fun w' h' => rint z low r s a f w' h' ha hs hz hz4
  go_enter Tryz.func119, Tryz.ntmps119
  go_wp2_with (first | (go_at_call 73; refine (HI.out _ (h.alloc _)).mono ?_; rintro e w1 ⟨v, t1, a1, f1, rfl, HX, HV, ha1, hv, hr1, hm1⟩) | (go_at_call 72; refine (rplain v r s a1 f1 _ hr1 ha1 hs (by omega)).mono ?_; rintro e w2 ⟨t, a', f', rfl, HY, ha', ht, hr2, hm2⟩))
  go_ret
  refine ⟨t, a', f', rfl, ⟨t1, a1, f1, HX.out, ?_⟩, ha', ht, hr2, (((Mv.refl r w).alloc _).trans hm1).trans hm2⟩
  rw [← HV.out]
  exact HY.out

set_option maxRecDepth 100000 in
theorem rsized (z : Nat) (low : Bool) (r : Nat) (s : ByteArray) (a : Nat) (f : Bool) (w : World) (h : Rd r s a f w) (ha : a ≤ s.size) (hs : s.size ≤ 1048576) (hz : 0 < z) (hz4 : z ≤ 4) :
    Calls Tryz.prog 72 #[.pointer (some ⟨r, 0, none⟩), .iface 137 (.agg #[.int .i64 (z : Int), .bool low])] w fun e w' => ∃ (t : ByteArray) (a' : Nat) (f' : Bool), e = .returned (.string t) ∧ Hid (SX z low s a f t a' f') ∧ a' ≤ s.size ∧ t.size ≤ s.size ∧ Rd r s a' f' w' ∧ Mv r w w' := by
  have hmt : ∀ w : World, (method 271 137 (.agg #[.int .i64 (z : Int), .bool low]) "loop.example/s03048/impl.take").run Tryz.prog w = .ok (119, .agg #[.int .i64 (z : Int), .bool low]) w := fun _ => by kernel_rfl
  have HCh : Hid (Calls Tryz.prog 119 #[.agg #[.int .i64 (z : Int), .bool low], .pointer (some ⟨r, 0, none⟩)] w fun e w' => ∃ (t : ByteArray) (a' : Nat) (f' : Bool), e = .returned (.string t) ∧ Hid (SX z low s a f t a' f') ∧ a' ≤ s.size ∧ t.size ≤ s.size ∧ Rd r s a' f' w' ∧ Mv r w w') := stake z low r s a f w h ha hs hz hz4
  go_enter Tryz.func72, Tryz.ntmps72
  go_wp2_with (first | (go_at_call 119; refine HCh.out.mono ?_; rintro e w1 ⟨t, a', f', rfl, HX, ha', ht, hr1, hm1⟩; have c2 : w1.cell? ⟨r, 2, none⟩ = some (.bool f') := Lib.cell_of_heap hr1 2))
  · rename_i hf
    go_ret
    subst hf
    obtain ⟨t1, a1, f1, h1, h2⟩ := HX.out
    exact ⟨⟨#[]⟩, a', true, rfl, ⟨t1, a1, f1, h1, by rw [← NX.fault h2]; exact h2⟩, ha', Nat.zero_le _, hr1, hm1⟩
  · go_ret
    exact ⟨t, a', f', rfl, HX, ha', ht, hr1, hm1⟩
end Go.Proofs.YtliapnhckdimoacGreatDoor
