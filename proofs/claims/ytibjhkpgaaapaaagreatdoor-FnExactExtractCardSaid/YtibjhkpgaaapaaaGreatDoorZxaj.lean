import Derived.Shelf.Strings.BuilderF
import Derived.Shelf.Strings.BuilderK
import Derived.Shelf.Strconv.Clone
import Derived.Test.YtibjhkpgaaapaaaGreatDoorProg
import Derived.Test.YtibjhkpgaaapaaaGreatDoorZxac
namespace Go.Proofs
open Go.Shelf
def Tryz.lays169_ren : Go.Shelf.Ren := ⟨fun | 169 => 114 | n => n, fun | 70 => 163 | 9 => 9 | 0 => 0 | 72 => 165 | 37 => 41 | 127 => 233 | 3 => 3 | 5 => 5 | n => n, fun | n => n⟩
theorem Tryz.lays169 : Go.Proofs.Lays.n169 Tryz.prog Tryz.lays169_ren := {
  mixed := by kernel_rfl
  f169 := Tryz.func114.trans (congrArg some (by kernel_rfl))
  t0 := Tryz.underlying0
  a0 := Tryz.isAgg0
  z0 := Tryz.sizeOf0
  v0 := Tryz.zeroValue0
  t3 := Tryz.underlying3
  a3 := Tryz.isAgg3
  z3 := Tryz.sizeOf3
  v3 := Tryz.zeroValue3
  t9 := Tryz.underlying9
  a9 := Tryz.isAgg9
  z9 := Tryz.sizeOf9
  v9 := Tryz.zeroValue9
  t37 := Tryz.underlying41
  a37 := Tryz.isAgg41
  z37 := Tryz.sizeOf41
  v37 := Tryz.zeroValue41
  t70 := Tryz.underlying163
  a70 := Tryz.isAgg163
  z70 := Tryz.sizeOf163
  v70 := Tryz.zeroValue163
  t72 := Tryz.underlying165
  a72 := Tryz.isAgg165
  z72 := Tryz.sizeOf165
  v72 := Tryz.zeroValue165
  t127 := Tryz.underlying233
  a127 := Tryz.isAgg233
  z127 := Tryz.sizeOf233
  v127 := Tryz.zeroValue233 }
theorem Tryz.Builder_Extra_169 : Builder.Extra Tryz.prog Tryz.lays169_ren := {
  sizeBuilder := by kernel_rfl
  liesBuilder := by kernel_rfl
  t5 := Tryz.underlying5
  a5 := Tryz.isAgg5
  z5 := Tryz.sizeOf5
  v5 := Tryz.zeroValue5
  infoByte := by kernel_rfl
  cellsByte := by kernel_rfl
  sizeByte := by kernel_rfl
  neB5 := by decide }
open Go.RowKit in
theorem Tryz.Builder_String_any_k (B b : Nat) (l : List UInt8) (w : World) (h : Lib.IsBuilderF 165 5 B b (Lib.byteCells l) w) (hBw : B ≤ w.heap.size) :
    Calls Tryz.prog 114 #[.pointer (some ⟨b, 0, none⟩)] w fun e w' => e = .returned (.string ⟨l.toArray⟩) ∧ (Lib.IsBuilderF 165 5 B b (Lib.byteCells l) w' ∧ Below B w w' ∧ Lib.OthersKept 5 (some b) w w') := Any.Builder_String_any_k Tryz.lays169 Tryz.Builder_Extra_169 B b l w h hBw
def Tryz.laysM316_ren : Go.Shelf.Ren := ⟨fun | 316 => 181 | n => n, fun | 9 => 9 | 3 => 3 | 4 => 4 | 37 => 41 | 0 => 0 | 127 => 233 | 5 => 5 | n => n, fun | n => n⟩
theorem Tryz.laysM316 : Go.Proofs.LaysM.n316 Tryz.prog Tryz.laysM316_ren := {
  mixed := by kernel_rfl
  f316 := Tryz.func181.trans (congrArg some (by kernel_rfl))
  t0 := Tryz.underlying0
  a0 := Tryz.isAgg0
  z0 := Tryz.sizeOf0
  v0 := Tryz.zeroValue0
  t3 := Tryz.underlying3
  a3 := Tryz.isAgg3
  z3 := Tryz.sizeOf3
  v3 := Tryz.zeroValue3
  t4 := Tryz.underlying4
  a4 := Tryz.isAgg4
  z4 := Tryz.sizeOf4
  v4 := Tryz.zeroValue4
  t9 := Tryz.underlying9
  a9 := Tryz.isAgg9
  z9 := Tryz.sizeOf9
  v9 := Tryz.zeroValue9
  t37 := Tryz.underlying41
  a37 := Tryz.isAgg41
  z37 := Tryz.sizeOf41
  v37 := Tryz.zeroValue41
  t127 := Tryz.underlying233
  a127 := Tryz.isAgg233
  z127 := Tryz.sizeOf233
  v127 := Tryz.zeroValue233
  t5 := Tryz.underlying5
  a5 := Tryz.isAgg5
  z5 := Tryz.sizeOf5
  v5 := Tryz.zeroValue5
  i0 := by kernel_rfl
  i3 := by kernel_rfl
  i4 := by kernel_rfl
  i5 := by kernel_rfl
  i9 := by kernel_rfl
  i37 := by kernel_rfl
  i127 := by kernel_rfl }
open Go.RowKit in
theorem Tryz.stringslite_Clone (s : ByteArray) (w : World) (hlim : s.size ≤ 281474976710656) :
    Calls Tryz.prog 181 #[.string s] w fun e w' => e = .returned (.string s) ∧ Below w.heap.size w w' := Any.stringslite_Clone Tryz.laysM316 s w hlim
def Tryz.lays167_ren : Go.Shelf.Ren := ⟨fun | 166 => 241 | 167 => 234 | 240 => 236 | 276 => 237 | n => n, fun | 0 => 0 | 3 => 3 | 4 => 4 | 5 => 5 | 9 => 9 | 20 => 20 | 37 => 41 | 70 => 163 | 72 => 165 | 75 => 319 | 80 => 154 | 164 => 321 | n => n, fun | n => n⟩
theorem Tryz.lays167 : Go.Proofs.Lays.n167 Tryz.prog Tryz.lays167_ren := {
  mixed := by kernel_rfl
  f167 := Tryz.func234.trans (congrArg some (by kernel_rfl))
  f240 := Tryz.func236.trans (congrArg some (by kernel_rfl))
  f276 := Tryz.func237.trans (congrArg some (by kernel_rfl))
  t0 := Tryz.underlying0
  a0 := Tryz.isAgg0
  z0 := Tryz.sizeOf0
  v0 := Tryz.zeroValue0
  t4 := Tryz.underlying4
  a4 := Tryz.isAgg4
  z4 := Tryz.sizeOf4
  v4 := Tryz.zeroValue4
  t5 := Tryz.underlying5
  a5 := Tryz.isAgg5
  z5 := Tryz.sizeOf5
  v5 := Tryz.zeroValue5
  t9 := Tryz.underlying9
  a9 := Tryz.isAgg9
  z9 := Tryz.sizeOf9
  v9 := Tryz.zeroValue9
  t20 := Tryz.underlying20
  a20 := Tryz.isAgg20
  z20 := Tryz.sizeOf20
  v20 := Tryz.zeroValue20
  t37 := Tryz.underlying41
  a37 := Tryz.isAgg41
  z37 := Tryz.sizeOf41
  v37 := Tryz.zeroValue41
  t70 := Tryz.underlying163
  a70 := Tryz.isAgg163
  z70 := Tryz.sizeOf163
  v70 := Tryz.zeroValue163
  t72 := Tryz.underlying165
  a72 := Tryz.isAgg165
  z72 := Tryz.sizeOf165
  v72 := Tryz.zeroValue165
  t75 := Tryz.underlying319
  a75 := Tryz.isAgg319
  z75 := Tryz.sizeOf319
  v75 := Tryz.zeroValue319
  t164 := Tryz.underlying321
  a164 := Tryz.isAgg321
  z164 := Tryz.sizeOf321
  v164 := Tryz.zeroValue321 }
theorem Tryz.Builder_Extra_167 : Builder.Extra Tryz.prog Tryz.lays167_ren := {
  sizeBuilder := by kernel_rfl
  liesBuilder := by kernel_rfl
  t5 := Tryz.underlying5
  a5 := Tryz.isAgg5
  z5 := Tryz.sizeOf5
  v5 := Tryz.zeroValue5
  infoByte := by kernel_rfl
  cellsByte := by kernel_rfl
  sizeByte := by kernel_rfl
  neB5 := by decide }
open Go.RowKit in
theorem Tryz.Builder_WriteByte_k (B b : Nat) (bs : List Value) (c : Int) (w : World) (h : Lib.IsBuilderF 165 5 B b bs w) (hlen : bs.length + 1 ≤ 140737488355328) (hBw : B ≤ w.heap.size) :
    Calls Tryz.prog 234 #[.pointer (some ⟨b, 0, none⟩), .int .u8 c] w fun e w' => e = .returned .nilIface ∧ (Lib.BuilderAtF 165 5 B b (.pointer (some ⟨b, 0, none⟩)) (bs ++ [.int .u8 c]) w' ∧ Below B w w' ∧ Lib.OthersKept 5 (some b) w w') := Any.Builder_WriteByte_k Tryz.lays167 Tryz.Builder_Extra_167 B b bs c w h hlen hBw
def Tryz.lays166_ren : Go.Shelf.Ren := ⟨fun | 166 => 241 | 167 => 234 | 240 => 236 | 276 => 237 | n => n, fun | 0 => 0 | 3 => 3 | 4 => 4 | 5 => 5 | 9 => 9 | 20 => 20 | 37 => 41 | 70 => 163 | 72 => 165 | 75 => 319 | 80 => 154 | 164 => 321 | n => n, fun | n => n⟩
theorem Tryz.lays166 : Go.Proofs.Lays.n166 Tryz.prog Tryz.lays166_ren := {
  mixed := by kernel_rfl
  f166 := Tryz.func241.trans (congrArg some (by kernel_rfl))
  f240 := Tryz.func236.trans (congrArg some (by kernel_rfl))
  f276 := Tryz.func237.trans (congrArg some (by kernel_rfl))
  t0 := Tryz.underlying0
  a0 := Tryz.isAgg0
  z0 := Tryz.sizeOf0
  v0 := Tryz.zeroValue0
  t3 := Tryz.underlying3
  a3 := Tryz.isAgg3
  z3 := Tryz.sizeOf3
  v3 := Tryz.zeroValue3
  t4 := Tryz.underlying4
  a4 := Tryz.isAgg4
  z4 := Tryz.sizeOf4
  v4 := Tryz.zeroValue4
  t9 := Tryz.underlying9
  a9 := Tryz.isAgg9
  z9 := Tryz.sizeOf9
  v9 := Tryz.zeroValue9
  t20 := Tryz.underlying20
  a20 := Tryz.isAgg20
  z20 := Tryz.sizeOf20
  v20 := Tryz.zeroValue20
  t37 := Tryz.underlying41
  a37 := Tryz.isAgg41
  z37 := Tryz.sizeOf41
  v37 := Tryz.zeroValue41
  t70 := Tryz.underlying163
  a70 := Tryz.isAgg163
  z70 := Tryz.sizeOf163
  v70 := Tryz.zeroValue163
  t72 := Tryz.underlying165
  a72 := Tryz.isAgg165
  z72 := Tryz.sizeOf165
  v72 := Tryz.zeroValue165
  t75 := Tryz.underlying319
  a75 := Tryz.isAgg319
  z75 := Tryz.sizeOf319
  v75 := Tryz.zeroValue319
  t164 := Tryz.underlying321
  a164 := Tryz.isAgg321
  z164 := Tryz.sizeOf321
  v164 := Tryz.zeroValue321 }
theorem Tryz.Builder_Extra_166 : Builder.Extra Tryz.prog Tryz.lays166_ren := {
  sizeBuilder := by kernel_rfl
  liesBuilder := by kernel_rfl
  t5 := Tryz.underlying5
  a5 := Tryz.isAgg5
  z5 := Tryz.sizeOf5
  v5 := Tryz.zeroValue5
  infoByte := by kernel_rfl
  cellsByte := by kernel_rfl
  sizeByte := by kernel_rfl
  neB5 := by decide }
open Go.RowKit in
theorem Tryz.Builder_WriteString_k (B b : Nat) (bs : List Value) (s : ByteArray) (w : World) (h : Lib.IsBuilderF 165 5 B b bs w) (hlen : bs.length + s.size ≤ 140737488355328) (hBw : B ≤ w.heap.size) :
    Calls Tryz.prog 241 #[.pointer (some ⟨b, 0, none⟩), .string s] w fun e w' => e = .returned (.tuple #[.int .i64 s.size, .nilIface]) ∧ (Lib.BuilderAtF 165 5 B b (.pointer (some ⟨b, 0, none⟩)) (bs ++ Lib.strCells s) w' ∧ Below B w w' ∧ Lib.OthersKept 5 (some b) w w') := Any.Builder_WriteString_k Tryz.lays166 Tryz.Builder_Extra_166 B b bs s w h hlen hBw
end Go.Proofs
namespace Go.Proofs.YtibjhkpgaaapaaaGreatDoor
open Go.RowKit Go.Proofs.Sha

def sh (z : Int) (low : Bool) (i : Int) : Int := if low then 8 * i else 8 * (z - 1 - i)

theorem shift_any (z : Int) (low : Bool) (i : Int) (w : World) (hz : 0 ≤ z) (hz4 : z ≤ 8) (hi : 0 ≤ i) (hi4 : i < z) :
    Calls Tryz.prog 232 #[.agg #[.int .i64 z, .bool low], .int .i64 i] w fun e w' => e = .returned (.int .i64 (sh z low i)) ∧ Below w.heap.size w w' := by
  cases low
  · go_enter Tryz.func232, Tryz.ntmps232
    go_wp2
    go_ret
    exact ⟨rfl, (Below.refl _ _).alloc (Nat.le_refl _) _⟩
  · go_enter Tryz.func232, Tryz.ntmps232
    go_wp2
    go_ret
    exact ⟨rfl, (Below.refl _ _).alloc (Nat.le_refl _) _⟩

/-- The builder in block b holds these bytes. -/
def Bld (b : Nat) (l : List UInt8) (w : World) : Prop := Lib.IsBuilderF 165 5 b b (Lib.byteCells l) w
/-- It holds them, and nothing else has turned. -/
def Put (b : Nat) (l : List UInt8) (w w' : World) : Prop := Bld b l w' ∧ Below b w w' ∧ Lib.OthersKept 5 (some b) w w'

theorem Bld.lt {b : Nat} {l : List UInt8} {w : World} (h : Bld b l w) : b < w.heap.size := by
  rcases h with h | h
  · exact h.lt
  · exact h.lt
theorem Bld.alloc {b : Nat} {l : List UInt8} {w : World} (h : Bld b l w) (o : Obj) : Bld b l (w.alloc o) := by
  rcases h with h | h
  · exact .inl (h.alloc o)
  · exact .inr (h.alloc o)
theorem Put.refl {b : Nat} {l : List UInt8} {w : World} (h : Bld b l w) : Put b l w w := ⟨h, Below.refl _ _, Lib.OthersKept.refl _ _ _⟩
theorem Put.trans {b : Nat} {l m : List UInt8} {w w' w'' : World} (h : Put b l w w') (h' : Put b m w' w'') : Put b m w w'' := ⟨h'.1, h.2.1.trans h'.2.1, h.2.2.trans h'.2.2⟩
theorem Put.alloc {b : Nat} {l : List UInt8} {w w' : World} (h : Put b l w w') (o : Obj) : Put b l w (w'.alloc o) := ⟨h.1.alloc o, h.2.1.alloc (Nat.le_of_lt h.1.lt) o, h.2.2.alloc o⟩

theorem wb_any (b : Nat) (l : List UInt8) (c : Int) (w : World) (x : UInt8) (hc : c = (x.toNat : Int)) (h : Bld b l w) (hl : l.length ≤ 10000000) :
    Calls Tryz.prog 234 #[.pointer (some ⟨b, 0, none⟩), .int .u8 c] w fun e w' => e = .returned .nilIface ∧ Put b (l ++ [x]) w w' := by
  refine (Tryz.Builder_WriteByte_k b b _ c w h (by rw [Lib.byteCells_length]; omega) (Nat.le_of_lt h.lt)).mono ?_
  rintro e w' ⟨rfl, h1, h2, h3⟩
  refine ⟨rfl, .inr ?_, h2, h3⟩
  rw [Lib.byteCells_append]
  rw [hc] at h1
  exact h1
theorem ws_any (b : Nat) (l : List UInt8) (s : ByteArray) (w : World) (h : Bld b l w) (hl : l.length + s.size ≤ 10000000) :
    Calls Tryz.prog 241 #[.pointer (some ⟨b, 0, none⟩), .string s] w fun e w' => e = .returned (.tuple #[.int .i64 s.size, .nilIface]) ∧ Put b (l ++ s.data.toList) w w' := by
  refine (Tryz.Builder_WriteString_k b b _ s w h (by rw [Lib.byteCells_length]; omega) (Nat.le_of_lt h.lt)).mono ?_
  rintro e w' ⟨rfl, h1, h2, h3⟩
  refine ⟨rfl, .inr ?_, h2, h3⟩
  rw [Lib.byteCells_append]
  exact h1

/-- The byte at a place of a number. -/
def numByte (z : Nat) (low : Bool) (v i : Nat) : UInt8 := UInt8.ofNat (v / 2 ^ (8 * (if low then i else z - 1 - i)))
def numTo (z : Nat) (low : Bool) (v : Nat) : Nat → List UInt8
  | 0 => []
  | i + 1 => numTo z low v i ++ [numByte z low v i]
theorem numTo_length (z : Nat) (low : Bool) (v : Nat) : ∀ i, (numTo z low v i).length = i
  | 0 => rfl
  | i + 1 => by rw [numTo, List.length_append, numTo_length z low v i]; rfl

theorem Bld.heap {b : Nat} {l : List UInt8} {w w' : World} (h : Bld b l w) (hb : ∀ k, k < w.heap.size → w'.heap[k]? = w.heap[k]?) : Bld b l w' := by
  have H : ∀ p, Lib.BuilderAtF 165 5 b b p (Lib.byteCells l) w → Lib.BuilderAtF 165 5 b b p (Lib.byteCells l) w' := by
    rintro p ⟨h1, v, h2, h3, h4⟩
    have l2 := (Array.getElem?_eq_some_iff.1 h2).1
    refine ⟨h1, v, (hb b l2).trans h2, ⟨h3.1, ?_⟩, h4⟩
    rcases h3.2 with hn | ⟨g, cap, cur, fz, hv, hbg, hg, rest⟩
    · exact .inl hn
    · exact .inr ⟨g, cap, cur, fz, hv, hbg, (hb g (Array.getElem?_eq_some_iff.1 hg).1).trans hg, rest⟩
  rcases h with h | h
  · exact .inl (H _ h)
  · exact .inr (H _ h)
theorem Bld.below {b : Nat} {l : List UInt8} {w w' : World} (h : Bld b l w) (hb : Below w.heap.size w w') : Bld b l w' := h.heap hb.block
theorem Put.below {b : Nat} {l : List UInt8} {w w' w'' : World} (h : Put b l w w') (hb : Below w'.heap.size w' w'') : Put b l w w'' :=
  ⟨h.1.below hb, h.2.1.trans (hb.mono (Nat.le_of_lt h.1.lt)), fun k o hk hkb ho => by
    have h1 := h.2.2 k o hk hkb ho
    exact (hb.block k (Array.getElem?_eq_some_iff.1 h1).1).trans h1⟩
theorem Put.cells {b k : Nat} {l : List UInt8} {w w' : World} {cs : Array Value} {t : TypeId} (h : Put b l w w') (hk : w.heap[k]? = some (.cells cs t)) (hne : k ≠ b) (ht : t ≠ 5) : w'.heap[k]? = some (.cells cs t) :=
  h.2.2 k _ hk (fun e => hne (Option.some.inj e)) (fun c fz e => ht (by cases e; rfl))
theorem below_cells {k : Nat} {w w' : World} {o : Obj} (h : Below w.heap.size w w') (hk : w.heap[k]? = some o) : w'.heap[k]? = some o :=
  (h.block k (Array.getElem?_eq_some_iff.1 hk).1).trans hk

theorem byte_of_shift (v k : Nat) : ((v : Int) / 2 ^ k % 256) = ((UInt8.ofNat (v / 2 ^ k)).toNat : Int) := by
  rw [UInt8.toNat_ofNat', show (2 : Nat) ^ 8 = 256 from rfl]
  obtain ⟨p, hp⟩ : ∃ p : Nat, 2 ^ k = p := ⟨_, rfl⟩
  have hp' : (2 : Int) ^ k = (p : Int) := by rw [← hp, Int.natCast_pow]; rfl
  rw [hp, hp', Int.natCast_emod, Int.natCast_ediv]
  rfl

set_option maxRecDepth 10000000 in
theorem nput (z : Nat) (low : Bool) (b : Nat) (v : Nat) (l : List UInt8) (w : World) (hz : 0 < z) (hz4 : z ≤ 7) (h : Bld b l w) (hl : l.length ≤ 9000000) (_hv : v ≤ 9223372036854775807) :
    Calls Tryz.prog 231 #[.agg #[.int .i64 (z : Int), .bool low], .pointer (some ⟨b, 0, none⟩), .int .i64 (v : Int)] w fun e w' => e = .returned (.tuple #[]) ∧ Put b (l ++ numTo z low v z) w w' := by
  go_enter Tryz.func231, Tryz.ntmps231
  go_wp2
  go_loopw [9] (fun t9 wr => ∃ i : Nat, i ≤ z ∧ t9 = .int .i64 (i : Int) ∧ Put b (l ++ numTo z low v i) w wr ∧ wr.heap[w.heap.size]? = some (.cells #[.int .i64 (z : Int), .bool low] 208)) (fun t9 _ => z - (intOf t9).toNat)
  case atStart => 
    refine ⟨0, Nat.zero_le _, rfl, ?_, heap_alloc_new _ _⟩
    rw [numTo, List.append_nil]
    exact (Put.refl h).alloc _
  case round =>
    obtain ⟨i, hi, rfl, hp, hn⟩ := hrel
    by_cases h1 : i < z
    · have z1 : decide ((i : Int) < (z : Int)) = true := by simp; omega
      have c0 : wr.cell? ⟨w.heap.size, 0, none⟩ = some (.int .i64 (z : Int)) := Lib.cell_of_heap hn 0
      have c1 : wr.cell? ⟨w.heap.size, 1, none⟩ = some (.bool low) := Lib.cell_of_heap hn 1
      obtain ⟨k, hk, hk56, hkb⟩ : ∃ k : Nat, sh z low i = (k : Int) ∧ k ≤ 56 ∧ numByte z low v i = UInt8.ofNat (v / 2 ^ k) := by
        unfold sh numByte
        cases low
        · exact ⟨8 * (z - 1 - i), by simp only [Bool.false_eq_true, if_false]; omega, by omega, rfl⟩
        · exact ⟨8 * i, by simp only [if_true]; omega, by omega, rfl⟩
      have HC : Hid (∀ w', Calls Tryz.prog 232 #[.agg #[.int .i64 (z : Int), .bool low], .int .i64 (i : Int)] w' fun e w'' => e = .returned (.int .i64 (k : Int)) ∧ Below w'.heap.size w' w'') := fun w' => by rw [← hk]; exact shift_any _ _ _ w' (by omega) (by omega) (by omega) (by omega)
      have k0 : (0 : Int) ≤ (k : Int) := by omega
      go_wp2_with (first | (go_at_call 232; refine (HC.out _).mono ?_; rintro e w1 ⟨rfl, hb1⟩) | (go_at_call 234; refine (wb_any b _ _ w1 _ (byte_of_shift v k) (hp.1.below hb1) (by rw [List.length_append, numTo_length]; omega)).mono ?_; rintro e w2 ⟨rfl, hp2⟩))
      have hne : w.heap.size ≠ b := by have := h.lt; omega
      refine ⟨⟨i + 1, by omega, congrArg (Value.int .i64) (by omega), ?_, hp2.cells (below_cells hb1 hn) hne (by decide)⟩, ?_⟩
      · have := (hp.below hb1).trans hp2
        rw [numTo, hkb, ← List.append_assoc]
        exact this
      · show z - ((i : Int) + 1).toNat < z - ((i : Int)).toNat
        omega
    · have z1 : decide ((i : Int) < (z : Int)) = false := by simp; omega
      go_wp2
      have e : i = z := by omega
      subst e
      go_end0
      exact ⟨rfl, hp⟩
end Go.Proofs.YtibjhkpgaaapaaaGreatDoor
namespace Go.Proofs.YtibjhkpgaaapaaaGreatDoor
open Go.RowKit Go.Proofs.Sha

theorem wint (z : Nat) (low : Bool) (b : Nat) (v : Nat) (l : List UInt8) (w : World) (hz : 0 < z) (hz4 : z ≤ 7) (h : Bld b l w) (hl : l.length ≤ 9000000) (hv : v ≤ 9223372036854775807) :
    Calls Tryz.prog 223 #[.pointer (some ⟨b, 0, none⟩), .iface 208 (.agg #[.int .i64 (z : Int), .bool low]), .int .i64 (v : Int)] w fun e w' => e = .returned (.tuple #[]) ∧ Put b (l ++ numTo z low v z) w w' := by
  have hmt : ∀ w : World, (method 427 208 (.agg #[.int .i64 (z : Int), .bool low]) "loop.example/s03048/impl.put").run Tryz.prog w = .ok (231, .agg #[.int .i64 (z : Int), .bool low]) w := fun _ => by kernel_rfl
  go_enter Tryz.func223, Tryz.ntmps223
  go_wp2_with (first | (go_at_call 231; refine (nput z low b v l w hz hz4 h hl hv).mono ?_; rintro e w2 ⟨rfl, hp2⟩))
  go_end0
  exact ⟨rfl, hp2⟩

theorem plain_put (n : Int) (b : Nat) (s : ByteArray) (l : List UInt8) (w : World) (h : Bld b l w) (hl : l.length + s.size ≤ 9000000) :
    Calls Tryz.prog 239 #[.agg #[.int .i64 n], .pointer (some ⟨b, 0, none⟩), .string s] w fun e w' => e = .returned (.tuple #[]) ∧ Put b (l ++ s.data.toList) w w' := by
  go_enter Tryz.func239, Tryz.ntmps239
  go_wp2_with (first | (go_at_call 241; refine (ws_any b l s _ (h.alloc _) (by omega)).mono ?_; rintro e w2 ⟨rfl, hp2⟩))
  go_end0
  exact ⟨rfl, ((Put.refl h).alloc _).trans hp2⟩

theorem wplain (n : Int) (b : Nat) (s : ByteArray) (l : List UInt8) (w : World) (h : Bld b l w) (hl : l.length + s.size ≤ 9000000) :
    Calls Tryz.prog 224 #[.pointer (some ⟨b, 0, none⟩), .iface 214 (.agg #[.int .i64 n]), .string s] w fun e w' => e = .returned (.tuple #[]) ∧ Put b (l ++ s.data.toList) w w' := by
  have hmt : ∀ w : World, (method 427 214 (.agg #[.int .i64 n]) "loop.example/s03048/impl.put").run Tryz.prog w = .ok (239, .agg #[.int .i64 n]) w := fun _ => by kernel_rfl
  go_enter Tryz.func224, Tryz.ntmps224
  go_wp2_with (first | (go_at_call 239; refine (plain_put n b s l w h hl).mono ?_; rintro e w2 ⟨rfl, hp2⟩))
  go_end0
  exact ⟨rfl, hp2⟩

theorem sized_put (z : Nat) (low : Bool) (b : Nat) (s : ByteArray) (l : List UInt8) (w : World) (hz : 0 < z) (hz4 : z ≤ 7) (h : Bld b l w) (hl : l.length + s.size ≤ 8000000) :
    Calls Tryz.prog 243 #[.agg #[.int .i64 (z : Int), .bool low], .pointer (some ⟨b, 0, none⟩), .string s] w fun e w' => e = .returned (.tuple #[]) ∧ Put b (l ++ numTo z low s.size z ++ s.data.toList) w w' := by
  go_enter Tryz.func243, Tryz.ntmps243
  go_wp2_with (first | (go_at_call 223; refine (wint z low b s.size l _ hz hz4 (h.alloc _) (by omega) (by omega)).mono ?_; rintro e w2 ⟨rfl, hp2⟩) | (go_at_call 224; refine (wplain _ b s _ _ hp2.1 (by rw [List.length_append, numTo_length]; omega)).mono ?_; rintro e w3 ⟨rfl, hp3⟩))
  go_end0
  exact ⟨rfl, (((Put.refl h).alloc _).trans hp2).trans hp3⟩

theorem wsized (z : Nat) (low : Bool) (b : Nat) (s : ByteArray) (l : List UInt8) (w : World) (hz : 0 < z) (hz4 : z ≤ 7) (h : Bld b l w) (hl : l.length + s.size ≤ 8000000) :
    Calls Tryz.prog 224 #[.pointer (some ⟨b, 0, none⟩), .iface 261 (.agg #[.int .i64 (z : Int), .bool low]), .string s] w fun e w' => e = .returned (.tuple #[]) ∧ Put b (l ++ numTo z low s.size z ++ s.data.toList) w w' := by
  have hmt : ∀ w : World, (method 427 261 (.agg #[.int .i64 (z : Int), .bool low]) "loop.example/s03048/impl.put").run Tryz.prog w = .ok (243, .agg #[.int .i64 (z : Int), .bool low]) w := fun _ => by kernel_rfl
  go_enter Tryz.func224, Tryz.ntmps224
  go_wp2_with (first | (go_at_call 243; refine (sized_put z low b s l w hz hz4 h hl).mono ?_; rintro e w2 ⟨rfl, hp2⟩))
  go_end0
  exact ⟨rfl, hp2⟩

theorem wint1 (b : Nat) (v : Nat) (l : List UInt8) (w : World) (h : Bld b l w) (hl : l.length ≤ 9000000) (hv : v ≤ 9223372036854775807) :
    Calls Tryz.prog 223 #[.pointer (some ⟨b, 0, none⟩), .iface 208 (.agg #[.int .i64 1, .bool false]), .int .i64 (v : Int)] w fun e w' => e = .returned (.tuple #[]) ∧ Put b (l ++ [UInt8.ofNat v]) w w' := by
  have := wint 1 false b v l w (by omega) (by omega) h hl hv
  have e : numTo 1 false v 1 = [UInt8.ofNat v] := by simp [numTo, numByte]
  rw [e] at this
  exact this
end Go.Proofs.YtibjhkpgaaapaaaGreatDoor
namespace Go.Proofs.YtibjhkpgaaapaaaGreatDoor
open Go.RowKit Go.Proofs.Sha

def gap (n : Nat) : Nat := (n + 62) / 63 * 63 - n
def pad63 (l : List UInt8) : List UInt8 := l ++ List.replicate (gap l.length) 0
theorem gap_lt (n : Nat) : gap n < 63 := by unfold gap; omega
theorem pad63_length (l : List UInt8) : (pad63 l).length = l.length + gap l.length := by rw [pad63, List.length_append, List.length_replicate]


end Go.Proofs.YtibjhkpgaaapaaaGreatDoor
namespace Go.Proofs.YtibjhkpgaaapaaaGreatDoor
open Go.RowKit Go.Proofs.Sha

theorem fresh_bld (w : World) : Bld w.heap.size [] (w.alloc (.cells #[.pointer none, .slice none 0 0] 165)) := Lib.IsBuilderF.of (Lib.fresh_isBuilder 165 5 w)

theorem bstring (b : Nat) (l : List UInt8) (w : World) (h : Bld b l w) :
    Calls Tryz.prog 114 #[.pointer (some ⟨b, 0, none⟩)] w fun e w' => e = .returned (.string ⟨l.toArray⟩) ∧ Below b w w' := by
  refine (Tryz.Builder_String_any_k b b l w h (Nat.le_of_lt h.lt)).mono ?_
  rintro e w' ⟨rfl, _, hb, _⟩
  exact ⟨rfl, hb⟩

theorem fresh_bld1 (w : World) (o : Obj) : Bld (w.heap.size + 1) [] ((w.alloc o).alloc (.cells #[.pointer none, .slice none 0 0] 165)) := by
  have := fresh_bld (w.alloc o)
  rwa [show (w.alloc o).heap.size = w.heap.size + 1 by simp] at this

end Go.Proofs.YtibjhkpgaaapaaaGreatDoor
