import Derived.Shelf.Strings.BuilderF
import Derived.Shelf.Strings.BuilderK
import Derived.Shelf.Strconv.Clone
import Derived.Test.YtfmpjlpakldheaaGreatDoorProg
import Derived.Test.YtfmpjlpakldheaaGreatDoorZraa
import Derived.Test.YtfmpjlpakldheaaGreatDoorZrac
set_option maxRecDepth 100000
set_option maxHeartbeats 2000000
namespace Go.Proofs
open Go.Shelf
def Tryz.lays169_ren : Go.Shelf.Ren := ⟨fun | 169 => 180 | n => n, fun | 70 => 233 | 9 => 9 | 0 => 0 | 72 => 235 | 37 => 22 | 127 => 230 | 3 => 3 | 5 => 5 | n => n, fun | n => n⟩
theorem Tryz.lays169 : Go.Proofs.Lays.n169 Tryz.prog Tryz.lays169_ren := {
 mixed := by kernel_rfl
 f169 := Tryz.func180.trans (congrArg some (by kernel_rfl))
 t0 := Tryz.underlying0
 a0 := Tryz.isAgg0
 z0 := Tryz.sizeOf0
 v0 := Tryz.zeroValue0
 t3 := Tryz.underlying3
 a3 := Tryz.isAgg3
 z3 := Tryz.sizeOf3
 v3 := Tryz.zeroValue3
 t9 := Tryz.underlying9
 a9 := Tryz.isAgg9
 z9 := Tryz.sizeOf9
 v9 := Tryz.zeroValue9
 t37 := Tryz.underlying22
 a37 := Tryz.isAgg22
 z37 := Tryz.sizeOf22
 v37 := Tryz.zeroValue22
 t70 := Tryz.underlying233
 a70 := Tryz.isAgg233
 z70 := Tryz.sizeOf233
 v70 := Tryz.zeroValue233
 t72 := Tryz.underlying235
 a72 := Tryz.isAgg235
 z72 := Tryz.sizeOf235
 v72 := Tryz.zeroValue235
 t127 := Tryz.underlying230
 a127 := Tryz.isAgg230
 z127 := Tryz.sizeOf230
 v127 := Tryz.zeroValue230 }
theorem Tryz.Builder_Extra_169 : Builder.Extra Tryz.prog Tryz.lays169_ren := {
 sizeBuilder := by kernel_rfl
 liesBuilder := by kernel_rfl
 t5 := Tryz.underlying5
 a5 := Tryz.isAgg5
 z5 := Tryz.sizeOf5
 v5 := Tryz.zeroValue5
 infoByte := by kernel_rfl
 cellsByte := by kernel_rfl
 sizeByte := by kernel_rfl
 neB5 := by decide }
open Go.RowKit in
theorem Tryz.Builder_String_any_k (B b : Nat) (l : List UInt8) (w : World) (h : Lib.IsBuilderF 235 5 B b (Lib.byteCells l) w) (hBw : B <= w.heap.size) :
 Calls Tryz.prog 180 #[.pointer (some ⟨b, 0, none⟩)] w fun e w' => e = .returned (.string ⟨l.toArray⟩) /\ (Lib.IsBuilderF 235 5 B b (Lib.byteCells l) w' /\ Below B w w' /\ Lib.OthersKept 5 (some b) w w') := Any.Builder_String_any_k Tryz.lays169 Tryz.Builder_Extra_169 B b l w h hBw
def Tryz.laysM316_ren : Go.Shelf.Ren := ⟨fun | 316 => 171 | n => n, fun | 9 => 9 | 3 => 3 | 4 => 4 | 37 => 22 | 0 => 0 | 127 => 230 | 5 => 5 | n => n, fun | n => n⟩
theorem Tryz.laysM316 : Go.Proofs.LaysM.n316 Tryz.prog Tryz.laysM316_ren := {
 mixed := by kernel_rfl
 f316 := Tryz.func171.trans (congrArg some (by kernel_rfl))
 t0 := Tryz.underlying0
 a0 := Tryz.isAgg0
 z0 := Tryz.sizeOf0
 v0 := Tryz.zeroValue0
 t3 := Tryz.underlying3
 a3 := Tryz.isAgg3
 z3 := Tryz.sizeOf3
 v3 := Tryz.zeroValue3
 t4 := Tryz.underlying4
 a4 := Tryz.isAgg4
 z4 := Tryz.sizeOf4
 v4 := Tryz.zeroValue4
 t9 := Tryz.underlying9
 a9 := Tryz.isAgg9
 z9 := Tryz.sizeOf9
 v9 := Tryz.zeroValue9
 t37 := Tryz.underlying22
 a37 := Tryz.isAgg22
 z37 := Tryz.sizeOf22
 v37 := Tryz.zeroValue22
 t127 := Tryz.underlying230
 a127 := Tryz.isAgg230
 z127 := Tryz.sizeOf230
 v127 := Tryz.zeroValue230
 t5 := Tryz.underlying5
 a5 := Tryz.isAgg5
 z5 := Tryz.sizeOf5
 v5 := Tryz.zeroValue5
 i0 := by kernel_rfl
 i3 := by kernel_rfl
 i4 := by kernel_rfl
 i5 := by kernel_rfl
 i9 := by kernel_rfl
 i37 := by kernel_rfl
 i127 := by kernel_rfl }
open Go.RowKit in
theorem Tryz.stringslite_Clone (s : ByteArray) (w : World) (hlim : s.size <= 281474976710656) :
 Calls Tryz.prog 171 #[.string s] w fun e w' => e = .returned (.string s) /\ Below w.heap.size w w' := Any.stringslite_Clone Tryz.laysM316 s w hlim
def Tryz.lays167_ren : Go.Shelf.Ren := ⟨fun | 166 => 230 | 167 => 222 | 240 => 224 | 276 => 225 | n => n, fun | 0 => 0 | 3 => 3 | 4 => 4 | 5 => 5 | 9 => 9 | 20 => 20 | 37 => 22 | 70 => 233 | 72 => 235 | 75 => 283 | 80 => 137 | 164 => 280 | n => n, fun | n => n⟩
theorem Tryz.lays167 : Go.Proofs.Lays.n167 Tryz.prog Tryz.lays167_ren := {
 mixed := by kernel_rfl
 f167 := Tryz.func222.trans (congrArg some (by kernel_rfl))
 f240 := Tryz.func224.trans (congrArg some (by kernel_rfl))
 f276 := Tryz.func225.trans (congrArg some (by kernel_rfl))
 t0 := Tryz.underlying0
 a0 := Tryz.isAgg0
 z0 := Tryz.sizeOf0
 v0 := Tryz.zeroValue0
 t4 := Tryz.underlying4
 a4 := Tryz.isAgg4
 z4 := Tryz.sizeOf4
 v4 := Tryz.zeroValue4
 t5 := Tryz.underlying5
 a5 := Tryz.isAgg5
 z5 := Tryz.sizeOf5
 v5 := Tryz.zeroValue5
 t9 := Tryz.underlying9
 a9 := Tryz.isAgg9
 z9 := Tryz.sizeOf9
 v9 := Tryz.zeroValue9
 t20 := Tryz.underlying20
 a20 := Tryz.isAgg20
 z20 := Tryz.sizeOf20
 v20 := Tryz.zeroValue20
 t37 := Tryz.underlying22
 a37 := Tryz.isAgg22
 z37 := Tryz.sizeOf22
 v37 := Tryz.zeroValue22
 t70 := Tryz.underlying233
 a70 := Tryz.isAgg233
 z70 := Tryz.sizeOf233
 v70 := Tryz.zeroValue233
 t72 := Tryz.underlying235
 a72 := Tryz.isAgg235
 z72 := Tryz.sizeOf235
 v72 := Tryz.zeroValue235
 t75 := Tryz.underlying283
 a75 := Tryz.isAgg283
 z75 := Tryz.sizeOf283
 v75 := Tryz.zeroValue283
 t164 := Tryz.underlying280
 a164 := Tryz.isAgg280
 z164 := Tryz.sizeOf280
 v164 := Tryz.zeroValue280 }
theorem Tryz.Builder_Extra_167 : Builder.Extra Tryz.prog Tryz.lays167_ren := {
 sizeBuilder := by kernel_rfl
 liesBuilder := by kernel_rfl
 t5 := Tryz.underlying5
 a5 := Tryz.isAgg5
 z5 := Tryz.sizeOf5
 v5 := Tryz.zeroValue5
 infoByte := by kernel_rfl
 cellsByte := by kernel_rfl
 sizeByte := by kernel_rfl
 neB5 := by decide }
open Go.RowKit in
theorem Tryz.Builder_WriteByte_k (B b : Nat) (bs : List Value) (c : Int) (w : World) (h : Lib.IsBuilderF 235 5 B b bs w) (hlen : bs.length + 1 <= 140737488355328) (hBw : B <= w.heap.size) :
 Calls Tryz.prog 222 #[.pointer (some ⟨b, 0, none⟩), .int .u8 c] w fun e w' => e = .returned .nilIface /\ (Lib.BuilderAtF 235 5 B b (.pointer (some ⟨b, 0, none⟩)) (bs ++ [.int .u8 c]) w' /\ Below B w w' /\ Lib.OthersKept 5 (some b) w w') := Any.Builder_WriteByte_k Tryz.lays167 Tryz.Builder_Extra_167 B b bs c w h hlen hBw
def Tryz.lays166_ren : Go.Shelf.Ren := ⟨fun | 166 => 230 | 167 => 222 | 240 => 224 | 276 => 225 | n => n, fun | 0 => 0 | 3 => 3 | 4 => 4 | 5 => 5 | 9 => 9 | 20 => 20 | 37 => 22 | 70 => 233 | 72 => 235 | 75 => 283 | 80 => 137 | 164 => 280 | n => n, fun | n => n⟩
theorem Tryz.lays166 : Go.Proofs.Lays.n166 Tryz.prog Tryz.lays166_ren := {
 mixed := by kernel_rfl
 f166 := Tryz.func230.trans (congrArg some (by kernel_rfl))
 f240 := Tryz.func224.trans (congrArg some (by kernel_rfl))
 f276 := Tryz.func225.trans (congrArg some (by kernel_rfl))
 t0 := Tryz.underlying0
 a0 := Tryz.isAgg0
 z0 := Tryz.sizeOf0
 v0 := Tryz.zeroValue0
 t3 := Tryz.underlying3
 a3 := Tryz.isAgg3
 z3 := Tryz.sizeOf3
 v3 := Tryz.zeroValue3
 t4 := Tryz.underlying4
 a4 := Tryz.isAgg4
 z4 := Tryz.sizeOf4
 v4 := Tryz.zeroValue4
 t9 := Tryz.underlying9
 a9 := Tryz.isAgg9
 z9 := Tryz.sizeOf9
 v9 := Tryz.zeroValue9
 t20 := Tryz.underlying20
 a20 := Tryz.isAgg20
 z20 := Tryz.sizeOf20
 v20 := Tryz.zeroValue20
 t37 := Tryz.underlying22
 a37 := Tryz.isAgg22
 z37 := Tryz.sizeOf22
 v37 := Tryz.zeroValue22
 t70 := Tryz.underlying233
 a70 := Tryz.isAgg233
 z70 := Tryz.sizeOf233
 v70 := Tryz.zeroValue233
 t72 := Tryz.underlying235
 a72 := Tryz.isAgg235
 z72 := Tryz.sizeOf235
 v72 := Tryz.zeroValue235
 t75 := Tryz.underlying283
 a75 := Tryz.isAgg283
 z75 := Tryz.sizeOf283
 v75 := Tryz.zeroValue283
 t164 := Tryz.underlying280
 a164 := Tryz.isAgg280
 z164 := Tryz.sizeOf280
 v164 := Tryz.zeroValue280 }
theorem Tryz.Builder_Extra_166 : Builder.Extra Tryz.prog Tryz.lays166_ren := {
 sizeBuilder := by kernel_rfl
 liesBuilder := by kernel_rfl
 t5 := Tryz.underlying5
 a5 := Tryz.isAgg5
 z5 := Tryz.sizeOf5
 v5 := Tryz.zeroValue5
 infoByte := by kernel_rfl
 cellsByte := by kernel_rfl
 sizeByte := by kernel_rfl
 neB5 := by decide }
open Go.RowKit in
theorem Tryz.Builder_WriteString_k (B b : Nat) (bs : List Value) (s : ByteArray) (w : World) (h : Lib.IsBuilderF 235 5 B b bs w) (hlen : bs.length + s.size <= 140737488355328) (hBw : B <= w.heap.size) :
 Calls Tryz.prog 230 #[.pointer (some ⟨b, 0, none⟩), .string s] w fun e w' => e = .returned (.tuple #[.int .i64 s.size, .nilIface]) /\ (Lib.BuilderAtF 235 5 B b (.pointer (some ⟨b, 0, none⟩)) (bs ++ Lib.strCells s) w' /\ Below B w w' /\ Lib.OthersKept 5 (some b) w w') := Any.Builder_WriteString_k Tryz.lays166 Tryz.Builder_Extra_166 B b bs s w h hlen hBw
end Go.Proofs
namespace Go.Proofs.YtfmpjlpakldheaaGreatDoor
open Go.RowKit Go.Proofs.Sha Tryz
def sh (z : Int) (low : Bool) (i : Int) : Int := if low then 8 * i else 8 * (z - 1 - i)
theorem shift_any (z : Int) (low : Bool) (i : Int) (w : World) (hz : 0 <= z) (hz4 : z <= 8) (hi : 0 <= i) (hi4 : i < z) :
 Calls prog 220 #[.agg #[.int .i64 z, .bool low], .int .i64 i] w fun e w' => e = .returned (.int .i64 (sh z low i)) /\ Below w.heap.size w w' := by
 cases low
 · go_enter func220, ntmps220
   go_wp2
   go_ret
   exact ⟨rfl, (Below.refl _ _).alloc (Nat.le_refl _) _⟩
 · go_enter func220, ntmps220
   go_wp2
   go_ret
   exact ⟨rfl, (Below.refl _ _).alloc (Nat.le_refl _) _⟩
def Bld (b : Nat) (l : List UInt8) (w : World) : Prop := Lib.IsBuilderF 235 5 b b (Lib.byteCells l) w
def Put (b : Nat) (l : List UInt8) (w w' : World) : Prop := Bld b l w' /\ Below b w w' /\ Lib.OthersKept 5 (some b) w w'
theorem Bld.lt {b : Nat} {l : List UInt8} {w : World} (h : Bld b l w) : b < w.heap.size := by
 rcases h with h | h
 · exact h.lt
 · exact h.lt
theorem Bld.alloc {b : Nat} {l : List UInt8} {w : World} (h : Bld b l w) (o : Obj) : Bld b l (w.alloc o) := by
 rcases h with h | h
 · exact .inl (h.alloc o)
 · exact .inr (h.alloc o)
theorem Put.refl {b : Nat} {l : List UInt8} {w : World} (h : Bld b l w) : Put b l w w := ⟨h, Below.refl _ _, Lib.OthersKept.refl _ _ _⟩
theorem Put.trans {b : Nat} {l m : List UInt8} {w w' w'' : World} (h : Put b l w w') (h' : Put b m w' w'') : Put b m w w'' := ⟨h'.1, h.2.1.trans h'.2.1, h.2.2.trans h'.2.2⟩
theorem Put.alloc {b : Nat} {l : List UInt8} {w w' : World} (h : Put b l w w') (o : Obj) : Put b l w (w'.alloc o) := ⟨h.1.alloc o, h.2.1.alloc (Nat.le_of_lt h.1.lt) o, h.2.2.alloc o⟩
theorem wb_any (b : Nat) (l : List UInt8) (c : Int) (w : World) (x : UInt8) (hc : c = (x.toNat : Int)) (h : Bld b l w) (hl : l.length <= 100000) :
 Calls prog 222 #[.pointer (some ⟨b, 0, none⟩), .int .u8 c] w fun e w' => e = .returned .nilIface /\ Put b (l ++ [x]) w w' := by
 refine (Tryz.Builder_WriteByte_k b b _ c w h (by rw [Lib.byteCells_length]; omega) (Nat.le_of_lt h.lt)).mono ?_
 rintro e w' ⟨rfl, h1, h2, h3⟩
 refine ⟨rfl, .inr ?_, h2, h3⟩
 rw [Lib.byteCells_append]
 rw [hc] at h1
 exact h1
theorem ws_any (b : Nat) (l : List UInt8) (s : ByteArray) (w : World) (h : Bld b l w) (hl : l.length + s.size <= 100000) :
 Calls prog 230 #[.pointer (some ⟨b, 0, none⟩), .string s] w fun e w' => e = .returned (.tuple #[.int .i64 s.size, .nilIface]) /\ Put b (l ++ s.data.toList) w w' := by
 refine (Tryz.Builder_WriteString_k b b _ s w h (by rw [Lib.byteCells_length]; omega) (Nat.le_of_lt h.lt)).mono ?_
 rintro e w' ⟨rfl, h1, h2, h3⟩
 refine ⟨rfl, .inr ?_, h2, h3⟩
 rw [Lib.byteCells_append]
 exact h1
def numByte (z : Nat) (low : Bool) (v i : Nat) : UInt8 := UInt8.ofNat (v / 2 ^ (8 * (if low then i else z - 1 - i)))
def numTo (z : Nat) (low : Bool) (v : Nat) : Nat -> List UInt8
 | 0 => []
 | i + 1 => numTo z low v i ++ [numByte z low v i]
theorem numTo_length (z : Nat) (low : Bool) (v : Nat) : ∀ i, (numTo z low v i).length = i
 | 0 => rfl
 | i + 1 => by rw [numTo, List.length_append, numTo_length z low v i]; rfl
theorem Bld.heap {b : Nat} {l : List UInt8} {w w' : World} (h : Bld b l w) (hb : ∀ k, k < w.heap.size -> w'.heap[k]? = w.heap[k]?) : Bld b l w' := by
 have H : ∀ p, Lib.BuilderAtF 235 5 b b p (Lib.byteCells l) w -> Lib.BuilderAtF 235 5 b b p (Lib.byteCells l) w' := by
  rintro p ⟨h1, v, h2, h3, h4⟩
  have l2 := (Array.getElem?_eq_some_iff.1 h2).1
  refine ⟨h1, v, (hb b l2).trans h2, ⟨h3.1, ?_⟩, h4⟩
  rcases h3.2 with hn | ⟨g, cap, cur, fz, hv, hbg, hg, rest⟩
  · exact .inl hn
  · exact .inr ⟨g, cap, cur, fz, hv, hbg, (hb g (Array.getElem?_eq_some_iff.1 hg).1).trans hg, rest⟩
 rcases h with h | h
 · exact .inl (H _ h)
 · exact .inr (H _ h)
theorem Bld.below {b : Nat} {l : List UInt8} {w w' : World} (h : Bld b l w) (hb : Below w.heap.size w w') : Bld b l w' := h.heap hb.block
theorem Put.below {b : Nat} {l : List UInt8} {w w' w'' : World} (h : Put b l w w') (hb : Below w'.heap.size w' w'') : Put b l w w'' :=
 ⟨h.1.below hb, h.2.1.trans (hb.mono (Nat.le_of_lt h.1.lt)), fun k o hk hkb ho => by
  have h1 := h.2.2 k o hk hkb ho
  exact (hb.block k (Array.getElem?_eq_some_iff.1 h1).1).trans h1⟩
theorem Put.cells {b k : Nat} {l : List UInt8} {w w' : World} {cs : Array Value} {t : TypeId} (h : Put b l w w') (hk : w.heap[k]? = some (.cells cs t)) (hne : k ≠ b) (ht : t ≠ 5) : w'.heap[k]? = some (.cells cs t) :=
 h.2.2 k _ hk (fun e => hne (Option.some.inj e)) (fun c fz e => ht (by cases e; rfl))
theorem below_cells {k : Nat} {w w' : World} {o : Obj} (h : Below w.heap.size w w') (hk : w.heap[k]? = some o) : w'.heap[k]? = some o :=
 (h.block k (Array.getElem?_eq_some_iff.1 hk).1).trans hk
theorem byte_of_shift (v k : Nat) : ((v : Int) / 2 ^ k % 256) = ((UInt8.ofNat (v / 2 ^ k)).toNat : Int) := by
 rw [UInt8.toNat_ofNat', show (2 : Nat) ^ 8 = 256 from rfl]
 obtain ⟨p, hp⟩ : ∃ p : Nat, 2 ^ k = p := ⟨_, rfl⟩
 have hp' : (2 : Int) ^ k = (p : Int) := by rw [<- hp, Int.natCast_pow]; rfl
 rw [hp, hp', Int.natCast_emod, Int.natCast_ediv]
 rfl
theorem nput (z : Nat) (low : Bool) (b : Nat) (v : Nat) (l : List UInt8) (w : World) (hz : 0 < z) (hz4 : z <= 7) (h : Bld b l w) (hl : l.length <= 90000) (_hv : v <= 9223372036854775807) :
 Calls prog 219 #[.agg #[.int .i64 (z : Int), .bool low], .pointer (some ⟨b, 0, none⟩), .int .i64 (v : Int)] w fun e w' => e = .returned (.tuple #[]) /\ Put b (l ++ numTo z low v z) w w' := by
 go_enter func219, ntmps219
 go_wp2
 go_loopw [9] (fun t9 wr => ∃ i : Nat, i <= z /\ t9 = .int .i64 (i : Int) /\ Put b (l ++ numTo z low v i) w wr /\ wr.heap[w.heap.size]? = some (.cells #[.int .i64 (z : Int), .bool low] 263)) (fun t9 _ => z - (intOf t9).toNat)
 case atStart =>
  refine ⟨0, Nat.zero_le _, rfl, ?_, heap_alloc_new _ _⟩
  rw [numTo, List.append_nil]
  exact (Put.refl h).alloc _
 case round =>
  obtain ⟨i, hi, rfl, hp, hn⟩ := hrel
  by_cases h1 : i < z
  · have z1 : decide ((i : Int) < (z : Int)) = true := by simp; omega
    have c0 : wr.cell? ⟨w.heap.size, 0, none⟩ = some (.int .i64 (z : Int)) := ZC hn 0
    have c1 : wr.cell? ⟨w.heap.size, 1, none⟩ = some (.bool low) := ZC hn 1
    obtain ⟨k, hk, hk56, hkb⟩ : ∃ k : Nat, sh z low i = (k : Int) /\ k <= 56 /\ numByte z low v i = UInt8.ofNat (v / 2 ^ k) := by
     unfold sh numByte
     cases low
     · exact ⟨8 * (z - 1 - i), by simp only [Bool.false_eq_true, if_false]; omega, by omega, rfl⟩
     · exact ⟨8 * i, by simp only [if_true]; omega, by omega, rfl⟩
    have HC : Hid (∀ w', Calls prog 220 #[.agg #[.int .i64 (z : Int), .bool low], .int .i64 (i : Int)] w' fun e w'' => e = .returned (.int .i64 (k : Int)) /\ Below w'.heap.size w' w'') := fun w' => by rw [<- hk]; exact shift_any _ _ _ w' (by omega) (by omega) (by omega) (by omega)
    have k0 : (0 : Int) <= (k : Int) := by omega
    go_wp2_with (first | (go_at_call 220; refine (HC.out _).mono ?_; rintro e w1 ⟨rfl, hb1⟩) | (go_at_call 222; refine (wb_any b _ _ w1 _ (byte_of_shift v k) (hp.1.below hb1) (by rw [List.length_append, numTo_length]; omega)).mono ?_; rintro e w2 ⟨rfl, hp2⟩))
    have hne : w.heap.size ≠ b := by have := h.lt; omega
    refine ⟨⟨i + 1, by omega, congrArg (Value.int .i64) (by omega), ?_, hp2.cells (below_cells hb1 hn) hne (by decide)⟩, ?_⟩
    · have := (hp.below hb1).trans hp2
      rw [numTo, hkb, <- List.append_assoc]
      exact this
    · show z - ((i : Int) + 1).toNat < z - ((i : Int)).toNat
      omega
  · have z1 : decide ((i : Int) < (z : Int)) = false := by simp; omega
    go_wp2
    have e : i = z := by omega
    subst e
    go_end0
    exact ⟨rfl, hp⟩
theorem wint (z : Nat) (low : Bool) (b : Nat) (v : Nat) (l : List UInt8) (w : World) (hz : 0 < z) (hz4 : z <= 7) (h : Bld b l w) (hl : l.length <= 90000) (hv : v <= 9223372036854775807) :
 Calls prog 213 #[.pointer (some ⟨b, 0, none⟩), .iface 263 (.agg #[.int .i64 (z : Int), .bool low]), .int .i64 (v : Int)] w fun e w' => e = .returned (.tuple #[]) /\ Put b (l ++ numTo z low v z) w w' := by
 have hmt : ∀ w : World, (method 388 263 (.agg #[.int .i64 (z : Int), .bool low]) "loop.example/s03048/impl.put").run prog w = .ok (219, .agg #[.int .i64 (z : Int), .bool low]) w := fun _ => by kernel_rfl
 go_enter func213, ntmps213
 go_wp2_with (first | (go_at_call 219; refine (nput z low b v l w hz hz4 h hl hv).mono ?_; rintro e w2 ⟨rfl, hp2⟩))
 go_end0
 exact ⟨rfl, hp2⟩
theorem plain_put (n : Int) (b : Nat) (s : ByteArray) (l : List UInt8) (w : World) (h : Bld b l w) (hl : l.length + s.size <= 90000) :
 Calls prog 228 #[.agg #[.int .i64 n], .pointer (some ⟨b, 0, none⟩), .string s] w fun e w' => e = .returned (.tuple #[]) /\ Put b (l ++ s.data.toList) w w' := by
 go_enter func228, ntmps228
 go_wp2_with (first | (go_at_call 230; refine (ws_any b l s _ (h.alloc _) (by omega)).mono ?_; rintro e w2 ⟨rfl, hp2⟩))
 go_end0
 exact ⟨rfl, ((Put.refl h).alloc _).trans hp2⟩
theorem wplain (n : Int) (b : Nat) (s : ByteArray) (l : List UInt8) (w : World) (h : Bld b l w) (hl : l.length + s.size <= 90000) :
 Calls prog 211 #[.pointer (some ⟨b, 0, none⟩), .iface 269 (.agg #[.int .i64 n]), .string s] w fun e w' => e = .returned (.tuple #[]) /\ Put b (l ++ s.data.toList) w w' := by
 have hmt : ∀ w : World, (method 388 269 (.agg #[.int .i64 n]) "loop.example/s03048/impl.put").run prog w = .ok (228, .agg #[.int .i64 n]) w := fun _ => by kernel_rfl
 go_enter func211, ntmps211
 go_wp2_with (first | (go_at_call 228; refine (plain_put n b s l w h hl).mono ?_; rintro e w2 ⟨rfl, hp2⟩))
 go_end0
 exact ⟨rfl, hp2⟩
theorem sized_put (z : Nat) (low : Bool) (b : Nat) (s : ByteArray) (l : List UInt8) (w : World) (hz : 0 < z) (hz4 : z <= 7) (h : Bld b l w) (hl : l.length + s.size <= 80000) :
 Calls prog 226 #[.agg #[.int .i64 (z : Int), .bool low], .pointer (some ⟨b, 0, none⟩), .string s] w fun e w' => e = .returned (.tuple #[]) /\ Put b (l ++ numTo z low s.size z ++ s.data.toList) w w' := by
 go_enter func226, ntmps226
 go_wp2_with (first | (go_at_call 213; refine (wint z low b s.size l _ hz hz4 (h.alloc _) (by omega) (by omega)).mono ?_; rintro e w2 ⟨rfl, hp2⟩) | (go_at_call 211; refine (wplain _ b s _ _ hp2.1 (by rw [List.length_append, numTo_length]; omega)).mono ?_; rintro e w3 ⟨rfl, hp3⟩))
 go_end0
 exact ⟨rfl, (((Put.refl h).alloc _).trans hp2).trans hp3⟩
theorem wsized (z : Nat) (low : Bool) (b : Nat) (s : ByteArray) (l : List UInt8) (w : World) (hz : 0 < z) (hz4 : z <= 7) (h : Bld b l w) (hl : l.length + s.size <= 80000) :
 Calls prog 211 #[.pointer (some ⟨b, 0, none⟩), .iface 265 (.agg #[.int .i64 (z : Int), .bool low]), .string s] w fun e w' => e = .returned (.tuple #[]) /\ Put b (l ++ numTo z low s.size z ++ s.data.toList) w w' := by
 have hmt : ∀ w : World, (method 388 265 (.agg #[.int .i64 (z : Int), .bool low]) "loop.example/s03048/impl.put").run prog w = .ok (226, .agg #[.int .i64 (z : Int), .bool low]) w := fun _ => by kernel_rfl
 go_enter func211, ntmps211
 go_wp2_with (first | (go_at_call 226; refine (sized_put z low b s l w hz hz4 h hl).mono ?_; rintro e w2 ⟨rfl, hp2⟩))
 go_end0
 exact ⟨rfl, hp2⟩
theorem wint1 (b : Nat) (v : Nat) (l : List UInt8) (w : World) (h : Bld b l w) (hl : l.length <= 90000) (hv : v <= 9223372036854775807) :
 Calls prog 213 #[.pointer (some ⟨b, 0, none⟩), .iface 263 (.agg #[.int .i64 1, .bool false]), .int .i64 (v : Int)] w fun e w' => e = .returned (.tuple #[]) /\ Put b (l ++ [UInt8.ofNat v]) w w' := by
 have := wint 1 false b v l w (by omega) (by omega) h hl hv
 have e : numTo 1 false v 1 = [UInt8.ofNat v] := by simp [numTo, numByte]
 rw [e] at this
 exact this
theorem fresh_bld (w : World) : Bld w.heap.size [] (w.alloc (.cells #[.pointer none, .slice none 0 0] 235)) := Lib.IsBuilderF.of (Lib.fresh_isBuilder 235 5 w)
theorem bstring (b : Nat) (l : List UInt8) (w : World) (h : Bld b l w) :
 Calls prog 180 #[.pointer (some ⟨b, 0, none⟩)] w fun e w' => e = .returned (.string ⟨l.toArray⟩) /\ Below b w w' := by
 refine (Tryz.Builder_String_any_k b b l w h (Nat.le_of_lt h.lt)).mono ?_
 rintro e w' ⟨rfl, _, hb, _⟩
 exact ⟨rfl, hb⟩
theorem fresh_bld1 (w : World) (o : Obj) : Bld (w.heap.size + 1) [] ((w.alloc o).alloc (.cells #[.pointer none, .slice none 0 0] 235)) := by
 have := fresh_bld (w.alloc o)
 rwa [show (w.alloc o).heap.size = w.heap.size + 1 by simp] at this
theorem empty_iff (l : ByteArray) : l.toList.isEmpty = decide (l.size = 0) := by
 rw [ByteArray.toList_eq]
 have : l.data.toList.length = l.size := rfl
 cases h : l.data.toList with
 | nil =>
  rw [h, List.length_nil] at this
  simp [<- this]
 | cons a t =>
  rw [h, List.length_cons] at this
  have h0 : ¬ l.size = 0 := by omega
  simp [h0]
theorem flags_any (k v l r : ByteArray) (w : World) :
 Calls prog 210 #[.agg #[.string k, .string v, .string l, .string r]] w fun e w' => e = .returned (.int .i64 (flagOf l.size r.size : Int)) /\ Below w.heap.size w w' := by
 have hb : Below w.heap.size w (w.alloc (.cells #[.string k, .string v, .string l, .string r] 128)) := (Below.refl _ _).alloc (Nat.le_refl _) _
 by_cases h1 : l.size = 0
 all_goals by_cases h2 : r.size = 0
 all_goals
  have HF : Hid (∃ f, flagOf l.size r.size = f /\ f = (if l.size = 0 then 0 else 1) + (if r.size = 0 then 0 else 2)) := ⟨_, rfl, rfl⟩
  have e1 := empty_iff l
  have e2 := empty_iff r
  simp only [h1, h2, decide_true, decide_false] at e1 e2
  clear h1 h2
  go_enter func210, ntmps210
  go_wp2
  go_ret
  obtain ⟨f, hf, hf2⟩ := HF.out
  refine ⟨?_, hb⟩
  rw [hf, hf2]
  rw [empty_iff] at e1 e2
  simp at e1 e2
  simp [e1, e2]
theorem kept_any (w : World) : Calls prog 212 #[] w fun e w' => e = .returned (.agg #[.int .i64 2, .bool false]) /\ Below w.heap.size w w' := by
 go_enter func212, ntmps212
 go_wp2
 have c0 := ZC (heap_alloc_new w (.cells #[.int .i64 2, .bool false] 265)) 0
 have c1 := ZC (heap_alloc_new w (.cells #[.int .i64 2, .bool false] 265)) 1
 refine bodyPost_ret (v := .agg #[.int .i64 2, .bool false]) ?_ rfl ⟨rfl, (Below.refl _ _).alloc (Nat.le_refl _) _⟩
 simp [results, Tryz.results212, go_sem, asAddr, c0, c1]
theorem link_any (n f : Int) (w : World) : Calls prog 207 #[.agg #[.int .i64 n], .int .i64 f] w fun e w' => e = .returned (.agg #[.int .i64 (if f = 0 then 0 else n)]) /\ Below w.heap.size w w' := by
 have hb : ∀ x, Below w.heap.size w ((w.alloc (.cells #[.int .i64 n] 227)).alloc (.cells #[.int .i64 x] 269)) := fun x => ((Below.refl _ _).alloc (Nat.le_refl _) _).alloc (by simp) _
 have c0 : ∀ x, ((w.alloc (.cells #[.int .i64 n] 227)).alloc (.cells #[.int .i64 x] 269)).cell? ⟨w.heap.size + 1, 0, none⟩ = some (.int .i64 x) := fun x => by
  have := ZC (heap_alloc_new (w.alloc (.cells #[.int .i64 n] 227)) (.cells #[.int .i64 x] 269)) 0
  rw [show (w.alloc (.cells #[.int .i64 n] 227)).heap.size = w.heap.size + 1 by simp] at this
  exact this
 by_cases h : f = 0
 · rw [if_pos h]
   subst h
   go_enter func207, ntmps207
   go_wp2
   refine bodyPost_ret (v := .agg #[.int .i64 0]) ?_ rfl ⟨rfl, hb _⟩
   simp [results, Tryz.results207, go_sem, asAddr]
 · rw [if_neg h]
   go_enter func207, ntmps207
   go_wp2
   refine bodyPost_ret (v := .agg #[.int .i64 n]) ?_ rfl ⟨rfl, hb _⟩
   simp [results, Tryz.results207, go_sem, asAddr]
theorem wsized2 (b : Nat) (s : ByteArray) (l : List UInt8) (w : World) (h : Bld b l w) (hl : l.length + s.size <= 80000) :
 Calls prog 211 #[.pointer (some ⟨b, 0, none⟩), .iface 265 (.agg #[.int .i64 2, .bool false]), .string s] w fun e w' => e = .returned (.tuple #[]) /\ Put b (l ++ sized s.data.toList) w w' := by
 have := wsized 2 false b s l w (by omega) (by omega) h hl
 have e0 : ∀ x : Nat, UInt8.ofNat (x % 256) = UInt8.ofNat x := fun x => by apply UInt8.toNat.inj; simp
 have e : numTo 2 false s.size 2 = [UInt8.ofNat (s.size / 256), UInt8.ofNat (s.size % 256)] := by simp [numTo, numByte, e0]
 rw [e, List.append_assoc] at this
 exact this
theorem link_ex (n f : Int) (w : World) : Calls prog 207 #[.agg #[.int .i64 n], .int .i64 f] w fun e w' => ∃ p, e = .returned (.agg #[.int .i64 p]) /\ Below w.heap.size w w' :=
 (link_any n f w).mono (by rintro e w' ⟨rfl, hb⟩; exact ⟨_, rfl, hb⟩)
theorem node_put_f (f : Nat) (F : Int) (hFf : F = (f : Int)) (hf : F = 0 \/ F = 1 \/ F = 2 \/ F = 3) (b : Nat) (n : Int) (k v l r : ByteArray) (q : List UInt8) (w : World) (h : Bld b q w) (hq : q.length <= 1000) (hk : k.size <= 256) (hv : v.size <= 2000) (hl : l.size <= 32) (hr : r.size <= 32)
 (HF : Hid (∀ w', Calls prog 210 #[.agg #[.string k, .string v, .string l, .string r]] w' fun e w'' => e = .returned (.int .i64 F) /\ Below w'.heap.size w' w'')) :
 Calls prog 208 #[.agg #[.int .i64 n], .pointer (some ⟨b, 0, none⟩), .agg #[.string k, .string v, .string l, .string r]] w fun e w' => e = .returned (.tuple #[]) /\ Put b (q ++ sized k.data.toList ++ sized v.data.toList ++ [UInt8.ofNat f] ++ l.data.toList ++ r.data.toList) w w' := by
 have hlt := h.lt
 obtain ⟨m1, hm1⟩ : ∃ m, q ++ sized k.data.toList = m := ⟨_, rfl⟩
 have z1 : m1.length <= 2000 := by rw [<- hm1, List.length_append]; show q.length + (k.size + 1 + 1) <= _; omega
 obtain ⟨m2, hm2⟩ : ∃ m, m1 ++ sized v.data.toList = m := ⟨_, rfl⟩
 have z2 : m2.length <= 5000 := by rw [<- hm2, List.length_append]; show m1.length + (v.size + 1 + 1) <= _; omega
 obtain ⟨m3, hm3⟩ : ∃ m, m2 ++ [UInt8.ofNat f] = m := ⟨_, rfl⟩
 have z3 : m3.length <= 5001 := by rw [<- hm3, List.length_append]; show m2.length + 1 <= _; omega
 obtain ⟨m4, hm4⟩ : ∃ m, m3 ++ l.data.toList = m := ⟨_, rfl⟩
 have z4 : m4.length <= 6000 := by rw [<- hm4, List.length_append]; show m3.length + l.size <= _; omega
 have HA : Hid (∀ w', Bld b q w' -> Calls prog 211 #[.pointer (some ⟨b, 0, none⟩), .iface 265 (.agg #[.int .i64 2, .bool false]), .string k] w' fun e w'' => e = .returned (.tuple #[]) /\ Put b m1 w' w'') := fun w' h' => by rw [<- hm1]; exact wsized2 b k q w' h' (by omega)
 have HB : Hid (∀ w', Bld b m1 w' -> Calls prog 211 #[.pointer (some ⟨b, 0, none⟩), .iface 265 (.agg #[.int .i64 2, .bool false]), .string v] w' fun e w'' => e = .returned (.tuple #[]) /\ Put b m2 w' w'') := fun w' h' => by rw [<- hm2]; exact wsized2 b v m1 w' h' (by omega)
 have HC : Hid (∀ w', Bld b m2 w' -> Calls prog 213 #[.pointer (some ⟨b, 0, none⟩), .iface 263 (.agg #[.int .i64 1, .bool false]), .int .i64 F] w' fun e w'' => e = .returned (.tuple #[]) /\ Put b m3 w' w'') := fun w' h' => by rw [<- hm3, hFf]; exact wint1 b f m2 w' h' (by omega) (by omega)
 have HD : Hid (∀ p w', Bld b m3 w' -> Calls prog 211 #[.pointer (some ⟨b, 0, none⟩), .iface 269 (.agg #[.int .i64 p]), .string l] w' fun e w'' => e = .returned (.tuple #[]) /\ Put b m4 w' w'') := fun p w' h' => by rw [<- hm4]; exact wplain p b l m3 w' h' (by omega)
 have HE : Hid (∀ p w', Bld b m4 w' -> Calls prog 211 #[.pointer (some ⟨b, 0, none⟩), .iface 269 (.agg #[.int .i64 p]), .string r] w' fun e w'' => e = .returned (.tuple #[]) /\ Put b (m4 ++ r.data.toList) w' w'') := fun p w' h' => wplain p b r m4 w' h' (by omega)
 rw [hm1, hm2, hm3, hm4]
 clear hm1 hm2 hm3 hm4
 have HL : Hid (∀ p w', Calls prog 207 #[.agg #[.int .i64 n], .int .i64 p] w' fun e w'' => ∃ p, e = .returned (.agg #[.int .i64 p]) /\ Below w'.heap.size w' w'') := fun p w' => link_ex n p w'
 obtain ⟨m5, hm5⟩ : ∃ m, m4 ++ r.data.toList = m := ⟨_, rfl⟩
 rw [hm5] at HE ⊢
 clear hm5 hk hv hl hr hq z1 z2 z3 z4 hFf
 rcases hf with rfl | rfl | rfl | rfl
 all_goals
  go_enter func208, ntmps208
  go_wp2_with (first | (go_at_call 210; refine (HF.out _).mono ?_; rintro e w1 ⟨rfl, hb1⟩))
  have hp1 : Put b q w w1 := (((Put.refl h).alloc (.cells #[.int .i64 n] 227)).alloc (.cells #[.string k, .string v, .string l, .string r] 128)).below hb1
  have hf1 : w1.heap[w.heap.size]? = some (.cells #[.int .i64 n] 227) := below_cells hb1 (below_cells ((Below.refl _ _).alloc (Nat.le_refl _) _) (heap_alloc_new w (.cells #[.int .i64 n] 227)))
  have hn1 : w1.heap[w.heap.size + 1]? = some (.cells #[.string k, .string v, .string l, .string r] 128) := below_cells hb1 (by
   rw [show w.heap.size + 1 = (w.alloc (.cells #[.int .i64 n] 227)).heap.size by simp]; exact heap_alloc_new _ _)
  clear hb1
  have c0 : w1.cell? ⟨w.heap.size + 1, 0, none⟩ = some (.string k) := ZC hn1 0
  go_wp2_with fail
  go_region_held3 (fun W => W.cell? ⟨w.heap.size + 1, 0, none⟩ = some (.string k))
   (first | exact c0 | exact ZC hnA 0 | exact ZC hn2 0)
   (first | (go_at_call 212; refine (kept_any _).mono ?_; rintro e wA ⟨rfl, hbA'⟩; have hbA : Below w1.heap.size w1 wA := (Below.refl w1.heap.size w1).drew.trans hbA'; have hnA := below_cells hbA hn1) | (go_at_call 211; refine (HA.out _ (hp1.1.below hbA)).mono ?_; rintro e w2 ⟨rfl, hpA⟩; have hn2 := hpA.cells hnA (by omega) (by decide); have hf2 := hpA.cells (below_cells hbA hf1) (by omega) (by decide)))
  have hp2 := (hp1.below hbA).trans hpA
  clear hpA hbA' hbA hnA hp1 hn1 hf1 c0
  have c1 : w2.cell? ⟨w.heap.size + 1, 1, none⟩ = some (.string v) := ZC hn2 1
  go_wp2_with fail
  go_region_held3 (fun W => W.cell? ⟨w.heap.size + 1, 1, none⟩ = some (.string v))
   (first | exact c1 | exact ZC hnB 1 | exact ZC hn3 1)
   (first | (go_at_call 212; refine (kept_any _).mono ?_; rintro e wB ⟨rfl, hbB'⟩; have hbB : Below w2.heap.size w2 wB := (Below.refl w2.heap.size w2).drew.trans hbB'; have hnB := below_cells hbB hn2) | (go_at_call 211; refine (HB.out _ (hp2.1.below hbB)).mono ?_; rintro e w3 ⟨rfl, hpB⟩; have hn3 := hpB.cells hnB (by omega) (by decide); have hf3 := hpB.cells (below_cells hbB hf2) (by omega) (by decide)))
  have hp3 := (hp2.below hbB).trans hpB
  clear hpB hbB' hbB hnB hp2 hn2 hf2 c1
  go_wp2_with (first | (go_at_call 213; refine (HC.out _ hp3.1).mono ?_; rintro e w4 ⟨rfl, hpC⟩))
  have hn4 := hpC.cells hn3 (by omega) (by decide)
  have hf4 := hpC.cells hf3 (by omega) (by decide)
  have hp4 := hp3.trans hpC
  clear hpC hp3 hn3 hf3
  have c2 : w4.cell? ⟨w.heap.size + 1, 2, none⟩ = some (.string l) := ZC hn4 2
  have d2 : w4.cell? ⟨w.heap.size, 0, none⟩ = some (.int .i64 n) := ZC hf4 0
  go_region_held3 (fun W => W.cell? ⟨w.heap.size + 1, 2, none⟩ = some (.string l) /\ W.cell? ⟨w.heap.size, 0, none⟩ = some (.int .i64 n))
   (first | exact ⟨c2, d2⟩ | exact ⟨ZC hnD 2, ZC hfD 0⟩ | exact ⟨ZC hn5 2, ZC hf5 0⟩)
   (first | (go_at_call 207; refine (HL.out _ _).mono ?_; rintro e wD ⟨p, rfl, hbD'⟩; have hbD : Below w4.heap.size w4 wD := (Below.refl w4.heap.size w4).drew.trans hbD'; have hnD := below_cells hbD hn4; have hfD := below_cells hbD hf4) | (go_at_call 211; refine (HD.out _ _ (hp4.1.below hbD)).mono ?_; rintro e w5 ⟨rfl, hpD⟩; have hn5 := hpD.cells hnD (by omega) (by decide); have hf5 := hpD.cells hfD (by omega) (by decide)))
  have hp5 := (hp4.below hbD).trans hpD
  clear hpD hbD' hbD hnD hp4 hn4 hf4 c2 d2 hfD
  have c3 : w5.cell? ⟨w.heap.size + 1, 3, none⟩ = some (.string r) := ZC hn5 3
  have d3 : w5.cell? ⟨w.heap.size, 0, none⟩ = some (.int .i64 n) := ZC hf5 0
  go_wp2_with fail
  go_region_held3 (fun W => W.cell? ⟨w.heap.size + 1, 3, none⟩ = some (.string r) /\ W.cell? ⟨w.heap.size, 0, none⟩ = some (.int .i64 n))
   (first | exact ⟨c3, d3⟩ | exact ⟨ZC hnE 3, ZC hfE 0⟩ | exact ⟨ZC hn6 3, ZC hf6 0⟩)
   (first | (go_at_call 207; refine (HL.out _ _).mono ?_; rintro e wE ⟨p2, rfl, hbE'⟩; have hbE : Below w5.heap.size w5 wE := (Below.refl w5.heap.size w5).drew.trans hbE'; have hnE := below_cells hbE hn5; have hfE := below_cells hbE hf5) | (go_at_call 211; refine (HE.out _ _ (hp5.1.below hbE)).mono ?_; rintro e w6 ⟨rfl, hpE⟩; have hn6 := hpE.cells hnE (by omega) (by decide); have hf6 := hpE.cells hfE (by omega) (by decide)))
  go_wp2
  go_end0
  exact ⟨rfl, (hp5.below hbE).trans hpE⟩
end Go.Proofs.YtfmpjlpakldheaaGreatDoor
