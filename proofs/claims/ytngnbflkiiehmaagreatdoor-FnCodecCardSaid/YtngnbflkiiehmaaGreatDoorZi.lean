import Derived.Test.YtngnbflkiiehmaaGreatDoorZh
import Derived.Test.YtngnbflkiiehmaaGreatDoorZa
import Derived.Test.YtngnbflkiiehmaaGreatDoorZg
namespace Go.Proofs.YtngnbflkiiehmaaGreatDoor
open Go.RowKit Go.Proofs.Sha

def sh (z : Int) (low : Bool) (i : Int) : Int := if low then 8 * i else 8 * (z - 1 - i)

theorem shift_any (z : Int) (low : Bool) (i : Int) (w : World) (hz : 0 ≤ z) (hz4 : z ≤ 8) (hi : 0 ≤ i) (hi4 : i < z) :
    Calls Tryz.prog 105 #[.agg #[.int .i64 z, .bool low], .int .i64 i] w fun e w' => e = .returned (.int .i64 (sh z low i)) ∧ Below w.heap.size w w' := by
  cases low
  · go_enter Tryz.func105, Tryz.ntmps105
    go_wp2
    go_ret
    exact ⟨rfl, (Below.refl _ _).alloc (Nat.le_refl _) _⟩
  · go_enter Tryz.func105, Tryz.ntmps105
    go_wp2
    go_ret
    exact ⟨rfl, (Below.refl _ _).alloc (Nat.le_refl _) _⟩

/-- The builder in block b holds these bytes. -/
def Bld (b : Nat) (l : List UInt8) (w : World) : Prop := Lib.IsBuilderF 70 5 b b (Lib.byteCells l) w
/-- It holds them, and nothing else has turned. -/
def Put (b : Nat) (l : List UInt8) (w w' : World) : Prop := Bld b l w' ∧ Below b w w' ∧ Lib.OthersKept 5 (some b) w w'

theorem Bld.lt {b : Nat} {l : List UInt8} {w : World} (h : Bld b l w) : b < w.heap.size := by
  rcases h with h | h
  · exact h.lt
  · exact h.lt
theorem Bld.alloc {b : Nat} {l : List UInt8} {w : World} (h : Bld b l w) (o : Obj) : Bld b l (w.alloc o) := by
  rcases h with h | h
  · exact .inl (h.alloc o)
  · exact .inr (h.alloc o)
theorem Put.refl {b : Nat} {l : List UInt8} {w : World} (h : Bld b l w) : Put b l w w := ⟨h, Below.refl _ _, Lib.OthersKept.refl _ _ _⟩
theorem Put.trans {b : Nat} {l m : List UInt8} {w w' w'' : World} (h : Put b l w w') (h' : Put b m w' w'') : Put b m w w'' := ⟨h'.1, h.2.1.trans h'.2.1, h.2.2.trans h'.2.2⟩
theorem Put.alloc {b : Nat} {l : List UInt8} {w w' : World} (h : Put b l w w') (o : Obj) : Put b l w (w'.alloc o) := ⟨h.1.alloc o, h.2.1.alloc (Nat.le_of_lt h.1.lt) o, h.2.2.alloc o⟩

theorem wb_any (b : Nat) (l : List UInt8) (c : Int) (w : World) (x : UInt8) (hc : c = (x.toNat : Int)) (h : Bld b l w) (hl : l.length ≤ 100000) :
    Calls Tryz.prog 107 #[.pointer (some ⟨b, 0, none⟩), .int .u8 c] w fun e w' => e = .returned .nilIface ∧ Put b (l ++ [x]) w w' := by
  refine (Tryz.Builder_WriteByte_k b b _ c w h (by rw [Lib.byteCells_length]; omega) (Nat.le_of_lt h.lt)).mono ?_
  rintro e w' ⟨rfl, h1, h2, h3⟩
  refine ⟨rfl, .inr ?_, h2, h3⟩
  rw [Lib.byteCells_append]
  rw [hc] at h1
  exact h1
theorem ws_any (b : Nat) (l : List UInt8) (s : ByteArray) (w : World) (h : Bld b l w) (hl : l.length + s.size ≤ 100000) :
    Calls Tryz.prog 96 #[.pointer (some ⟨b, 0, none⟩), .string s] w fun e w' => e = .returned (.tuple #[.int .i64 s.size, .nilIface]) ∧ Put b (l ++ s.data.toList) w w' := by
  refine (Tryz.Builder_WriteString_k b b _ s w h (by rw [Lib.byteCells_length]; omega) (Nat.le_of_lt h.lt)).mono ?_
  rintro e w' ⟨rfl, h1, h2, h3⟩
  refine ⟨rfl, .inr ?_, h2, h3⟩
  rw [Lib.byteCells_append]
  exact h1

/-- The byte at a place of a number. -/
def numByte (z : Nat) (low : Bool) (v i : Nat) : UInt8 := UInt8.ofNat (v / 2 ^ (8 * (if low then i else z - 1 - i)))
def numTo (z : Nat) (low : Bool) (v : Nat) : Nat → List UInt8
  | 0 => []
  | i + 1 => numTo z low v i ++ [numByte z low v i]
theorem numTo_length (z : Nat) (low : Bool) (v : Nat) : ∀ i, (numTo z low v i).length = i
  | 0 => rfl
  | i + 1 => by rw [numTo, List.length_append, numTo_length z low v i]; rfl

theorem Bld.heap {b : Nat} {l : List UInt8} {w w' : World} (h : Bld b l w) (hb : ∀ k, k < w.heap.size → w'.heap[k]? = w.heap[k]?) : Bld b l w' := by
  have H : ∀ p, Lib.BuilderAtF 70 5 b b p (Lib.byteCells l) w → Lib.BuilderAtF 70 5 b b p (Lib.byteCells l) w' := by
    rintro p ⟨h1, v, h2, h3, h4⟩
    have l2 := (Array.getElem?_eq_some_iff.1 h2).1
    refine ⟨h1, v, (hb b l2).trans h2, ⟨h3.1, ?_⟩, h4⟩
    rcases h3.2 with hn | ⟨g, cap, cur, fz, hv, hbg, hg, rest⟩
    · exact .inl hn
    · exact .inr ⟨g, cap, cur, fz, hv, hbg, (hb g (Array.getElem?_eq_some_iff.1 hg).1).trans hg, rest⟩
  rcases h with h | h
  · exact .inl (H _ h)
  · exact .inr (H _ h)
theorem Bld.below {b : Nat} {l : List UInt8} {w w' : World} (h : Bld b l w) (hb : Below w.heap.size w w') : Bld b l w' := h.heap hb.block
theorem Put.below {b : Nat} {l : List UInt8} {w w' w'' : World} (h : Put b l w w') (hb : Below w'.heap.size w' w'') : Put b l w w'' :=
  ⟨h.1.below hb, h.2.1.trans (hb.mono (Nat.le_of_lt h.1.lt)), fun k o hk hkb ho => by
    have h1 := h.2.2 k o hk hkb ho
    exact (hb.block k (Array.getElem?_eq_some_iff.1 h1).1).trans h1⟩
theorem Put.cells {b k : Nat} {l : List UInt8} {w w' : World} {cs : Array Value} {t : TypeId} (h : Put b l w w') (hk : w.heap[k]? = some (.cells cs t)) (hne : k ≠ b) (ht : t ≠ 5) : w'.heap[k]? = some (.cells cs t) :=
  h.2.2 k _ hk (fun e => hne (Option.some.inj e)) (fun c fz e => ht (by cases e; rfl))
theorem below_cells {k : Nat} {w w' : World} {o : Obj} (h : Below w.heap.size w w') (hk : w.heap[k]? = some o) : w'.heap[k]? = some o :=
  (h.block k (Array.getElem?_eq_some_iff.1 hk).1).trans hk

theorem byte_of_shift (v k : Nat) : ((v : Int) / 2 ^ k % 256) = ((UInt8.ofNat (v / 2 ^ k)).toNat : Int) := by
  rw [UInt8.toNat_ofNat', show (2 : Nat) ^ 8 = 256 from rfl]
  obtain ⟨p, hp⟩ : ∃ p : Nat, 2 ^ k = p := ⟨_, rfl⟩
  have hp' : (2 : Int) ^ k = (p : Int) := by rw [← hp, Int.natCast_pow]; rfl
  rw [hp, hp', Int.natCast_emod, Int.natCast_ediv]
  rfl

set_option maxRecDepth 100000 in
theorem nput (z : Nat) (low : Bool) (b : Nat) (v : Nat) (l : List UInt8) (w : World) (hz : 0 < z) (hz4 : z ≤ 7) (h : Bld b l w) (hl : l.length ≤ 90000) (_hv : v ≤ 9223372036854775807) :
    Calls Tryz.prog 104 #[.agg #[.int .i64 (z : Int), .bool low], .pointer (some ⟨b, 0, none⟩), .int .i64 (v : Int)] w fun e w' => e = .returned (.tuple #[]) ∧ Put b (l ++ numTo z low v z) w w' := by
  go_enter Tryz.func104, Tryz.ntmps104
  go_wp2
  go_loopw [9] (fun t9 wr => ∃ i : Nat, i ≤ z ∧ t9 = .int .i64 (i : Int) ∧ Put b (l ++ numTo z low v i) w wr ∧ wr.heap[w.heap.size]? = some (.cells #[.int .i64 (z : Int), .bool low] 123)) (fun t9 _ => z - (intOf t9).toNat)
  case atStart => 
    refine ⟨0, Nat.zero_le _, rfl, ?_, heap_alloc_new _ _⟩
    rw [numTo, List.append_nil]
    exact (Put.refl h).alloc _
  case round =>
    obtain ⟨i, hi, rfl, hp, hn⟩ := hrel
    by_cases h1 : i < z
    · have z1 : decide ((i : Int) < (z : Int)) = true := by simp; omega
      have c0 : wr.cell? ⟨w.heap.size, 0, none⟩ = some (.int .i64 (z : Int)) := Lib.cell_of_heap hn 0
      have c1 : wr.cell? ⟨w.heap.size, 1, none⟩ = some (.bool low) := Lib.cell_of_heap hn 1
      obtain ⟨k, hk, hk56, hkb⟩ : ∃ k : Nat, sh z low i = (k : Int) ∧ k ≤ 56 ∧ numByte z low v i = UInt8.ofNat (v / 2 ^ k) := by
        unfold sh numByte
        cases low
        · exact ⟨8 * (z - 1 - i), by simp only [Bool.false_eq_true, if_false]; omega, by omega, rfl⟩
        · exact ⟨8 * i, by simp only [if_true]; omega, by omega, rfl⟩
      have HC : Hid (∀ w', Calls Tryz.prog 105 #[.agg #[.int .i64 (z : Int), .bool low], .int .i64 (i : Int)] w' fun e w'' => e = .returned (.int .i64 (k : Int)) ∧ Below w'.heap.size w' w'') := fun w' => by rw [← hk]; exact shift_any _ _ _ w' (by omega) (by omega) (by omega) (by omega)
      have k0 : (0 : Int) ≤ (k : Int) := by omega
      go_wp2_with (first | (go_at_call 105; refine (HC.out _).mono ?_; rintro e w1 ⟨rfl, hb1⟩) | (go_at_call 107; refine (wb_any b _ _ w1 _ (byte_of_shift v k) (hp.1.below hb1) (by rw [List.length_append, numTo_length]; omega)).mono ?_; rintro e w2 ⟨rfl, hp2⟩))
      have hne : w.heap.size ≠ b := by have := h.lt; omega
      refine ⟨⟨i + 1, by omega, congrArg (Value.int .i64) (by omega), ?_, hp2.cells (below_cells hb1 hn) hne (by decide)⟩, ?_⟩
      · have := (hp.below hb1).trans hp2
        rw [numTo, hkb, ← List.append_assoc]
        exact this
      · show z - ((i : Int) + 1).toNat < z - ((i : Int)).toNat
        omega
    · have z1 : decide ((i : Int) < (z : Int)) = false := by simp; omega
      go_wp2
      have e : i = z := by omega
      subst e
      go_end0
      exact ⟨rfl, hp⟩
end Go.Proofs.YtngnbflkiiehmaaGreatDoor
namespace Go.Proofs.YtngnbflkiiehmaaGreatDoor
open Go.RowKit Go.Proofs.Sha

theorem wint (z : Nat) (low : Bool) (b : Nat) (v : Nat) (l : List UInt8) (w : World) (hz : 0 < z) (hz4 : z ≤ 7) (h : Bld b l w) (hl : l.length ≤ 90000) (hv : v ≤ 9223372036854775807) :
    Calls Tryz.prog 84 #[.pointer (some ⟨b, 0, none⟩), .iface 123 (.agg #[.int .i64 (z : Int), .bool low]), .int .i64 (v : Int)] w fun e w' => e = .returned (.tuple #[]) ∧ Put b (l ++ numTo z low v z) w w' := by
  have hmt : ∀ w : World, (method 292 123 (.agg #[.int .i64 (z : Int), .bool low]) "loop.example/s03048/impl.put").run Tryz.prog w = .ok (104, .agg #[.int .i64 (z : Int), .bool low]) w := fun _ => by kernel_rfl
  go_enter Tryz.func84, Tryz.ntmps84
  go_wp2_with (first | (go_at_call 104; refine (nput z low b v l w hz hz4 h hl hv).mono ?_; rintro e w2 ⟨rfl, hp2⟩))
  go_end0
  exact ⟨rfl, hp2⟩

theorem plain_put (n : Int) (b : Nat) (s : ByteArray) (l : List UInt8) (w : World) (h : Bld b l w) (hl : l.length + s.size ≤ 90000) :
    Calls Tryz.prog 111 #[.agg #[.int .i64 n], .pointer (some ⟨b, 0, none⟩), .string s] w fun e w' => e = .returned (.tuple #[]) ∧ Put b (l ++ s.data.toList) w w' := by
  go_enter Tryz.func111, Tryz.ntmps111
  go_wp2_with (first | (go_at_call 96; refine (ws_any b l s _ (h.alloc _) (by omega)).mono ?_; rintro e w2 ⟨rfl, hp2⟩))
  go_end0
  exact ⟨rfl, ((Put.refl h).alloc _).trans hp2⟩

theorem wplain (n : Int) (b : Nat) (s : ByteArray) (l : List UInt8) (w : World) (h : Bld b l w) (hl : l.length + s.size ≤ 90000) :
    Calls Tryz.prog 82 #[.pointer (some ⟨b, 0, none⟩), .iface 129 (.agg #[.int .i64 n]), .string s] w fun e w' => e = .returned (.tuple #[]) ∧ Put b (l ++ s.data.toList) w w' := by
  have hmt : ∀ w : World, (method 292 129 (.agg #[.int .i64 n]) "loop.example/s03048/impl.put").run Tryz.prog w = .ok (111, .agg #[.int .i64 n]) w := fun _ => by kernel_rfl
  go_enter Tryz.func82, Tryz.ntmps82
  go_wp2_with (first | (go_at_call 111; refine (plain_put n b s l w h hl).mono ?_; rintro e w2 ⟨rfl, hp2⟩))
  go_end0
  exact ⟨rfl, hp2⟩

theorem sized_put (z : Nat) (low : Bool) (b : Nat) (s : ByteArray) (l : List UInt8) (w : World) (hz : 0 < z) (hz4 : z ≤ 7) (h : Bld b l w) (hl : l.length + s.size ≤ 80000) :
    Calls Tryz.prog 109 #[.agg #[.int .i64 (z : Int), .bool low], .pointer (some ⟨b, 0, none⟩), .string s] w fun e w' => e = .returned (.tuple #[]) ∧ Put b (l ++ numTo z low s.size z ++ s.data.toList) w w' := by
  go_enter Tryz.func109, Tryz.ntmps109
  go_wp2_with (first | (go_at_call 84; refine (wint z low b s.size l _ hz hz4 (h.alloc _) (by omega) (by omega)).mono ?_; rintro e w2 ⟨rfl, hp2⟩) | (go_at_call 82; refine (wplain _ b s _ _ hp2.1 (by rw [List.length_append, numTo_length]; omega)).mono ?_; rintro e w3 ⟨rfl, hp3⟩))
  go_end0
  exact ⟨rfl, (((Put.refl h).alloc _).trans hp2).trans hp3⟩

theorem wsized (z : Nat) (low : Bool) (b : Nat) (s : ByteArray) (l : List UInt8) (w : World) (hz : 0 < z) (hz4 : z ≤ 7) (h : Bld b l w) (hl : l.length + s.size ≤ 80000) :
    Calls Tryz.prog 82 #[.pointer (some ⟨b, 0, none⟩), .iface 125 (.agg #[.int .i64 (z : Int), .bool low]), .string s] w fun e w' => e = .returned (.tuple #[]) ∧ Put b (l ++ numTo z low s.size z ++ s.data.toList) w w' := by
  have hmt : ∀ w : World, (method 292 125 (.agg #[.int .i64 (z : Int), .bool low]) "loop.example/s03048/impl.put").run Tryz.prog w = .ok (109, .agg #[.int .i64 (z : Int), .bool low]) w := fun _ => by kernel_rfl
  go_enter Tryz.func82, Tryz.ntmps82
  go_wp2_with (first | (go_at_call 109; refine (sized_put z low b s l w hz hz4 h hl).mono ?_; rintro e w2 ⟨rfl, hp2⟩))
  go_end0
  exact ⟨rfl, hp2⟩

theorem wint1 (b : Nat) (v : Nat) (l : List UInt8) (w : World) (h : Bld b l w) (hl : l.length ≤ 90000) (hv : v ≤ 9223372036854775807) :
    Calls Tryz.prog 84 #[.pointer (some ⟨b, 0, none⟩), .iface 123 (.agg #[.int .i64 1, .bool false]), .int .i64 (v : Int)] w fun e w' => e = .returned (.tuple #[]) ∧ Put b (l ++ [UInt8.ofNat v]) w w' := by
  have := wint 1 false b v l w (by omega) (by omega) h hl hv
  have e : numTo 1 false v 1 = [UInt8.ofNat v] := by simp [numTo, numByte]
  rw [e] at this
  exact this
theorem sector_put (m : Nat) (b : Nat) (s : ByteArray) (l : List UInt8) (w : World) (hm : m ≤ 255) (h : Bld b l w) (hl : l.length + s.size ≤ 80000) :
    Calls Tryz.prog 115 #[.agg #[.int .i64 (m : Int)], .pointer (some ⟨b, 0, none⟩), .string s] w fun e w' => e = .returned (.tuple #[]) ∧ Put b (l ++ s.data.toList ++ [UInt8.ofNat m]) w w' := by
  go_enter Tryz.func115, Tryz.ntmps115
  go_wp2_with (first | (go_at_call 96; refine (ws_any b l s _ (h.alloc _) (by omega)).mono ?_; rintro e w2 ⟨rfl, hp2⟩; have c0 : w2.cell? ⟨w.heap.size, 0, none⟩ = some (.int .i64 (m : Int)) := Lib.cell_of_heap (hp2.cells (heap_alloc_new _ _) (by have := h.lt; omega) (by decide)) 0))
  have HH := wint1 b m _ _ hp2.1 (by rw [List.length_append]; exact Nat.le_trans hl (by omega)) (by omega)
  refine HH.mono ?_
  rintro e w3 ⟨rfl, hp3⟩
  go_wp2
  go_end0
  exact ⟨rfl, (((Put.refl h).alloc _).trans hp2).trans hp3⟩

theorem wsector (m : Nat) (b : Nat) (s : ByteArray) (l : List UInt8) (w : World) (hm : m ≤ 255) (h : Bld b l w) (hl : l.length + s.size ≤ 80000) :
    Calls Tryz.prog 82 #[.pointer (some ⟨b, 0, none⟩), .iface 141 (.agg #[.int .i64 (m : Int)]), .string s] w fun e w' => e = .returned (.tuple #[]) ∧ Put b (l ++ s.data.toList ++ [UInt8.ofNat m]) w w' := by
  have hmt : ∀ w : World, (method 292 141 (.agg #[.int .i64 (m : Int)]) "loop.example/s03048/impl.put").run Tryz.prog w = .ok (115, .agg #[.int .i64 (m : Int)]) w := fun _ => by kernel_rfl
  go_enter Tryz.func82, Tryz.ntmps82
  go_wp2_with (first | (go_at_call 115; refine (sector_put m b s l w hm h hl).mono ?_; rintro e w2 ⟨rfl, hp2⟩))
  go_end0
  exact ⟨rfl, hp2⟩
end Go.Proofs.YtngnbflkiiehmaaGreatDoor
namespace Go.Proofs.YtngnbflkiiehmaaGreatDoor
open Go.RowKit Go.Proofs.Sha

def gap (n : Nat) : Nat := (n + 62) / 63 * 63 - n
def pad63 (l : List UInt8) : List UInt8 := l ++ List.replicate (gap l.length) 0
theorem gap_lt (n : Nat) : gap n < 63 := by unfold gap; omega
theorem pad63_length (l : List UInt8) : (pad63 l).length = l.length + gap l.length := by rw [pad63, List.length_append, List.length_replicate]

theorem missing_any (n : Nat) (w : World) (hn : n ≤ 100000) :
    Calls Tryz.prog 120 #[.int .i64 (n : Int)] w fun e w' => e = .returned (.int .i64 (gap n : Int)) ∧ w = w' := by
  go_enter Tryz.func120, Tryz.ntmps120
  go_wp2
  go_ret
  exact ⟨congrArg Ending.returned (congrArg (Value.int .i64) (by unfold gap; omega)), rfl⟩

theorem repeatL_zero (n : Nat) : Lib.repeatL [0] n = List.replicate n 0 := by
  induction n with
  | zero => rfl
  | succ n ih => rw [Lib.repeatL, ih]; rfl
theorem repeat_any (n : Nat) (w : World) (hn : n ≤ 63) :
    Calls Tryz.prog 119 #[.string ⟨#[0]⟩, .int .i64 (n : Int)] w fun e w' => ∃ t : ByteArray, e = .returned (.string t) ∧ t.size = n ∧ Hid (t.data.toList = List.replicate n 0) ∧ Below w.heap.size w w' := by
  refine (Tryz.strings_Repeat ⟨#[0]⟩ n w (by omega) (by show 1 * n ≤ _; omega)).mono ?_
  rintro e w' ⟨rfl, hb⟩
  have e1 : Lib.repeatL (⟨#[0]⟩ : ByteArray).data.toList n = List.replicate n 0 := repeatL_zero n
  refine ⟨_, rfl, ?_, ?_, hb⟩
  · show ((Lib.repeatL (⟨#[0]⟩ : ByteArray).data.toList n).toArray).size = n
    rw [e1]; simp
  · show ((Lib.repeatL (⟨#[0]⟩ : ByteArray).data.toList n).toArray).toList = _
    rw [e1]
theorem len_any (b : Nat) (l : List UInt8) (w : World) (h : Bld b l w) :
    Calls Tryz.prog 121 #[.pointer (some ⟨b, 0, none⟩)] w fun e w' => e = .returned (.int .i64 (l.length : Int)) ∧ w = w' := by
  refine (Tryz.Builder_Len_f b b _ w h).mono ?_
  rintro e w' ⟨rfl, rfl⟩
  rw [Lib.byteCells_length]
  exact ⟨rfl, rfl⟩

set_option maxRecDepth 100000 in
set_option maxHeartbeats 1000000 in
theorem padS_put (z : Nat) (low : Bool) (b : Nat) (s : ByteArray) (l : List UInt8) (w : World) (hz : 0 < z) (hz4 : z ≤ 7) (h : Bld b l w) (hl : l.length + s.size ≤ 70000) :
    Calls Tryz.prog 153 #[.agg #[.iface 125 (.agg #[.int .i64 (z : Int), .bool low])], .pointer (some ⟨b, 0, none⟩), .string s] w fun e w' => e = .returned (.tuple #[]) ∧ Put b (pad63 (l ++ numTo z low s.size z ++ s.data.toList)) w w' := by
  obtain ⟨m, hm⟩ : ∃ m, l ++ numTo z low s.size z ++ s.data.toList = m := ⟨_, rfl⟩
  have hm2 : m.length ≤ 71000 := by rw [← hm, List.length_append, List.length_append, numTo_length]; show l.length + z + s.size ≤ _; omega
  have HW : Hid (∀ w', Bld b l w' → Calls Tryz.prog 82 #[.pointer (some ⟨b, 0, none⟩), .iface 125 (.agg #[.int .i64 (z : Int), .bool low]), .string s] w' fun e w'' => e = .returned (.tuple #[]) ∧ Put b m w' w'') := by
    intro w' h'
    have := wsized z low b s l w' hz hz4 h' (by omega)
    rw [hm] at this
    exact this
  rw [hm]
  clear hm
  obtain ⟨g, hg⟩ : ∃ g, gap m.length = g := ⟨_, rfl⟩
  have g63 : g < 63 := by rw [← hg]; exact gap_lt _
  have HM : Hid (∀ w', Calls Tryz.prog 120 #[.int .i64 (m.length : Int)] w' fun e w'' => e = .returned (.int .i64 (g : Int)) ∧ w' = w'') := by
    intro w'
    rw [← hg]
    exact missing_any _ _ (by omega)
  have HP : Hid (pad63 m = m ++ List.replicate g 0) := by show _ = _; rw [← hg]; rfl
  obtain ⟨q, hq⟩ : ∃ q, pad63 m = q := ⟨_, rfl⟩
  rw [hq] at HP ⊢
  clear hg hq
  go_enter Tryz.func153, Tryz.ntmps153
  go_wp2_with (first | (go_at_call 82; refine (HW.out _ (h.alloc _)).mono ?_; rintro e w2 ⟨rfl, hp2⟩) | (go_at_call 121; refine (len_any b m _ hp2.1).mono ?_; rintro e w3 ⟨rfl, rfl⟩) | (go_at_call 120; refine (HM.out _).mono ?_; rintro e w4 ⟨rfl, rfl⟩) | (go_at_call 119; refine (repeat_any g _ (by omega)).mono ?_; rintro e w5 ⟨t, rfl, ht, HT, hb5⟩) | (go_at_call 96; refine (ws_any b m t _ (hp2.1.below hb5) (by omega)).mono ?_; rintro e w6 ⟨rfl, hp6⟩))
  go_end0
  refine ⟨rfl, ?_⟩
  rw [HT.out, ← HP.out] at hp6
  exact (((Put.refl h).alloc _).trans (hp2.below hb5)).trans hp6
end Go.Proofs.YtngnbflkiiehmaaGreatDoor
namespace Go.Proofs.YtngnbflkiiehmaaGreatDoor
open Go.RowKit Go.Proofs.Sha

theorem wpadS (z : Nat) (low : Bool) (b : Nat) (s : ByteArray) (l : List UInt8) (w : World) (hz : 0 < z) (hz4 : z ≤ 7) (h : Bld b l w) (hl : l.length + s.size ≤ 70000) :
    Calls Tryz.prog 82 #[.pointer (some ⟨b, 0, none⟩), .iface 150 (.agg #[.iface 125 (.agg #[.int .i64 (z : Int), .bool low])]), .string s] w fun e w' => e = .returned (.tuple #[]) ∧ Put b (pad63 (l ++ numTo z low s.size z ++ s.data.toList)) w w' := by
  have hmt : ∀ w : World, (method 292 150 (.agg #[.iface 125 (.agg #[.int .i64 (z : Int), .bool low])]) "loop.example/s03048/impl.put").run Tryz.prog w = .ok (153, .agg #[.iface 125 (.agg #[.int .i64 (z : Int), .bool low])]) w := fun _ => by kernel_rfl
  have HC : Hid (Calls Tryz.prog 153 #[.agg #[.iface 125 (.agg #[.int .i64 (z : Int), .bool low])], .pointer (some ⟨b, 0, none⟩), .string s] w fun e w' => e = .returned (.tuple #[]) ∧ Put b (pad63 (l ++ numTo z low s.size z ++ s.data.toList)) w w') := padS_put z low b s l w hz hz4 h hl
  obtain ⟨m, hm⟩ : ∃ m, pad63 (l ++ numTo z low s.size z ++ s.data.toList) = m := ⟨_, rfl⟩
  rw [hm] at HC ⊢
  clear hm
  go_enter Tryz.func82, Tryz.ntmps82
  go_wp2_with (first | (go_at_call 153; refine HC.out.mono ?_; rintro e w2 ⟨rfl, hp2⟩))
  go_end0
  exact ⟨rfl, hp2⟩

theorem fresh_bld (w : World) : Bld w.heap.size [] (w.alloc (.cells #[.pointer none, .slice none 0 0] 70)) := Lib.IsBuilderF.of (Lib.fresh_isBuilder 70 5 w)

theorem bstring (b : Nat) (l : List UInt8) (w : World) (h : Bld b l w) :
    Calls Tryz.prog 43 #[.pointer (some ⟨b, 0, none⟩)] w fun e w' => e = .returned (.string ⟨l.toArray⟩) ∧ Below b w w' := by
  refine (Tryz.Builder_String_any_k b b l w h (Nat.le_of_lt h.lt)).mono ?_
  rintro e w' ⟨rfl, _, hb, _⟩
  exact ⟨rfl, hb⟩

theorem recNum_any (w : World) : Calls Tryz.prog 95 #[] w fun e w' => e = .returned (.agg #[.int .i64 4, .bool true]) ∧ Below w.heap.size w w' := by
  go_enter Tryz.func95, Tryz.ntmps95
  go_wp2
  have c0 := Lib.cell_of_heap (heap_alloc_new w (.cells #[.int .i64 4, .bool true] 123)) 0
  have c1 := Lib.cell_of_heap (heap_alloc_new w (.cells #[.int .i64 4, .bool true] 123)) 1
  refine bodyPost_ret (v := .agg #[.int .i64 4, .bool true]) ?_ rfl ⟨rfl, (Below.refl _ _).alloc (Nat.le_refl _) _⟩
  simp [results, Tryz.results95, go_sem, asAddr, c0, c1]

theorem nodeBody_any (w : World) : Calls Tryz.prog 94 #[] w fun e w' => e = .returned (.agg #[.iface 125 (.agg #[.int .i64 4, .bool true])]) ∧ Below w.heap.size w w' := by
  go_enter Tryz.func94, Tryz.ntmps94
  go_wp2_with (first | (go_at_call 95; refine (recNum_any _).mono ?_; rintro e w2 ⟨rfl, hb2⟩; have hn := below_cells hb2 (heap_alloc_new w (.cells #[.nilIface] 150)); have c0 := Lib.cell_of_heap hn 0; have f0 : w2.frozen? ⟨w.heap.size, 0, none⟩ = false := (by rw [World.frozen?, hn]; rfl)))
  have c1 : (w2.setCell ⟨w.heap.size, 0, none⟩ (.iface 125 (.agg #[.int .i64 4, .bool true]))).cell? ⟨w.heap.size, 0, none⟩ = some (.iface 125 (.agg #[.int .i64 4, .bool true])) := World.cell?_setCell_same _ _ _ c0
  refine bodyPost_ret (v := .agg #[.iface 125 (.agg #[.int .i64 4, .bool true])]) ?_ rfl ⟨rfl, ?_⟩
  · simp [results, Tryz.results94, go_sem, asAddr, c1]
  · exact (((Below.refl _ w).alloc (Nat.le_refl _) _).trans (hb2.mono (by simp))).setCell (Nat.le_refl _) _

theorem commitBody_any (w : World) : Calls Tryz.prog 89 #[] w fun e w' => e = .returned (.agg #[.iface 147 (.agg #[])]) ∧ Below w.heap.size w w' := by
  go_enter Tryz.func89, Tryz.ntmps89
  go_wp2
  have c0 := Lib.cell_of_heap (heap_alloc_new w (.cells #[.iface 147 (.agg #[])] 143)) 0
  refine bodyPost_ret (v := .agg #[.iface 147 (.agg #[])]) ?_ rfl ⟨rfl, (Below.refl _ _).alloc (Nat.le_refl _) _⟩
  simp [results, Tryz.results89, go_sem, asAddr, c0]

set_option maxRecDepth 100000 in
theorem written_S (I : Value) (s : ByteArray) (m : List UInt8) (w : World)
    (HC : Hid (∀ w', Bld w.heap.size [] w' → Calls Tryz.prog 82 #[.pointer (some ⟨w.heap.size, 0, none⟩), I, .string s] w' fun e w'' => e = .returned (.tuple #[]) ∧ Put w.heap.size m w' w'')) :
    Calls Tryz.prog 93 #[I, .string s] w fun e w' => ∃ t : ByteArray, e = .returned (.string t) ∧ Hid (t.data.toList = m) ∧ Below w.heap.size w w' := by
  go_enter Tryz.func93, Tryz.ntmps93
  go_wp2_with (first | (go_at_call 82; refine (HC.out _ (fresh_bld w)).mono ?_; rintro e w2 ⟨rfl, hp2⟩) | (go_at_call 43; refine (bstring _ _ _ hp2.1).mono ?_; rintro e w3 ⟨rfl, hb3⟩))
  go_ret
  exact ⟨_, rfl, rfl, (((Below.refl _ _).alloc (Nat.le_refl _) _).trans hp2.2.1).trans hb3⟩

theorem fresh_bld1 (w : World) (o : Obj) : Bld (w.heap.size + 1) [] ((w.alloc o).alloc (.cells #[.pointer none, .slice none 0 0] 70)) := by
  have := fresh_bld (w.alloc o)
  rwa [show (w.alloc o).heap.size = w.heap.size + 1 by simp] at this

set_option maxRecDepth 100000 in
theorem written_R (I : Value) (v0 v1 v2 v3 v4 : Value) (m : List UInt8) (w : World) 
    (HC : Hid (∀ b w', Bld b [] w' → Calls Tryz.prog 50 #[.pointer (some ⟨b, 0, none⟩), I, .agg #[v0, v1, v2, v3, v4]] w' fun e w'' => e = .returned (.tuple #[]) ∧ Put b m w' w'')) :
    Calls Tryz.prog 32 #[I, .agg #[v0, v1, v2, v3, v4]] w fun e w' => ∃ t : ByteArray, e = .returned (.string t) ∧ Hid (t.data.toList = m) ∧ Below w.heap.size w w' := by
  go_enter Tryz.func32, Tryz.ntmps32
  go_wp2_with (first | (go_at_call 50; refine (HC.out (w.heap.size + 1) _ (fresh_bld1 w _)).mono ?_; rintro e w2 ⟨rfl, hp2⟩) | (go_at_call 43; refine (bstring _ _ _ hp2.1).mono ?_; rintro e w3 ⟨rfl, hb3⟩))
  go_ret
  exact ⟨_, rfl, rfl, ((((Below.refl _ _).alloc (Nat.le_refl _) _).alloc (by simp) _).trans (hp2.2.1.mono (by omega))).trans (hb3.mono (by omega))⟩

end Go.Proofs.YtngnbflkiiehmaaGreatDoor
namespace Go.Proofs.YtngnbflkiiehmaaGreatDoor
open Go.RowKit Go.Proofs.Sha

theorem empty_iff (l : ByteArray) : l.toList.isEmpty = decide (l.size = 0) := by
  rw [ByteArray.toList_eq]
  have : l.data.toList.length = l.size := rfl
  cases h : l.data.toList with
  | nil =>
    rw [h, List.length_nil] at this
    simp [← this]
  | cons a t =>
    rw [h, List.length_cons] at this
    have h0 : ¬ l.size = 0 := by omega
    simp [h0]
theorem flags_any (k v l r : ByteArray) (w : World) :
    Calls Tryz.prog 81 #[.agg #[.string k, .string v, .string l, .string r]] w fun e w' => e = .returned (.int .i64 (flagOf l.size r.size : Int)) ∧ Below w.heap.size w w' := by
  have hb : Below w.heap.size w (w.alloc (.cells #[.string k, .string v, .string l, .string r] 24)) := (Below.refl _ _).alloc (Nat.le_refl _) _
  by_cases h1 : l.size = 0
  all_goals by_cases h2 : r.size = 0
  all_goals
    have HF : Hid (∃ f, flagOf l.size r.size = f ∧ f = (if l.size = 0 then 0 else 1) + (if r.size = 0 then 0 else 2)) := ⟨_, rfl, rfl⟩
    have e1 := empty_iff l
    have e2 := empty_iff r
    simp only [h1, h2, decide_true, decide_false] at e1 e2
    clear h1 h2
    go_enter Tryz.func81, Tryz.ntmps81
    go_wp2
    go_ret
    obtain ⟨f, hf, hf2⟩ := HF.out
    refine ⟨?_, hb⟩
    rw [hf, hf2]
    rw [empty_iff] at e1 e2
    simp at e1 e2
    simp [e1, e2]
theorem kept_any (w : World) : Calls Tryz.prog 83 #[] w fun e w' => e = .returned (.agg #[.int .i64 2, .bool false]) ∧ Below w.heap.size w w' := by
  go_enter Tryz.func83, Tryz.ntmps83
  go_wp2
  have c0 := Lib.cell_of_heap (heap_alloc_new w (.cells #[.int .i64 2, .bool false] 125)) 0
  have c1 := Lib.cell_of_heap (heap_alloc_new w (.cells #[.int .i64 2, .bool false] 125)) 1
  refine bodyPost_ret (v := .agg #[.int .i64 2, .bool false]) ?_ rfl ⟨rfl, (Below.refl _ _).alloc (Nat.le_refl _) _⟩
  simp [results, Tryz.results83, go_sem, asAddr, c0, c1]
theorem link_any (n f : Int) (w : World) : Calls Tryz.prog 78 #[.agg #[.int .i64 n], .int .i64 f] w fun e w' => e = .returned (.agg #[.int .i64 (if f = 0 then 0 else n)]) ∧ Below w.heap.size w w' := by
  have hb : ∀ x, Below w.heap.size w ((w.alloc (.cells #[.int .i64 n] 49)).alloc (.cells #[.int .i64 x] 129)) := fun x => ((Below.refl _ _).alloc (Nat.le_refl _) _).alloc (by simp) _
  have c0 : ∀ x, ((w.alloc (.cells #[.int .i64 n] 49)).alloc (.cells #[.int .i64 x] 129)).cell? ⟨w.heap.size + 1, 0, none⟩ = some (.int .i64 x) := fun x => by
    have := Lib.cell_of_heap (heap_alloc_new (w.alloc (.cells #[.int .i64 n] 49)) (.cells #[.int .i64 x] 129)) 0
    rw [show (w.alloc (.cells #[.int .i64 n] 49)).heap.size = w.heap.size + 1 by simp] at this
    exact this
  by_cases h : f = 0
  · rw [if_pos h]
    subst h
    go_enter Tryz.func78, Tryz.ntmps78
    go_wp2
    refine bodyPost_ret (v := .agg #[.int .i64 0]) ?_ rfl ⟨rfl, hb _⟩
    simp [results, Tryz.results78, go_sem, asAddr]
  · rw [if_neg h]
    go_enter Tryz.func78, Tryz.ntmps78
    go_wp2
    refine bodyPost_ret (v := .agg #[.int .i64 n]) ?_ rfl ⟨rfl, hb _⟩
    simp [results, Tryz.results78, go_sem, asAddr]

theorem wsized2 (b : Nat) (s : ByteArray) (l : List UInt8) (w : World) (h : Bld b l w) (hl : l.length + s.size ≤ 80000) :
    Calls Tryz.prog 82 #[.pointer (some ⟨b, 0, none⟩), .iface 125 (.agg #[.int .i64 2, .bool false]), .string s] w fun e w' => e = .returned (.tuple #[]) ∧ Put b (l ++ sized s.data.toList) w w' := by
  have := wsized 2 false b s l w (by omega) (by omega) h hl
  have e0 : ∀ x : Nat, UInt8.ofNat (x % 256) = UInt8.ofNat x := fun x => by apply UInt8.toNat.inj; simp
  have e : numTo 2 false s.size 2 = [UInt8.ofNat (s.size / 256), UInt8.ofNat (s.size % 256)] := by simp [numTo, numByte, e0]
  rw [e, List.append_assoc] at this
  exact this

theorem link_ex (n f : Int) (w : World) : Calls Tryz.prog 78 #[.agg #[.int .i64 n], .int .i64 f] w fun e w' => ∃ p, e = .returned (.agg #[.int .i64 p]) ∧ Below w.heap.size w w' :=
  (link_any n f w).mono (by rintro e w' ⟨rfl, hb⟩; exact ⟨_, rfl, hb⟩)
end Go.Proofs.YtngnbflkiiehmaaGreatDoor
namespace Go.Proofs.YtngnbflkiiehmaaGreatDoor
open Go.RowKit Go.Proofs.Sha

set_option maxRecDepth 100000 in
set_option maxHeartbeats 2000000 in
theorem node_put_f (f : Nat) (F : Int) (hFf : F = (f : Int)) (hf : F = 0 ∨ F = 1 ∨ F = 2 ∨ F = 3) (b : Nat) (n : Int) (k v l r : ByteArray) (q : List UInt8) (w : World) (h : Bld b q w) (hq : q.length ≤ 1000) (hk : k.size ≤ 256) (hv : v.size ≤ 2000) (hl : l.size ≤ 32) (hr : r.size ≤ 32)
    (HF : Hid (∀ w', Calls Tryz.prog 81 #[.agg #[.string k, .string v, .string l, .string r]] w' fun e w'' => e = .returned (.int .i64 F) ∧ Below w'.heap.size w' w'')) :
    Calls Tryz.prog 79 #[.agg #[.int .i64 n], .pointer (some ⟨b, 0, none⟩), .agg #[.string k, .string v, .string l, .string r]] w fun e w' => e = .returned (.tuple #[]) ∧ Put b (q ++ sized k.data.toList ++ sized v.data.toList ++ [UInt8.ofNat f] ++ l.data.toList ++ r.data.toList) w w' := by
  have hlt := h.lt
  obtain ⟨m1, hm1⟩ : ∃ m, q ++ sized k.data.toList = m := ⟨_, rfl⟩
  have z1 : m1.length ≤ 2000 := by rw [← hm1, List.length_append]; show q.length + (k.size + 1 + 1) ≤ _; omega
  obtain ⟨m2, hm2⟩ : ∃ m, m1 ++ sized v.data.toList = m := ⟨_, rfl⟩
  have z2 : m2.length ≤ 5000 := by rw [← hm2, List.length_append]; show m1.length + (v.size + 1 + 1) ≤ _; omega
  obtain ⟨m3, hm3⟩ : ∃ m, m2 ++ [UInt8.ofNat f] = m := ⟨_, rfl⟩
  have z3 : m3.length ≤ 5001 := by rw [← hm3, List.length_append]; show m2.length + 1 ≤ _; omega
  obtain ⟨m4, hm4⟩ : ∃ m, m3 ++ l.data.toList = m := ⟨_, rfl⟩
  have z4 : m4.length ≤ 6000 := by rw [← hm4, List.length_append]; show m3.length + l.size ≤ _; omega
  have HA : Hid (∀ w', Bld b q w' → Calls Tryz.prog 82 #[.pointer (some ⟨b, 0, none⟩), .iface 125 (.agg #[.int .i64 2, .bool false]), .string k] w' fun e w'' => e = .returned (.tuple #[]) ∧ Put b m1 w' w'') := fun w' h' => by rw [← hm1]; exact wsized2 b k q w' h' (by omega)
  have HB : Hid (∀ w', Bld b m1 w' → Calls Tryz.prog 82 #[.pointer (some ⟨b, 0, none⟩), .iface 125 (.agg #[.int .i64 2, .bool false]), .string v] w' fun e w'' => e = .returned (.tuple #[]) ∧ Put b m2 w' w'') := fun w' h' => by rw [← hm2]; exact wsized2 b v m1 w' h' (by omega)
  have HC : Hid (∀ w', Bld b m2 w' → Calls Tryz.prog 84 #[.pointer (some ⟨b, 0, none⟩), .iface 123 (.agg #[.int .i64 1, .bool false]), .int .i64 F] w' fun e w'' => e = .returned (.tuple #[]) ∧ Put b m3 w' w'') := fun w' h' => by rw [← hm3, hFf]; exact wint1 b f m2 w' h' (by omega) (by omega)
  have HD : Hid (∀ p w', Bld b m3 w' → Calls Tryz.prog 82 #[.pointer (some ⟨b, 0, none⟩), .iface 129 (.agg #[.int .i64 p]), .string l] w' fun e w'' => e = .returned (.tuple #[]) ∧ Put b m4 w' w'') := fun p w' h' => by rw [← hm4]; exact wplain p b l m3 w' h' (by omega)
  have HE : Hid (∀ p w', Bld b m4 w' → Calls Tryz.prog 82 #[.pointer (some ⟨b, 0, none⟩), .iface 129 (.agg #[.int .i64 p]), .string r] w' fun e w'' => e = .returned (.tuple #[]) ∧ Put b (m4 ++ r.data.toList) w' w'') := fun p w' h' => wplain p b r m4 w' h' (by omega)
  rw [hm1, hm2, hm3, hm4]
  clear hm1 hm2 hm3 hm4
  have HL : Hid (∀ p w', Calls Tryz.prog 78 #[.agg #[.int .i64 n], .int .i64 p] w' fun e w'' => ∃ p, e = .returned (.agg #[.int .i64 p]) ∧ Below w'.heap.size w' w'') := fun p w' => link_ex n p w'
  obtain ⟨m5, hm5⟩ : ∃ m, m4 ++ r.data.toList = m := ⟨_, rfl⟩
  rw [hm5] at HE ⊢
  clear hm5 hk hv hl hr hq z1 z2 z3 z4 hFf
  rcases hf with rfl | rfl | rfl | rfl
  all_goals
    go_enter Tryz.func79, Tryz.ntmps79
    go_wp2_with (first | (go_at_call 81; refine (HF.out _).mono ?_; rintro e w1 ⟨rfl, hb1⟩))
    have hp1 : Put b q w w1 := (((Put.refl h).alloc (.cells #[.int .i64 n] 49)).alloc (.cells #[.string k, .string v, .string l, .string r] 24)).below hb1
    have hf1 : w1.heap[w.heap.size]? = some (.cells #[.int .i64 n] 49) := below_cells hb1 (below_cells ((Below.refl _ _).alloc (Nat.le_refl _) _) (heap_alloc_new w (.cells #[.int .i64 n] 49)))
    have hn1 : w1.heap[w.heap.size + 1]? = some (.cells #[.string k, .string v, .string l, .string r] 24) := below_cells hb1 (by
      rw [show w.heap.size + 1 = (w.alloc (.cells #[.int .i64 n] 49)).heap.size by simp]; exact heap_alloc_new _ _)
    clear hb1
    have c0 : w1.cell? ⟨w.heap.size + 1, 0, none⟩ = some (.string k) := Lib.cell_of_heap hn1 0
    go_wp2_with fail
    go_region_held3 (fun W => W.cell? ⟨w.heap.size + 1, 0, none⟩ = some (.string k))
      (first | exact c0 | exact Lib.cell_of_heap hnA 0 | exact Lib.cell_of_heap hn2 0)
      (first | (go_at_call 83; refine (kept_any _).mono ?_; rintro e wA ⟨rfl, hbA'⟩; have hbA : Below w1.heap.size w1 wA := (Below.refl w1.heap.size w1).drew.trans hbA'; have hnA := below_cells hbA hn1) | (go_at_call 82; refine (HA.out _ (hp1.1.below hbA)).mono ?_; rintro e w2 ⟨rfl, hpA⟩; have hn2 := hpA.cells hnA (by omega) (by decide); have hf2 := hpA.cells (below_cells hbA hf1) (by omega) (by decide)))
    have hp2 := (hp1.below hbA).trans hpA
    clear hpA hbA' hbA hnA hp1 hn1 hf1 c0
    have c1 : w2.cell? ⟨w.heap.size + 1, 1, none⟩ = some (.string v) := Lib.cell_of_heap hn2 1
    go_wp2_with fail
    go_region_held3 (fun W => W.cell? ⟨w.heap.size + 1, 1, none⟩ = some (.string v))
      (first | exact c1 | exact Lib.cell_of_heap hnB 1 | exact Lib.cell_of_heap hn3 1)
      (first | (go_at_call 83; refine (kept_any _).mono ?_; rintro e wB ⟨rfl, hbB'⟩; have hbB : Below w2.heap.size w2 wB := (Below.refl w2.heap.size w2).drew.trans hbB'; have hnB := below_cells hbB hn2) | (go_at_call 82; refine (HB.out _ (hp2.1.below hbB)).mono ?_; rintro e w3 ⟨rfl, hpB⟩; have hn3 := hpB.cells hnB (by omega) (by decide); have hf3 := hpB.cells (below_cells hbB hf2) (by omega) (by decide)))
    have hp3 := (hp2.below hbB).trans hpB
    clear hpB hbB' hbB hnB hp2 hn2 hf2 c1
    go_wp2_with (first | (go_at_call 84; refine (HC.out _ hp3.1).mono ?_; rintro e w4 ⟨rfl, hpC⟩))
    have hn4 := hpC.cells hn3 (by omega) (by decide)
    have hf4 := hpC.cells hf3 (by omega) (by decide)
    have hp4 := hp3.trans hpC
    clear hpC hp3 hn3 hf3
    have c2 : w4.cell? ⟨w.heap.size + 1, 2, none⟩ = some (.string l) := Lib.cell_of_heap hn4 2
    have d2 : w4.cell? ⟨w.heap.size, 0, none⟩ = some (.int .i64 n) := Lib.cell_of_heap hf4 0
    go_region_held3 (fun W => W.cell? ⟨w.heap.size + 1, 2, none⟩ = some (.string l) ∧ W.cell? ⟨w.heap.size, 0, none⟩ = some (.int .i64 n))
      (first | exact ⟨c2, d2⟩ | exact ⟨Lib.cell_of_heap hnD 2, Lib.cell_of_heap hfD 0⟩ | exact ⟨Lib.cell_of_heap hn5 2, Lib.cell_of_heap hf5 0⟩)
      (first | (go_at_call 78; refine (HL.out _ _).mono ?_; rintro e wD ⟨p, rfl, hbD'⟩; have hbD : Below w4.heap.size w4 wD := (Below.refl w4.heap.size w4).drew.trans hbD'; have hnD := below_cells hbD hn4; have hfD := below_cells hbD hf4) | (go_at_call 82; refine (HD.out _ _ (hp4.1.below hbD)).mono ?_; rintro e w5 ⟨rfl, hpD⟩; have hn5 := hpD.cells hnD (by omega) (by decide); have hf5 := hpD.cells hfD (by omega) (by decide)))
    have hp5 := (hp4.below hbD).trans hpD
    clear hpD hbD' hbD hnD hp4 hn4 hf4 c2 d2 hfD
    have c3 : w5.cell? ⟨w.heap.size + 1, 3, none⟩ = some (.string r) := Lib.cell_of_heap hn5 3
    have d3 : w5.cell? ⟨w.heap.size, 0, none⟩ = some (.int .i64 n) := Lib.cell_of_heap hf5 0
    go_wp2_with fail
    go_region_held3 (fun W => W.cell? ⟨w.heap.size + 1, 3, none⟩ = some (.string r) ∧ W.cell? ⟨w.heap.size, 0, none⟩ = some (.int .i64 n))
      (first | exact ⟨c3, d3⟩ | exact ⟨Lib.cell_of_heap hnE 3, Lib.cell_of_heap hfE 0⟩ | exact ⟨Lib.cell_of_heap hn6 3, Lib.cell_of_heap hf6 0⟩)
      (first | (go_at_call 78; refine (HL.out _ _).mono ?_; rintro e wE ⟨p2, rfl, hbE'⟩; have hbE : Below w5.heap.size w5 wE := (Below.refl w5.heap.size w5).drew.trans hbE'; have hnE := below_cells hbE hn5; have hfE := below_cells hbE hf5) | (go_at_call 82; refine (HE.out _ _ (hp5.1.below hbE)).mono ?_; rintro e w6 ⟨rfl, hpE⟩; have hn6 := hpE.cells hnE (by omega) (by decide); have hf6 := hpE.cells hfE (by omega) (by decide)))
    go_wp2
    go_end0
    exact ⟨rfl, (hp5.below hbE).trans hpE⟩
end Go.Proofs.YtngnbflkiiehmaaGreatDoor
namespace Go.Proofs.YtngnbflkiiehmaaGreatDoor
open Go.RowKit Go.Proofs.Sha

theorem vlink_any (l : ByteArray) (n : Int) (w : World) (_hl : l.size ≤ 1048576) :
    Calls Tryz.prog 41 #[.string l, .int .i64 n] w fun e w' => e = .returned (.bool (hashOk l.size n)) ∧ w = w' := by
  have e1 := empty_iff l
  by_cases h1 : l.size = 0
  · have e2 : l.toList.isEmpty = true := by rw [e1, h1]; rfl
    have HR : Hid (hashOk l.size n = true) := by show _ = _; unfold hashOk; rw [h1]; rfl
    clear e1 h1
    go_enter Tryz.func41, Tryz.ntmps41
    go_wp2
    go_ret
    rw [HR.out]
    exact ⟨rfl, rfl⟩
  · have e2 : l.toList.isEmpty = false := by rw [e1]; simp [h1]
    by_cases h2 : (l.size : Int) = n
    · have HR : Hid (hashOk l.size n = true) := by show _ = _; unfold hashOk; simp [h2]
      have z : ((l.size : Int) == n) = true := by simp [h2]
      clear e1 h1 h2
      go_enter Tryz.func41, Tryz.ntmps41
      go_wp2
      go_ret
      rw [HR.out]
      exact ⟨rfl, rfl⟩
    · have HR : Hid (hashOk l.size n = false) := by show _ = _; unfold hashOk; simp [h1, h2]
      have z : ((l.size : Int) == n) = false := by simp [h2]
      clear e1 h1 h2
      go_enter Tryz.func41, Tryz.ntmps41
      go_wp2
      go_ret
      rw [HR.out]
      exact ⟨rfl, rfl⟩

set_option maxRecDepth 100000 in
theorem valid_any (k v l r : ByteArray) (n : Int) (w : World) (_hk : k.size ≤ 1048576) (_hv : v.size ≤ 1048576) (hl : l.size ≤ 1048576) (hr : r.size ≤ 1048576) :
    Calls Tryz.prog 21 #[.agg #[.string k, .string v, .string l, .string r], .int .i64 n] w fun e w' => e = .returned (.bool (nodeOk k.size v.size l.size r.size n)) ∧ Below w.heap.size w w' := by
  obtain ⟨x, hx⟩ : ∃ x, hashOk l.size n = x := ⟨_, rfl⟩
  obtain ⟨y, hy⟩ : ∃ y, hashOk r.size n = y := ⟨_, rfl⟩
  have HX : Hid (∀ w', Calls Tryz.prog 41 #[.string l, .int .i64 n] w' fun e w'' => e = .returned (.bool x) ∧ w' = w'') := fun w' => by rw [← hx]; exact vlink_any l n w' hl
  have HY : Hid (∀ w', Calls Tryz.prog 41 #[.string r, .int .i64 n] w' fun e w'' => e = .returned (.bool y) ∧ w' = w'') := fun w' => by rw [← hy]; exact vlink_any r n w' hr
  have HR : Hid (nodeOk k.size v.size l.size r.size n = (decide (1 ≤ n ∧ n ≤ 32 ∧ 1 ≤ k.size ∧ k.size ≤ 256 ∧ v.size ≤ 2000) && (x && y))) := by show _ = _; unfold nodeOk; rw [hx, hy]
  clear hx hy
  obtain ⟨z, hz⟩ : ∃ z, nodeOk k.size v.size l.size r.size n = z := ⟨_, rfl⟩
  rw [hz] at HR ⊢
  clear hz
  have hfin : Below w.heap.size w (w.alloc (.cells #[.string k, .string v, .string l, .string r] 24)) := (Below.refl _ _).alloc (Nat.le_refl _) _
  go_enter Tryz.func21, Tryz.ntmps21
  go_wp2_with (first | (go_at_call_of 41 (Value.string l); refine (HX.out _).mono ?_; rintro e w3 ⟨rfl, rfl⟩) | (go_at_call_of 41 (Value.string r); refine (HY.out _).mono ?_; rintro e w4 ⟨rfl, rfl⟩) | go_in)
  all_goals go_ret
  all_goals refine ⟨?_, hfin⟩
  all_goals rw [HR.out]
  all_goals clear HX HY HR
  all_goals first
    | (have e : ¬ (1 ≤ n ∧ n ≤ 32 ∧ 1 ≤ k.size ∧ k.size ≤ 256 ∧ v.size ≤ 2000) := (by omega); rw [decide_eq_false e]; rfl)
    | (have e : 1 ≤ n ∧ n ≤ 32 ∧ 1 ≤ k.size ∧ k.size ≤ 256 ∧ v.size ≤ 2000 := (by omega); rw [decide_eq_true e]; cases x <;> simp_all)

theorem wR42 (n : Int) (k v l r : ByteArray) (b : Nat) (q m : List UInt8) (w : World) (h : Bld b q w)
    (HC : Hid (∀ w', Bld b q w' → Calls Tryz.prog 79 #[.agg #[.int .i64 n], .pointer (some ⟨b, 0, none⟩), .agg #[.string k, .string v, .string l, .string r]] w' fun e w'' => e = .returned (.tuple #[]) ∧ Put b m w' w'')) :
    Calls Tryz.prog 42 #[.pointer (some ⟨b, 0, none⟩), .iface 49 (.agg #[.int .i64 n]), .agg #[.string k, .string v, .string l, .string r]] w fun e w' => e = .returned (.tuple #[]) ∧ Put b m w w' := by
  have hmt : ∀ w : World, (method 292 49 (.agg #[.int .i64 n]) "loop.example/s03048/impl.put").run Tryz.prog w = .ok (79, .agg #[.int .i64 n]) w := fun _ => by kernel_rfl
  go_enter Tryz.func42, Tryz.ntmps42
  go_wp2_with (first | (go_at_call 79; refine (HC.out _ (h.alloc _)).mono ?_; rintro e w2 ⟨rfl, hp2⟩))
  go_end0
  exact ⟨rfl, ((Put.refl h).alloc _).trans hp2⟩

set_option maxRecDepth 100000 in
theorem written_N (n : Int) (k v l r : ByteArray) (m : List UInt8) (w : World)
    (HC : Hid (∀ b w', Bld b [] w' → Calls Tryz.prog 42 #[.pointer (some ⟨b, 0, none⟩), .iface 49 (.agg #[.int .i64 n]), .agg #[.string k, .string v, .string l, .string r]] w' fun e w'' => e = .returned (.tuple #[]) ∧ Put b m w' w'')) :
    Calls Tryz.prog 22 #[.iface 49 (.agg #[.int .i64 n]), .agg #[.string k, .string v, .string l, .string r]] w fun e w' => ∃ t : ByteArray, e = .returned (.string t) ∧ Hid (t.data.toList = m) ∧ Below w.heap.size w w' := by
  go_enter Tryz.func22, Tryz.ntmps22
  go_wp2_with (first | (go_at_call 42; refine (HC.out (w.heap.size + 1) _ (fresh_bld1 w _)).mono ?_; rintro e w2 ⟨rfl, hp2⟩) | (go_at_call 43; refine (bstring _ _ _ hp2.1).mono ?_; rintro e w3 ⟨rfl, hb3⟩))
  go_ret
  exact ⟨_, rfl, rfl, ((((Below.refl _ _).alloc (Nat.le_refl _) _).alloc (by simp) _).trans (hp2.2.1.mono (by omega))).trans (hb3.mono (by omega))⟩

theorem of_list {t : ByteArray} {l : List UInt8} (h : t.data.toList = l) : t = T l := by rw [← h, T_of]

set_option maxRecDepth 100000 in
set_option maxHeartbeats 1000000 in
theorem enc_impl (k v l r : ByteArray) (n : Int) (w : World) (hk : k.size ≤ 1048576) (hv : v.size ≤ 1048576) (hl : l.size ≤ 1048576) (hr : r.size ≤ 1048576) :
    Calls Tryz.prog 6 #[.agg #[.string k, .string v, .string l, .string r], .int .i64 n] w fun e w' => ∃ t, e = .returned (.string t) ∧ Hid (t = encS k v l r n) ∧ Below w.heap.size w w' := by
  obtain ⟨z, hz⟩ : ∃ z, nodeOk k.size v.size l.size r.size n = z := ⟨_, rfl⟩
  have HV : Hid (∀ w', Calls Tryz.prog 21 #[.agg #[.string k, .string v, .string l, .string r], .int .i64 n] w' fun e w'' => e = .returned (.bool z) ∧ Below w'.heap.size w' w'') := fun w' => by rw [← hz]; exact valid_any k v l r n w' hk hv hl hr
  cases z
  · have HR : Hid (encS k v l r n = ⟨#[]⟩) := by show _ = _; unfold encS; rw [if_neg (by rw [hz]; decide)]
    clear hz
    go_enter Tryz.func6, Tryz.ntmps6
    go_wp2_with (first | (go_at_call 21; refine (HV.out _).mono ?_; rintro e w1 ⟨rfl, hb1⟩))
    go_ret
    exact ⟨_, rfl, HR.out.symm, ((Below.refl _ w).alloc (Nat.le_refl _) _).trans (hb1.mono (by simp))⟩
  · have HR : Hid (encS k v l r n = T (encL k.data.toList v.data.toList l.data.toList r.data.toList)) := by show _ = _; unfold encS; rw [if_pos hz]
    have hsz : k.size ≤ 256 ∧ v.size ≤ 2000 ∧ l.size ≤ 32 ∧ r.size ≤ 32 := by
      unfold nodeOk hashOk at hz
      simp only [Bool.and_eq_true, Bool.or_eq_true, decide_eq_true_eq] at hz
      omega
    obtain ⟨m, hm⟩ : ∃ m, encL k.data.toList v.data.toList l.data.toList r.data.toList = m := ⟨_, rfl⟩
    have HC : Hid (∀ w', Calls Tryz.prog 22 #[.iface 49 (.agg #[.int .i64 n]), .agg #[.string k, .string v, .string l, .string r]] w' fun e w'' => ∃ t : ByteArray, e = .returned (.string t) ∧ Hid (t.data.toList = m) ∧ Below w'.heap.size w' w'') := by
      intro w'
      refine written_N n k v l r m w' ?_
      intro b' w'' h''
      refine wR42 n k v l r b' [] m w'' h'' ?_
      intro w3 h3
      have hf : (flagOf l.size r.size : Int) = 0 ∨ (flagOf l.size r.size : Int) = 1 ∨ (flagOf l.size r.size : Int) = 2 ∨ (flagOf l.size r.size : Int) = 3 := by
        unfold flagOf; split <;> split <;> simp
      have := node_put_f (flagOf l.size r.size) _ rfl hf b' n k v l r [] w3 h3 (by simp) hsz.1 hsz.2.1 hsz.2.2.1 hsz.2.2.2 (fun w' => flags_any k v l r w')
      rw [List.nil_append] at this
      rw [← hm]
      exact this
    rw [hm] at HR
    clear hz hm hsz
    go_enter Tryz.func6, Tryz.ntmps6
    go_wp2_with (first | (go_at_call 21; refine (HV.out _).mono ?_; rintro e w1 ⟨rfl, hb1⟩; have hn1 := below_cells hb1 (heap_alloc_new w (.cells #[.string k, .string v, .string l, .string r] 24)); have c0 := Lib.cell_of_heap hn1 0; have c1 := Lib.cell_of_heap hn1 1; have c2 := Lib.cell_of_heap hn1 2; have c3 := Lib.cell_of_heap hn1 3) | (go_at_call 22; refine (HC.out _).mono ?_; rintro e w2 ⟨t, rfl, HT, hb2⟩))
    go_ret
    exact ⟨t, rfl, (of_list HT.out).trans HR.out.symm, (((Below.refl _ w).alloc (Nat.le_refl _) _).trans (hb1.mono (by simp))).trans (hb2.mono (by have := hb1.size; simp at this; omega))⟩
end Go.Proofs.YtngnbflkiiehmaaGreatDoor
