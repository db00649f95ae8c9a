import Derived.WalkKit
import Derived.Laws.BitsAllLaws
import Derived.Deep.AppendLies
import Derived.Laws.BytesArg
namespace Go.Proofs.Sha
open Go Go.RowKit

theorem u_add (x y : UInt32) : ((x.toNat : Int) + y.toNat) % 4294967296 = ((x + y).toNat : Int) := by
  have := UInt32.toNat_add x y
  omega
theorem u_xor (x y : UInt32) : bits .xor .u32 (x.toNat : Int) (y.toNat : Int) = ((x ^^^ y).toNat : Int) := by
  rw [u32_xor_nat _ _ x.toNat_lt y.toNat_lt, UInt32.toNat_xor]
theorem u_and (x y : UInt32) : bits .and .u32 (x.toNat : Int) (y.toNat : Int) = ((x &&& y).toNat : Int) := by
  rw [u32_and_nat _ _ x.toNat_lt y.toNat_lt, UInt32.toNat_and]
theorem u_or (x y : UInt32) : bits .or .u32 (x.toNat : Int) (y.toNat : Int) = ((x ||| y).toNat : Int) := by
  rw [u32_or_nat _ _ x.toNat_lt y.toNat_lt, UInt32.toNat_or]

/-- x turned to the right by n places. -/
def turn (x : UInt32) (n : Nat) : UInt32 := UInt32.ofNat (x.toNat / 2 ^ n) ||| UInt32.ofNat (x.toNat * 2 ^ (32 - n))

theorem ofNat_toNat_div (x : UInt32) (n : Nat) : (UInt32.ofNat (x.toNat / 2 ^ n)).toNat = x.toNat / 2 ^ n := by
  rw [UInt32.toNat_ofNat']
  have h1 := x.toNat_lt
  have h2 : x.toNat / 2 ^ n ≤ x.toNat := Nat.div_le_self _ _
  exact Nat.mod_eq_of_lt (by omega)

theorem turn_spec (x : UInt32) (n : Nat) : bits .or .u32 ((x.toNat : Int) / 2 ^ n) ((x.toNat : Int) * 2 ^ (32 - n) % 4294967296) = ((turn x n).toNat : Int) := by
  have e1 : (x.toNat : Int) / 2 ^ n = ((UInt32.ofNat (x.toNat / 2 ^ n)).toNat : Int) := by
    rw [ofNat_toNat_div]; simp
  have e2 : (x.toNat : Int) * 2 ^ (32 - n) % 4294967296 = ((UInt32.ofNat (x.toNat * 2 ^ (32 - n))).toNat : Int) := by
    rw [UInt32.toNat_ofNat']
    rw [Int.natCast_emod, Int.natCast_mul, Int.natCast_pow]; rfl
  rw [e1, e2, u_or]; rfl

theorem turn_impl (x : UInt32) (n : Nat) : bits .or .u32 ((x.toNat : Int) * 2 ^ (32 - n) % 4294967296) ((x.toNat : Int) / 2 ^ n) = ((turn x n).toNat : Int) := by
  have e1 : (x.toNat : Int) / 2 ^ n = ((UInt32.ofNat (x.toNat / 2 ^ n)).toNat : Int) := by
    rw [ofNat_toNat_div]; simp
  have e2 : (x.toNat : Int) * 2 ^ (32 - n) % 4294967296 = ((UInt32.ofNat (x.toNat * 2 ^ (32 - n))).toNat : Int) := by
    rw [UInt32.toNat_ofNat']
    rw [Int.natCast_emod, Int.natCast_mul, Int.natCast_pow]; rfl
  rw [e1, e2, u_or]; unfold turn; rw [UInt32.or_comm]
end Go.Proofs.Sha
namespace Go.Proofs.Sha
open Go Go.RowKit

def U (x : UInt32) : Value := .int .u32 (x.toNat : Int)
def B (x : UInt8) : Value := .int .u8 (x.toNat : Int)

def ch (e f g : UInt32) : UInt32 := (e &&& f) ^^^ (~~~e &&& g)
def maj (a b c : UInt32) : UInt32 := (a &&& b) ^^^ (a &&& c) ^^^ (b &&& c)
def sumE (e : UInt32) : UInt32 := turn e 6 ^^^ turn e 11 ^^^ turn e 25
def sumA (a : UInt32) : UInt32 := turn a 2 ^^^ turn a 13 ^^^ turn a 22
def sumFar (x : UInt32) : UInt32 := turn x 7 ^^^ turn x 18 ^^^ (x >>> 3)
def sumNear (x : UInt32) : UInt32 := turn x 17 ^^^ turn x 19 ^^^ (x >>> 10)

/-- Four bytes as a word. -/
def word (a b c d : UInt8) : UInt32 := ((UInt32.ofNat (a.toNat * 16777216) ||| UInt32.ofNat (b.toNat * 65536)) ||| UInt32.ofNat (c.toNat * 256)) ||| UInt32.ofNat d.toNat

/-- The words of the schedule, one after the other. -/
def sched (m : List UInt8) : Nat → List UInt32
  | 0 => []
  | i + 1 => sched m i ++ [if i < 16 then word (m.getD (4 * i) 0) (m.getD (4 * i + 1) 0) (m.getD (4 * i + 2) 0) (m.getD (4 * i + 3) 0)
      else (sched m i).getD (i - 16) 0 + sumFar ((sched m i).getD (i - 15) 0) + (sched m i).getD (i - 7) 0 + sumNear ((sched m i).getD (i - 2) 0)]

theorem sched_length (m : List UInt8) (i : Nat) : (sched m i).length = i := by
  induction i with
  | zero => rfl
  | succ i ih => simp [sched, ih]

theorem wrap_i64_in (n : Int) (h0 : -9223372036854775808 ≤ n) (h1 : n ≤ 9223372036854775807) : IntKind.i64.wrap n = n := by
  simp [IntKind.wrap, IntKind.bits, IntKind.signed]; omega

theorem wrap_u32_nat (n : Nat) : IntKind.u32.wrap (n : Int) = ((UInt32.ofNat n).toNat : Int) := by
  rw [IntKind.wrap_u32', UInt32.toNat_ofNat']; omega

theorem word_form (a b c d : UInt8) :
    bits BinOp.or IntKind.u32 (bits BinOp.or IntKind.u32 (bits BinOp.or IntKind.u32 (IntKind.u32.wrap (IntKind.u32.wrap (a.toNat : Int) * 16777216)) (IntKind.u32.wrap (IntKind.u32.wrap (b.toNat : Int) * 65536)))
      (IntKind.u32.wrap (IntKind.u32.wrap (c.toNat : Int) * 256))) (IntKind.u32.wrap (d.toNat : Int)) = ((word a b c d).toNat : Int) := by
  have e : ∀ x : UInt8, IntKind.u32.wrap (x.toNat : Int) = (x.toNat : Int) := fun x => by
    have := x.toNat_lt; rw [IntKind.wrap_u32']; omega
  have e1 : ((a.toNat : Int) * 16777216) = ((a.toNat * 16777216 : Nat) : Int) := by omega
  have e2 : ((b.toNat : Int) * 65536) = ((b.toNat * 65536 : Nat) : Int) := by omega
  have e3 : ((c.toNat : Int) * 256) = ((c.toNat * 256 : Nat) : Int) := by omega
  have e4 : IntKind.u32.wrap (d.toNat : Int) = ((UInt32.ofNat d.toNat).toNat : Int) := wrap_u32_nat _
  rw [e a, e b, e c, e1, e2, e3, wrap_u32_nat, wrap_u32_nat, wrap_u32_nat, e4, u_or, u_or, u_or]; rfl

theorem getD_drop (m : List UInt8) (fr i : Nat) : (m.drop fr).getD i 0 = m.getD (fr + i) 0 := by
  simp [List.getD_eq_getElem?_getD, List.getElem?_drop]

/-- The first sixteen words, as the walk leaves them. -/
theorem sched_lo (m : List UInt8) (fr k p : Nat) (b0 b1 b2 b3 : UInt8) (hk : k < 16) (hp : p = fr + 4 * k)
    (hb : m.getD p 0 = b0 ∧ m.getD (p + 1) 0 = b1 ∧ m.getD (p + 2) 0 = b2 ∧ m.getD (p + 3) 0 = b3) :
    (sched (m.drop fr) (k + 1)).map U = (sched (m.drop fr) k).map U ++ [.int .u32 (bits BinOp.or IntKind.u32 (bits BinOp.or IntKind.u32 (bits BinOp.or IntKind.u32 (IntKind.u32.wrap (IntKind.u32.wrap (b0.toNat : Int) * 16777216)) (IntKind.u32.wrap (IntKind.u32.wrap (b1.toNat : Int) * 65536)))
      (IntKind.u32.wrap (IntKind.u32.wrap (b2.toNat : Int) * 256))) (IntKind.u32.wrap (b3.toNat : Int)))] := by
  obtain ⟨h0, h1, h2, h3⟩ := hb
  rw [word_form, sched, if_pos hk, List.map_append, getD_drop, getD_drop, getD_drop, getD_drop]
  subst hp
  rw [← Nat.add_assoc, ← Nat.add_assoc, ← Nat.add_assoc, h0, h1, h2, h3]; rfl

theorem ret_int {k : IntKind} {a b : Int} (h : a = b) : Ending.returned (.int k a) = .returned (.int k b) := by rw [h]

/-- A word of a row that is owned. -/
theorem own_u {w : World} {base e g n cap : Nat} {L : List UInt32} (h : w.ownsRow base e 1 (.slice (some ⟨g, 0, none⟩) n cap) n (L.map U)) (hL : L.length = n) (j : Nat) (hj : j < n) :
    w.cell? ⟨g, j, none⟩ = some (.int .u32 ((L.getD j 0).toNat : Int)) := by
  rw [h.cellAt j (by omega), List.getElem?_map, List.getD_eq_getElem?_getD, List.getElem?_eq_getElem (by omega)]; rfl

theorem u_shr8 (x : UInt32) : (x.toNat : Int) / (8 : Int) = ((x >>> 3).toNat : Int) := by
  rw [UInt32.toNat_shiftRight]
  show _ = ((x.toNat >>> 3 : Nat) : Int)
  rw [Nat.shiftRight_eq_div_pow]; omega
theorem u_shr1024 (x : UInt32) : (x.toNat : Int) / (1024 : Int) = ((x >>> 10).toNat : Int) := by
  rw [UInt32.toNat_shiftRight]
  show _ = ((x.toNat >>> 10 : Nat) : Int)
  rw [Nat.shiftRight_eq_div_pow]; omega

theorem far_form (x : UInt32) : bits BinOp.xor IntKind.u32 (bits BinOp.xor IntKind.u32 ((turn x 7).toNat : Int) ((turn x 18).toNat : Int)) ((x.toNat : Int) / (8 : Int)) = ((sumFar x).toNat : Int) := by
  rw [u_shr8, u_xor, u_xor]; rfl
theorem near_form (x : UInt32) : bits BinOp.xor IntKind.u32 (bits BinOp.xor IntKind.u32 ((turn x 17).toNat : Int) ((turn x 19).toNat : Int)) ((x.toNat : Int) / (1024 : Int)) = ((sumNear x).toNat : Int) := by
  rw [u_shr1024, u_xor, u_xor]; rfl

theorem wrap_add (x y : UInt32) : IntKind.u32.wrap ((x.toNat : Int) + y.toNat) = ((x + y).toNat : Int) := by rw [IntKind.wrap_u32']; exact u_add x y

/-- The later words, as the walk leaves them. -/
theorem sched_hi (m : List UInt8) (k : Nat) (x16 x15 x7 x2 : UInt32) (hk : 16 ≤ k)
    (hb : (sched m k).getD (k - 16) 0 = x16 ∧ (sched m k).getD (k - 15) 0 = x15 ∧ (sched m k).getD (k - 7) 0 = x7 ∧ (sched m k).getD (k - 2) 0 = x2) :
    (sched m (k + 1)).map U = (sched m k).map U ++ [.int .u32 (IntKind.u32.wrap (IntKind.u32.wrap (IntKind.u32.wrap ((x16.toNat : Int) + (sumFar x15).toNat) + x7.toNat) + (sumNear x2).toNat))] := by
  obtain ⟨h0, h1, h2, h3⟩ := hb
  rw [wrap_add, wrap_add, wrap_add, sched, if_neg (by omega), List.map_append, h0, h1, h2, h3]; rfl

/-- The length of a slice, for a loop's measure. -/
def lenOf : Value → Nat | .slice _ n _ => n | _ => 0

/-- How many zeros stand behind the bit. -/
def zpad (n : Nat) : Nat := (119 - n % 64) % 64
def lenByte (N i : Nat) : UInt8 := UInt8.ofNat (N / 2 ^ (8 * i))
def beTo (N k : Nat) : List UInt8 := (List.range k).map fun q => lenByte N (7 - q)
def pad (l : List UInt8) : List UInt8 := l ++ [128] ++ List.replicate (zpad l.length) 0 ++ beTo (8 * l.length) 8

theorem zpad_ne (n j : Nat) (h : j < zpad n) : (n + 1 + j) % 64 ≠ 56 := by unfold zpad at h; omega
theorem zpad_eq (n : Nat) : (n + 1 + zpad n) % 64 = 56 := by unfold zpad; omega
theorem zpad_lt (n : Nat) : zpad n < 64 := by unfold zpad; omega
theorem beTo_succ (N k : Nat) : beTo N (k + 1) = beTo N k ++ [lenByte N (7 - k)] := by simp [beTo, List.range_succ]
theorem beTo_length (N k : Nat) : (beTo N k).length = k := by simp [beTo]
theorem pad_length (l : List UInt8) : (pad l).length = l.length + 9 + zpad l.length := by simp [pad, beTo_length]; omega

theorem lenByte_form (n i : Nat) : ((n : Int) * 8 / 2 ^ (8 * i) % 256) = ((lenByte (8 * n) i).toNat : Int) := by
  unfold lenByte
  rw [UInt8.toNat_ofNat', Nat.mul_comm 8 n]
  have e : ((n * 8 / 2 ^ (8 * i) % 2 ^ 8 : Nat) : Int) = ((n : Int) * 8 / 2 ^ (8 * i) % 256) := by
    rw [Int.natCast_emod, Int.natCast_ediv, Int.natCast_mul, Int.natCast_pow]; rfl
  exact e.symm

/-- The 64 constants, and the eight words of the start. -/
def kTab : List UInt32 := [1116352408, 1899447441, 3049323471, 3921009573, 961987163, 1508970993, 2453635748, 2870763221, 3624381080, 310598401, 607225278, 1426881987, 1925078388, 2162078206, 2614888103, 3248222580, 3835390401, 4022224774, 264347078, 604807628, 770255983, 1249150122, 1555081692, 1996064986, 2554220882, 2821834349, 2952996808, 3210313671, 3336571891, 3584528711, 113926993, 338241895, 666307205, 773529912, 1294757372, 1396182291, 1695183700, 1986661051, 2177026350, 2456956037, 2730485921, 2820302411, 3259730800, 3345764771, 3516065817, 3600352804, 4094571909, 275423344, 430227734, 506948616, 659060556, 883997877, 958139571, 1322822218, 1537002063, 1747873779, 1955562222, 2024104815, 2227730452, 2361852424, 2428436474, 2756734187, 3204031479, 3329325298]
def hTab : List UInt32 := [1779033703, 3144134277, 1013904242, 2773480762, 1359893119, 2600822924, 528734635, 1541459225]

structure St where
  a : UInt32
  b : UInt32
  c : UInt32
  d : UInt32
  e : UInt32
  f : UInt32
  g : UInt32
  z : UInt32

def first (k w : UInt32) (s : St) : UInt32 := s.z + sumE s.e + ch s.e s.f s.g + k + w
def rnd (k w : UInt32) (s : St) : St :=
  ⟨first k w s + (sumA s.a + maj s.a s.b s.c), s.a, s.b, s.c, s.d + first k w s, s.e, s.f, s.g⟩
def rnds (W : List UInt32) (s : St) : Nat → St
  | 0 => s
  | i + 1 => rnd (kTab.getD i 0) (W.getD i 0) (rnds W s i)
def ofL (h : List UInt32) : St := ⟨h.getD 0 0, h.getD 1 0, h.getD 2 0, h.getD 3 0, h.getD 4 0, h.getD 5 0, h.getD 6 0, h.getD 7 0⟩
/-- What a block makes of the state. -/
def comp (h : List UInt32) (m : List UInt8) : List UInt32 :=
  [h.getD 0 0 + (rnds (sched m 64) (ofL h) 64).a, h.getD 1 0 + (rnds (sched m 64) (ofL h) 64).b, h.getD 2 0 + (rnds (sched m 64) (ofL h) 64).c, h.getD 3 0 + (rnds (sched m 64) (ofL h) 64).d,
   h.getD 4 0 + (rnds (sched m 64) (ofL h) 64).e, h.getD 5 0 + (rnds (sched m 64) (ofL h) 64).f, h.getD 6 0 + (rnds (sched m 64) (ofL h) 64).g, h.getD 7 0 + (rnds (sched m 64) (ofL h) 64).z]

theorem u_not (x : UInt32) : bits BinOp.xor IntKind.u32 (if IntKind.u32.signed = true then -1 else IntKind.u32.max) (x.toNat : Int) = ((~~~x).toNat : Int) := by
  have e : (if IntKind.u32.signed = true then -1 else IntKind.u32.max : Int) = (((4294967295 : UInt32).toNat : Nat) : Int) := by decide
  rw [e, u_xor]
  have h : (4294967295 : UInt32) ^^^ x = ~~~x := by
    apply UInt32.toBitVec_inj.1
    rw [UInt32.toBitVec_xor, UInt32.toBitVec_not]
    exact BitVec.allOnes_xor
  rw [h]

theorem sumE_form (x : UInt32) : bits BinOp.xor IntKind.u32 (bits BinOp.xor IntKind.u32 ((turn x 6).toNat : Int) ((turn x 11).toNat : Int)) ((turn x 25).toNat : Int) = ((sumE x).toNat : Int) := by
  rw [u_xor, u_xor]; rfl
theorem sumA_form (x : UInt32) : bits BinOp.xor IntKind.u32 (bits BinOp.xor IntKind.u32 ((turn x 2).toNat : Int) ((turn x 13).toNat : Int)) ((turn x 22).toNat : Int) = ((sumA x).toNat : Int) := by
  rw [u_xor, u_xor]; rfl
theorem ch_form (e f g : UInt32) : bits BinOp.xor IntKind.u32 (bits BinOp.and IntKind.u32 (e.toNat : Int) (f.toNat : Int)) (bits BinOp.and IntKind.u32 (bits BinOp.xor IntKind.u32 (if IntKind.u32.signed = true then -1 else IntKind.u32.max) (e.toNat : Int)) (g.toNat : Int)) = ((ch e f g).toNat : Int) := by
  rw [u_not, u_and, u_and, u_xor]; rfl
theorem maj_form (a b c : UInt32) : bits BinOp.xor IntKind.u32 (bits BinOp.xor IntKind.u32 (bits BinOp.and IntKind.u32 (a.toNat : Int) (b.toNat : Int)) (bits BinOp.and IntKind.u32 (a.toNat : Int) (c.toNat : Int))) (bits BinOp.and IntKind.u32 (b.toNat : Int) (c.toNat : Int)) = ((maj a b c).toNat : Int) := by
  rw [u_and, u_and, u_and, u_xor, u_xor]; rfl
theorem rnds_succ (W : List UInt32) (s : St) (k : Nat) (kk ww : UInt32) (r : St) (h : rnds W s k = r) (hk : kTab.getD k 0 = kk ∧ W.getD k 0 = ww) : rnds W s (k + 1) = rnd kk ww r := by
  rw [rnds, h, hk.1, hk.2]
theorem int_eq {k : IntKind} {a b : Int} (h : a = b) : Value.int k a = Value.int k b := by rw [h]

theorem comp_form (h : List UInt32) (m : List UInt8) (W : List UInt32) (x0 x1 x2 x3 x4 x5 x6 x7 va vb vc vd ve vf vg vz : UInt32)
    (he : h.getD 0 0 = x0 ∧ h.getD 1 0 = x1 ∧ h.getD 2 0 = x2 ∧ h.getD 3 0 = x3 ∧ h.getD 4 0 = x4 ∧ h.getD 5 0 = x5 ∧ h.getD 6 0 = x6 ∧ h.getD 7 0 = x7)
    (hw : sched m 64 = W) (hr : rnds W ⟨x0, x1, x2, x3, x4, x5, x6, x7⟩ 64 = ⟨va, vb, vc, vd, ve, vf, vg, vz⟩) :
    (comp h m).map U = [.int .u32 (IntKind.u32.wrap ((x0.toNat : Int) + va.toNat)), .int .u32 (IntKind.u32.wrap ((x1.toNat : Int) + vb.toNat)), .int .u32 (IntKind.u32.wrap ((x2.toNat : Int) + vc.toNat)), .int .u32 (IntKind.u32.wrap ((x3.toNat : Int) + vd.toNat)), .int .u32 (IntKind.u32.wrap ((x4.toNat : Int) + ve.toNat)), .int .u32 (IntKind.u32.wrap ((x5.toNat : Int) + vf.toNat)), .int .u32 (IntKind.u32.wrap ((x6.toNat : Int) + vg.toNat)), .int .u32 (IntKind.u32.wrap ((x7.toNat : Int) + vz.toNat))] := by
  obtain ⟨e0, e1, e2, e3, e4, e5, e6, e7⟩ := he
  unfold comp ofL
  rw [hw, e0, e1, e2, e3, e4, e5, e6, e7, hr]
  simp only [wrap_add]
  rfl
theorem comp_length (h : List UInt32) (m : List UInt8) : (comp h m).length = 8 := rfl

end Go.Proofs.Sha
namespace Go.Proofs.Sha
open Go Go.RowKit

section
variable {P : Program} (w : World)

theorem run_append_keep (t ty : TypeId) (base : Nat) (e : TypeId) (i : TypeInfo) (z : Value) (size bytes : Nat) (ht : P.underlying t = some (.slice e)) (hi : P.info? e = some i) (hz : i.zero = some z)
    (hsize : i.size = size) (hby : i.bytes = bytes) (hzs : z.cells.size = size) (hsz : 0 < size)
    (g n cap : Nat) (xs : List Value) (hown : w.ownsRow base e size (.slice (some ⟨g, 0, none⟩) n cap) n xs)
    (ad : Addr) (m c : Nat) (news : List Value) (hl : news.length = m * size) (hnews : ∀ j u, news[j]? = some u → w.cell? (ad.add j) = some u) (h1 : ∀ u ∈ news, u.oneCell' = true)
    (hm : 0 < m) (h63 : n + m ≤ maxLen) (hbytes : (n + m) * bytes ≤ 140737488355328) (hbase : base ≤ w.heap.size) (H : Nat) (hH : w.heap.size = H) :
    ∃ g' cap' w', (Builtin.append_ #[t, t] ty #[.slice (some ⟨g, 0, none⟩) n cap, .slice (some ad) m c]).run P w = .ok (.slice (some ⟨g', 0, none⟩) (n + m) cap') w' ∧
      w'.ownsRow base e size (.slice (some ⟨g', 0, none⟩) (n + m) cap') (n + m) (xs ++ news) ∧ w.grownBy w' (some g) ∧ (g' = g ∨ g' = H) ∧ g' < w'.heap.size ∧
      (∀ j, j < n * size → w'.cell? ⟨g, j, none⟩ = w.cell? ⟨g, j, none⟩) := by
  obtain ⟨g', cap', w', hr, h2, h3, h4, h5⟩ := run_append_lies (P := P) w t ty base e i z size bytes ht hi hz hsize hby hzs hsz _ n xs hown ad m c news hl hnews h1 hm h63 hbytes hbase H hH
  refine ⟨g', cap', w', hr, h2, h3, ?_, h5, ?_⟩
  · rcases h4 with h4 | h4
    · left
      simpa [Value.ownBlock] using h4.symm
    · exact .inr h4
  · intro j hj
    rcases hown.2 with ⟨hv, _⟩ | ⟨g0, cap0, cur, hv, hbg, hg, hnc, hcm, hcs, htake⟩
    · cases hv
    · cases hv
      by_cases hroom : n + m ≤ cap
      · subst hsize
        have hfit : n * i.size + news.length ≤ cur.size := by rw [hl, hcs, ← Nat.add_mul]; exact Nat.mul_le_mul_right _ hroom
        have hr2 := run_append_room (P := P) w t ty e i ht hi g n cap cur hg ad m c news hl hnews h1 hroom hfit
        rw [hr2] at hr
        injection hr with _ hw
        subst hw
        rw [cell_of_row _ g j _ e (0, 0) (setRow_heap w g cur _ e (0, 0) hg), cell_of_row w g j cur e (0, 0) hg]
        have hjl : j < (List.take (n * i.size) cur.toList).length := by simp; omega
        simp only [List.append_assoc, List.getElem?_toArray]
        rw [List.getElem?_append_left hjl, List.getElem?_take, if_pos hj]
        simp
      · subst hsize
        subst hby
        have holds : ∀ j u, xs[j]? = some u → w.cell? ((⟨g, 0, none⟩ : Addr).add j) = some u := hown.cells (g := g) rfl
        have hr2 := run_append_grow (P := P) w t ty e i z ht hi hz ⟨g, 0, none⟩ n cap xs hown.1 holds ad m c news hl hnews (by omega) (by simp only [maxLen] at h63; omega) (growslice_fits (by omega) hbytes)
        rw [hr2] at hr
        injection hr with _ hw
        subst hw
        have hlt : g < w.heap.size := (Array.getElem?_eq_some_iff.1 hg).1
        exact World.cell?_of_block (w := w) (heap_alloc_old w.drew _ hlt)

theorem wp_append_keep {o : Oper} {a : Act} {K : Act → World → Prop} {Q : Exit → Act → World → Prop} (s x : Operand) (t : TypeId)
    (ho : o.op = .call { callee := .builtin .append, args := #[s, x], argTypes := #[t, t] })
    (base : Nat) (e : TypeId) (i : TypeInfo) (z : Value) (size bytes : Nat) (ht : P.underlying t = some (.slice e)) (hi : P.info? e = some i) (hz : i.zero = some z)
    (hsize : i.size = size) (hby : i.bytes = bytes) (hzs : z.cells.size = size) (hsz : 0 < size)
    (g n cap : Nat) (xs : List Value) (hs : a.eval s = .slice (some ⟨g, 0, none⟩) n cap) (hown : w.ownsRow base e size (.slice (some ⟨g, 0, none⟩) n cap) n xs)
    (ad : Addr) (m c : Nat) (news : List Value) (hx : a.eval x = .slice (some ad) m c) (hl : news.length = m * size) (hnews : ∀ j u, news[j]? = some u → w.cell? (ad.add j) = some u) (h1 : ∀ u ∈ news, u.oneCell' = true)
    (hm : 0 < m) (h63 : n + m ≤ maxLen) (hbytes : (n + m) * bytes ≤ 140737488355328) (hbase : base ≤ w.heap.size) (H : Nat) (hH : w.heap.size = H)
    (h : ∀ g' cap' w', w'.ownsRow base e size (.slice (some ⟨g', 0, none⟩) (n + m) cap') (n + m) (xs ++ news) → w.grownBy w' (some g) → (g' = g ∨ g' = H) → g' < w'.heap.size →
      (∀ j, j < n * size → w'.cell? ⟨g, j, none⟩ = w.cell? ⟨g, j, none⟩) → K (a.put o.dst (.slice (some ⟨g', 0, none⟩) (n + m) cap')) w') : o.wp P a w K Q := by
  obtain ⟨g', cap', w', hr, h2, h3, h4, h5, h6⟩ := run_append_keep (P := P) w t o.type base e i z size bytes ht hi hz hsize hby hzs hsz g n cap xs hown ad m c news hl hnews h1 hm h63 hbytes hbase H hH
  unfold Oper.wp execOp
  simp only [ho, resolve, invoke, builtin, Sem.run_bind, Sem.run_pure, Result.andThen_ok, List.map_toArray, List.map_cons, List.map_nil, hs, hx, hr]
  exact h g' cap' w' h2 h3 h4 h5 h6

theorem step_append_keep {ops : Array Oper} {o : Oper} {a : Act} {K : Act → World → Prop} {Q : Exit → Act → World → Prop} {E : Prop} (hgd : o.guard = none) (s x : Operand) (t : TypeId)
    (ho : o.op = .call { callee := .builtin .append, args := #[s, x], argTypes := #[t, t] })
    (base : Nat) (e : TypeId) (i : TypeInfo) (z : Value) (size bytes : Nat) (ht : P.underlying t = some (.slice e)) (hi : P.info? e = some i) (hz : i.zero = some z)
    (hsize : i.size = size) (hby : i.bytes = bytes) (hzs : z.cells.size = size) (hsz : 0 < size)
    (g n cap : Nat) (xs : List Value) (hs : a.eval s = .slice (some ⟨g, 0, none⟩) n cap) (hown : w.ownsRow base e size (.slice (some ⟨g, 0, none⟩) n cap) n xs)
    (ad : Addr) (m c : Nat) (news : List Value) (hx : a.eval x = .slice (some ad) m c) (hl : news.length = m * size) (hnews : ∀ j u, news[j]? = some u → w.cell? (ad.add j) = some u) (h1 : ∀ u ∈ news, u.oneCell' = true)
    (hm : 0 < m) (h63 : n + m ≤ maxLen) (hbytes : (n + m) * bytes ≤ 140737488355328) (hbase : base ≤ w.heap.size) (H : Nat) (hH : w.heap.size = H)
    (h : ∀ g' cap' w', w'.ownsRow base e size (.slice (some ⟨g', 0, none⟩) (n + m) cap') (n + m) (xs ++ news) → w.grownBy w' (some g) → (g' = g ∨ g' = H) → g' < w'.heap.size →
      (∀ j, j < n * size → w'.cell? ⟨g, j, none⟩ = w.cell? ⟨g, j, none⟩) → K (a.put o.dst (.slice (some ⟨g', 0, none⟩) (n + m) cap')) w') :
    if Region.wanted o (yielded ops a.tmps) = true then Oper.wp P o a w K Q else E := by
  have hw : Region.wanted o (yielded ops a.tmps) = true := by simp [Region.wanted, hgd]
  rw [if_pos hw]
  exact wp_append_keep w s x t ho base e i z size bytes ht hi hz hsize hby hzs hsz g n cap xs hs hown ad m c news hx hl hnews h1 hm h63 hbytes hbase H hH h
end
end Go.Proofs.Sha
namespace Go.Proofs.Sha
open Go Go.RowKit

theorem grownBy_refl (w : World) (row : Option Nat) : w.grownBy w row := ⟨rfl, rfl, rfl, Nat.le_refl _, fun _ _ _ => rfl⟩
theorem grownBy_trans {a b c : World} {row : Option Nat} (h : a.grownBy b row) (k : b.grownBy c row) : a.grownBy c row :=
  ⟨k.os.trans h.os, k.tape.trans h.tape, k.output.trans h.output, Nat.le_trans h.size k.size, fun i hi hn => (k.block i (Nat.lt_of_lt_of_le hi h.size) hn).trans (h.block i hi hn)⟩
theorem grownBy_setCell (w : World) (b o : Nat) (v : Value) : w.grownBy (w.setCell ⟨b, o, none⟩ v) (some b) :=
  ⟨rfl, rfl, rfl, by simp [World.setCell], fun k _ hn => Below.heap_setCell _ _ _ _ (fun e => hn (by rw [e]))⟩
theorem grownBy_drew (w : World) (row : Option Nat) : w.grownBy w.drew row := ⟨rfl, rfl, rfl, Nat.le_refl _, fun _ _ _ => rfl⟩
theorem grownBy_drewR {a b : World} {row : Option Nat} (h : a.grownBy b row) : a.grownBy b.drew row := grownBy_trans h (grownBy_drew _ _)
theorem grownBy_allocR {a b : World} {row : Option Nat} (h : a.grownBy b row) (o : Obj) : a.grownBy (b.alloc o) row := grownBy_trans h (World.grownBy_alloc _ _ _)
theorem grownBy_setCells (b : Nat) : ∀ (vs : List Value) (o : Nat) (w : World), w.grownBy (w.setCells b o vs) (some b)
  | [], _, w => grownBy_refl w _
  | v :: r, o, w => by rw [World.setCells]; exact grownBy_trans (grownBy_setCell w b o v) (grownBy_setCells b r (o + 1) _)
/-- Writes into no old row at all are writes into whatever row. -/
theorem grownBy_of_below {w w' : World} (h : Below w.heap.size w w') (row : Option Nat) : w.grownBy w' row := ⟨h.os, h.tape, h.output, h.size, fun k hk _ => h.block k hk⟩
theorem below_of_grown {B b : Nat} {w w' : World} (h : w.grownBy w' (some b)) (hb : B ≤ b) (hB : B ≤ w.heap.size) : Below B w w' :=
  ⟨h.os, h.tape, h.output, h.size, fun k hk => h.block k (by omega) (by simp; omega)⟩

structure Row (w : World) (base g n cap : Nat) (xs : List Value) : Prop where
  ge : base ≤ g
  lt : g < w.heap.size
  len : xs.length = n
  le : n ≤ cap
  cell : ∀ j, j < n → w.cell? ⟨g, j, none⟩ = xs[j]?
  room : ∀ j, j < cap → (w.cell? ⟨g, j, none⟩).isSome = true
  free : ∀ j, j < cap → w.frozen? ⟨g, j, none⟩ = false

theorem Row.kept {w w' : World} {base g n cap : Nat} {xs : List Value} {row : Option Nat} (h : Row w base g n cap xs) (hg : w.grownBy w' row) (hn : some g ≠ row) : Row w' base g n cap xs := by
  have hc : ∀ j, w'.cell? ⟨g, j, none⟩ = w.cell? ⟨g, j, none⟩ := fun j => hg.cell_far _ h.lt hn
  have hf : ∀ j, w'.frozen? ⟨g, j, none⟩ = w.frozen? ⟨g, j, none⟩ := fun j => hg.frozen_far _ h.lt hn
  exact ⟨h.ge, Nat.lt_of_lt_of_le h.lt hg.size, h.len, h.le, fun j hj => (hc j).trans (h.cell j hj), fun j hj => by rw [hc]; exact h.room j hj, fun j hj => by rw [hf]; exact h.free j hj⟩
theorem Row.alloc {w : World} {base g n cap : Nat} {xs : List Value} (h : Row w base g n cap xs) (o : Obj) : Row (w.alloc o) base g n cap xs :=
  h.kept (World.grownBy_alloc w o none) (by simp)
theorem Row.drew {w : World} {base g n cap : Nat} {xs : List Value} (h : Row w base g n cap xs) : Row w.drew base g n cap xs :=
  h.kept (grownBy_drew w none) (by simp)
theorem Row.below {w w' : World} {base g n cap : Nat} {xs : List Value} (h : Row w base g n cap xs) (hb : Below w.heap.size w w') : Row w' base g n cap xs :=
  h.kept (grownBy_of_below hb none) (by simp)
theorem Row.mono {w : World} {base base' g n cap : Nat} {xs : List Value} (h : Row w base g n cap xs) (hb : base' ≤ base) : Row w base' g n cap xs :=
  ⟨Nat.le_trans hb h.ge, h.lt, h.len, h.le, h.cell, h.room, h.free⟩

/-- A row that lies in a block known whole. -/
theorem Row.of_block {w : World} {base g : Nat} {cs : Array Value} {e : TypeId} {fr : Nat × Nat} (hb : base ≤ g) (hg : w.heap[g]? = some (.cells cs e fr)) (n : Nat) (hn : n ≤ cs.size)
    (hf : fr = (0, 0) ∨ fr.1 = cs.size) : Row w base g n cs.size (cs.toList.take n) := by
  have hlt : g < w.heap.size := (Array.getElem?_eq_some_iff.1 hg).1
  have hc : ∀ j, w.cell? ⟨g, j, none⟩ = cs[j]? := fun j => cell_of_row w g j cs e fr hg
  refine ⟨hb, hlt, by simp; omega, hn, fun j hj => ?_, fun j hj => ?_, fun j hj => ?_⟩
  · rw [hc, List.getElem?_take, if_pos hj]; simp
  · rw [hc]; simp [hj]
  · obtain ⟨lo, hi⟩ := fr
    simp only [World.frozen?, hg]
    rcases hf with hf | hf
    · cases hf; simp
    · simp at hf; subst hf; simp; omega

section
variable {P : Program} (w : World)

theorem run_append_row (t ty e : TypeId) (i : TypeInfo) (z : Value) (bytes : Nat) (ht : P.underlying t = some (.slice e)) (hi : P.info? e = some i) (hz : i.zero = some z)
    (hsize : i.size = 1) (hby : i.bytes = bytes) (hzs : z.cells.size = 1)
    (base g n cap : Nat) (xs : List Value) (hr : Row w base g n cap xs)
    (ad : Addr) (m c : Nat) (news : List Value) (hl : news.length = m) (hnews : ∀ j u, news[j]? = some u → w.cell? (ad.add j) = some u) (h1 : ∀ u ∈ news, u.oneCell' = true)
    (h63 : n + m ≤ maxLen) (hbytes : (n + m) * bytes ≤ 140737488355328) (hbase : base ≤ w.heap.size) (H : Nat) (hH : w.heap.size = H) :
    ∃ g' cap' w', (Builtin.append_ #[t, t] ty #[.slice (some ⟨g, 0, none⟩) n cap, .slice (some ad) m c]).run P w = .ok (.slice (some ⟨g', 0, none⟩) (n + m) cap') w' ∧
      Row w' base g' (n + m) cap' (xs ++ news) ∧ w.grownBy w' (some g) ∧ (g' = g ∨ g' = H) ∧ (∀ j, j < n → w'.cell? ⟨g, j, none⟩ = w.cell? ⟨g, j, none⟩) := by
  by_cases hroom : n + m ≤ cap
  · have hrun := run_append_room_cells (P := P) w t ty e i ht hi g 0 n cap ad m c news (by rw [hl, hsize, Nat.mul_one]) hnews h1 hroom
      (fun j hj => by have := hr.room (n + j) (by omega); simpa [hsize] using this) (fun j hj => by have := hr.free (n + j) (by omega); simpa [hsize] using this)
    simp only [hsize, Nat.mul_one, Nat.zero_add] at hrun
    have hin : ∀ j (hj : j < news.length), (w.setCells g n news).cell? ⟨g, n + j, none⟩ = some news[j] := World.cell?_setCells_in g news n w (fun j hj => hr.room (n + j) (by omega))
    have hout : ∀ j, j < n ∨ n + news.length ≤ j → (w.setCells g n news).cell? ⟨g, j, none⟩ = w.cell? ⟨g, j, none⟩ := fun j hj => World.cell?_setCells_out g news n w ⟨g, j, none⟩ (fun _ _ => hj)
    have hgr := grownBy_setCells g news n w
    refine ⟨g, cap, w.setCells g n news, hrun, ⟨hr.ge, Nat.lt_of_lt_of_le hr.lt hgr.size, by rw [List.length_append, hr.len, hl], hroom, ?_, ?_, ?_⟩, hgr, .inl rfl, fun j hj => hout j (.inl hj)⟩
    · intro j hj
      rcases Nat.lt_or_ge j n with h | h
      · rw [hout j (.inl h), hr.cell j h, List.getElem?_append_left (by rw [hr.len]; exact h)]
      · obtain ⟨q, rfl⟩ := Nat.exists_eq_add_of_le h
        rw [hin q (by omega), List.getElem?_append_right (by rw [hr.len]; omega), hr.len, Nat.add_sub_cancel_left, List.getElem?_eq_getElem (by omega)]
    · intro j hj
      rcases Nat.lt_or_ge j n with h | h
      · rw [hout j (.inl h)]; exact hr.room j hj
      · rcases Nat.lt_or_ge j (n + news.length) with h' | h'
        · obtain ⟨q, rfl⟩ := Nat.exists_eq_add_of_le h
          rw [hin q (by omega)]; rfl
        · rw [hout j (.inr h')]; exact hr.room j hj
    · intro j hj
      rw [World.frozen?_setCells]; exact hr.free j hj
  · have holds : ∀ j u, xs[j]? = some u → w.cell? ((⟨g, 0, none⟩ : Addr).add j) = some u := fun j u hu => by
      have hj : j < n := by have := (List.getElem?_eq_some_iff.1 hu).1; have := hr.len; omega
      have hadd : (⟨g, 0, none⟩ : Addr).add j = ⟨g, j, none⟩ := by unfold Addr.add; split <;> simp_all
      rw [hadd, hr.cell j hj, hu]
    have hrun := run_append_grow (P := P) w t ty e i z ht hi hz ⟨g, 0, none⟩ n cap xs (by rw [hr.len, hsize, Nat.mul_one]) holds ad m c news (by rw [hl, hsize, Nat.mul_one]) hnews (by omega) (by simp only [maxLen] at h63; omega) (growslice_fits (by omega) (by rw [hby]; exact hbytes))
    have hge := grownCap_ge w (n + m) cap e
    have hnew : (w.drew.alloc (.cells (xs.toArray ++ news.toArray ++ Builtin.zeroCells z.cells (grownCap w (n + m) cap e - (n + m))) e)).heap[w.heap.size]? = _ := heap_alloc_new w.drew _
    have hgr : w.grownBy (w.drew.alloc (.cells (xs.toArray ++ news.toArray ++ Builtin.zeroCells z.cells (grownCap w (n + m) cap e - (n + m))) e)) (some g) := grownBy_allocR (grownBy_drew w _) _
    have hsz : (xs.toArray ++ news.toArray ++ Builtin.zeroCells z.cells (grownCap w (n + m) cap e - (n + m))).size = grownCap w (n + m) cap e := by
      simp only [Array.size_append, List.size_toArray, size_zeroCells, hzs, hr.len, hl]; omega
    refine ⟨w.heap.size, _, _, hrun, ?_, hgr, .inr hH, fun j hj => World.cell?_of_block (w := w) (heap_alloc_old w.drew _ hr.lt)⟩
    have hrow := Row.of_block hbase hnew (n + m) (by rw [hsz]; exact hge) (.inl rfl)
    rw [hsz] at hrow
    have htk : List.take (n + m) (xs.toArray ++ news.toArray ++ Builtin.zeroCells z.cells (grownCap w (n + m) cap e - (n + m))).toList = xs ++ news := by
      simp only [Array.toList_append, List.append_assoc]
      rw [← List.append_assoc]
      exact List.take_left' (by rw [List.length_append, hr.len, hl])
    rw [htk] at hrow
    exact hrow

theorem wp_append_row {o : Oper} {a : Act} {K : Act → World → Prop} {Q : Exit → Act → World → Prop} (s x : Operand) (t : TypeId)
    (ho : o.op = .call { callee := .builtin .append, args := #[s, x], argTypes := #[t, t] })
    (e : TypeId) (i : TypeInfo) (z : Value) (bytes : Nat) (ht : P.underlying t = some (.slice e)) (hi : P.info? e = some i) (hz : i.zero = some z)
    (hsize : i.size = 1) (hby : i.bytes = bytes) (hzs : z.cells.size = 1)
    (base g n cap : Nat) (xs : List Value) (hs : a.eval s = .slice (some ⟨g, 0, none⟩) n cap) (hr : Row w base g n cap xs)
    (ad : Addr) (m c : Nat) (news : List Value) (hx : a.eval x = .slice (some ad) m c) (hl : news.length = m) (hnews : ∀ j u, news[j]? = some u → w.cell? (ad.add j) = some u) (h1 : ∀ u ∈ news, u.oneCell' = true)
    (h63 : n + m ≤ maxLen) (hbytes : (n + m) * bytes ≤ 140737488355328) (hbase : base ≤ w.heap.size) (H : Nat) (hH : w.heap.size = H)
    (h : ∀ g' cap' w', Row w' base g' (n + m) cap' (xs ++ news) → w.grownBy w' (some g) → (g' = g ∨ g' = H) →
      (∀ j, j < n → w'.cell? ⟨g, j, none⟩ = w.cell? ⟨g, j, none⟩) → K (a.put o.dst (.slice (some ⟨g', 0, none⟩) (n + m) cap')) w') : o.wp P a w K Q := by
  obtain ⟨g', cap', w', hrun, h2, h3, h4, h5⟩ := run_append_row (P := P) w t o.type e i z bytes ht hi hz hsize hby hzs base g n cap xs hr ad m c news hl hnews h1 h63 hbytes hbase H hH
  unfold Oper.wp execOp
  simp only [ho, resolve, invoke, builtin, Sem.run_bind, Sem.run_pure, Result.andThen_ok, List.map_toArray, List.map_cons, List.map_nil, hs, hx, hrun]
  exact h g' cap' w' h2 h3 h4 h5

theorem step_append_row {ops : Array Oper} {o : Oper} {a : Act} {K : Act → World → Prop} {Q : Exit → Act → World → Prop} {E : Prop} (hgd : o.guard = none) (s x : Operand) (t : TypeId)
    (ho : o.op = .call { callee := .builtin .append, args := #[s, x], argTypes := #[t, t] })
    (e : TypeId) (i : TypeInfo) (z : Value) (bytes : Nat) (ht : P.underlying t = some (.slice e)) (hi : P.info? e = some i) (hz : i.zero = some z)
    (hsize : i.size = 1) (hby : i.bytes = bytes) (hzs : z.cells.size = 1)
    (base g n cap : Nat) (xs : List Value) (hs : a.eval s = .slice (some ⟨g, 0, none⟩) n cap) (hr : Row w base g n cap xs)
    (ad : Addr) (m c : Nat) (news : List Value) (hx : a.eval x = .slice (some ad) m c) (hl : news.length = m) (hnews : ∀ j u, news[j]? = some u → w.cell? (ad.add j) = some u) (h1 : ∀ u ∈ news, u.oneCell' = true)
    (h63 : n + m ≤ maxLen) (hbytes : (n + m) * bytes ≤ 140737488355328) (hbase : base ≤ w.heap.size) (H : Nat) (hH : w.heap.size = H)
    (h : ∀ g' cap' w', Row w' base g' (n + m) cap' (xs ++ news) → w.grownBy w' (some g) → (g' = g ∨ g' = H) →
      (∀ j, j < n → w'.cell? ⟨g, j, none⟩ = w.cell? ⟨g, j, none⟩) → K (a.put o.dst (.slice (some ⟨g', 0, none⟩) (n + m) cap')) w') :
    if Region.wanted o (yielded ops a.tmps) = true then Oper.wp P o a w K Q else E := by
  have hw : Region.wanted o (yielded ops a.tmps) = true := by simp [Region.wanted, hgd]
  rw [if_pos hw]
  exact wp_append_row w s x t ho e i z bytes ht hi hz hsize hby hzs base g n cap xs hs hr ad m c news hx hl hnews h1 h63 hbytes hbase H hH h

theorem wpList_append_row {ops : Array Oper} {rest : List Oper} {o : Oper} {a : Act} {Q : Exit → Act → World → Prop} (hgd : o.guard = none) (s x : Operand) (t : TypeId)
    (ho : o.op = .call { callee := .builtin .append, args := #[s, x], argTypes := #[t, t] })
    (e : TypeId) (i : TypeInfo) (z : Value) (bytes : Nat) (ht : P.underlying t = some (.slice e)) (hi : P.info? e = some i) (hz : i.zero = some z)
    (hsize : i.size = 1) (hby : i.bytes = bytes) (hzs : z.cells.size = 1)
    (base g n cap : Nat) (xs : List Value) (hs : a.eval s = .slice (some ⟨g, 0, none⟩) n cap) (hr : Row w base g n cap xs)
    (ad : Addr) (m c : Nat) (news : List Value) (hx : a.eval x = .slice (some ad) m c) (hl : news.length = m) (hnews : ∀ j u, news[j]? = some u → w.cell? (ad.add j) = some u) (h1 : ∀ u ∈ news, u.oneCell' = true)
    (h63 : n + m ≤ maxLen) (hbytes : (n + m) * bytes ≤ 140737488355328) (hbase : base ≤ w.heap.size) (H : Nat) (hH : w.heap.size = H)
    (h : ∀ g' cap' w', Row w' base g' (n + m) cap' (xs ++ news) → w.grownBy w' (some g) → (g' = g ∨ g' = H) →
      (∀ j, j < n → w'.cell? ⟨g, j, none⟩ = w.cell? ⟨g, j, none⟩) → wpList P ops Q rest (a.put o.dst (.slice (some ⟨g', 0, none⟩) (n + m) cap')) w') : wpList P ops Q (o :: rest) a w :=
  wpList_plain hgd fun _ hK => wp_append_row w s x t ho e i z bytes ht hi hz hsize hby hzs base g n cap xs hs hr ad m c news hx hl hnews h1 h63 hbytes hbase H hH fun g' cap' w' h2 h3 h4 h5 => hK _ _ (h g' cap' w' h2 h3 h4 h5)

/-- '[]byte(s)': a new row that holds the string's bytes. -/
theorem wpList_bytes_row {ops : Array Oper} {rest : List Oper} {o : Oper} {a : Act} {Q : Exit → Act → World → Prop} (hgd : o.guard = none) (x : Operand) (src dst e : TypeId)
    (ho : o.op = .convert src dst x) (s : ByteArray) (hs : a.eval x = .string s)
    (h1 : P.underlying src = some .string) (h2 : P.underlying dst = some (.slice e)) (h3 : P.underlying e = some (.int .u8))
    (h : ∀ g cap w', Row w' w.heap.size g s.size cap (s.data.toList.map B) → Below w.heap.size w w' → wpList P ops Q rest (a.put o.dst (.slice (some ⟨g, 0, none⟩) s.size cap)) w') : wpList P ops Q (o :: rest) a w :=
  wpList_plain hgd fun _ hK => by
    have hrun := run_bytes_of_string (P := P) w src dst e s h1 h2 h3
    have hge := grownCap_ge w s.size 0 e
    have hsz : (bytesRow s (grownCap w s.size 0 e)).size = grownCap w s.size 0 e := by
      unfold bytesRow
      rw [Array.size_append, Array.size_map, Array.size_replicate]
      show s.size + _ = _
      omega
    have hnew := heap_alloc_new w.drew (.cells (bytesRow s (grownCap w s.size 0 e)) e ((bytesRow s (grownCap w s.size 0 e)).size, (bytesRow s (grownCap w s.size 0 e)).size + 1))
    have hrow := Row.of_block (base := w.heap.size) (Nat.le_refl _) hnew s.size (by rw [hsz]; exact hge) (.inr rfl)
    have htk : List.take s.size (bytesRow s (grownCap w s.size 0 e)).toList = s.data.toList.map B := by
      unfold bytesRow
      rw [Array.toList_append, Array.toList_map]
      exact List.take_left' (by rw [List.length_map]; rfl)
    rw [htk, hsz] at hrow
    rw [hsz] at hrun
    unfold Oper.wp execOp
    simp only [ho, hs, Sem.run_bind, Sem.run_pure, Result.andThen_ok, hrun]
    exact hK _ _ (h _ _ _ hrow ⟨rfl, rfl, rfl, by simp, fun k hk => Below.heap_alloc w.drew _ k hk⟩)

/-- 'string(b)': the row's bytes. -/
theorem wpList_string_row {ops : Array Oper} {rest : List Oper} {o : Oper} {a : Act} {Q : Exit → Act → World → Prop} (hgd : o.guard = none) (x : Operand) (src dst e : TypeId)
    (ho : o.op = .convert src dst x) (base g n cap : Nat) (l : List UInt8) (hx : a.eval x = .slice (some ⟨g, 0, none⟩) n cap) (hr : Row w base g n cap (l.map B))
    (h1 : P.underlying src = some (.slice e)) (h2 : P.underlying e = some (.int .u8)) (h3 : P.underlying dst = some .string)
    (h : wpList P ops Q rest (a.put o.dst (.string ⟨l.toArray⟩)) w) : wpList P ops Q (o :: rest) a w :=
  wpList_plain hgd fun _ hK => by
    have hl : l.length = n := by have := hr.len; simpa using this
    subst hl
    have hrun := run_convert_bytes_back (P := P) w src dst e ⟨g, 0, none⟩ cap l h1 h2 h3 (fun j hj => by
      have hadd : (⟨g, 0, none⟩ : Addr).add j = ⟨g, j, none⟩ := by unfold Addr.add; split <;> simp_all
      rw [hadd, hr.cell j hj, List.getElem?_map, List.getElem?_eq_getElem hj]; rfl)
    unfold Oper.wp execOp
    simp only [ho, hx, Sem.run_bind, Sem.run_pure, Result.andThen_ok, hrun]
    exact hK _ _ h
end
end Go.Proofs.Sha
namespace Go.Proofs.Sha
open Go Go.RowKit

/-- The state behind q blocks of the text p. -/
def blocks (p : List UInt8) : Nat → List UInt32
  | 0 => hTab
  | q + 1 => comp (blocks p q) (p.drop (64 * q))
theorem blocks_length (p : List UInt8) (q : Nat) : (blocks p q).length = 8 := by cases q <;> rfl

def byteAt (x : UInt32) (i : Nat) : UInt8 := UInt8.ofNat (x.toNat / 2 ^ (8 * i))
/-- The bytes of the first k words. -/
def outTo (h : List UInt32) : Nat → List UInt8
  | 0 => []
  | k + 1 => outTo h k ++ [byteAt (h.getD k 0) 3, byteAt (h.getD k 0) 2, byteAt (h.getD k 0) 1, byteAt (h.getD k 0) 0]
theorem outTo_length (h : List UInt32) (k : Nat) : (outTo h k).length = 4 * k := by
  induction k with
  | zero => rfl
  | succ k ih => simp [outTo, ih]; omega

def sha (l : List UInt8) : List UInt8 := outTo (blocks (pad l) ((pad l).length / 64)) 8

theorem pad_mod (l : List UInt8) : (pad l).length % 64 = 0 := by
  rw [pad_length]; have := zpad_eq l.length; omega

theorem byteAt_form (x : UInt32) (i : Nat) : IntKind.u8.wrap ((x.toNat : Int) / 2 ^ (8 * i)) = ((byteAt x i).toNat : Int) := by
  unfold byteAt
  rw [IntKind.wrap_u8', UInt8.toNat_ofNat']
  have e : ((x.toNat / 2 ^ (8 * i) % 2 ^ 8 : Nat) : Int) = ((x.toNat : Int) / 2 ^ (8 * i) % 256) := by
    rw [Int.natCast_emod, Int.natCast_ediv, Int.natCast_pow]; rfl
  exact e.symm
theorem byte3 (x : UInt32) : IntKind.u8.wrap ((x.toNat : Int) / (16777216 : Int)) = ((byteAt x 3).toNat : Int) := byteAt_form x 3
theorem byte2 (x : UInt32) : IntKind.u8.wrap ((x.toNat : Int) / (65536 : Int)) = ((byteAt x 2).toNat : Int) := byteAt_form x 2
theorem byte1 (x : UInt32) : IntKind.u8.wrap ((x.toNat : Int) / (256 : Int)) = ((byteAt x 1).toNat : Int) := byteAt_form x 1
theorem byte0 (x : UInt32) : IntKind.u8.wrap (x.toNat : Int) = ((byteAt x 0).toNat : Int) := by
  have := byteAt_form x 0
  simpa using this

theorem outTo_succ (h : List UInt32) (k : Nat) (x : UInt32) (hx : h.getD k 0 = x) :
    (outTo h (k + 1)).map B = (outTo h k).map B ++ [.int .u8 (IntKind.u8.wrap ((x.toNat : Int) / (16777216 : Int))), .int .u8 (IntKind.u8.wrap ((x.toNat : Int) / (65536 : Int))), .int .u8 (IntKind.u8.wrap ((x.toNat : Int) / (256 : Int))), .int .u8 (IntKind.u8.wrap (x.toNat : Int))] := by
  rw [outTo, hx, List.map_append, byte3, byte2, byte1, byte0]; rfl

theorem tab_cell (L : List UInt32) (j : Nat) (hj : j < L.length) : (L.map U).toArray[j]? = some (.int .u32 ((L.getD j 0).toNat : Int)) := by
  rw [List.getElem?_toArray, List.getElem?_map, List.getD_eq_getElem?_getD, List.getElem?_eq_getElem hj]; rfl
theorem row_b {w : World} {base g n cap : Nat} {L : List UInt8} (h : Row w base g n cap (L.map B)) (j : Nat) (hj : j < n) : w.cell? ⟨g, j, none⟩ = some (.int .u8 ((L.getD j 0).toNat : Int)) := by
  have hL : L.length = n := by have := h.len; simpa using this
  rw [h.cell j hj, List.getElem?_map, List.getD_eq_getElem?_getD, List.getElem?_eq_getElem (by omega)]; rfl
theorem row_u {w : World} {base g n cap : Nat} {L : List UInt32} (h : Row w base g n cap (L.map U)) (j : Nat) (hj : j < n) : w.cell? ⟨g, j, none⟩ = some (.int .u32 ((L.getD j 0).toNat : Int)) := by
  have hL : L.length = n := by have := h.len; simpa using this
  rw [h.cell j hj, List.getElem?_map, List.getD_eq_getElem?_getD, List.getElem?_eq_getElem (by omega)]; rfl
theorem two_blocks (w : World) (L M : List UInt32) (e : TypeId) : 
    (∀ j, j < L.length → ((w.alloc (.cells (L.map U).toArray e)).alloc (.cells (M.map U).toArray e)).cell? ⟨w.heap.size, j, none⟩ = some (.int .u32 ((L.getD j 0).toNat : Int))) ∧
    (∀ j, j < M.length → ((w.alloc (.cells (L.map U).toArray e)).alloc (.cells (M.map U).toArray e)).cell? ⟨w.heap.size + 1, j, none⟩ = some (.int .u32 ((M.getD j 0).toNat : Int))) := by
  constructor
  · intro j hj
    have h1 : ((w.alloc (.cells (L.map U).toArray e)).alloc (.cells (M.map U).toArray e)).heap[w.heap.size]? = some (.cells (L.map U).toArray e) := by
      rw [Below.heap_alloc _ _ _ (by simp)]; exact heap_alloc_new w _
    rw [cell_of_row _ _ _ _ _ _ h1]; exact tab_cell L j hj
  · intro j hj
    rw [cell_of_row _ _ _ _ _ _ (heap_alloc2_new w _ _)]; exact tab_cell M j hj

end Go.Proofs.Sha
