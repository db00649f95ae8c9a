import Derived.WalkKit
import Derived.Laws.BitsAllLaws
import Derived.DeepKeys5
namespace Go.Proofs.Sha
open Go Go.RowKit

theorem u_add (x y : UInt32) : ((x.toNat : Int) + y.toNat) % 4294967296 = ((x + y).toNat : Int) := by
  have := UInt32.toNat_add x y
  omega
theorem u_xor (x y : UInt32) : bits .xor .u32 (x.toNat : Int) (y.toNat : Int) = ((x ^^^ y).toNat : Int) := by
  rw [u32_xor_nat _ _ x.toNat_lt y.toNat_lt, UInt32.toNat_xor]
theorem u_and (x y : UInt32) : bits .and .u32 (x.toNat : Int) (y.toNat : Int) = ((x &&& y).toNat : Int) := by
  rw [u32_and_nat _ _ x.toNat_lt y.toNat_lt, UInt32.toNat_and]
theorem u_or (x y : UInt32) : bits .or .u32 (x.toNat : Int) (y.toNat : Int) = ((x ||| y).toNat : Int) := by
  rw [u32_or_nat _ _ x.toNat_lt y.toNat_lt, UInt32.toNat_or]

/-- x turned to the right by n places. -/
def turn (x : UInt32) (n : Nat) : UInt32 := UInt32.ofNat (x.toNat / 2 ^ n) ||| UInt32.ofNat (x.toNat * 2 ^ (32 - n))

theorem ofNat_toNat_div (x : UInt32) (n : Nat) : (UInt32.ofNat (x.toNat / 2 ^ n)).toNat = x.toNat / 2 ^ n := by
  rw [UInt32.toNat_ofNat']
  have h1 := x.toNat_lt
  have h2 : x.toNat / 2 ^ n ≤ x.toNat := Nat.div_le_self _ _
  exact Nat.mod_eq_of_lt (by omega)

theorem turn_spec (x : UInt32) (n : Nat) : bits .or .u32 ((x.toNat : Int) / 2 ^ n) ((x.toNat : Int) * 2 ^ (32 - n) % 4294967296) = ((turn x n).toNat : Int) := by
  have e1 : (x.toNat : Int) / 2 ^ n = ((UInt32.ofNat (x.toNat / 2 ^ n)).toNat : Int) := by
    rw [ofNat_toNat_div]; simp
  have e2 : (x.toNat : Int) * 2 ^ (32 - n) % 4294967296 = ((UInt32.ofNat (x.toNat * 2 ^ (32 - n))).toNat : Int) := by
    rw [UInt32.toNat_ofNat']
    rw [Int.natCast_emod, Int.natCast_mul, Int.natCast_pow]; rfl
  rw [e1, e2, u_or]; rfl

theorem turn_impl (x : UInt32) (n : Nat) : bits .or .u32 ((x.toNat : Int) * 2 ^ (32 - n) % 4294967296) ((x.toNat : Int) / 2 ^ n) = ((turn x n).toNat : Int) := by
  have e1 : (x.toNat : Int) / 2 ^ n = ((UInt32.ofNat (x.toNat / 2 ^ n)).toNat : Int) := by
    rw [ofNat_toNat_div]; simp
  have e2 : (x.toNat : Int) * 2 ^ (32 - n) % 4294967296 = ((UInt32.ofNat (x.toNat * 2 ^ (32 - n))).toNat : Int) := by
    rw [UInt32.toNat_ofNat']
    rw [Int.natCast_emod, Int.natCast_mul, Int.natCast_pow]; rfl
  rw [e1, e2, u_or]; unfold turn; rw [UInt32.or_comm]
end Go.Proofs.Sha
namespace Go.Proofs.Sha
open Go Go.RowKit

def U (x : UInt32) : Value := .int .u32 (x.toNat : Int)
def B (x : UInt8) : Value := .int .u8 (x.toNat : Int)

def ch (e f g : UInt32) : UInt32 := (e &&& f) ^^^ (~~~e &&& g)
def maj (a b c : UInt32) : UInt32 := (a &&& b) ^^^ (a &&& c) ^^^ (b &&& c)
def sumE (e : UInt32) : UInt32 := turn e 6 ^^^ turn e 11 ^^^ turn e 25
def sumA (a : UInt32) : UInt32 := turn a 2 ^^^ turn a 13 ^^^ turn a 22
def sumFar (x : UInt32) : UInt32 := turn x 7 ^^^ turn x 18 ^^^ (x >>> 3)
def sumNear (x : UInt32) : UInt32 := turn x 17 ^^^ turn x 19 ^^^ (x >>> 10)

/-- Four bytes as a word. -/
def word (a b c d : UInt8) : UInt32 := ((UInt32.ofNat (a.toNat * 16777216) ||| UInt32.ofNat (b.toNat * 65536)) ||| UInt32.ofNat (c.toNat * 256)) ||| UInt32.ofNat d.toNat

/-- The words of the schedule, one after the other. -/
def sched (m : List UInt8) : Nat → List UInt32
  | 0 => []
  | i + 1 => sched m i ++ [if i < 16 then word (m.getD (4 * i) 0) (m.getD (4 * i + 1) 0) (m.getD (4 * i + 2) 0) (m.getD (4 * i + 3) 0)
      else (sched m i).getD (i - 16) 0 + sumFar ((sched m i).getD (i - 15) 0) + (sched m i).getD (i - 7) 0 + sumNear ((sched m i).getD (i - 2) 0)]

theorem sched_length (m : List UInt8) (i : Nat) : (sched m i).length = i := by
  induction i with
  | zero => rfl
  | succ i ih => simp [sched, ih]

theorem wrap_i64_in (n : Int) (h0 : -9223372036854775808 ≤ n) (h1 : n ≤ 9223372036854775807) : IntKind.i64.wrap n = n := by
  simp [IntKind.wrap, IntKind.bits, IntKind.signed]; omega

theorem wrap_u32_nat (n : Nat) : IntKind.u32.wrap (n : Int) = ((UInt32.ofNat n).toNat : Int) := by
  rw [IntKind.wrap_u32', UInt32.toNat_ofNat']; omega

theorem word_form (a b c d : UInt8) :
    bits BinOp.or IntKind.u32 (bits BinOp.or IntKind.u32 (bits BinOp.or IntKind.u32 (IntKind.u32.wrap (IntKind.u32.wrap (a.toNat : Int) * 16777216)) (IntKind.u32.wrap (IntKind.u32.wrap (b.toNat : Int) * 65536)))
      (IntKind.u32.wrap (IntKind.u32.wrap (c.toNat : Int) * 256))) (IntKind.u32.wrap (d.toNat : Int)) = ((word a b c d).toNat : Int) := by
  have e : ∀ x : UInt8, IntKind.u32.wrap (x.toNat : Int) = (x.toNat : Int) := fun x => by
    have := x.toNat_lt; rw [IntKind.wrap_u32']; omega
  have e1 : ((a.toNat : Int) * 16777216) = ((a.toNat * 16777216 : Nat) : Int) := by omega
  have e2 : ((b.toNat : Int) * 65536) = ((b.toNat * 65536 : Nat) : Int) := by omega
  have e3 : ((c.toNat : Int) * 256) = ((c.toNat * 256 : Nat) : Int) := by omega
  have e4 : IntKind.u32.wrap (d.toNat : Int) = ((UInt32.ofNat d.toNat).toNat : Int) := wrap_u32_nat _
  rw [e a, e b, e c, e1, e2, e3, wrap_u32_nat, wrap_u32_nat, wrap_u32_nat, e4, u_or, u_or, u_or]; rfl

theorem getD_drop (m : List UInt8) (fr i : Nat) : (m.drop fr).getD i 0 = m.getD (fr + i) 0 := by
  simp [List.getD_eq_getElem?_getD, List.getElem?_drop]

/-- The first sixteen words, as the walk leaves them. -/
theorem sched_lo (m : List UInt8) (fr k p : Nat) (b0 b1 b2 b3 : UInt8) (hk : k < 16) (hp : p = fr + 4 * k)
    (hb : m.getD p 0 = b0 ∧ m.getD (p + 1) 0 = b1 ∧ m.getD (p + 2) 0 = b2 ∧ m.getD (p + 3) 0 = b3) :
    (sched (m.drop fr) (k + 1)).map U = (sched (m.drop fr) k).map U ++ [.int .u32 (bits BinOp.or IntKind.u32 (bits BinOp.or IntKind.u32 (bits BinOp.or IntKind.u32 (IntKind.u32.wrap (IntKind.u32.wrap (b0.toNat : Int) * 16777216)) (IntKind.u32.wrap (IntKind.u32.wrap (b1.toNat : Int) * 65536)))
      (IntKind.u32.wrap (IntKind.u32.wrap (b2.toNat : Int) * 256))) (IntKind.u32.wrap (b3.toNat : Int)))] := by
  obtain ⟨h0, h1, h2, h3⟩ := hb
  rw [word_form, sched, if_pos hk, List.map_append, getD_drop, getD_drop, getD_drop, getD_drop]
  subst hp
  rw [← Nat.add_assoc, ← Nat.add_assoc, ← Nat.add_assoc, h0, h1, h2, h3]; rfl

theorem ret_int {k : IntKind} {a b : Int} (h : a = b) : Ending.returned (.int k a) = .returned (.int k b) := by rw [h]

/-- A word of a row that is owned. -/
theorem own_u {w : World} {base e g n cap : Nat} {L : List UInt32} (h : w.ownsRow base e 1 (.slice (some ⟨g, 0, none⟩) n cap) n (L.map U)) (hL : L.length = n) (j : Nat) (hj : j < n) :
    w.cell? ⟨g, j, none⟩ = some (.int .u32 ((L.getD j 0).toNat : Int)) := by
  rw [h.cellAt j (by omega), List.getElem?_map, List.getD_eq_getElem?_getD, List.getElem?_eq_getElem (by omega)]; rfl

theorem u_shr8 (x : UInt32) : (x.toNat : Int) / (8 : Int) = ((x >>> 3).toNat : Int) := by
  rw [UInt32.toNat_shiftRight]
  show _ = ((x.toNat >>> 3 : Nat) : Int)
  rw [Nat.shiftRight_eq_div_pow]; omega
theorem u_shr1024 (x : UInt32) : (x.toNat : Int) / (1024 : Int) = ((x >>> 10).toNat : Int) := by
  rw [UInt32.toNat_shiftRight]
  show _ = ((x.toNat >>> 10 : Nat) : Int)
  rw [Nat.shiftRight_eq_div_pow]; omega

theorem far_form (x : UInt32) : bits BinOp.xor IntKind.u32 (bits BinOp.xor IntKind.u32 ((turn x 7).toNat : Int) ((turn x 18).toNat : Int)) ((x.toNat : Int) / (8 : Int)) = ((sumFar x).toNat : Int) := by
  rw [u_shr8, u_xor, u_xor]; rfl
theorem near_form (x : UInt32) : bits BinOp.xor IntKind.u32 (bits BinOp.xor IntKind.u32 ((turn x 17).toNat : Int) ((turn x 19).toNat : Int)) ((x.toNat : Int) / (1024 : Int)) = ((sumNear x).toNat : Int) := by
  rw [u_shr1024, u_xor, u_xor]; rfl

theorem wrap_add (x y : UInt32) : IntKind.u32.wrap ((x.toNat : Int) + y.toNat) = ((x + y).toNat : Int) := by rw [IntKind.wrap_u32']; exact u_add x y

/-- The later words, as the walk leaves them. -/
theorem sched_hi (m : List UInt8) (k : Nat) (x16 x15 x7 x2 : UInt32) (hk : 16 ≤ k)
    (hb : (sched m k).getD (k - 16) 0 = x16 ∧ (sched m k).getD (k - 15) 0 = x15 ∧ (sched m k).getD (k - 7) 0 = x7 ∧ (sched m k).getD (k - 2) 0 = x2) :
    (sched m (k + 1)).map U = (sched m k).map U ++ [.int .u32 (IntKind.u32.wrap (IntKind.u32.wrap (IntKind.u32.wrap ((x16.toNat : Int) + (sumFar x15).toNat) + x7.toNat) + (sumNear x2).toNat))] := by
  obtain ⟨h0, h1, h2, h3⟩ := hb
  rw [wrap_add, wrap_add, wrap_add, sched, if_neg (by omega), List.map_append, h0, h1, h2, h3]; rfl

/-- The length of a slice, for a loop's measure. -/
def lenOf : Value → Nat | .slice _ n _ => n | _ => 0

/-- How many zeros stand behind the bit. -/
def zpad (n : Nat) : Nat := (119 - n % 64) % 64
def lenByte (N i : Nat) : UInt8 := UInt8.ofNat (N / 2 ^ (8 * i))
def beTo (N k : Nat) : List UInt8 := (List.range k).map fun q => lenByte N (7 - q)
def pad (l : List UInt8) : List UInt8 := l ++ [128] ++ List.replicate (zpad l.length) 0 ++ beTo (8 * l.length) 8

theorem zpad_ne (n j : Nat) (h : j < zpad n) : (n + 1 + j) % 64 ≠ 56 := by unfold zpad at h; omega
theorem zpad_eq (n : Nat) : (n + 1 + zpad n) % 64 = 56 := by unfold zpad; omega
theorem zpad_lt (n : Nat) : zpad n < 64 := by unfold zpad; omega
theorem beTo_succ (N k : Nat) : beTo N (k + 1) = beTo N k ++ [lenByte N (7 - k)] := by simp [beTo, List.range_succ]
theorem beTo_length (N k : Nat) : (beTo N k).length = k := by simp [beTo]
theorem pad_length (l : List UInt8) : (pad l).length = l.length + 9 + zpad l.length := by simp [pad, beTo_length]; omega

theorem lenByte_form (n i : Nat) : ((n : Int) * 8 / 2 ^ (8 * i) % 256) = ((lenByte (8 * n) i).toNat : Int) := by
  unfold lenByte
  rw [UInt8.toNat_ofNat', Nat.mul_comm 8 n]
  have e : ((n * 8 / 2 ^ (8 * i) % 2 ^ 8 : Nat) : Int) = ((n : Int) * 8 / 2 ^ (8 * i) % 256) := by
    rw [Int.natCast_emod, Int.natCast_ediv, Int.natCast_mul, Int.natCast_pow]; rfl
  exact e.symm

/-- The 64 constants, and the eight words of the start. -/
def kTab : List UInt32 := [1116352408, 1899447441, 3049323471, 3921009573, 961987163, 1508970993, 2453635748, 2870763221, 3624381080, 310598401, 607225278, 1426881987, 1925078388, 2162078206, 2614888103, 3248222580, 3835390401, 4022224774, 264347078, 604807628, 770255983, 1249150122, 1555081692, 1996064986, 2554220882, 2821834349, 2952996808, 3210313671, 3336571891, 3584528711, 113926993, 338241895, 666307205, 773529912, 1294757372, 1396182291, 1695183700, 1986661051, 2177026350, 2456956037, 2730485921, 2820302411, 3259730800, 3345764771, 3516065817, 3600352804, 4094571909, 275423344, 430227734, 506948616, 659060556, 883997877, 958139571, 1322822218, 1537002063, 1747873779, 1955562222, 2024104815, 2227730452, 2361852424, 2428436474, 2756734187, 3204031479, 3329325298]
def hTab : List UInt32 := [1779033703, 3144134277, 1013904242, 2773480762, 1359893119, 2600822924, 528734635, 1541459225]

structure St where
  a : UInt32
  b : UInt32
  c : UInt32
  d : UInt32
  e : UInt32
  f : UInt32
  g : UInt32
  z : UInt32

def first (k w : UInt32) (s : St) : UInt32 := s.z + sumE s.e + ch s.e s.f s.g + k + w
def rnd (k w : UInt32) (s : St) : St :=
  ⟨first k w s + (sumA s.a + maj s.a s.b s.c), s.a, s.b, s.c, s.d + first k w s, s.e, s.f, s.g⟩
def rnds (W : List UInt32) (s : St) : Nat → St
  | 0 => s
  | i + 1 => rnd (kTab.getD i 0) (W.getD i 0) (rnds W s i)
def ofL (h : List UInt32) : St := ⟨h.getD 0 0, h.getD 1 0, h.getD 2 0, h.getD 3 0, h.getD 4 0, h.getD 5 0, h.getD 6 0, h.getD 7 0⟩
/-- What a block makes of the state. -/
def comp (h : List UInt32) (m : List UInt8) : List UInt32 :=
  [h.getD 0 0 + (rnds (sched m 64) (ofL h) 64).a, h.getD 1 0 + (rnds (sched m 64) (ofL h) 64).b, h.getD 2 0 + (rnds (sched m 64) (ofL h) 64).c, h.getD 3 0 + (rnds (sched m 64) (ofL h) 64).d,
   h.getD 4 0 + (rnds (sched m 64) (ofL h) 64).e, h.getD 5 0 + (rnds (sched m 64) (ofL h) 64).f, h.getD 6 0 + (rnds (sched m 64) (ofL h) 64).g, h.getD 7 0 + (rnds (sched m 64) (ofL h) 64).z]

theorem u_not (x : UInt32) : bits BinOp.xor IntKind.u32 (if IntKind.u32.signed = true then -1 else IntKind.u32.max) (x.toNat : Int) = ((~~~x).toNat : Int) := by
  have e : (if IntKind.u32.signed = true then -1 else IntKind.u32.max : Int) = (((4294967295 : UInt32).toNat : Nat) : Int) := by decide
  rw [e, u_xor]
  have h : (4294967295 : UInt32) ^^^ x = ~~~x := by
    apply UInt32.toBitVec_inj.1
    rw [UInt32.toBitVec_xor, UInt32.toBitVec_not]
    exact BitVec.allOnes_xor
  rw [h]

theorem sumE_form (x : UInt32) : bits BinOp.xor IntKind.u32 (bits BinOp.xor IntKind.u32 ((turn x 6).toNat : Int) ((turn x 11).toNat : Int)) ((turn x 25).toNat : Int) = ((sumE x).toNat : Int) := by
  rw [u_xor, u_xor]; rfl
theorem sumA_form (x : UInt32) : bits BinOp.xor IntKind.u32 (bits BinOp.xor IntKind.u32 ((turn x 2).toNat : Int) ((turn x 13).toNat : Int)) ((turn x 22).toNat : Int) = ((sumA x).toNat : Int) := by
  rw [u_xor, u_xor]; rfl
theorem ch_form (e f g : UInt32) : bits BinOp.xor IntKind.u32 (bits BinOp.and IntKind.u32 (e.toNat : Int) (f.toNat : Int)) (bits BinOp.and IntKind.u32 (bits BinOp.xor IntKind.u32 (if IntKind.u32.signed = true then -1 else IntKind.u32.max) (e.toNat : Int)) (g.toNat : Int)) = ((ch e f g).toNat : Int) := by
  rw [u_not, u_and, u_and, u_xor]; rfl
theorem maj_form (a b c : UInt32) : bits BinOp.xor IntKind.u32 (bits BinOp.xor IntKind.u32 (bits BinOp.and IntKind.u32 (a.toNat : Int) (b.toNat : Int)) (bits BinOp.and IntKind.u32 (a.toNat : Int) (c.toNat : Int))) (bits BinOp.and IntKind.u32 (b.toNat : Int) (c.toNat : Int)) = ((maj a b c).toNat : Int) := by
  rw [u_and, u_and, u_and, u_xor, u_xor]; rfl
theorem rnds_succ (W : List UInt32) (s : St) (k : Nat) (kk ww : UInt32) (r : St) (h : rnds W s k = r) (hk : kTab.getD k 0 = kk ∧ W.getD k 0 = ww) : rnds W s (k + 1) = rnd kk ww r := by
  rw [rnds, h, hk.1, hk.2]
theorem comp_form (h : List UInt32) (m : List UInt8) (W : List UInt32) (x0 x1 x2 x3 x4 x5 x6 x7 va vb vc vd ve vf vg vz : UInt32)
    (he : h.getD 0 0 = x0 ∧ h.getD 1 0 = x1 ∧ h.getD 2 0 = x2 ∧ h.getD 3 0 = x3 ∧ h.getD 4 0 = x4 ∧ h.getD 5 0 = x5 ∧ h.getD 6 0 = x6 ∧ h.getD 7 0 = x7)
    (hw : sched m 64 = W) (hr : rnds W ⟨x0, x1, x2, x3, x4, x5, x6, x7⟩ 64 = ⟨va, vb, vc, vd, ve, vf, vg, vz⟩) :
    (comp h m).map U = [.int .u32 (IntKind.u32.wrap ((x0.toNat : Int) + va.toNat)), .int .u32 (IntKind.u32.wrap ((x1.toNat : Int) + vb.toNat)), .int .u32 (IntKind.u32.wrap ((x2.toNat : Int) + vc.toNat)), .int .u32 (IntKind.u32.wrap ((x3.toNat : Int) + vd.toNat)), .int .u32 (IntKind.u32.wrap ((x4.toNat : Int) + ve.toNat)), .int .u32 (IntKind.u32.wrap ((x5.toNat : Int) + vf.toNat)), .int .u32 (IntKind.u32.wrap ((x6.toNat : Int) + vg.toNat)), .int .u32 (IntKind.u32.wrap ((x7.toNat : Int) + vz.toNat))] := by
  obtain ⟨e0, e1, e2, e3, e4, e5, e6, e7⟩ := he
  unfold comp ofL
  rw [hw, e0, e1, e2, e3, e4, e5, e6, e7, hr]
  simp only [wrap_add]
  rfl
end Go.Proofs.Sha
namespace Go.Proofs.Sha
open Go Go.RowKit

/-- Thirty-two bytes as a key. -/
def K32 (X : List UInt8) : Value := .agg (X.map B).toArray
theorem mapM_some {α β : Type} (f : α → Option β) : ∀ l : List α, (∀ i ∈ l, ∃ y, f i = some y) → ∃ ys, l.mapM f = some ys
  | [], _ => ⟨[], rfl⟩
  | i :: l, h => by
    obtain ⟨y, hy⟩ := h i (List.mem_cons_self ..)
    obtain ⟨ys, hys⟩ := mapM_some f l (fun j hj => h j (List.mem_cons_of_mem _ hj))
    exact ⟨y :: ys, by rw [List.mapM_cons, hy, hys]; rfl⟩
theorem byte_wf (x : UInt8) : (Lit.int .u8 (x.toNat : Int)).wf = true := by
  have e1 : IntKind.u8.min = 0 := rfl
  have e2 : IntKind.u8.max = 255 := rfl
  have := UInt8.toNat_lt x
  unfold Lit.wf
  rw [Bool.and_eq_true, decide_eq_true_eq, decide_eq_true_eq, e1, e2]
  omega
theorem K32_inj {X Y : List UInt8} (h : K32 X = K32 Y) : X = Y := by
  unfold K32 at h
  simp only [Value.agg.injEq] at h
  have h' : X.map B = Y.map B := by
    have := congrArg Array.toList h
    simpa using this
  refine List.map_inj_right (f := B) ?_ |>.1 h'
  intro a b hab
  unfold B at hab
  simp only [Value.int.injEq, true_and] at hab
  exact UInt8.toNat_inj.1 (by omega)

/-- What is asked of the key's type. -/
structure Key32 (P : Program) (k e : TypeId) : Prop where
  ak : P.underlying k = some (.array 32 e)
  ae : P.underlying e = some (.int .u8)
  ce : P.cellsOf e = 1
  ck : P.cellsOf k = 32
  kt : P.keyType k = true
  law : WideMaps.KeyLaw P k
  tz : ∃ d, P.types.size = d + 1
section
variable {P : Program} {k e : TypeId}
theorem key_of (hk : Key32 P k e) (X : List UInt8) (hX : X.length = 32) : ∃ l, keyOf P k (K32 X) = some l := by
  have hform : (K32 X).formed P k = true := by
    unfold K32 Value.formed
    rw [hk.ak]
    simp [hk.ck, hX]
  have hcells : (K32 X).cells.toList = X.map B := by simp [K32, Value.cells]
  have hL : ∃ ls, P.keyLits (P.types.size + 1) k (X.map B) = some ls := by
    obtain ⟨ys, hys⟩ := mapM_some (fun i => P.keyLits P.types.size e (((X.map B).drop (i * P.cellsOf e)).take (P.cellsOf e))) (List.range 32) (fun i hi => by
      have hi' : i < X.length := by rw [hX]; exact List.mem_range.1 hi
      rw [hk.ce, Nat.mul_one]
      have e1 : ((X.map B).drop i).take 1 = [B X[i]] := by
        rw [List.drop_eq_getElem_cons (by rw [List.length_map]; exact hi'), List.take_succ_cons, List.take_zero, List.getElem_map]
      obtain ⟨d, hd⟩ := hk.tz
      refine ⟨[.int .u8 (X[i].toNat : Int)], ?_⟩
      rw [e1, hd]
      have hb := byte_wf X[i]
      simp [Program.keyLits, hk.ae, B, hb])
    refine ⟨ys.flatten, ?_⟩
    have hlen : (X.map B).length = P.cellsOf k := by rw [List.length_map, hX, hk.ck]
    simp only [Program.keyLits, hk.ak, hlen, if_true, hys, Option.map_some]
  obtain ⟨ls, hls⟩ := hL
  refine ⟨.string (keyBytes ls), ?_⟩
  unfold keyOf
  rw [hk.ak]
  simp only [hk.kt, hform, Bool.and_self, if_true, hcells, hls, Option.map_some]

/-- A map from thirty-two bytes to numbers, as a function. -/
structure MapF (F : List UInt8 → Option Int) (r : Nat) (w : World) : Prop where
  is : ∃ (es : Array MapEntry) (clock : Nat), w.heap[r]? = some (.map es clock) ∧ (∀ x ∈ es.toList, ∃ (X : List UInt8) (v : Int), X.length = 32 ∧ x.key = K32 X ∧ x.val = .int .i64 v ∧ F X = some v) ∧ (∀ X v, F X = some v → ∃ x ∈ es.toList, x.key = K32 X)
theorem MapF.below {F : List UInt8 → Option Int} {r : Nat} {w w' : World} (h : MapF F r w) (hb : Below w.heap.size w w') : MapF F r w' := by
  obtain ⟨es, clock, hg, h1, h2⟩ := h.is
  exact ⟨es, clock, (hb.block r (Array.getElem?_eq_some_iff.1 hg).1).trans hg, h1, h2⟩
theorem MapF.kept {F : List UInt8 → Option Int} {r g : Nat} {w w' : World} (h : MapF F r w) (hg : w.grownBy w' (some g)) (hne : r ≠ g) : MapF F r w' := by
  obtain ⟨es, clock, hh, h1, h2⟩ := h.is
  exact ⟨es, clock, (hg.block r (Array.getElem?_eq_some_iff.1 hh).1 (fun e => hne (Option.some.inj e))).trans hh, h1, h2⟩
theorem run_look (hk : Key32 P k e) {mt el : TypeId} (hm : P.underlying mt = some (.map k el)) (hz : ∀ w, (zeroValue el).run P w = .ok (.int .i64 0) w) {F : List UInt8 → Option Int} {r : Nat} {w : World} (h : MapF F r w) (X : List UInt8) (hX : X.length = 32) :
    (Instr.lookup mt (.map (some r)) (K32 X) true).run P w = .ok (.tuple #[.int .i64 ((F X).getD 0), .bool (F X).isSome]) w := by
  obtain ⟨es, clock, hg, h1, h2⟩ := h.is
  obtain ⟨l, hl⟩ := key_of hk X hX
  have hgo : (getObj r).run P w = .ok (.map es clock) w := by simp [getObj, Sem.run, hg]
  have hch := fun em => hk.law.check w em hl
  have hall : ∀ x ∈ es.toList, ∃ l, keyOf P k x.key = some l := fun x hx => by
    obtain ⟨Y, v, hY, hy, _, _⟩ := h1 x hx
    rw [hy]; exact key_of hk Y hY
  unfold Instr.lookup
  simp only [Sem.run_bind, run_underlying hm, Result.andThen_ok, hgo, Sem.run_pure, hch]
  rcases hk.law.find w hl es.toList hall with ⟨hf, hn⟩ | ⟨j, x, hf, hj, hx⟩
  · have hF : F X = none := by
      cases hFX : F X with
      | none => rfl
      | some v =>
        obtain ⟨x, hx, he⟩ := h2 X v hFX
        exact absurd he (hn x hx)
    simp only [hf, Result.andThen_ok, hF, Sem.run_bind, hz, Sem.run_pure]
    rfl
  · obtain ⟨Y, v, hY, hy, hv, hFY⟩ := h1 x (List.mem_of_getElem? hj)
    have : Y = X := K32_inj (hy.symm.trans hx)
    subst this
    simp only [hf, Result.andThen_ok, hFY, hv]
    rfl
theorem run_put (hk : Key32 P k e) {mt el : TypeId} (hm : P.underlying mt = some (.map k el)) {F : List UInt8 → Option Int} {r : Nat} {w : World} (h : MapF F r w) (X : List UInt8) (hX : X.length = 32) (hF : F X = none) (v : Int) :
    ∃ w', (Instr.mapUpdate mt (.map (some r)) (K32 X) (.int .i64 v)).run P w = .ok () w' ∧ MapF (fun Y => if Y = X then some v else F Y) r w' ∧ w.grownBy w' (some r) := by
  obtain ⟨es, clock, hg, h1, h2⟩ := h.is
  obtain ⟨l, hl⟩ := key_of hk X hX
  have hgo : (getObj r).run P w = .ok (.map es clock) w := by simp [getObj, Sem.run, hg]
  have hch := fun em => hk.law.check w em hl
  have hall : ∀ x ∈ es.toList, ∃ l, keyOf P k x.key = some l := fun x hx => by
    obtain ⟨Y, u, hY, hy, _, _⟩ := h1 x hx
    rw [hy]; exact key_of hk Y hY
  have hnone : (Instr.findKey k (K32 X) es.toList).run P w = .ok none w := by
    rcases hk.law.find w hl es.toList hall with ⟨hf, _⟩ | ⟨j, x, hf, hj, hx⟩
    · exact hf
    · obtain ⟨Y, u, hY, hy, _, hFY⟩ := h1 x (List.mem_of_getElem? hj)
      have : Y = X := K32_inj (hy.symm.trans hx)
      rw [this, hF] at hFY; cases hFY
  obtain ⟨o, ho⟩ : ∃ o : Obj, o = .map (es.push { key := K32 X, val := .int .i64 v, born := clock }) (clock + 1) := ⟨_, rfl⟩
  have hso : (setObj r o).run P w = .ok () { w with heap := w.heap.setIfInBounds r o } := by
    simp [setObj, Sem.run, hg]
  refine ⟨{ w with heap := w.heap.setIfInBounds r o }, ?_, ?_, ?_⟩
  · unfold Instr.mapUpdate
    simp only [Sem.run_bind, run_underlying hm, Result.andThen_ok, hgo, hch, hnone]
    rw [← ho]
    exact hso
  · have hlt : r < w.heap.size := (Array.getElem?_eq_some_iff.1 hg).1
    refine ⟨_, _, by show (w.heap.setIfInBounds r o)[r]? = _; rw [Array.getElem?_setIfInBounds_self, if_pos hlt, ho], ?_, ?_⟩
    · intro x hx
      rw [Array.toList_push, List.mem_append, List.mem_singleton] at hx
      rcases hx with hx | rfl
      · obtain ⟨Y, u, hY, hy, hv, hFY⟩ := h1 x hx
        refine ⟨Y, u, hY, hy, hv, ?_⟩
        rw [if_neg (fun e => by rw [e, hF] at hFY; cases hFY)]
        exact hFY
      · exact ⟨X, v, hX, rfl, rfl, if_pos rfl⟩
    · intro Y u hu
      rw [Array.toList_push]
      by_cases e : Y = X
      · subst e
        exact ⟨_, List.mem_append_right _ (List.mem_singleton.2 rfl), rfl⟩
      · rw [if_neg e] at hu
        obtain ⟨x, hx, hy⟩ := h2 Y u hu
        exact ⟨x, List.mem_append_left _ hx, hy⟩
  · refine ⟨rfl, rfl, rfl, by simp, fun j hj hne => ?_⟩
    show (w.heap.setIfInBounds r o)[j]? = _
    rw [Array.getElem?_setIfInBounds_ne (fun e => hne (by rw [e]))]
end
end Go.Proofs.Sha
