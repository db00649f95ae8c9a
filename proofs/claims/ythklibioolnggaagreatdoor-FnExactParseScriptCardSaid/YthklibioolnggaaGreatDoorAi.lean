import Derived.Test.YthklibioolnggaaGreatDoorAh
namespace Go.Proofs.YthklibioolnggaaGreatDoor
open Go.RowKit Go.Proofs.Sha

def bs (l : List UInt8) : ByteArray := ⟨l.toArray⟩
/-- The words that a line may begin with, and what follows: w a word, n a number, * any number of numbers. -/
def kindTab : List (List UInt8 × List UInt8) :=
  [([111, 112, 101, 110], []), ([112, 117, 116], [119, 119]), ([100, 101, 108], [119]), ([103, 101, 116], [119]), ([114, 97, 110, 103, 101], [119, 119]), ([99, 111, 109, 109, 105, 116], []), ([99, 104, 101, 99, 107, 111, 117, 116], [110]), ([118, 101, 114, 115, 105, 111, 110, 115], []), ([112, 114, 111, 118, 101], [110, 119, 119]), ([100, 105, 102, 102], [110, 110]), ([99, 108, 111, 115, 101], []), ([99, 114, 97, 115, 104], [42]), ([102, 117, 101, 108], [110])]
/-- A word's place among them. -/
def kindOf (l : List UInt8) : Option Nat := (kindTab.findIdx? fun p => p.1 == l)
def shapeOf (k : Nat) : List UInt8 := (kindTab.getD k ([], [])).2
structure OpT where
  kind : Nat
  key : ByteArray
  val : ByteArray
  n : Int
  m : Int
  picks : List Int
/-- Whether a part is as its letter asks. -/
def okT (c : UInt8) (t : ByteArray) : Bool := if c = 119 then isW t else (numI t.data.toList).2 && fitV c (numI t.data.toList).1
def wordsT : List UInt8 → List ByteArray → List ByteArray
  | c :: r, t :: u => if c = 119 then meanW t :: wordsT r u else wordsT r u
  | _, _ => []
def numsT : List UInt8 → List ByteArray → List Int
  | c :: r, t :: u => if c = 119 then numsT r u else (numI t.data.toList).1 :: numsT r u
  | _, _ => []
def allT : List UInt8 → List ByteArray → Bool
  | c :: r, t :: u => okT c t && allT r u
  | [], [] => true
  | _, _ => false
def shapeAt (k : Nat) (n : Nat) : List UInt8 := if shapeOf k = [42] then List.replicate n 110 else shapeOf k
def mkOp (k : Nat) (ws : List ByteArray) (ns : List Int) : OpT :=
  if shapeOf k = [42] then ⟨k + 1, ⟨#[]⟩, ⟨#[]⟩, 0, 0, ns⟩ else ⟨k + 1, ws.getD 0 ⟨#[]⟩, ws.getD 1 ⟨#[]⟩, ns.getD 0 0, ns.getD 1 0, []⟩
/-- What a line says. -/
def lineOp (l : ByteArray) : Option OpT :=
  match kindOf ((cutB 32 l).getD 0 ⟨#[]⟩).data.toList with
  | none => none
  | some k => if allT (shapeAt k (cutB 32 l).tail.length) (cutB 32 l).tail = true then some (mkOp k (wordsT (shapeAt k (cutB 32 l).tail.length) (cutB 32 l).tail) (numsT (shapeAt k (cutB 32 l).tail.length) (cutB 32 l).tail)) else none
def linesV (t : ByteArray) : List ByteArray := if ((cutB 10 t).getLast?.getD ⟨#[]⟩).size = 0 then (cutB 10 t).dropLast else cutB 10 t
/-- A head: a word and a number that fits. -/
def headV (word : List UInt8) (c : UInt8) (l : Option ByteArray) : Option Int :=
  match l with
  | none => none
  | some l => if (cutB 32 l).length = 2 ∧ ((cutB 32 l).getD 0 ⟨#[]⟩).data.toList = word ∧ okT c ((cutB 32 l).getD 1 ⟨#[]⟩) = true then some (numI ((cutB 32 l).getD 1 ⟨#[]⟩).data.toList).1 else none
def opsR : Nat → List ByteArray → List OpT → Int × List OpT
  | _, [], acc => (0, acc)
  | j, l :: r, acc => if j = 1000 then (1004, []) else match lineOp l with
    | none => ((j + 4 : Nat), [])
    | some o => opsR (j + 1) r (acc ++ [o])
structure ScT where
  code : Int
  wd : Int
  cap : Int
  ops : List OpT
def badS (c : Int) : ScT := ⟨c, 0, 0, []⟩
def parseR (t : ByteArray) : ScT :=
  if 60000 < t.size then badS 1 else
  match headV [119, 105, 100, 116, 104] 87 (linesV t)[0]? with
  | none => badS 2
  | some wd => match headV [99, 97, 112] 67 (linesV t)[1]? with
    | none => badS 3
    | some cap => if (opsR 0 ((linesV t).drop 2) []).1 = 0 then ⟨0, wd, cap, (opsR 0 ((linesV t).drop 2) []).2⟩ else badS (opsR 0 ((linesV t).drop 2) []).1

theorem cutB_ne (b : UInt8) (s : ByteArray) : 0 < (cutB b s).length := by
  rw [cutB, List.length_map]
  exact List.length_pos_iff.2 (cutL_ne b _)
theorem cutB_size (b : UInt8) (s : ByteArray) : (cutB b s).length ≤ s.size + 1 ∧ ∀ x ∈ cutB b s, x.size ≤ s.size := by
  have h := cutL_size b s.data.toList
  have hl : s.data.toList.length = s.size := rfl
  rw [cutB, List.length_map]
  refine ⟨by omega, fun x hx => ?_⟩
  obtain ⟨l, h1, rfl⟩ := List.mem_map.1 hx
  have := h.2 l h1
  show l.toArray.size ≤ s.size
  simp; omega
theorem getD_size {xs : List ByteArray} {n : Nat} (h : ∀ x ∈ xs, x.size ≤ n) (j : Nat) : (xs.getD j ⟨#[]⟩).size ≤ n := by
  rw [List.getD_eq_getElem?_getD]
  by_cases hj : j < xs.length
  · rw [List.getElem?_eq_getElem hj]; exact h _ (List.getElem_mem hj)
  · rw [List.getElem?_eq_none (by omega)]; exact Nat.zero_le _
theorem bs_eq {x y : ByteArray} : x.data.toList = y.data.toList ↔ x = y := ⟨fun h => by apply ByteArray.ext; apply Array.ext'; exact h, fun h => by rw [h]⟩

/-- The lines, given back by either side. -/
theorem last_get (xs : List ByteArray) (_h : 0 < xs.length) : xs.getLast?.getD ⟨#[]⟩ = xs.getD (xs.length - 1) ⟨#[]⟩ := by
  rw [List.getLast?_eq_getElem?, List.getD_eq_getElem?_getD]
theorem TArg.init {a : Option Addr} {ss : List ByteArray} {W : World} (h : TArg a ss W) (k : Nat) (hk : k ≤ ss.length) : TArg a (ss.take k) W := by
  refine ⟨fun h0 => ?_⟩
  rw [List.length_take] at h0
  obtain ⟨b, off, rfl, hlt, hc⟩ := h.at_ (by omega)
  refine ⟨b, off, rfl, hlt, fun j hj => ?_⟩
  rw [List.length_take] at hj
  rw [hc j (by omega), List.getD_eq_getElem?_getD, List.getD_eq_getElem?_getD, List.getElem?_take_of_lt (by omega)]

set_option maxRecDepth 100000 in
set_option maxHeartbeats 1000000 in
theorem llines_any (s : ByteArray) (w : World) (hs : s.size ≤ 1048576) :
    Calls Tryz.prog 9 #[.string s] w fun e w' => ∃ a c, e = .returned (.slice a (linesV s).length c) ∧ TArg a (linesV s) w' ∧ Below w.heap.size w w' := by
  have HC : Hid (∀ W, Calls Tryz.prog 19 #[.string s, .int .u8 10] W fun e w' => ∃ a c, e = .returned (.slice a (cutB 10 s).length c) ∧ (cutB 10 s).length ≤ c ∧ TArg a (cutB 10 s) w' ∧ Below W.heap.size W w') := fun W => cut_any s 10 W hs
  have hlv : Hid (linesV s = if ((cutB 10 s).getLast?.getD ⟨#[]⟩).size = 0 then (cutB 10 s).dropLast else cutB 10 s) := rfl
  have hne := cutB_ne 10 s
  have hsz := cutB_size 10 s
  obtain ⟨L, hL⟩ : ∃ L, linesV s = L := ⟨_, rfl⟩
  rw [hL] at hlv ⊢
  clear hL
  obtain ⟨P, hP⟩ : ∃ P, cutB 10 s = P := ⟨_, rfl⟩
  rw [hP] at HC hlv hne hsz
  clear hP
  have hx := getD_size hsz.2 (P.length - 1)
  have hlv : Hid (L = if (P.getD (P.length - 1) ⟨#[]⟩).size = 0 then P.take (P.length - 1) else P) := by
    show _ = _
    rw [hlv.out, last_get P hne, List.dropLast_eq_take]
  obtain ⟨n, hn⟩ : ∃ n, P.length = n + 1 := ⟨P.length - 1, by omega⟩
  have hPn : Hid (P.length = n + 1) := hn
  rw [hn] at HC hlv hsz hx
  rw [Nat.add_sub_cancel] at hx hlv
  have hn2 := hsz.1
  clear hsz hn hne
  have z1 : (0 : Int) ≤ (n : Int) := by omega
  have z2 : (n : Int) < (n : Int) + 1 := by omega
  go_enter Tryz.func9, Tryz.ntmps9
  go_upto_region 2 with (first | (go_at_call 19; refine (HC.out _).mono ?_; rintro e w1 ⟨a, c, rfl, hcap, hT, hb1⟩))
  obtain ⟨b, off, rfl, hlt, hc⟩ := hT.at_ (by rw [hPn.out]; omega)
  have c1 := hc n (by rw [hPn.out]; omega)
  generalize P.getD n ⟨#[]⟩ = x at c1 hx hlv
  clear hc HC
  have z4 : (n : Int) ≤ (c : Int) := by omega
  by_cases hx0 : x.size = 0
  · have hlv' : Hid (L = P.take n) := by show _ = _; rw [hlv.out, if_pos hx0]
    have hlen : Hid (L.length = n) := by show _ = _; rw [hlv'.out, List.length_take, hPn.out]; omega
    have hT' := hT.init n (by rw [hPn.out]; omega)
    rw [← hlv'.out] at hT'
    have e0 : ((x.size : Int) == 0) = true := by rw [hx0]; rfl
    clear hlv hlv' hx0 hT
    go_wp2_with fail
    go_ret
    exact ⟨some ⟨b, off, none⟩, c, by rw [hlen.out]; rfl, hT', hb1⟩
  · have hlv' : Hid (L = P) := by show _ = _; rw [hlv.out, if_neg hx0]
    have hlen : Hid (L.length = n + 1) := by show _ = _; rw [hlv'.out, hPn.out]
    have e0 : ((x.size : Int) == 0) = false := by rw [beq_eq_false_iff_ne]; omega
    rw [← hlv'.out] at hT
    clear hlv hlv' hx0
    go_wp2_with fail
    go_ret
    exact ⟨some ⟨b, off, none⟩, c, by rw [hlen.out]; rfl, hT, hb1⟩
end Go.Proofs.YthklibioolnggaaGreatDoor
