import Derived.Test.YtfmpjlpakldheaaGreatDoorZrav
import Derived.Test.YtfmpjlpakldheaaGreatDoorZrac
import Derived.Test.YtfmpjlpakldheaaGreatDoorZrad
import Derived.Test.YtfmpjlpakldheaaGreatDoorZrau
import Derived.Test.YtfmpjlpakldheaaGreatDoorZram
set_option maxRecDepth 100000
set_option maxHeartbeats 1000000
namespace Go.Proofs.YtfmpjlpakldheaaGreatDoor
open Go.RowKit Go.Proofs.Sha Tryz
theorem ret24 {w : World} {g : Nat} {k v l r : ByteArray} (h : NB g k v l r w) {a : Act} {R : Ending -> World -> Prop} (b : Bool) (h4 : a.tmps.getD 4 undef = .pointer (some ⟨g, 0, none⟩)) (h5 : a.tmps.getD 5 undef = .bool b) (hd : a.defers = [])
 (hR : R (.returned (.tuple #[nodeV k v l r, .bool b])) w) : bodyPost prog Tryz.f186 R .ret a w := by
 have c0 : w.cell? ⟨g, 0, none⟩ = some (.string k) := ZC h 0
 have c1 : w.cell? ⟨g, 1, none⟩ = some (.string v) := ZC h 1
 have c2 : w.cell? ⟨g, 2, none⟩ = some (.string l) := ZC h 2
 have c3 : w.cell? ⟨g, 3, none⟩ = some (.string r) := ZC h 3
 have h4' : a.tmps[4]?.getD undef = .pointer (some ⟨g, 0, none⟩) := by simpa using h4
 have h5' : a.tmps[5]?.getD undef = .bool b := by simpa using h5
 exact bodyPost_ret (v := .tuple #[nodeV k v l r, .bool b]) (by simp [results, Tryz.results186, go_sem, h4', h5', asAddr, c0, c1, c2, c3]) hd hR
def wholeV (s : ByteArray) (k v l x : ByteArray) (a' : Nat) (f' : Bool) : Value := if f' = false /\ a' = s.size then .tuple #[nodeV k v l x, .bool true] else .tuple #[nodeV ⟨#[]⟩ ⟨#[]⟩ ⟨#[]⟩ ⟨#[]⟩, .bool false]
theorem whole_node (n : Nat) (s : ByteArray) (w : World) (hs : s.size <= 1048576) (hn : n <= 32) :
 Calls prog 186 #[.string s, .iface 227 (.agg #[.int .i64 (n : Int)])] w fun e w' => ∃ (k v l x : ByteArray) (a' : Nat) (f' : Bool), e = .returned (wholeV s k v l x a' f') /\ Hid (NR n s 0 false k v l x a' f') /\ a' <= s.size /\ Below w.heap.size w w' := by
 obtain ⟨fb, hfb⟩ : ∃ fb, w.heap.size = fb := ⟨_, rfl⟩
 obtain ⟨w0, hw0⟩ : ∃ w0, w0 = (w.alloc (.cells #[.string ⟨#[]⟩, .string ⟨#[]⟩, .string ⟨#[]⟩, .string ⟨#[]⟩] 128)).alloc (.cells #[.string s, .int .i64 0, .bool false] 243) := ⟨_, rfl⟩
 have hr0 : Rd (fb + 1) s 0 false w0 := by
  rw [hw0]; unfold Rd; rw [show fb + 1 = (w.alloc (.cells #[.string ⟨#[]⟩, .string ⟨#[]⟩, .string ⟨#[]⟩, .string ⟨#[]⟩] 128)).heap.size by simp [hfb]]; exact heap_alloc_new _ _
 have hn0 : NB fb ⟨#[]⟩ ⟨#[]⟩ ⟨#[]⟩ ⟨#[]⟩ w0 := by
  rw [hw0]; exact below_cells ((Below.refl _ _).alloc (Nat.le_refl _) _) (by rw [<- hfb]; exact heap_alloc_new _ _)
 have hb0 : Below fb w w0 := by rw [hw0]; exact ((Below.refl _ _).alloc (by omega) _).alloc (by simp; omega) _
 have hs0 : w0.heap.size = fb + 2 := by rw [hw0]; simp [hfb]
 go_enter func186, ntmps186
 go_wp2_with fail
 rw [<- hw0]
 clear hw0
 refine (rnode n (fb + 1) s 0 false _ hr0 (by omega) hs hn).mono ?_
 rintro e w1 ⟨k, v, l, x, a', f', he, HNR, ha', hr1, hm1⟩
 have hn1 : NB fb ⟨#[]⟩ ⟨#[]⟩ ⟨#[]⟩ ⟨#[]⟩ w1 := hm1.cells hn0 (by omega)
 have hb1 : Below fb w w1 := hb0.trans (hm1.to_below (by omega) (by omega))
 have A1 : ∀ o, (w1.alloc o).heap[fb + 1]? = some (.cells #[.string s, .int .i64 (a' : Int), .bool f'] 243) := fun o => hr1.alloc o
 have B1 : ∀ o, NB fb ⟨#[]⟩ ⟨#[]⟩ ⟨#[]⟩ ⟨#[]⟩ (w1.alloc o) := fun o => below_cells ((Below.refl _ _).alloc (Nat.le_refl _) _) hn1
 have B2 : ∀ o o', NB fb ⟨#[]⟩ ⟨#[]⟩ ⟨#[]⟩ ⟨#[]⟩ ((w1.alloc o).alloc o') := fun o o' => below_cells ((Below.refl _ _).alloc (Nat.le_refl _) _) (B1 o)
 have e1 : ∀ o, (w1.alloc o).cell? ⟨fb + 1, 1, none⟩ = some (.int .i64 (a' : Int)) := fun o => ZC (A1 o) 1
 have e2 : ∀ o, (w1.alloc o).cell? ⟨fb + 1, 2, none⟩ = some (.bool f') := fun o => ZC (A1 o) 2
 have b0 : ∀ o, (w1.alloc o).cell? ⟨fb, 0, none⟩ = some (.string ⟨#[]⟩) := fun o => ZC (B1 o) 0
 have d0 : ∀ o, (w1.alloc o).frozen? ⟨fb, 0, none⟩ = false := fun o => frozen_of_heap (B1 o)
 have p0 : ∀ o o', ((w1.alloc o).alloc o').cell? ⟨fb, 0, none⟩ = some (.string ⟨#[]⟩) := fun o o' => ZC (B2 o o') 0
 have q0 : ∀ o o', ((w1.alloc o).alloc o').frozen? ⟨fb, 0, none⟩ = false := fun o o' => frozen_of_heap (B2 o o')
 have b1 : ∀ o, (w1.alloc o).cell? ⟨fb, 1, none⟩ = some (.string ⟨#[]⟩) := fun o => ZC (B1 o) 1
 have d1 : ∀ o, (w1.alloc o).frozen? ⟨fb, 1, none⟩ = false := fun o => frozen_of_heap (B1 o)
 have p1 : ∀ o o', ((w1.alloc o).alloc o').cell? ⟨fb, 1, none⟩ = some (.string ⟨#[]⟩) := fun o o' => ZC (B2 o o') 1
 have q1 : ∀ o o', ((w1.alloc o).alloc o').frozen? ⟨fb, 1, none⟩ = false := fun o o' => frozen_of_heap (B2 o o')
 have b2 : ∀ o, (w1.alloc o).cell? ⟨fb, 2, none⟩ = some (.string ⟨#[]⟩) := fun o => ZC (B1 o) 2
 have d2 : ∀ o, (w1.alloc o).frozen? ⟨fb, 2, none⟩ = false := fun o => frozen_of_heap (B1 o)
 have p2 : ∀ o o', ((w1.alloc o).alloc o').cell? ⟨fb, 2, none⟩ = some (.string ⟨#[]⟩) := fun o o' => ZC (B2 o o') 2
 have q2 : ∀ o o', ((w1.alloc o).alloc o').frozen? ⟨fb, 2, none⟩ = false := fun o o' => frozen_of_heap (B2 o o')
 have b3 : ∀ o, (w1.alloc o).cell? ⟨fb, 3, none⟩ = some (.string ⟨#[]⟩) := fun o => ZC (B1 o) 3
 have d3 : ∀ o, (w1.alloc o).frozen? ⟨fb, 3, none⟩ = false := fun o => frozen_of_heap (B1 o)
 have p3 : ∀ o o', ((w1.alloc o).alloc o').cell? ⟨fb, 3, none⟩ = some (.string ⟨#[]⟩) := fun o o' => ZC (B2 o o') 3
 have q3 : ∀ o o', ((w1.alloc o).alloc o').frozen? ⟨fb, 3, none⟩ = false := fun o o' => frozen_of_heap (B2 o o')
 have HB1 : Hid (∀ o, NB fb ⟨#[]⟩ ⟨#[]⟩ ⟨#[]⟩ ⟨#[]⟩ (w1.alloc o)) := B1
 have HB2 : Hid (∀ o o', NB fb ⟨#[]⟩ ⟨#[]⟩ ⟨#[]⟩ ⟨#[]⟩ ((w1.alloc o).alloc o')) := B2
 have hsz1 : fb <= w1.heap.size := by have := hm1.size; omega
 clear A1 B1 B2 hn1 hm1 hr1 hr0 hn0 hb0 hs0
 have HBl1 : Hid (∀ o (x0 x1 x2 x3 : Value), Below w.heap.size w (((((w1.alloc o).setCell ⟨fb, 0, none⟩ x0).setCell ⟨fb, 1, none⟩ x1).setCell ⟨fb, 2, none⟩ x2).setCell ⟨fb, 3, none⟩ x3)) := fun o x0 x1 x2 x3 => by
  rw [hfb]; exact (((((hb1.alloc hsz1 o).setCell (Nat.le_refl _) _).setCell (Nat.le_refl _) _).setCell (Nat.le_refl _) _).setCell (Nat.le_refl _) _)
 have HBl2 : Hid (∀ o o' (x0 x1 x2 x3 : Value), Below w.heap.size w ((((((w1.alloc o).alloc o').setCell ⟨fb, 0, none⟩ x0).setCell ⟨fb, 1, none⟩ x1).setCell ⟨fb, 2, none⟩ x2).setCell ⟨fb, 3, none⟩ x3)) := fun o o' x0 x1 x2 x3 => by
  rw [hfb]; exact ((((((hb1.alloc hsz1 o).alloc (by simp; omega) o').setCell (Nat.le_refl _) _).setCell (Nat.le_refl _) _).setCell (Nat.le_refl _) _).setCell (Nat.le_refl _) _)
 clear hb1 hsz1
 cases f'
 · rw [if_neg (by simp)] at he
   subst he
   by_cases hlt : a' < s.size
   · have z1 : decide ((a' : Int) < (s.size : Int)) = true := by simp; omega
     go_wp2_with fail
     refine ret24 ((((HB2.out _ _).s0 _).s1 _).s2 _ |>.s3 _) false rfl rfl rfl ⟨k, v, l, x, a', false, ?_, HNR, ha', HBl2.out _ _ _ _ _ _⟩
     unfold wholeV; rw [if_neg (by omega)]
   · have z1 : decide ((a' : Int) < (s.size : Int)) = false := by simp; omega
     go_wp2_with fail
     refine ret24 ((((HB1.out _).s0 _).s1 _).s2 _ |>.s3 _) true rfl rfl rfl ⟨k, v, l, x, a', false, ?_, HNR, ha', HBl1.out _ _ _ _ _⟩
     unfold wholeV; rw [if_pos ⟨rfl, by omega⟩]
 · rw [if_pos rfl] at he
   subst he
   go_wp2_with fail
   refine ret24 ((((HB2.out _ _).s0 _).s1 _).s2 _ |>.s3 _) false rfl rfl rfl ⟨k, v, l, x, a', true, ?_, HNR, ha', HBl2.out _ _ _ _ _ _⟩
   unfold wholeV; rw [if_neg (by simp)]
theorem ex_list (s : ByteArray) (a n : Nat) : (s.extract a (a + n)).data.toList = (s.data.toList.drop a).take n := by
 conv => lhs; rw [<- T_of s, T_extract]
 rw [T_data, Nat.add_sub_cancel_left]
theorem ex_size (s : ByteArray) (a n : Nat) (h : a + n <= s.size) : (s.extract a (a + n)).size = n := by
 rw [ByteArray.size_extract]; omega
theorem byteAt_ex (s : ByteArray) (a n i : Nat) (hi : i < n) : byteAt (s.extract a (a + n)) i = (s.data.toList.getD (a + i) 0).toNat := by
 unfold byteAt
 rw [ex_list, List.getD_eq_getElem?_getD, List.getD_eq_getElem?_getD, List.getElem?_take_of_lt hi, List.getElem?_drop]
theorem or_add (x y k : Nat) (h : y < 2 ^ k) : x * 2 ^ k ||| y = x * 2 ^ k + y := by
 rw [Nat.mul_comm, <- Nat.two_pow_add_eq_or_of_lt h]
theorem val1 (b : Nat -> Nat) : valTo 1 false b 1 = b 0 := by simp [valTo]
theorem val2 (b : Nat -> Nat) (hb : ∀ i, b i < 256) : valTo 2 false b 2 = b 0 * 256 + b 1 := by
 have e : valTo 2 false b 2 = b 0 * 2 ^ 8 ||| b 1 := by simp [valTo]
 rw [e, or_add _ _ 8 (hb 1)]
theorem SX2 {s : ByteArray} {a : Nat} {f : Bool} {t : ByteArray} {a' : Nat} {f' : Bool} (h : SX 2 false s a f t a' f') :
 (f = false /\ pieceOk s a /\ t = s.extract (a + 2) (a + 2 + szAt s a) /\ a' = a + 2 + szAt s a /\ f' = false) \/ ((f = true \/ ¬ pieceOk s a) /\ f' = true) := by
 obtain ⟨t1, a1, f1, h1, h2⟩ := h
 rcases h1 with ⟨hf, hle, ht1, ha1, hf1⟩ | ⟨hf, ht1, ha1, hf1⟩
 · have hv : valTo 2 false (byteAt t1) t1.size = szAt s a := by
    rw [ht1, ex_size s a 2 hle, val2 _ (byteAt_lt _), byteAt_ex s a 2 0 (by omega), byteAt_ex s a 2 1 (by omega)]
    rfl
   rw [hv] at h2
   rcases h2 with ⟨_, hle2, ht, ha', hf'⟩ | ⟨hf2, _, _, hf'⟩
   · subst ha1
     exact .inl ⟨hf, ⟨hle, hle2⟩, ht, ha', hf'⟩
   · subst ha1
     refine .inr ⟨.inr fun hp => ?_, hf'⟩
     rcases hf2 with h | h
     · rw [hf1] at h; cases h
     · exact h hp.2
 · rcases h2 with ⟨hf2, _⟩ | ⟨_, _, _, hf'⟩
   · rw [hf1] at hf2; cases hf2
   · refine .inr ⟨?_, hf'⟩
     rcases hf with h | h
     · exact .inl h
     · exact .inr fun hp => h hp.1
theorem NX1 {s : ByteArray} {a : Nat} {f : Bool} {t : ByteArray} {a' : Nat} {f' : Bool} (h : NX s a f 1 t a' f') :
 (f = false /\ a + 1 <= s.size /\ valTo 1 false (byteAt t) t.size = (s.data.toList.getD a 0).toNat /\ a' = a + 1 /\ f' = false) \/ ((f = true \/ ¬ a + 1 <= s.size) /\ f' = true) := by
 rcases h with ⟨hf, hle, ht, ha', hf'⟩ | ⟨hf, _, _, hf'⟩
 · refine .inl ⟨hf, hle, ?_, ha', hf'⟩
   rw [ht, ex_size s a 1 hle, val1, byteAt_ex s a 1 0 (by omega)]
   rfl
 · exact .inr ⟨hf, hf'⟩
theorem NR.ok {n : Nat} {s k v l x : ByteArray} {a' : Nat} (h : NR n s 0 false k v l x a' false) :
 ∃ a1 a2 fl, pieceOk s 0 /\ k = s.extract (0 + 2) (0 + 2 + szAt s 0) /\ a1 = 0 + 2 + szAt s 0 /\ pieceOk s a1 /\ v = s.extract (a1 + 2) (a1 + 2 + szAt s a1) /\ a2 = a1 + 2 + szAt s a1 /\ a2 + 1 <= s.size /\ fl = (s.data.toList.getD a2 0).toNat ∧
  a2 + 1 + (if fl &&& 1 = 0 then 0 else n) + (if fl &&& 2 = 0 then 0 else n) <= s.size /\ l = s.extract (a2 + 1) (a2 + 1 + (if fl &&& 1 = 0 then 0 else n)) ∧
  x = s.extract (a2 + 1 + (if fl &&& 1 = 0 then 0 else n)) (a2 + 1 + (if fl &&& 1 = 0 then 0 else n) + (if fl &&& 2 = 0 then 0 else n)) /\ a' = a2 + 1 + (if fl &&& 1 = 0 then 0 else n) + (if fl &&& 2 = 0 then 0 else n) /\ fl <= 3 /\ nodeOk k.size v.size l.size x.size (n : Int) = true := by
 obtain ⟨a1, f1, a2, f2, fl, t3, a3, f3, a4, f4, f5, h1, h2, h3, hfl, h4, h5, hf⟩ := h
 have hf5 : f5 = false /\ ¬ 3 < fl /\ nodeOk k.size v.size l.size x.size (n : Int) = true := by
  cases f5
  · simp at hf; exact ⟨rfl, by omega, hf.2⟩
  · simp at hf
 rcases h5 with ⟨g4, hle5, hx, ha', _⟩ | ⟨_, _, _, g⟩
 rotate_left
 · rw [hf5.1] at g; cases g
 rcases h4 with ⟨g3, hle4, hl, ha4, _⟩ | ⟨_, _, _, g⟩
 rotate_left
 · rw [g4] at g; cases g
 rcases NX1 h3 with ⟨g2, hle3, hv3, ha3, _⟩ | ⟨_, g⟩
 rotate_left
 · rw [g3] at g; cases g
 rcases SX2 h2 with ⟨g1, hp2, hv, ha2, _⟩ | ⟨_, g⟩
 rotate_left
 · rw [g2] at g; cases g
 rcases SX2 h1 with ⟨_, hp1, hk, ha1, _⟩ | ⟨_, g⟩
 rotate_left
 · rw [g1] at g; cases g
 subst ha4 ha3
 exact ⟨a1, a2, fl, hp1, hk, ha1, hp2, hv, ha2, hle3, by rw [hfl, hv3], hle5, hl, hx, ha', by omega, hf5.2.2⟩
theorem seg_add (L : List UInt8) (a m p : Nat) : (L.drop a).take m ++ (L.drop (a + m)).take p = (L.drop a).take (m + p) := by
 rw [List.take_add, List.drop_drop]
theorem seg_two (L : List UInt8) (a : Nat) (h : a + 2 <= L.length) : (L.drop a).take 2 = [L.getD a 0, L.getD (a + 1) 0] := by
 rw [List.getD_eq_getElem?_getD, List.getD_eq_getElem?_getD, List.getElem?_eq_getElem (by omega), List.getElem?_eq_getElem (by omega), List.drop_eq_getElem_cons (by omega), List.take_succ_cons, List.drop_eq_getElem_cons (by omega), List.take_succ_cons, List.take_zero]
 rfl
theorem seg_one (L : List UInt8) (a : Nat) (h : a + 1 <= L.length) : (L.drop a).take 1 = [L.getD a 0] := by
 rw [List.getD_eq_getElem?_getD, List.getElem?_eq_getElem (by omega), List.drop_eq_getElem_cons (by omega), List.take_succ_cons, List.take_zero]
 rfl
theorem sized_seg (s : ByteArray) (a : Nat) (h : pieceOk s a) : sized (s.extract (a + 2) (a + 2 + szAt s a)).data.toList = (s.data.toList.drop a).take (2 + szAt s a) := by
 have hL : s.data.toList.length = s.size := rfl
 have hlen : ((s.data.toList.drop (a + 2)).take (szAt s a)).length = szAt s a := by
  have := h.2
  rw [List.length_take, List.length_drop]; omega
 rw [ex_list, <- seg_add, seg_two _ _ (by rw [hL]; exact h.1), sized, hlen]
 have h0 := (s.data.toList.getD a 0).toNat_lt
 have h1 := (s.data.toList.getD (a + 1) 0).toNat_lt
 have e0 : szAt s a / 256 = (s.data.toList.getD a 0).toNat := by unfold szAt; omega
 have e1 : szAt s a % 256 = (s.data.toList.getD (a + 1) 0).toNat := by unfold szAt; omega
 rw [e0, e1]
 simp
theorem flag_eq (fl n l x : Nat) (hfl : fl <= 3) (hn : 1 <= n) (hl : l = if fl &&& 1 = 0 then 0 else n) (hx : x = if fl &&& 2 = 0 then 0 else n) : flagOf l x = fl := by
 subst hl hx
 have : fl = 0 \/ fl = 1 \/ fl = 2 \/ fl = 3 := by omega
 have h0 : ¬ n = 0 := by omega
 rcases this with rfl | rfl | rfl | rfl <;> simp [flagOf, h0]
theorem flag_back (fl n l x : Nat) (hn : 1 <= n) (hfl : fl = flagOf l x) (hl : l = 0 \/ l = n) (hx : x = 0 \/ x = n) : (if fl &&& 1 = 0 then 0 else n) = l /\ (if fl &&& 2 = 0 then 0 else n) = x /\ fl <= 3 := by
 subst hfl
 unfold flagOf
 rcases hl with rfl | rfl <;> rcases hx with rfl | rfl
 · simp
 · have h : ¬ x = 0 := by omega
   simp [h]
 · have h : ¬ l = 0 := by omega
   simp [h]
 · have h : ¬ x = 0 := by omega
   simp [h]
theorem NR.enc {n : Nat} {s k v l x : ByteArray} (h : NR n s 0 false k v l x s.size false) : IsEnc s (n : Int) k v l x := by
 obtain ⟨a1, a2, fl, hp0, hk, ha1, hp1, hv, ha2, hle, hfl, hle2, hl, hx, hend, hfl3, hok⟩ := h.ok
 have ho := nodeOk_out hok
 refine ⟨hok, ?_⟩
 have hL : s.data.toList.length = s.size := rfl
 obtain ⟨n1, hn1⟩ : ∃ m, (if fl &&& 1 = 0 then 0 else n) = m := ⟨_, rfl⟩
 obtain ⟨n2, hn2⟩ : ∃ m, (if fl &&& 2 = 0 then 0 else n) = m := ⟨_, rfl⟩
 rw [hn1, hn2] at hle2 hx hend
 rw [hn1] at hl
 have hls : l.size = n1 := by rw [hl]; exact ex_size s _ _ (by omega)
 have hxs : x.size = n2 := by rw [hx]; exact ex_size s _ _ (by omega)
 have hf : flagOf l.size x.size = fl := flag_eq fl n _ _ hfl3 (by omega) (by rw [hls, hn1]) (by rw [hxs, hn2])
 refine of_list ?_
 unfold encL
 rw [show l.data.toList.length = l.size from rfl, show x.data.toList.length = x.size from rfl, hf]
 have e4 : x.data.toList = (s.data.toList.drop (a2 + 1 + n1)).take n2 := by rw [hx]; exact ex_list _ _ _
 have e3 : l.data.toList = (s.data.toList.drop (a2 + 1)).take n1 := by rw [hl]; exact ex_list _ _ _
 have e2 : [UInt8.ofNat fl] = (s.data.toList.drop a2).take 1 := by rw [seg_one _ _ (by rw [hL]; exact hle), hfl]; simp
 have e1 : sized v.data.toList = (s.data.toList.drop a1).take (2 + szAt s a1) := by rw [hv]; exact sized_seg s a1 hp1
 have e0 : sized k.data.toList = (s.data.toList.drop 0).take (2 + szAt s 0) := by rw [hk]; exact sized_seg s 0 hp0
 rw [e0, e1, e2, e3, e4]
 obtain ⟨z0, hz0⟩ : ∃ z, szAt s 0 = z := ⟨_, rfl⟩
 obtain ⟨z1, hz1⟩ : ∃ z, szAt s a1 = z := ⟨_, rfl⟩
 rw [hz0, hz1]
 rw [show a1 = 0 + (2 + z0) by omega, seg_add, show a2 = 0 + (2 + z0 + (2 + z1)) by omega, seg_add, show 0 + (2 + z0 + (2 + z1)) + 1 = 0 + (2 + z0 + (2 + z1) + 1) by omega, seg_add, show 0 + (2 + z0 + (2 + z1) + 1) + n1 = 0 + (2 + z0 + (2 + z1) + 1 + n1) by omega, seg_add]
 rw [List.drop_zero, List.take_of_length_le (by rw [hL]; omega)]
theorem NR.no {n : Nat} {s k v l x : ByteArray} {a' : Nat} {f' : Bool} (h : NR n s 0 false k v l x a' f') (hno : ¬ (f' = false /\ a' = s.size)) (k' v' l' x' : ByteArray) : ¬ IsEnc s (n : Int) k' v' l' x' := by
 intro hE
 obtain ⟨p1, p2, p3⟩ := hE.parts
 obtain ⟨q1, q2, q3⟩ := p3 _ rfl
 obtain ⟨r1, r2⟩ := q3 _ rfl
 have ho := nodeOk_out hE.1
 obtain ⟨a1, f1, a2, f2, fl, t3, a3, f3, a4, f4, f5, h1, h2, h3, hfl, h4, h5, hf⟩ := h
 rcases SX2 h1 with ⟨_, hp1, hk, ha1, hf1⟩ | ⟨g, _⟩
 rotate_left
 · rcases g with g | g
   · cases g
   · exact g ⟨by omega, by omega⟩
 rcases SX2 h2 with ⟨_, hp2, hv, ha2, hf2⟩ | ⟨g, _⟩
 rotate_left
 · rcases g with g | g
   · rw [hf1] at g; cases g
   · subst ha1; exact g ⟨by omega, by omega⟩
 rcases NX1 h3 with ⟨_, hle3, hv3, ha3, hf3⟩ | ⟨g, _⟩
 rotate_left
 · rcases g with g | g
   · rw [hf2] at g; cases g
   · subst ha1 ha2; exact g (by omega)
 have hflv : fl = flagOf l'.size x'.size := by subst ha1 ha2; rw [hfl, hv3, r1]
 have hb := flag_back fl n l'.size x'.size (by omega) hflv (by omega) (by omega)
 have hsz : s.size - (a2 + 1) = l'.size + x'.size := by
  subst ha1 ha2
  have := congrArg ByteArray.size r2
  rw [ByteArray.size_extract, ByteArray.size_append] at this
  omega
 rw [hb.1] at h4
 rw [hb.2.1] at h5
 rcases h4 with ⟨_, hle4, hl, ha4, hf4⟩ | ⟨g, _⟩
 rotate_left
 · rcases g with g | g
   · rw [hf3] at g; cases g
   · exact g (by omega)
 rcases h5 with ⟨_, hle5, hx, ha5, hf5⟩ | ⟨g, _⟩
 rotate_left
 · rcases g with g | g
   · rw [hf4] at g; cases g
   · exact g (by omega)
 apply hno
 have hks : k = k' := by rw [hk, p2]
 have hvs : v = v' := by subst ha1; rw [hv, q2]
 have hls : l.size = l'.size := by rw [hl]; exact ex_size s _ _ (by omega)
 have hxs : x.size = x'.size := by rw [hx]; exact ex_size s _ _ (by omega)
 refine ⟨?_, by omega⟩
 rw [hf, hf5, hks, hvs, hls, hxs, hE.1, decide_eq_false (by omega)]
 rfl
theorem ret11 {w : World} {g : Nat} {k v l r : ByteArray} (h : NB g k v l r w) {a : Act} {R : Ending -> World -> Prop} (b : Bool) (h4 : a.tmps.getD 4 undef = .pointer (some ⟨g, 0, none⟩)) (h5 : a.tmps.getD 5 undef = .bool b) (hd : a.defers = [])
 (hR : R (.returned (.tuple #[nodeV k v l r, .bool b])) w) : bodyPost prog Tryz.f181 R .ret a w := by
 have c0 : w.cell? ⟨g, 0, none⟩ = some (.string k) := ZC h 0
 have c1 : w.cell? ⟨g, 1, none⟩ = some (.string v) := ZC h 1
 have c2 : w.cell? ⟨g, 2, none⟩ = some (.string l) := ZC h 2
 have c3 : w.cell? ⟨g, 3, none⟩ = some (.string r) := ZC h 3
 have h4' : a.tmps[4]?.getD undef = .pointer (some ⟨g, 0, none⟩) := by simpa using h4
 have h5' : a.tmps[5]?.getD undef = .bool b := by simpa using h5
 exact bodyPost_ret (v := .tuple #[nodeV k v l r, .bool b]) (by simp [results, Tryz.results181, go_sem, h4', h5', asAddr, c0, c1, c2, c3]) hd hR
theorem dec_impl (s : ByteArray) (n : Int) (w : World) (hs : s.size <= 1048576) :
 Calls prog 181 #[.string s, .int .i64 n] w fun e w' => decPost s n e /\ Below w.heap.size w w' := by
 by_cases hw : 1 <= n /\ n <= 32
 · obtain ⟨m, rfl⟩ := Int.eq_ofNat_of_zero_le (show 0 <= n by omega)
   have z1 : decide ((1 : Int) <= (m : Int)) = true := by simp; omega
   have z2 : decide ((m : Int) <= 32) = true := by simp; omega
   have HC : Hid (∀ w', Calls prog 186 #[.string s, .iface 227 (.agg #[.int .i64 (m : Int)])] w' fun e w'' => ∃ (k v l x : ByteArray) (b : Bool), e = .returned (.tuple #[nodeV k v l x, .bool b]) /\ Hid (decPost s (m : Int) (.returned (.tuple #[nodeV k v l x, .bool b]))) /\ Below w'.heap.size w' w'') := by
    intro w'
    refine (whole_node m s w' hs (by omega)).mono ?_
    rintro e w'' ⟨k, v, l, x, a', f', rfl, HNR, ha', hb⟩
    by_cases hc : f' = false /\ a' = s.size
    · refine ⟨k, v, l, x, true, by unfold wholeV; rw [if_pos hc], .inl ⟨k, v, l, x, ?_, rfl⟩, hb⟩
      have := HNR.out
      rw [hc.1, hc.2] at this
      exact this.enc
    · exact ⟨⟨#[]⟩, ⟨#[]⟩, ⟨#[]⟩, ⟨#[]⟩, false, by unfold wholeV; rw [if_neg hc], .inr ⟨fun k' v' l' x' => HNR.out.no hc k' v' l' x', rfl⟩, hb⟩
   obtain ⟨fb, hfb⟩ : ∃ fb, w.heap.size = fb := ⟨_, rfl⟩
   go_enter func181, ntmps181
   go_wp2_with (first | (go_at_call 186; refine (HC.out _).mono ?_; rintro e w1 ⟨k, v, l, x, b, rfl, HD, hb1⟩; have hn1 : NB fb ⟨#[]⟩ ⟨#[]⟩ ⟨#[]⟩ ⟨#[]⟩ w1 := below_cells hb1 (by rw [<- hfb]; exact heap_alloc_new _ _); have c0 : w1.cell? ⟨fb, 0, none⟩ = some (.string ⟨#[]⟩) := ZC hn1 0; have c1 : w1.cell? ⟨fb, 1, none⟩ = some (.string ⟨#[]⟩) := ZC hn1 1; have c2 : w1.cell? ⟨fb, 2, none⟩ = some (.string ⟨#[]⟩) := ZC hn1 2; have c3 : w1.cell? ⟨fb, 3, none⟩ = some (.string ⟨#[]⟩) := ZC hn1 3; have f0 : w1.frozen? ⟨fb, 0, none⟩ = false := frozen_of_heap hn1; have f1 : w1.frozen? ⟨fb, 1, none⟩ = false := frozen_of_heap hn1; have f2 : w1.frozen? ⟨fb, 2, none⟩ = false := frozen_of_heap hn1; have f3 : w1.frozen? ⟨fb, 3, none⟩ = false := frozen_of_heap hn1) | go_in)
   refine ret11 ((((hn1.s0 _).s1 _).s2 _).s3 _) b rfl rfl rfl ⟨HD.out, ?_⟩
   have hb2 : Below fb w w1 := ((Below.refl _ w).alloc (by omega) _).trans (hb1.mono (by simp [hfb]))
   rw [hfb]
   exact (((hb2.setCell (Nat.le_refl _) _).setCell (Nat.le_refl _) _).setCell (Nat.le_refl _) _).setCell (Nat.le_refl _) _
 · have HN : Hid (∀ k v l r, ¬ IsEnc s n k v l r) := fun k v l r hE => by have := nodeOk_out hE.1; omega
   by_cases h1 : 1 <= n
   · have z1 : decide (1 <= n) = true := by simp; omega
     have z2 : decide (n <= 32) = false := by simp; omega
     go_enter func181, ntmps181
     go_wp2_with go_in
     exact ret11 (heap_alloc_new _ _) false rfl rfl rfl ⟨.inr ⟨HN.out, rfl⟩, (Below.refl _ _).alloc (Nat.le_refl _) _⟩
   · have z1 : decide (1 <= n) = false := by simp; omega
     go_enter func181, ntmps181
     go_wp2_with go_in
     exact ret11 (heap_alloc_new _ _) false rfl rfl rfl ⟨.inr ⟨HN.out, rfl⟩, (Below.refl _ _).alloc (Nat.le_refl _) _⟩
theorem IsEnc.one {s : ByteArray} {n : Int} {k v l r k' v' l' r' : ByteArray} (h : IsEnc s n k v l r) (h' : IsEnc s n k' v' l' r') : k = k' /\ v = v' /\ l = l' /\ r = r' := by
 obtain ⟨_, p2, p3⟩ := h.parts
 obtain ⟨_, p2', p3'⟩ := h'.parts
 obtain ⟨_, q2, q3⟩ := p3 _ rfl
 obtain ⟨_, q2', q3'⟩ := p3' _ rfl
 obtain ⟨r1, r2⟩ := q3 _ rfl
 obtain ⟨r1', r2'⟩ := q3' _ rfl
 refine ⟨p2.trans p2'.symm, q2.trans q2'.symm, ?_⟩
 have s1 := h.sides r1 r2
 have s2 := h'.sides r1' r2'
 by_cases hf : (s.data.toList.getD (0 + 2 + szAt s 0 + 2 + szAt s (0 + 2 + szAt s 0)) 0).toNat % 2 = 1
 · have t1 := s1.1 hf
   have t2 := s2.1 hf
   exact ⟨t1.2.1.trans t2.2.1.symm, t1.2.2.trans t2.2.2.symm⟩
 · have t1 := s1.2 hf
   have t2 := s2.2 hf
   exact ⟨t1.1.trans t2.1.symm, t1.2.trans t2.2.symm⟩
theorem decPost.one {s : ByteArray} {n : Int} {e e' : Ending} (h : decPost s n e) (h' : decPost s n e') : e = e' := by
 rcases h with ⟨k, v, l, r, hE, rfl⟩ | ⟨hN, rfl⟩ <;> rcases h' with ⟨k', v', l', r', hE', rfl⟩ | ⟨hN', rfl⟩
 · obtain ⟨rfl, rfl, rfl, rfl⟩ := hE.one hE'
   rfl
 · exact absurd hE (hN' _ _ _ _)
 · exact absurd hE' (hN _ _ _ _)
 · rfl
theorem dec_ex (n : Int) (s : ByteArray) : ∃ x : ByteArray × ByteArray × ByteArray × ByteArray × Bool, decPost s n (.returned (.tuple #[nodeV x.1 x.2.1 x.2.2.1 x.2.2.2.1, .bool x.2.2.2.2])) := by
 by_cases hE : ∃ k v l r, IsEnc s n k v l r
 · obtain ⟨k, v, l, r, hE⟩ := hE
   exact ⟨(k, v, l, r, true), .inl ⟨k, v, l, r, hE, rfl⟩⟩
 · exact ⟨(⟨#[]⟩, ⟨#[]⟩, ⟨#[]⟩, ⟨#[]⟩, false), .inr ⟨fun k v l r h => hE ⟨k, v, l, r, h⟩, rfl⟩⟩
theorem goF_ok {fnd : ByteArray -> FN} {hg : ByteArray -> ByteArray -> Bool} {lo hi : ByteArray} {wd : Nat} (hfo : FndOk wd fnd) : ∀ (f : Nat) (hash over under par : ByteArray) (cnt : Nat), ∀ p ∈ (goF fnd hg lo hi f hash over under par cnt).2.2, okKey p.1 = true /\ okVal p.2 = true
 | 0, _, _, _, _, _, p, hp => by rw [goF] at hp; cases hp
 | f + 1, hash, over, under, par, cnt, p, hp => by
  cases h1 : (emp hash || !canW over under lo hi) with
  | true => rw [goF_skip h1] at hp; cases hp
  | false =>
   by_cases h2 : (fnd hash).2 = 2
   · rw [goF_missing h1 h2] at hp; cases hp
   · by_cases h20 : (fnd hash).2 = 0
     · cases h3 : (insW over under (fnd hash).1.1 && parW hg par (fnd hash).1.1) with
       | false => rw [goF_place h1 h20 h3] at hp; cases hp
       | true =>
        by_cases h4 : 500 < cnt + 1
        · rw [goF_many h1 h20 h3 h4] at hp; cases hp
        · have e : fnd hash = (((fnd hash).1.1, (fnd hash).1.2.1, (fnd hash).1.2.2.1, (fnd hash).1.2.2.2), 0) := by rw [<- h20]
          rw [goF_node h1 e h3 (by omega) rfl rfl] at hp
          split at hp
          · cases hp
          · split at hp
            · cases hp
            · rcases List.mem_append.1 hp with hp | hp
              · rcases List.mem_append.1 hp with hp | hp
                · exact goF_ok hfo f _ _ _ _ _ p hp
                · split at hp
                  · rw [List.mem_singleton] at hp
                    subst hp
                    exact ⟨(hfo.node hash h20).1, (hfo.node hash h20).2.1⟩
                  · cases hp
              · exact goF_ok hfo f _ _ _ _ _ p hp
     · rw [goF, if_neg (by rw [h1]; decide), if_neg h2, if_pos h20] at hp; cases hp
theorem noP_small : noPair.1.size <= 1048576 /\ noPair.2.size <= 1048576 := ⟨Nat.zero_le _, Nat.zero_le _⟩
theorem nil_small : SmallP [] := ⟨by decide, fun j => by rw [pget_out _ _ (Nat.zero_le _)]; exact noP_small⟩
theorem rangeM_small {fnd : ByteArray -> FN} {wd : Nat} (hfo : FndOk wd fnd) (n : Int) (m : Nat) (root lo hi : ByteArray) : (rangeM fnd n m root lo hi).1.length <= 500 /\ SmallP (rangeM fnd n m root lo hi).1 := by
 have hnil : ([] : List PairT).length <= 500 /\ SmallP [] := ⟨by decide, nil_small⟩
 unfold rangeM
 split
 · split
   · rename_i h0
     have h1 := goF_cnt 501 root ⟨#[]⟩ ⟨#[]⟩ ⟨#[]⟩ 0 (by decide) h0
     have h2 := goF_len 501 root ⟨#[]⟩ ⟨#[]⟩ ⟨#[]⟩ 0 h0
     have h3 := goF_ok hfo 501 root ⟨#[]⟩ ⟨#[]⟩ ⟨#[]⟩ 0 (hg := hgW) (lo := lo) (hi := hi)
     generalize goF fnd hgW lo hi 501 root ⟨#[]⟩ ⟨#[]⟩ ⟨#[]⟩ 0 = R at h0 h1 h2 h3 ⊢
     refine ⟨by simp only; omega, by simp only; omega, fun j => ?_⟩
     by_cases hj : j < R.2.2.length
     · obtain ⟨q1, q2⟩ := h3 _ (List.getElem_mem hj)
       simp only [List.getD_eq_getElem?_getD, List.getElem?_eq_getElem hj, Option.getD_some]
       unfold okKey at q1
       unfold okVal at q2
       have q1 := of_decide_eq_true q1
       have q2 := of_decide_eq_true q2
       omega
     · rw [pget_out _ _ (by simp only; omega)]
       exact noP_small
   · exact hnil
 · exact hnil
theorem decOk_of {n : Int} {s k v l r : ByteArray} (h : decPost s n (.returned (.tuple #[nodeV k v l r, .bool true]))) : nodeOk k.size v.size l.size r.size n = true := by
 rcases h with ⟨k', v', l', r', hE, e⟩ | ⟨_, e⟩
 · simp only [nodeV, Ending.returned.injEq, Value.tuple.injEq, Array.mk.injEq, List.cons.injEq, Value.agg.injEq, Value.string.injEq] at e
   obtain ⟨⟨rfl, rfl, rfl, rfl, _⟩, _⟩ := e
   exact hE.1
 · simp at e
end Go.Proofs.YtfmpjlpakldheaaGreatDoor
