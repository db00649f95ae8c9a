import Derived.Test.YtmfhfehemoeeeaaGreatDoorZsan
import Derived.Test.YtmfhfehemoeeeaaGreatDoorZsaf
import Derived.Test.YtmfhfehemoeeeaaGreatDoorZsam
set_option maxRecDepth 100000
set_option maxHeartbeats 1000000
namespace Go.Proofs.YtmfhfehemoeeeaaGreatDoor
open Go.RowKit Go.Proofs.Sha

theorem vlink_any (l : ByteArray) (n : Int) (w : World) (_hl : l.size ≤ 1048576) :
    Calls Tryz.prog 113 #[.string l, .int .i64 n] w fun e w' => e = .returned (.bool (hashOk l.size n)) ∧ w = w' := by
  have e1 := empty_iff l
  by_cases h1 : l.size = 0
  · have e2 : l.toList.isEmpty = true := by rw [e1, h1]; rfl
    have HR : Hid (hashOk l.size n = true) := by show _ = _; unfold hashOk; rw [h1]; rfl
    clear e1 h1
    go_enter Tryz.func113, Tryz.ntmps113
    go_wp2
    go_ret
    rw [HR.out]
    exact ⟨rfl, rfl⟩
  · have e2 : l.toList.isEmpty = false := by rw [e1]; simp [h1]
    by_cases h2 : (l.size : Int) = n
    · have HR : Hid (hashOk l.size n = true) := by show _ = _; unfold hashOk; simp [h2]
      have z : ((l.size : Int) == n) = true := by simp [h2]
      clear e1 h1 h2
      go_enter Tryz.func113, Tryz.ntmps113
      go_wp2
      go_ret
      rw [HR.out]
      exact ⟨rfl, rfl⟩
    · have HR : Hid (hashOk l.size n = false) := by show _ = _; unfold hashOk; simp [h1, h2]
      have z : ((l.size : Int) == n) = false := by simp [h2]
      clear e1 h1 h2
      go_enter Tryz.func113, Tryz.ntmps113
      go_wp2
      go_ret
      rw [HR.out]
      exact ⟨rfl, rfl⟩

theorem valid_any (k v l r : ByteArray) (n : Int) (w : World) (_hk : k.size ≤ 1048576) (_hv : v.size ≤ 1048576) (hl : l.size ≤ 1048576) (hr : r.size ≤ 1048576) :
    Calls Tryz.prog 109 #[.agg #[.string k, .string v, .string l, .string r], .int .i64 n] w fun e w' => e = .returned (.bool (nodeOk k.size v.size l.size r.size n)) ∧ Below w.heap.size w w' := by
  obtain ⟨x, hx⟩ : ∃ x, hashOk l.size n = x := ⟨_, rfl⟩
  obtain ⟨y, hy⟩ : ∃ y, hashOk r.size n = y := ⟨_, rfl⟩
  have HX : Hid (∀ w', Calls Tryz.prog 113 #[.string l, .int .i64 n] w' fun e w'' => e = .returned (.bool x) ∧ w' = w'') := fun w' => by rw [← hx]; exact vlink_any l n w' hl
  have HY : Hid (∀ w', Calls Tryz.prog 113 #[.string r, .int .i64 n] w' fun e w'' => e = .returned (.bool y) ∧ w' = w'') := fun w' => by rw [← hy]; exact vlink_any r n w' hr
  have HR : Hid (nodeOk k.size v.size l.size r.size n = (decide (1 ≤ n ∧ n ≤ 32 ∧ 1 ≤ k.size ∧ k.size ≤ 256 ∧ v.size ≤ 2000) && (x && y))) := by show _ = _; unfold nodeOk; rw [hx, hy]
  clear hx hy
  obtain ⟨z, hz⟩ : ∃ z, nodeOk k.size v.size l.size r.size n = z := ⟨_, rfl⟩
  rw [hz] at HR ⊢
  clear hz
  have hfin : Below w.heap.size w (w.alloc (.cells #[.string k, .string v, .string l, .string r] 88)) := (Below.refl _ _).alloc (Nat.le_refl _) _
  go_enter Tryz.func109, Tryz.ntmps109
  go_wp2_with (first | (go_at_call_of 113 (Value.string l); refine (HX.out _).mono ?_; rintro e w3 ⟨rfl, rfl⟩) | (go_at_call_of 113 (Value.string r); refine (HY.out _).mono ?_; rintro e w4 ⟨rfl, rfl⟩) | go_in)
  all_goals go_ret
  all_goals refine ⟨?_, hfin⟩
  all_goals rw [HR.out]
  all_goals clear HX HY HR
  all_goals first
    | (have e : ¬ (1 ≤ n ∧ n ≤ 32 ∧ 1 ≤ k.size ∧ k.size ≤ 256 ∧ v.size ≤ 2000) := (by omega); rw [decide_eq_false e]; rfl)
    | (have e : 1 ≤ n ∧ n ≤ 32 ∧ 1 ≤ k.size ∧ k.size ≤ 256 ∧ v.size ≤ 2000 := (by omega); rw [decide_eq_true e]; cases x <;> simp_all)

theorem wR42 (n : Int) (k v l r : ByteArray) (b : Nat) (q m : List UInt8) (w : World) (h : Bld b q w)
    (HC : Hid (∀ w', Bld b q w' → Calls Tryz.prog 150 #[.agg #[.int .i64 n], .pointer (some ⟨b, 0, none⟩), .agg #[.string k, .string v, .string l, .string r]] w' fun e w'' => e = .returned (.tuple #[]) ∧ Put b m w' w'')) :
    Calls Tryz.prog 114 #[.pointer (some ⟨b, 0, none⟩), .iface 165 (.agg #[.int .i64 n]), .agg #[.string k, .string v, .string l, .string r]] w fun e w' => e = .returned (.tuple #[]) ∧ Put b m w w' := by
  have hmt : ∀ w : World, (method 356 165 (.agg #[.int .i64 n]) "loop.example/s03048/impl.put").run Tryz.prog w = .ok (150, .agg #[.int .i64 n]) w := fun _ => by kernel_rfl
  go_enter Tryz.func114, Tryz.ntmps114
  go_wp2_with (first | (go_at_call 150; refine (HC.out _ (h.alloc _)).mono ?_; rintro e w2 ⟨rfl, hp2⟩))
  go_end0
  exact ⟨rfl, ((Put.refl h).alloc _).trans hp2⟩

theorem written_N (n : Int) (k v l r : ByteArray) (m : List UInt8) (w : World)
    (HC : Hid (∀ b w', Bld b [] w' → Calls Tryz.prog 114 #[.pointer (some ⟨b, 0, none⟩), .iface 165 (.agg #[.int .i64 n]), .agg #[.string k, .string v, .string l, .string r]] w' fun e w'' => e = .returned (.tuple #[]) ∧ Put b m w' w'')) :
    Calls Tryz.prog 110 #[.iface 165 (.agg #[.int .i64 n]), .agg #[.string k, .string v, .string l, .string r]] w fun e w' => ∃ t : ByteArray, e = .returned (.string t) ∧ Hid (t.data.toList = m) ∧ Below w.heap.size w w' := by
  go_enter Tryz.func110, Tryz.ntmps110
  go_wp2_with (first | (go_at_call 114; refine (HC.out (w.heap.size + 1) _ (fresh_bld1 w _)).mono ?_; rintro e w2 ⟨rfl, hp2⟩) | (go_at_call 58; refine (bstring _ _ _ hp2.1).mono ?_; rintro e w3 ⟨rfl, hb3⟩))
  go_ret
  exact ⟨_, rfl, rfl, ((((Below.refl _ _).alloc (Nat.le_refl _) _).alloc (by simp) _).trans (hp2.2.1.mono (by omega))).trans (hb3.mono (by omega))⟩

theorem of_list {t : ByteArray} {l : List UInt8} (h : t.data.toList = l) : t = T l := by rw [← h, T_of]

theorem enc_impl (k v l r : ByteArray) (n : Int) (w : World) (hk : k.size ≤ 1048576) (hv : v.size ≤ 1048576) (hl : l.size ≤ 1048576) (hr : r.size ≤ 1048576) :
    Calls Tryz.prog 103 #[.agg #[.string k, .string v, .string l, .string r], .int .i64 n] w fun e w' => ∃ t, e = .returned (.string t) ∧ Hid (t = encS k v l r n) ∧ Below w.heap.size w w' := by
  obtain ⟨z, hz⟩ : ∃ z, nodeOk k.size v.size l.size r.size n = z := ⟨_, rfl⟩
  have HV : Hid (∀ w', Calls Tryz.prog 109 #[.agg #[.string k, .string v, .string l, .string r], .int .i64 n] w' fun e w'' => e = .returned (.bool z) ∧ Below w'.heap.size w' w'') := fun w' => by rw [← hz]; exact valid_any k v l r n w' hk hv hl hr
  cases z
  · have HR : Hid (encS k v l r n = ⟨#[]⟩) := by show _ = _; unfold encS; rw [if_neg (by rw [hz]; decide)]
    clear hz
    go_enter Tryz.func103, Tryz.ntmps103
    go_wp2_with (first | (go_at_call 109; refine (HV.out _).mono ?_; rintro e w1 ⟨rfl, hb1⟩))
    go_ret
    exact ⟨_, rfl, HR.out.symm, ((Below.refl _ w).alloc (Nat.le_refl _) _).trans (hb1.mono (by simp))⟩
  · have HR : Hid (encS k v l r n = T (encL k.data.toList v.data.toList l.data.toList r.data.toList)) := by show _ = _; unfold encS; rw [if_pos hz]
    have hsz : k.size ≤ 256 ∧ v.size ≤ 2000 ∧ l.size ≤ 32 ∧ r.size ≤ 32 := by
      unfold nodeOk hashOk at hz
      simp only [Bool.and_eq_true, Bool.or_eq_true, decide_eq_true_eq] at hz
      omega
    obtain ⟨m, hm⟩ : ∃ m, encL k.data.toList v.data.toList l.data.toList r.data.toList = m := ⟨_, rfl⟩
    have HC : Hid (∀ w', Calls Tryz.prog 110 #[.iface 165 (.agg #[.int .i64 n]), .agg #[.string k, .string v, .string l, .string r]] w' fun e w'' => ∃ t : ByteArray, e = .returned (.string t) ∧ Hid (t.data.toList = m) ∧ Below w'.heap.size w' w'') := by
      intro w'
      refine written_N n k v l r m w' ?_
      intro b' w'' h''
      refine wR42 n k v l r b' [] m w'' h'' ?_
      intro w3 h3
      have hf : (flagOf l.size r.size : Int) = 0 ∨ (flagOf l.size r.size : Int) = 1 ∨ (flagOf l.size r.size : Int) = 2 ∨ (flagOf l.size r.size : Int) = 3 := by
        unfold flagOf; split <;> split <;> simp
      have := node_put_f (flagOf l.size r.size) _ rfl hf b' n k v l r [] w3 h3 (by simp) hsz.1 hsz.2.1 hsz.2.2.1 hsz.2.2.2 (fun w' => flags_any k v l r w')
      rw [List.nil_append] at this
      rw [← hm]
      exact this
    rw [hm] at HR
    clear hz hm hsz
    go_enter Tryz.func103, Tryz.ntmps103
    go_wp2_with (first | (go_at_call 109; refine (HV.out _).mono ?_; rintro e w1 ⟨rfl, hb1⟩; have hn1 := below_cells hb1 (heap_alloc_new w (.cells #[.string k, .string v, .string l, .string r] 88)); have c0 := Lib.cell_of_heap hn1 0; have c1 := Lib.cell_of_heap hn1 1; have c2 := Lib.cell_of_heap hn1 2; have c3 := Lib.cell_of_heap hn1 3) | (go_at_call 110; refine (HC.out _).mono ?_; rintro e w2 ⟨t, rfl, HT, hb2⟩))
    go_ret
    exact ⟨t, rfl, (of_list HT.out).trans HR.out.symm, (((Below.refl _ w).alloc (Nat.le_refl _) _).trans (hb1.mono (by simp))).trans (hb2.mono (by have := hb1.size; simp at this; omega))⟩
theorem rint1 (r : Nat) (s : ByteArray) (a : Nat) (f : Bool) (w : World) (h : Rd r s a f w) (ha : a ≤ s.size) (hs : s.size ≤ 1048576) :
    Calls Tryz.prog 137 #[.pointer (some ⟨r, 0, none⟩), .iface 197 (.agg #[.int .i64 1, .bool false])] w fun e w' => ∃ (v : Nat) (t : ByteArray) (a' : Nat) (f' : Bool), e = .returned (.int .i64 (v : Int)) ∧ Hid (NX s a f 1 t a' f') ∧ Hid (v = valTo 1 false (byteAt t) t.size) ∧ a' ≤ s.size ∧ v < 4294967296 ∧ Rd r s a' f' w' ∧ Mv r w w' :=
  rint 1 false r s a f w h ha hs (by omega) (by omega)
theorem set_other {g i k : Nat} {x : Value} {w : World} {o : Obj} (h : w.heap[k]? = some o) (hne : k ≠ g) : (w.setCell ⟨g, i, none⟩ x).heap[k]? = some o := (heap_setCell_other w ⟨g, i, none⟩ k x hne).trans h
theorem Rd.other {r g i : Nat} {s : ByteArray} {a : Nat} {f : Bool} {x : Value} {w : World} (h : Rd r s a f w) (hne : r ≠ g) : Rd r s a f (w.setCell ⟨g, i, none⟩ x) := set_other h hne
theorem size_set (w : World) (a : Addr) (x : Value) : (w.setCell a x).heap.size = w.heap.size := by simp [World.setCell]
/-- A store into a block that was not there. -/
theorem Mv.other {r g i n : Nat} {a w : World} {x : Value} (h : Mv r a w) (hn : a.heap.size = n) (hg : n ≤ g) : Mv r a (w.setCell ⟨g, i, none⟩ x) :=
  ⟨h.os, h.tape, h.output, by rw [size_set]; exact h.size, fun k hk hr => (heap_setCell_other w ⟨g, i, none⟩ k x (by show k ≠ g; omega)).trans (h.block k hk hr)⟩

section
variable {w : World} {fb r n : Nat} {s : ByteArray} {a : Nat} {f : Bool} {k v l x : ByteArray} {W W' : World}
end

theorem ex_list (s : ByteArray) (a n : Nat) : (s.extract a (a + n)).data.toList = (s.data.toList.drop a).take n := by
  conv => lhs; rw [← T_of s, T_extract]
  rw [T_data, Nat.add_sub_cancel_left]
theorem ex_size (s : ByteArray) (a n : Nat) (h : a + n ≤ s.size) : (s.extract a (a + n)).size = n := by
  rw [ByteArray.size_extract]; omega
theorem byteAt_ex (s : ByteArray) (a n i : Nat) (hi : i < n) : byteAt (s.extract a (a + n)) i = (s.data.toList.getD (a + i) 0).toNat := by
  unfold byteAt
  rw [ex_list, List.getD_eq_getElem?_getD, List.getD_eq_getElem?_getD, List.getElem?_take_of_lt hi, List.getElem?_drop]
theorem or_add (x y k : Nat) (h : y < 2 ^ k) : x * 2 ^ k ||| y = x * 2 ^ k + y := by
  rw [Nat.mul_comm, ← Nat.two_pow_add_eq_or_of_lt h]
theorem val1 (b : Nat → Nat) : valTo 1 false b 1 = b 0 := by simp [valTo]
theorem val4 (b : Nat → Nat) (hb : ∀ i, b i < 256) : valTo 4 true b 4 = b 0 + b 1 * 256 + b 2 * 65536 + b 3 * 16777216 := by
  have h0 := hb 0; have h1 := hb 1; have h2 := hb 2
  have e : valTo 4 true b 4 = ((b 0 ||| b 1 * 2 ^ 8) ||| b 2 * 2 ^ 16) ||| b 3 * 2 ^ 24 := by simp [valTo]
  rw [e, Nat.or_comm (b 0), or_add _ _ 8 (by omega), Nat.or_comm _ (b 2 * 2 ^ 16), or_add _ _ 16 (by omega), Nat.or_comm _ (b 3 * 2 ^ 24), or_add _ _ 24 (by omega)]
  omega

theorem NX1 {s : ByteArray} {a : Nat} {f : Bool} {t : ByteArray} {a' : Nat} {f' : Bool} (h : NX s a f 1 t a' f') :
    (f = false ∧ a + 1 ≤ s.size ∧ valTo 1 false (byteAt t) t.size = (s.data.toList.getD a 0).toNat ∧ a' = a + 1 ∧ f' = false) ∨ ((f = true ∨ ¬ a + 1 ≤ s.size) ∧ f' = true) := by
  rcases h with ⟨hf, hle, ht, ha', hf'⟩ | ⟨hf, _, _, hf'⟩
  · refine .inl ⟨hf, hle, ?_, ha', hf'⟩
    rw [ht, ex_size s a 1 hle, val1, byteAt_ex s a 1 0 (by omega)]
    rfl
  · exact .inr ⟨hf, hf'⟩

/-- A sector with its mark is read. -/
def CX (mk : Nat) (s : ByteArray) (a : Nat) (f : Bool) (t : ByteArray) (a' : Nat) (f' : Bool) : Prop :=
  (f = false ∧ a + 64 ≤ s.size ∧ (s.data.toList.getD (a + 63) 0).toNat = mk ∧ t = s.extract a (a + 63) ∧ a' = a + 64 ∧ f' = false) ∨
  ((f = true ∨ ¬ (a + 64 ≤ s.size ∧ (s.data.toList.getD (a + 63) 0).toNat = mk)) ∧ f' = true)

theorem CX_of {mk : Nat} {s : ByteArray} {a : Nat} {f : Bool} {t : ByteArray} {a1 : Nat} {f1 : Bool} {t2 : ByteArray} {a2 : Nat} {f2 : Bool} {v : Nat} (_hmk : 1 ≤ mk) (h1 : NX s a f 63 t a1 f1) (h2 : NX s a1 f1 1 t2 a2 f2) (hv : v = valTo 1 false (byteAt t2) t2.size) :
    (v = mk → CX mk s a f t a2 f2) ∧ (¬ v = mk → CX mk s a f t a2 true) := by
  rcases h1 with ⟨hf, hle, ht, ha1, hf1⟩ | ⟨hf, _, ha1, hf1⟩
  · subst ha1
    rcases NX1 h2 with ⟨_, hle2, hv2, ha2, hf2⟩ | ⟨hno, hf2⟩
    · rw [hv2] at hv
      refine ⟨fun e => .inl ⟨hf, by omega, by rw [← hv]; exact e, ht, by omega, hf2⟩, fun e => .inr ⟨.inr fun hh => e ?_, rfl⟩⟩
      rw [hv]; exact hh.2
    · have hn : ¬ a + 64 ≤ s.size := by
        rcases hno with g | g
        · rw [hf1] at g; cases g
        · omega
      exact ⟨fun _ => .inr ⟨.inr fun hh => hn hh.1, hf2⟩, fun _ => .inr ⟨.inr fun hh => hn hh.1, rfl⟩⟩
  · have hf2 : f2 = true := by
      rcases h2 with ⟨g, _⟩ | ⟨_, _, _, g⟩
      · rw [hf1] at g; cases g
      · exact g
    have hn : f = true ∨ ¬ (a + 64 ≤ s.size ∧ (s.data.toList.getD (a + 63) 0).toNat = mk) := by
      rcases hf with g | g
      · exact .inl g
      · exact .inr fun hh => g (by omega)
    exact ⟨fun _ => .inr ⟨hn, hf2⟩, fun _ => .inr ⟨hn, rfl⟩⟩

theorem sec_take (mk : Nat) (r : Nat) (s : ByteArray) (a : Nat) (f : Bool) (w : World) (h : Rd r s a f w) (ha : a ≤ s.size) (hs : s.size ≤ 1048576) (_hmk : mk ≤ 255) (hmk1 : 1 ≤ mk) :
    Calls Tryz.prog 192 #[.agg #[.int .i64 (mk : Int)], .pointer (some ⟨r, 0, none⟩)] w fun e w' => ∃ (t : ByteArray) (a' : Nat) (f' : Bool), e = .returned (.string t) ∧ Hid (CX mk s a f t a' f') ∧ a' ≤ s.size ∧ t.size ≤ s.size ∧ Rd r s a' f' w' ∧ Mv r w w' := by
  have HN : Hid (∀ w', Rd r s a f w' → Calls Tryz.prog 162 #[.pointer (some ⟨r, 0, none⟩), .int .i64 63] w' fun e w'' => ∃ t a' f', e = .returned (.string t) ∧ Hid (NX s a f 63 t a' f') ∧ a' ≤ s.size ∧ t.size ≤ s.size ∧ Rd r s a' f' w'' ∧ Mv r w' w'') := fun w' h' => next_any r s a f 63 w' h' ha hs (by omega)
  have HI : Hid (∀ (a : Nat) (f : Bool) w', a ≤ s.size → Rd r s a f w' → Calls Tryz.prog 137 #[.pointer (some ⟨r, 0, none⟩), .iface 197 (.agg #[.int .i64 1, .bool false])] w' fun e w'' => ∃ (v : Nat) (t : ByteArray) (a' : Nat) (f' : Bool), e = .returned (.int .i64 (v : Int)) ∧ Hid (NX s a f 1 t a' f') ∧ Hid (v = valTo 1 false (byteAt t) t.size) ∧ a' ≤ s.size ∧ v < 4294967296 ∧ Rd r s a' f' w'' ∧ Mv r w' w'') := fun a f w' ha' h' => rint1 r s a f w' h' ha' hs
  have hlt := h.lt
  obtain ⟨fb, hfb⟩ : ∃ fb, w.heap.size = fb := ⟨_, rfl⟩
  go_enter Tryz.func192, Tryz.ntmps192
  go_wp2_with fail
  refine (HN.out _ (h.alloc _)).mono ?_
  rintro e w1 ⟨t, a1, f1, rfl, HX, ha1, ht, hr1, hm1⟩
  have hn1 : w1.heap[fb]? = some (.cells #[.int .i64 (mk : Int)] 193) := by rw [← hfb]; exact hm1.cells (heap_alloc_new _ _) (by omega)
  have hmw : Mv r w w1 := ((Mv.refl r w).alloc _).trans hm1
  have c0 : w1.cell? ⟨fb, 0, none⟩ = some (.int .i64 (mk : Int)) := Lib.cell_of_heap hn1 0
  clear hm1 HN
  go_wp2_with fail
  go_region_held3 (fun W => W.cell? ⟨fb, 0, none⟩ = some (.int .i64 (mk : Int))) (first | exact c0 | exact Lib.cell_of_heap hn2 0)
    (first | (go_at_call 137; refine (HI.out a1 f1 _ ha1 hr1.drew).mono ?_; rintro e w2 ⟨v, t2, a2, f2, rfl, HX2, HV, ha2, hv, hr2, hm2⟩; have hn2 := hm2.cells (show w1.drew.heap[fb]? = _ from hn1) (by omega)))
  have hmw2 : Mv r w w2 := hmw.drew.trans hm2
  have HCX := CX_of hmk1 HX.out HX2.out HV.out
  by_cases hvm : v = mk
  · have z1 : ((v : Int) == (mk : Int)) = true := by rw [hvm]; simp
    have HC : Hid (CX mk s a f t a2 f2) := HCX.1 hvm
    clear HCX hvm HX HX2 HV
    go_wp2_with fail
    go_ret
    exact ⟨t, a2, f2, rfl, HC, ha2, ht, hr2, hmw2⟩
  · have z1 : ((v : Int) == (mk : Int)) = false := by rw [beq_eq_false_iff_ne]; omega
    have HC : Hid (CX mk s a f t a2 true) := HCX.2 hvm
    clear HCX hvm HX HX2 HV
    go_wp2_with (first | (go_at_call 97; refine (fail_any r s a2 f2 _ hr2).mono ?_; rintro e w3 ⟨rfl, hr3, hm3⟩))
    go_ret
    exact ⟨t, a2, true, rfl, HC, ha2, ht, hr3, hmw2.trans hm3⟩

theorem CX.fault {mk : Nat} {s : ByteArray} {a : Nat} {f : Bool} {t : ByteArray} {a' : Nat} (h : CX mk s a f t a' true) (t' : ByteArray) : CX mk s a f t' a' true := by
  rcases h with ⟨_, _, _, _, _, h⟩ | h
  · cases h
  · exact .inr h

theorem rsec (mk : Nat) (r : Nat) (s : ByteArray) (a : Nat) (f : Bool) (w : World) (h : Rd r s a f w) (ha : a ≤ s.size) (hs : s.size ≤ 1048576) (hmk : mk ≤ 255) (hmk1 : 1 ≤ mk) :
    Calls Tryz.prog 136 #[.pointer (some ⟨r, 0, none⟩), .iface 193 (.agg #[.int .i64 (mk : Int)])] w fun e w' => ∃ (t : ByteArray) (a' : Nat) (f' : Bool), e = .returned (.string t) ∧ Hid (CX mk s a f t a' f') ∧ (f' = true → t = ⟨#[]⟩) ∧ a' ≤ s.size ∧ t.size ≤ s.size ∧ Rd r s a' f' w' ∧ Mv r w w' := by
  have hmt : ∀ w : World, (method 356 193 (.agg #[.int .i64 (mk : Int)]) "loop.example/s03048/impl.take").run Tryz.prog w = .ok (192, .agg #[.int .i64 (mk : Int)]) w := fun _ => by kernel_rfl
  have HCh : Hid (Calls Tryz.prog 192 #[.agg #[.int .i64 (mk : Int)], .pointer (some ⟨r, 0, none⟩)] w fun e w' => ∃ (t : ByteArray) (a' : Nat) (f' : Bool), e = .returned (.string t) ∧ Hid (CX mk s a f t a' f') ∧ a' ≤ s.size ∧ t.size ≤ s.size ∧ Rd r s a' f' w' ∧ Mv r w w') := sec_take mk r s a f w h ha hs hmk hmk1
  go_enter Tryz.func136, Tryz.ntmps136
  go_wp2_with (first | (go_at_call 192; refine HCh.out.mono ?_; rintro e w1 ⟨t, a', f', rfl, HX, ha', ht, hr1, hm1⟩; have c2 : w1.cell? ⟨r, 2, none⟩ = some (.bool f') := Lib.cell_of_heap hr1 2))
  · rename_i hf
    go_ret
    subst hf
    exact ⟨⟨#[]⟩, a', true, rfl, HX.out.fault _, fun _ => rfl, ha', Nat.zero_le _, hr1, hm1⟩
  · rename_i hf
    go_ret
    exact ⟨t, a', f', rfl, HX, fun h => absurd h (by simpa using hf), ha', ht, hr1, hm1⟩
/-- All its bytes are zero. -/
def zeroT (t : ByteArray) : Bool := t.data.toList.all (· == 0)
theorem dw_empty (p : UInt8 → Bool) : ∀ l : List UInt8, (l.dropWhile p).isEmpty = l.all p
  | [] => rfl
  | a :: r => by
    rw [List.dropWhile_cons, List.all_cons]
    cases h : p a
    · rfl
    · simp [dw_empty p r]
theorem dw_all (p : UInt8 → Bool) : ∀ l : List UInt8, (l.dropWhile p).all p = l.all p
  | [] => rfl
  | a :: r => by
    rw [List.dropWhile_cons]
    cases h : p a
    · simp [h]
    · simp [h, dw_all p r]
theorem trim_zero (l : List UInt8) : (Lib.trimB l 0).isEmpty = l.all (· == 0) := by
  unfold Lib.trimB Lib.trimLeftB Lib.trimRightB
  rw [dw_empty, List.all_reverse, dw_all, List.all_reverse]
theorem trim_any (t : ByteArray) (w : World) (ht : t.size ≤ 1048576) :
    Calls Tryz.prog 161 #[.string t, .string ⟨#[0]⟩] w fun e w' => ∃ y : ByteArray, e = .returned (.string y) ∧ Hid (y.toList.isEmpty = zeroT t) ∧ Below w.heap.size w w' := by
  refine (Tryz.strings_Trim_one t 0 (by decide) w (by omega)).mono ?_
  rintro e w' ⟨rfl, hw⟩
  refine ⟨_, rfl, ?_, ?_⟩
  · show (_ : Bool) = _
    rw [ByteArray.toList_eq]
    exact trim_zero t.data.toList
  · rcases hw with rfl | rfl
    · exact Below.refl _ _
    · exact (Below.refl _ _).drew

/-- A text with its size in four bytes ahead and zeros behind is read. -/
def PX (s : ByteArray) (a : Nat) (f : Bool) (t : ByteArray) (a' : Nat) (f' : Bool) : Prop :=
  ∃ (a1 : Nat) (f1 : Bool) (t2 : ByteArray) (f2 : Bool), SX 4 true s a f t a1 f1 ∧ a1 ≤ s.size ∧ NX s a1 f1 (gap a1) t2 a' f2 ∧ f' = (f2 || !zeroT t2)

theorem padS_take (r : Nat) (s : ByteArray) (a : Nat) (f : Bool) (w : World) (h : Rd r s a f w) (ha : a ≤ s.size) (hs : s.size ≤ 90000) :
    Calls Tryz.prog 157 #[.agg #[.iface 206 (.agg #[.int .i64 4, .bool true])], .pointer (some ⟨r, 0, none⟩)] w fun e w' => ∃ (t : ByteArray) (a' : Nat) (f' : Bool), e = .returned (.string t) ∧ Hid (PX s a f t a' f') ∧ a' ≤ s.size ∧ t.size ≤ s.size ∧ Rd r s a' f' w' ∧ Mv r w w' := by
  have HS : Hid (∀ w', Rd r s a f w' → Calls Tryz.prog 136 #[.pointer (some ⟨r, 0, none⟩), .iface 206 (.agg #[.int .i64 4, .bool true])] w' fun e w'' => ∃ (t : ByteArray) (a' : Nat) (f' : Bool), e = .returned (.string t) ∧ Hid (SX 4 true s a f t a' f') ∧ a' ≤ s.size ∧ t.size ≤ s.size ∧ Rd r s a' f' w'' ∧ Mv r w' w'') := fun w' h' => rsized 4 true r s a f w' h' ha (by omega) (by omega) (by omega)
  have hlt := h.lt
  go_enter Tryz.func157, Tryz.ntmps157
  go_wp2_with fail
  refine (HS.out _ (h.alloc _)).mono ?_
  rintro e w1 ⟨t, a1, f1, rfl, HX, ha1, ht, hr1, hm1⟩
  have hmw : Mv r w w1 := ((Mv.refl r w).alloc _).trans hm1
  obtain ⟨g, hg⟩ : ∃ g, gap a1 = g := ⟨_, rfl⟩
  have g63 : g < 63 := by rw [← hg]; exact gap_lt _
  have HM : Hid (∀ w', Calls Tryz.prog 159 #[.int .i64 (a1 : Int)] w' fun e w'' => e = .returned (.int .i64 (g : Int)) ∧ w' = w'') := fun w' => by rw [← hg]; exact missing_any a1 w' (by omega)
  have HN : Hid (∀ w', Rd r s a1 f1 w' → Calls Tryz.prog 162 #[.pointer (some ⟨r, 0, none⟩), .int .i64 (g : Int)] w' fun e w'' => ∃ t a' f', e = .returned (.string t) ∧ Hid (NX s a1 f1 g t a' f') ∧ a' ≤ s.size ∧ t.size ≤ s.size ∧ Rd r s a' f' w'' ∧ Mv r w' w'') := fun w' h' => next_any r s a1 f1 g w' h' ha1 (by omega) (by omega)
  have HG : Hid (gap a1 = g) := hg
  have c1 : w1.cell? ⟨r, 1, none⟩ = some (.int .i64 (a1 : Int)) := Lib.cell_of_heap hr1 1
  clear hm1 HS hg
  go_wp2_with fail
  refine (HM.out _).mono ?_
  rintro e w2 ⟨rfl, rfl⟩
  go_wp2_with fail
  refine (HN.out _ hr1).mono ?_
  rintro e w2 ⟨t2, a2, f2, rfl, HX2, ha2, ht2, hr2, hm2⟩
  go_wp2_with fail
  refine (trim_any t2 _ (by omega)).mono ?_
  rintro e w3 ⟨y, rfl, HY, hb3⟩
  have hr3 := hr2.below hb3
  have hmw3 : Mv r w w3 := (hmw.trans hm2).trans (Mv.of_below r hb3)
  have HP : Hid (∀ f', f' = (f2 || !zeroT t2) → PX s a f t a2 f') := fun f' hf' => ⟨a1, f1, t2, f2, HX.out, ha1, by rw [HG.out]; exact HX2.out, hf'⟩
  clear hb3 hm2 hmw hr2 hr1 c1 HX HX2 HM HN
  obtain ⟨z, hz⟩ : ∃ z, zeroT t2 = z := ⟨_, rfl⟩
  have ye : y.toList.isEmpty = z := by rw [HY.out, hz]
  rw [hz] at HP
  clear HY hz
  cases z
  · go_wp2_with (first | (go_at_call 97; refine (fail_any r s a2 f2 _ hr3).mono ?_; rintro e w4 ⟨rfl, hr4, hm4⟩))
    go_ret
    exact ⟨t, a2, true, rfl, HP.out true (by simp), ha2, ht, hr4, hmw3.trans hm4⟩
  · go_wp2_with fail
    go_ret
    exact ⟨t, a2, f2, rfl, HP.out f2 (by simp), ha2, ht, hr3, hmw3⟩

theorem rpadS (r : Nat) (s : ByteArray) (a : Nat) (f : Bool) (w : World) (h : Rd r s a f w) (ha : a ≤ s.size) (hs : s.size ≤ 90000) :
    Calls Tryz.prog 136 #[.pointer (some ⟨r, 0, none⟩), .iface 189 (.agg #[.iface 206 (.agg #[.int .i64 4, .bool true])])] w fun e w' => ∃ (t t' : ByteArray) (a' : Nat) (f' : Bool), e = .returned (.string t') ∧ Hid (PX s a f t a' f') ∧ t' = (if f' = true then ⟨#[]⟩ else t) ∧ a' ≤ s.size ∧ t.size ≤ s.size ∧ Rd r s a' f' w' ∧ Mv r w w' := by
  have hmt : ∀ w : World, (method 356 189 (.agg #[.iface 206 (.agg #[.int .i64 4, .bool true])]) "loop.example/s03048/impl.take").run Tryz.prog w = .ok (157, .agg #[.iface 206 (.agg #[.int .i64 4, .bool true])]) w := fun _ => by kernel_rfl
  have HCh : Hid (Calls Tryz.prog 157 #[.agg #[.iface 206 (.agg #[.int .i64 4, .bool true])], .pointer (some ⟨r, 0, none⟩)] w fun e w' => ∃ (t : ByteArray) (a' : Nat) (f' : Bool), e = .returned (.string t) ∧ Hid (PX s a f t a' f') ∧ a' ≤ s.size ∧ t.size ≤ s.size ∧ Rd r s a' f' w' ∧ Mv r w w') := padS_take r s a f w h ha hs
  go_enter Tryz.func136, Tryz.ntmps136
  go_wp2_with (first | (go_at_call 157; refine HCh.out.mono ?_; rintro e w1 ⟨t, a', f', rfl, HX, ha', ht, hr1, hm1⟩; have c2 : w1.cell? ⟨r, 2, none⟩ = some (.bool f') := Lib.cell_of_heap hr1 2))
  · rename_i hf
    go_ret
    subst hf
    exact ⟨t, ⟨#[]⟩, a', true, rfl, HX, rfl, ha', ht, hr1, hm1⟩
  · rename_i hf
    go_ret
    refine ⟨t, t, a', f', rfl, HX, ?_, ha', ht, hr1, hm1⟩
    rw [if_neg (by simpa using hf)]

theorem whole_S (s : ByteArray) (w : World) (hs : s.size ≤ 90000) :
    Calls Tryz.prog 141 #[.string s, .iface 189 (.agg #[.iface 206 (.agg #[.int .i64 4, .bool true])])] w fun e w' => ∃ (t t' : ByteArray) (a' : Nat) (f' b : Bool), e = .returned (.tuple #[.string t', .bool b]) ∧ Hid (PX s 0 false t a' f') ∧ Hid (b = decide (f' = false ∧ a' = s.size)) ∧ t' = (if b = true then t else ⟨#[]⟩) ∧ a' ≤ s.size ∧ t.size ≤ s.size ∧ Below w.heap.size w w' := by
  obtain ⟨fb, hfb⟩ : ∃ fb, w.heap.size = fb := ⟨_, rfl⟩
  go_enter Tryz.func141, Tryz.ntmps141
  go_wp2_with fail
  have hr0 : Rd fb s 0 false (w.alloc (.cells #[.string s, .int .i64 0, .bool false] 140)) := by unfold Rd; rw [← hfb]; exact heap_alloc_new _ _
  refine (rpadS fb s 0 false _ hr0 (by omega) hs).mono ?_
  rintro e w1 ⟨t, t', a', f', rfl, HX, ht', ha', ht, hr1, hm1⟩
  have hbw : Below w.heap.size w w1 := ((Below.refl _ w).alloc (Nat.le_refl _) _).trans (hm1.to_below (by simp) (by omega))
  have c1 : w1.cell? ⟨fb, 1, none⟩ = some (.int .i64 (a' : Int)) := Lib.cell_of_heap hr1 1
  have c2 : w1.cell? ⟨fb, 2, none⟩ = some (.bool f') := Lib.cell_of_heap hr1 2
  clear hr1 hm1 hr0
  cases f'
  · have ht2 : t' = t := by rw [ht', if_neg (by simp)]
    subst ht2
    clear ht'
    by_cases hlt : a' < s.size
    · have z1 : decide ((a' : Int) < (s.size : Int)) = true := by simp; omega
      go_wp2_with fail
      go_ret2
      exact ⟨t', ⟨#[]⟩, a', false, false, rfl, HX, by show false = _; rw [decide_eq_false (by omega)], rfl, ha', ht, hbw⟩
    · have z1 : decide ((a' : Int) < (s.size : Int)) = false := by simp; omega
      go_wp2_with fail
      go_ret2
      exact ⟨t', t', a', false, true, rfl, HX, by show true = _; rw [decide_eq_true ⟨rfl, by omega⟩], rfl, ha', ht, hbw⟩
  · clear ht'
    go_wp2_with fail
    go_ret2
    exact ⟨t, ⟨#[]⟩, a', true, false, rfl, HX, by show false = _; rw [decide_eq_false (by simp)], rfl, ha', ht, hbw⟩
end Go.Proofs.YtmfhfehemoeeeaaGreatDoor
