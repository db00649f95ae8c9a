import Derived.Test.YtliapnhckdimoacDoorYe
import Derived.Laws.StructEq
import Derived.Test.YtliapnhckdimoacDoorYd
namespace Go.Proofs.YtliapnhckdimoacDoor
open Go.RowKit Go.Proofs.Sha

/-- What EncodeNode answers. -/
def encS (k v l r : ByteArray) (n : Int) : ByteArray := if nodeOk k.size v.size l.size r.size n = true then T (encL k.data.toList v.data.toList l.data.toList r.data.toList) else ⟨#[]⟩
theorem enc_any (k v l r : ByteArray) (n : Int) (w : World) (hk : k.size ≤ 1048576) (hv : v.size ≤ 1048576) (hl : l.size ≤ 1048576) (hr : r.size ≤ 1048576) :
    Calls Tryd.prog 24 #[nodeV k v l r, .int .i64 n] w fun e w' => ∃ t, e = .returned (.string t) ∧ Hid (t = encS k v l r n) ∧ Below w.heap.size w w' := by
  by_cases h : nodeOk k.size v.size l.size r.size n = true
  · exact (enc_yes k v l r n w hk hv hl hr h).mono fun e w' ⟨he, hb⟩ => ⟨_, he, by show _ = encS k v l r n; rw [encS, if_pos h], hb⟩
  · exact (enc_no k v l r n w hk hv hl hr (by simpa using h)).mono fun e w' ⟨he, hb⟩ => ⟨_, he, by show _ = encS k v l r n; rw [encS, if_neg h], hb⟩
theorem encS_is {s k v l r : ByteArray} {n : Int} (hs : 0 < s.size) : encS k v l r n = s ↔ IsEnc s n k v l r := by
  unfold encS IsEnc
  constructor
  · intro h
    split at h
    · exact ⟨by assumption, h.symm⟩
    · subst h; cases hs
  · intro h; rw [if_pos h.1, ← h.2]

theorem str_ne {t s : ByteArray} (h : ¬ t = s) : (t.toList == s.toList) = false := by
  rw [ByteArray.toList_eq, ByteArray.toList_eq, beq_eq_false_iff_ne]
  intro e
  exact h ((T_of t).symm.trans ((congrArg T e).trans (T_of s)))
theorem extract_size_le (s : ByteArray) (a b : Nat) : (s.extract a b).size ≤ s.size := by
  rw [← T_of s, T_extract, T_size, T_size, List.length_take, List.length_drop]; omega

end Go.Proofs.YtliapnhckdimoacDoor
namespace Go.Proofs.YtliapnhckdimoacDoor
open Go.RowKit Go.Proofs.Sha

theorem vlink_any (l : ByteArray) (n : Int) (w : World) (_hl : l.size ≤ 1048576) :
    Calls Tryd.prog 79 #[.string l, .int .i64 n] w fun e w' => e = .returned (.bool (hashOk l.size n)) ∧ w = w' := by
  have e1 := empty_iff l
  by_cases h1 : l.size = 0
  · have e2 : l.toList.isEmpty = true := by rw [e1, h1]; rfl
    have HR : Hid (hashOk l.size n = true) := by show _ = _; unfold hashOk; rw [h1]; rfl
    clear e1 h1
    go_enter Tryd.func79, Tryd.ntmps79
    go_wp2
    go_ret
    rw [HR.out]
    exact ⟨rfl, rfl⟩
  · have e2 : l.toList.isEmpty = false := by rw [e1]; simp [h1]
    by_cases h2 : (l.size : Int) = n
    · have HR : Hid (hashOk l.size n = true) := by show _ = _; unfold hashOk; simp [h2]
      have z : ((l.size : Int) == n) = true := by simp [h2]
      clear e1 h1 h2
      go_enter Tryd.func79, Tryd.ntmps79
      go_wp2
      go_ret
      rw [HR.out]
      exact ⟨rfl, rfl⟩
    · have HR : Hid (hashOk l.size n = false) := by show _ = _; unfold hashOk; simp [h1, h2]
      have z : ((l.size : Int) == n) = false := by simp [h2]
      clear e1 h1 h2
      go_enter Tryd.func79, Tryd.ntmps79
      go_wp2
      go_ret
      rw [HR.out]
      exact ⟨rfl, rfl⟩

set_option maxRecDepth 100000 in
theorem valid_any (k v l r : ByteArray) (n : Int) (w : World) (_hk : k.size ≤ 1048576) (_hv : v.size ≤ 1048576) (hl : l.size ≤ 1048576) (hr : r.size ≤ 1048576) :
    Calls Tryd.prog 59 #[.agg #[.string k, .string v, .string l, .string r], .int .i64 n] w fun e w' => e = .returned (.bool (nodeOk k.size v.size l.size r.size n)) ∧ Below w.heap.size w w' := by
  obtain ⟨x, hx⟩ : ∃ x, hashOk l.size n = x := ⟨_, rfl⟩
  obtain ⟨y, hy⟩ : ∃ y, hashOk r.size n = y := ⟨_, rfl⟩
  have HX : Hid (∀ w', Calls Tryd.prog 79 #[.string l, .int .i64 n] w' fun e w'' => e = .returned (.bool x) ∧ w' = w'') := fun w' => by rw [← hx]; exact vlink_any l n w' hl
  have HY : Hid (∀ w', Calls Tryd.prog 79 #[.string r, .int .i64 n] w' fun e w'' => e = .returned (.bool y) ∧ w' = w'') := fun w' => by rw [← hy]; exact vlink_any r n w' hr
  have HR : Hid (nodeOk k.size v.size l.size r.size n = (decide (1 ≤ n ∧ n ≤ 32 ∧ 1 ≤ k.size ∧ k.size ≤ 256 ∧ v.size ≤ 2000) && (x && y))) := by show _ = _; unfold nodeOk; rw [hx, hy]
  clear hx hy
  obtain ⟨z, hz⟩ : ∃ z, nodeOk k.size v.size l.size r.size n = z := ⟨_, rfl⟩
  rw [hz] at HR ⊢
  clear hz
  have hfin : Below w.heap.size w (w.alloc (.cells #[.string k, .string v, .string l, .string r] 26)) := (Below.refl _ _).alloc (Nat.le_refl _) _
  go_enter Tryd.func59, Tryd.ntmps59
  go_wp2_with (first | (go_at_call_of 79 (Value.string l); refine (HX.out _).mono ?_; rintro e w3 ⟨rfl, rfl⟩) | (go_at_call_of 79 (Value.string r); refine (HY.out _).mono ?_; rintro e w4 ⟨rfl, rfl⟩) | go_in)
  all_goals go_ret
  all_goals refine ⟨?_, hfin⟩
  all_goals rw [HR.out]
  all_goals clear HX HY HR
  all_goals first
    | (have e : ¬ (1 ≤ n ∧ n ≤ 32 ∧ 1 ≤ k.size ∧ k.size ≤ 256 ∧ v.size ≤ 2000) := (by omega); rw [decide_eq_false e]; rfl)
    | (have e : 1 ≤ n ∧ n ≤ 32 ∧ 1 ≤ k.size ∧ k.size ≤ 256 ∧ v.size ≤ 2000 := (by omega); rw [decide_eq_true e]; cases x <;> simp_all)

theorem wR42 (n : Int) (k v l r : ByteArray) (b : Nat) (q m : List UInt8) (w : World) (h : Bld b q w)
    (HC : Hid (∀ w', Bld b q w' → Calls Tryd.prog 129 #[.agg #[.int .i64 n], .pointer (some ⟨b, 0, none⟩), .agg #[.string k, .string v, .string l, .string r]] w' fun e w'' => e = .returned (.tuple #[]) ∧ Put b m w' w'')) :
    Calls Tryd.prog 80 #[.pointer (some ⟨b, 0, none⟩), .iface 92 (.agg #[.int .i64 n]), .agg #[.string k, .string v, .string l, .string r]] w fun e w' => e = .returned (.tuple #[]) ∧ Put b m w w' := by
  have hmt : ∀ w : World, (method 306 92 (.agg #[.int .i64 n]) "loop.example/s03048/impl.put").run Tryd.prog w = .ok (129, .agg #[.int .i64 n]) w := fun _ => by kernel_rfl
  go_enter Tryd.func80, Tryd.ntmps80
  go_wp2_with (first | (go_at_call 129; refine (HC.out _ (h.alloc _)).mono ?_; rintro e w2 ⟨rfl, hp2⟩))
  go_end0
  exact ⟨rfl, ((Put.refl h).alloc _).trans hp2⟩

set_option maxRecDepth 100000 in
theorem written_N (n : Int) (k v l r : ByteArray) (m : List UInt8) (w : World)
    (HC : Hid (∀ b w', Bld b [] w' → Calls Tryd.prog 80 #[.pointer (some ⟨b, 0, none⟩), .iface 92 (.agg #[.int .i64 n]), .agg #[.string k, .string v, .string l, .string r]] w' fun e w'' => e = .returned (.tuple #[]) ∧ Put b m w' w'')) :
    Calls Tryd.prog 60 #[.iface 92 (.agg #[.int .i64 n]), .agg #[.string k, .string v, .string l, .string r]] w fun e w' => ∃ t : ByteArray, e = .returned (.string t) ∧ Hid (t.data.toList = m) ∧ Below w.heap.size w w' := by
  go_enter Tryd.func60, Tryd.ntmps60
  go_wp2_with (first | (go_at_call 80; refine (HC.out (w.heap.size + 1) _ (fresh_bld1 w _)).mono ?_; rintro e w2 ⟨rfl, hp2⟩) | (go_at_call 81; refine (bstring _ _ _ hp2.1).mono ?_; rintro e w3 ⟨rfl, hb3⟩))
  go_ret
  exact ⟨_, rfl, rfl, ((((Below.refl _ _).alloc (Nat.le_refl _) _).alloc (by simp) _).trans (hp2.2.1.mono (by omega))).trans (hb3.mono (by omega))⟩

theorem of_list {t : ByteArray} {l : List UInt8} (h : t.data.toList = l) : t = T l := by rw [← h, T_of]

set_option maxRecDepth 100000 in
set_option maxHeartbeats 1000000 in
theorem enc_impl (k v l r : ByteArray) (n : Int) (w : World) (hk : k.size ≤ 1048576) (hv : v.size ≤ 1048576) (hl : l.size ≤ 1048576) (hr : r.size ≤ 1048576) :
    Calls Tryd.prog 27 #[.agg #[.string k, .string v, .string l, .string r], .int .i64 n] w fun e w' => ∃ t, e = .returned (.string t) ∧ Hid (t = encS k v l r n) ∧ Below w.heap.size w w' := by
  obtain ⟨z, hz⟩ : ∃ z, nodeOk k.size v.size l.size r.size n = z := ⟨_, rfl⟩
  have HV : Hid (∀ w', Calls Tryd.prog 59 #[.agg #[.string k, .string v, .string l, .string r], .int .i64 n] w' fun e w'' => e = .returned (.bool z) ∧ Below w'.heap.size w' w'') := fun w' => by rw [← hz]; exact valid_any k v l r n w' hk hv hl hr
  cases z
  · have HR : Hid (encS k v l r n = ⟨#[]⟩) := by show _ = _; unfold encS; rw [if_neg (by rw [hz]; decide)]
    clear hz
    go_enter Tryd.func27, Tryd.ntmps27
    go_wp2_with (first | (go_at_call 59; refine (HV.out _).mono ?_; rintro e w1 ⟨rfl, hb1⟩))
    go_ret
    exact ⟨_, rfl, HR.out.symm, ((Below.refl _ w).alloc (Nat.le_refl _) _).trans (hb1.mono (by simp))⟩
  · have HR : Hid (encS k v l r n = T (encL k.data.toList v.data.toList l.data.toList r.data.toList)) := by show _ = _; unfold encS; rw [if_pos hz]
    have hsz : k.size ≤ 256 ∧ v.size ≤ 2000 ∧ l.size ≤ 32 ∧ r.size ≤ 32 := by
      unfold nodeOk hashOk at hz
      simp only [Bool.and_eq_true, Bool.or_eq_true, decide_eq_true_eq] at hz
      omega
    obtain ⟨m, hm⟩ : ∃ m, encL k.data.toList v.data.toList l.data.toList r.data.toList = m := ⟨_, rfl⟩
    have HC : Hid (∀ w', Calls Tryd.prog 60 #[.iface 92 (.agg #[.int .i64 n]), .agg #[.string k, .string v, .string l, .string r]] w' fun e w'' => ∃ t : ByteArray, e = .returned (.string t) ∧ Hid (t.data.toList = m) ∧ Below w'.heap.size w' w'') := by
      intro w'
      refine written_N n k v l r m w' ?_
      intro b' w'' h''
      refine wR42 n k v l r b' [] m w'' h'' ?_
      intro w3 h3
      have hf : (flagOf l.size r.size : Int) = 0 ∨ (flagOf l.size r.size : Int) = 1 ∨ (flagOf l.size r.size : Int) = 2 ∨ (flagOf l.size r.size : Int) = 3 := by
        unfold flagOf; split <;> split <;> simp
      have := node_put_f (flagOf l.size r.size) _ rfl hf b' n k v l r [] w3 h3 (by simp) hsz.1 hsz.2.1 hsz.2.2.1 hsz.2.2.2 (fun w' => flags_any k v l r w')
      rw [List.nil_append] at this
      rw [← hm]
      exact this
    rw [hm] at HR
    clear hz hm hsz
    go_enter Tryd.func27, Tryd.ntmps27
    go_wp2_with (first | (go_at_call 59; refine (HV.out _).mono ?_; rintro e w1 ⟨rfl, hb1⟩; have hn1 := below_cells hb1 (heap_alloc_new w (.cells #[.string k, .string v, .string l, .string r] 26)); have c0 := Lib.cell_of_heap hn1 0; have c1 := Lib.cell_of_heap hn1 1; have c2 := Lib.cell_of_heap hn1 2; have c3 := Lib.cell_of_heap hn1 3) | (go_at_call 60; refine (HC.out _).mono ?_; rintro e w2 ⟨t, rfl, HT, hb2⟩))
    go_ret
    exact ⟨t, rfl, (of_list HT.out).trans HR.out.symm, (((Below.refl _ w).alloc (Nat.le_refl _) _).trans (hb1.mono (by simp))).trans (hb2.mono (by have := hb1.size; simp at this; omega))⟩
end Go.Proofs.YtliapnhckdimoacDoor
namespace Go.Proofs.YtliapnhckdimoacDoor
open Go.RowKit Go.Proofs.Sha

set_option maxRecDepth 100000 in
theorem sz_any (k v l r : ByteArray) (w : World) (hk : k.size ≤ 9223372036854775807) (hv : v.size ≤ 9223372036854775807) (hl : l.size ≤ 9223372036854775807) (hr : r.size ≤ 9223372036854775807) :
    Calls Tryd.prog 7 #[.agg #[.string k, .string v, .string l, .string r], .int .i64 1048576] w fun e w' => ∃ x : Int, e = .returned (.int .i64 x) ∧ Hid (0 ≤ x → k.size ≤ 1048576 ∧ v.size ≤ 1048576 ∧ l.size ≤ 1048576 ∧ r.size ≤ 1048576) ∧ Below w.heap.size w w' := by
  have hfin : Below w.heap.size w (w.alloc (.cells #[.string k, .string v, .string l, .string r] 23)) := (Below.refl _ _).alloc (Nat.le_refl _) _
  go_enter Tryd.func7, Tryd.ntmps7
  go_wp2
  all_goals go_ret
  all_goals refine ⟨_, rfl, ?_, hfin⟩
  all_goals intro h0
  all_goals omega
theorem toNode_any (k v l r : ByteArray) (w : World) :
    Calls Tryd.prog 9 #[.agg #[.string k, .string v, .string l, .string r]] w fun e w' => e = .returned (.agg #[.string k, .string v, .string l, .string r]) ∧ Below w.heap.size w w' := by
  go_enter Tryd.func9, Tryd.ntmps9
  go_wp2
  refine bodyPost_ret (v := .agg #[.string k, .string v, .string l, .string r]) ?_ rfl ⟨rfl, (((Below.refl _ _).alloc (Nat.le_refl _) _).alloc (by simp) _).alloc (by simp; omega) _⟩
  simp [results, Tryd.results9, go_sem, asAddr]

end Go.Proofs.YtliapnhckdimoacDoor
namespace Go.Proofs.YtliapnhckdimoacDoor
open Go.RowKit Go.Proofs.Sha

/-- What NodeHash answers. -/
def hashS (k v l r : ByteArray) (n : Int) : ByteArray := if (encS k v l r n).size = 0 then ⟨#[]⟩ else ⟨((sha (78 :: (encS k v l r n).data.toList)).take n.toNat).toArray⟩

theorem encS_size (k v l r : ByteArray) (n : Int) : (encS k v l r n).size ≤ 10000 ∧ (¬ (encS k v l r n).size = 0 → 1 ≤ n ∧ n ≤ 32) := by
  unfold encS
  split
  · rename_i h
    have ho := nodeOk_out h
    rw [T_size]
    unfold encL
    simp only [List.length_append, sized_length, List.length_cons, List.length_nil]
    have e1 : k.data.toList.length = k.size := rfl
    have e2 : v.data.toList.length = v.size := rfl
    have e3 : l.data.toList.length = l.size := rfl
    have e4 : r.data.toList.length = r.size := rfl
    omega
  · exact ⟨Nat.zero_le _, fun h => absurd rfl h⟩

theorem text_any (e : ByteArray) (w : World) (he : e.size ≤ 10000) :
    Calls Tryd.prog 26 #[.string e] w fun x w' => ∃ t : ByteArray, x = .returned (.string t) ∧ t.size ≤ 10001 ∧ Hid (t.data.toList = 78 :: e.data.toList) ∧ w = w' := by
  have z : ¬ (9223372036854775807 < (⟨#[78]⟩ : ByteArray).size + e.size) := by show ¬ _ < 1 + e.size; omega
  have z' : ¬ (9223372036854775807 < 1 + e.size) := by omega
  go_enter Tryd.func26, Tryd.ntmps26
  go_wp2
  go_ret
  refine ⟨_, rfl, ?_, ?_, rfl⟩
  · rw [ByteArray.size_append]; show 1 + e.size ≤ _; omega
  · show (_ : List UInt8) = _
    rw [ByteArray.data_append]
    simp

set_option maxRecDepth 100000 in
set_option maxHeartbeats 1000000 in
theorem shash_any (k v l r : ByteArray) (n : Int) (w : World) (hk : k.size ≤ 1048576) (hv : v.size ≤ 1048576) (hl : l.size ≤ 1048576) (hr : r.size ≤ 1048576) :
    Calls Tryd.prog 8 #[.agg #[.string k, .string v, .string l, .string r], .int .i64 n] w fun e w' => ∃ t, e = .returned (.string t) ∧ Hid (t = hashS k v l r n) ∧ Below w.heap.size w w' := by
  have hsz := encS_size k v l r n
  obtain ⟨q, hq⟩ : ∃ q, encS k v l r n = q := ⟨_, rfl⟩
  have HA : Hid (∀ w', Calls Tryd.prog 24 #[.agg #[.string k, .string v, .string l, .string r], .int .i64 n] w' fun e w'' => e = .returned (.string q) ∧ Below w'.heap.size w' w'') := fun w' => (enc_any k v l r n w' hk hv hl hr).mono (by rintro e w'' ⟨t, rfl, HX, hb⟩; exact ⟨by rw [HX.out, hq], hb⟩)
  have HR : Hid (hashS k v l r n = if q.size = 0 then ⟨#[]⟩ else ⟨((sha (78 :: q.data.toList)).take n.toNat).toArray⟩) := by show _ = _; unfold hashS; rw [hq]
  rw [hq] at hsz
  clear hq hk hv hl hr
  by_cases h0 : q.size = 0
  · have z : ((q.size : Int) == 0) = true := by rw [h0]; rfl
    go_enter Tryd.func8, Tryd.ntmps8
    go_wp2_with (first | (go_at_call 24; refine (HA.out _).mono ?_; rintro e w1 ⟨rfl, hb1⟩))
    go_ret
    refine ⟨_, rfl, ?_, ((Below.refl _ w).alloc (Nat.le_refl _) _).trans (hb1.mono (by simp))⟩
    show _ = _
    rw [HR.out, if_pos h0]
  · have z : ((q.size : Int) == 0) = false := by rw [beq_eq_false_iff_ne]; omega
    obtain ⟨m, rfl⟩ := Int.eq_ofNat_of_zero_le (show 0 ≤ n by have := hsz.2 h0; omega)
    have hm := hsz.2 h0
    have HD : Hid (∀ (t : ByteArray) w', t.size ≤ 10001 → Calls Tryd.prog 25 #[.string t, .int .i64 (m : Int)] w' fun e w'' => e = .returned (.string ⟨((sha t.data.toList).take m).toArray⟩) ∧ Below w'.heap.size w' w'') := fun t w' ht => sdig_yes t m w' (by omega) (by omega) (by omega)
    go_enter Tryd.func8, Tryd.ntmps8
    go_wp2_with (first | (go_at_call 24; refine (HA.out _).mono ?_; rintro e w1 ⟨rfl, hb1⟩) | (go_at_call 26; refine (text_any q _ hsz.1).mono ?_; rintro e w2 ⟨t, rfl, ht, HT, rfl⟩) | (go_at_call 25; refine (HD.out t _ ht).mono ?_; rintro e w3 ⟨rfl, hb3⟩))
    go_ret
    have hw1 : Below w.heap.size w w1 := ((Below.refl _ w).alloc (Nat.le_refl _) _).trans (hb1.mono (by simp))
    refine ⟨_, rfl, ?_, hw1.trans (hb3.mono hw1.size)⟩
    show _ = _
    rw [HR.out, if_neg h0, HT.out, Int.toNat_natCast]
end Go.Proofs.YtliapnhckdimoacDoor
namespace Go.Proofs.YtliapnhckdimoacDoor
open Go.RowKit Go.Proofs.Sha

theorem fed_new (w : World) : Fed (w.alloc (.cells newCells.toArray 151)) w.heap.size [] (List.replicate 64 0) 0 := ⟨hsh_new w, rfl⟩
theorem row_take {w : World} {base g n cap : Nat} {xs : List Value} (h : Row w base g n cap xs) (k : Nat) (hk : k ≤ n) : Row w base g k cap (xs.take k) :=
  ⟨h.ge, h.lt, by rw [List.length_take, h.len]; exact Nat.min_eq_left hk, Nat.le_trans hk h.le, fun j hj => by rw [h.cell j (by omega), List.getElem?_take, if_pos hj], h.room, h.free⟩

set_option maxRecDepth 100000 in
set_option maxHeartbeats 800000 in
theorem ehash_any (s : ByteArray) (w : World) (hs : s.size ≤ 1048576)
    (hK : ∀ j, j < 64 → w.cell? ⟨0, j, none⟩ = some (.int .u32 ((kTab.getD j 0).toNat : Int))) :
    Calls Tryd.prog 61 #[.string s] w fun e w' => e = .returned (.agg ((sha (78 :: s.data.toList)).map B).toArray) ∧ Below w.heap.size w w' := by
  have hl0 : 0 < w.heap.size := World.block_lt_of_cell? w _ (hK 0 (by omega))
  have HK : Hid (∀ w' : World, Below w.heap.size w w' → ∀ j, j < 64 → w'.cell? ⟨0, j, none⟩ = some (.int .u32 ((kTab.getD j 0).toNat : Int))) := fun w' hb j hj => (hb.cell (by exact hl0)).trans (hK j hj)
  clear hK
  have hsl : (78 :: s.data.toList).length = 1 + s.size := by rw [List.length_cons]; show s.size + 1 = _; omega
  go_enter Tryd.func61, Tryd.ntmps61
  go_wp2_with (refine wpList_alloc_row _ rfl (some 2) rfl 82 82 rfl (zeros8.map B) alloc32 ?_; intro g2 w2 hr2 hb2)
  have hr2' : Row w2 w.heap.size g2 32 32 (zeros8.map B) := hr2
  have hge := hr2.ge
  have hlt := hr2.lt
  have hs2 := hb2.size
  clear hr2
  refine (new_any w2).mono ?_
  rintro e w3 ⟨rfl, hw3⟩
  have F3 : Fed w3 w2.heap.size [] (List.replicate 64 0) 0 := by rw [hw3]; exact fed_new w2
  have hb3 : Below w2.heap.size w2 w3 := by rw [hw3]; exact (Below.refl _ _).alloc (Nat.le_refl _) _
  clear hw3
  obtain ⟨b, hb⟩ : ∃ b, w2.heap.size = b := ⟨_, rfl⟩
  rw [hb] at F3
  rw [hb]
  have hs3 := hb3.size
  have hbw3 : Below w.heap.size w w3 := hb2.trans (hb3.mono hs2)
  have hR3 : Row w3 w.heap.size g2 32 32 (zeros8.map B) := hr2'.below hb3
  have hb0 : b ≠ 0 := by omega
  have hgb : g2 < b := by omega
  have hwb : w.heap.size ≤ b := by omega
  clear hr2' hb3 hb2
  go_wp2_with fail
  refine (feed_any b [] (List.replicate 64 0) ⟨#[78]⟩ w3 F3 (by simp; show 1 ≤ _; omega) hb0 (HK.out w3 hbw3)).mono ?_
  rintro e w3' ⟨rfl, ⟨k3, F3'⟩, hg3⟩
  have hs3' := hg3.size
  have hbw3' : Below w.heap.size w w3' := hbw3.trans (below_of_grown hg3 hwb (by omega))
  have hR3' : Row w3' w.heap.size g2 32 32 (zeros8.map B) := hR3.kept hg3 (by simp; omega)
  have F3n : Fed w3' b [78] k3 [78].length := F3'
  clear F3 F3' hg3 hR3 hbw3
  go_wp2_with fail
  refine (feed_any b [78] k3 s w3' F3n (by simp; omega) hb0 (HK.out w3' hbw3')).mono ?_
  rintro e w4 ⟨rfl, ⟨k4, F4⟩, hg4⟩
  have hs4 := hg4.size
  have hbw4 : Below w.heap.size w w4 := hbw3'.trans (below_of_grown hg4 hwb (by omega))
  have hR4 : Row w4 w.heap.size g2 32 32 (zeros8.map B) := hR3'.kept hg4 (by simp; omega)
  have F4n : Fed w4 b (78 :: s.data.toList) k4 (1 + s.size) := F4
  clear F3n F4 hg4 hR3' hbw3'
  have hfs := fin_sha (78 :: s.data.toList) k4 F4n.H.kl F4n.tk
  have H4 := F4n.H
  rw [hsl] at H4 hfs
  clear F4n
  go_wp2_with fail
  refine (finish_any b _ k4 _ (1 + s.size) w4 H4 (by omega) (by omega) hb0 (HK.out w4 hbw4)).mono ?_
  rintro e w5 ⟨rfl, hg5⟩
  rw [hfs]
  clear hfs H4
  have hbw5 : Below w.heap.size w w5 := hbw4.trans (below_of_grown hg5 hwb (by omega))
  have hR5 : Row w5 w.heap.size g2 32 32 (zeros8.map B) := hR4.kept hg5 (by simp; omega)
  have hln : ((sha (78 :: s.data.toList)).map B).length = 32 := by rw [List.length_map]; unfold sha; rw [outTo_length]
  have h1c : ∀ v ∈ (sha (78 :: s.data.toList)).map B, v.oneCell' = true := by
    intro v hv
    obtain ⟨x, _, rfl⟩ := List.mem_map.1 hv
    rfl
  obtain ⟨L, hL⟩ : ∃ L, (sha (78 :: s.data.toList)).map B = L := ⟨_, rfl⟩
  rw [hL] at hln h1c
  rw [hL]
  have HL : Hid ((sha (78 :: s.data.toList)).map B = L) := hL
  clear hL
  go_wp2_with (refine wpList_store_whole _ rfl rfl 82 (.tmp 2) (.tmp 11) rfl w.heap.size g2 32 (zeros8.map B) L rfl rfl hR5 hln size32 h1c ?_; intro w8 hR8 hg8)
  refine ret_row _ (p := 2) (ty := 82) rfl w.heap.size g2 32 32 L 5 rfl hR8 Tryd.underlying82 size32 rfl ?_
  refine ⟨?_, ?_⟩
  · rw [HL.out]
  · exact hbw5.trans (below_of_grown hg8 hge (by have := hbw5.size; omega))
end Go.Proofs.YtliapnhckdimoacDoor
namespace Go.Proofs.YtliapnhckdimoacDoor
open Go.RowKit Go.Proofs.Sha

set_option maxRecDepth 100000 in
set_option maxHeartbeats 1000000 in
/-- encodingDigest: what is hashed, cut to a width. -/
theorem edig_any (q : ByteArray) (m : Nat) (w : World) (hq : q.size ≤ 1048576) (h1 : 1 ≤ m) (h2 : m ≤ 32) (hK : ∀ j, j < 64 → w.cell? ⟨0, j, none⟩ = some (.int .u32 ((kTab.getD j 0).toNat : Int))) :
    Calls Tryd.prog 28 #[.string q, .int .i64 (m : Int)] w fun e w' => e = .returned (.string ⟨((sha (78 :: q.data.toList)).take m).toArray⟩) ∧ Below w.heap.size w w' := by
  have HE : Hid (Calls Tryd.prog 61 #[.string q] w fun e w'' => e = .returned (.agg ((sha (78 :: q.data.toList)).map B).toArray) ∧ Below w.heap.size w w'') := ehash_any q w hq hK
  have hln : (sha (78 :: q.data.toList)).length = 32 := sha_len _
  obtain ⟨M, hM⟩ : ∃ M, sha (78 :: q.data.toList) = M := ⟨_, rfl⟩
  rw [hM] at HE hln
  rw [hM]
  clear hM hK
  have hln2 : (M.map B).length = 32 := by rw [List.length_map, hln]
  have h1c : ∀ v ∈ M.map B, v.oneCell' = true := by
    intro v hv
    obtain ⟨x, _, rfl⟩ := List.mem_map.1 hv
    rfl
  obtain ⟨L, hL⟩ : ∃ L, M.map B = L := ⟨_, rfl⟩
  have HL : Hid (M.map B = L) := hL
  rw [hL] at HE hln2 h1c
  clear hL
  have q1 : (1 : Int) ≤ (m : Int) := by omega
  have q2 : (m : Int) ≤ 32 := by omega
  have q3 : (0 : Int) ≤ (m : Int) := by omega
  go_enter Tryd.func28, Tryd.ntmps28
  go_wp2_with fail
  refine HE.out.mono ?_
  rintro e w2 ⟨rfl, hb2⟩
  go_wp2_with (first | (refine wpList_alloc_row _ rfl (some 5) rfl 82 82 rfl (zeros8.map B) alloc32 ?_; intro g2 w3 hr3 hb3) | (refine wpList_store_whole _ rfl rfl 82 (.tmp 5) (.tmp 7) rfl w2.heap.size g2 32 (zeros8.map B) L rfl rfl hr3 hln2 size32 h1c ?_; intro w4 hr4 hg4) | (refine wpList_string_row _ rfl (.tmp 9) 94 9 5 rfl w2.heap.size g2 m 32 (M.take m) rfl (by rw [List.map_take, HL.out]; exact row_take hr4 m h2) Tryd.underlying94 Tryd.underlying5 Tryd.underlying9 ?_))
  go_ret
  have hw3 : Below w.heap.size w w3 := hb2.trans (hb3.mono hb2.size)
  exact ⟨rfl, hw3.trans (below_of_grown hg4 (by have := hr3.ge; have := hb2.size; omega) (by have := hw3.size; omega))⟩
end Go.Proofs.YtliapnhckdimoacDoor
namespace Go.Proofs.YtliapnhckdimoacDoor
open Go.RowKit Go.Proofs.Sha

set_option maxRecDepth 100000 in
set_option maxHeartbeats 1000000 in
theorem ihash_any (k v l r : ByteArray) (n : Int) (w : World) (hk : k.size ≤ 1048576) (hv : v.size ≤ 1048576) (hl : l.size ≤ 1048576) (hr : r.size ≤ 1048576)
    (hK : ∀ j, j < 64 → w.cell? ⟨0, j, none⟩ = some (.int .u32 ((kTab.getD j 0).toNat : Int))) :
    Calls Tryd.prog 10 #[.agg #[.string k, .string v, .string l, .string r], .int .i64 n] w fun e w' => ∃ t, e = .returned (.string t) ∧ Hid (t = hashS k v l r n) ∧ Below w.heap.size w w' := by
  have hl0 : 0 < w.heap.size := World.block_lt_of_cell? w _ (hK 0 (by omega))
  have HK : Hid (∀ w' : World, Below w.heap.size w w' → ∀ j, j < 64 → w'.cell? ⟨0, j, none⟩ = some (.int .u32 ((kTab.getD j 0).toNat : Int))) := fun w' hb j hj => (hb.cell (by exact hl0)).trans (hK j hj)
  have hsz := encS_size k v l r n
  obtain ⟨q, hq⟩ : ∃ q, encS k v l r n = q := ⟨_, rfl⟩
  have HA : Hid (∀ w', Calls Tryd.prog 27 #[.agg #[.string k, .string v, .string l, .string r], .int .i64 n] w' fun e w'' => e = .returned (.string q) ∧ Below w'.heap.size w' w'') := fun w' => (enc_impl k v l r n w' hk hv hl hr).mono (by rintro e w'' ⟨t, rfl, HX, hb⟩; exact ⟨by rw [HX.out, hq], hb⟩)
  have HR : Hid (hashS k v l r n = if q.size = 0 then ⟨#[]⟩ else ⟨((sha (78 :: q.data.toList)).take n.toNat).toArray⟩) := by show _ = _; unfold hashS; rw [hq]
  rw [hq] at hsz
  clear hq hk hv hl hr hK
  by_cases h0 : q.size = 0
  · have z : q.toList.isEmpty = true := by rw [empty_iff, h0]; rfl
    go_enter Tryd.func10, Tryd.ntmps10
    go_wp2_with (first | (go_at_call 27; refine (HA.out _).mono ?_; rintro e w1 ⟨rfl, hb1⟩))
    go_ret
    refine ⟨_, rfl, ?_, ((Below.refl _ w).alloc (Nat.le_refl _) _).trans (hb1.mono (by simp))⟩
    show _ = _
    rw [HR.out, if_pos h0]
  · have z : q.toList.isEmpty = false := by rw [empty_iff]; simp [h0]
    obtain ⟨m, rfl⟩ := Int.eq_ofNat_of_zero_le (show 0 ≤ n by have := hsz.2 h0; omega)
    have hm := hsz.2 h0
    have HE : Hid (∀ w', Below w.heap.size w w' → Calls Tryd.prog 28 #[.string q, .int .i64 (m : Int)] w' fun e w'' => e = .returned (.string ⟨((sha (78 :: q.data.toList)).take m).toArray⟩) ∧ Below w'.heap.size w' w'') := fun w' hb => edig_any q m w' (by omega) (by omega) (by omega) (HK.out w' hb)
    obtain ⟨M, hM⟩ : ∃ M, (⟨((sha (78 :: q.data.toList)).take m).toArray⟩ : ByteArray) = M := ⟨_, rfl⟩
    have HM : Hid ((⟨((sha (78 :: q.data.toList)).take m).toArray⟩ : ByteArray) = M) := hM
    rw [hM] at HE
    clear hM
    go_enter Tryd.func10, Tryd.ntmps10
    go_wp2_with fail
    refine (HA.out _).mono ?_
    rintro e w1 ⟨rfl, hb1⟩
    have hw1 : Below w.heap.size w w1 := ((Below.refl _ w).alloc (Nat.le_refl _) _).trans (hb1.mono (by simp))
    go_wp2_with fail
    refine (HE.out _ hw1).mono ?_
    rintro e w2 ⟨rfl, hb2⟩
    go_wp2_with fail
    go_ret
    refine ⟨_, rfl, ?_, hw1.trans (hb2.mono hw1.size)⟩
    show _ = _
    rw [HR.out, if_neg h0, Int.toNat_natCast, HM.out]

set_option maxRecDepth 100000 in
set_option maxHeartbeats 1000000 in
theorem law_hash (k v l r : ByteArray) (n : Int) (w : World) (hk : k.size ≤ maxLen) (hv : v.size ≤ maxLen) (hl : l.size ≤ maxLen) (hr : r.size ≤ maxLen)
    (hK : ∀ j, j < 64 → w.cell? ⟨0, j, none⟩ = some (.int .u32 ((kTab.getD j 0).toNat : Int))) :
    Calls Tryd.prog 3 #[.agg #[.string k, .string v, .string l, .string r], .int .i64 n] w fun e w' => e = .returned (.bool true) ∧ Below w.heap.size w w' := by
  unfold maxLen at hk hv hl hr
  have hl0 : 0 < w.heap.size := World.block_lt_of_cell? w _ (hK 0 (by omega))
  have HK : Hid (∀ w' : World, Below w.heap.size w w' → ∀ j, j < 64 → w'.cell? ⟨0, j, none⟩ = some (.int .u32 ((kTab.getD j 0).toNat : Int))) := fun w' hb j hj => (hb.cell (by exact hl0)).trans (hK j hj)
  obtain ⟨q, hq⟩ : ∃ q, hashS k v l r n = q := ⟨_, rfl⟩
  have HS : Hid (∀ w', Calls Tryd.prog 7 #[.agg #[.string k, .string v, .string l, .string r], .int .i64 1048576] w' fun e w'' => ∃ x : Int, e = .returned (.int .i64 x) ∧ Hid (0 ≤ x → k.size ≤ 1048576 ∧ v.size ≤ 1048576 ∧ l.size ≤ 1048576 ∧ r.size ≤ 1048576) ∧ Below w'.heap.size w' w'') := fun w' => sz_any k v l r w' hk hv hl hr
  have HT : Hid (∀ w', Calls Tryd.prog 9 #[.agg #[.string k, .string v, .string l, .string r]] w' fun e w'' => e = .returned (.agg #[.string k, .string v, .string l, .string r]) ∧ Below w'.heap.size w' w'') := fun w' => toNode_any k v l r w'
  have HA : Hid (k.size ≤ 1048576 ∧ v.size ≤ 1048576 ∧ l.size ≤ 1048576 ∧ r.size ≤ 1048576 → ∀ w', Calls Tryd.prog 8 #[.agg #[.string k, .string v, .string l, .string r], .int .i64 n] w' fun e w'' => e = .returned (.string q) ∧ Below w'.heap.size w' w'') := fun hs w' => (shash_any k v l r n w' hs.1 hs.2.1 hs.2.2.1 hs.2.2.2).mono (by rintro e w'' ⟨t, rfl, HX, hb⟩; exact ⟨by rw [HX.out, hq], hb⟩)
  have HB : Hid (k.size ≤ 1048576 ∧ v.size ≤ 1048576 ∧ l.size ≤ 1048576 ∧ r.size ≤ 1048576 → ∀ w', Below w.heap.size w w' → Calls Tryd.prog 10 #[.agg #[.string k, .string v, .string l, .string r], .int .i64 n] w' fun e w'' => e = .returned (.string q) ∧ Below w'.heap.size w' w'') := fun hs w' hbw => (ihash_any k v l r n w' hs.1 hs.2.1 hs.2.2.1 hs.2.2.2 (HK.out w' hbw)).mono (by rintro e w'' ⟨t, rfl, HX, hb⟩; exact ⟨by rw [HX.out, hq], hb⟩)
  clear hq hk hv hl hr hK
  go_enter Tryd.func3, Tryd.ntmps3
  go_wp2_with fail
  refine (HS.out _).mono ?_
  rintro e w1 ⟨x, rfl, HX, hb1⟩
  have hn1 := below_cells hb1 (heap_alloc_new w (.cells #[.string k, .string v, .string l, .string r] 23))
  have hw1 : Below w.heap.size w w1 := ((Below.refl _ w).alloc (Nat.le_refl _) _).trans (hb1.mono (by simp))
  clear hb1
  by_cases hx : x < 0
  · have z1 : decide (x < 0) = true := decide_eq_true hx
    clear hx
    go_wp2_with fail
    go_ret
    exact ⟨rfl, hw1⟩
  · have hs := HX.out (by omega)
    have z1 : decide (x < 0) = false := decide_eq_false hx
    have HA' : Hid (∀ w', Calls Tryd.prog 8 #[.agg #[.string k, .string v, .string l, .string r], .int .i64 n] w' fun e w'' => e = .returned (.string q) ∧ Below w'.heap.size w' w'') := HA.out hs
    have HB' : Hid (∀ w', Below w.heap.size w w' → Calls Tryd.prog 10 #[.agg #[.string k, .string v, .string l, .string r], .int .i64 n] w' fun e w'' => e = .returned (.string q) ∧ Below w'.heap.size w' w'') := HB.out hs
    clear HA HB HX hx hs HS
    have c0 := Lib.cell_of_heap hn1 0
    have c1 := Lib.cell_of_heap hn1 1
    have c2 := Lib.cell_of_heap hn1 2
    have c3 := Lib.cell_of_heap hn1 3
    go_wp2_with (first | (go_at_call 9; refine (HT.out w1).mono ?_; rintro e w2 ⟨rfl, hb2⟩) | (go_at_call 8; refine (HA'.out w2).mono ?_; rintro e w3 ⟨rfl, hb3⟩; have hn3 := below_cells hb3 (below_cells hb2 hn1); have e0 := Lib.cell_of_heap hn3 0; have e1 := Lib.cell_of_heap hn3 1; have e2 := Lib.cell_of_heap hn3 2; have e3 := Lib.cell_of_heap hn3 3) | (go_at_call 9; refine (HT.out w3).mono ?_; rintro e w4 ⟨rfl, hb4⟩; have b13 : Below w1.heap.size w1 w3 := hb2.trans (hb3.mono hb2.size); have b14 : Below w1.heap.size w1 w4 := b13.trans (hb4.mono b13.size); have hw4 : Below w.heap.size w w4 := hw1.trans (b14.mono hw1.size)) | (go_at_call 10; refine (HB'.out w4 hw4).mono ?_; rintro e w5 ⟨rfl, hb5⟩))
    go_ret
    exact ⟨rfl, hw4.trans (hb5.mono hw4.size)⟩
end Go.Proofs.YtliapnhckdimoacDoor
