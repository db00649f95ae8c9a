import Derived.Test.YtglpjoandgbngabRi
namespace Go.Proofs.Ytglpjoandgbngab
open Go.RowKit Go.Proofs.Sha

/-- A sector with its mark is read. -/
def CX (mk : Nat) (s : ByteArray) (a : Nat) (f : Bool) (t : ByteArray) (a' : Nat) (f' : Bool) : Prop :=
  (f = false ∧ a + 64 ≤ s.size ∧ (s.data.toList.getD (a + 63) 0).toNat = mk ∧ t = s.extract a (a + 63) ∧ a' = a + 64 ∧ f' = false) ∨
  ((f = true ∨ ¬ (a + 64 ≤ s.size ∧ (s.data.toList.getD (a + 63) 0).toNat = mk)) ∧ f' = true)

theorem CX_of {mk : Nat} {s : ByteArray} {a : Nat} {f : Bool} {t : ByteArray} {a1 : Nat} {f1 : Bool} {t2 : ByteArray} {a2 : Nat} {f2 : Bool} {v : Nat} (_hmk : 1 ≤ mk) (h1 : NX s a f 63 t a1 f1) (h2 : NX s a1 f1 1 t2 a2 f2) (hv : v = valTo 1 false (byteAt t2) t2.size) :
    (v = mk → CX mk s a f t a2 f2) ∧ (¬ v = mk → CX mk s a f t a2 true) := by
  rcases h1 with ⟨hf, hle, ht, ha1, hf1⟩ | ⟨hf, _, ha1, hf1⟩
  · subst ha1
    rcases NX1 h2 with ⟨_, hle2, hv2, ha2, hf2⟩ | ⟨hno, hf2⟩
    · rw [hv2] at hv
      refine ⟨fun e => .inl ⟨hf, by omega, by rw [← hv]; exact e, ht, by omega, hf2⟩, fun e => .inr ⟨.inr fun hh => e ?_, rfl⟩⟩
      rw [hv]; exact hh.2
    · have hn : ¬ a + 64 ≤ s.size := by
        rcases hno with g | g
        · rw [hf1] at g; cases g
        · omega
      exact ⟨fun _ => .inr ⟨.inr fun hh => hn hh.1, hf2⟩, fun _ => .inr ⟨.inr fun hh => hn hh.1, rfl⟩⟩
  · have hf2 : f2 = true := by
      rcases h2 with ⟨g, _⟩ | ⟨_, _, _, g⟩
      · rw [hf1] at g; cases g
      · exact g
    have hn : f = true ∨ ¬ (a + 64 ≤ s.size ∧ (s.data.toList.getD (a + 63) 0).toNat = mk) := by
      rcases hf with g | g
      · exact .inl g
      · exact .inr fun hh => g (by omega)
    exact ⟨fun _ => .inr ⟨hn, hf2⟩, fun _ => .inr ⟨hn, rfl⟩⟩

set_option maxRecDepth 100000 in
theorem sec_take (mk : Nat) (r : Nat) (s : ByteArray) (a : Nat) (f : Bool) (w : World) (h : Rd r s a f w) (ha : a ≤ s.size) (hs : s.size ≤ 1048576) (_hmk : mk ≤ 255) (hmk1 : 1 ≤ mk) :
    Calls Try.prog 131 #[.agg #[.int .i64 (mk : Int)], .pointer (some ⟨r, 0, none⟩)] w fun e w' => ∃ (t : ByteArray) (a' : Nat) (f' : Bool), e = .returned (.string t) ∧ Hid (CX mk s a f t a' f') ∧ a' ≤ s.size ∧ t.size ≤ s.size ∧ Rd r s a' f' w' ∧ Mv r w w' := by
  have HN : Hid (∀ w', Rd r s a f w' → Calls Try.prog 89 #[.pointer (some ⟨r, 0, none⟩), .int .i64 63] w' fun e w'' => ∃ t a' f', e = .returned (.string t) ∧ Hid (NX s a f 63 t a' f') ∧ a' ≤ s.size ∧ t.size ≤ s.size ∧ Rd r s a' f' w'' ∧ Mv r w' w'') := fun w' h' => next_any r s a f 63 w' h' ha hs (by omega)
  have HI : Hid (∀ (a : Nat) (f : Bool) w', a ≤ s.size → Rd r s a f w' → Calls Try.prog 65 #[.pointer (some ⟨r, 0, none⟩), .iface 93 (.agg #[.int .i64 1, .bool false])] w' fun e w'' => ∃ (v : Nat) (t : ByteArray) (a' : Nat) (f' : Bool), e = .returned (.int .i64 (v : Int)) ∧ Hid (NX s a f 1 t a' f') ∧ Hid (v = valTo 1 false (byteAt t) t.size) ∧ a' ≤ s.size ∧ v < 4294967296 ∧ Rd r s a' f' w'' ∧ Mv r w' w'') := fun a f w' ha' h' => rint1 r s a f w' h' ha' hs
  have hlt := h.lt
  obtain ⟨fb, hfb⟩ : ∃ fb, w.heap.size = fb := ⟨_, rfl⟩
  go_enter Try.func131, Try.ntmps131
  go_wp2_with fail
  refine (HN.out _ (h.alloc _)).mono ?_
  rintro e w1 ⟨t, a1, f1, rfl, HX, ha1, ht, hr1, hm1⟩
  have hn1 : w1.heap[fb]? = some (.cells #[.int .i64 (mk : Int)] 116) := by rw [← hfb]; exact hm1.cells (heap_alloc_new _ _) (by omega)
  have hmw : Mv r w w1 := ((Mv.refl r w).alloc _).trans hm1
  have c0 : w1.cell? ⟨fb, 0, none⟩ = some (.int .i64 (mk : Int)) := Lib.cell_of_heap hn1 0
  clear hm1 HN
  go_wp2_with fail
  go_region_held3 (fun W => W.cell? ⟨fb, 0, none⟩ = some (.int .i64 (mk : Int))) (first | exact c0 | exact Lib.cell_of_heap hn2 0)
    (first | (go_at_call 65; refine (HI.out a1 f1 _ ha1 hr1.drew).mono ?_; rintro e w2 ⟨v, t2, a2, f2, rfl, HX2, HV, ha2, hv, hr2, hm2⟩; have hn2 := hm2.cells (show w1.drew.heap[fb]? = _ from hn1) (by omega)))
  have hmw2 : Mv r w w2 := hmw.drew.trans hm2
  have HCX := CX_of hmk1 HX.out HX2.out HV.out
  by_cases hvm : v = mk
  · have z1 : ((v : Int) == (mk : Int)) = true := by rw [hvm]; simp
    have HC : Hid (CX mk s a f t a2 f2) := HCX.1 hvm
    clear HCX hvm HX HX2 HV
    go_wp2_with fail
    go_ret
    exact ⟨t, a2, f2, rfl, HC, ha2, ht, hr2, hmw2⟩
  · have z1 : ((v : Int) == (mk : Int)) = false := by rw [beq_eq_false_iff_ne]; omega
    have HC : Hid (CX mk s a f t a2 true) := HCX.2 hvm
    clear HCX hvm HX HX2 HV
    go_wp2_with (first | (go_at_call 40; refine (fail_any r s a2 f2 _ hr2).mono ?_; rintro e w3 ⟨rfl, hr3, hm3⟩))
    go_ret
    exact ⟨t, a2, true, rfl, HC, ha2, ht, hr3, hmw2.trans hm3⟩

theorem CX.fault {mk : Nat} {s : ByteArray} {a : Nat} {f : Bool} {t : ByteArray} {a' : Nat} (h : CX mk s a f t a' true) (t' : ByteArray) : CX mk s a f t' a' true := by
  rcases h with ⟨_, _, _, _, _, h⟩ | h
  · cases h
  · exact .inr h

set_option maxRecDepth 100000 in
theorem rsec (mk : Nat) (r : Nat) (s : ByteArray) (a : Nat) (f : Bool) (w : World) (h : Rd r s a f w) (ha : a ≤ s.size) (hs : s.size ≤ 1048576) (hmk : mk ≤ 255) (hmk1 : 1 ≤ mk) :
    Calls Try.prog 64 #[.pointer (some ⟨r, 0, none⟩), .iface 116 (.agg #[.int .i64 (mk : Int)])] w fun e w' => ∃ (t : ByteArray) (a' : Nat) (f' : Bool), e = .returned (.string t) ∧ Hid (CX mk s a f t a' f') ∧ (f' = true → t = ⟨#[]⟩) ∧ a' ≤ s.size ∧ t.size ≤ s.size ∧ Rd r s a' f' w' ∧ Mv r w w' := by
  have hmt : ∀ w : World, (method 269 116 (.agg #[.int .i64 (mk : Int)]) "loop.example/s03048/impl.take").run Try.prog w = .ok (131, .agg #[.int .i64 (mk : Int)]) w := fun _ => by kernel_rfl
  have HCh : Hid (Calls Try.prog 131 #[.agg #[.int .i64 (mk : Int)], .pointer (some ⟨r, 0, none⟩)] w fun e w' => ∃ (t : ByteArray) (a' : Nat) (f' : Bool), e = .returned (.string t) ∧ Hid (CX mk s a f t a' f') ∧ a' ≤ s.size ∧ t.size ≤ s.size ∧ Rd r s a' f' w' ∧ Mv r w w') := sec_take mk r s a f w h ha hs hmk hmk1
  go_enter Try.func64, Try.ntmps64
  go_wp2_with (first | (go_at_call 131; refine HCh.out.mono ?_; rintro e w1 ⟨t, a', f', rfl, HX, ha', ht, hr1, hm1⟩; have c2 : w1.cell? ⟨r, 2, none⟩ = some (.bool f') := Lib.cell_of_heap hr1 2))
  · rename_i hf
    go_ret
    subst hf
    exact ⟨⟨#[]⟩, a', true, rfl, HX.out.fault _, fun _ => rfl, ha', Nat.zero_le _, hr1, hm1⟩
  · rename_i hf
    go_ret
    exact ⟨t, a', f', rfl, HX, fun h => absurd h (by simpa using hf), ha', ht, hr1, hm1⟩
end Go.Proofs.Ytglpjoandgbngab
