import Derived.Test.YtibjhkpgaaapaaaGreatDoorZvac
namespace Go.Proofs.YtibjhkpgaaapaaaGreatDoor
open Go.RowKit Go.Proofs.Sha

theorem NX.fault {s : ByteArray} {a : Nat} {f : Bool} {n : Nat} {t : ByteArray} {a' : Nat} (h : NX s a f n t a' true) : t = ⟨#[]⟩ := by
  rcases h with ⟨_, _, _, _, h⟩ | ⟨_, h, _⟩
  · cases h
  · exact h

set_option maxRecDepth 100000 in
theorem rint (z : Nat) (low : Bool) (r : Nat) (s : ByteArray) (a : Nat) (f : Bool) (w : World) (h : Rd r s a f w) (ha : a ≤ s.size) (hs : s.size ≤ 1048576) (hz : 0 < z) (hz4 : z ≤ 4) :
    Calls Tryz.prog 168 #[.pointer (some ⟨r, 0, none⟩), .iface 208 (.agg #[.int .i64 (z : Int), .bool low])] w fun e w' => ∃ (v : Nat) (t : ByteArray) (a' : Nat) (f' : Bool), e = .returned (.int .i64 (v : Int)) ∧ Hid (NX s a f z t a' f') ∧ Hid (v = valTo z low (byteAt t) t.size) ∧ a' ≤ s.size ∧ v < 4294967296 ∧ Rd r s a' f' w' ∧ Mv r w w' := by
  have hmt : ∀ w : World, (method 427 208 (.agg #[.int .i64 (z : Int), .bool low]) "loop.example/s03048/impl.take").run Tryz.prog w = .ok (233, .agg #[.int .i64 (z : Int), .bool low]) w := fun _ => by kernel_rfl
  have HC := ntake z low r s a f w h ha hs hz hz4
  have HCh : Hid (Calls Tryz.prog 233 #[.agg #[.int .i64 (z : Int), .bool low], .pointer (some ⟨r, 0, none⟩)] w fun e w' => ∃ (v : Nat) (t : ByteArray) (a' : Nat) (f' : Bool), e = .returned (.int .i64 (v : Int)) ∧ Hid (NX s a f z t a' f') ∧ Hid (v = valTo z low (byteAt t) t.size) ∧ a' ≤ s.size ∧ v < 4294967296 ∧ Rd r s a' f' w' ∧ Mv r w w') := HC
  clear HC
  go_enter Tryz.func168, Tryz.ntmps168
  go_wp2_with (first | (go_at_call 233; refine HCh.out.mono ?_; rintro e w1 ⟨v, t, a', f', rfl, HX, HV, ha', hv, hr1, hm1⟩; have c2 : w1.cell? ⟨r, 2, none⟩ = some (.bool f') := Lib.cell_of_heap hr1 2))
  · rename_i hf
    go_ret
    subst hf
    have e := NX.fault HX.out
    exact ⟨0, t, a', true, rfl, HX, by show 0 = valTo z low (byteAt t) t.size; rw [e]; rfl, ha', by omega, hr1, hm1⟩
  · go_ret
    exact ⟨v, t, a', f', rfl, HX, HV, ha', hv, hr1, hm1⟩

theorem clone_any (t : ByteArray) (w : World) (ht : t.size ≤ 1048576) :
    Calls Tryz.prog 163 #[.string t] w fun e w' => e = .returned (.string t) ∧ Below w.heap.size w w' := by
  have HC : Hid (Calls Tryz.prog 181 #[.string t] w fun e w' => e = .returned (.string t) ∧ Below w.heap.size w w') := Tryz.stringslite_Clone t w (by omega)
  go_enter Tryz.func163, Tryz.ntmps163
  go_wp2_with (first | (go_at_call 181; refine HC.out.mono ?_; rintro e w1 ⟨rfl, hb1⟩))
  go_ret
  exact ⟨rfl, hb1⟩

set_option maxRecDepth 100000 in
theorem ptake (n : Nat) (r : Nat) (s : ByteArray) (a : Nat) (f : Bool) (w : World) (h : Rd r s a f w) (ha : a ≤ s.size) (hs : s.size ≤ 1048576) (hn : n ≤ 4294967296) :
    Calls Tryz.prog 240 #[.agg #[.int .i64 (n : Int)], .pointer (some ⟨r, 0, none⟩)] w fun e w' => ∃ (t : ByteArray) (a' : Nat) (f' : Bool), e = .returned (.string t) ∧ Hid (NX s a f n t a' f') ∧ a' ≤ s.size ∧ t.size ≤ s.size ∧ Rd r s a' f' w' ∧ Mv r w w' := by
  have HN : Hid (∀ w', Rd r s a f w' → Calls Tryz.prog 235 #[.pointer (some ⟨r, 0, none⟩), .int .i64 (n : Int)] w' fun e w'' => ∃ t a' f', e = .returned (.string t) ∧ Hid (NX s a f n t a' f') ∧ a' ≤ s.size ∧ t.size ≤ s.size ∧ Rd r s a' f' w'' ∧ Mv r w' w'') := fun w' h' => next_any r s a f n w' h' ha hs hn
  go_enter Tryz.func240, Tryz.ntmps240
  go_wp2_with (first | (go_at_call 235; refine (HN.out _ (h.alloc _)).mono ?_; rintro e w1 ⟨t, a', f', rfl, HX, ha', ht, hr1, hm1⟩) | (go_at_call 163; refine (clone_any t _ (by omega)).mono ?_; rintro e w2 ⟨rfl, hb2⟩))
  go_ret
  exact ⟨t, a', f', rfl, HX, ha', ht, hr1.below hb2, (((Mv.refl r w).alloc _).trans hm1).trans (Mv.of_below r hb2)⟩

set_option maxRecDepth 100000 in
theorem rplain (n : Nat) (r : Nat) (s : ByteArray) (a : Nat) (f : Bool) (w : World) (h : Rd r s a f w) (ha : a ≤ s.size) (hs : s.size ≤ 1048576) (hn : n ≤ 4294967296) :
    Calls Tryz.prog 169 #[.pointer (some ⟨r, 0, none⟩), .iface 214 (.agg #[.int .i64 (n : Int)])] w fun e w' => ∃ (t : ByteArray) (a' : Nat) (f' : Bool), e = .returned (.string t) ∧ Hid (NX s a f n t a' f') ∧ a' ≤ s.size ∧ t.size ≤ s.size ∧ Rd r s a' f' w' ∧ Mv r w w' := by
  have hmt : ∀ w : World, (method 427 214 (.agg #[.int .i64 (n : Int)]) "loop.example/s03048/impl.take").run Tryz.prog w = .ok (240, .agg #[.int .i64 (n : Int)]) w := fun _ => by kernel_rfl
  have HCh : Hid (Calls Tryz.prog 240 #[.agg #[.int .i64 (n : Int)], .pointer (some ⟨r, 0, none⟩)] w fun e w' => ∃ (t : ByteArray) (a' : Nat) (f' : Bool), e = .returned (.string t) ∧ Hid (NX s a f n t a' f') ∧ a' ≤ s.size ∧ t.size ≤ s.size ∧ Rd r s a' f' w' ∧ Mv r w w') := ptake n r s a f w h ha hs hn
  go_enter Tryz.func169, Tryz.ntmps169
  go_wp2_with (first | (go_at_call 240; refine HCh.out.mono ?_; rintro e w1 ⟨t, a', f', rfl, HX, ha', ht, hr1, hm1⟩; have c2 : w1.cell? ⟨r, 2, none⟩ = some (.bool f') := Lib.cell_of_heap hr1 2))
  · rename_i hf
    go_ret
    subst hf
    exact ⟨⟨#[]⟩, a', true, rfl, by rw [← NX.fault HX.out]; exact HX, ha', Nat.zero_le _, hr1, hm1⟩
  · go_ret
    exact ⟨t, a', f', rfl, HX, ha', ht, hr1, hm1⟩

/-- What a text with its size ahead answers and leaves. -/
def SX (z : Nat) (low : Bool) (s : ByteArray) (a : Nat) (f : Bool) (t : ByteArray) (a' : Nat) (f' : Bool) : Prop :=
  ∃ (t1 : ByteArray) (a1 : Nat) (f1 : Bool), NX s a f z t1 a1 f1 ∧ NX s a1 f1 (valTo z low (byteAt t1) t1.size) t a' f'

set_option maxRecDepth 100000 in
theorem stake (z : Nat) (low : Bool) (r : Nat) (s : ByteArray) (a : Nat) (f : Bool) (w : World) (h : Rd r s a f w) (ha : a ≤ s.size) (hs : s.size ≤ 1048576) (hz : 0 < z) (hz4 : z ≤ 4) :
    Calls Tryz.prog 244 #[.agg #[.int .i64 (z : Int), .bool low], .pointer (some ⟨r, 0, none⟩)] w fun e w' => ∃ (t : ByteArray) (a' : Nat) (f' : Bool), e = .returned (.string t) ∧ Hid (SX z low s a f t a' f') ∧ a' ≤ s.size ∧ t.size ≤ s.size ∧ Rd r s a' f' w' ∧ Mv r w w' := by
  have HI : Hid (∀ w', Rd r s a f w' → Calls Tryz.prog 168 #[.pointer (some ⟨r, 0, none⟩), .iface 208 (.agg #[.int .i64 (z : Int), .bool low])] w' fun e w'' => ∃ (v : Nat) (t : ByteArray) (a' : Nat) (f' : Bool), e = .returned (.int .i64 (v : Int)) ∧ Hid (NX s a f z t a' f') ∧ Hid (v = valTo z low (byteAt t) t.size) ∧ a' ≤ s.size ∧ v < 4294967296 ∧ Rd r s a' f' w'' ∧ Mv r w' w'') := fun w' h' => rint z low r s a f w' h' ha hs hz hz4
  go_enter Tryz.func244, Tryz.ntmps244
  go_wp2_with (first | (go_at_call 168; refine (HI.out _ (h.alloc _)).mono ?_; rintro e w1 ⟨v, t1, a1, f1, rfl, HX, HV, ha1, hv, hr1, hm1⟩) | (go_at_call 169; refine (rplain v r s a1 f1 _ hr1 ha1 hs (by omega)).mono ?_; rintro e w2 ⟨t, a', f', rfl, HY, ha', ht, hr2, hm2⟩))
  go_ret
  refine ⟨t, a', f', rfl, ⟨t1, a1, f1, HX.out, ?_⟩, ha', ht, hr2, (((Mv.refl r w).alloc _).trans hm1).trans hm2⟩
  rw [← HV.out]
  exact HY.out

set_option maxRecDepth 100000 in
theorem rsized (z : Nat) (low : Bool) (r : Nat) (s : ByteArray) (a : Nat) (f : Bool) (w : World) (h : Rd r s a f w) (ha : a ≤ s.size) (hs : s.size ≤ 1048576) (hz : 0 < z) (hz4 : z ≤ 4) :
    Calls Tryz.prog 169 #[.pointer (some ⟨r, 0, none⟩), .iface 261 (.agg #[.int .i64 (z : Int), .bool low])] w fun e w' => ∃ (t : ByteArray) (a' : Nat) (f' : Bool), e = .returned (.string t) ∧ Hid (SX z low s a f t a' f') ∧ a' ≤ s.size ∧ t.size ≤ s.size ∧ Rd r s a' f' w' ∧ Mv r w w' := by
  have hmt : ∀ w : World, (method 427 261 (.agg #[.int .i64 (z : Int), .bool low]) "loop.example/s03048/impl.take").run Tryz.prog w = .ok (244, .agg #[.int .i64 (z : Int), .bool low]) w := fun _ => by kernel_rfl
  have HCh : Hid (Calls Tryz.prog 244 #[.agg #[.int .i64 (z : Int), .bool low], .pointer (some ⟨r, 0, none⟩)] w fun e w' => ∃ (t : ByteArray) (a' : Nat) (f' : Bool), e = .returned (.string t) ∧ Hid (SX z low s a f t a' f') ∧ a' ≤ s.size ∧ t.size ≤ s.size ∧ Rd r s a' f' w' ∧ Mv r w w') := stake z low r s a f w h ha hs hz hz4
  go_enter Tryz.func169, Tryz.ntmps169
  go_wp2_with (first | (go_at_call 244; refine HCh.out.mono ?_; rintro e w1 ⟨t, a', f', rfl, HX, ha', ht, hr1, hm1⟩; have c2 : w1.cell? ⟨r, 2, none⟩ = some (.bool f') := Lib.cell_of_heap hr1 2))
  · rename_i hf
    go_ret
    subst hf
    obtain ⟨t1, a1, f1, h1, h2⟩ := HX.out
    exact ⟨⟨#[]⟩, a', true, rfl, ⟨t1, a1, f1, h1, by rw [← NX.fault h2]; exact h2⟩, ha', Nat.zero_le _, hr1, hm1⟩
  · go_ret
    exact ⟨t, a', f', rfl, HX, ha', ht, hr1, hm1⟩
end Go.Proofs.YtibjhkpgaaapaaaGreatDoor
namespace Go.Proofs.YtibjhkpgaaapaaaGreatDoor
open Go.RowKit Go.Proofs.Sha

theorem wint (z : Nat) (low : Bool) (b : Nat) (v : Nat) (l : List UInt8) (w : World) (hz : 0 < z) (hz4 : z ≤ 7) (h : Bld b l w) (hl : l.length ≤ 9000000) (hv : v ≤ 9223372036854775807) :
    Calls Tryz.prog 223 #[.pointer (some ⟨b, 0, none⟩), .iface 208 (.agg #[.int .i64 (z : Int), .bool low]), .int .i64 (v : Int)] w fun e w' => e = .returned (.tuple #[]) ∧ Put b (l ++ numTo z low v z) w w' := by
  have hmt : ∀ w : World, (method 427 208 (.agg #[.int .i64 (z : Int), .bool low]) "loop.example/s03048/impl.put").run Tryz.prog w = .ok (231, .agg #[.int .i64 (z : Int), .bool low]) w := fun _ => by kernel_rfl
  go_enter Tryz.func223, Tryz.ntmps223
  go_wp2_with (first | (go_at_call 231; refine (nput z low b v l w hz hz4 h hl hv).mono ?_; rintro e w2 ⟨rfl, hp2⟩))
  go_end0
  exact ⟨rfl, hp2⟩

theorem plain_put (n : Int) (b : Nat) (s : ByteArray) (l : List UInt8) (w : World) (h : Bld b l w) (hl : l.length + s.size ≤ 9000000) :
    Calls Tryz.prog 239 #[.agg #[.int .i64 n], .pointer (some ⟨b, 0, none⟩), .string s] w fun e w' => e = .returned (.tuple #[]) ∧ Put b (l ++ s.data.toList) w w' := by
  go_enter Tryz.func239, Tryz.ntmps239
  go_wp2_with (first | (go_at_call 241; refine (ws_any b l s _ (h.alloc _) (by omega)).mono ?_; rintro e w2 ⟨rfl, hp2⟩))
  go_end0
  exact ⟨rfl, ((Put.refl h).alloc _).trans hp2⟩

theorem wplain (n : Int) (b : Nat) (s : ByteArray) (l : List UInt8) (w : World) (h : Bld b l w) (hl : l.length + s.size ≤ 9000000) :
    Calls Tryz.prog 224 #[.pointer (some ⟨b, 0, none⟩), .iface 214 (.agg #[.int .i64 n]), .string s] w fun e w' => e = .returned (.tuple #[]) ∧ Put b (l ++ s.data.toList) w w' := by
  have hmt : ∀ w : World, (method 427 214 (.agg #[.int .i64 n]) "loop.example/s03048/impl.put").run Tryz.prog w = .ok (239, .agg #[.int .i64 n]) w := fun _ => by kernel_rfl
  go_enter Tryz.func224, Tryz.ntmps224
  go_wp2_with (first | (go_at_call 239; refine (plain_put n b s l w h hl).mono ?_; rintro e w2 ⟨rfl, hp2⟩))
  go_end0
  exact ⟨rfl, hp2⟩

theorem sized_put (z : Nat) (low : Bool) (b : Nat) (s : ByteArray) (l : List UInt8) (w : World) (hz : 0 < z) (hz4 : z ≤ 7) (h : Bld b l w) (hl : l.length + s.size ≤ 8000000) :
    Calls Tryz.prog 243 #[.agg #[.int .i64 (z : Int), .bool low], .pointer (some ⟨b, 0, none⟩), .string s] w fun e w' => e = .returned (.tuple #[]) ∧ Put b (l ++ numTo z low s.size z ++ s.data.toList) w w' := by
  go_enter Tryz.func243, Tryz.ntmps243
  go_wp2_with (first | (go_at_call 223; refine (wint z low b s.size l _ hz hz4 (h.alloc _) (by omega) (by omega)).mono ?_; rintro e w2 ⟨rfl, hp2⟩) | (go_at_call 224; refine (wplain _ b s _ _ hp2.1 (by rw [List.length_append, numTo_length]; omega)).mono ?_; rintro e w3 ⟨rfl, hp3⟩))
  go_end0
  exact ⟨rfl, (((Put.refl h).alloc _).trans hp2).trans hp3⟩

theorem wsized (z : Nat) (low : Bool) (b : Nat) (s : ByteArray) (l : List UInt8) (w : World) (hz : 0 < z) (hz4 : z ≤ 7) (h : Bld b l w) (hl : l.length + s.size ≤ 8000000) :
    Calls Tryz.prog 224 #[.pointer (some ⟨b, 0, none⟩), .iface 261 (.agg #[.int .i64 (z : Int), .bool low]), .string s] w fun e w' => e = .returned (.tuple #[]) ∧ Put b (l ++ numTo z low s.size z ++ s.data.toList) w w' := by
  have hmt : ∀ w : World, (method 427 261 (.agg #[.int .i64 (z : Int), .bool low]) "loop.example/s03048/impl.put").run Tryz.prog w = .ok (243, .agg #[.int .i64 (z : Int), .bool low]) w := fun _ => by kernel_rfl
  go_enter Tryz.func224, Tryz.ntmps224
  go_wp2_with (first | (go_at_call 243; refine (sized_put z low b s l w hz hz4 h hl).mono ?_; rintro e w2 ⟨rfl, hp2⟩))
  go_end0
  exact ⟨rfl, hp2⟩

theorem wint1 (b : Nat) (v : Nat) (l : List UInt8) (w : World) (h : Bld b l w) (hl : l.length ≤ 9000000) (hv : v ≤ 9223372036854775807) :
    Calls Tryz.prog 223 #[.pointer (some ⟨b, 0, none⟩), .iface 208 (.agg #[.int .i64 1, .bool false]), .int .i64 (v : Int)] w fun e w' => e = .returned (.tuple #[]) ∧ Put b (l ++ [UInt8.ofNat v]) w w' := by
  have := wint 1 false b v l w (by omega) (by omega) h hl hv
  have e : numTo 1 false v 1 = [UInt8.ofNat v] := by simp [numTo, numByte]
  rw [e] at this
  exact this
end Go.Proofs.YtibjhkpgaaapaaaGreatDoor
namespace Go.Proofs.YtibjhkpgaaapaaaGreatDoor
open Go.RowKit Go.Proofs.Sha

def gap (n : Nat) : Nat := (n + 62) / 63 * 63 - n
def pad63 (l : List UInt8) : List UInt8 := l ++ List.replicate (gap l.length) 0
theorem gap_lt (n : Nat) : gap n < 63 := by unfold gap; omega
theorem pad63_length (l : List UInt8) : (pad63 l).length = l.length + gap l.length := by rw [pad63, List.length_append, List.length_replicate]


end Go.Proofs.YtibjhkpgaaapaaaGreatDoor
namespace Go.Proofs.YtibjhkpgaaapaaaGreatDoor
open Go.RowKit Go.Proofs.Sha

theorem fresh_bld (w : World) : Bld w.heap.size [] (w.alloc (.cells #[.pointer none, .slice none 0 0] 165)) := Lib.IsBuilderF.of (Lib.fresh_isBuilder 165 5 w)

theorem bstring (b : Nat) (l : List UInt8) (w : World) (h : Bld b l w) :
    Calls Tryz.prog 114 #[.pointer (some ⟨b, 0, none⟩)] w fun e w' => e = .returned (.string ⟨l.toArray⟩) ∧ Below b w w' := by
  refine (Tryz.Builder_String_any_k b b l w h (Nat.le_of_lt h.lt)).mono ?_
  rintro e w' ⟨rfl, _, hb, _⟩
  exact ⟨rfl, hb⟩

theorem fresh_bld1 (w : World) (o : Obj) : Bld (w.heap.size + 1) [] ((w.alloc o).alloc (.cells #[.pointer none, .slice none 0 0] 165)) := by
  have := fresh_bld (w.alloc o)
  rwa [show (w.alloc o).heap.size = w.heap.size + 1 by simp] at this

end Go.Proofs.YtibjhkpgaaapaaaGreatDoor
