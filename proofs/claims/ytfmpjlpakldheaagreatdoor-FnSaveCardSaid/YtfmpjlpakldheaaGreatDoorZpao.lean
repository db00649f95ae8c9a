import Derived.Test.YtfmpjlpakldheaaGreatDoorZpan
import Derived.Test.YtfmpjlpakldheaaGreatDoorZpak
import Derived.Test.YtfmpjlpakldheaaGreatDoorZpal
import Derived.Test.YtfmpjlpakldheaaGreatDoorZpaf
import Derived.Test.YtfmpjlpakldheaaGreatDoorZpac
import Derived.Test.YtfmpjlpakldheaaGreatDoorZpab
import Derived.Deep.Cut
import Derived.Deep.RegionHeld3
import Derived.Lib.Builder
import Derived.Deep.QuietTactic
import Derived.BigQuiet
import Derived.Test.YtfmpjlpakldheaaGreatDoorZpai
set_option maxRecDepth 100000
set_option maxHeartbeats 1000000
namespace Go.Proofs.YtfmpjlpakldheaaGreatDoor
open Go.RowKit Go.Proofs.Sha Tryz
theorem ex_list (s : ByteArray) (a n : Nat) : (s.extract a (a + n)).data.toList = (s.data.toList.drop a).take n := by
 conv => lhs; rw [<- T_of s, T_extract]
 rw [T_data, Nat.add_sub_cancel_left]
theorem ex_size (s : ByteArray) (a n : Nat) (h : a + n <= s.size) : (s.extract a (a + n)).size = n := by
 rw [ByteArray.size_extract]; omega
theorem byteAt_ex (s : ByteArray) (a n i : Nat) (hi : i < n) : byteAt (s.extract a (a + n)) i = (s.data.toList.getD (a + i) 0).toNat := by
 unfold byteAt
 rw [ex_list, List.getD_eq_getElem?_getD, List.getD_eq_getElem?_getD, List.getElem?_take_of_lt hi, List.getElem?_drop]
theorem or_add (x y k : Nat) (h : y < 2 ^ k) : x * 2 ^ k ||| y = x * 2 ^ k + y := by
 rw [Nat.mul_comm, <- Nat.two_pow_add_eq_or_of_lt h]
theorem val1 (b : Nat -> Nat) : valTo 1 false b 1 = b 0 := by simp [valTo]
theorem val2 (b : Nat -> Nat) (hb : ∀ i, b i < 256) : valTo 2 false b 2 = b 0 * 256 + b 1 := by
 have e : valTo 2 false b 2 = b 0 * 2 ^ 8 ||| b 1 := by simp [valTo]
 rw [e, or_add _ _ 8 (hb 1)]
theorem SX2 {s : ByteArray} {a : Nat} {f : Bool} {t : ByteArray} {a' : Nat} {f' : Bool} (h : SX 2 false s a f t a' f') :
 (f = false /\ pieceOk s a /\ t = s.extract (a + 2) (a + 2 + szAt s a) /\ a' = a + 2 + szAt s a /\ f' = false) \/ ((f = true \/ ¬ pieceOk s a) /\ f' = true) := by
 obtain ⟨t1, a1, f1, h1, h2⟩ := h
 rcases h1 with ⟨hf, hle, ht1, ha1, hf1⟩ | ⟨hf, ht1, ha1, hf1⟩
 · have hv : valTo 2 false (byteAt t1) t1.size = szAt s a := by
    rw [ht1, ex_size s a 2 hle, val2 _ (byteAt_lt _), byteAt_ex s a 2 0 (by omega), byteAt_ex s a 2 1 (by omega)]
    rfl
   rw [hv] at h2
   rcases h2 with ⟨_, hle2, ht, ha', hf'⟩ | ⟨hf2, _, _, hf'⟩
   · subst ha1
     exact .inl ⟨hf, ⟨hle, hle2⟩, ht, ha', hf'⟩
   · subst ha1
     refine .inr ⟨.inr fun hp => ?_, hf'⟩
     rcases hf2 with h | h
     · rw [hf1] at h; cases h
     · exact h hp.2
 · rcases h2 with ⟨hf2, _⟩ | ⟨_, _, _, hf'⟩
   · rw [hf1] at hf2; cases hf2
   · refine .inr ⟨?_, hf'⟩
     rcases hf with h | h
     · exact .inl h
     · exact .inr fun hp => h hp.1
theorem NX1 {s : ByteArray} {a : Nat} {f : Bool} {t : ByteArray} {a' : Nat} {f' : Bool} (h : NX s a f 1 t a' f') :
 (f = false /\ a + 1 <= s.size /\ valTo 1 false (byteAt t) t.size = (s.data.toList.getD a 0).toNat /\ a' = a + 1 /\ f' = false) \/ ((f = true \/ ¬ a + 1 <= s.size) /\ f' = true) := by
 rcases h with ⟨hf, hle, ht, ha', hf'⟩ | ⟨hf, _, _, hf'⟩
 · refine .inl ⟨hf, hle, ?_, ha', hf'⟩
   rw [ht, ex_size s a 1 hle, val1, byteAt_ex s a 1 0 (by omega)]
   rfl
 · exact .inr ⟨hf, hf'⟩
theorem NR.ok {n : Nat} {s k v l x : ByteArray} {a' : Nat} (h : NR n s 0 false k v l x a' false) :
 ∃ a1 a2 fl, pieceOk s 0 /\ k = s.extract (0 + 2) (0 + 2 + szAt s 0) /\ a1 = 0 + 2 + szAt s 0 /\ pieceOk s a1 /\ v = s.extract (a1 + 2) (a1 + 2 + szAt s a1) /\ a2 = a1 + 2 + szAt s a1 /\ a2 + 1 <= s.size /\ fl = (s.data.toList.getD a2 0).toNat ∧
  a2 + 1 + (if fl &&& 1 = 0 then 0 else n) + (if fl &&& 2 = 0 then 0 else n) <= s.size /\ l = s.extract (a2 + 1) (a2 + 1 + (if fl &&& 1 = 0 then 0 else n)) ∧
  x = s.extract (a2 + 1 + (if fl &&& 1 = 0 then 0 else n)) (a2 + 1 + (if fl &&& 1 = 0 then 0 else n) + (if fl &&& 2 = 0 then 0 else n)) /\ a' = a2 + 1 + (if fl &&& 1 = 0 then 0 else n) + (if fl &&& 2 = 0 then 0 else n) /\ fl <= 3 /\ nodeOk k.size v.size l.size x.size (n : Int) = true := by
 obtain ⟨a1, f1, a2, f2, fl, t3, a3, f3, a4, f4, f5, h1, h2, h3, hfl, h4, h5, hf⟩ := h
 have hf5 : f5 = false /\ ¬ 3 < fl /\ nodeOk k.size v.size l.size x.size (n : Int) = true := by
  cases f5
  · simp at hf; exact ⟨rfl, by omega, hf.2⟩
  · simp at hf
 rcases h5 with ⟨g4, hle5, hx, ha', _⟩ | ⟨_, _, _, g⟩
 rotate_left
 · rw [hf5.1] at g; cases g
 rcases h4 with ⟨g3, hle4, hl, ha4, _⟩ | ⟨_, _, _, g⟩
 rotate_left
 · rw [g4] at g; cases g
 rcases NX1 h3 with ⟨g2, hle3, hv3, ha3, _⟩ | ⟨_, g⟩
 rotate_left
 · rw [g3] at g; cases g
 rcases SX2 h2 with ⟨g1, hp2, hv, ha2, _⟩ | ⟨_, g⟩
 rotate_left
 · rw [g2] at g; cases g
 rcases SX2 h1 with ⟨_, hp1, hk, ha1, _⟩ | ⟨_, g⟩
 rotate_left
 · rw [g1] at g; cases g
 subst ha4 ha3
 exact ⟨a1, a2, fl, hp1, hk, ha1, hp2, hv, ha2, hle3, by rw [hfl, hv3], hle5, hl, hx, ha', by omega, hf5.2.2⟩
theorem seg_add (L : List UInt8) (a m p : Nat) : (L.drop a).take m ++ (L.drop (a + m)).take p = (L.drop a).take (m + p) := by
 rw [List.take_add, List.drop_drop]
theorem seg_two (L : List UInt8) (a : Nat) (h : a + 2 <= L.length) : (L.drop a).take 2 = [L.getD a 0, L.getD (a + 1) 0] := by
 rw [List.getD_eq_getElem?_getD, List.getD_eq_getElem?_getD, List.getElem?_eq_getElem (by omega), List.getElem?_eq_getElem (by omega), List.drop_eq_getElem_cons (by omega), List.take_succ_cons, List.drop_eq_getElem_cons (by omega), List.take_succ_cons, List.take_zero]
 rfl
theorem seg_one (L : List UInt8) (a : Nat) (h : a + 1 <= L.length) : (L.drop a).take 1 = [L.getD a 0] := by
 rw [List.getD_eq_getElem?_getD, List.getElem?_eq_getElem (by omega), List.drop_eq_getElem_cons (by omega), List.take_succ_cons, List.take_zero]
 rfl
theorem sized_seg (s : ByteArray) (a : Nat) (h : pieceOk s a) : sized (s.extract (a + 2) (a + 2 + szAt s a)).data.toList = (s.data.toList.drop a).take (2 + szAt s a) := by
 have hL : s.data.toList.length = s.size := rfl
 have hlen : ((s.data.toList.drop (a + 2)).take (szAt s a)).length = szAt s a := by
  have := h.2
  rw [List.length_take, List.length_drop]; omega
 rw [ex_list, <- seg_add, seg_two _ _ (by rw [hL]; exact h.1), sized, hlen]
 have h0 := (s.data.toList.getD a 0).toNat_lt
 have h1 := (s.data.toList.getD (a + 1) 0).toNat_lt
 have e0 : szAt s a / 256 = (s.data.toList.getD a 0).toNat := by unfold szAt; omega
 have e1 : szAt s a % 256 = (s.data.toList.getD (a + 1) 0).toNat := by unfold szAt; omega
 rw [e0, e1]
 simp
theorem flag_eq (fl n l x : Nat) (hfl : fl <= 3) (hn : 1 <= n) (hl : l = if fl &&& 1 = 0 then 0 else n) (hx : x = if fl &&& 2 = 0 then 0 else n) : flagOf l x = fl := by
 subst hl hx
 have : fl = 0 \/ fl = 1 \/ fl = 2 \/ fl = 3 := by omega
 have h0 : ¬ n = 0 := by omega
 rcases this with rfl | rfl | rfl | rfl <;> simp [flagOf, h0]
theorem flag_back (fl n l x : Nat) (hn : 1 <= n) (hfl : fl = flagOf l x) (hl : l = 0 \/ l = n) (hx : x = 0 \/ x = n) : (if fl &&& 1 = 0 then 0 else n) = l /\ (if fl &&& 2 = 0 then 0 else n) = x /\ fl <= 3 := by
 subst hfl
 unfold flagOf
 rcases hl with rfl | rfl <;> rcases hx with rfl | rfl
 · simp
 · have h : ¬ x = 0 := by omega
   simp [h]
 · have h : ¬ l = 0 := by omega
   simp [h]
 · have h : ¬ x = 0 := by omega
   simp [h]
theorem NR.enc {n : Nat} {s k v l x : ByteArray} (h : NR n s 0 false k v l x s.size false) : IsEnc s (n : Int) k v l x := by
 obtain ⟨a1, a2, fl, hp0, hk, ha1, hp1, hv, ha2, hle, hfl, hle2, hl, hx, hend, hfl3, hok⟩ := h.ok
 have ho := nodeOk_out hok
 refine ⟨hok, ?_⟩
 have hL : s.data.toList.length = s.size := rfl
 obtain ⟨n1, hn1⟩ : ∃ m, (if fl &&& 1 = 0 then 0 else n) = m := ⟨_, rfl⟩
 obtain ⟨n2, hn2⟩ : ∃ m, (if fl &&& 2 = 0 then 0 else n) = m := ⟨_, rfl⟩
 rw [hn1, hn2] at hle2 hx hend
 rw [hn1] at hl
 have hls : l.size = n1 := by rw [hl]; exact ex_size s _ _ (by omega)
 have hxs : x.size = n2 := by rw [hx]; exact ex_size s _ _ (by omega)
 have hf : flagOf l.size x.size = fl := flag_eq fl n _ _ hfl3 (by omega) (by rw [hls, hn1]) (by rw [hxs, hn2])
 refine of_list ?_
 unfold encL
 rw [show l.data.toList.length = l.size from rfl, show x.data.toList.length = x.size from rfl, hf]
 have e4 : x.data.toList = (s.data.toList.drop (a2 + 1 + n1)).take n2 := by rw [hx]; exact ex_list _ _ _
 have e3 : l.data.toList = (s.data.toList.drop (a2 + 1)).take n1 := by rw [hl]; exact ex_list _ _ _
 have e2 : [UInt8.ofNat fl] = (s.data.toList.drop a2).take 1 := by rw [seg_one _ _ (by rw [hL]; exact hle), hfl]; simp
 have e1 : sized v.data.toList = (s.data.toList.drop a1).take (2 + szAt s a1) := by rw [hv]; exact sized_seg s a1 hp1
 have e0 : sized k.data.toList = (s.data.toList.drop 0).take (2 + szAt s 0) := by rw [hk]; exact sized_seg s 0 hp0
 rw [e0, e1, e2, e3, e4]
 obtain ⟨z0, hz0⟩ : ∃ z, szAt s 0 = z := ⟨_, rfl⟩
 obtain ⟨z1, hz1⟩ : ∃ z, szAt s a1 = z := ⟨_, rfl⟩
 rw [hz0, hz1]
 rw [show a1 = 0 + (2 + z0) by omega, seg_add, show a2 = 0 + (2 + z0 + (2 + z1)) by omega, seg_add, show 0 + (2 + z0 + (2 + z1)) + 1 = 0 + (2 + z0 + (2 + z1) + 1) by omega, seg_add, show 0 + (2 + z0 + (2 + z1) + 1) + n1 = 0 + (2 + z0 + (2 + z1) + 1 + n1) by omega, seg_add]
 rw [List.drop_zero, List.take_of_length_le (by rw [hL]; omega)]
theorem NR.no {n : Nat} {s k v l x : ByteArray} {a' : Nat} {f' : Bool} (h : NR n s 0 false k v l x a' f') (hno : ¬ (f' = false /\ a' = s.size)) (k' v' l' x' : ByteArray) : ¬ IsEnc s (n : Int) k' v' l' x' := by
 intro hE
 obtain ⟨p1, p2, p3⟩ := hE.parts
 obtain ⟨q1, q2, q3⟩ := p3 _ rfl
 obtain ⟨r1, r2⟩ := q3 _ rfl
 have ho := nodeOk_out hE.1
 obtain ⟨a1, f1, a2, f2, fl, t3, a3, f3, a4, f4, f5, h1, h2, h3, hfl, h4, h5, hf⟩ := h
 rcases SX2 h1 with ⟨_, hp1, hk, ha1, hf1⟩ | ⟨g, _⟩
 rotate_left
 · rcases g with g | g
   · cases g
   · exact g ⟨by omega, by omega⟩
 rcases SX2 h2 with ⟨_, hp2, hv, ha2, hf2⟩ | ⟨g, _⟩
 rotate_left
 · rcases g with g | g
   · rw [hf1] at g; cases g
   · subst ha1; exact g ⟨by omega, by omega⟩
 rcases NX1 h3 with ⟨_, hle3, hv3, ha3, hf3⟩ | ⟨g, _⟩
 rotate_left
 · rcases g with g | g
   · rw [hf2] at g; cases g
   · subst ha1 ha2; exact g (by omega)
 have hflv : fl = flagOf l'.size x'.size := by subst ha1 ha2; rw [hfl, hv3, r1]
 have hb := flag_back fl n l'.size x'.size (by omega) hflv (by omega) (by omega)
 have hsz : s.size - (a2 + 1) = l'.size + x'.size := by
  subst ha1 ha2
  have := congrArg ByteArray.size r2
  rw [ByteArray.size_extract, ByteArray.size_append] at this
  omega
 rw [hb.1] at h4
 rw [hb.2.1] at h5
 rcases h4 with ⟨_, hle4, hl, ha4, hf4⟩ | ⟨g, _⟩
 rotate_left
 · rcases g with g | g
   · rw [hf3] at g; cases g
   · exact g (by omega)
 rcases h5 with ⟨_, hle5, hx, ha5, hf5⟩ | ⟨g, _⟩
 rotate_left
 · rcases g with g | g
   · rw [hf4] at g; cases g
   · exact g (by omega)
 apply hno
 have hks : k = k' := by rw [hk, p2]
 have hvs : v = v' := by subst ha1; rw [hv, q2]
 have hls : l.size = l'.size := by rw [hl]; exact ex_size s _ _ (by omega)
 have hxs : x.size = x'.size := by rw [hx]; exact ex_size s _ _ (by omega)
 refine ⟨?_, by omega⟩
 rw [hf, hf5, hks, hvs, hls, hxs, hE.1, decide_eq_false (by omega)]
 rfl
theorem ret11 {w : World} {g : Nat} {k v l r : ByteArray} (h : NB g k v l r w) {a : Act} {R : Ending -> World -> Prop} (b : Bool) (h4 : a.tmps.getD 4 undef = .pointer (some ⟨g, 0, none⟩)) (h5 : a.tmps.getD 5 undef = .bool b) (hd : a.defers = [])
 (hR : R (.returned (.tuple #[nodeV k v l r, .bool b])) w) : bodyPost prog Tryz.f181 R .ret a w := by
 have c0 : w.cell? ⟨g, 0, none⟩ = some (.string k) := ZC h 0
 have c1 : w.cell? ⟨g, 1, none⟩ = some (.string v) := ZC h 1
 have c2 : w.cell? ⟨g, 2, none⟩ = some (.string l) := ZC h 2
 have c3 : w.cell? ⟨g, 3, none⟩ = some (.string r) := ZC h 3
 have h4' : a.tmps[4]?.getD undef = .pointer (some ⟨g, 0, none⟩) := by simpa using h4
 have h5' : a.tmps[5]?.getD undef = .bool b := by simpa using h5
 exact bodyPost_ret (v := .tuple #[nodeV k v l r, .bool b]) (by simp [results, Tryz.results181, go_sem, h4', h5', asAddr, c0, c1, c2, c3]) hd hR
theorem dec_impl (s : ByteArray) (n : Int) (w : World) (hs : s.size <= 1048576) :
 Calls prog 181 #[.string s, .int .i64 n] w fun e w' => decPost s n e /\ Below w.heap.size w w' := by
 by_cases hw : 1 <= n /\ n <= 32
 · obtain ⟨m, rfl⟩ := Int.eq_ofNat_of_zero_le (show 0 <= n by omega)
   have z1 : decide ((1 : Int) <= (m : Int)) = true := by simp; omega
   have z2 : decide ((m : Int) <= 32) = true := by simp; omega
   have HC : Hid (∀ w', Calls prog 186 #[.string s, .iface 227 (.agg #[.int .i64 (m : Int)])] w' fun e w'' => ∃ (k v l x : ByteArray) (b : Bool), e = .returned (.tuple #[nodeV k v l x, .bool b]) /\ Hid (decPost s (m : Int) (.returned (.tuple #[nodeV k v l x, .bool b]))) /\ Below w'.heap.size w' w'') := by
    intro w'
    refine (whole_node m s w' hs (by omega)).mono ?_
    rintro e w'' ⟨k, v, l, x, a', f', rfl, HNR, ha', hb⟩
    by_cases hc : f' = false /\ a' = s.size
    · refine ⟨k, v, l, x, true, by unfold wholeV; rw [if_pos hc], .inl ⟨k, v, l, x, ?_, rfl⟩, hb⟩
      have := HNR.out
      rw [hc.1, hc.2] at this
      exact this.enc
    · exact ⟨⟨#[]⟩, ⟨#[]⟩, ⟨#[]⟩, ⟨#[]⟩, false, by unfold wholeV; rw [if_neg hc], .inr ⟨fun k' v' l' x' => HNR.out.no hc k' v' l' x', rfl⟩, hb⟩
   obtain ⟨fb, hfb⟩ : ∃ fb, w.heap.size = fb := ⟨_, rfl⟩
   go_enter func181, ntmps181
   go_wp2_with (first | (go_at_call 186; refine (HC.out _).mono ?_; rintro e w1 ⟨k, v, l, x, b, rfl, HD, hb1⟩; have hn1 : NB fb ⟨#[]⟩ ⟨#[]⟩ ⟨#[]⟩ ⟨#[]⟩ w1 := below_cells hb1 (by rw [<- hfb]; exact heap_alloc_new _ _); have c0 : w1.cell? ⟨fb, 0, none⟩ = some (.string ⟨#[]⟩) := ZC hn1 0; have c1 : w1.cell? ⟨fb, 1, none⟩ = some (.string ⟨#[]⟩) := ZC hn1 1; have c2 : w1.cell? ⟨fb, 2, none⟩ = some (.string ⟨#[]⟩) := ZC hn1 2; have c3 : w1.cell? ⟨fb, 3, none⟩ = some (.string ⟨#[]⟩) := ZC hn1 3; have f0 : w1.frozen? ⟨fb, 0, none⟩ = false := frozen_of_heap hn1; have f1 : w1.frozen? ⟨fb, 1, none⟩ = false := frozen_of_heap hn1; have f2 : w1.frozen? ⟨fb, 2, none⟩ = false := frozen_of_heap hn1; have f3 : w1.frozen? ⟨fb, 3, none⟩ = false := frozen_of_heap hn1) | go_in)
   refine ret11 ((((hn1.s0 _).s1 _).s2 _).s3 _) b rfl rfl rfl ⟨HD.out, ?_⟩
   have hb2 : Below fb w w1 := ((Below.refl _ w).alloc (by omega) _).trans (hb1.mono (by simp [hfb]))
   rw [hfb]
   exact (((hb2.setCell (Nat.le_refl _) _).setCell (Nat.le_refl _) _).setCell (Nat.le_refl _) _).setCell (Nat.le_refl _) _
 · have HN : Hid (∀ k v l r, ¬ IsEnc s n k v l r) := fun k v l r hE => by have := nodeOk_out hE.1; omega
   by_cases h1 : 1 <= n
   · have z1 : decide (1 <= n) = true := by simp; omega
     have z2 : decide (n <= 32) = false := by simp; omega
     go_enter func181, ntmps181
     go_wp2_with go_in
     exact ret11 (heap_alloc_new _ _) false rfl rfl rfl ⟨.inr ⟨HN.out, rfl⟩, (Below.refl _ _).alloc (Nat.le_refl _) _⟩
   · have z1 : decide (1 <= n) = false := by simp; omega
     go_enter func181, ntmps181
     go_wp2_with go_in
     exact ret11 (heap_alloc_new _ _) false rfl rfl rfl ⟨.inr ⟨HN.out, rfl⟩, (Below.refl _ _).alloc (Nat.le_refl _) _⟩
theorem IsEnc.one {s : ByteArray} {n : Int} {k v l r k' v' l' r' : ByteArray} (h : IsEnc s n k v l r) (h' : IsEnc s n k' v' l' r') : k = k' /\ v = v' /\ l = l' /\ r = r' := by
 obtain ⟨_, p2, p3⟩ := h.parts
 obtain ⟨_, p2', p3'⟩ := h'.parts
 obtain ⟨_, q2, q3⟩ := p3 _ rfl
 obtain ⟨_, q2', q3'⟩ := p3' _ rfl
 obtain ⟨r1, r2⟩ := q3 _ rfl
 obtain ⟨r1', r2'⟩ := q3' _ rfl
 refine ⟨p2.trans p2'.symm, q2.trans q2'.symm, ?_⟩
 have s1 := h.sides r1 r2
 have s2 := h'.sides r1' r2'
 by_cases hf : (s.data.toList.getD (0 + 2 + szAt s 0 + 2 + szAt s (0 + 2 + szAt s 0)) 0).toNat % 2 = 1
 · have t1 := s1.1 hf
   have t2 := s2.1 hf
   exact ⟨t1.2.1.trans t2.2.1.symm, t1.2.2.trans t2.2.2.symm⟩
 · have t1 := s1.2 hf
   have t2 := s2.2 hf
   exact ⟨t1.1.trans t2.1.symm, t1.2.trans t2.2.symm⟩
theorem decPost.one {s : ByteArray} {n : Int} {e e' : Ending} (h : decPost s n e) (h' : decPost s n e') : e = e' := by
 rcases h with ⟨k, v, l, r, hE, rfl⟩ | ⟨hN, rfl⟩ <;> rcases h' with ⟨k', v', l', r', hE', rfl⟩ | ⟨hN', rfl⟩
 · obtain ⟨rfl, rfl, rfl, rfl⟩ := hE.one hE'
   rfl
 · exact absurd hE (hN' _ _ _ _)
 · exact absurd hE' (hN _ _ _ _)
 · rfl
theorem dec_ex (n : Int) (s : ByteArray) : ∃ x : ByteArray × ByteArray × ByteArray × ByteArray × Bool, decPost s n (.returned (.tuple #[nodeV x.1 x.2.1 x.2.2.1 x.2.2.2.1, .bool x.2.2.2.2])) := by
 by_cases hE : ∃ k v l r, IsEnc s n k v l r
 · obtain ⟨k, v, l, r, hE⟩ := hE
   exact ⟨(k, v, l, r, true), .inl ⟨k, v, l, r, hE, rfl⟩⟩
 · exact ⟨(⟨#[]⟩, ⟨#[]⟩, ⟨#[]⟩, ⟨#[]⟩, false), .inr ⟨fun k v l r h => hE ⟨k, v, l, r, h⟩, rfl⟩⟩
theorem less_tri : ∀ a b : List UInt8, Op.bytesLess a b = !(Op.bytesLess b a || b == a)
 | [], [] => rfl
 | [], b :: y => by simp [Op.bytesLess]
 | a :: x, [] => by simp [Op.bytesLess]
 | a :: x, b :: y => by
  rw [Op.bytesLess, Op.bytesLess, less_tri x y]
  by_cases h : a = b
  · subst h
    simp
  · by_cases hl : a < b
    · have h2 : ¬ b < a := by rw [UInt8.lt_iff_toNat_lt] at hl ⊢; omega
      have h3 : ¬ b = a := fun e => h e.symm
      simp [hl, h2, h3]
    · have h2 : b < a := by
       rw [UInt8.lt_iff_toNat_lt] at hl ⊢
       have : a.toNat ≠ b.toNat := fun e => h (UInt8.toNat_inj.1 e)
       omega
      have h3 : ¬ b = a := fun e => h e.symm
      simp [h, hl, h2]
abbrev PairT := ByteArray × ByteArray
def noPair : PairT := (⟨#[]⟩, ⟨#[]⟩)
structure PArg (a : Option Addr) (ps : List PairT) (w : World) : Prop where
 le : ps.length <= 1048576
 sz : ∀ j, (ps.getD j noPair).1.size <= 1048576 /\ (ps.getD j noPair).2.size <= 1048576
 at_ : 0 < ps.length -> ∃ b off : Nat, a = some ⟨b, off, none⟩ /\ b < w.heap.size /\ ∀ j, j < ps.length -> w.cell? ⟨b, off + j * 2, none⟩ = some (.string (ps.getD j noPair).1) /\ w.cell? ⟨b, off + j * 2 + 1, none⟩ = some (.string (ps.getD j noPair).2)
theorem PArg.below {a : Option Addr} {ps : List PairT} {w w' : World} (h : PArg a ps w) (hb : Below w.heap.size w w') : PArg a ps w' := by
 refine ⟨h.le, h.sz, fun hn => ?_⟩
 obtain ⟨b, off, ha, hlt, hc⟩ := h.at_ hn
 exact ⟨b, off, ha, Nat.lt_of_lt_of_le hlt hb.size, fun j hj => ⟨(hb.cell (p := ⟨b, off + j * 2, none⟩) hlt).trans (hc j hj).1, (hb.cell (p := ⟨b, off + j * 2 + 1, none⟩) hlt).trans (hc j hj).2⟩⟩
def okKey (k : ByteArray) : Bool := decide (1 <= k.size /\ k.size <= 256)
def okVal (v : ByteArray) : Bool := decide (v.size <= 2000)
def lastK (ps : List PairT) : Nat -> ByteArray
 | 0 => ⟨#[]⟩
 | k + 1 => (ps.getD k noPair).1
def goodAt (ps : List PairT) (k : Nat) : Bool := okKey (ps.getD k noPair).1 && (okVal (ps.getD k noPair).2 && Op.bytesLess (lastK ps k).toList (ps.getD k noPair).1.toList)
def mapTo (ps : List PairT) : Nat -> Bool
 | 0 => true
 | k + 1 => mapTo ps k && goodAt ps k
theorem mapTo_false (ps : List PairT) (k n : Nat) (h : k < n) (hg : goodAt ps k = false) : mapTo ps n = false := by
 induction n with
 | zero => omega
 | succ n ih =>
  rw [mapTo]
  by_cases e : k = n
  · subst e; rw [hg, Bool.and_false]
  · rw [ih (by omega), Bool.false_and]
def isMapT (ps : List PairT) : Bool := decide (ps.length <= 500) && mapTo ps ps.length
theorem vkey_any (k : ByteArray) (w : World) (hk : k.size <= 1048576) : Calls prog 63 #[.string k] w fun e w' => e = .returned (.bool (okKey k)) /\ w = w' := by
 by_cases c1 : 1 <= k.size
 · have hr : okKey k = decide ((k.size : Int) <= 256) := by
    unfold okKey
    by_cases c2 : k.size <= 256
    · rw [decide_eq_true (by omega), decide_eq_true (by omega)]
    · rw [decide_eq_false (by omega), decide_eq_false (by omega)]
   rw [hr]
   have z1 : decide ((1 : Int) <= (k.size : Int)) = true := by rw [decide_eq_true_eq]; omega
   have z2 : decide (1 <= k.size) = true := decide_eq_true c1
   have z3 : 0 < k.size := by omega
   clear hr
   go_enter func63, ntmps63
   go_wp2_with fail
   go_ret
   exact ⟨rfl, rfl⟩
 · have hr : okKey k = false := by unfold okKey; rw [decide_eq_false (by omega)]
   rw [hr]
   have z1 : decide ((1 : Int) <= (k.size : Int)) = false := by rw [decide_eq_false_iff_not]; omega
   have z0 : k.size = 0 := by omega
   clear hr
   go_enter func63, ntmps63
   go_wp2_with fail
   go_ret
   exact ⟨rfl, rfl⟩
theorem vval_any (v : ByteArray) (w : World) (hv : v.size <= 1048576) : Calls prog 64 #[.string v] w fun e w' => e = .returned (.bool (okVal v)) /\ w = w' := by
 have hr : okVal v = decide ((v.size : Int) <= 2000) := by
  unfold okVal
  by_cases c2 : v.size <= 2000
  · rw [decide_eq_true (by omega), decide_eq_true (by omega)]
  · rw [decide_eq_false (by omega), decide_eq_false (by omega)]
 rw [hr]
 go_enter func64, ntmps64
 go_wp2_with fail
 go_ret
 exact ⟨rfl, rfl⟩
abbrev FN := (ByteArray × ByteArray × ByteArray × ByteArray) × Int
structure FndOk (wd : Nat) (fnd : ByteArray -> FN) : Prop where
 code : ∀ h, (fnd h).2 = 0 \/ (fnd h).2 = 2 \/ (fnd h).2 = 3
 node : ∀ h, (fnd h).2 = 0 -> okKey (fnd h).1.1 = true /\ okVal (fnd h).1.2.1 = true /\ ((fnd h).1.2.2.1.size = 0 \/ (fnd h).1.2.2.1.size = wd) /\ ((fnd h).1.2.2.2.size = 0 \/ (fnd h).1.2.2.2.size = wd)
def lessB (a b : ByteArray) : Bool := Op.bytesLess a.toList b.toList
def emp (a : ByteArray) : Bool := decide (a.size = 0)
def canW (over under lo hi : ByteArray) : Bool := (emp hi || (lessB lo hi && lessB over hi)) && (emp under || lessB lo under)
def insW (over under k : ByteArray) : Bool := lessB over k && (emp under || lessB k under)
def hasW (lo hi k : ByteArray) : Bool := !lessB k lo && (emp hi || lessB k hi)
def parW (hg : ByteArray -> ByteArray -> Bool) (par k : ByteArray) : Bool := emp par || hg par k
def goF (fnd : ByteArray -> FN) (hg : ByteArray -> ByteArray -> Bool) (lo hi : ByteArray) : Nat -> ByteArray -> ByteArray -> ByteArray -> ByteArray -> Nat -> Int × Nat × List PairT
 | 0, _, _, _, _, _ => (9, 0, [])
 | f + 1, hash, over, under, par, cnt =>
  if (emp hash || !canW over under lo hi) = true then (0, cnt, []) else
  if (fnd hash).2 = 2 then (2, 0, []) else
  if (fnd hash).2 ≠ 0 then (3, 0, []) else
  if (insW over under (fnd hash).1.1 && parW hg par (fnd hash).1.1) = false then (3, 0, []) else
  if 500 < cnt + 1 then (6, 0, []) else
  if (goF fnd hg lo hi f (fnd hash).1.2.2.1 over (fnd hash).1.1 (fnd hash).1.1 (cnt + 1)).1 ≠ 0 then ((goF fnd hg lo hi f (fnd hash).1.2.2.1 over (fnd hash).1.1 (fnd hash).1.1 (cnt + 1)).1, 0, []) else
  if (goF fnd hg lo hi f (fnd hash).1.2.2.2 (fnd hash).1.1 under (fnd hash).1.1 (goF fnd hg lo hi f (fnd hash).1.2.2.1 over (fnd hash).1.1 (fnd hash).1.1 (cnt + 1)).2.1).1 ≠ 0 then ((goF fnd hg lo hi f (fnd hash).1.2.2.2 (fnd hash).1.1 under (fnd hash).1.1 (goF fnd hg lo hi f (fnd hash).1.2.2.1 over (fnd hash).1.1 (fnd hash).1.1 (cnt + 1)).2.1).1, 0, []) else
  (0, (goF fnd hg lo hi f (fnd hash).1.2.2.2 (fnd hash).1.1 under (fnd hash).1.1 (goF fnd hg lo hi f (fnd hash).1.2.2.1 over (fnd hash).1.1 (fnd hash).1.1 (cnt + 1)).2.1).2.1,
   (goF fnd hg lo hi f (fnd hash).1.2.2.1 over (fnd hash).1.1 (fnd hash).1.1 (cnt + 1)).2.2 ++ (if hasW lo hi (fnd hash).1.1 = true then [((fnd hash).1.1, (fnd hash).1.2.1)] else []) ++
   (goF fnd hg lo hi f (fnd hash).1.2.2.2 (fnd hash).1.1 under (fnd hash).1.1 (goF fnd hg lo hi f (fnd hash).1.2.2.1 over (fnd hash).1.1 (fnd hash).1.1 (cnt + 1)).2.1).2.2)
section
variable {fnd : ByteArray -> FN} {hg : ByteArray -> ByteArray -> Bool} {lo hi : ByteArray}
theorem goF_skip {f : Nat} {hash over under par : ByteArray} {cnt : Nat} (h : (emp hash || !canW over under lo hi) = true) : goF fnd hg lo hi (f + 1) hash over under par cnt = (0, cnt, []) := by rw [goF, if_pos h]
theorem goF_missing {f : Nat} {hash over under par : ByteArray} {cnt : Nat} (h : (emp hash || !canW over under lo hi) = false) (h2 : (fnd hash).2 = 2) : goF fnd hg lo hi (f + 1) hash over under par cnt = (2, 0, []) := by rw [goF, if_neg (by rw [h]; decide), if_pos h2]
theorem goF_corrupt {f : Nat} {hash over under par : ByteArray} {cnt : Nat} (h : (emp hash || !canW over under lo hi) = false) (h2 : (fnd hash).2 = 3) : goF fnd hg lo hi (f + 1) hash over under par cnt = (3, 0, []) := by rw [goF, if_neg (by rw [h]; decide), if_neg (by rw [h2]; decide), if_pos (by rw [h2]; decide)]
theorem goF_place {f : Nat} {hash over under par : ByteArray} {cnt : Nat} (h : (emp hash || !canW over under lo hi) = false) (h2 : (fnd hash).2 = 0) (h3 : (insW over under (fnd hash).1.1 && parW hg par (fnd hash).1.1) = false) : goF fnd hg lo hi (f + 1) hash over under par cnt = (3, 0, []) := by
 rw [goF, if_neg (by rw [h]; decide), if_neg (by rw [h2]; decide), if_neg (by rw [h2]; decide), if_pos h3]
theorem goF_many {f : Nat} {hash over under par : ByteArray} {cnt : Nat} (h : (emp hash || !canW over under lo hi) = false) (h2 : (fnd hash).2 = 0) (h3 : (insW over under (fnd hash).1.1 && parW hg par (fnd hash).1.1) = true) (h4 : 500 < cnt + 1) : goF fnd hg lo hi (f + 1) hash over under par cnt = (6, 0, []) := by
 rw [goF, if_neg (by rw [h]; decide), if_neg (by rw [h2]; decide), if_neg (by rw [h2]; decide), if_neg (by rw [h3]; decide), if_pos h4]
theorem goF_node {f : Nat} {hash over under par : ByteArray} {cnt : Nat} {k v l r : ByteArray} (h : (emp hash || !canW over under lo hi) = false) (h2 : fnd hash = ((k, v, l, r), 0)) (h3 : (insW over under k && parW hg par k) = true) (h4 : cnt + 1 <= 500)
 {L R : Int × Nat × List PairT} (hL : goF fnd hg lo hi f l over k k (cnt + 1) = L) (hR : goF fnd hg lo hi f r k under k L.2.1 = R) :
 goF fnd hg lo hi (f + 1) hash over under par cnt = if L.1 ≠ 0 then (L.1, 0, []) else if R.1 ≠ 0 then (R.1, 0, []) else (0, R.2.1, L.2.2 ++ (if hasW lo hi k = true then [(k, v)] else []) ++ R.2.2) := by
 rw [goF, h2]
 simp only [hL, hR]
 rw [if_neg (by rw [h]; decide), if_neg (by decide), if_neg (by simp), if_neg (by rw [h3]; decide), if_neg (by omega)]
theorem goF_cnt : ∀ (f : Nat) (hash over under par : ByteArray) (cnt : Nat), cnt <= 500 -> (goF fnd hg lo hi f hash over under par cnt).1 = 0 -> cnt <= (goF fnd hg lo hi f hash over under par cnt).2.1 /\ (goF fnd hg lo hi f hash over under par cnt).2.1 <= 500
 | 0, _, _, _, _, _, _, h => by rw [goF] at h; exact absurd h (by decide)
 | f + 1, hash, over, under, par, cnt, hc, h => by
  cases h1 : (emp hash || !canW over under lo hi) with
  | true => rw [goF_skip h1] at h ⊢; exact ⟨Nat.le_refl _, hc⟩
  | false =>
   by_cases h2 : (fnd hash).2 = 2
   · rw [goF_missing h1 h2] at h; exact absurd h (by decide)
   · by_cases h20 : (fnd hash).2 = 0
     · cases h3 : (insW over under (fnd hash).1.1 && parW hg par (fnd hash).1.1) with
       | false => rw [goF_place h1 h20 h3] at h; exact absurd h (by decide)
       | true =>
        by_cases h4 : 500 < cnt + 1
        · rw [goF_many h1 h20 h3 h4] at h; exact absurd h (by decide)
        · have e : fnd hash = (((fnd hash).1.1, (fnd hash).1.2.1, (fnd hash).1.2.2.1, (fnd hash).1.2.2.2), 0) := by rw [<- h20]
          rw [goF_node h1 e h3 (by omega) rfl rfl] at h ⊢
          have il := goF_cnt f (fnd hash).1.2.2.1 over (fnd hash).1.1 (fnd hash).1.1 (cnt + 1) (by omega)
          split at h
          · rename_i q; exact absurd h q
          · rename_i q
            have il := il (by simpa using q)
            split at h
            · rename_i q2; exact absurd h q2
            · rename_i q2
              have ir := goF_cnt f (fnd hash).1.2.2.2 (fnd hash).1.1 under (fnd hash).1.1 _ il.2 (by simpa using q2)
              rw [if_neg q, if_neg q2]
              exact ⟨Nat.le_trans (Nat.le_trans (Nat.le_succ _) il.1) ir.1, ir.2⟩
     · rw [goF, if_neg (by rw [h1]; decide), if_neg h2, if_pos h20] at h; exact absurd h (by decide)
end
def BR (b : Nat) (hash over under : ByteArray) (par : Option Addr) (w : World) : Prop := w.heap[b]? = some (.cells #[.string hash, .string over, .string under, .pointer par, .string ⟨#[]⟩, .string ⟨#[]⟩, .string ⟨#[]⟩, .string ⟨#[]⟩, .pointer none, .pointer none] 166)
def BF (b : Nat) (hash over under : ByteArray) (par : Option Addr) (k v l r : ByteArray) (pl pr : Option Addr) (w : World) : Prop := w.heap[b]? = some (.cells #[.string hash, .string over, .string under, .pointer par, .string k, .string v, .string l, .string r, .pointer pl, .pointer pr] 166)
theorem emp_iff (s : ByteArray) : s.toList.isEmpty = emp s := by
 rw [ByteArray.toList_eq]
 unfold emp
 by_cases h : s.size = 0
 · rw [decide_eq_true h]
   have : s.data.toList.length = 0 := h
   rw [List.length_eq_zero_iff.1 this]; rfl
 · rw [decide_eq_false h]
   have : s.data.toList.length ≠ 0 := h
   cases hs : s.data.toList with
   | nil => rw [hs] at this; exact absurd rfl this
   | cons a b => rfl
theorem branchAt_none (over under : ByteArray) (par : Option Addr) (w : World) : Calls prog 151 #[.string ⟨#[]⟩, .agg #[.string over, .string under, .pointer par]] w fun e w' => e = .returned (.pointer none) /\ Below w.heap.size w w' := by
 have hb : Below w.heap.size w (w.alloc (.cells #[.string over, .string under, .pointer par] 164)) := (Below.refl _ _).alloc (Nat.le_refl _) _
 go_enter func151, ntmps151
 go_wp2_with fail
 go_ret
 exact ⟨rfl, hb⟩
theorem branchAt_some (hash over under : ByteArray) (par : Option Addr) (w : World) (hn : emp hash = false) : Calls prog 151 #[.string hash, .agg #[.string over, .string under, .pointer par]] w fun e w' => (∃ b, e = .returned (.pointer (some ⟨b, 0, none⟩)) /\ w.heap.size <= b /\ BR b hash over under par w') /\ Below w.heap.size w w' := by
 have hz : hash.toList.isEmpty = false := (emp_iff hash).trans hn
 have hb : Below w.heap.size w ((w.alloc (.cells #[.string over, .string under, .pointer par] 164)).alloc (.cells #[.string hash, .string over, .string under, .pointer par, .string ⟨#[]⟩, .string ⟨#[]⟩, .string ⟨#[]⟩, .string ⟨#[]⟩, .pointer none, .pointer none] 166)) := ((Below.refl _ _).alloc (Nat.le_refl _) _).alloc (by simp) _
 have nA := heap_alloc_new (w.alloc (.cells #[.string over, .string under, .pointer par] 164)) (.cells #[.string hash, .string over, .string under, .pointer par, .string ⟨#[]⟩, .string ⟨#[]⟩, .string ⟨#[]⟩, .string ⟨#[]⟩, .pointer none, .pointer none] 166)
 rw [World.size_alloc] at nA
 go_enter func151, ntmps151
 go_wp2_with fail
 go_ret
 exact ⟨⟨w.heap.size + 1, rfl, by omega, nA⟩, hb⟩
theorem hash_any (s : ByteArray) (w : World) (hs : s.size <= 1048576)
 (hK : ∀ j, j < 64 -> w.cell? ⟨0, j, none⟩ = some (.int .u32 ((kTab.getD j 0).toNat : Int))) :
 Calls prog 83 #[.string s] w fun e w' => e = .returned (.agg ((sha s.data.toList).map B).toArray) /\ Below w.heap.size w w' := by
 have hl0 : 0 < w.heap.size := World.block_lt_of_cell? w _ (hK 0 (by omega))
 have HK : Hid (∀ w' : World, Below w.heap.size w w' -> ∀ j, j < 64 -> w'.cell? ⟨0, j, none⟩ = some (.int .u32 ((kTab.getD j 0).toNat : Int))) := fun w' hb j hj => (hb.cell (by exact hl0)).trans (hK j hj)
 clear hK
 have hsl : s.data.toList.length = s.size := rfl
 go_enter func83, ntmps83
 go_wp2_with (refine wpList_alloc_row _ rfl (some 2) rfl 116 116 rfl (zeros8.map B) alloc32 ?_; intro g2 w2 hr2 hb2)
 have hr2' : Row w2 w.heap.size g2 32 32 (zeros8.map B) := hr2
 have hge := hr2.ge
 have hlt := hr2.lt
 have hs2 := hb2.size
 clear hr2
 refine (new_any w2).mono ?_
 rintro e w3 ⟨rfl, hw3⟩
 have F3 : Fed w3 w2.heap.size [] (List.replicate 64 0) 0 := by rw [hw3]; exact fed_new w2
 have hb3 : Below w2.heap.size w2 w3 := by rw [hw3]; exact (Below.refl _ _).alloc (Nat.le_refl _) _
 clear hw3
 obtain ⟨b, hb⟩ : ∃ b, w2.heap.size = b := ⟨_, rfl⟩
 rw [hb] at F3
 rw [hb]
 have hs3 := hb3.size
 have hbw3 : Below w.heap.size w w3 := hb2.trans (hb3.mono hs2)
 have hR3 : Row w3 w.heap.size g2 32 32 (zeros8.map B) := hr2'.below hb3
 have hb0 : b ≠ 0 := by omega
 have hgb : g2 < b := by omega
 have hwb : w.heap.size <= b := by omega
 clear hr2' hb3 hb2
 go_wp2_with fail
 refine (feed_any b [] (List.replicate 64 0) s w3 F3 (by simp; omega) hb0 (HK.out w3 hbw3)).mono ?_
 rintro e w4 ⟨rfl, ⟨k4, F4⟩, hg4⟩
 have hs4 := hg4.size
 have hbw4 : Below w.heap.size w w4 := hbw3.trans (below_of_grown hg4 hwb (by omega))
 have hR4 : Row w4 w.heap.size g2 32 32 (zeros8.map B) := hR3.kept hg4 (by simp; omega)
 rw [List.nil_append, List.length_nil, Nat.zero_add] at F4
 clear F3 hg4 hR3 hbw3
 have hfs := fin_sha s.data.toList k4 F4.H.kl F4.tk
 have H4 := F4.H
 rw [hsl] at H4 hfs
 clear F4
 go_wp2_with fail
 refine (finish_any b _ k4 _ s.size w4 H4 (by omega) (by omega) hb0 (HK.out w4 hbw4)).mono ?_
 rintro e w5 ⟨rfl, hg5⟩
 rw [hfs]
 clear hfs H4
 have hbw5 : Below w.heap.size w w5 := hbw4.trans (below_of_grown hg5 hwb (by omega))
 have hR5 : Row w5 w.heap.size g2 32 32 (zeros8.map B) := hR4.kept hg5 (by simp; omega)
 have hln : ((sha s.data.toList).map B).length = 32 := by rw [List.length_map]; unfold sha; rw [outTo_length]
 have h1c : ∀ v ∈ (sha s.data.toList).map B, v.oneCell' = true := by
  intro v hv
  obtain ⟨x, _, rfl⟩ := List.mem_map.1 hv
  rfl
 obtain ⟨L, hL⟩ : ∃ L, (sha s.data.toList).map B = L := ⟨_, rfl⟩
 rw [hL] at hln h1c
 rw [hL]
 have HL : Hid ((sha s.data.toList).map B = L) := hL
 clear hL
 go_wp2_with (refine wpList_store_whole _ rfl rfl 116 (.tmp 2) (.tmp 9) rfl w.heap.size g2 32 (zeros8.map B) L rfl rfl hR5 hln size32 h1c ?_; intro w8 hR8 hg8)
 refine ret_row _ (p := 2) (ty := 116) rfl w.heap.size g2 32 32 L 5 rfl hR8 Tryz.underlying116 size32 rfl ?_
 refine ⟨?_, ?_⟩
 · rw [HL.out]
 · exact hbw5.trans (below_of_grown hg8 hge (by have := hbw5.size; omega))
end Go.Proofs.YtfmpjlpakldheaaGreatDoor
