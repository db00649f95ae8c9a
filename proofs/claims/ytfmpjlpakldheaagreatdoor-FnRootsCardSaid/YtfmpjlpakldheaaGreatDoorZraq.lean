import Derived.Test.YtfmpjlpakldheaaGreatDoorZrap
set_option maxRecDepth 100000
set_option maxHeartbeats 1000000
namespace Go.Proofs.YtfmpjlpakldheaaGreatDoor
open Go.RowKit Go.Proofs.Sha Tryz
theorem Fr.below {B0 base : Nat} {N : Nat -> Prop} {w w' : World} (h : Fr base N w w') (hb : B0 <= base) (hN : ∀ q, N q -> B0 <= q) (hs : B0 <= w.heap.size) : Below B0 w w' :=
 ⟨h.os, h.tape, h.output, h.size, fun q hq => h.block q (by omega) (fun x => by have := hN q x; omega) (fun x => by omega)⟩
structure Stc (B0 base lb c gb xl xa : Nat) : Prop where
 hl : B0 <= lb
 hc : B0 <= c
 h0 : B0 <= base
 l1 : xl < base
 l2 : xa < base
 l3 : gb < base
 l4 : c < base
 l5 : lb < base
 n1 : xl ≠ lb
 n2 : xl ≠ c
 n3 : xa ≠ lb
 n4 : xa ≠ c
 n5 : gb ≠ lb
 n6 : gb ≠ c
 n7 : lb ≠ c
structure Env (wg : World) (B0 base lb c gb xl xa : Nat) (lo hi : ByteArray) (w : World) : Prop where
 bx : w.heap[xl]? = some (.cells #[.pointer (some ⟨lb, 0, none⟩)] 201)
 ax : w.heap[xa]? = some (.cells #[.func (.func 120) #[] #[.pointer (some ⟨gb, 0, none⟩), .pointer (some ⟨c, 0, none⟩)]] 168)
 gx : w.heap[gb]? = some (.cells #[.string lo, .string hi] 109)
 bel : Below B0 wg w
 hs : base <= w.heap.size
section
variable {wg : World} {B0 base lb c gb xl xa : Nat} {lo hi : ByteArray} {w w' : World} {N : Nat -> Prop}
theorem Env.fr (h : Env wg B0 base lb c gb xl xa lo hi w) (s : Stc B0 base lb c gb xl xa) (f : Fr base N w w') (hN : ∀ q, N q -> q = lb \/ q = c \/ base <= q) : Env wg B0 base lb c gb xl xa lo hi w' := by
 have hh := s.h0
 refine ⟨f.keep h.bx (fun x => ?_) (.inr s.l1), f.keep h.ax (fun x => ?_) (.inr s.l2), f.keep h.gx (fun x => ?_) (.inr s.l3), h.bel.trans (f.below s.h0 (fun q hq => ?_) (Nat.le_trans hh h.hs)), Nat.le_trans h.hs f.size⟩
 · rcases hN _ x with e | e | e
   · exact s.n1 e
   · exact s.n2 e
   · have := s.l1; omega
 · rcases hN _ x with e | e | e
   · exact s.n3 e
   · exact s.n4 e
   · have := s.l2; omega
 · rcases hN _ x with e | e | e
   · exact s.n5 e
   · exact s.n6 e
   · have := s.l3; omega
 · rcases hN _ hq with e | e | e
   · rw [e]; exact s.hl
   · rw [e]; exact s.hc
   · omega
theorem Env.below (h : Env wg B0 base lb c gb xl xa lo hi w) (s : Stc B0 base lb c gb xl xa) (hb : Below w.heap.size w w') : Env wg B0 base lb c gb xl xa lo hi w' := h.fr s (Fr.of_below (N := fun _ => False) hb) (fun _ x => x.elim)
end
theorem c47_behind (b _lb c gb xl xa : Nat) (lo hi : ByteArray) (w : World) (ha : w.heap[xa]? = some (.cells #[.func (.func 120) #[] #[.pointer (some ⟨gb, 0, none⟩), .pointer (some ⟨c, 0, none⟩)]] 168)) (hg : w.heap[gb]? = some (.cells #[.string lo, .string hi] 109)) :
 Calls prog 152 #[.pointer (some ⟨b, 0, none⟩), .int .i64 2, .pointer (some ⟨xl, 0, none⟩), .pointer (some ⟨xa, 0, none⟩)] w fun e w' => e = .returned (.bool true) /\ Below w.heap.size w w' := by
 have a0 := ZC ha 0
 have HC := c37_no (some ⟨b, 0, none⟩) 2 (.inr rfl) gb c lo hi w hg
 go_enter func152, ntmps152
 go_wp2_with (first | (go_at_call 120; refine HC.mono ?_; rintro e w2 ⟨rfl, hb2⟩))
 go_ret
 exact ⟨rfl, hb2⟩
theorem c37_any (b : Nat) (hash over under : ByteArray) (par : Option Addr) (k v l r : ByteArray) (pl pr : Option Addr) (gb c base : Nat) (lo hi : ByteArray) (ps : List PairT) (a : Option Addr) (cap : Nat) (w : World) (hB : BF b hash over under par k v l r pl pr w) (h : w.heap[gb]? = some (.cells #[.string lo, .string hi] 109)) (hL : LS c base ps a cap w) (hlen : ps.length <= 100000) : Calls prog 120 #[.pointer (some ⟨b, 0, none⟩), .int .i64 1, .pointer (some ⟨gb, 0, none⟩), .pointer (some ⟨c, 0, none⟩)] w fun e w' => e = .returned (.tuple #[]) /\ (∃ a' cap', LS c base (ps ++ (if hasW lo hi k = true then [(k, v)] else [])) a' cap' w') /\ Fr base (fun q => q = c) w w' := by
 cases hh : hasW lo hi k with
 | true => rw [if_pos rfl]; exact c37_in b hash over under par k v l r pl pr gb c base lo hi ps a cap w hB h hh hL hlen
 | false =>
  rw [if_neg (by decide), List.append_nil]
  refine (c37_out b hash over under par k v l r pl pr gb c lo hi w hB h hh).mono ?_
  rintro e w' ⟨rfl, hb⟩
  exact ⟨rfl, ⟨a, cap, hL.below hb⟩, Fr.of_below hb⟩
theorem c47_between (b _lb c gb xl xa base : Nat) (hash over under : ByteArray) (par : Option Addr) (k v l r : ByteArray) (pl pr : Option Addr) (lo hi : ByteArray) (ps : List PairT) (a : Option Addr) (cap : Nat) (w : World) (ha : w.heap[xa]? = some (.cells #[.func (.func 120) #[] #[.pointer (some ⟨gb, 0, none⟩), .pointer (some ⟨c, 0, none⟩)]] 168)) (hg : w.heap[gb]? = some (.cells #[.string lo, .string hi] 109)) (hB : BF b hash over under par k v l r pl pr w) (hL : LS c base ps a cap w) (hlen : ps.length <= 100000) :
 Calls prog 152 #[.pointer (some ⟨b, 0, none⟩), .int .i64 1, .pointer (some ⟨xl, 0, none⟩), .pointer (some ⟨xa, 0, none⟩)] w fun e w' => e = .returned (.bool true) /\ (∃ a' cap', LS c base (ps ++ (if hasW lo hi k = true then [(k, v)] else [])) a' cap' w') /\ Fr base (fun q => q = c) w w' := by
 have a0 := ZC ha 0
 have HC := c37_any b hash over under par k v l r pl pr gb c base lo hi ps a cap w hB hg hL hlen
 obtain ⟨X, hX⟩ : ∃ X, ps ++ (if hasW lo hi k = true then [(k, v)] else []) = X := ⟨_, rfl⟩
 rw [hX] at HC ⊢
 clear hX hL hB hg
 go_enter func152, ntmps152
 go_wp2_with (first | (go_at_call 120; refine HC.mono ?_; rintro e w2 ⟨rfl, hb2⟩))
 go_ret
 exact ⟨rfl, hb2⟩
theorem c47_before (fnd : ByteArray -> FN) (wg : World) (B0 base lb sb c gb xl xa b : Nat) (hash over under pk : ByteArray) (par : Option Addr) (lo hi : ByteArray) (cnt : Nat) (w : World) (s : Stc B0 base lb c gb xl xa) (hE : Env wg B0 base lb c gb xl xa lo hi w) (hc : (fnd hash).2 = 0 \/ (fnd hash).2 = 2 \/ (fnd hash).2 = 3) (hL : LD lb sb cnt 0 w) (hB : BR b hash over under par w) (hP : ParAt par pk w) (hcn : cnt <= 500) (hbb : base <= b)
 (HF : Hid (∀ w', Below B0 wg w' -> Calls prog 176 #[.pointer (some ⟨sb, 0, none⟩), .string hash] w' fun e w'' => e = .returned (nodeT (fnd hash)) /\ Below w'.heap.size w' w''))
 (HR : Hid (∀ w', Below B0 wg w' -> (fnd hash).2 = 0 -> Calls prog 158 #[Value.string (fnd hash).1.1] w' fun e w'' => e = .returned (.agg (rkL (fnd hash).1.1).toArray) /\ Below w'.heap.size w' w'')) :
 Calls prog 152 #[.pointer (some ⟨b, 0, none⟩), .int .i64 0, .pointer (some ⟨xl, 0, none⟩), .pointer (some ⟨xa, 0, none⟩)] w fun e w' => e = .returned (.bool (decide (codeF fnd hash over under pk (cnt + 1) = 0))) /\ Fr w.heap.size (fun q => q = b \/ q = lb) w w' /\ LD lb sb (cnt + 1) (codeF fnd hash over under pk (cnt + 1)) w' /\ (codeF fnd hash over under pk (cnt + 1) = 0 -> Kids b hash over under par (fnd hash).1.1 (fnd hash).1.2.1 (fnd hash).1.2.2.1 (fnd hash).1.2.2.2 w w') := by
 have x0 := ZC hE.bx 0
 have HT := take_any fnd wg B0 lb sb b hash over under pk par cnt w hc hL hB hP hcn hE.bel s.hl (Nat.le_trans s.h0 hE.hs) HF HR
 have HN : Hid (∀ w', Fr w.heap.size (fun q => q = b \/ q = lb) w w' -> w'.cell? ⟨xa, 0, none⟩ = some (.func (.func 120) #[] #[.pointer (some ⟨gb, 0, none⟩), .pointer (some ⟨c, 0, none⟩)]) /\ Calls prog 120 #[.pointer (some ⟨b, 0, none⟩), .int .i64 0, .pointer (some ⟨gb, 0, none⟩), .pointer (some ⟨c, 0, none⟩)] w' fun e w'' => e = .returned (.tuple #[]) /\ Below w'.heap.size w' w'') := fun w' f => by
  have hE' := hE.fr s (f.base hE.hs) (fun q hq => by rcases hq with e | e; exact .inr (.inr (by omega)); exact .inl e)
  exact ⟨ZC hE'.ax 0, c37_no _ 0 (.inl rfl) gb c lo hi w' hE'.gx⟩
 obtain ⟨C, hC⟩ : ∃ C, codeF fnd hash over under pk (cnt + 1) = C := ⟨_, rfl⟩
 rw [hC] at HT ⊢
 clear hC hE s hL hB hP HF HR hc
 have HK : Hid (∀ w1 w2 : World, Below w1.heap.size w1 w2 -> Kids b hash over under par (fnd hash).1.1 (fnd hash).1.2.1 (fnd hash).1.2.2.1 (fnd hash).1.2.2.2 w w1 -> Kids b hash over under par (fnd hash).1.1 (fnd hash).1.2.1 (fnd hash).1.2.2.1 (fnd hash).1.2.2.2 w w2) := fun w1 w2 hb2 h => by
  obtain ⟨pl, pr, gl, gr, h1, h2, h3, h4, h5, h6, h7, h8⟩ := h
  exact ⟨pl, pr, gl, gr, (hb2.block b (Array.getElem?_eq_some_iff.1 h1).1).trans h1, h2.below hb2, h3.below hb2, h4.below hb2, h5.below hb2, h6, h7, h8⟩
 generalize Kids b hash over under par (fnd hash).1.1 (fnd hash).1.2.1 (fnd hash).1.2.2.1 (fnd hash).1.2.2.2 w = KK at HT HK ⊢
 cases hz : decide (C = 0) with
 | true =>
  rw [hz] at HT
  go_enter func152, ntmps152
  go_wp2_with (first | (go_at_call 153; refine HT.mono ?_; rintro e w2 ⟨rfl, f2, hL2, hk2⟩; obtain ⟨a2, HN2⟩ := HN.out w2 f2) | (go_at_call 120; refine HN2.mono ?_; rintro e w3 ⟨rfl, hb3⟩))
  go_ret
  exact ⟨rfl, f2.trans (Fr.of_below hb3) (fun q _ e => e), hL2.below hb3, fun h => HK.out _ _ hb3 (hk2 h)⟩
 | false =>
  rw [hz] at HT
  go_enter func152, ntmps152
  go_wp2_with (first | (go_at_call 153; refine HT.mono ?_; rintro e w2 ⟨rfl, f2, hL2, hk2⟩))
  go_ret
  exact ⟨rfl, f2, hL2, hk2⟩
end Go.Proofs.YtfmpjlpakldheaaGreatDoor
