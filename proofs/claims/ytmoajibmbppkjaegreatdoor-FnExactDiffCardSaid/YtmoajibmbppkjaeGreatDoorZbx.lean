import Derived.Test.YtmoajibmbppkjaeGreatDoorZbp
namespace Go.Proofs.YtmoajibmbppkjaeGreatDoor
open Go.RowKit Go.Proofs.Sha

set_option maxRecDepth 100000 in
set_option maxHeartbeats 1000000 in
theorem ld_any (fnd : ByteArray → FN) (wd : Nat) (hfo : FndOk wd fnd) (sb : Nat) (root : ByteArray) (v0 v2 : Value) (w : World) (hb : w.heap[sb]? = some (.cells #[v0, .int .i64 (wd : Int), v2] 191)) (hr : root.size ≤ 1048576)
    (HF : Hid (∀ (hash : ByteArray) w', hash.size = wd → Below w.heap.size w w' → Calls Tryz.prog 204 #[.pointer (some ⟨sb, 0, none⟩), .string hash] w' fun e w'' => e = .returned (nodeT (fnd hash)) ∧ Below w'.heap.size w' w''))
    (HR : Hid (∀ (k : ByteArray) w', okKey k = true → Below w.heap.size w w' → Calls Tryz.prog 173 #[Value.string k] w' fun e w'' => e = .returned (.agg (rkL k).toArray) ∧ Below w'.heap.size w' w'')) :
    Calls Tryz.prog 52 #[.pointer (some ⟨sb, 0, none⟩), .string root] w (RangeAt (if hashOk root.size (wd : Int) = true then (if (goF fnd hgW ⟨#[]⟩ ⟨#[]⟩ 501 root ⟨#[]⟩ ⟨#[]⟩ ⟨#[]⟩ 0).1 = 0 then ((goF fnd hgW ⟨#[]⟩ ⟨#[]⟩ 501 root ⟨#[]⟩ ⟨#[]⟩ ⟨#[]⟩ 0).2.2, 0) else ([], (goF fnd hgW ⟨#[]⟩ ⟨#[]⟩ 501 root ⟨#[]⟩ ⟨#[]⟩ ⟨#[]⟩ 0).1)) else ([], 1)) w) := by
  have HP := pw_any fnd wd hfo sb ⟨#[]⟩ ⟨#[]⟩ root v0 v2 w hb hr HF HR
  generalize (if hashOk root.size (wd : Int) = true then (if (goF fnd hgW ⟨#[]⟩ ⟨#[]⟩ 501 root ⟨#[]⟩ ⟨#[]⟩ ⟨#[]⟩ 0).1 = 0 then ((goF fnd hgW ⟨#[]⟩ ⟨#[]⟩ 501 root ⟨#[]⟩ ⟨#[]⟩ ⟨#[]⟩ 0).2.2, (0 : Int)) else ([], (goF fnd hgW ⟨#[]⟩ ⟨#[]⟩ 501 root ⟨#[]⟩ ⟨#[]⟩ ⟨#[]⟩ 0).1)) else ([], 1)) = X at HP ⊢
  have HQ : Hid (∀ e w2, RangeAt X w e w2 → ∃ a' c', e = .returned (.tuple #[.slice a' X.1.length c', .int .i64 X.2]) ∧ RangeAt X w e w2) := fun e w2 hR => by
    obtain ⟨⟨a', c', he, ho⟩, hb2⟩ := hR
    exact ⟨a', c', he, ⟨⟨a', c', he, ho⟩, hb2⟩⟩
  clear HF HR hfo hb
  go_enter Tryz.func52, Tryz.ntmps52
  go_wp2_with (first | (go_at_call 108; refine HP.mono ?_; intro e w3 hR3; obtain ⟨a3, c3, rfl, hR3⟩ := HQ.out _ _ hR3))
  go_ret2
  exact hR3
set_option maxRecDepth 100000 in
set_option maxHeartbeats 1000000 in
theorem iload_any (HH : Hid (HashSaid KT)) (D : Dec) (n : Int) (HD : Hid (∀ wd : Nat, (wd : Int) = n → 1 ≤ wd → wd ≤ 32 → DecSaid 209 wd D)) (hdo : ∀ wd : Nat, (wd : Int) = n → DecOk wd D) (a : Option Addr) (ss : List ByteArray) (c : Nat) (root : ByteArray) (w : World) (h : SArg a ss w) (hK : KT w) (hr : root.size ≤ 1048576) :
    Calls Tryz.prog 12 #[.agg #[.int .i64 n, .slice a ss.length c], .string root] w (RangeAt (rangeM (fndD D n.toNat ss) n ss.length root ⟨#[]⟩ ⟨#[]⟩) w) := by
  have HV := fun w' => validPool_any n a ss.length c w' h.le
  cases hp : poolOk n ss.length with
  | false =>
    rw [rangeM_bad (by rw [hp]; rfl)]
    rw [hp] at HV
    have HP : Hid (∀ w', Below w.heap.size w w' → RangeAt ([], 1) w (.returned (.tuple #[.slice none 0 0, .int .i64 1])) w') := fun w' hw' => ⟨⟨none, 0, rfl, ⟨rfl, .inl ⟨rfl, rfl⟩⟩⟩, hw'⟩
    have hA : Below w.heap.size w (w.alloc (.cells #[.int .i64 n, .slice a ss.length c] 29)) := (Below.refl _ _).alloc (Nat.le_refl _) _
    clear HH HD h hK
    go_enter Tryz.func12, Tryz.ntmps12
    go_wp2_with (first | (go_at_call 51; refine (HV _).mono ?_; rintro e w1 ⟨rfl, hb1⟩))
    go_ret2
    exact HP.out _ (hA.trans (hb1.mono hA.size))
  | true =>
    rw [hp] at HV
    have hp' : 1 ≤ n ∧ n ≤ 32 ∧ ss.length ≤ 20000 := of_decide_eq_true hp
    obtain ⟨wd, rfl⟩ : ∃ wd : Nat, n = (wd : Int) := ⟨n.toNat, by omega⟩
    have hrM : Hid (rangeM (fndD D (wd : Int).toNat ss) (wd : Int) ss.length root ⟨#[]⟩ ⟨#[]⟩ = if hashOk root.size (wd : Int) = true then (if (goF (fndD D wd ss) hgW ⟨#[]⟩ ⟨#[]⟩ 501 root ⟨#[]⟩ ⟨#[]⟩ ⟨#[]⟩ 0).1 = 0 then ((goF (fndD D wd ss) hgW ⟨#[]⟩ ⟨#[]⟩ 501 root ⟨#[]⟩ ⟨#[]⟩ ⟨#[]⟩ 0).2.2, 0) else ([], (goF (fndD D wd ss) hgW ⟨#[]⟩ ⟨#[]⟩ 501 root ⟨#[]⟩ ⟨#[]⟩ ⟨#[]⟩ 0).1)) else ([], 1)) := by
      show _ = _
      unfold rangeM
      rw [hp, Bool.true_and, Int.toNat_natCast]
    rw [hrM.out]
    have HS : Hid (∀ w', Below w.heap.size w w' → Calls Tryz.prog 53 #[.agg #[.int .i64 (wd : Int), .slice a ss.length c]] w' fun e w'' => ∃ sb r a' c', e = .returned (.pointer (some ⟨sb, 0, none⟩)) ∧ StockAt sb r (sb + 1) wd ss a' c' w'' ∧ Below w'.heap.size w' w'') := fun w' hb => stockOf_any HH (fun w1 w2 h1 hb => KT.below h1 hb) wd a ss c w' (h.below hb) (hK.below hb) (by omega)
    have HW : Hid (∀ w1 sb r a' c', Below w.heap.size w w1 → StockAt sb r (sb + 1) wd ss a' c' w1 → Calls Tryz.prog 52 #[.pointer (some ⟨sb, 0, none⟩), .string root] w1 (RangeAt (if hashOk root.size (wd : Int) = true then (if (goF (fndD D wd ss) hgW ⟨#[]⟩ ⟨#[]⟩ 501 root ⟨#[]⟩ ⟨#[]⟩ ⟨#[]⟩ 0).1 = 0 then ((goF (fndD D wd ss) hgW ⟨#[]⟩ ⟨#[]⟩ 501 root ⟨#[]⟩ ⟨#[]⟩ ⟨#[]⟩ 0).2.2, 0) else ([], (goF (fndD D wd ss) hgW ⟨#[]⟩ ⟨#[]⟩ 501 root ⟨#[]⟩ ⟨#[]⟩ ⟨#[]⟩ 0).1)) else ([], 1)) w1)) := fun w1 sb r a' c' hb1 hs =>
      ld_any (fndD D wd ss) wd (fndD_ok D wd ss (hdo wd rfl)) sb root _ _ w1 hs.blk hr (fun hash w' hh hb' => stockFind_any D sb r (sb + 1) wd (HD.out wd rfl (by omega) (by omega)) ss a' c' hash w' (hs.below hb') h.sz (by have := h.le; omega) (by omega) hh) (fun k w' hk hb' => rank_any k w' (by unfold okKey at hk; have := of_decide_eq_true hk; omega) ((hK.below hb1).below hb'))
    generalize (if hashOk root.size (wd : Int) = true then (if (goF (fndD D wd ss) hgW ⟨#[]⟩ ⟨#[]⟩ 501 root ⟨#[]⟩ ⟨#[]⟩ ⟨#[]⟩ 0).1 = 0 then ((goF (fndD D wd ss) hgW ⟨#[]⟩ ⟨#[]⟩ 501 root ⟨#[]⟩ ⟨#[]⟩ ⟨#[]⟩ 0).2.2, (0 : Int)) else ([], (goF (fndD D wd ss) hgW ⟨#[]⟩ ⟨#[]⟩ 501 root ⟨#[]⟩ ⟨#[]⟩ ⟨#[]⟩ 0).1)) else ([], 1)) = X at HW ⊢
    have hA : Below w.heap.size w (w.alloc (.cells #[.int .i64 (wd : Int), .slice a ss.length c] 29)) := (Below.refl _ _).alloc (Nat.le_refl _) _
    have nA := heap_alloc_new w (.cells #[.int .i64 (wd : Int), .slice a ss.length c] 29)
    have HP : Hid (∀ w1 e w2, Below w.heap.size w w1 → RangeAt X w1 e w2 → ∃ a' c', e = .returned (.tuple #[.slice a' X.1.length c', .int .i64 X.2]) ∧ RangeAt X w e w2) := fun w1 e w2 hb hR => by
      obtain ⟨⟨a', c', he, ho⟩, hb2⟩ := hR
      exact ⟨a', c', he, ⟨⟨a', c', he, own2_mono ho hb.size⟩, hb.trans (hb2.mono hb.size)⟩⟩
    clear HH HD h hK hrM hp hp'
    go_enter Tryz.func12, Tryz.ntmps12
    go_wp2_with (first | (go_at_call 51; refine (HV _).mono ?_; rintro e w1 ⟨rfl, hb1⟩; have nA1 := (hb1.block w.heap.size (by simp)).trans nA; have d0 := Lib.cell_of_heap nA1 0; have d1 := Lib.cell_of_heap nA1 1; clear nA1; replace hb1 := hA.trans (hb1.mono hA.size)) | (go_at_call 53; refine (HS.out _ hb1).mono ?_; rintro e w2 ⟨sb, r, a2, c2, rfl, hs2, hb2⟩; replace hb2 := hb1.trans (hb2.mono hb1.size)) | (go_at_call 52; refine (HW.out _ _ _ _ _ hb2 hs2).mono ?_; intro e w3 hR3; obtain ⟨a3, c3, rfl, hR3⟩ := HP.out _ _ _ hb2 hR3))
    go_ret2
    exact hR3
set_option maxRecDepth 100000 in
theorem sload_any (X : List PairT × Int) (v : Value) (root : ByteArray) (w : World) (hv : ∃ n a m c, v = .agg #[.int .i64 n, .slice a m c]) (HP : ∀ w', Below w.heap.size w w' → Calls Tryz.prog 49 #[v, .string root, .string ⟨#[]⟩, .string ⟨#[]⟩] w' (RangeAt X w')) :
    Calls Tryz.prog 10 #[v, .string root] w (RangeAt X w) := by
  obtain ⟨n, a, m, c, rfl⟩ := hv
  have hA : Below w.heap.size w (w.alloc (.cells #[.int .i64 n, .slice a m c] 29)) := (Below.refl _ _).alloc (Nat.le_refl _) _
  have HP' := HP _ hA
  have HQ : Hid (∀ e w2, RangeAt X (w.alloc (.cells #[.int .i64 n, .slice a m c] 29)) e w2 → ∃ a' c', e = .returned (.tuple #[.slice a' X.1.length c', .int .i64 X.2]) ∧ RangeAt X w e w2) := fun e w2 hR => by
    obtain ⟨⟨a', c', he, ho⟩, hb2⟩ := hR
    exact ⟨a', c', he, ⟨⟨a', c', he, own2_mono ho hA.size⟩, hA.trans (hb2.mono hA.size)⟩⟩
  clear HP
  go_enter Tryz.func10, Tryz.ntmps10
  go_wp2_with (first | (go_at_call 49; refine HP'.mono ?_; intro e w3 hR3; obtain ⟨a3, c3, rfl, hR3⟩ := HQ.out _ _ hR3))
  go_ret2
  exact hR3
end Go.Proofs.YtmoajibmbppkjaeGreatDoor
