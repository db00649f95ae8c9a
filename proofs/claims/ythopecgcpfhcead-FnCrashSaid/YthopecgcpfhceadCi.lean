import Derived.Test.YthopecgcpfhceadCh
namespace Go.Proofs.Ythopecgcpfhcead
open Go.RowKit Go.Proofs.Sha

set_option maxRecDepth 100000 in
theorem retDV {fn : Func} {R : Ending → World → Prop} {A : Act} {p q : Tmp} {gb : Nat} {x y : ByteArray} {z : Int} {v : Value} {W : World} (hres : fn.results = #[.cell p 33, .tmp q]) (hp : A.tmps.getD p undef = .pointer (some ⟨gb, 0, none⟩)) (hq : A.tmps.getD q undef = v) (hd : A.defers = []) (n : DB gb x y z W)
    (h : R (.returned (.tuple #[.agg #[.string x, .string y, .int .i64 z], v])) W) : bodyPost Try.prog fn R Exit.ret A W := by
  obtain ⟨c0, c1, c2, _, _, _⟩ := n.at
  have hp' : A.tmps[p]?.getD undef = .pointer (some ⟨gb, 0, none⟩) := by simpa using hp
  have hq' : A.tmps[q]?.getD undef = v := by simpa using hq
  refine bodyPost_ret (v := .tuple #[.agg #[.string x, .string y, .int .i64 z], v]) ?_ hd h
  simp [results, hres, go_sem, asAddr, hp', hq', c0, c1, c2]

set_option maxRecDepth 100000 in
set_option maxHeartbeats 2000000 in
theorem draw_det (a : Option Addr) (xs : List Nat) (cap : Nat) (hX : Code8 xs) :
    ∃ (st now : ByteArray) (cp : Int) (ps : List Int), (st.size ≤ 30000 ∧ now.size ≤ 30000 ∧ ps.length ≤ 12) ∧ ∀ w, BL a xs w → Calls Try.prog 13 #[.slice a xs.length cap] w fun e w' => ∃ g c : Nat, e = .returned (.tuple #[.agg #[.string st, .string now, .int .i64 cp], .slice (some ⟨g, 0, none⟩) ps.length c]) ∧ IArg (some ⟨g, 0, none⟩) ps w' ∧ Below w.heap.size w w' := by
  obtain ⟨st, now, cp, P, ⟨hst, hnow, hP⟩, HD⟩ := anyDisk_det a xs cap hX
  obtain ⟨n, hn, HT⟩ := take_det a xs cap P 12 hX (by omega) (by omega) (by omega)
  obtain ⟨ps, hps, HP⟩ := picks_det a xs cap (P + 1) n hX (by omega) (by omega)
  replace HD : Hid _ := HD
  replace HT : Hid _ := HT
  replace HP : Hid _ := HP
  replace hps : Hid _ := hps
  obtain ⟨P1, hP1⟩ : ∃ P1, P + 1 = P1 := ⟨_, rfl⟩
  rw [hP1] at HT HP
  clear hP1
  refine ⟨st, now, cp, ps, ⟨hst, hnow, by rw [hps.out]; omega⟩, fun w h => ?_⟩
  go_enter Try.func13, Try.ntmps13
  obtain ⟨fb, hfb⟩ : ∃ fb, w.heap.size = fb := ⟨_, rfl⟩
  go_wp2_with fail
  refine (HD.out _ (h.below ((Below.refl _ w).alloc (Nat.le_refl _) _))).mono ?_
  rintro e w1 ⟨rfl, hb1⟩
  have hC1 : Below (fb + 1) (w.alloc (.cells #[.string ⟨#[]⟩, .string ⟨#[]⟩, .int .i64 0] 33)) w1 := hb1.mono (by simp; omega)
  clear hb1
  obtain ⟨gb, hgb⟩ : ∃ gb, w1.heap.size = gb := ⟨_, rfl⟩
  have hD := DD.mk0 w1 fb hfb hC1 st now cp
  rw [hgb] at hD
  go_wp2_with fail
  refine (HT.out _ (h.below (by rw [hfb]; exact hD.bl))).mono ?_
  rintro e w3 ⟨rfl, hb3⟩
  have hD3 := hD.below hb3
  clear hD hb3 hC1
  go_wp2_with fail
  refine (HP.out _ (h.below (by rw [hfb]; exact hD3.bl))).mono ?_
  rintro e w4 ⟨g, c, y, rfl, hi, hgg, hb4⟩
  have hD4 := hD3.below hb4
  have hgf : g ≠ fb := by
    have h1 := (Array.getElem?_eq_some_iff.1 hD3.nb).1
    have h2 := hD3.lt
    omega
  clear hD3 hb4
  obtain ⟨c0, c1, c2, f0, f1, f2⟩ := hD4.nb.at
  obtain ⟨r0, r1, r2, g0, g1, g2⟩ := hD4.rb.at
  go_wp2_with fail
  refine retDV Try.results13 rfl rfl rfl (hD4.fin _ _ _).1 ⟨g, c, rfl, ?_, (by first | exact (hD4.fin _ _ _).2 | exact hD4.fin' _ _ _)⟩
  refine ⟨hi.le, fun hp => ?_⟩
  obtain ⟨b, off, hbo, hlt, hc⟩ := hi.at_ hp
  obtain ⟨rfl, rfl⟩ : g = b ∧ 0 = off := by
    have := Option.some.inj hbo
    simp at this
    exact this
  refine ⟨g, 0, rfl, ?_, fun j hj => ?_⟩
  · simpa using hlt
  · rw [cell_set_far _ _ _ _ _ _ hgf, cell_set_far _ _ _ _ _ _ hgf, cell_set_far _ _ _ _ _ _ hgf]
    exact hc j hj

end Go.Proofs.Ythopecgcpfhcead
