import Derived.Test.YtibjhkpgaaapaaaGreatDoorZkam
namespace Go.Proofs.YtibjhkpgaaapaaaGreatDoor
open Go.RowKit Go.Proofs.Sha

set_option maxRecDepth 100000 in
set_option maxHeartbeats 800000 in
theorem fill_any (b : Nat) (h : List UInt32) (kb : List UInt8) (held size n : Nat) (w : World) (H : Hsh w b h kb held size) (h1 : held ≤ n) (h2 : n ≤ 64) :
    Calls Tryz.prog 196 #[.pointer (some ⟨b, 0, none⟩), .int .i64 (n : Int)] w fun e w' => e = .returned (.tuple #[]) ∧ Hsh w' b h (zf kb held (n - held)) n size ∧ w.grownBy w' (some b) := by
  go_enter Tryz.func196, Tryz.ntmps196
  go_wp2_with fail
  go_loopw [9] (fun _ wr => ∃ q : Nat, held + q ≤ n ∧ Hsh wr b h (zf kb held q) (held + q) size ∧ w.grownBy wr (some b)) (fun _ wr => n - heldOf wr b)
  case atStart => exact ⟨0, by omega, H, grownBy_refl _ _⟩
  case round =>
    obtain ⟨q, hq, HH, hgr⟩ := hrel
    have cd := HH.hd
    by_cases hlt : held + q < n
    · obtain ⟨p, hp⟩ : ∃ p, held + q = p := ⟨_, rfl⟩
      rw [hp] at cd HH hlt
      have HP : Hid (held + q = p) := hp
      clear hp hq
      have cb := HH.ks p (by omega)
      have cf := HH.fr (8 + p) (by omega)
      have cf2 := HH.fr 72 (by omega)
      have q0 : (0 : Int) ≤ (p : Int) := by omega
      have q1 : (p : Int) < 64 := by omega
      go_wp2_with fail
      go_region_held3 (fun w' => w'.cell? ⟨b, 72, none⟩ = some (.int .i64 (p : Int))) (first | exact cd | exact (cell_set_ne _ _ _ _ _ (by omega)).trans cd) (fail)
      go_wp2
      go_roundw
      case rel =>
        have e : zf kb held (q + 1) = (zf kb held q).set p 0 := by rw [zf, HP.out]
        have N := ((HH.setByte p (by omega) 0).setHeld (p + 1)).drew
        refine ⟨q + 1, by have := HP.out; omega, ?_, grownBy_drewR (grownBy_trans (grownBy_trans hgr (grownBy_setCell _ _ _ _)) (grownBy_setCell _ _ _ _))⟩
        rw [e, show held + (q + 1) = p + 1 from by have := HP.out; omega]
        exact N
      case measure =>
        have N := ((HH.setByte p (by omega) 0).setHeld (p + 1)).drew.heldOf
        have e := HH.heldOf
        rw [e]
        refine Nat.lt_of_le_of_lt (Nat.le_of_eq (congrArg (fun z => n - z) N)) ?_
        show n - (p + 1) < n - p
        omega
    · obtain rfl : n = held + q := by omega
      go_wp2
      go_end0
      rw [Nat.add_sub_cancel_left]
      exact ⟨rfl, HH, hgr⟩

def zeros8 : List UInt8 := List.replicate 32 0
theorem alloc32 (w : World) : (Instr.alloc 247 true (.tuple #[])).run Tryz.prog w = .ok (.pointer (some ⟨w.heap.size, 0, none⟩)) (w.alloc (.cells (zeros8.map B).toArray 247)) := by kernel_rfl
theorem size32 : (Tryz.prog.info? 247).map (·.size) = some 32 := by kernel_rfl

set_option maxRecDepth 100000 in
set_option maxHeartbeats 800000 in
theorem bytes_any (b : Nat) (h : List UInt32) (kb : List UInt8) (held size : Nat) (w : World) (H : Hsh w b h kb held size) :
    Calls Tryz.prog 197 #[.pointer (some ⟨b, 0, none⟩)] w fun e w' => e = .returned (.agg ((outTo h 8).map B).toArray) ∧ Below w.heap.size w w' := by
  have hbl := H.lt
  have hrg : ∀ w' : World, Hsh w' b h kb held size → w'.rangeAt b 0 (h.map U) := fun w' H' j v hv => by
    have hj : j < 8 := by have := (List.getElem?_eq_some_iff.1 hv).1; rw [List.length_map, H'.hl] at this; exact this
    rw [Nat.zero_add, H'.hs j hj, ← hv, List.getElem?_map, List.getD_eq_getElem?_getD, List.getElem?_eq_getElem (by rw [H'.hl]; exact hj)]; rfl
  have HRG : Hid (∀ w' : World, Hsh w' b h kb held size → w'.rangeAt b 0 (h.map U)) := hrg
  clear hrg
  have hsz : (Tryz.prog.info? 286).map (·.size) = some (h.map U).length := by rw [size41, List.length_map, H.hl]
  have HSZ : Hid ((Tryz.prog.info? 286).map (·.size) = some (h.map U).length) := hsz
  clear hsz
  go_enter Tryz.func197, Tryz.ntmps197
  go_wp2_with (first | (refine wpList_alloc_row _ rfl (some 2) rfl 247 247 rfl (zeros8.map B) alloc32 ?_; intro g2 w2 hr2 hb2) | (refine wpList_alloc_row _ rfl (some 3) rfl 247 247 rfl (zeros8.map B) alloc32 ?_; intro g3 w3 hr3 hb3) | (refine wpList_load_mid rfl 286 (.tmp 8) rfl b 0 rfl (h.map U) _ (HRG.out _ ((H.below hb2).below hb3)) Tryz.underlying286 rfl HSZ.out ?_))
  have hr3' : Row w3 w2.heap.size g3 32 32 ((outArr h 0).map B) := hr3
  have h2 := hb2.size
  have h3 := hb3.size
  have hl2 := hr2.lt
  have hg3 := hr3.ge
  have hg2 := hr2.ge
  have HR2 : Row w3 w.heap.size g2 32 32 (zeros8.map B) := (show Row w2 w.heap.size g2 32 32 (zeros8.map B) from hr2).below hb3
  have hhl := H.hl
  have hbw : Below w.heap.size w w3 := hb2.trans (hb3.mono h2)
  clear hr2 hr3 H hb2 hb3 HRG HSZ
  go_loopw [10] (fun t wr => ∃ i : Nat, i ≤ 8 ∧ t = .int .i64 (i : Int) ∧ Row wr w2.heap.size g3 32 32 ((outArr h i).map B) ∧ w3.grownBy wr (some g3)) (fun t _ => 8 - (intOf t).toNat)
  case atStart => exact ⟨0, by omega, rfl, hr3', grownBy_refl _ _⟩
  case round =>
    clear hr3'
    obtain ⟨i, hi, rfl, hrow, hgr⟩ := hrel
    by_cases hlt : i < 8
    · obtain ⟨x, hx⟩ : ∃ x, h.getD i 0 = x := ⟨_, rfl⟩
      have HX : Hid (h.getD i 0 = x) := hx
      clear hx
      have c0 := row_b hrow (4 * i) (by omega)
      have c1 := row_b hrow (4 * i + 1) (by omega)
      have c2 := row_b hrow (4 * i + 2) (by omega)
      have c3 := row_b hrow (4 * i + 3) (by omega)
      have f0 := hrow.free (4 * i) (by omega)
      have f1 := hrow.free (4 * i + 1) (by omega)
      have f2 := hrow.free (4 * i + 2) (by omega)
      have f3 := hrow.free (4 * i + 3) (by omega)
      go_wp2_with (refine wpList_index_u _ rfl 286 (.tmp 9) (.tmp 10) rfl h 8 177 i rfl rfl hhl hlt Tryz.underlying286 Tryz.underlying177 size24 ?_; rw [HX.out])
      go_roundw
      case rel =>
        simp only [byteM3, byteM2, byteM1, byteM0]
        refine ⟨i + 1, by omega, by go_num, ?_, ?_⟩
        · rw [← outArr_succ h i x hlt HX.out]; exact ((((hrow.set (4 * i) (by omega) _).set (4 * i + 1) (by omega) _).set (4 * i + 2) (by omega) _).set (4 * i + 3) (by omega) _)
        · exact grownBy_trans (grownBy_trans (grownBy_trans (grownBy_trans hgr (grownBy_setCell _ _ _ _)) (grownBy_setCell _ _ _ _)) (grownBy_setCell _ _ _ _)) (grownBy_setCell _ _ _ _)
      case measure => simp [intOf]; omega
    · obtain rfl : i = 8 := by omega
      have hR2 : Row wr w.heap.size g2 32 32 (zeros8.map B) := HR2.kept hgr (by simp; omega)
      rw [outArr_full] at hrow
      have hln : ((outTo h 8).map B).length = 32 := by rw [List.length_map, outTo_length]
      have h1c : ∀ v ∈ (outTo h 8).map B, v.oneCell' = true := by
        intro v hv
        obtain ⟨x, _, rfl⟩ := List.mem_map.1 hv
        rfl
      obtain ⟨L, hL⟩ : ∃ L, (outTo h 8).map B = L := ⟨_, rfl⟩
      rw [hL] at hrow hln h1c
      have HL : Hid (∀ N, N = 8 → (outTo h N).map B = L) := fun N hN => by rw [hN]; exact hL
      clear hL
      go_wp2_with (first | (refine wpList_load_whole _ rfl 247 (.tmp 3) rfl w2.heap.size g3 32 32 L 5 rfl hrow Tryz.underlying247 size32 ?_) | (refine wpList_store_whole _ rfl rfl 247 (.tmp 2) (.tmp 41) rfl w.heap.size g2 32 (zeros8.map B) L rfl rfl hR2 hln size32 h1c ?_; intro w5 hR5 hg5))
      refine ret_row _ (p := 2) (ty := 247) rfl w.heap.size g2 32 32 L 5 rfl hR5 Tryz.underlying247 size32 rfl ?_
      refine ⟨?_, ?_⟩
      · rw [← HL.out 8 rfl]
      · exact (hbw.trans (below_of_grown hgr (by omega) (by omega))).trans (below_of_grown hg5 (by omega) (by have := hgr.size; omega))
end Go.Proofs.YtibjhkpgaaapaaaGreatDoor
namespace Go.Proofs.Sha
open Go Go.RowKit

/-- n bytes of the size from place 56 on. -/
def lb (k : List UInt8) (N : Nat) : Nat → List UInt8
  | 0 => k
  | n + 1 => (lb k N n).set (56 + n) (lenByte (8 * N) (7 - n))
def fin (h : List UInt32) (k : List UInt8) (held N : Nat) : List UInt32 :=
  if held + 1 ≤ 56 then comp h (lb (zf (k.set held 128) (held + 1) (56 - (held + 1))) N 8)
  else comp (comp h (zf (k.set held 128) (held + 1) (64 - (held + 1)))) (lb (zf (zf (k.set held 128) (held + 1) (64 - (held + 1))) 0 (56 - 0)) N 8)

theorem grownBy_new {w a c : World} {b g : Nat} (h : w.grownBy a (some b)) (k : a.grownBy c (some g)) (hg : w.heap.size ≤ g) : w.grownBy c (some b) :=
  ⟨k.os.trans h.os, k.tape.trans h.tape, k.output.trans h.output, Nat.le_trans h.size k.size, fun i hi hn => (k.block i (Nat.lt_of_lt_of_le hi h.size) (by simp; omega)).trans (h.block i hi hn)⟩
theorem grownBy_belowR {w a c : World} {b : Nat} (h : w.grownBy a (some b)) (k : Below a.heap.size a c) : w.grownBy c (some b) := grownBy_trans h (grownBy_of_below k _)
theorem lenByte_wrap (n i : Nat) : IntKind.u8.wrap ((n : Int) * 8 / 2 ^ (8 * i)) = ((lenByte (8 * n) i).toNat : Int) := by rw [IntKind.wrap_u8']; exact lenByte_form n i

end Go.Proofs.Sha
