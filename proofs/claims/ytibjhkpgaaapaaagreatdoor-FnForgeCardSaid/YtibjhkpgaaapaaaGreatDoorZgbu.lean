import Derived.Test.YtibjhkpgaaapaaaGreatDoorZgbt
import Derived.Test.YtibjhkpgaaapaaaGreatDoorZgar
import Derived.Test.YtibjhkpgaaapaaaGreatDoorZgam
import Derived.Test.YtibjhkpgaaapaaaGreatDoorZgan
import Derived.Test.YtibjhkpgaaapaaaGreatDoorZgaw
import Derived.Deep.DeepCutAuto
import Derived.Deep.CutBlock
set_option maxRecDepth 100000
set_option maxHeartbeats 4000000
namespace Go.Proofs.YtibjhkpgaaapaaaGreatDoor
open Go.RowKit Go.Proofs.Sha

/-- How far a subtree goes to the left, to the right. -/
def loD (h : Nat → Bool) : Nat → Nat
  | 0 => 0
  | l + 1 => if h l = true then loD h l else l + 1
def hiD (h : Nat → Bool) : Nat → Nat → Nat
  | 0, j => j
  | f + 1, j => if h j = true then hiD h f (j + 1) else j
/-- The first that is found. -/
def fstD (c : Nat → Bool) : Nat → Nat → Option Nat
  | 0, _ => none
  | f + 1, i => if c i = true then some i else fstD c f (i + 1)
def tvD (i : Nat) : ByteArray := (⟨#[116]⟩ : ByteArray) ++ byteS (i % 256) ++ byteS (i / 256)
def twL (ps : List PairT) (k : ByteArray) : Option Nat → List PairT
  | none => ps
  | some i => wth ps k (tvD i)
/-- The twin that is found, if one is. -/
def twR (ps : List PairT) (T : Nat) : Option Nat :=
  fstD (fun i => decide (tvD i ≠ (ps.getD T noPair).2) && decide (hashS (ps.getD T noPair).1 (tvD i) (rootS ((ps.take T).drop (loD (fun j => hgW (ps.getD T noPair).1 (ps.getD j noPair).1) T)) 1) (rootS ((ps.take (hiD (fun j => hgW (ps.getD T noPair).1 (ps.getD j noPair).1) (ps.length - (T + 1)) (T + 1))).drop (T + 1)) 1) 1 = hashS (ps.getD T noPair).1 (ps.getD T noPair).2 (rootS ((ps.take T).drop (loD (fun j => hgW (ps.getD T noPair).1 (ps.getD j noPair).1) T)) 1) (rootS ((ps.take (hiD (fun j => hgW (ps.getD T noPair).1 (ps.getD j noPair).1) (ps.length - (T + 1)) (T + 1))).drop (T + 1)) 1) 1)) 1200 0
def TwGot (qs : List PairT) (f : Bool) (w : World) (e : Ending) (w' : World) : Prop := ∃ a' c', e = .returned (.tuple #[.slice a' qs.length c', .bool f]) ∧ PArg a' qs w' ∧ qs.length ≤ c' ∧ Below w.heap.size w w'
theorem loD_le (h : Nat → Bool) : ∀ l, loD h l ≤ l
  | 0 => Nat.le_refl _
  | l + 1 => by
    rw [loD]
    split
    · exact Nat.le_succ_of_le (loD_le h l)
    · exact Nat.le_refl _
theorem hiD_le (h : Nat → Bool) : ∀ f j, j ≤ hiD h f j ∧ hiD h f j ≤ j + f
  | 0, j => ⟨Nat.le_refl _, Nat.le_refl _⟩
  | f + 1, j => by
    rw [hiD]
    have := hiD_le h f (j + 1)
    split <;> omega
theorem rootS_size (ps : List PairT) (n : Int) (_h : n ≤ 32) : (rootS ps n).size ≤ 1048576 := by
  unfold rootS
  split
  · have := rootT_size n.toNat (by omega) (cutTree ps)
    omega
  · exact Nat.zero_le _
theorem byteS_size (n : Nat) : (byteS n).size = 1 := rfl
theorem blk_below {w w' : World} {g : Nat} {o : Obj} (hb : Below w.heap.size w w') (h : w.heap[g]? = some o) : w'.heap[g]? = some o := (hb.block g (Array.getElem?_eq_some_iff.1 h).1).trans h
theorem node_set {W : World} {gn : Nat} {a0 a1 a2 a3 : Value} (h : W.heap[gn]? = some (.cells #[a0, a1, a2, a3] 73)) (k v l r : ByteArray) : ((((W.setCell ⟨gn, 0, none⟩ (.string k)).setCell ⟨gn, 1, none⟩ (.string v)).setCell ⟨gn, 2, none⟩ (.string l)).setCell ⟨gn, 3, none⟩ (.string r)).heap[gn]? = some (.cells #[.string k, .string v, .string l, .string r] 73) :=
  heap_setCell_same _ gn 3 _ 73 (.string r) (heap_setCell_same _ gn 2 _ 73 (.string l) (heap_setCell_same _ gn 1 _ 73 (.string v) (heap_setCell_same W gn 0 _ 73 (.string k) h)))
theorem twin_any (b off : Nat) (ps : List PairT) (c T : Nat) (w : World) (h : PArg (some ⟨b, off, none⟩) ps w) (hc : ps.length ≤ c) (hT : T < ps.length) (hpl : ps.length ≤ 10000) :
    Calls Tryz.prog 61 #[.slice (some ⟨b, off, none⟩) ps.length c, .int .i64 1, .int .i64 (T : Int)] w (TwGot (twL ps (ps.getD T noPair).1 (twR ps T)) (twR ps T).isSome w) := by
  obtain ⟨RES, hRES⟩ : ∃ R, twR ps T = R := ⟨_, rfl⟩
  rw [hRES]
  unfold twR at hRES
  have hn := h.le
  obtain ⟨b', off', he, hbl, hcs⟩ := h.at_ (by omega)
  obtain ⟨rfl, rfl⟩ : b = b' ∧ off = off' := by simpa using he
  clear he
  obtain ⟨kv, hkv⟩ : ∃ x, ps.getD T noPair = x := ⟨_, rfl⟩
  obtain ⟨hcT1, hcT2⟩ := hcs T hT
  obtain ⟨hsk, hsv⟩ := h.sz T
  rw [hkv] at hcT1 hcT2 hsk hsv hRES ⊢
  obtain ⟨k, v⟩ := kv
  simp only at hcT1 hcT2 hsk hsv hRES ⊢
  obtain ⟨hf, hhf⟩ : ∃ f : Nat → Bool, (fun j => hgW k (ps.getD j noPair).1) = f := ⟨_, rfl⟩
  rw [hhf] at hRES
  have HH : Hid (∀ j w', Calls Tryz.prog 67 #[.string k, .string (ps.getD j noPair).1] w' fun e w'' => e = .returned (.bool (hf j)) ∧ Below w'.heap.size w' w'') := fun j w' => by
    rw [← hhf]
    exact shigher_any k _ w' hsk (h.sz j).1
  obtain ⟨LO, hLO⟩ : ∃ LO, loD hf T = LO := ⟨_, rfl⟩
  have hLOh : Hid (loD hf T = LO) := hLO
  rw [hLO] at hRES
  have hLO1 : LO ≤ T := by rw [← hLO]; exact loD_le hf T
  obtain ⟨N, hN⟩ : ∃ N, ps.length = N := ⟨_, rfl⟩
  have hNl : Hid (ps.length = N) := hN
  rw [hN] at hn hc hT hpl hRES ⊢
  obtain ⟨HI, hHI⟩ : ∃ HI, hiD hf (N - (T + 1)) (T + 1) = HI := ⟨_, rfl⟩
  have hHIh : Hid (hiD hf (N - (T + 1)) (T + 1) = HI) := hHI
  rw [hHI] at hRES
  have hHI1 : T + 1 ≤ HI ∧ HI ≤ N := by have := hiD_le hf (N - (T + 1)) (T + 1); omega
  clear hN hLO hhf hkv hHI
  obtain ⟨rl, hrl⟩ : ∃ r, rootS ((ps.take T).drop LO) 1 = r := ⟨_, rfl⟩
  obtain ⟨rr, hrr⟩ : ∃ r, rootS ((ps.take HI).drop (T + 1)) 1 = r := ⟨_, rfl⟩
  rw [hrl, hrr] at hRES
  obtain ⟨WT, hWT⟩ : ∃ t, hashS k v rl rr 1 = t := ⟨_, rfl⟩
  rw [hWT] at hRES
  have hrls : rl.size ≤ 1048576 := by rw [← hrl]; exact rootS_size _ 1 (by decide)
  have hrrs : rr.size ≤ 1048576 := by rw [← hrr]; exact rootS_size _ 1 (by decide)
  obtain ⟨cnd, hcnd⟩ : ∃ f : Nat → Bool, (fun i => decide (tvD i ≠ v) && decide (hashS k (tvD i) rl rr 1 = WT)) = f := ⟨_, rfl⟩
  rw [hcnd] at hRES
  have hRh : Hid (fstD cnd 1200 0 = RES) := hRES
  have hcn : Hid (∀ i, cnd i = (decide (tvD i ≠ v) && decide (hashS k (tvD i) rl rr 1 = WT))) := fun i => (congrFun hcnd i).symm
  have HW : Hid (∀ w', Calls Tryz.prog 119 #[.agg #[.string k, .string v, .string rl, .string rr], .int .i64 1] w' fun e w'' => e = .returned (.string WT) ∧ Below w'.heap.size w' w'') := fun w' => (shash_any k v rl rr 1 w' hsk hsv hrls hrrs).mono (by rintro e w'' ⟨t, rfl, ht, hb⟩; exact ⟨by rw [ht.out, hWT], hb⟩)
  have HNh : Hid (∀ x w', x.size ≤ 1048576 → Calls Tryz.prog 119 #[.agg #[.string k, .string x, .string rl, .string rr], .int .i64 1] w' fun e w'' => e = .returned (.string (hashS k x rl rr 1)) ∧ Below w'.heap.size w' w'') := fun x w' hx => (shash_any k x rl rr 1 w' hsk hx hrls hrrs).mono (by rintro e w'' ⟨t, rfl, ht, hb⟩; exact ⟨by rw [ht.out], hb⟩)
  have hbd : Bd ps := fun p hp => by
    obtain ⟨j, hj, rfl⟩ := List.mem_iff_getElem.1 hp
    have := h.sz j
    rw [List.getD_eq_getElem?_getD, List.getElem?_eq_getElem hj] at this
    exact this
  have HWi : Hid (∀ x w', x.size ≤ 1048576 → Below w.heap.size w w' → Calls Tryz.prog 86 #[.slice (some ⟨b, off, none⟩) N c, .string k, .string x] w' fun e w'' => ∃ a5 c5, e = .returned (.slice a5 (wth ps k x).length c5) ∧ PArg a5 (wth ps k x) w'' ∧ (wth ps k x).length ≤ c5 ∧ Below w'.heap.size w' w'') := fun x w' hx hb => by
    have := with_any (some ⟨b, off, none⟩) ps c k x w' (h.below hb) hsk (by rw [hNl.out]; omega)
    rw [hNl.out] at this
    refine this.mono ?_
    rintro e w'' ⟨a5, c5, rfl, ho⟩
    exact ⟨a5, c5, rfl, ownp_parg ho ((hbd.wth hsk hx).small (by have := wth_len ps k x; rw [hNl.out] at this; omega)), own2_le ho.own, ho.bel⟩
  have hnone : Hid (∀ w', Below w.heap.size w w' → PArg (some ⟨b, off, none⟩) ps w') := fun w' hb => h.below hb
  clear hRES hcnd hWT hbd
  have HL : Hid (∀ w', Below w.heap.size w w' → Calls Tryz.prog 29 #[.slice (if c = LO then some ⟨b, off, none⟩ else some ⟨b, off + LO * 2, none⟩) (T - LO) (c - LO), .int .i64 1] w' fun e w'' => e = .returned (.string rl) ∧ Below w'.heap.size w' w'') := fun w' hb => by
    rw [if_neg (by omega), ← hrl]
    have hl : ((ps.take T).drop LO).length = T - LO := by rw [List.length_drop, List.length_take, hNl.out]; omega
    have := rootSpec_any (some ⟨b, off + LO * 2, none⟩) ((ps.take T).drop LO) (c - LO) 1 w' (((h.below hb).take T).drop LO) (by omega)
    rw [hl] at this
    exact this
  have HR : Hid (∀ w', Below w.heap.size w w' → Calls Tryz.prog 29 #[.slice (if c = T + 1 then some ⟨b, off, none⟩ else some ⟨b, off + (T + 1) * 2, none⟩) (HI - (T + 1)) (c - (T + 1)), .int .i64 1] w' fun e w'' => e = .returned (.string rr) ∧ Below w'.heap.size w' w'') := fun w' hb => by
    rw [← hrr]
    have hl : ((ps.take HI).drop (T + 1)).length = HI - (T + 1) := by rw [List.length_drop, List.length_take, hNl.out]; omega
    have hP : PArg (if c = T + 1 then some ⟨b, off, none⟩ else some ⟨b, off + (T + 1) * 2, none⟩) ((ps.take HI).drop (T + 1)) w' := by
      by_cases e : c = T + 1
      · rw [if_pos e, List.drop_of_length_le (by rw [List.length_take, hNl.out]; omega)]; exact PArg.empty _ _
      · rw [if_neg e]; exact ((h.below hb).take HI).drop (T + 1)
    have := rootSpec_any _ ((ps.take HI).drop (T + 1)) (c - (T + 1)) 1 w' hP (by omega)
    rw [hl] at this
    exact this
  clear hrl hrr
  have HS7 : Hid (∀ W, Below w.heap.size w W → W.cell? ⟨b, off + T * 2, none⟩ = some (.string k) ∧ W.cell? ⟨b, off + T * 2 + 1, none⟩ = some (.string v)) := fun W hb => ⟨(hb.cell (p := ⟨b, off + T * 2, none⟩) hbl).trans hcT1, (hb.cell (p := ⟨b, off + T * 2 + 1, none⟩) hbl).trans hcT2⟩
  go_enter Tryz.func61, Tryz.ntmps61
  go_upto_block 0 with fail
  go_cut [8] (fun s8 wx => s8 = .int .i64 (LO : Int) ∧ Below w.heap.size w wx)
  case first =>
    go_wp2_with fail
    go_loopw [8] (fun t wr => ∃ l : Nat, l ≤ T ∧ t = .int .i64 (l : Int) ∧ Hid (loD hf l = LO) ∧ Below w.heap.size w wr) (fun t _ => (intOf t).toNat)
    case atStart => exact ⟨T, Nat.le_refl _, rfl, hLOh, Below.refl _ _⟩
    case round =>
      obtain ⟨l, hl, rfl, hlo, hbw⟩ := hrel
      have hd1 := (hbw.cell (p := ⟨b, off + T * 2, none⟩) hbl).trans hcT1
      have hx0 : (0 : Int) ≤ (T : Int) := Int.natCast_nonneg _
      have hx1 : (T : Int) < (N : Int) := by omega
      by_cases hl0 : l = 0
      · have y1 : decide ((0 : Int) < (l : Int)) = false := by simp; omega
        have y3 : decide (0 < l) = false := by simp; omega
        have hl0h : Hid (l = 0) := hl0
        clear hl0
        go_wp2_with fail
        go_quiet (fail)
        go_wp2_with fail
        go_meet
        exact ⟨by rw [← hlo.out, hl0h.out]; rfl, below_draws nq hbw⟩
      · obtain ⟨j, hj⟩ : ∃ j, l = j + 1 := ⟨l - 1, by omega⟩
        have y0 : (0 : Int) < (l : Int) := by omega
        have y1 : decide ((0 : Int) < (l : Int)) = true := by rw [decide_eq_true_eq]; exact y0
        have y3 : decide (0 < l) = true := by rw [decide_eq_true_eq]; omega
        have hd2 := (hbw.cell (p := ⟨b, off + j * 2, none⟩) hbl).trans (hcs j (by rw [hNl.out]; omega)).1
        have HJ : Hid (∀ w', Calls Tryz.prog 67 #[.string k, .string (ps.getD j noPair).1] w' fun e w'' => e = .returned (.bool (hf j)) ∧ Below w'.heap.size w' w'') := HH.out j
        generalize (ps.getD j noPair).1 = kj at hd2 HJ
        have x0 : (0 : Int) ≤ (j : Int) := Int.natCast_nonneg _
        have x1 : (j : Int) < (N : Int) := by omega
        have yk : IntKind.i64.wrap ((l : Int) - 1) = (j : Int) := by rw [wrap_i64_in _ (by omega) (by omega)]; omega
        have hstep : Hid (loD hf l = if hf j = true then loD hf j else l) := by show _ = _; rw [hj, loD]
        have hjl : Hid (l = j + 1) := hj
        have hbs := Nat.lt_of_lt_of_le hbl hbw.size
        obtain ⟨B, hBe⟩ : ∃ B, hf j = B := ⟨_, rfl⟩
        rw [hBe] at HJ hstep
        clear hj hl0 hBe
        go_upto_region 3 with fail
        go_region_held3 (fun W => W.cell? ⟨b, off + T * 2, none⟩ = some (.string k) ∧ W.cell? ⟨b, off + j * 2, none⟩ = some (.string kj)) (first | exact ⟨hd1, hd2⟩ | exact ⟨he1, he2⟩) (first | (go_at_call 67; refine (HJ.out _).mono ?_; rintro e w1 ⟨rfl, hb1⟩; have he1 := (hb1.cell (p := ⟨b, off + T * 2, none⟩) hbs).trans hd1; have he2 := (hb1.cell (p := ⟨b, off + j * 2, none⟩) hbs).trans hd2))
        have hdr : Below wr.heap.size wr wr.drew := draws_below 1 (Below.refl _ _)
        have hbw1 : Below w.heap.size w w1 := hbw.trans ((hdr.trans (hb1.mono hdr.size)).mono hbw.size)
        cases B with
        | true =>
          rw [if_pos rfl] at hstep
          go_wp2_with fail
          go_roundw
          case rel => exact ⟨j, by have := hjl.out; omega, by first | rfl | rw [yk], by show _ = _; rw [← hstep.out]; exact hlo.out, hbw1⟩
          case measure => have := hjl.out; simp [intOf]; omega
        | false =>
          rw [if_neg (by decide)] at hstep
          go_wp2_with fail
          go_meet
          exact ⟨by rw [← hlo.out, hstep.out], hbw1⟩
  case rest =>
  obtain ⟨rfl, hbw0⟩ := hcut
  go_upto_block 2 with fail
  go_cut [9] (fun s9 wx => s9 = .int .i64 (HI : Int) ∧ Below w.heap.size w wx)
  case first =>
    go_wp2_with fail
    go_loopw [9] (fun t wr => ∃ l : Nat, T + 1 ≤ l ∧ l ≤ N ∧ t = .int .i64 (l : Int) ∧ Hid (hiD hf (N - l) l = HI) ∧ Below w.heap.size w wr) (fun t _ => N - (intOf t).toNat)
    case atStart => exact ⟨T + 1, Nat.le_refl _, hT, by go_num, hHIh, hbw0⟩
    case round =>
      obtain ⟨l, hl1, hl2, rfl, hlo, hbw⟩ := hrel
      have hd1 := (hbw.cell (p := ⟨b, off + T * 2, none⟩) hbl).trans hcT1
      have hx0 : (0 : Int) ≤ (T : Int) := Int.natCast_nonneg _
      have hx1 : (T : Int) < (N : Int) := by omega
      by_cases hl0 : l = N
      · have y1 : decide ((l : Int) < (N : Int)) = false := by simp; omega
        have y3 : decide (l < N) = false := by simp; omega
        have hl0h : Hid (l = N) := hl0
        clear hl0
        go_wp2_with fail
        go_quiet (fail)
        go_wp2_with fail
        go_meet
        exact ⟨by rw [← hlo.out, hl0h.out, Nat.sub_self]; rfl, below_draws nq hbw⟩
      · have y0 : (l : Int) < (N : Int) := by omega
        have y1 : decide ((l : Int) < (N : Int)) = true := by rw [decide_eq_true_eq]; exact y0
        have y3 : decide (l < N) = true := by rw [decide_eq_true_eq]; omega
        have hd2 := (hbw.cell (p := ⟨b, off + l * 2, none⟩) hbl).trans (hcs l (by rw [hNl.out]; omega)).1
        have HJ : Hid (∀ w', Calls Tryz.prog 67 #[.string k, .string (ps.getD l noPair).1] w' fun e w'' => e = .returned (.bool (hf l)) ∧ Below w'.heap.size w' w'') := HH.out l
        generalize (ps.getD l noPair).1 = kj at hd2 HJ
        have x0 : (0 : Int) ≤ (l : Int) := Int.natCast_nonneg _
        have hstep : Hid (hiD hf (N - l) l = if hf l = true then hiD hf (N - (l + 1)) (l + 1) else l) := by show _ = _; rw [show N - l = N - (l + 1) + 1 by omega, hiD]
        have hbs := Nat.lt_of_lt_of_le hbl hbw.size
        obtain ⟨B, hBe⟩ : ∃ B, hf l = B := ⟨_, rfl⟩
        rw [hBe] at HJ hstep
        clear hl0 hBe
        go_upto_region 5 with fail
        go_region_held3 (fun W => W.cell? ⟨b, off + T * 2, none⟩ = some (.string k) ∧ W.cell? ⟨b, off + l * 2, none⟩ = some (.string kj)) (first | exact ⟨hd1, hd2⟩ | exact ⟨he1, he2⟩) (first | (go_at_call 67; refine (HJ.out _).mono ?_; rintro e w1 ⟨rfl, hb1⟩; have he1 := (hb1.cell (p := ⟨b, off + T * 2, none⟩) hbs).trans hd1; have he2 := (hb1.cell (p := ⟨b, off + l * 2, none⟩) hbs).trans hd2))
        have hdr : Below wr.heap.size wr wr.drew := draws_below 1 (Below.refl _ _)
        have hbw1 : Below w.heap.size w w1 := hbw.trans ((hdr.trans (hb1.mono hdr.size)).mono hbw.size)
        cases B with
        | true =>
          rw [if_pos rfl] at hstep
          go_wp2_with fail
          go_roundw
          case rel => exact ⟨l + 1, by omega, by omega, by go_num, by show _ = _; rw [← hstep.out]; exact hlo.out, hbw1⟩
          case measure => simp [intOf]; omega
        | false =>
          rw [if_neg (by decide)] at hstep
          go_wp2_with fail
          go_meet
          exact ⟨by rw [← hlo.out, hstep.out], hbw1⟩
  case rest =>
  obtain ⟨rfl, hbw⟩ := hcut
  clear hbw0
  go_upto_region 7 with fail
  have hd1 := (hbw.cell (p := ⟨b, off + T * 2, none⟩) hbl).trans hcT1
  have hd2 := (hbw.cell (p := ⟨b, off + T * 2 + 1, none⟩) hbl).trans hcT2
  have hbs := Nat.lt_of_lt_of_le hbl hbw.size
  have hx0 : (0 : Int) ≤ (T : Int) := Int.natCast_nonneg _
  have hx1 : (T : Int) < (N : Int) := by omega
  have l0 : (0 : Int) ≤ (LO : Int) := Int.natCast_nonneg _
  have l1 : (LO : Int) ≤ (T : Int) := by omega
  have l2 : (T : Int) ≤ (c : Int) := by omega
  have l3 : (0 : Int) ≤ (T : Int) + 1 := by omega
  have l4 : (T : Int) + 1 ≤ (HI : Int) := by omega
  have l5 : (HI : Int) ≤ (c : Int) := by omega
  have yt : IntKind.i64.wrap ((T : Int) + 1) = (T : Int) + 1 := by rw [wrap_i64_in _ (by omega) (by omega)]
  go_cut [10] (fun s10 wx => ∃ g : Nat, s10 = .pointer (some ⟨g, 0, none⟩) ∧ wx.heap[g]? = some (.cells #[.string k, .string v, .string rl, .string rr] 73) ∧ w.heap.size ≤ g ∧ Below w.heap.size w wx)
  case first =>
    have hdr : Below wc.heap.size wc wc.drew := draws_below 1 (Below.refl _ _)
    have B1 : Below w.heap.size w wc.drew := hbw.trans (hdr.mono hbw.size)
    refine wp_region_held_drew (S := fun W => W.cell? ⟨b, off + T * 2, none⟩ = some (.string k) ∧ W.cell? ⟨b, off + T * 2 + 1, none⟩ = some (.string v)) (by kernel_rfl) (HS7.out _ B1) (fun hHeld => ?_)
    generalize wc.drew = wd at B1 hHeld ⊢
    clear hdr
    refine wpAnyH_take (i := 0) (v := ?_) rfl (by kernel_rfl) (by kernel_rfl) (by kernel_rfl) (fun _ _ _ h => h) (Or.inl ⟨by rfl, ?_⟩) (by assumption) ?_
    rotate_left
    · intro w hSw; obtain ⟨s0, s1⟩ := hSw; go_simp; rfl
    simp only [Act.put, List.setIfInBounds_toArray, List.set_cons_zero, List.set_cons_succ, List.getElem_toArray, List.getElem_cons_zero]
    refine wpAnyH_take (i := 1) (v := ?_) rfl (by kernel_rfl) (by kernel_rfl) (by kernel_rfl) (fun _ _ _ h => h) (Or.inl ⟨by rfl, ?_⟩) (by assumption) ?_
    rotate_left
    · intro w hSw; obtain ⟨s0, s1⟩ := hSw; go_simp; rfl
    simp only [Act.put, List.setIfInBounds_toArray, List.set_cons_zero, List.set_cons_succ, List.getElem_toArray, List.getElem_cons_zero, List.getElem_cons_succ]
    refine wpAnyH_take (i := 2) (v := ?_) rfl (by kernel_rfl) (by kernel_rfl) (by kernel_rfl) (fun _ _ _ h => h) (Or.inl ⟨by rfl, ?_⟩) (by assumption) ?_
    rotate_left
    · intro w hSw; obtain ⟨s0, s1⟩ := hSw; go_simp; rfl
    simp only [Act.put, List.setIfInBounds_toArray, List.set_cons_zero, List.set_cons_succ, List.getElem_toArray, List.getElem_cons_zero, List.getElem_cons_succ]
    refine wpAnyH_take (i := 3) (v := ?_) rfl (by kernel_rfl) (by kernel_rfl) (by kernel_rfl) (fun _ _ _ h => h) (Or.inl ⟨by rfl, ?_⟩) (by assumption) ?_
    rotate_left
    · intro w hSw; obtain ⟨s0, s1⟩ := hSw; go_simp; rfl
    simp only [Act.put, List.setIfInBounds_toArray, List.set_cons_zero, List.set_cons_succ, List.getElem_toArray, List.getElem_cons_zero, List.getElem_cons_succ]
    refine wpAnyH_take (i := 4) (v := ?_) rfl (by kernel_rfl) (by kernel_rfl) (by kernel_rfl) (fun _ _ _ h => h) (Or.inl ⟨by rfl, ?_⟩) (by assumption) ?_
    rotate_left
    · intro w hSw; obtain ⟨s0, s1⟩ := hSw; go_simp; rfl
    simp only [Act.put, List.setIfInBounds_toArray, List.set_cons_zero, List.set_cons_succ, List.getElem_toArray, List.getElem_cons_zero, List.getElem_cons_succ]
    refine wpAnyH_take (i := 5) (v := ?_) rfl (by kernel_rfl) (by kernel_rfl) (by kernel_rfl) (fun _ _ _ h => h) (Or.inl ⟨by rfl, ?_⟩) (by assumption) ?_
    rotate_left
    · intro w hSw; obtain ⟨s0, s1⟩ := hSw; go_simp; rfl
    simp only [Act.put, List.setIfInBounds_toArray, List.set_cons_zero, List.set_cons_succ, List.getElem_toArray, List.getElem_cons_zero, List.getElem_cons_succ]
    refine wpAnyH_take (i := 6) (v := ?_) rfl (by kernel_rfl) (by kernel_rfl) (by kernel_rfl) (fun _ _ _ h => h) (Or.inl ⟨by rfl, ?_⟩) (by assumption) ?_
    rotate_left
    · intro w hSw; obtain ⟨s0, s1⟩ := hSw; go_simp; rfl
    simp only [Act.put, List.setIfInBounds_toArray, List.set_cons_zero, List.set_cons_succ, List.getElem_toArray, List.getElem_cons_zero, List.getElem_cons_succ]
    refine wpAnyH_take (i := 7) (v := ?_) rfl (by kernel_rfl) (by kernel_rfl) (by kernel_rfl) (fun _ _ _ h => h) (Or.inl ⟨by rfl, ?_⟩) (by assumption) ?_
    rotate_left
    · intro w hSw; obtain ⟨s0, s1⟩ := hSw; go_simp; rfl
    simp only [Act.put, List.setIfInBounds_toArray, List.set_cons_zero, List.set_cons_succ, List.getElem_toArray, List.getElem_cons_zero, List.getElem_cons_succ]
    refine wpAnyH_take (i := 8) (v := ?_) rfl (by kernel_rfl) (by kernel_rfl) (by kernel_rfl) (fun _ _ _ h => h) (Or.inl ⟨by rfl, ?_⟩) (by assumption) ?_
    rotate_left
    · intro w hSw; obtain ⟨s0, s1⟩ := hSw; go_simp; rfl
    simp only [Act.put, List.setIfInBounds_toArray, List.set_cons_zero, List.set_cons_succ, List.getElem_toArray, List.getElem_cons_zero, List.getElem_cons_succ]
    refine wpAnyH_take (i := 9) (v := ?_) rfl (by kernel_rfl) (by kernel_rfl) (by kernel_rfl) (fun _ _ _ h => h) (Or.inl ⟨by rfl, ?_⟩) (by assumption) ?_
    rotate_left
    · intro w hSw; obtain ⟨s0, s1⟩ := hSw; go_simp; rfl
    simp only [Act.put, List.setIfInBounds_toArray, List.set_cons_zero, List.set_cons_succ, List.getElem_toArray, List.getElem_cons_zero, List.getElem_cons_succ]
    refine wpAnyH_take (i := 10) (v := ?_) rfl (by kernel_rfl) (by kernel_rfl) (by kernel_rfl) (fun _ _ _ h => h) (Or.inl ⟨by rfl, ?_⟩) (by assumption) ?_
    rotate_left
    · intro w hSw; obtain ⟨s0, s1⟩ := hSw; go_simp; rfl
    simp only [Act.put, List.setIfInBounds_toArray, List.set_cons_zero, List.set_cons_succ, List.getElem_toArray, List.getElem_cons_zero, List.getElem_cons_succ]
    refine wpAnyH_take (i := 11) (v := ?_) rfl (by kernel_rfl) (by kernel_rfl) (by kernel_rfl) (fun _ _ _ h => h) (Or.inl ⟨by rfl, ?_⟩) (by assumption) ?_
    rotate_left
    · intro w hSw; obtain ⟨s0, s1⟩ := hSw; go_simp; rfl
    simp only [Act.put, List.setIfInBounds_toArray, List.set_cons_zero, List.set_cons_succ, List.getElem_toArray, List.getElem_cons_zero, List.getElem_cons_succ]
    refine wpAnyH_take (i := 12) (v := ?_) rfl (by kernel_rfl) (by kernel_rfl) (by kernel_rfl) (fun _ _ _ h => h) (Or.inl ⟨by rfl, ?_⟩) (by assumption) ?_
    rotate_left
    · intro w hSw; obtain ⟨s0, s1⟩ := hSw; go_simp; rfl
    simp only [Act.put, List.setIfInBounds_toArray, List.set_cons_zero, List.set_cons_succ, List.getElem_toArray, List.getElem_cons_zero, List.getElem_cons_succ]
    refine wpAnyH_take (i := 13) (v := ?_) rfl (by kernel_rfl) (by kernel_rfl) (by kernel_rfl) (fun _ _ _ h => h) (Or.inl ⟨by rfl, ?_⟩) (by assumption) ?_
    rotate_left
    · intro w hSw; obtain ⟨s0, s1⟩ := hSw; go_simp; rfl
    simp only [Act.put, List.setIfInBounds_toArray, List.set_cons_zero, List.set_cons_succ, List.getElem_toArray, List.getElem_cons_zero, List.getElem_cons_succ]
    refine wpAnyH_take (i := 14) (v := ?_) rfl (by kernel_rfl) (by kernel_rfl) (by kernel_rfl) (fun _ _ _ h => h) (Or.inl ⟨by rfl, ?_⟩) (by assumption) ?_
    rotate_left
    · intro w hSw; obtain ⟨s0, s1⟩ := hSw; go_simp; rfl
    simp only [Act.put, List.setIfInBounds_toArray, List.set_cons_zero, List.set_cons_succ, List.getElem_toArray, List.getElem_cons_zero, List.getElem_cons_succ]
    refine wpAnyH_take (i := 16) (v := ?_) rfl (by kernel_rfl) (by kernel_rfl) (by kernel_rfl) (fun _ _ _ h => h) (Or.inl ⟨by rfl, ?_⟩) (by assumption) ?_
    rotate_left
    · intro w hSw; obtain ⟨s0, s1⟩ := hSw; go_simp; rfl
    simp only [Act.put, List.setIfInBounds_toArray, List.set_cons_zero, List.set_cons_succ, List.getElem_toArray, List.getElem_cons_zero, List.getElem_cons_succ]
    refine wpAnyH_take (i := 17) (v := ?_) rfl (by kernel_rfl) (by kernel_rfl) (by kernel_rfl) (fun _ _ _ h => h) (Or.inl ⟨by rfl, ?_⟩) (by assumption) ?_
    rotate_left
    · intro w hSw; obtain ⟨s0, s1⟩ := hSw; go_simp; rfl
    simp only [Act.put, List.setIfInBounds_toArray, List.set_cons_zero, List.set_cons_succ, List.getElem_toArray, List.getElem_cons_zero, List.getElem_cons_succ]
    refine wpAnyH_take (i := 18) (v := ?_) rfl (by kernel_rfl) (by kernel_rfl) (by kernel_rfl) (fun _ _ _ h => h) (Or.inl ⟨by rfl, ?_⟩) (by assumption) ?_
    rotate_left
    · intro w hSw; obtain ⟨s0, s1⟩ := hSw; go_simp; rfl
    simp only [Act.put, List.setIfInBounds_toArray, List.set_cons_zero, List.set_cons_succ, List.getElem_toArray, List.getElem_cons_zero, List.getElem_cons_succ]
    refine wpAnyH_take (i := 19) (v := ?_) rfl (by kernel_rfl) (by kernel_rfl) (by kernel_rfl) (fun _ _ _ h => h) (Or.inl ⟨by rfl, ?_⟩) (by assumption) ?_
    rotate_left
    · intro w hSw; obtain ⟨s0, s1⟩ := hSw; go_simp; rfl
    simp only [Act.put, List.setIfInBounds_toArray, List.set_cons_zero, List.set_cons_succ, List.getElem_toArray, List.getElem_cons_zero, List.getElem_cons_succ]
    refine wpAnyH_take (i := 20) (v := ?_) rfl (by kernel_rfl) (by kernel_rfl) (by kernel_rfl) (fun _ _ _ h => h) (Or.inl ⟨by rfl, ?_⟩) (by assumption) ?_
    rotate_left
    · intro w hSw; obtain ⟨s0, s1⟩ := hSw; go_simp; rfl
    simp only [Act.put, List.setIfInBounds_toArray, List.set_cons_zero, List.set_cons_succ, List.getElem_toArray, List.getElem_cons_zero, List.getElem_cons_succ]
    refine wpAnyH_take (i := 21) (v := ?_) rfl (by kernel_rfl) (by kernel_rfl) (by kernel_rfl) (fun _ _ _ h => h) (Or.inl ⟨by rfl, ?_⟩) (by assumption) ?_
    rotate_left
    · intro w hSw; obtain ⟨s0, s1⟩ := hSw; go_simp; rfl
    simp only [Act.put, List.setIfInBounds_toArray, List.set_cons_zero, List.set_cons_succ, List.getElem_toArray, List.getElem_cons_zero, List.getElem_cons_succ]
    refine wpAnyH_ready (rs := [15, 24]) (by kernel_rfl) (by simp) ?_
    refine AllReadyH.cons rfl (fun K hK => ?_) (AllReadyH.cons rfl (fun K hK => ?_) AllReadyH.nil)
    · go_simp
      refine (HL.out _ B1).mono ?_
      rintro e w1 ⟨rfl, hw1⟩
      have bw1 := B1.trans (hw1.mono B1.size)
      have kw1 := HS7.out _ bw1
      refine hK.out _ _ kw1 (fun hHeld => ?_)
      clear hK K
      refine wpAnyH_ready (rs := [22, 24]) (by kernel_rfl) (by simp) ?_
      refine AllReadyH.cons rfl (fun K hK => ?_) (AllReadyH.cons rfl (fun K hK => ?_) AllReadyH.nil)
      · go_simp
        refine (HR.out _ bw1).mono ?_
        rintro e w2 ⟨rfl, hw2⟩
        have bw2 := bw1.trans (hw2.mono bw1.size)
        have kw2 := HS7.out _ bw2
        refine hK.out _ _ kw2 (fun hHeld => ?_)
        clear hK K
        refine wpAnyH_take (i := 23) (v := ?_) rfl (by kernel_rfl) (by kernel_rfl) (by kernel_rfl) (fun _ _ _ h => h) (Or.inl ⟨by rfl, ?_⟩) (by assumption) ?_
        rotate_left
        · intro w hSw; skip; go_simp; rfl
        simp only [Act.put, List.setIfInBounds_toArray, List.set_cons_zero, List.set_cons_succ, List.getElem_toArray, List.getElem_cons_zero, List.getElem_cons_succ]
        refine wpAnyH_ready (rs := [24]) (by kernel_rfl) (by simp) ?_
        refine AllReadyH.cons rfl (fun K hK => ?_) AllReadyH.nil
        go_simp
        have alw3 : Below w.heap.size w (w2.alloc (.cells #[.string ⟨#[]⟩, .string ⟨#[]⟩, .string ⟨#[]⟩, .string ⟨#[]⟩] 73)) := bw2.alloc bw2.size _
        have nw3 := heap_alloc_new w2 (.cells #[.string ⟨#[]⟩, .string ⟨#[]⟩, .string ⟨#[]⟩, .string ⟨#[]⟩] 73)
        have kw3 := HS7.out _ alw3
        refine hK.out _ _ kw3 (fun hHeld => ?_)
        clear hK K
        generalize w2.alloc (.cells #[.string ⟨#[]⟩, .string ⟨#[]⟩, .string ⟨#[]⟩, .string ⟨#[]⟩] 73) = w3 at alw3 nw3 kw3 hHeld ⊢
        have gg : w.heap.size ≤ w2.heap.size := bw2.size
        obtain ⟨gn, hgn⟩ : ∃ q, w2.heap.size = q := ⟨_, rfl⟩
        rw [hgn] at nw3 gg
        try rw [hgn]
        clear hgn
        have n0 := Lib.cell_of_heap nw3 0
        have n1 := Lib.cell_of_heap nw3 1
        have n2 := Lib.cell_of_heap nw3 2
        have n3 := Lib.cell_of_heap nw3 3
        have nf : ∀ j, w3.frozen? ⟨gn, j, none⟩ = false := fun j => by rw [World.frozen?, nw3]; rfl
        have hNF := node_set nw3 k v rl rr
        have hbF : Below w.heap.size w _ := set4_below (gn := gn) alw3 gg (.string k) (.string v) (.string rl) (.string rr)
        refine wpAnyH_ready (rs := [25]) (by kernel_rfl) (by simp) ?_
        refine AllReadyH.cons rfl (fun K hK => ?_) AllReadyH.nil
        go_simp
        refine hK.out _ _ (HS7.out _ hbF) (fun hHeld => ?_)
        clear hK K
        refine wpAnyH_done (by kernel_rfl) ?_ _
        clear HL HR
        try generalize (if c = T + 1 then some (⟨b, off, none⟩ : Addr) else some ⟨b, off + (T + 1) * 2, none⟩) = A2
        try generalize (if c = LO then some (⟨b, off, none⟩ : Addr) else some ⟨b, off + LO * 2, none⟩) = A1
        go_wp2_with fail
        go_meet
        exact ⟨gn, rfl, hNF, gg, hbF⟩
      · go_simp
        have alw2 : Below w.heap.size w (w1.alloc (.cells #[.string ⟨#[]⟩, .string ⟨#[]⟩, .string ⟨#[]⟩, .string ⟨#[]⟩] 73)) := bw1.alloc bw1.size _
        have nw2 := heap_alloc_new w1 (.cells #[.string ⟨#[]⟩, .string ⟨#[]⟩, .string ⟨#[]⟩, .string ⟨#[]⟩] 73)
        have kw2 := HS7.out _ alw2
        refine hK.out _ _ kw2 (fun hHeld => ?_)
        clear hK K
        generalize w1.alloc (.cells #[.string ⟨#[]⟩, .string ⟨#[]⟩, .string ⟨#[]⟩, .string ⟨#[]⟩] 73) = w2 at alw2 nw2 kw2 hHeld ⊢
        have gg : w.heap.size ≤ w1.heap.size := bw1.size
        obtain ⟨gn, hgn⟩ : ∃ q, w1.heap.size = q := ⟨_, rfl⟩
        rw [hgn] at nw2 gg
        try rw [hgn]
        clear hgn
        refine wpAnyH_ready (rs := [22]) (by kernel_rfl) (by simp) ?_
        refine AllReadyH.cons rfl (fun K hK => ?_) AllReadyH.nil
        go_simp
        refine (HR.out _ alw2).mono ?_
        rintro e w3 ⟨rfl, hw3⟩
        have bw3 := alw2.trans (hw3.mono alw2.size)
        have kw3 := HS7.out _ bw3
        refine hK.out _ _ kw3 (fun hHeld => ?_)
        clear hK K
        have nw3 := blk_below hw3 nw2
        refine wpAnyH_take (i := 23) (v := ?_) rfl (by kernel_rfl) (by kernel_rfl) (by kernel_rfl) (fun _ _ _ h => h) (Or.inl ⟨by rfl, ?_⟩) (by assumption) ?_
        rotate_left
        · intro w hSw; skip; go_simp; rfl
        simp only [Act.put, List.setIfInBounds_toArray, List.set_cons_zero, List.set_cons_succ, List.getElem_toArray, List.getElem_cons_zero, List.getElem_cons_succ]
        have n0 := Lib.cell_of_heap nw3 0
        have n1 := Lib.cell_of_heap nw3 1
        have n2 := Lib.cell_of_heap nw3 2
        have n3 := Lib.cell_of_heap nw3 3
        have nf : ∀ j, w3.frozen? ⟨gn, j, none⟩ = false := fun j => by rw [World.frozen?, nw3]; rfl
        have hNF := node_set nw3 k v rl rr
        have hbF : Below w.heap.size w _ := set4_below (gn := gn) bw3 gg (.string k) (.string v) (.string rl) (.string rr)
        refine wpAnyH_ready (rs := [25]) (by kernel_rfl) (by simp) ?_
        refine AllReadyH.cons rfl (fun K hK => ?_) AllReadyH.nil
        go_simp
        refine hK.out _ _ (HS7.out _ hbF) (fun hHeld => ?_)
        clear hK K
        refine wpAnyH_done (by kernel_rfl) ?_ _
        clear HL HR
        try generalize (if c = T + 1 then some (⟨b, off, none⟩ : Addr) else some ⟨b, off + (T + 1) * 2, none⟩) = A2
        try generalize (if c = LO then some (⟨b, off, none⟩ : Addr) else some ⟨b, off + LO * 2, none⟩) = A1
        go_wp2_with fail
        go_meet
        exact ⟨gn, rfl, hNF, gg, hbF⟩
    · go_simp
      have alw1 : Below w.heap.size w (wd.alloc (.cells #[.string ⟨#[]⟩, .string ⟨#[]⟩, .string ⟨#[]⟩, .string ⟨#[]⟩] 73)) := B1.alloc B1.size _
      have nw1 := heap_alloc_new wd (.cells #[.string ⟨#[]⟩, .string ⟨#[]⟩, .string ⟨#[]⟩, .string ⟨#[]⟩] 73)
      have kw1 := HS7.out _ alw1
      refine hK.out _ _ kw1 (fun hHeld => ?_)
      clear hK K
      generalize wd.alloc (.cells #[.string ⟨#[]⟩, .string ⟨#[]⟩, .string ⟨#[]⟩, .string ⟨#[]⟩] 73) = w1 at alw1 nw1 kw1 hHeld ⊢
      have gg : w.heap.size ≤ wd.heap.size := B1.size
      obtain ⟨gn, hgn⟩ : ∃ q, wd.heap.size = q := ⟨_, rfl⟩
      rw [hgn] at nw1 gg
      try rw [hgn]
      clear hgn
      refine wpAnyH_ready (rs := [15]) (by kernel_rfl) (by simp) ?_
      refine AllReadyH.cons rfl (fun K hK => ?_) AllReadyH.nil
      go_simp
      refine (HL.out _ alw1).mono ?_
      rintro e w2 ⟨rfl, hw2⟩
      have bw2 := alw1.trans (hw2.mono alw1.size)
      have kw2 := HS7.out _ bw2
      refine hK.out _ _ kw2 (fun hHeld => ?_)
      clear hK K
      have nw2 := blk_below hw2 nw1
      refine wpAnyH_ready (rs := [22]) (by kernel_rfl) (by simp) ?_
      refine AllReadyH.cons rfl (fun K hK => ?_) AllReadyH.nil
      go_simp
      refine (HR.out _ bw2).mono ?_
      rintro e w3 ⟨rfl, hw3⟩
      have bw3 := bw2.trans (hw3.mono bw2.size)
      have kw3 := HS7.out _ bw3
      refine hK.out _ _ kw3 (fun hHeld => ?_)
      clear hK K
      have nw3 := blk_below hw3 nw2
      refine wpAnyH_take (i := 23) (v := ?_) rfl (by kernel_rfl) (by kernel_rfl) (by kernel_rfl) (fun _ _ _ h => h) (Or.inl ⟨by rfl, ?_⟩) (by assumption) ?_
      rotate_left
      · intro w hSw; skip; go_simp; rfl
      simp only [Act.put, List.setIfInBounds_toArray, List.set_cons_zero, List.set_cons_succ, List.getElem_toArray, List.getElem_cons_zero, List.getElem_cons_succ]
      have n0 := Lib.cell_of_heap nw3 0
      have n1 := Lib.cell_of_heap nw3 1
      have n2 := Lib.cell_of_heap nw3 2
      have n3 := Lib.cell_of_heap nw3 3
      have nf : ∀ j, w3.frozen? ⟨gn, j, none⟩ = false := fun j => by rw [World.frozen?, nw3]; rfl
      have hNF := node_set nw3 k v rl rr
      have hbF : Below w.heap.size w _ := set4_below (gn := gn) bw3 gg (.string k) (.string v) (.string rl) (.string rr)
      refine wpAnyH_ready (rs := [25]) (by kernel_rfl) (by simp) ?_
      refine AllReadyH.cons rfl (fun K hK => ?_) AllReadyH.nil
      go_simp
      refine hK.out _ _ (HS7.out _ hbF) (fun hHeld => ?_)
      clear hK K
      refine wpAnyH_done (by kernel_rfl) ?_ _
      clear HL HR
      try generalize (if c = T + 1 then some (⟨b, off, none⟩ : Addr) else some ⟨b, off + (T + 1) * 2, none⟩) = A2
      try generalize (if c = LO then some (⟨b, off, none⟩ : Addr) else some ⟨b, off + LO * 2, none⟩) = A1
      go_wp2_with fail
      go_meet
      exact ⟨gn, rfl, hNF, gg, hbF⟩
  case rest =>
  obtain ⟨gn, rfl, hNd, hgn, hbn⟩ := hcut
  clear hbw HL HR hd1 hd2 hbs
  have m0 := Lib.cell_of_heap hNd 0
  have m1 := Lib.cell_of_heap hNd 1
  have m2 := Lib.cell_of_heap hNd 2
  have m3 := Lib.cell_of_heap hNd 3
  go_upto_region 9 with (first | (go_at_call 119; refine (HW.out _).mono ?_; rintro e w9 ⟨rfl, hb9⟩))
  have hN9 := blk_below hb9 hNd
  have hbw9 := hbn.trans (hb9.mono hbn.size)
  clear m0 m1 m2 m3 hNd hbn hb9 HW
  go_wp2_with fail
  go_loopw [12] (fun t wr => ∃ i : Nat, i ≤ 1200 ∧ t = .int .i64 (i : Int) ∧ Hid (fstD cnd (1200 - i) i = RES) ∧ (∃ x, wr.heap[gn]? = some (.cells #[.string k, .string x, .string rl, .string rr] 73)) ∧ Below w.heap.size w wr) (fun t _ => 1200 - (intOf t).toNat)
  case atStart => exact ⟨0, Nat.zero_le _, rfl, hRh, ⟨v, hN9⟩, hbw9⟩
  case round =>
    obtain ⟨i, hi, rfl, hres, ⟨x, hNr⟩, hbr⟩ := hrel
    by_cases hlt : i < 1200
    · have z1 : decide ((i : Int) < (1200 : Int)) = true := by simp; omega
      have z1' : decide (i < 1200) = true := by simp; omega
      have ym : (i : Int).tmod 256 = ((i % 256 : Nat) : Int) := by rw [Int.tmod_eq_emod_of_nonneg (by omega)]; omega
      have yd : (i : Int).tdiv 256 = ((i / 256 : Nat) : Int) := by rw [Int.tdiv_eq_ediv_of_nonneg (by omega)]; omega
      have HB1 : Hid (∀ w', Calls Tryz.prog 91 #[.int .i64 ((i % 256 : Nat) : Int)] w' fun e w'' => e = .returned (.string (byteS (i % 256))) ∧ Below w'.heap.size w' w'') := fun w' => byte_d _ (i % 256) rfl (by omega) w'
      have HB2 : Hid (∀ w', Calls Tryz.prog 91 #[.int .i64 ((i / 256 : Nat) : Int)] w' fun e w'' => e = .returned (.string (byteS (i / 256))) ∧ Below w'.heap.size w' w'') := fun w' => byte_d _ (i / 256) rfl (by omega) w'
      obtain ⟨q1, hq1⟩ : ∃ q, i % 256 = q := ⟨_, rfl⟩
      obtain ⟨q2, hq2⟩ : ∃ q, i / 256 = q := ⟨_, rfl⟩
      have htv : Hid (tvD i = (⟨#[116]⟩ : ByteArray) ++ byteS q1 ++ byteS q2) := by show _ = _; unfold tvD; rw [hq1, hq2]
      rw [hq1] at ym HB1
      rw [hq2] at yd HB2
      have hq2b : q2 ≤ 5 := by omega
      have yw : wrap64 (q2 : Int) = (q2 : Int) := by unfold wrap64; omega
      have hs1 := byteS_size q1
      have hs2 := byteS_size q2
      clear hq1 hq2
      generalize byteS q1 = t1 at HB1 htv hs1
      generalize byteS q2 = t2 at HB2 htv hs2
      have hz1 : ¬ (9223372036854775807 < 1 + t1.size) := by omega
      have hz2 : ¬ (9223372036854775807 < 1 + t1.size + t2.size) := by omega
      have n0 := Lib.cell_of_heap hNr 0
      have n1 := Lib.cell_of_heap hNr 1
      have n2 := Lib.cell_of_heap hNr 2
      have n3 := Lib.cell_of_heap hNr 3
      go_upto_region 13 with (first | (go_at_call_of 91 (Value.int .i64 (q1 : Int)); refine (HB1.out _).mono ?_; rintro e wa ⟨rfl, hba⟩; have hNa := blk_below hba hNr; have hbra := hbr.trans (hba.mono hbr.size)) | (go_at_call_of 91 (Value.int .i64 (q2 : Int)); refine (HB2.out _).mono ?_; rintro e wb ⟨rfl, hbb⟩; have hNb := blk_below hbb hNa; have hbrb := hbra.trans (hbb.mono hbra.size); have nb1 := Lib.cell_of_heap hNb 1; have nbf : ∀ j, wb.frozen? ⟨gn, j, none⟩ = false := (fun j => by rw [World.frozen?, hNb]; rfl)))
      clear hNa hbra hba hbb n0 n1 n2 n3 hNr hbr ym yd yw HB1 HB2
      have hNc : (wb.setCell ⟨gn, 1, none⟩ (.string ((⟨#[116]⟩ : ByteArray) ++ t1 ++ t2))).heap[gn]? = some (.cells #[.string k, .string ((⟨#[116]⟩ : ByteArray) ++ t1 ++ t2), .string rl, .string rr] 73) := heap_setCell_same wb gn 1 _ 73 _ hNb
      have hbrc : Below w.heap.size w (wb.setCell ⟨gn, 1, none⟩ (.string ((⟨#[116]⟩ : ByteArray) ++ t1 ++ t2))) := hbrb.setCell (p := ⟨gn, 1, none⟩) hgn _
      have htsz : ((⟨#[116]⟩ : ByteArray) ++ t1 ++ t2).size ≤ 1048576 := by rw [ByteArray.size_append, ByteArray.size_append]; show 1 + _ + _ ≤ _; omega
      generalize wb.setCell ⟨gn, 1, none⟩ (.string ((⟨#[116]⟩ : ByteArray) ++ t1 ++ t2)) = wr2 at hNc hbrc ⊢
      generalize (⟨#[116]⟩ : ByteArray) ++ t1 ++ t2 = tv at htv hNc htsz ⊢
      clear hNb hbrb nb1 nbf hz1 hz2 hs1 hs2
      obtain ⟨hk1, hk2⟩ := HS7.out _ hbrc
      have n0 := Lib.cell_of_heap hNc 0
      have n1 := Lib.cell_of_heap hNc 1
      have n2 := Lib.cell_of_heap hNc 2
      have n3 := Lib.cell_of_heap hNc 3
      have hgl := (Array.getElem?_eq_some_iff.1 hNc).1
      have hbs := Nat.lt_of_lt_of_le hbl hbrc.size
      have hx0 : (0 : Int) ≤ (T : Int) := Int.natCast_nonneg _
      have hx1 : (T : Int) < (N : Int) := by omega
      have hci := hcn.out i
      rw [htv.out] at hci
      have hstep : fstD cnd (1200 - i) i = if cnd i = true then some i else fstD cnd (1200 - (i + 1)) (i + 1) := by rw [show 1200 - i = 1200 - (i + 1) + 1 by omega, fstD]
      by_cases hve : tv = v
      · have zv : (tv.toList == v.toList) = true := by rw [ba_eq, decide_eq_true hve]
        have hnx : Hid (fstD cnd (1200 - (i + 1)) (i + 1) = RES) := by
          show _ = _
          rw [if_neg (by rw [hci]; simp [hve])] at hstep
          rw [← hstep]; exact hres.out
        clear hve hstep hci
        go_quiet (fail)
        go_wp2_with fail
        have hdq : Below wr2.heap.size wr2 (wr2.drewN nq) := draws_below nq (Below.refl _ _)
        go_roundw
        case rel => exact ⟨i + 1, hlt, by go_num, hnx, ⟨tv, blk_below hdq hNc⟩, below_draws nq hbrc⟩
        case measure => simp [intOf]; omega
      · have zv : (tv.toList == v.toList) = false := by rw [ba_eq, decide_eq_false hve]
        have HC := HNh.out tv
        obtain ⟨hh, hhh⟩ : ∃ t, hashS k tv rl rr 1 = t := ⟨_, rfl⟩
        rw [hhh] at HC hci
        have HC' : Hid (∀ w', Calls Tryz.prog 119 #[.agg #[.string k, .string tv, .string rl, .string rr], .int .i64 1] w' fun e w'' => e = .returned (.string hh) ∧ Below w'.heap.size w' w'') := fun w' => HC w' htsz
        have hdr : Below wr2.heap.size wr2 wr2.drew := draws_below 1 (Below.refl _ _)
        have hveh : Hid (tv ≠ v) := hve
        clear hve HC hhh
        by_cases hhe : hh = WT
        · have zh : (hh.toList == WT.toList) = true := by rw [ba_eq, decide_eq_true hhe]
          have hheh : Hid (hh = WT) := hhe
          clear hhe
          go_region_held3 (fun W => W.cell? ⟨gn, 0, none⟩ = some (.string k) ∧ W.cell? ⟨gn, 1, none⟩ = some (.string tv) ∧ W.cell? ⟨gn, 2, none⟩ = some (.string rl) ∧ W.cell? ⟨gn, 3, none⟩ = some (.string rr) ∧ W.cell? ⟨b, off + T * 2 + 1, none⟩ = some (.string v)) (first | exact ⟨n0, n1, n2, n3, hk2⟩ | exact ⟨o0, o1, o2, o3, o4⟩) (first | (go_at_call 119; refine (HC'.out _).mono ?_; rintro e w1 ⟨rfl, hb1⟩; have o0 := (hb1.cell (p := ⟨gn, 0, none⟩) hgl).trans n0; have o1 := (hb1.cell (p := ⟨gn, 1, none⟩) hgl).trans n1; have o2 := (hb1.cell (p := ⟨gn, 2, none⟩) hgl).trans n2; have o3 := (hb1.cell (p := ⟨gn, 3, none⟩) hgl).trans n3; have o4 := (hb1.cell (p := ⟨b, off + T * 2 + 1, none⟩) hbs).trans hk2))
          have hb12 : Below wr2.heap.size wr2 w1 := hdr.trans (hb1.mono hdr.size)
          have hbr1 := hbrc.trans (hb12.mono hbrc.size)
          have hN1 := blk_below hb12 hNc
          have hRs : Hid (RES = some i) := by
            show _ = _
            rw [if_pos (by rw [hci]; simp [hheh.out, hveh.out])] at hstep
            rw [← hstep]; exact hres.out.symm
          obtain ⟨hk1', hk2'⟩ := HS7.out _ hbr1
          have hdr1 : Below w1.heap.size w1 w1.drew := draws_below 1 (Below.refl _ _)
          have hbr1d := hbr1.trans (hdr1.mono hbr1.size)
          have HWx := HWi.out tv w1.drew htsz hbr1d
          obtain ⟨M5, hM5⟩ : ∃ M, (wth ps k tv).length = M := ⟨_, rfl⟩
          rw [hM5] at HWx
          have HWy : Hid (Calls Tryz.prog 86 #[.slice (some ⟨b, off, none⟩) N c, .string k, .string tv] w1.drew fun e w'' => ∃ a5 c5, e = .returned (.slice a5 M5 c5) ∧ PArg a5 (wth ps k tv) w'' ∧ M5 ≤ c5 ∧ Below w1.drew.heap.size w1.drew w'') := HWx
          have hgl1 := (Array.getElem?_eq_some_iff.1 hN1).1
          have hbs1 := Nat.lt_of_lt_of_le hbl hbr1.size
          clear hstep hci HWx n0 n1 n2 n3 hk1 hk2
          go_upto_region 14 with fail
          go_region_held3 (fun W => W.cell? ⟨gn, 1, none⟩ = some (.string tv) ∧ W.cell? ⟨b, off + T * 2, none⟩ = some (.string k)) (first | exact ⟨o1, hk1'⟩ | exact ⟨r1, r2⟩) (first | (go_at_call 86; refine HWy.out.mono ?_; rintro e w2 ⟨a5, c5, rfl, hP5, hc5, hb5⟩; have r1 := (hb5.cell (p := ⟨gn, 1, none⟩) hgl1).trans o1; have r2 := (hb5.cell (p := ⟨b, off + T * 2, none⟩) hbs1).trans hk1'))
          go_wp2_with fail
          go_ret2
          rw [hRs.out]
          refine ⟨a5, c5, ?_, ?_, ?_, hbr1d.trans (hb5.mono hbr1d.size)⟩
          · show _ = Ending.returned (.tuple #[.slice a5 (wth ps k (tvD i)).length c5, .bool true])
            rw [htv.out, hM5]
            rfl
          · show PArg a5 (wth ps k (tvD i)) _
            rw [htv.out]; exact hP5
          · show (wth ps k (tvD i)).length ≤ c5
            rw [htv.out, hM5]; exact hc5
        · have zh : (hh.toList == WT.toList) = false := by rw [ba_eq, decide_eq_false hhe]
          have hheh : Hid (¬ hh = WT) := hhe
          clear hhe
          go_region_held3 (fun W => W.cell? ⟨gn, 0, none⟩ = some (.string k) ∧ W.cell? ⟨gn, 1, none⟩ = some (.string tv) ∧ W.cell? ⟨gn, 2, none⟩ = some (.string rl) ∧ W.cell? ⟨gn, 3, none⟩ = some (.string rr) ∧ W.cell? ⟨b, off + T * 2 + 1, none⟩ = some (.string v)) (first | exact ⟨n0, n1, n2, n3, hk2⟩ | exact ⟨o0, o1, o2, o3, o4⟩) (first | (go_at_call 119; refine (HC'.out _).mono ?_; rintro e w1 ⟨rfl, hb1⟩; have o0 := (hb1.cell (p := ⟨gn, 0, none⟩) hgl).trans n0; have o1 := (hb1.cell (p := ⟨gn, 1, none⟩) hgl).trans n1; have o2 := (hb1.cell (p := ⟨gn, 2, none⟩) hgl).trans n2; have o3 := (hb1.cell (p := ⟨gn, 3, none⟩) hgl).trans n3; have o4 := (hb1.cell (p := ⟨b, off + T * 2 + 1, none⟩) hbs).trans hk2))
          have hb12 : Below wr2.heap.size wr2 w1 := hdr.trans (hb1.mono hdr.size)
          have hbr1 := hbrc.trans (hb12.mono hbrc.size)
          have hN1 := blk_below hb12 hNc
          have hnx : Hid (fstD cnd (1200 - (i + 1)) (i + 1) = RES) := by
            show _ = _
            rw [if_neg (by rw [hci]; simp [hheh.out])] at hstep
            rw [← hstep]; exact hres.out
          clear hstep hci
          go_wp2_with fail
          go_roundw
          case rel => exact ⟨i + 1, hlt, by go_num, hnx, ⟨tv, hN1⟩, hbr1⟩
          case measure => simp [intOf]; omega
    · obtain rfl : i = 1200 := by omega
      have hRn : Hid (RES = none) := by show _ = _; rw [← hres.out]; rfl
      go_wp2_with fail
      go_ret2
      rw [hRn.out]
      exact ⟨_, c, by show _ = Ending.returned (.tuple #[.slice (some ⟨b, off, none⟩) ps.length c, .bool false]); rw [hNl.out]; rfl, hnone.out _ hbr, by show ps.length ≤ c; rw [hNl.out]; exact hc, hbr⟩
end Go.Proofs.YtibjhkpgaaapaaaGreatDoor
