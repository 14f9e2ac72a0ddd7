/- The walk of the law on what sets come to. -/
import Derived.Test.YtijnekbhpdcemaaDoorBitsLaw2
import Derived.Test.YtijnekbhpdcemaaDoorBits3
import Derived.Maps.AppendAt
import Derived.Outline
namespace Go.Proofs.YtijnekbhpdcemaaDoor
open Go.RowKit
set_option linter.unusedVariables false

theorem getD_zip (f : Nat → Nat → Nat) (x y : List Nat) (hx : x.length = 16) (hy : y.length = 16) (k : Nat) (h0 : f 0 0 = 0) : (List.zipWith f x y).getD k 0 = f (x.getD k 0) (y.getD k 0) := by
  by_cases h : k < 16
  · simp [List.getD_eq_getElem?_getD, List.getElem?_zipWith, List.getElem?_eq_getElem (show k < x.length by omega), List.getElem?_eq_getElem (show k < y.length by omega)]
  · simp [List.getD_eq_getElem?_getD, List.getElem?_zipWith, List.getElem?_eq_none (show x.length ≤ k by omega), List.getElem?_eq_none (show y.length ≤ k by omega), h0]

theorem mem_or (x y : List Nat) (hx : x.length = 16) (hy : y.length = 16) (i : Int) : memS (List.zipWith (· ||| ·) x y) i = (memS x i || memS y i) := by
  unfold memS
  rw [getD_zip _ x y hx hy _ rfl, Nat.testBit_or, Bool.and_or_distrib_left]
theorem mem_and (x y : List Nat) (hx : x.length = 16) (hy : y.length = 16) (i : Int) : memS (List.zipWith (· &&& ·) x y) i = (memS x i && memS y i) := by
  unfold memS
  rw [getD_zip _ x y hx hy _ rfl, Nat.testBit_and]
  cases decide (0 ≤ i ∧ i < 1024) <;> simp
theorem mem_without (x y : List Nat) (hx : x.length = 16) (hy : y.length = 16) (i : Int) : memS (List.zipWith (fun a b => a ^^^ (a &&& b)) x y) i = (memS x i && !memS y i) := by
  unfold memS
  rw [getD_zip _ x y hx hy _ rfl, Nat.testBit_xor, Nat.testBit_and]
  cases decide (0 ≤ i ∧ i < 1024) <;> cases (x.getD (i.toNat / 64) 0).testBit (i.toNat % 64) <;> simp

theorem or_set (a b : List Int) : membersS (List.zipWith (· ||| ·) (ofS a) (ofS b)) = membersS (ofS (a ++ b)) :=
  setIs_members ⟨members_rising _, fun y => by
    rw [mem_members, mem_or _ _ (ofS_length a) (ofS_length b), Bool.or_eq_true, memS_ofS, memS_ofS, List.mem_append]
    constructor
    · rintro (⟨h1, h2, h3⟩ | ⟨h1, h2, h3⟩)
      · exact ⟨h1, h2, .inl h3⟩
      · exact ⟨h1, h2, .inr h3⟩
    · rintro ⟨h1, h2, h3 | h3⟩
      · exact .inl ⟨h1, h2, h3⟩
      · exact .inr ⟨h1, h2, h3⟩⟩

theorem rising_filter {l : List Int} (h : Rising l) (p : Int → Bool) : Rising (l.filter p) := List.Pairwise.sublist List.filter_sublist h

theorem and_set (x y : List Nat) (hx : x.length = 16) (hy : y.length = 16) : membersS (List.zipWith (· &&& ·) x y) = (membersS x).filter (fun n => decide (n ∈ membersS y)) :=
  rising_ext (members_rising _) (rising_filter (members_rising _) _) (fun i => by
    rw [mem_members, mem_and x y hx hy, List.mem_filter, mem_members, has_members, Bool.and_eq_true])
theorem without_set (x y : List Nat) (hx : x.length = 16) (hy : y.length = 16) : membersS (List.zipWith (fun a b => a ^^^ (a &&& b)) x y) = (membersS x).filter (fun n => !decide (n ∈ membersS y)) :=
  rising_ext (members_rising _) (rising_filter (members_rising _) _) (fun i => by
    rw [mem_members, mem_without x y hx hy, List.mem_filter, mem_members, has_members, Bool.and_eq_true])

theorem word_ext {a b : Nat} (ha : a < 2 ^ 64) (hb : b < 2 ^ 64) (h : ∀ i, i < 64 → a.testBit i = b.testBit i) : a = b := by
  apply Nat.eq_of_testBit_eq
  intro i
  by_cases hi : i < 64
  · exact h i hi
  · rw [Nat.testBit_lt_two_pow (Nat.lt_of_lt_of_le ha (Nat.pow_le_pow_right (by omega) (by omega))), Nat.testBit_lt_two_pow (Nat.lt_of_lt_of_le hb (Nat.pow_le_pow_right (by omega) (by omega)))]

theorem eq_set (x y : List Nat) (hx : x.length = 16) (hy : y.length = 16) (hx64 : ∀ u ∈ x, u < 2 ^ 64) (hy64 : ∀ u ∈ y, u < 2 ^ 64) : (x == y) = (membersS x == membersS y) := by
  rw [Bool.eq_iff_iff, beq_iff_eq, beq_iff_eq]
  constructor
  · rintro rfl; rfl
  · intro h
    apply List.ext_getElem (by omega)
    intro k h1 h2
    apply word_ext (hx64 _ (List.getElem_mem h1)) (hy64 _ (List.getElem_mem h2))
    intro i hi
    have h3 : memS x ((k * 64 + i : Nat) : Int) = memS y ((k * 64 + i : Nat) : Int) := by
      rw [Bool.eq_iff_iff, ← mem_members, ← mem_members, h]
    unfold memS at h3
    have e1 : ((k * 64 + i : Nat) : Int).toNat / 64 = k := by omega
    have e2 : ((k * 64 + i : Nat) : Int).toNat % 64 = i := by omega
    have e3 : decide (0 ≤ ((k * 64 + i : Nat) : Int) ∧ ((k * 64 + i : Nat) : Int) < 1024) = true := by simp; omega
    rw [e1, e2, e3, Bool.true_and, Bool.true_and, List.getD_eq_getElem?_getD, List.getD_eq_getElem?_getD, List.getElem?_eq_getElem h1, List.getElem?_eq_getElem h2] at h3
    exact h3

/-- two sets laid into two new boxes -/
def boxes (w : World) (T : TypeId) (z : Array Value) (x y : List Nat) : World := (((w.alloc (.cells z T)).alloc (.cells z T)).setRow w.heap.size (setA x)).setRow (w.heap.size + 1) (setA y)
theorem boxes_mid (w : World) (T : TypeId) (z : Array Value) (x : List Nat) : (((w.alloc (.cells z T)).alloc (.cells z T)).setRow w.heap.size (setA x)).heap[w.heap.size + 1]? = some (.cells z T (0, 0)) := by
  rw [setRow_other _ _ _ _ (by omega)]; exact heap_alloc2_new _ _ _
theorem boxes_hi (w : World) (T : TypeId) (z : Array Value) (x y : List Nat) : (boxes w T z x y).heap[w.heap.size + 1]? = some (.cells (setA y) T (0, 0)) :=
  setRow_heap _ _ _ _ _ _ (boxes_mid w T z x)
theorem boxes_lo (w : World) (T : TypeId) (z : Array Value) (x y : List Nat) : (boxes w T z x y).heap[w.heap.size]? = some (.cells (setA x) T (0, 0)) := by
  unfold boxes
  rw [setRow_other _ _ _ _ (by omega)]
  exact setRow_heap _ _ _ _ _ _ (heap_alloc2_old _ _ _)
theorem boxes_size (w : World) (T : TypeId) (z : Array Value) (x y : List Nat) : (boxes w T z x y).heap.size = w.heap.size + 2 := by simp [boxes, World.setRow]
theorem boxes_below (w : World) (T : TypeId) (z : Array Value) (x y : List Nat) : Below w.heap.size w (boxes w T z x y) :=
  below_setRow (below_setRow (((Below.refl _ _).alloc (Nat.le_refl _) _).alloc (by simp) _) (Nat.le_refl _) _) (Nat.le_succ _) _

/-- two rows that grow beside each other -/
def Two (B : Nat) (w : World) (va vo : Value) (A O : List Int) : Prop :=
  w.ownsRow B 3 1 va A.length (A.map (.int .i64)) ∧ w.ownsRow B 3 1 vo O.length (O.map (.int .i64)) ∧ ∀ g, va.ownBlock = some g → vo.ownBlock ≠ some g

theorem Two.nil (B : Nat) (w : World) : Two B w (.slice none 0 0) (.slice none 0 0) [] [] :=
  ⟨World.ownsRow_nil _ _ _ _, World.ownsRow_nil _ _ _ _, fun g h => by cases h⟩
theorem Two.swap {B : Nat} {w : World} {va vo : Value} {A O : List Int} (h : Two B w va vo A O) : Two B w vo va O A :=
  ⟨h.2.1, h.1, fun g h1 h2 => h.2.2 g h2 h1⟩
theorem Two.grow {B : Nat} {w w' : World} {va va' vo : Value} {A O : List Int} {x : Int} (o : Obj) (h : Two B w va vo A O)
    (hown : w'.ownsRow B 3 1 va' (A.length + 1) (A.map (.int .i64) ++ [.int .i64 x])) (hg : (w.alloc o).grownBy w' va.ownBlock)
    (hl : va'.ownBlock = va.ownBlock ∨ va'.ownBlock = some (w.heap.size + 1)) : Two B w' va' vo (A ++ [x]) O := by
  have h2 := h.2.1.alloc o
  refine ⟨by simpa using hown, h2.kept hg ?_, fun g h1 h3 => ?_⟩
  · cases hv : vo.ownBlock with
    | none => exact .inl rfl
    | some g => exact .inr (fun e => h.2.2 g e.symm hv)
  · rcases hl with hl | hl
    · exact h.2.2 g (by rw [← hl]; exact h1) h3
    · have h4 := (h2.lt g h3).2
      rw [hl] at h1
      cases h1
      simp at h4

theorem filter_snoc (p : Int → Bool) (l : List Int) (k : Nat) (hk : k < l.length) : (l.take (k + 1)).filter p = (l.take k).filter p ++ (if p (l.getD k 0) then [l.getD k 0] else []) := by
  rw [List.take_succ_eq_append_getElem hk, List.filter_append]
  have e : l.getD k 0 = l[k] := by rw [List.getD_eq_getElem?_getD, List.getElem?_eq_getElem hk]; rfl
  rw [e]
  simp [List.filter_cons]

theorem filter_take_le (p : Int → Bool) (l : List Int) (k : Nat) : ((l.take k).filter p).length ≤ k :=
  Nat.le_trans (List.length_filter_le _ _) (by simp; omega)

/-- all that the law's last part reads -/
def OpsInv (w0 : World) (b : Nat) (x y : List Nat) (vp vq va vo vr : Value) (p q A O R : List Int) (w : World) : Prop :=
  w.heap[b]? = some (.cells (setA x) 29 (0, 0)) ∧ w.heap[b + 1]? = some (.cells (setA y) 29 (0, 0)) ∧
  IntsV w vp p ∧ IntsV w vq q ∧ IntsV w va A ∧ IntsV w vo O ∧ IntsV w vr R ∧ TabAt 0 Lib.deBruijn64tab w ∧ Below w0.heap.size w0 w

theorem OpsInv.below {w0 : World} {b : Nat} {x y : List Nat} {vp vq va vo vr : Value} {p q A O R : List Int} {w w' : World} (h : OpsInv w0 b x y vp vq va vo vr p q A O R w) (hb : Below w.heap.size w w') : OpsInv w0 b x y vp vq va vo vr p q A O R w' := by
  obtain ⟨h1, h2, h3, h4, h5, h6, h7, h8, h9⟩ := h
  exact ⟨block_below h1 hb (lt_of_block h1), block_below h2 hb (lt_of_block h2), h3.below hb, h4.below hb, h5.below hb, h6.below hb, h7.below hb, tab_below h8 hb (tab_lt h8), h9.trans (hb.mono h9.size)⟩

theorem zip_lt {f : Nat → Nat → Nat} {x y : List Nat} (hf : ∀ u v, u < 2 ^ 64 → v < 2 ^ 64 → f u v < 2 ^ 64) (hx : ∀ u ∈ x, u < 2 ^ 64) (hy : ∀ u ∈ y, u < 2 ^ 64) : ∀ u ∈ List.zipWith f x y, u < 2 ^ 64 := by
  intro u hu
  obtain ⟨k, hk, rfl⟩ := List.getElem_of_mem hu
  rw [List.getElem_zipWith]
  exact hf _ _ (hx _ (List.getElem_mem _)) (hy _ (List.getElem_mem _))


set_option maxRecDepth 100000 in
set_option maxHeartbeats 1000000 in
theorem bitsOps_walk (v0 : Value) (l0 : List Int) (v1 : Value) (l1 : List Int) (w : World) (h0 : IntsV w v0 l0) (h1 : IntsV w v1 l1) (hT : TabAt 0 Lib.deBruijn64tab w) :
    Calls Tryd.prog 4 #[v0, v1] w fun e w' => e = .returned (.bool true) ∧ Below w.heap.size w w' := by
  have HT := Lib.hid hT
  have HA := Lib.hid h0
  have HB := Lib.hid h1
  clear hT h0 h1
  obtain ⟨i0, hi, hz0, hz1, hz2⟩ := info_parts Tryd.infoInt'
  go_enter Tryd.func4, Tryd.ntmps4
  go_wp2_with fail
  refine (bitsWakes_any _ HT.out).mono ?_
  rintro e w2 ⟨rfl, hbw⟩
  go_wp2_with fail
  refine (cutInts_any v0 l0 60 _ (HA.out.below hbw) (by omega)).mono ?_
  rintro e w3 ⟨⟨⟨va, rfl, hva⟩, _⟩, rfl⟩
  have hla := cutL_le l0 60
  generalize cutL l0 60 = a at hva hla
  have HA2 := Lib.hid hva
  clear hva HA
  go_wp2_with fail
  refine (cutInts_any v1 l1 60 _ (HB.out.below hbw) (by omega)).mono ?_
  rintro e w3 ⟨⟨⟨vb, rfl, hvb⟩, _⟩, rfl⟩
  have hlb := cutL_le l1 60
  generalize cutL l1 60 = b at hvb hlb
  have HB2 := Lib.hid hvb
  clear hvb HB
  go_wp2_with fail
  refine (set_any va a _ HA2.out (by omega)).mono ?_
  rintro e w3 ⟨⟨vp, rfl, hvp⟩, hb3⟩
  have HA3 := Lib.hid (HA2.out.below hb3)
  have HB3 := Lib.hid (HB2.out.below hb3)
  have HP := Lib.hid hvp
  replace hbw := hbw.trans (hb3.mono hbw.size)
  clear hb3 hvp HA2 HB2
  go_wp2_with fail
  refine (set_any vb b _ HB3.out (by omega)).mono ?_
  rintro e w4 ⟨⟨vq, rfl, hvq⟩, hb3⟩
  have HA4 := Lib.hid (HA3.out.below hb3)
  have HB4 := Lib.hid (HB3.out.below hb3)
  have HP4 := Lib.hid (HP.out.below hb3)
  have HQ := Lib.hid hvq
  replace hbw := hbw.trans (hb3.mono hbw.size)
  clear hb3 hvq HA3 HB3 HP
  go_wp2_with fail
  refine (of_any va a _ HA4.out).mono ?_
  rintro e w5 ⟨rfl, hb3⟩
  have HA5 := Lib.hid (HA4.out.below hb3)
  have HB5 := Lib.hid (HB4.out.below hb3)
  have HP5 := Lib.hid (HP4.out.below hb3)
  have HQ5 := Lib.hid (HQ.out.below hb3)
  replace hbw := hbw.trans (hb3.mono hbw.size)
  clear hb3 HA4 HB4 HP4 HQ
  go_wp2_with fail
  refine (of_any vb b _ HB5.out).mono ?_
  rintro e w6 ⟨rfl, hb3⟩
  have HA6 := Lib.hid (HA5.out.below hb3)
  have HB6 := Lib.hid (HB5.out.below hb3)
  have HP6 := Lib.hid (HP5.out.below hb3)
  have HQ6 := Lib.hid (HQ5.out.below hb3)
  replace hbw := hbw.trans (hb3.mono hbw.size)
  clear hb3 HA5 HB5 HP5 HQ5
  have hx16 := Lib.hid (ofS_length a)
  have hx64 := Lib.hid (ofS_lt a)
  have hy16 := Lib.hid (ofS_length b)
  have hy64 := Lib.hid (ofS_lt b)
  have HOR := Lib.hid (or_set a b)
  have HEQ := Lib.hid (eq_set _ _ hx16.out hy16.out hx64.out hy64.out)
  have HAND := Lib.hid (and_set _ _ hx16.out hy16.out)
  have HWO := Lib.hid (without_set _ _ hx16.out hy16.out)
  have hpl : (membersS (ofS a)).length ≤ 1024 := by rw [membersS_eq]; exact flat_length _ 16
  have hql : (membersS (ofS b)).length ≤ 1024 := by rw [membersS_eq]; exact flat_length _ 16
  have HMP := Lib.hid (rfl : membersS (ofS a) = membersS (ofS a))
  have HMQ := Lib.hid (rfl : membersS (ofS b) = membersS (ofS b))
  generalize hp : membersS (ofS a) = p at HP6 HEQ HAND HWO hpl HMP
  generalize hq : membersS (ofS b) = q at HQ6 HEQ HAND HWO hql HMQ
  have HHP := Lib.hid hp
  have HHQ := Lib.hid hq
  clear hp hq HMP HMQ
  generalize ofS a = x at hx16 hx64 HHP HOR HEQ HAND HWO
  generalize ofS b = y at hy16 hy64 HHQ HOR HEQ HAND HWO
  go_wp2_with (first
    | (refine wpList_store_row rfl 29 _ _ rfl w6.heap.size (setA x) rfl rfl 29 (setA noWords) (heap_alloc2_old w6 _ _) (setInfo_of x hx16.out) (by rw [setA_size, setA_size, hx16.out]; rfl) (setA_one _) ?_)
    | (refine wpList_store_row rfl 29 _ _ rfl (w6.heap.size + 1) (setA y) rfl rfl 29 (setA noWords) (boxes_mid w6 _ _ x) (setInfo_of y hy16.out) (by rw [setA_size, setA_size, hy16.out]; rfl) (setA_one _) ?_))
  obtain ⟨pa, pn, pc, rfl, hpn, hpnc, hpcc, hpx⟩ := HP6.out.open
  have hpn1 : pn ≤ 1024 := by rw [hpn.out]; exact hpl
  clear hpl
  go_loopw [9, 10, 11] (fun va vo i wr => ∃ (k : Nat) (A O : List Int), k ≤ pn ∧ i = .int .i64 k ∧ Hid (A = (p.take k).filter (fun n => decide (n ∈ q))) ∧ Hid (O = (p.take k).filter (fun n => !decide (n ∈ q))) ∧ A.length ≤ k ∧ O.length ≤ k ∧ Hid (Two (w6.heap.size + 2) wr va vo A O) ∧
    Hid (wr.heap[w6.heap.size]? = some (.cells (setA x) 29 (0, 0))) ∧ Hid (wr.heap[w6.heap.size + 1]? = some (.cells (setA y) 29 (0, 0))) ∧ Below w6.heap.size w6 wr ∧ w6.heap.size + 2 ≤ wr.heap.size) (fun _ _ i _ => pn - (intOf i).toNat)
  case atStart => exact ⟨0, [], [], Nat.zero_le _, rfl, Lib.hid rfl, Lib.hid rfl, Nat.le_refl _, Nat.le_refl _, Lib.hid (Two.nil _ _), Lib.hid (boxes_lo w6 _ _ x y), Lib.hid (boxes_hi w6 _ _ x y), boxes_below w6 _ _ x y, Nat.le_of_eq (boxes_size w6 _ _ x y).symm⟩
  case round =>
    obtain ⟨k, A, O, hk, rfl, hA, hO, hAl, hOl, hT2, hB1, hB2, hb, hsz⟩ := hrel
    by_cases hlt : k < pn
    · obtain ⟨b1, o1, rfl, c0⟩ := hpx.out k hlt
      have c1 : wr.cell? ⟨b1, o1 + k, none⟩ = some (.int .i64 (p.getD k 0)) := by rw [hb.cell (World.block_lt_of_cell? _ _ c0)]; exact c0
      clear c0
      have hfa := Lib.hid (filter_snoc (fun n => decide (n ∈ q)) p k (by have := hpn.out; omega))
      have hfo := Lib.hid (filter_snoc (fun n => !decide (n ∈ q)) p k (by have := hpn.out; omega))
      generalize p.getD k 0 = z at c1 hfa hfo
      go_wp2_with (fail)
      refine (zhas_any _ q z _ (HQ6.out.below hb)).mono ?_
      rintro e w7 ⟨rfl, rfl⟩
      by_cases hz : z ∈ q
      · have hzb : decide (z ∈ q) = true := decide_eq_true hz
        have hA' : Hid ((p.take (k + 1)).filter (fun n => decide (n ∈ q)) = A ++ [z]) := Lib.hid (by rw [hfa.out, ← hA.out]; simp [hz])
        have hO' : Hid ((p.take (k + 1)).filter (fun n => !decide (n ∈ q)) = O) := Lib.hid (by rw [hfo.out, ← hO.out]; simp [hz])
        clear hfa hfo hz
        rw [hzb]
        go_wp2_with (first | (at_builtin; refine wpList_append_own_at _ rfl _ _ 22 rfl (w6.heap.size + 2) 3 i0 (.int .i64 0) 1 8 Tryd.underlying22 hi hz0 hz1 hz2 rfl (by decide) _ _ _ rfl (hT2.out.1.alloc _) ⟨wr.heap.size, 0, none⟩ 1 1 [.int .i64 z] rfl rfl (cell_one_new _ _ _) ?c2 ?c3 ?c4 ?c5 ?_))
        case c2 => exact ints_one [z]
        case c3 => unfold maxLen; omega
        case c4 => omega
        case c5 => simp; omega
        intro va' w8 hown' hgrow _ hloc
        have hT3 := Lib.hid (hT2.out.grow _ hown' hgrow hloc)
        have hbl : Below (w6.heap.size + 2) wr w8 := ((Below.refl _ _).alloc hsz _).grown hgrow (by simp; omega) (own_base hT2.out.1 (Nat.le_refl _))
        have hb1' := Lib.hid (block_below hB1.out hbl (by omega))
        have hb2' := Lib.hid (block_below hB2.out hbl (by omega))
        have hb' := hb.trans (hbl.mono (by omega))
        have hsz' : w6.heap.size + 2 ≤ w8.heap.size := Nat.le_trans hsz (Nat.le_trans (by simp) (grown_size hgrow))
        clear hown' hgrow hloc hbl hT2
        go_wp2_with (fail)
        go_roundw
        case rel => exact ⟨k + 1, A ++ [z], O, by omega, by go_num, Lib.hid hA'.out.symm, Lib.hid hO'.out.symm, by simp; omega, by omega, hT3, hb1', hb2', hb', hsz'⟩
        case measure => simp [intOf]; omega
      · have hzb : decide (z ∈ q) = false := decide_eq_false hz
        have hA' : Hid ((p.take (k + 1)).filter (fun n => decide (n ∈ q)) = A) := Lib.hid (by rw [hfa.out, ← hA.out]; simp [hz])
        have hO' : Hid ((p.take (k + 1)).filter (fun n => !decide (n ∈ q)) = O ++ [z]) := Lib.hid (by rw [hfo.out, ← hO.out]; simp [hz])
        clear hfa hfo hz
        rw [hzb]
        go_wp2_with (first | (at_builtin; refine wpList_append_own_at _ rfl _ _ 22 rfl (w6.heap.size + 2) 3 i0 (.int .i64 0) 1 8 Tryd.underlying22 hi hz0 hz1 hz2 rfl (by decide) _ _ _ rfl (hT2.out.2.1.alloc _) ⟨wr.heap.size, 0, none⟩ 1 1 [.int .i64 z] rfl rfl (cell_one_new _ _ _) ?c2 ?c3 ?c4 ?c5 ?_))
        case c2 => exact ints_one [z]
        case c3 => unfold maxLen; omega
        case c4 => omega
        case c5 => simp; omega
        intro va' w8 hown' hgrow _ hloc
        have hT3 := Lib.hid (hT2.out.swap.grow _ hown' hgrow hloc).swap
        have hbl : Below (w6.heap.size + 2) wr w8 := ((Below.refl _ _).alloc hsz _).grown hgrow (by simp; omega) (own_base hT2.out.2.1 (Nat.le_refl _))
        have hb1' := Lib.hid (block_below hB1.out hbl (by omega))
        have hb2' := Lib.hid (block_below hB2.out hbl (by omega))
        have hb' := hb.trans (hbl.mono (by omega))
        have hsz' : w6.heap.size + 2 ≤ w8.heap.size := Nat.le_trans hsz (Nat.le_trans (by simp) (grown_size hgrow))
        clear hown' hgrow hloc hbl hT2
        go_wp2_with (fail)
        go_roundw
        case rel => exact ⟨k + 1, A, O ++ [z], by omega, by go_num, Lib.hid hA'.out.symm, Lib.hid hO'.out.symm, by omega, by simp; omega, hT3, hb1', hb2', hb', hsz'⟩
        case measure => simp [intOf]; omega
    · obtain rfl : k = pn := by omega
      have hA2 : Hid (A = p.filter (fun n => decide (n ∈ q))) := Lib.hid (by rw [hA.out, List.take_of_length_le (by have := hpn.out; omega)])
      have hO2 : Hid (O = p.filter (fun n => !decide (n ∈ q))) := Lib.hid (by rw [hO.out, List.take_of_length_le (by have := hpn.out; omega)])
      have HAo := Lib.hid (IntsV.of_owns hT2.out.1)
      have HOo := Lib.hid (IntsV.of_owns hT2.out.2.1)
      have srcA : ∀ W, SrcV (wr.alloc W) va a.length (a.map (.int .i64)) := fun W => SrcV.of_ints ((HA6.out.below hb).below ((Below.refl _ _).alloc (Nat.le_refl _) _))
      have srcB : ∀ W, Below wr.heap.size wr W → SrcV W vb b.length (b.map (.int .i64)) := fun W hW => SrcV.of_ints ((HB6.out.below hb).below hW)
      clear hA hO hT2
      go_wp2_with (first
        | (at_builtin; refine wpList_append_src rfl (.tmp 53) (.tmp 54) 22 rfl wr.heap.size 3 i0 (.int .i64 0) 1 8 Tryd.underlying22 hi hz0 hz1 hz2 rfl (by decide) _ 0 [] rfl (owns_empty wr _) va a.length (a.map (.int .i64)) rfl (srcA _) (by simp) (ints_one _) (by unfold maxLen; omega) (by omega) (by simp) ?_; intro v1 w7 hown1 hgrow1; have hbl1 : Below wr.heap.size wr w7 := ((Below.refl _ _).alloc (Nat.le_refl _) _).grown hgrow1 (by simp) (by intro k hk; cases hk; exact Nat.le_refl _))
        | (at_builtin; refine wpList_append_src rfl (.tmp 55) (.tmp 56) 22 rfl wr.heap.size 3 i0 (.int .i64 0) 1 8 Tryd.underlying22 hi hz0 hz1 hz2 rfl (by decide) v1 _ _ rfl hown1 vb b.length (b.map (.int .i64)) rfl (srcB _ hbl1) (by simp) (ints_one _) (by unfold maxLen; omega) (by omega) hbl1.size ?_; intro v2 w8 hown2 hgrow2))
      have hbl2 : Below wr.heap.size wr w8 := hbl1.grown hgrow2 hbl1.size (own_base hown1 (Nat.le_refl _))
      have hr2 : IntsV w8 v2 (a ++ b) := IntsV.of_owns (e := 3) (base := wr.heap.size) (by simpa using hown2)
      clear hown1 hown2 hgrow1 hgrow2 hbl1
      refine (set_any v2 (a ++ b) _ hr2 (by simp; omega)).mono ?_
      rintro e w9 ⟨⟨vr, rfl, hvr⟩, hb3⟩
      have hb9 : Below wr.heap.size wr w9 := hbl2.trans (hb3.mono hbl2.size)
      have h69 : Below w6.heap.size w6 w9 := hb.trans (hb9.mono hb.size)
      have hI : Hid (OpsInv w6 w6.heap.size x y (.slice pa k pc) vq _ _ vr p q A O (membersS (ofS (a ++ b))) w9) := Lib.hid ⟨block_below hB1.out hb9 (by omega), block_below hB2.out hb9 (by omega), HP6.out.below h69, HQ6.out.below h69, HAo.out.below hb9, HOo.out.below hb9, hvr, tab_below HT.out (hbw.trans (h69.mono hbw.size)) (tab_lt HT.out), h69⟩
      clear hb3 hb9 h69 hbl2 hr2 hvr srcA srcB HAo HOo hB1 hB2
      rw [hA2.out, hO2.out] at hI
      go_wp2_with (first
        | (refine wpList_load_row rfl 29 _ rfl (w6.heap.size) rfl 29 (setA x) (0, 0) _ hI.out.1 Tryd.underlying29 rfl (setInfo_of x hx16.out) ?_)
        | (refine wpList_load_row_g rfl 29 _ rfl (w6.heap.size) rfl 29 (setA x) (0, 0) _ hI.out.1 Tryd.underlying29 rfl (setInfo_of x hx16.out) ?_)
        | (refine wpList_load_row rfl 29 _ rfl (w6.heap.size + 1) rfl 29 (setA y) (0, 0) _ hI.out.2.1 Tryd.underlying29 rfl (setInfo_of y hy16.out) ?_)
        | (refine wpList_load_row_g rfl 29 _ rfl (w6.heap.size + 1) rfl 29 (setA y) (0, 0) _ hI.out.2.1 Tryd.underlying29 rfl (setInfo_of y hy16.out) ?_))
      refine (or_any x y _ hx16.out hy16.out hx64.out hy64.out).mono ?_
      rintro e w11 ⟨rfl, hb3⟩
      replace hI := Lib.hid (hI.out.below hb3)
      clear hb3
      go_wp2_with (first
        | (refine wpList_load_row rfl 29 _ rfl (w6.heap.size) rfl 29 (setA x) (0, 0) _ hI.out.1 Tryd.underlying29 rfl (setInfo_of x hx16.out) ?_)
        | (refine wpList_load_row_g rfl 29 _ rfl (w6.heap.size) rfl 29 (setA x) (0, 0) _ hI.out.1 Tryd.underlying29 rfl (setInfo_of x hx16.out) ?_)
        | (refine wpList_load_row rfl 29 _ rfl (w6.heap.size + 1) rfl 29 (setA y) (0, 0) _ hI.out.2.1 Tryd.underlying29 rfl (setInfo_of y hy16.out) ?_)
        | (refine wpList_load_row_g rfl 29 _ rfl (w6.heap.size + 1) rfl 29 (setA y) (0, 0) _ hI.out.2.1 Tryd.underlying29 rfl (setInfo_of y hy16.out) ?_))
      refine (list_any (List.zipWith (· ||| ·) x y) _ (by rw [List.length_zipWith, hx16.out, hy16.out]; rfl) (zip_lt (fun u v hu hv => Nat.or_lt_two_pow hu hv) hx64.out hy64.out) hI.out.2.2.2.2.2.2.2.1).mono ?_
      rintro e w12 ⟨vlw12, rfl, hown, hb3⟩
      have HLw12 := Lib.hid (IntsV.of_owns hown)
      replace hI := Lib.hid (hI.out.below hb3)
      clear hb3 hown
      go_wp2_with fail
      refine (eqInts_any _ _ _ _ _ HLw12.out hI.out.2.2.2.2.2.2.1).mono ?_
      rintro e w13 ⟨rfl, hb3⟩
      rw [HOR.out, beq_self_eq_true]
      replace hI := Lib.hid (hI.out.below hb3)
      clear hb3
      go_wp2_with (first
        | (refine wpList_load_row rfl 29 _ rfl (w6.heap.size) rfl 29 (setA x) (0, 0) _ hI.out.1 Tryd.underlying29 rfl (setInfo_of x hx16.out) ?_)
        | (refine wpList_load_row_g rfl 29 _ rfl (w6.heap.size) rfl 29 (setA x) (0, 0) _ hI.out.1 Tryd.underlying29 rfl (setInfo_of x hx16.out) ?_)
        | (refine wpList_load_row rfl 29 _ rfl (w6.heap.size + 1) rfl 29 (setA y) (0, 0) _ hI.out.2.1 Tryd.underlying29 rfl (setInfo_of y hy16.out) ?_)
        | (refine wpList_load_row_g rfl 29 _ rfl (w6.heap.size + 1) rfl 29 (setA y) (0, 0) _ hI.out.2.1 Tryd.underlying29 rfl (setInfo_of y hy16.out) ?_))
      refine (and_any x y _ hx16.out hy16.out hx64.out hy64.out).mono ?_
      rintro e w14 ⟨rfl, hb3⟩
      replace hI := Lib.hid (hI.out.below hb3)
      clear hb3
      go_wp2_with (first
        | (refine wpList_load_row rfl 29 _ rfl (w6.heap.size) rfl 29 (setA x) (0, 0) _ hI.out.1 Tryd.underlying29 rfl (setInfo_of x hx16.out) ?_)
        | (refine wpList_load_row_g rfl 29 _ rfl (w6.heap.size) rfl 29 (setA x) (0, 0) _ hI.out.1 Tryd.underlying29 rfl (setInfo_of x hx16.out) ?_)
        | (refine wpList_load_row rfl 29 _ rfl (w6.heap.size + 1) rfl 29 (setA y) (0, 0) _ hI.out.2.1 Tryd.underlying29 rfl (setInfo_of y hy16.out) ?_)
        | (refine wpList_load_row_g rfl 29 _ rfl (w6.heap.size + 1) rfl 29 (setA y) (0, 0) _ hI.out.2.1 Tryd.underlying29 rfl (setInfo_of y hy16.out) ?_))
      refine (list_any (List.zipWith (· &&& ·) x y) _ (by rw [List.length_zipWith, hx16.out, hy16.out]; rfl) (zip_lt (fun u v hu hv => Nat.and_lt_two_pow u hv) hx64.out hy64.out) hI.out.2.2.2.2.2.2.2.1).mono ?_
      rintro e w15 ⟨vlw15, rfl, hown, hb3⟩
      have HLw15 := Lib.hid (IntsV.of_owns hown)
      replace hI := Lib.hid (hI.out.below hb3)
      clear hb3 hown
      go_wp2_with fail
      refine (eqInts_any _ _ _ _ _ HLw15.out hI.out.2.2.2.2.1).mono ?_
      rintro e w16 ⟨rfl, hb3⟩
      rw [HAND.out, beq_self_eq_true]
      replace hI := Lib.hid (hI.out.below hb3)
      clear hb3
      go_wp2_with (first
        | (refine wpList_load_row rfl 29 _ rfl (w6.heap.size) rfl 29 (setA x) (0, 0) _ hI.out.1 Tryd.underlying29 rfl (setInfo_of x hx16.out) ?_)
        | (refine wpList_load_row_g rfl 29 _ rfl (w6.heap.size) rfl 29 (setA x) (0, 0) _ hI.out.1 Tryd.underlying29 rfl (setInfo_of x hx16.out) ?_)
        | (refine wpList_load_row rfl 29 _ rfl (w6.heap.size + 1) rfl 29 (setA y) (0, 0) _ hI.out.2.1 Tryd.underlying29 rfl (setInfo_of y hy16.out) ?_)
        | (refine wpList_load_row_g rfl 29 _ rfl (w6.heap.size + 1) rfl 29 (setA y) (0, 0) _ hI.out.2.1 Tryd.underlying29 rfl (setInfo_of y hy16.out) ?_))
      refine (without_any x y _ hx16.out hy16.out hx64.out hy64.out).mono ?_
      rintro e w17 ⟨rfl, hb3⟩
      replace hI := Lib.hid (hI.out.below hb3)
      clear hb3
      go_wp2_with (first
        | (refine wpList_load_row rfl 29 _ rfl (w6.heap.size) rfl 29 (setA x) (0, 0) _ hI.out.1 Tryd.underlying29 rfl (setInfo_of x hx16.out) ?_)
        | (refine wpList_load_row_g rfl 29 _ rfl (w6.heap.size) rfl 29 (setA x) (0, 0) _ hI.out.1 Tryd.underlying29 rfl (setInfo_of x hx16.out) ?_)
        | (refine wpList_load_row rfl 29 _ rfl (w6.heap.size + 1) rfl 29 (setA y) (0, 0) _ hI.out.2.1 Tryd.underlying29 rfl (setInfo_of y hy16.out) ?_)
        | (refine wpList_load_row_g rfl 29 _ rfl (w6.heap.size + 1) rfl 29 (setA y) (0, 0) _ hI.out.2.1 Tryd.underlying29 rfl (setInfo_of y hy16.out) ?_))
      refine (list_any (List.zipWith (fun a b => a ^^^ (a &&& b)) x y) _ (by rw [List.length_zipWith, hx16.out, hy16.out]; rfl) (zip_lt (fun u v hu hv => Nat.xor_lt_two_pow hu (Nat.and_lt_two_pow u hv)) hx64.out hy64.out) hI.out.2.2.2.2.2.2.2.1).mono ?_
      rintro e w18 ⟨vlw18, rfl, hown, hb3⟩
      have HLw18 := Lib.hid (IntsV.of_owns hown)
      replace hI := Lib.hid (hI.out.below hb3)
      clear hb3 hown
      go_wp2_with fail
      refine (eqInts_any _ _ _ _ _ HLw18.out hI.out.2.2.2.2.2.1).mono ?_
      rintro e w19 ⟨rfl, hb3⟩
      rw [HWO.out, beq_self_eq_true]
      replace hI := Lib.hid (hI.out.below hb3)
      clear hb3
      go_wp2_with (first
        | (refine wpList_load_row rfl 29 _ rfl (w6.heap.size) rfl 29 (setA x) (0, 0) _ hI.out.1 Tryd.underlying29 rfl (setInfo_of x hx16.out) ?_)
        | (refine wpList_load_row_g rfl 29 _ rfl (w6.heap.size) rfl 29 (setA x) (0, 0) _ hI.out.1 Tryd.underlying29 rfl (setInfo_of x hx16.out) ?_)
        | (refine wpList_load_row rfl 29 _ rfl (w6.heap.size + 1) rfl 29 (setA y) (0, 0) _ hI.out.2.1 Tryd.underlying29 rfl (setInfo_of y hy16.out) ?_)
        | (refine wpList_load_row_g rfl 29 _ rfl (w6.heap.size + 1) rfl 29 (setA y) (0, 0) _ hI.out.2.1 Tryd.underlying29 rfl (setInfo_of y hy16.out) ?_))
      refine (eq_any x y _ hx16.out hy16.out).mono ?_
      rintro e w20 ⟨rfl, hb3⟩
      replace hI := Lib.hid (hI.out.below hb3)
      clear hb3
      go_wp2_with fail
      refine (eqInts_any _ _ _ _ _ hI.out.2.2.1 hI.out.2.2.2.1).mono ?_
      rintro e w21 ⟨rfl, hb3⟩
      rw [HEQ.out]
      replace hI := Lib.hid (hI.out.below hb3)
      clear hb3
      have hself : ((p == q) == (p == q)) = true := by simp
      generalize (p == q) = pq at hself
      go_wp2_with (first
        | (refine wpList_load_row rfl 29 _ rfl (w6.heap.size) rfl 29 (setA x) (0, 0) _ hI.out.1 Tryd.underlying29 rfl (setInfo_of x hx16.out) ?_)
        | (refine wpList_load_row_g rfl 29 _ rfl (w6.heap.size) rfl 29 (setA x) (0, 0) _ hI.out.1 Tryd.underlying29 rfl (setInfo_of x hx16.out) ?_)
        | (refine wpList_load_row rfl 29 _ rfl (w6.heap.size + 1) rfl 29 (setA y) (0, 0) _ hI.out.2.1 Tryd.underlying29 rfl (setInfo_of y hy16.out) ?_)
        | (refine wpList_load_row_g rfl 29 _ rfl (w6.heap.size + 1) rfl 29 (setA y) (0, 0) _ hI.out.2.1 Tryd.underlying29 rfl (setInfo_of y hy16.out) ?_))
      refine (list_any x _ hx16.out hx64.out hI.out.2.2.2.2.2.2.2.1).mono ?_
      rintro e w22 ⟨vlw22, rfl, hown, hb3⟩
      have HLw22 := Lib.hid (IntsV.of_owns hown)
      replace hI := Lib.hid (hI.out.below hb3)
      clear hb3 hown
      go_wp2_with fail
      refine (eqInts_any _ _ _ _ _ HLw22.out hI.out.2.2.1).mono ?_
      rintro e w23 ⟨rfl, hb3⟩
      rw [HHP.out, beq_self_eq_true]
      replace hI := Lib.hid (hI.out.below hb3)
      clear hb3
      go_wp2_with (first
        | (refine wpList_load_row rfl 29 _ rfl (w6.heap.size) rfl 29 (setA x) (0, 0) _ hI.out.1 Tryd.underlying29 rfl (setInfo_of x hx16.out) ?_)
        | (refine wpList_load_row_g rfl 29 _ rfl (w6.heap.size) rfl 29 (setA x) (0, 0) _ hI.out.1 Tryd.underlying29 rfl (setInfo_of x hx16.out) ?_)
        | (refine wpList_load_row rfl 29 _ rfl (w6.heap.size + 1) rfl 29 (setA y) (0, 0) _ hI.out.2.1 Tryd.underlying29 rfl (setInfo_of y hy16.out) ?_)
        | (refine wpList_load_row_g rfl 29 _ rfl (w6.heap.size + 1) rfl 29 (setA y) (0, 0) _ hI.out.2.1 Tryd.underlying29 rfl (setInfo_of y hy16.out) ?_))
      refine (list_any y _ hy16.out hy64.out hI.out.2.2.2.2.2.2.2.1).mono ?_
      rintro e w24 ⟨vlw24, rfl, hown, hb3⟩
      have HLw24 := Lib.hid (IntsV.of_owns hown)
      replace hI := Lib.hid (hI.out.below hb3)
      clear hb3 hown
      go_wp2_with fail
      refine (eqInts_any _ _ _ _ _ HLw24.out hI.out.2.2.2.1).mono ?_
      rintro e w25 ⟨rfl, hb3⟩
      rw [HHQ.out, beq_self_eq_true]
      replace hI := Lib.hid (hI.out.below hb3)
      clear hb3
      go_wp2_with fail
      go_ret
      exact ⟨rfl, hbw.trans (hI.out.2.2.2.2.2.2.2.2.mono hbw.size)⟩

end Go.Proofs.YtijnekbhpdcemaaDoor
